/- The walks of the laws GrammarKinds, GrammarNodes, GrammarChecks. -/
import Derived.Test.YtmfmlkdojgbhfaaDoorWalkAwake
namespace Go.Proofs.YtmfmlkdojgbhfaaDoor
open Go.RowKit
set_option linter.unusedVariables false
set_option linter.unusedSimpArgs false

theorem beq_self_int (x : Int) : (x == x) = true := by simp
set_option maxHeartbeats 1600000 in
theorem lawKinds (p q k : Int) (w : World) (hT : Tabs w) :
    Calls Tryd.prog 5 #[.int .i64 p, .int .i64 q, .int .i64 k] w fun e w' => e = .returned (.bool true) ∧ Below w.heap.size w w' := by
  obtain ⟨b, hb⟩ : ∃ b, b = Pl.fits p q k := ⟨_, rfl⟩
  obtain ⟨c, hc⟩ : ∃ c, c = decide (k = 1 ∨ k = 7) := ⟨_, rfl⟩
  obtain ⟨g, hg⟩ : ∃ g, g = Pl.grp k := ⟨_, rfl⟩
  have C1 := Lib.hid (fits_is p q k b hb.symm w hT)
  have C2 := Lib.hid (rfits_is p q k b hb.symm w)
  have C3 : Hid (Calls Tryd.prog 19 #[.int .i64 k] w fun e w' => e = .returned (.bool c) ∧ w = w') := Lib.hid (hc ▸ free_any k w)
  have C4 : Hid (Calls Tryd.prog 20 #[.int .i64 k] w fun e w' => e = .returned (.bool c) ∧ w = w') := Lib.hid (hc ▸ rfree_any k w)
  have C5 := Lib.hid (group_is k g hg.symm w hT)
  have C6 := Lib.hid (rgroup_is k g hg.symm w)
  have C7 := Lib.hid (awake_any w hT)
  have hbb : (b == b) = true := by cases b <;> rfl
  have hcc : (c == c) = true := by cases c <;> rfl
  have hgg : (g == g) = true := by simp
  clear hT hb hc hg
  go_enter Tryd.func5, Tryd.ntmps5
  go_wp2_with (first
    | (go_at_call 17; refine C1.out.mono ?_; rintro e w' ⟨rfl, rfl⟩)
    | (go_at_call 18; refine C2.out.mono ?_; rintro e w' ⟨rfl, rfl⟩)
    | (go_at_call 19; refine C3.out.mono ?_; rintro e w' ⟨rfl, rfl⟩)
    | (go_at_call 20; refine C4.out.mono ?_; rintro e w' ⟨rfl, rfl⟩)
    | (go_at_call 21; refine C5.out.mono ?_; rintro e w' ⟨rfl, rfl⟩)
    | (go_at_call 22; refine C6.out.mono ?_; rintro e w' ⟨rfl, rfl⟩)
    | (go_at_call 12; refine C7.out.mono ?_; rintro e w9 ⟨rfl, hb9⟩; have B9 := Lib.hid hb9; clear hb9))
  go_ret
  exact ⟨rfl, B9.out⟩

/-- A node among a law's arguments, boxed: the world behind the box. -/
theorem box_pack (t : Pl.Tr) (r : Sl) (w W : World) (hW : W = w.alloc (.cells #[.int .i64 t.kind, .string t.text, .slice r.ga t.gaps.length r.gc, .slice r.da t.kids.length r.dc] 25)) :
    At4 W w.heap.size 0 t.kind t.text (.slice r.ga t.gaps.length r.gc) (.slice r.da t.kids.length r.dc) ∧ Below w.heap.size w W ∧ w.heap.size < W.heap.size := by
  subst hW
  exact ⟨box_at t r w, box_below _ _, by simp⟩
set_option maxHeartbeats 1600000 in
theorem lawNodes (t : Pl.Tr) (r : Sl) (w : World) (hT : Tabs w) (h : IsT w t r) (hm : t.kids.length ≤ maxLen) :
    Calls Tryd.prog 4 #[.agg #[.int .i64 t.kind, .string t.text, .slice r.ga t.gaps.length r.gc, .slice r.da t.kids.length r.dc]] w fun e w' => e = .returned (.bool true) ∧ Below w.heap.size w w' := by
  obtain ⟨W, hW⟩ : ∃ W, W = w.alloc (.cells #[.int .i64 t.kind, .string t.text, .slice r.ga t.gaps.length r.gc, .slice r.da t.kids.length r.dc] 25) := ⟨_, rfl⟩
  obtain ⟨hA, hB, hS⟩ := box_pack t r w W hW
  have HTW := Lib.hid (hT.later hB)
  obtain ⟨o, ho⟩ : ∃ o, o = Pl.own t.kind t.text t.kids.length := ⟨_, rfl⟩
  obtain ⟨v, hv⟩ : ∃ v, v = Pl.lv t.kind t.text := ⟨_, rfl⟩
  have A1 := Lib.hid hA
  have B1 := Lib.hid hB
  have S1 := Lib.hid hS
  have HWE := Lib.hid hW
  have C1 : ∀ z : Later W, Calls Tryd.prog 13 #[.agg #[.int .i64 t.kind, .string t.text, .slice r.ga t.gaps.length r.gc, .slice r.da t.kids.length r.dc]] z.u fun e w'' => e = .returned (.int .i64 o) ∧ ∃ y : Later W, w'' = y.u :=
    fun z => (own_is _ _ o _ _ _ _ _ _ z.u ho.symm (HTW.out.later z.h) hm).mono fun e w'' ⟨he, hw⟩ => ⟨he, ⟨w'', z.h.trans (hw.mono z.h.size)⟩, rfl⟩
  have C2 : ∀ z : Later W, Calls Tryd.prog 14 #[.agg #[.int .i64 t.kind, .string t.text, .slice r.ga t.gaps.length r.gc, .slice r.da t.kids.length r.dc]] z.u fun e w'' => e = .returned (.int .i64 o) ∧ ∃ y : Later W, w'' = y.u :=
    fun z => (rown_is _ _ o _ _ _ _ _ _ z.u ho.symm hm).mono fun e w'' ⟨he, hw⟩ => ⟨he, ⟨w'', z.h.trans (hw.mono z.h.size)⟩, rfl⟩
  have C3 : ∀ z : Later W, Calls Tryd.prog 15 #[.agg #[.int .i64 t.kind, .string t.text, .slice r.ga t.gaps.length r.gc, .slice r.da t.kids.length r.dc]] z.u fun e w'' => e = .returned (.int .i64 v) ∧ ∃ y : Later W, w'' = y.u :=
    fun z => (level_is _ _ v hv.symm _ _ _ _ _ _ z.u (HTW.out.later z.h)).mono fun e w'' ⟨he, hw⟩ => ⟨he, ⟨w'', z.h.trans (hw.mono z.h.size)⟩, rfl⟩
  have C4 : ∀ z : Later W, Calls Tryd.prog 16 #[.agg #[.int .i64 t.kind, .string t.text, .slice r.ga t.gaps.length r.gc, .slice r.da t.kids.length r.dc]] z.u fun e w'' => e = .returned (.int .i64 v) ∧ ∃ y : Later W, w'' = y.u :=
    fun z => (rlevel_is _ _ v hv.symm _ _ _ _ _ _ z.u).mono fun e w'' ⟨he, hw⟩ => ⟨he, ⟨w'', z.h.trans (hw.mono z.h.size)⟩, rfl⟩
  have C5 : ∀ z : Later W, Calls Tryd.prog 12 #[] z.u fun e w'' => e = .returned (.bool true) ∧ ∃ y : Later W, w'' = y.u :=
    fun z => (awake_any z.u (HTW.out.later z.h)).mono fun e w'' ⟨he, hw⟩ => ⟨he, ⟨w'', z.h.trans (hw.mono z.h.size)⟩, rfl⟩
  have hoo : (o == o) = true := by simp
  have hvv : (v == v) = true := by simp
  clear ho hv hA hB hS hW hT h hm
  generalize t.kind = k at *
  generalize t.text = s at *
  generalize t.gaps.length = n at *
  generalize t.kids.length = m at *
  obtain ⟨ga, gc, da, dc⟩ := r
  simp only at *
  go_enter Tryd.func4, Tryd.ntmps4
  go_wp2_with fail
  rw [← HWE.out]
  refine region_later (by kernel_rfl) (by kernel_rfl) ?_
  refine quiet_load (by rfl) 25 _ (by rfl) (.pointer (some ⟨w.heap.size, 0, none⟩)) _ (by rfl) (fun x hx => by obtain ⟨n, rfl⟩ := hx; exact (at4_later A1.out n).load) ?_
  simp only [Act.put, List.setIfInBounds_toArray, List.set_cons_succ, List.set_cons_zero]
  go_big_quiet_step (exact C1 _)
  refine quiet_load (by rfl) 25 _ (by rfl) (.pointer (some ⟨w.heap.size, 0, none⟩)) _ (by rfl) (fun x hx => by obtain ⟨n, rfl⟩ := hx; exact (at4_later A1.out n).load) ?_
  simp only [Act.put, List.setIfInBounds_toArray, List.set_cons_succ, List.set_cons_zero]
  go_big_quiet_step (exact C2 _)
  iterate 2 (go_big_quiet_step (fail))
  refine quiet_load (by rfl) 25 _ (by rfl) (.pointer (some ⟨w.heap.size, 0, none⟩)) _ (by rfl) (fun x hx => by obtain ⟨n, rfl⟩ := hx; exact (at4_later A1.out n).load) ?_
  simp only [Act.put, List.setIfInBounds_toArray, List.set_cons_succ, List.set_cons_zero]
  go_big_quiet_step (exact C3 _)
  refine quiet_load (by rfl) 25 _ (by rfl) (.pointer (some ⟨w.heap.size, 0, none⟩)) _ (by rfl) (fun x hx => by obtain ⟨n, rfl⟩ := hx; exact (at4_later A1.out n).load) ?_
  simp only [Act.put, List.setIfInBounds_toArray, List.set_cons_succ, List.set_cons_zero]
  go_big_quiet_step (exact C4 _)
  iterate 3 (go_big_quiet_step (fail))
  go_big_quiet_step (exact C5 _)
  iterate 2 (go_big_quiet_step (fail))
  refine wpQuiet_nil ?_
  intro _ hw'
  obtain ⟨n1, rfl⟩ := hw'
  go_wp2_with fail
  go_ret
  exact ⟨rfl, B1.out.trans (n1.h.mono (Nat.le_of_lt S1.out))⟩
theorem lawNodesN (t : Pl.Tr) (r : Sl) (w : World) (hT : Tabs w) (h : IsT w t r) :
    Calls Tryd.prog 4 #[.agg #[.int .i64 t.kind, .string t.text, .slice r.ga t.gaps.length r.gc, .slice r.da t.kids.length r.dc]] w fun e w' => e = .returned (.bool true) ∧ Below w.heap.size w w' :=
  lawNodes t r w hT h (by cases t with | node k s g ks => exact h.parts.2.2.1)
set_option maxHeartbeats 1600000 in
theorem lawChecks (t : Pl.Tr) (r : Sl) (w : World) (hT : Tabs w) (h : IsT w t r) (hz : Pl.sz t ≤ 1048576) :
    Calls Tryd.prog 3 #[.agg #[.int .i64 t.kind, .string t.text, .slice r.ga t.gaps.length r.gc, .slice r.da t.kids.length r.dc]] w fun e w' => e = .returned (.bool true) ∧ Below w.heap.size w w' := by
  obtain ⟨W, hW⟩ : ∃ W, W = w.alloc (.cells #[.int .i64 t.kind, .string t.text, .slice r.ga t.gaps.length r.gc, .slice r.da t.kids.length r.dc] 25) := ⟨_, rfl⟩
  obtain ⟨hA, hB, hS⟩ := box_pack t r w W hW
  have HTW := Lib.hid (hT.later hB)
  obtain ⟨v, hv⟩ : ∃ v, v = Pl.chk t := ⟨_, rfl⟩
  have hv2 : v = Pl.rchk t := hv.trans (Pl.chk_rchk t hz)
  have A1 := Lib.hid hA
  have B1 := Lib.hid hB
  have S1 := Lib.hid hS
  have HWE := Lib.hid hW
  have C1 : ∀ z : Later W, Calls Tryd.prog 10 #[.agg #[.int .i64 t.kind, .string t.text, .slice r.ga t.gaps.length r.gc, .slice r.da t.kids.length r.dc]] z.u fun e w'' => e = .returned (.int .i64 v) ∧ ∃ y : Later W, w'' = y.u :=
    fun z => (check_is t z.u r v hv.symm (HTW.out.later z.h) ((h.later hB).later z.h)).mono fun e w'' ⟨he, hw⟩ => ⟨he, ⟨w'', z.h.trans (hw.mono z.h.size)⟩, rfl⟩
  have C2 : ∀ z : Later W, Calls Tryd.prog 11 #[.agg #[.int .i64 t.kind, .string t.text, .slice r.ga t.gaps.length r.gc, .slice r.da t.kids.length r.dc]] z.u fun e w'' => e = .returned (.int .i64 v) ∧ ∃ y : Later W, w'' = y.u :=
    fun z => (rcheck_at t z.u r ((h.later hB).later z.h)).mono fun e w'' ⟨he, hw⟩ => ⟨by rw [he, hv2], ⟨w'', z.h.trans (hw.mono z.h.size)⟩, rfl⟩
  have C5 : ∀ z : Later W, Calls Tryd.prog 12 #[] z.u fun e w'' => e = .returned (.bool true) ∧ ∃ y : Later W, w'' = y.u :=
    fun z => (awake_any z.u (HTW.out.later z.h)).mono fun e w'' ⟨he, hw⟩ => ⟨he, ⟨w'', z.h.trans (hw.mono z.h.size)⟩, rfl⟩
  have hvv : (v == v) = true := by simp
  clear hv hv2 hA hB hS hW hT h hz
  generalize t.kind = k at *
  generalize t.text = s at *
  generalize t.gaps.length = n at *
  generalize t.kids.length = m at *
  obtain ⟨ga, gc, da, dc⟩ := r
  simp only at *
  go_enter Tryd.func3, Tryd.ntmps3
  go_wp2_with fail
  rw [← HWE.out]
  refine region_later (by kernel_rfl) (by kernel_rfl) ?_
  refine quiet_load (by rfl) 25 _ (by rfl) (.pointer (some ⟨w.heap.size, 0, none⟩)) _ (by rfl) (fun x hx => by obtain ⟨n, rfl⟩ := hx; exact (at4_later A1.out n).load) ?_
  simp only [Act.put, List.setIfInBounds_toArray, List.set_cons_succ, List.set_cons_zero]
  go_big_quiet_step (exact C1 _)
  refine quiet_load (by rfl) 25 _ (by rfl) (.pointer (some ⟨w.heap.size, 0, none⟩)) _ (by rfl) (fun x hx => by obtain ⟨n, rfl⟩ := hx; exact (at4_later A1.out n).load) ?_
  simp only [Act.put, List.setIfInBounds_toArray, List.set_cons_succ, List.set_cons_zero]
  go_big_quiet_step (exact C2 _)
  iterate 2 (go_big_quiet_step (fail))
  go_big_quiet_step (exact C5 _)
  iterate 2 (go_big_quiet_step (fail))
  refine wpQuiet_nil ?_
  intro _ hw'
  obtain ⟨n1, rfl⟩ := hw'
  go_wp2_with fail
  go_ret
  exact ⟨rfl, B1.out.trans (n1.h.mono (Nat.le_of_lt S1.out))⟩
end Go.Proofs.YtmfmlkdojgbhfaaDoor
