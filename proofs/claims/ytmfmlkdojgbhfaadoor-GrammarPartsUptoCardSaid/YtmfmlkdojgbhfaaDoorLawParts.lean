/- The walk of the law GrammarParts. -/
import Derived.Test.YtmfmlkdojgbhfaaDoorLawKinds
namespace Go.Proofs.YtmfmlkdojgbhfaaDoor
open Go.RowKit
set_option linter.unusedVariables false
set_option linter.unusedSimpArgs false

set_option maxHeartbeats 1600000 in
theorem parts_bad (t : Pl.Tr) (r : Sl) (w : World) (hT : Tabs w) (h : IsT w t r) (hc : ¬ Pl.chk t = 0) :
    Calls Tryd.prog 6 #[.agg #[.int .i64 t.kind, .string t.text, .slice r.ga t.gaps.length r.gc, .slice r.da t.kids.length r.dc]] w fun e w' => e = .returned (.bool true) ∧ Below w.heap.size w w' := by
  obtain ⟨v, hv⟩ : ∃ v, v = Pl.chk t := ⟨_, rfl⟩
  rw [← hv] at hc
  obtain ⟨v1, v2⟩ := int_neq2 hc
  have C1 := Lib.hid (fun w2 (hb : Below w.heap.size w w2) => check_is t w2 r v hv.symm (hT.later hb) (h.later hb))
  have C2 := Lib.hid (fun w2 (hb : Below w.heap.size w w2) => awake_any w2 (hT.later hb))
  have B0 := Lib.hid (box_below w (.cells #[.int .i64 t.kind, .string t.text, .slice r.ga t.gaps.length r.gc, .slice r.da t.kids.length r.dc] 25))
  clear hc hv hT h
  generalize t.kind = k at *
  generalize t.text = s at *
  generalize t.gaps.length = n at *
  generalize t.kids.length = m at *
  obtain ⟨ga, gc, da, dc⟩ := r
  simp only at *
  go_enter Tryd.func6, Tryd.ntmps6
  go_wp2_with (first
    | (go_at_call 10; refine (C1.out _ B0.out).mono ?_; rintro e w1 ⟨rfl, hb1⟩; have B1 := Lib.hid (B0.out.trans (hb1.mono B0.out.size)); clear hb1)
    | (go_at_call 12; refine (C2.out _ B1.out).mono ?_; rintro e w2 ⟨rfl, hb2⟩; have B2 := Lib.hid (B1.out.trans (hb2.mono B1.out.size)); clear hb2))
  go_ret
  exact ⟨rfl, B2.out⟩
set_option maxHeartbeats 3200000 in
theorem parts_none (k : Int) (s : ByteArray) (g : List ByteArray) (ks : List Pl.Tr) (r : Sl) (w : World) (hT : Tabs w) (h : IsT w (.node k s g ks) r) (hz : Pl.sz (.node k s g ks) ≤ 1048576) (hc : Pl.chk (.node k s g ks) = 0) (h0 : g.length = 0) :
    Calls Tryd.prog 6 #[.agg #[.int .i64 k, .string s, .slice r.ga g.length r.gc, .slice r.da ks.length r.dc]] w fun e w' => e = .returned (.bool true) ∧ Below w.heap.size w w' := by
  obtain ⟨hlen, hgap, hkids⟩ := Pl.chk_parts k s g ks hz hc
  have C1 := Lib.hid (fun w2 (hb : Below w.heap.size w w2) => check_is (.node k s g ks) w2 r 0 hc (hT.later hb) (h.later hb))
  have C2 := Lib.hid (fun w2 (hb : Below w.heap.size w w2) => awake_any w2 (hT.later hb))
  obtain ⟨_, _, _, R, hks, hr⟩ := h.parts
  have HT := Lib.hid hT
  have HK := Lib.hid hks
  have HR := Lib.hid hr
  have HKD := Lib.hid hkids
  obtain ⟨ga, gc, da, dc⟩ := r
  simp only [Pl.Tr.kind, Pl.Tr.text, Pl.Tr.gaps, Pl.Tr.kids] at *
  obtain ⟨m, hm⟩ : ∃ m, m = ks.length := ⟨_, rfl⟩
  obtain ⟨n, hn⟩ : ∃ n, n = g.length := ⟨_, rfl⟩
  rw [← hm] at hlen C1 ⊢
  rw [← hn] at C1 h0 ⊢
  have HM := Lib.hid hm
  have A0 := Lib.hid (at4_new w k s (.slice ga n gc) (.slice da m dc))
  have B0 := Lib.hid (box_below w (.cells #[.int .i64 k, .string s, .slice ga n gc, .slice da m dc] 25))
  have HZ := Lib.hid h0
  clear hgap hkids hks hr hT h hz hc hm hn h0
  go_enter Tryd.func6, Tryd.ntmps6
  go_wp2_with (go_at_call 10; refine (C1.out _ B0.out).mono ?_; rintro e w1 ⟨rfl, hb1⟩; have B1 := Lib.hid (B0.out.trans (hb1.mono B0.out.size)); have X1 := Lib.hid (at4_below A0.out hb1); clear hb1)
  have k3 : ∀ z : Later w1, z.u.cell? ⟨w.heap.size, 3, none⟩ = some (.slice da m dc) := fun z => (at4_later X1.out z).2.2.2
  have k2 : ∀ z : Later w1, z.u.cell? ⟨w.heap.size, 2, none⟩ = some (.slice ga n gc) := fun z => (at4_later X1.out z).2.2.1
  have d2 : decide ((0 : Int) < n) = false := decide_eq_false (by have := HZ.out; omega)
  have d2' : decide (0 < n) = false := decide_eq_false (by have := HZ.out; omega)
  have d1 : decide ((200 : Int) < m) = false := decide_eq_false (by omega)
  refine region_later (by kernel_rfl) (by kernel_rfl) ?_
  repeat (go_big_quiet_step (fail))
  refine wpQuiet_nil ?_
  intro _ hw'
  obtain ⟨n1, rfl⟩ := hw'
  have B2 := Lib.hid (B1.out.trans (n1.h.mono B1.out.size))
  have X2 := Lib.hid (at4_later X1.out n1)
  clear k2 k3 d1 d2 d2'
  go_wp2_with fail
  go_loopw [3] (fun i wr => ∃ j : Nat, j ≤ m ∧ i = .int .i64 j ∧ Hid (Below w.heap.size w wr) ∧ Hid (At4 wr w.heap.size 0 k s (.slice ga n gc) (.slice da m dc))) (fun i _ => m - (intOf i).toNat)
  case atStart => exact ⟨0, Nat.zero_le _, rfl, B2, X2⟩
  case round =>
    obtain ⟨j, hj, rfl, HBL, HX⟩ := hrel
    have c3 := HX.out.2.2.2
    by_cases hlt : j < m
    · have hjk : j < ks.length := by rw [← HM.out]; exact hlt
      have hu := List.getElem?_eq_getElem hjk
      obtain ⟨hcu, hfu⟩ := HKD.out j _ hu
      have HR1 := HR.out j _ hu
      rcases HK.out with h0' | ⟨b1, o1, rfl, hb1, hat⟩
      · rw [h0'] at hjk; simp at hjk
      have l1 := Lib.hid (At4.keep (hat j _ hu) (Same.below HBL.out fun _ h => h) hb1)
      generalize ks[j] = u at *
      generalize R j = r1 at *
      obtain ⟨ga1, gc1, da1, dc1⟩ := r1
      have k0 : ∀ z : Later wr, z.u.cell? ⟨w.heap.size, 0, none⟩ = some (.int .i64 k) := fun z => (at4_later HX.out z).1
      have k3 : ∀ z : Later wr, z.u.cell? ⟨w.heap.size, 3, none⟩ = some (.slice (some ⟨b1, o1, none⟩) m dc) := fun z => (at4_later HX.out z).2.2.2
      have u0 : ∀ z : Later wr, z.u.cell? ⟨b1, o1 + j * 4, none⟩ = some (.int .i64 u.kind) := fun z => (at4_later l1.out z).1
      have D1 : ∀ z : Later wr, Calls Tryd.prog 10 #[.agg #[.int .i64 u.kind, .string u.text, .slice ga1 u.gaps.length gc1, .slice da1 u.kids.length dc1]] z.u fun e w'' => e = .returned (.int .i64 0) ∧ ∃ y : Later wr, w'' = y.u :=
        fun z => (check_is u z.u ⟨ga1, gc1, da1, dc1⟩ 0 hcu ((HT.out.later HBL.out).later z.h) ((HR1.later HBL.out).later z.h)).mono fun e w'' ⟨he, hw⟩ => ⟨he, ⟨w'', z.h.trans (hw.mono z.h.size)⟩, rfl⟩
      have D2 : ∀ z : Later wr, Calls Tryd.prog 17 #[.int .i64 k, .int .i64 j, .int .i64 u.kind] z.u fun e w'' => e = .returned (.bool true) ∧ ∃ y : Later wr, w'' = y.u :=
        fun z => (fits_is k j u.kind true hfu z.u ((HT.out.later HBL.out).later z.h)).mono fun e w'' ⟨he, hw⟩ => ⟨he, z, hw.symm⟩
      clear hat hu hcu hfu HR1
      go_wp2_with fail
      refine region_later (by kernel_rfl) (by kernel_rfl) ?_
      iterate 4 (go_big_quiet_step (fail))
      refine quiet_load (by rfl) 25 _ (by rfl) (.pointer (some ⟨b1, o1 + j * 4, none⟩)) _ (by rfl) (fun x hx => by obtain ⟨n, rfl⟩ := hx; exact (at4_later l1.out n).load) ?_
      simp only [Act.put, List.setIfInBounds_toArray, List.set_cons_succ, List.set_cons_zero]
      go_big_quiet_step (exact D1 _)
      iterate 11 (go_big_quiet_step (fail))
      go_big_quiet_step (exact D2 _)
      iterate 2 (go_big_quiet_step (fail))
      refine wpQuiet_nil ?_
      intro _ hw'
      obtain ⟨n2, rfl⟩ := hw'
      have B3 := Lib.hid (HBL.out.trans (n2.h.mono HBL.out.size))
      have X3 := Lib.hid (at4_later HX.out n2)
      clear k0 k3 u0 D1 D2 c3
      go_wp2_with fail
      exact ⟨⟨j + 1, by omega, by go_num, B3, X3⟩, by simp [intOf]; omega⟩
    · obtain rfl : j = m := by omega
      go_wp2_with (go_at_call 12; refine (C2.out _ HBL.out).mono ?_; rintro e w2 ⟨rfl, hb2⟩; have BZ := Lib.hid (HBL.out.trans (hb2.mono HBL.out.size)); clear hb2)
      go_ret
      exact ⟨rfl, BZ.out⟩
set_option maxHeartbeats 3200000 in
theorem parts_some (k : Int) (s : ByteArray) (g : List ByteArray) (ks : List Pl.Tr) (r : Sl) (w : World) (hT : Tabs w) (h : IsT w (.node k s g ks) r) (hz : Pl.sz (.node k s g ks) ≤ 1048576) (hc : Pl.chk (.node k s g ks) = 0) (h0 : ¬ g.length = 0) :
    Calls Tryd.prog 6 #[.agg #[.int .i64 k, .string s, .slice r.ga g.length r.gc, .slice r.da ks.length r.dc]] w fun e w' => e = .returned (.bool true) ∧ Below w.heap.size w w' := by
  obtain ⟨hlen, hgap, hkids⟩ := Pl.chk_parts k s g ks hz hc
  have C1 := Lib.hid (fun w2 (hb : Below w.heap.size w w2) => check_is (.node k s g ks) w2 r 0 hc (hT.later hb) (h.later hb))
  have C2 := Lib.hid (fun w2 (hb : Below w.heap.size w w2) => awake_any w2 (hT.later hb))
  obtain ⟨_, _, _, R, hks, hr⟩ := h.parts
  have HT := Lib.hid hT
  have HK := Lib.hid hks
  have HR := Lib.hid hr
  have HKD := Lib.hid hkids
  obtain ⟨ga, gc, da, dc⟩ := r
  simp only [Pl.Tr.kind, Pl.Tr.text, Pl.Tr.gaps, Pl.Tr.kids] at *
  have hown : Pl.own k s ks.length = (g.length : Int) := by
    rcases hgap with e | e
    · rw [e] at h0; exact absurd rfl h0
    · exact e.symm
  obtain ⟨m, hm⟩ : ∃ m, m = ks.length := ⟨_, rfl⟩
  obtain ⟨n, hn⟩ : ∃ n, n = g.length := ⟨_, rfl⟩
  rw [← hm] at hlen C1 hown ⊢
  rw [← hn] at C1 h0 hown ⊢
  have HM := Lib.hid hm
  have A0 := Lib.hid (at4_new w k s (.slice ga n gc) (.slice da m dc))
  have B0 := Lib.hid (box_below w (.cells #[.int .i64 k, .string s, .slice ga n gc, .slice da m dc] 25))
  have HOWN := Lib.hid hown
  have HML : Hid (m ≤ maxLen) := Lib.hid (by unfold maxLen; omega)
  clear hown
  clear hgap hkids hks hr hT h hz hc hm hn
  go_enter Tryd.func6, Tryd.ntmps6
  go_wp2_with (go_at_call 10; refine (C1.out _ B0.out).mono ?_; rintro e w1 ⟨rfl, hb1⟩; have B1 := Lib.hid (B0.out.trans (hb1.mono B0.out.size)); have X1 := Lib.hid (at4_below A0.out hb1); clear hb1)
  have k3 : ∀ z : Later w1, z.u.cell? ⟨w.heap.size, 3, none⟩ = some (.slice da m dc) := fun z => (at4_later X1.out z).2.2.2
  have k2 : ∀ z : Later w1, z.u.cell? ⟨w.heap.size, 2, none⟩ = some (.slice ga n gc) := fun z => (at4_later X1.out z).2.2.1
  have D0 : ∀ z : Later w1, Calls Tryd.prog 13 #[.agg #[.int .i64 k, .string s, .slice ga n gc, .slice da m dc]] z.u fun e w'' => e = .returned (.int .i64 n) ∧ ∃ y : Later w1, w'' = y.u :=
    fun z => (own_is k s n n m gc dc ga da z.u HOWN.out ((HT.out.later B1.out).later z.h) HML.out).mono fun e w'' ⟨he, hw⟩ => ⟨he, ⟨w'', z.h.trans (hw.mono z.h.size)⟩, rfl⟩
  have d2 : decide ((0 : Int) < n) = true := decide_eq_true (by omega)
  have d2' : decide (0 < n) = true := decide_eq_true (by omega)
  have d3 : ((n : Int) != (n : Int)) = false := by simp
  have d1 : decide ((200 : Int) < m) = false := decide_eq_false (by omega)
  refine region_later (by kernel_rfl) (by kernel_rfl) ?_
  iterate 13 (go_big_quiet_step (fail))
  refine quiet_load (by rfl) 25 _ (by rfl) (.pointer (some ⟨w.heap.size, 0, none⟩)) _ (by rfl) (fun x hx => by obtain ⟨n, rfl⟩ := hx; exact (at4_later X1.out n).load) ?_
  simp only [Act.put, List.setIfInBounds_toArray, List.set_cons_succ, List.set_cons_zero]
  go_big_quiet_step (exact D0 _)
  iterate 3 (go_big_quiet_step (fail))
  refine wpQuiet_nil ?_
  intro _ hw'
  obtain ⟨n1, rfl⟩ := hw'
  have B2 := Lib.hid (B1.out.trans (n1.h.mono B1.out.size))
  have X2 := Lib.hid (at4_later X1.out n1)
  clear k2 k3 D0 d1 d2 d2' d3
  go_wp2_with fail
  go_loopw [3] (fun i wr => ∃ j : Nat, j ≤ m ∧ i = .int .i64 j ∧ Hid (Below w.heap.size w wr) ∧ Hid (At4 wr w.heap.size 0 k s (.slice ga n gc) (.slice da m dc))) (fun i _ => m - (intOf i).toNat)
  case atStart => exact ⟨0, Nat.zero_le _, rfl, B2, X2⟩
  case round =>
    obtain ⟨j, hj, rfl, HBL, HX⟩ := hrel
    have c3 := HX.out.2.2.2
    by_cases hlt : j < m
    · have hjk : j < ks.length := by rw [← HM.out]; exact hlt
      have hu := List.getElem?_eq_getElem hjk
      obtain ⟨hcu, hfu⟩ := HKD.out j _ hu
      have HR1 := HR.out j _ hu
      rcases HK.out with h0' | ⟨b1, o1, rfl, hb1, hat⟩
      · rw [h0'] at hjk; simp at hjk
      have l1 := Lib.hid (At4.keep (hat j _ hu) (Same.below HBL.out fun _ h => h) hb1)
      generalize ks[j] = u at *
      generalize R j = r1 at *
      obtain ⟨ga1, gc1, da1, dc1⟩ := r1
      have k0 : ∀ z : Later wr, z.u.cell? ⟨w.heap.size, 0, none⟩ = some (.int .i64 k) := fun z => (at4_later HX.out z).1
      have k3 : ∀ z : Later wr, z.u.cell? ⟨w.heap.size, 3, none⟩ = some (.slice (some ⟨b1, o1, none⟩) m dc) := fun z => (at4_later HX.out z).2.2.2
      have u0 : ∀ z : Later wr, z.u.cell? ⟨b1, o1 + j * 4, none⟩ = some (.int .i64 u.kind) := fun z => (at4_later l1.out z).1
      have D1 : ∀ z : Later wr, Calls Tryd.prog 10 #[.agg #[.int .i64 u.kind, .string u.text, .slice ga1 u.gaps.length gc1, .slice da1 u.kids.length dc1]] z.u fun e w'' => e = .returned (.int .i64 0) ∧ ∃ y : Later wr, w'' = y.u :=
        fun z => (check_is u z.u ⟨ga1, gc1, da1, dc1⟩ 0 hcu ((HT.out.later HBL.out).later z.h) ((HR1.later HBL.out).later z.h)).mono fun e w'' ⟨he, hw⟩ => ⟨he, ⟨w'', z.h.trans (hw.mono z.h.size)⟩, rfl⟩
      have D2 : ∀ z : Later wr, Calls Tryd.prog 17 #[.int .i64 k, .int .i64 j, .int .i64 u.kind] z.u fun e w'' => e = .returned (.bool true) ∧ ∃ y : Later wr, w'' = y.u :=
        fun z => (fits_is k j u.kind true hfu z.u ((HT.out.later HBL.out).later z.h)).mono fun e w'' ⟨he, hw⟩ => ⟨he, z, hw.symm⟩
      clear hat hu hcu hfu HR1
      go_wp2_with fail
      refine region_later (by kernel_rfl) (by kernel_rfl) ?_
      iterate 4 (go_big_quiet_step (fail))
      refine quiet_load (by rfl) 25 _ (by rfl) (.pointer (some ⟨b1, o1 + j * 4, none⟩)) _ (by rfl) (fun x hx => by obtain ⟨n, rfl⟩ := hx; exact (at4_later l1.out n).load) ?_
      simp only [Act.put, List.setIfInBounds_toArray, List.set_cons_succ, List.set_cons_zero]
      go_big_quiet_step (exact D1 _)
      iterate 11 (go_big_quiet_step (fail))
      go_big_quiet_step (exact D2 _)
      iterate 2 (go_big_quiet_step (fail))
      refine wpQuiet_nil ?_
      intro _ hw'
      obtain ⟨n2, rfl⟩ := hw'
      have B3 := Lib.hid (HBL.out.trans (n2.h.mono HBL.out.size))
      have X3 := Lib.hid (at4_later HX.out n2)
      clear k0 k3 u0 D1 D2 c3
      go_wp2_with fail
      exact ⟨⟨j + 1, by omega, by go_num, B3, X3⟩, by simp [intOf]; omega⟩
    · obtain rfl : j = m := by omega
      go_wp2_with (go_at_call 12; refine (C2.out _ HBL.out).mono ?_; rintro e w2 ⟨rfl, hb2⟩; have BZ := Lib.hid (HBL.out.trans (hb2.mono HBL.out.size)); clear hb2)
      go_ret
      exact ⟨rfl, BZ.out⟩
theorem lawParts (t : Pl.Tr) (r : Sl) (w : World) (hT : Tabs w) (h : IsT w t r) (hz : Pl.sz t ≤ 1048576) :
    Calls Tryd.prog 6 #[.agg #[.int .i64 t.kind, .string t.text, .slice r.ga t.gaps.length r.gc, .slice r.da t.kids.length r.dc]] w fun e w' => e = .returned (.bool true) ∧ Below w.heap.size w w' := by
  by_cases hc : Pl.chk t = 0
  · cases t with
    | node k s g ks =>
      by_cases h0 : g.length = 0
      · exact parts_none k s g ks r w hT h hz hc h0
      · exact parts_some k s g ks r w hT h hz hc h0
  · exact parts_bad t r w hT h hc
end Go.Proofs.YtmfmlkdojgbhfaaDoor
