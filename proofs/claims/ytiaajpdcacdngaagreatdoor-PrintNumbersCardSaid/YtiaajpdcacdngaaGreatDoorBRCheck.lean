/- The walks of the reference's Check. -/
import Derived.Test.YtiaajpdcacdngaaGreatDoorBRNode
import Derived.Test.YtiaajpdcacdngaaGreatDoorBCheck
namespace Go.Proofs.YtiaajpdcacdngaaGreatDoor
open Go.RowKit
set_option linter.unusedVariables false
set_option linter.unusedSimpArgs false

theorem rsz_le (l : Nat) (t : Pl.Tr) : Pl.rsz l t ≤ 4001 := by
  cases t with
  | node k s g ks => rw [Pl.rsz]; split <;> omega
theorem rszs_drop (l a : Nat) (ks : List Pl.Tr) (j : Nat) (h : j < ks.length) (ha : a ≤ 4000) : Pl.rszs l a (ks.drop j) = Pl.rszs l (a + Pl.rsz l ks[j]) (ks.drop (j + 1)) := by
  rw [List.drop_eq_getElem_cons h, Pl.rszs, if_pos ha]
theorem rszs_stop (l a : Nat) (ks : List Pl.Tr) (ha : ¬ a ≤ 4000) : Pl.rszs l a ks = a := by
  cases ks with
  | nil => rw [Pl.rszs]
  | cons t ts => rw [Pl.rszs, if_neg ha]
/-- What size answers at each kid, one level deeper. -/
def EachL (w : World) (ks : List Pl.Tr) (l : Nat) : Prop :=
  ∀ (j : Nat) u, ks[j]? = some u → ∀ w2, Below w.heap.size w w2 → ∀ r, IsT w2 u r → Calls Tryz.prog 39 #[.agg #[.int .i64 u.kind, .string u.text, .slice r.ga u.gaps.length r.gc, .slice r.da u.kids.length r.dc], .int .i64 l] w2 fun e w' => e = .returned (.int .i64 (Pl.rsz l u)) ∧ Below w2.heap.size w2 w'

set_option maxHeartbeats 1600000 in
theorem rsize_deep (l : Nat) (h60 : 60 < l) (h61 : l ≤ 61) (k : Int) (s : ByteArray) (n m gc dc : Nat) (ga da : Option Addr) (w : World) :
    Calls Tryz.prog 39 #[.agg #[.int .i64 k, .string s, .slice ga n gc, .slice da m dc], .int .i64 l] w fun e w' => e = .returned (.int .i64 4001) ∧ Below w.heap.size w w' := by
  have d1 : decide ((60 : Int) < l) = true := decide_eq_true (by omega)
  go_enter Tryz.func39, Tryz.ntmps39
  go_wp2_with fail
  refine region_later (by kernel_rfl) (by kernel_rfl) ?_
  repeat (go_big_quiet_step (fail))
  refine wpQuiet_nil ?_
  intro _ hw'
  obtain ⟨n1, rfl⟩ := hw'
  go_wp2_with fail
  go_ret
  exact ⟨rfl, (box_below _ _).trans (n1.h.mono (by simp))⟩
set_option maxHeartbeats 3200000 in
theorem rsize_step (l : Nat) (h60 : l ≤ 60) (k : Int) (s : ByteArray) (n gc dc : Nat) (ga da : Option Addr) (ks : List Pl.Tr) (R : Nat → Sl) (w : World) (hl : ks.length ≤ maxLen) (hks : Lies (fun b => b < w.heap.size) w ks da R) (hr : ∀ (j : Nat) u, ks[j]? = some u → IsT w u (R j))
    (ih : EachL w ks (l + 1)) :
    Calls Tryz.prog 39 #[.agg #[.int .i64 k, .string s, .slice ga n gc, .slice da ks.length dc], .int .i64 l] w fun e w' => e = .returned (.int .i64 ((if Pl.mostK k < ks.length then 4001 else min (Pl.rszs (l + 1) 1 ks) 4001 : Nat) : Int)) ∧ Below w.heap.size w w' := by
  unfold maxLen at hl
  have d1 : decide ((60 : Int) < l) = false := decide_eq_false (by omega)
  obtain ⟨q, hq⟩ : ∃ q, Pl.mostK k = q := ⟨_, rfl⟩
  obtain ⟨m, hm⟩ : ∃ m, m = ks.length := ⟨_, rfl⟩
  obtain ⟨b, hb⟩ : ∃ b, b = Pl.rszs (l + 1) 1 ks := ⟨_, rfl⟩
  rw [hq, ← hb]
  rw [← hm] at hl ⊢
  have HB := Lib.hid hb
  have HM := Lib.hid hm
  have HK := Lib.hid hks
  have HR := Lib.hid hr
  have HI := Lib.hid ih
  have HQ := Lib.hid hq
  clear hm hks hr ih hb hq
  obtain ⟨W, hW⟩ : ∃ W, W = w.alloc (.cells #[.int .i64 k, .string s, .slice ga n gc, .slice da m dc] 25) := ⟨_, rfl⟩
  have A1 := Lib.hid (at4_new w k s (.slice ga n gc) (.slice da m dc))
  have HBW := Lib.hid (box_below w (.cells #[.int .i64 k, .string s, .slice ga n gc, .slice da m dc] 25))
  have HSZ : Hid (w.heap.size < (w.alloc (.cells #[.int .i64 k, .string s, .slice ga n gc, .slice da m dc] 25)).heap.size) := Lib.hid (by simp)
  rw [← hW] at A1 HBW HSZ
  have HWE := Lib.hid hW
  clear hW
  have k0 : ∀ z : Later W, z.u.cell? ⟨w.heap.size, 0, none⟩ = some (.int .i64 k) := fun z => (at4_later A1.out z).1
  have k3 : ∀ z : Later W, z.u.cell? ⟨w.heap.size, 3, none⟩ = some (.slice da m dc) := fun z => (at4_later A1.out z).2.2.2
  have C0 : ∀ z : Later W, Calls Tryz.prog 63 #[.int .i64 k] z.u fun e w'' => e = .returned (.int .i64 q) ∧ ∃ y : Later W, w'' = y.u :=
    fun z => (rmost_any k z.u).mono fun e w'' ⟨he, hw⟩ => ⟨by rw [he, HQ.out], z, hw.symm⟩
  by_cases hqm : q < m
  · have d2 : decide (q < (m : Int)) = true := decide_eq_true hqm
    rw [if_pos hqm]
    go_enter Tryz.func39, Tryz.ntmps39
    go_wp2_with fail
    rw [← HWE.out]
    refine region_later (by kernel_rfl) (by kernel_rfl) ?_
    repeat (first | (go_big_quiet_step (fail)) | (go_big_quiet_step (exact C0 _)))
    refine wpQuiet_nil ?_
    intro _ hw'
    obtain ⟨n1, rfl⟩ := hw'
    go_wp2_with fail
    go_ret
    exact ⟨rfl, HBW.out.trans (n1.h.mono (Nat.le_of_lt HSZ.out))⟩
  have d2 : decide (q < (m : Int)) = false := decide_eq_false hqm
  rw [if_neg hqm]
  clear hqm
  obtain ⟨v, hv⟩ : ∃ v : Int, v = ((min b 4001 : Nat) : Int) := ⟨_, rfl⟩
  rw [← hv]
  have HV := Lib.hid hv
  clear hv
  go_enter Tryz.func39, Tryz.ntmps39
  go_wp2_with fail
  rw [← HWE.out]
  refine region_later (by kernel_rfl) (by kernel_rfl) ?_
  repeat (first | (go_big_quiet_step (fail)) | (go_big_quiet_step (exact C0 _)))
  refine wpQuiet_nil ?_
  intro _ hw'
  obtain ⟨n1, rfl⟩ := hw'
  have B1 := Lib.hid (HBW.out.trans (n1.h.mono (Nat.le_of_lt HSZ.out)))
  have X1 := Lib.hid (at4_later A1.out n1)
  clear k0 k3 C0
  go_wp2_with fail
  go_loopw [5, 6] (fun v i wr => ∃ j x : Nat, j ≤ m ∧ x ≤ 8001 ∧ i = .int .i64 j ∧ v = .int .i64 x ∧ Pl.rszs (l + 1) x (ks.drop j) = b ∧ Hid (Below w.heap.size w wr) ∧ Hid (At4 wr w.heap.size 0 k s (.slice ga n gc) (.slice da m dc))) (fun _ i _ => m - (intOf i).toNat)
  case atStart => exact ⟨0, 1, Nat.zero_le _, by decide, rfl, rfl, HB.out.symm, B1, X1⟩
  case round =>
    obtain ⟨j, x, hj, hx, rfl, rfl, hsum, HBL, HX⟩ := hrel
    have HS := Lib.hid hsum
    clear hsum
    have c3 := HX.out.2.2.2
    by_cases hlt : j < m
    · have g1 : decide ((j : Int) < m) = true := decide_eq_true (by omega)
      by_cases hx4 : x ≤ 4000
      · have hjk : j < ks.length := by rw [← HM.out]; exact hlt
        have hu := List.getElem?_eq_getElem hjk
        have HD := Lib.hid (rszs_drop (l + 1) x ks j hjk hx4)
        have HI1 := Lib.hid (HI.out j _ hu)
        have HR1 := Lib.hid (HR.out j _ hu)
        rcases HK.out with h0 | ⟨b1, o1, rfl, hb1, hat⟩
        · rw [h0] at hjk; simp at hjk
        obtain ⟨u0, u1, u2, u3⟩ := At4.keep (hat j _ hu) (Same.below HBL.out fun _ h => h) hb1
        generalize ks[j] = u at *
        generalize R j = r1 at *
        obtain ⟨ga1, gc1, da1, dc1⟩ := r1
        have HC := Lib.hid (HI1.out _ HBL.out ⟨ga1, gc1, da1, dc1⟩ (HR1.out.later HBL.out))
        obtain ⟨y, hy⟩ : ∃ y, y = Pl.rsz (l + 1) u := ⟨_, rfl⟩
        have hy1 : y ≤ 4001 := by rw [hy]; exact rsz_le _ _
        have HY : Hid (Pl.rszs (l + 1) (x + y) (ks.drop (j + 1)) = b) := Lib.hid (by rw [← HS.out, HD.out, hy])
        have HC2 : Hid (Calls Tryz.prog 39 #[.agg #[.int .i64 u.kind, .string u.text, .slice ga1 u.gaps.length gc1, .slice da1 u.kids.length dc1], .int .i64 ((l : Int) + 1)] wr fun e w' => e = .returned (.int .i64 y) ∧ Below wr.heap.size wr w') := Lib.hid (by rw [hy]; exact HC.out)
        clear hat hu hy HC
        go_wp2_with (go_at_call 39; refine HC2.out.mono ?_; rintro e w' ⟨rfl, hb2⟩; have HB2 := Lib.hid hb2; clear hb2)
        exact ⟨⟨j + 1, x + y, by omega, by omega, by go_num, by go_num, HY.out, Lib.hid (HBL.out.trans (HB2.out.mono HBL.out.size)), Lib.hid (at4_below HX.out HB2.out)⟩, by simp [intOf]; omega⟩
      · have HE : Hid (b = x) := Lib.hid (by rw [← HS.out, rszs_stop _ _ _ hx4])
        go_wp2_with fail
        all_goals go_ret
        all_goals refine ⟨ret_int ?_, HBL.out⟩
        all_goals have e1 := HV.out
        all_goals have e2 := HE.out
        all_goals omega
    · obtain rfl : j = m := by omega
      have g1 : decide ((j : Int) < j) = false := decide_eq_false (by omega)
      have HE : Hid (x = b) := Lib.hid (by
        have e := HS.out
        rw [List.drop_of_length_le (by rw [HM.out]; exact Nat.le_refl _), Pl.rszs] at e
        exact e)
      go_wp2_with fail
      all_goals go_ret
      all_goals refine ⟨ret_int ?_, HBL.out⟩
      all_goals have e1 := HV.out
      all_goals have e2 := HE.out
      all_goals omega
theorem rsize_at (t : Pl.Tr) : ∀ (l : Nat) w r, l ≤ 61 → IsT w t r → Calls Tryz.prog 39 #[.agg #[.int .i64 t.kind, .string t.text, .slice r.ga t.gaps.length r.gc, .slice r.da t.kids.length r.dc], .int .i64 l] w fun e w' => e = .returned (.int .i64 (Pl.rsz l t)) ∧ Below w.heap.size w w' := by
  refine Pl.Tr.ind (M := fun t => ∀ (l : Nat) w r, l ≤ 61 → IsT w t r → Calls Tryz.prog 39 #[.agg #[.int .i64 t.kind, .string t.text, .slice r.ga t.gaps.length r.gc, .slice r.da t.kids.length r.dc], .int .i64 l] w fun e w' => e = .returned (.int .i64 (Pl.rsz l t)) ∧ Below w.heap.size w w') ?_ t
  intro k s g ks ih l w r hl61 h
  obtain ⟨hs, hg, hl, R, hks, hr⟩ := h.parts
  rw [Pl.rsz]
  by_cases h60 : 60 < l
  · rw [if_pos (.inl h60)]
    exact rsize_deep l h60 hl61 k s _ _ _ _ _ _ w
  · have := rsize_step l (by omega) k s g.length r.gc r.dc r.ga r.da ks R w hl hks hr (fun j u hu w2 hb r2 h2 => ih u (List.mem_of_getElem? hu) (l + 1) w2 r2 (by omega) h2)
    have e : (if 60 < l ∨ Pl.mostK k < ks.length then 4001 else min (Pl.rszs (l + 1) 1 ks) 4001) = (if Pl.mostK k < ks.length then 4001 else min (Pl.rszs (l + 1) 1 ks) 4001) := by
      by_cases h1 : Pl.mostK k < ks.length
      · rw [if_pos h1, if_pos (.inr h1)]
      · rw [if_neg h1, if_neg (by rintro (h | h); exact h60 h; exact h1 h)]
    rw [e]
    exact this

set_option maxHeartbeats 3200000 in
theorem rfirst_step (k : Int) (s : ByteArray) (g : List ByteArray) (r : Sl) (ks : List Pl.Tr) (w : World) (h : IsT w (.node k s g ks) r)
    (ih : Each 40 w ks fun u => .int .i64 (Pl.firstE u)) :
    Calls Tryz.prog 40 #[.agg #[.int .i64 k, .string s, .slice r.ga g.length r.gc, .slice r.da ks.length r.dc]] w fun e w' => e = .returned (.int .i64 (if Pl.nodeE k s g ks ≠ 0 then Pl.nodeE k s g ks else Pl.firstsE ks)) ∧ Below w.heap.size w w' := by
  obtain ⟨hs, hg, hl, R, hks, hr⟩ := h.parts
  obtain ⟨v, hv⟩ : ∃ v, v = Pl.nodeE k s g ks := ⟨_, rfl⟩
  have HN := Lib.hid (fun w2 (hb : Below w.heap.size w w2) => rnode_is k s g ks r v hv.symm w2 (h.later hb))
  rw [← hv]
  unfold maxLen at hl
  obtain ⟨ga, gc, da, dc⟩ := r
  obtain ⟨m, hm⟩ : ∃ m, m = ks.length := ⟨_, rfl⟩
  obtain ⟨n, hn⟩ : ∃ n, n = g.length := ⟨_, rfl⟩
  simp only at HN ⊢
  rw [← hm, ← hn] at HN ⊢
  rw [← hm] at hl
  have HM := Lib.hid hm
  have HK := Lib.hid hks
  have HR := Lib.hid hr
  have HI := Lib.hid ih
  have B0 := Lib.hid (box_below w (.cells #[.int .i64 k, .string s, .slice ga n gc, .slice da m dc] 25))
  have A0 := Lib.hid (at4_new w k s (.slice ga n gc) (.slice da m dc))
  clear hm hks hr ih hv hn h hs hg
  obtain ⟨b, hb⟩ : ∃ b, b = if v ≠ 0 then v else Pl.firstsE ks := ⟨_, rfl⟩
  rw [← hb]
  have HB := Lib.hid hb
  clear hb
  go_enter Tryz.func40, Tryz.ntmps40
  go_wp2_with (go_at_call 64; refine (HN.out _ B0.out).mono ?_; rintro e w2 ⟨rfl, hb2⟩; have B2 := Lib.hid (B0.out.trans (hb2.mono B0.out.size)); have X2 := Lib.hid (at4_below A0.out hb2); clear hb2)
  go_loopw [3, 4] (fun x i wr => ∃ (j : Nat) (y : Int), j ≤ m ∧ i = .int .i64 j ∧ x = .int .i64 y ∧ (if y ≠ 0 then y else Pl.firstsE (ks.drop j)) = b ∧ Hid (Below w.heap.size w wr) ∧ Hid (At4 wr w.heap.size 0 k s (.slice ga n gc) (.slice da m dc))) (fun _ i _ => m - (intOf i).toNat)
  case atStart => exact ⟨0, v, Nat.zero_le _, rfl, rfl, HB.out.symm, B2, X2⟩
  case round =>
    obtain ⟨j, y, hj, rfl, rfl, hsum, HBL, HX⟩ := hrel
    have HS := Lib.hid hsum
    clear hsum
    have c3 := HX.out.2.2.2
    by_cases hlt : j < m
    · have g1 : decide ((j : Int) < m) = true := decide_eq_true (by omega)
      by_cases hy0 : y = 0
      · subst hy0
        have hjk : j < ks.length := by rw [← HM.out]; exact hlt
        have hu := List.getElem?_eq_getElem hjk
        have HD := Lib.hid (firsts_drop ks j hjk)
        have HI1 := Lib.hid (HI.out j _ hu)
        have HR1 := Lib.hid (HR.out j _ hu)
        rcases HK.out with h0 | ⟨b1, o1, rfl, hb1, hat⟩
        · rw [h0] at hjk; simp at hjk
        obtain ⟨u0, u1, u2, u3⟩ := At4.keep (hat j _ hu) (Same.below HBL.out fun _ h => h) hb1
        generalize ks[j] = u at *
        generalize R j = r1 at *
        obtain ⟨ga1, gc1, da1, dc1⟩ := r1
        have HC := Lib.hid (HI1.out _ HBL.out ⟨ga1, gc1, da1, dc1⟩ (HR1.out.later HBL.out))
        obtain ⟨z, hz⟩ : ∃ z, z = Pl.firstE u := ⟨_, rfl⟩
        have HY : Hid ((if z ≠ 0 then z else Pl.firstsE (ks.drop (j + 1))) = b) := Lib.hid (by rw [← HS.out, hz]; exact HD.out.symm)
        have HC2 : Hid (Calls Tryz.prog 40 #[.agg #[.int .i64 u.kind, .string u.text, .slice ga1 u.gaps.length gc1, .slice da1 u.kids.length dc1]] wr fun e w' => e = .returned (.int .i64 z) ∧ Below wr.heap.size wr w') := Lib.hid (by rw [hz]; exact HC.out)
        clear hat hu hz HC
        go_wp2_with (go_at_call 40; refine HC2.out.mono ?_; rintro e w' ⟨rfl, hb2⟩; have HB2 := Lib.hid hb2; clear hb2)
        exact ⟨⟨j + 1, z, by omega, by go_num, rfl, HY.out, Lib.hid (HBL.out.trans (HB2.out.mono HBL.out.size)), Lib.hid (at4_below HX.out HB2.out)⟩, by simp [intOf]; omega⟩
      · have HE : Hid (y = b) := Lib.hid (by rw [← HS.out, if_pos hy0])
        obtain ⟨v1, v2⟩ := int_neq2 hy0
        clear hy0
        go_wp2_with fail
        go_ret
        exact ⟨ret_int HE.out, HBL.out⟩
    · obtain rfl : j = m := by omega
      have g1 : decide ((j : Int) < j) = false := decide_eq_false (by omega)
      have HE : Hid (y = b) := Lib.hid (by
        have e := HS.out
        rw [List.drop_of_length_le (by rw [HM.out]; exact Nat.le_refl _), Pl.firstsE] at e
        rw [← e]
        by_cases h0 : y = 0
        · rw [h0]; rfl
        · rw [if_pos h0])
      go_wp2_with fail
      go_ret
      exact ⟨ret_int HE.out, HBL.out⟩
theorem rfirst_at (t : Pl.Tr) : ∀ w r, IsT w t r → Calls Tryz.prog 40 #[.agg #[.int .i64 t.kind, .string t.text, .slice r.ga t.gaps.length r.gc, .slice r.da t.kids.length r.dc]] w fun e w' => e = .returned (.int .i64 (Pl.firstE t)) ∧ Below w.heap.size w w' := by
  refine Pl.Tr.ind (M := fun t => ∀ w r, IsT w t r → Calls Tryz.prog 40 #[.agg #[.int .i64 t.kind, .string t.text, .slice r.ga t.gaps.length r.gc, .slice r.da t.kids.length r.dc]] w fun e w' => e = .returned (.int .i64 (Pl.firstE t)) ∧ Below w.heap.size w w') ?_ t
  intro k s g ks ih w r h
  have := rfirst_step k s g r ks w h (fun j u hu w2 hb r2 h2 => ih u (List.mem_of_getElem? hu) w2 r2 h2)
  rw [Pl.firstE]
  exact this
set_option maxHeartbeats 1600000 in
theorem rcheck_at (t : Pl.Tr) (w : World) (r : Sl) (h : IsT w t r) :
    Calls Tryz.prog 21 #[.agg #[.int .i64 t.kind, .string t.text, .slice r.ga t.gaps.length r.gc, .slice r.da t.kids.length r.dc]] w fun e w' => e = .returned (.int .i64 (Pl.rchk t)) ∧ Below w.heap.size w w' := by
  obtain ⟨z, hz⟩ : ∃ z, z = Pl.rsz 1 t := ⟨_, rfl⟩
  obtain ⟨f, hf⟩ : ∃ f, f = Pl.firstE t := ⟨_, rfl⟩
  have hz1 : z ≤ 4001 := by rw [hz]; exact rsz_le _ _
  have CS := Lib.hid (fun w2 (hb : Below w.heap.size w w2) => rsize_at t 1 w2 r (by decide) (h.later hb))
  have CF := Lib.hid (fun w2 (hb : Below w.heap.size w w2) => rfirst_at t w2 r (h.later hb))
  have A0 := Lib.hid (box_at t r w)
  have B0 := Lib.hid (box_below w (.cells #[.int .i64 t.kind, .string t.text, .slice r.ga t.gaps.length r.gc, .slice r.da t.kids.length r.dc] 25))
  unfold Pl.rchk
  rw [← hz] at CS
  rw [← hf] at CF
  rw [← hz, ← hf]
  clear hz hf h
  generalize t.kind = k at *
  generalize t.text = s at *
  generalize t.gaps.length = n at *
  generalize t.kids.length = m at *
  obtain ⟨ga, gc, da, dc⟩ := r
  simp only at *
  by_cases h1 : 4000 < z
  · rw [if_pos h1]
    go_enter Tryz.func21, Tryz.ntmps21
    go_wp2_with (go_at_call 39; refine (CS.out _ B0.out).mono ?_; rintro e w1 ⟨rfl, hb1⟩; have B1 := Lib.hid (B0.out.trans (hb1.mono B0.out.size)); clear hb1)
    go_ret
    exact ⟨rfl, B1.out⟩
  rw [if_neg h1]
  go_enter Tryz.func21, Tryz.ntmps21
  go_wp2_with (first
    | (go_at_call 39; refine (CS.out _ B0.out).mono ?_; rintro e w1 ⟨rfl, hb1⟩; have A1 := Lib.hid (at4_below A0.out hb1); have B1 := Lib.hid (B0.out.trans (hb1.mono B0.out.size)); obtain ⟨c0, c1, c2, c3⟩ := A1.out; clear hb1)
    | (go_at_call 40; refine (CF.out _ B1.out).mono ?_; rintro e w2 ⟨rfl, hb2⟩; have B2 := Lib.hid (B1.out.trans (hb2.mono B1.out.size)); clear hb2))
  go_ret
  exact ⟨rfl, B2.out⟩
end Go.Proofs.YtiaajpdcacdngaaGreatDoor
