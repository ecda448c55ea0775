/- The walk of the reference's shape. -/
import Derived.Test.YtmfmlkdojgbhfaaDoorWalkRLevs
import Derived.Test.YtmfmlkdojgbhfaaDoorWalkRFits
namespace Go.Proofs.YtmfmlkdojgbhfaaDoor
open Go.RowKit
set_option linter.unusedVariables false
set_option linter.unusedSimpArgs false

theorem word_eq (k : Int) (s : ByteArray) (hk : 1 ≤ k ∧ k ≤ 26) : Pl.wordOK k s = (namedB k s || rwordB k s) := by
  unfold Pl.wordOK namedB rwordB
  by_cases h8 : k = 8
  · subst h8
    rw [show Pl.txt 8 = 2 from rfl]
    by_cases hz : s.size = 0 <;> simp [hz]
  rw [if_neg h8]
  by_cases h1 : k = 18 ∨ k = 23 ∨ k = 24 ∨ k = 25
  · have ht : Pl.txt k = 4 := by unfold Pl.txt; omega
    rw [ht, if_neg (by decide), if_pos rfl, if_pos h1, decide_eq_false (by omega), Bool.false_or]
  rw [if_neg h1]
  by_cases h2 : k = 2 ∨ k = 4 ∨ k = 5 ∨ k = 7 ∨ k = 9 ∨ k = 10 ∨ k = 11 ∨ k = 17 ∨ k = 19 ∨ k = 20 ∨ k = 21 ∨ k = 22
  · rw [decide_eq_true h2, Bool.true_or]
    have h0 : Pl.txt k ≠ 0 := by unfold Pl.txt; omega
    have h4 : Pl.txt k ≠ 4 := by unfold Pl.txt; omega
    rw [if_neg h0, if_neg h4]
  · rw [decide_eq_false h2, Bool.false_or]
    have h0 : Pl.txt k = 0 := by unfold Pl.txt; omega
    rw [h0, if_pos rfl]

set_option maxHeartbeats 1600000 in
theorem rshape_out (k : Int) (s : ByteArray) (n m gc dc : Nat) (ga da : Option Addr) (w : World) (hl : m ≤ maxLen) (d : decide (k < 1) = true ∨ decide (k < 1) = false ∧ decide (26 < k) = true) :
    Calls Tryd.prog 47 #[.agg #[.int .i64 k, .string s, .slice ga n gc, .slice da m dc]] w fun e w' => e = .returned (.bool false) ∧ Below w.heap.size w w' := by
  unfold maxLen at hl
  obtain ⟨W, hW⟩ : ∃ W, W = w.alloc (.cells #[.int .i64 k, .string s, .slice ga n gc, .slice da m dc] 25) := ⟨_, rfl⟩
  have A1 := Lib.hid (at4_new w k s (.slice ga n gc) (.slice da m dc))
  have HBW := Lib.hid (box_below w (.cells #[.int .i64 k, .string s, .slice ga n gc, .slice da m dc] 25))
  have HSZ : Hid (w.heap.size < (w.alloc (.cells #[.int .i64 k, .string s, .slice ga n gc, .slice da m dc] 25)).heap.size) := Lib.hid (by simp)
  rw [← hW] at A1 HBW HSZ
  have HWE := Lib.hid hW
  clear hW
  have k0 : ∀ z : Later W, z.u.cell? ⟨w.heap.size, 0, none⟩ = some (.int .i64 k) := fun z => (at4_later A1.out z).1
  rcases d with d1 | ⟨d1, d2⟩
  all_goals
    go_enter Tryd.func47, Tryd.ntmps47
    go_wp2_with fail
    rw [← HWE.out]
    refine region_later (by kernel_rfl) (by kernel_rfl) ?_
    repeat (go_big_quiet_step (fail))
    refine wpQuiet_nil ?_
    intro _ hw'
    obtain ⟨n1, rfl⟩ := hw'
    go_wp2_with fail
    go_ret
    exact ⟨rfl, HBW.out.trans (n1.h.mono (Nat.le_of_lt HSZ.out))⟩
set_option maxHeartbeats 1600000 in
theorem rshape_in (k : Int) (hk : 1 ≤ k ∧ k ≤ 26) (s : ByteArray) (n gc dc : Nat) (ga da : Option Addr) (ks : List Pl.Tr) (R : Nat → Sl) (w : World) (hl : ks.length ≤ maxLen) (hks : Lies (fun b => b < w.heap.size) w ks da R) :
    Calls Tryd.prog 47 #[.agg #[.int .i64 k, .string s, .slice ga n gc, .slice da ks.length dc]] w fun e w' => e = .returned (.bool (decide (Pl.least k ≤ ks.length) && Pl.fitA k 0 ks && (namedB k s || rwordB k s) && Pl.lvls k s ks)) ∧ Below w.heap.size w w' := by
  have HLV : Pl.least k ≤ ks.length → ∀ w2, Below w.heap.size w w2 → Calls Tryd.prog 59 #[.agg #[.int .i64 k, .string s, .slice ga n gc, .slice da ks.length dc]] w2 fun e w' => e = .returned (.bool (Pl.lvls k s ks)) ∧ Below w2.heap.size w2 w' :=
    fun hle w2 hb => rlevs_at k s n gc dc ga da ks R w2 hl (hks.later hb) hle
  unfold maxLen at hl
  have d1 : decide (k < 1) = false := decide_eq_false (by omega)
  have d2 : decide (26 < k) = false := decide_eq_false (by omega)
  obtain ⟨q, hq⟩ : ∃ q, Pl.least k = q := ⟨_, rfl⟩
  rw [hq] at HLV ⊢
  obtain ⟨m, hm⟩ : ∃ m, m = ks.length := ⟨_, rfl⟩
  rw [← hm] at hl HLV ⊢
  have HM := Lib.hid hm
  have HK := Lib.hid hks
  have HQ := Lib.hid hq
  clear hm hks hq
  obtain ⟨W, hW⟩ : ∃ W, W = w.alloc (.cells #[.int .i64 k, .string s, .slice ga n gc, .slice da m dc] 25) := ⟨_, rfl⟩
  have A1 := Lib.hid (at4_new w k s (.slice ga n gc) (.slice da m dc))
  have HBW := Lib.hid (box_below w (.cells #[.int .i64 k, .string s, .slice ga n gc, .slice da m dc] 25))
  have HSZ : Hid (w.heap.size < (w.alloc (.cells #[.int .i64 k, .string s, .slice ga n gc, .slice da m dc] 25)).heap.size) := Lib.hid (by simp)
  rw [← hW] at A1 HBW HSZ
  have HWE := Lib.hid hW
  clear hW
  have k0 : ∀ z : Later W, z.u.cell? ⟨w.heap.size, 0, none⟩ = some (.int .i64 k) := fun z => (at4_later A1.out z).1
  have k3 : ∀ z : Later W, z.u.cell? ⟨w.heap.size, 3, none⟩ = some (.slice da m dc) := fun z => (at4_later A1.out z).2.2.2
  have C0 : ∀ z : Later W, Calls Tryd.prog 57 #[.int .i64 k] z.u fun e w'' => e = .returned (.int .i64 q) ∧ ∃ y : Later W, w'' = y.u :=
    fun z => (rleast_any k z.u).mono fun e w'' ⟨he, hw⟩ => ⟨by rw [he, HQ.out], z, hw.symm⟩
  by_cases hlq : q ≤ m
  case neg =>
    have d3 : decide ((m : Int) < q) = true := decide_eq_true (by omega)
    rw [decide_eq_false hlq, Bool.false_and, Bool.false_and, Bool.false_and]
    go_enter Tryd.func47, Tryd.ntmps47
    go_wp2_with fail
    rw [← HWE.out]
    refine region_later (by kernel_rfl) (by kernel_rfl) ?_
    repeat (first | (go_big_quiet_step (fail)) | (go_big_quiet_step (exact C0 _)))
    refine wpQuiet_nil ?_
    intro _ hw'
    obtain ⟨n1, rfl⟩ := hw'
    go_wp2_with fail
    go_ret
    exact ⟨rfl, HBW.out.trans (n1.h.mono (Nat.le_of_lt HSZ.out))⟩
  have d3 : decide ((m : Int) < q) = false := decide_eq_false (by omega)
  rw [decide_eq_true hlq, Bool.true_and]
  have HL2 := Lib.hid (HLV hlq)
  clear HLV hlq
  obtain ⟨b, hb⟩ : ∃ b, b = Pl.fitA k 0 ks := ⟨_, rfl⟩
  obtain ⟨p1, hp1⟩ : ∃ p, p = namedB k s := ⟨_, rfl⟩
  obtain ⟨p2, hp2⟩ : ∃ p, p = rwordB k s := ⟨_, rfl⟩
  obtain ⟨p3, hp3⟩ : ∃ p, p = Pl.lvls k s ks := ⟨_, rfl⟩
  rw [← hp3] at HL2
  rw [← hb, ← hp1, ← hp2, ← hp3]
  obtain ⟨res, hres⟩ : ∃ res, res = (b && (p1 || p2) && p3) := ⟨_, rfl⟩
  rw [← hres]
  have HB := Lib.hid hb
  have HP1 := Lib.hid hp1
  have HP2 := Lib.hid hp2
  have HRS := Lib.hid hres
  clear hb hp1 hp2 hp3 hres
  go_enter Tryd.func47, Tryd.ntmps47
  go_wp2_with fail
  rw [← HWE.out]
  refine region_later (by kernel_rfl) (by kernel_rfl) ?_
  repeat (first | (go_big_quiet_step (fail)) | (go_big_quiet_step (exact C0 _)))
  refine wpQuiet_nil ?_
  intro _ hw'
  obtain ⟨n1, rfl⟩ := hw'
  have B1 := Lib.hid (HBW.out.trans (n1.h.mono (Nat.le_of_lt HSZ.out)))
  have X1 := Lib.hid (at4_later A1.out n1)
  clear k0 k3 C0
  go_wp2_with fail
  go_loopw [3] (fun i wr => ∃ j : Nat, j ≤ m ∧ i = .int .i64 j ∧ Pl.fitA k j (ks.drop j) = b ∧ Hid (Below w.heap.size w wr) ∧ Hid (At4 wr w.heap.size 0 k s (.slice ga n gc) (.slice da m dc))) (fun i _ => m - (intOf i).toNat)
  case atStart => exact ⟨0, Nat.zero_le _, rfl, HB.out.symm, B1, X1⟩
  case round =>
    obtain ⟨j, hj, rfl, hfit, HBL, HX⟩ := hrel
    have HF := Lib.hid hfit
    clear hfit
    have c3 := HX.out.2.2.2
    by_cases hlt : j < m
    · have hjk : j < ks.length := by rw [← HM.out]; exact hlt
      have hu := List.getElem?_eq_getElem hjk
      have HD := Lib.hid (fitA_drop k ks j hjk)
      rcases HK.out with h0 | ⟨b1, o1, rfl, hb1, hat⟩
      · rw [h0] at hjk; simp at hjk
      have l1 := At4.keep (hat j _ hu) (Same.below HBL.out fun _ h => h) hb1
      generalize ks[j] = u at *
      generalize R j = r1 at *
      obtain ⟨ga1, gc1, da1, dc1⟩ := r1
      obtain ⟨f, hf⟩ : ∃ f, f = Pl.fits k j u.kind := ⟨_, rfl⟩
      rw [← hf] at HD
      have HFF := Lib.hid hf
      have k0 : ∀ z : Later wr, z.u.cell? ⟨w.heap.size, 0, none⟩ = some (.int .i64 k) := fun z => (at4_later HX.out z).1
      have k3 : ∀ z : Later wr, z.u.cell? ⟨w.heap.size, 3, none⟩ = some (.slice (some ⟨b1, o1, none⟩) m dc) := fun z => (at4_later HX.out z).2.2.2
      have u0 : ∀ z : Later wr, z.u.cell? ⟨b1, o1 + j * 4, none⟩ = some (.int .i64 u.kind) := fun z => (at4_later l1 z).1
      have C0 : ∀ z : Later wr, Calls Tryd.prog 18 #[.int .i64 k, .int .i64 j, .int .i64 u.kind] z.u fun e w'' => e = .returned (.bool f) ∧ ∃ y : Later wr, w'' = y.u :=
        fun z => (rfits_is k j u.kind f HFF.out.symm z.u).mono fun e w'' ⟨he, hw⟩ => ⟨he, z, hw.symm⟩
      clear hf hat hu l1
      go_wp2_with fail
      refine region_later (by kernel_rfl) (by kernel_rfl) ?_
      repeat (first | (go_big_quiet_step (fail)) | (go_big_quiet_step (exact C0 _)))
      refine wpQuiet_nil ?_
      intro _ hw'
      obtain ⟨n2, rfl⟩ := hw'
      have B2 := Lib.hid (HBL.out.trans (n2.h.mono HBL.out.size))
      have X2 := Lib.hid (at4_later HX.out n2)
      clear k0 k3 u0 C0 c3
      cases f
      · have HNo : Hid (b = false) := Lib.hid (by rw [← HF.out, HD.out, Bool.false_and])
        go_wp2_with fail
        go_ret
        exact ⟨ret_bool (by rw [HRS.out, HNo.out]; rfl), B2.out⟩
      · have HYes : Hid (Pl.fitA k (j + 1) (ks.drop (j + 1)) = b) := Lib.hid (by rw [← HF.out, HD.out, Bool.true_and])
        go_wp2_with fail
        exact ⟨⟨j + 1, by omega, by go_num, HYes.out, B2, X2⟩, by simp [intOf]; omega⟩
    · obtain rfl : j = m := by omega
      have HYes : b = true := by
        have e := HF.out
        rw [List.drop_of_length_le (by rw [HM.out]; exact Nat.le_refl _)] at e
        exact e.symm
      subst HYes
      obtain ⟨c0, c1, c2, _⟩ := HX.out
      cases p1
      case true =>
        go_wp2_with (first
          | (go_at_call 59; have g9 := B5.out; clear g9; refine (HL2.out _ B5.out).mono ?_; rintro e w6 ⟨rfl, hb6⟩; have B6 := Lib.hid (B5.out.trans (hb6.mono B5.out.size)); clear hb6)
          | (go_at_call 49; refine (named_is k s _ HP1.out.symm _ _ _ _ _ _ _).mono ?_; rintro e w5 ⟨rfl, hb5⟩; have B5 := Lib.hid (HBL.out.trans (hb5.mono HBL.out.size)); have X5 := Lib.hid (at4_below HX.out hb5); obtain ⟨e0, e1, e2, e3⟩ := X5.out; clear hb5))
        go_ret
        exact ⟨ret_bool (by rw [HRS.out]; rfl), B6.out⟩
      cases p2
      · go_wp2_with (first
          | (go_at_call 58; refine (rword_is k s _ HP2.out.symm _ _ _ _ _ _ _).mono ?_; rintro e w6 ⟨rfl, hb6⟩; have B6 := Lib.hid (B5.out.trans (hb6.mono B5.out.size)); clear hb6)
          | (go_at_call 49; refine (named_is k s _ HP1.out.symm _ _ _ _ _ _ _).mono ?_; rintro e w5 ⟨rfl, hb5⟩; have B5 := Lib.hid (HBL.out.trans (hb5.mono HBL.out.size)); have X5 := Lib.hid (at4_below HX.out hb5); obtain ⟨e0, e1, e2, e3⟩ := X5.out; clear hb5))
        go_ret
        exact ⟨ret_bool (by rw [HRS.out]; rfl), B6.out⟩
      · go_wp2_with (first
          | (go_at_call 59; refine (HL2.out _ B6.out).mono ?_; rintro e w7 ⟨rfl, hb7⟩; have B7 := Lib.hid (B6.out.trans (hb7.mono B6.out.size)); clear hb7)
          | (go_at_call 58; refine (rword_is k s _ HP2.out.symm _ _ _ _ _ _ _).mono ?_; rintro e w6 ⟨rfl, hb6⟩; have B6 := Lib.hid (B5.out.trans (hb6.mono B5.out.size)); have X6 := Lib.hid (at4_below X5.out hb6); obtain ⟨g0, g1, g2, g3⟩ := X6.out; clear hb6)
          | (go_at_call 49; refine (named_is k s _ HP1.out.symm _ _ _ _ _ _ _).mono ?_; rintro e w5 ⟨rfl, hb5⟩; have B5 := Lib.hid (HBL.out.trans (hb5.mono HBL.out.size)); have X5 := Lib.hid (at4_below HX.out hb5); obtain ⟨e0, e1, e2, e3⟩ := X5.out; clear hb5))
        go_ret
        exact ⟨ret_bool (by rw [HRS.out]; rfl), B7.out⟩
theorem rshape_at (k : Int) (s : ByteArray) (n gc dc : Nat) (ga da : Option Addr) (ks : List Pl.Tr) (R : Nat → Sl) (w : World) (hl : ks.length ≤ maxLen) (hks : Lies (fun b => b < w.heap.size) w ks da R) :
    Calls Tryd.prog 47 #[.agg #[.int .i64 k, .string s, .slice ga n gc, .slice da ks.length dc]] w fun e w' => e = .returned (.bool (Pl.shape k s ks)) ∧ Below w.heap.size w w' := by
  unfold Pl.shape
  by_cases hk : 1 ≤ k ∧ k ≤ 26
  · rw [decide_eq_true hk, Bool.true_and, word_eq k s hk]
    exact rshape_in k hk s n gc dc ga da ks R w hl hks
  · rw [decide_eq_false hk, Bool.false_and, Bool.false_and, Bool.false_and, Bool.false_and]
    refine rshape_out k s n _ gc dc ga da w hl ?_
    by_cases h1 : k < 1
    · exact .inl (decide_eq_true h1)
    · exact .inr ⟨decide_eq_false h1, decide_eq_true (by omega)⟩
theorem rshape_is (k : Int) (s : ByteArray) (n gc dc : Nat) (ga da : Option Addr) (ks : List Pl.Tr) (R : Nat → Sl) (b : Bool) (hb : Pl.shape k s ks = b) (w : World) (hl : ks.length ≤ maxLen) (hks : Lies (fun b => b < w.heap.size) w ks da R) :
    Calls Tryd.prog 47 #[.agg #[.int .i64 k, .string s, .slice ga n gc, .slice da ks.length dc]] w fun e w' => e = .returned (.bool b) ∧ Below w.heap.size w w' := hb ▸ rshape_at k s n gc dc ga da ks R w hl hks
end Go.Proofs.YtmfmlkdojgbhfaaDoor
