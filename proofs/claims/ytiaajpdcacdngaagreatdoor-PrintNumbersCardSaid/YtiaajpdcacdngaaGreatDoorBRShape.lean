/- The walks of the reference's shape. -/
import Derived.Test.YtiaajpdcacdngaaGreatDoorBNode
import Derived.Test.YtiaajpdcacdngaaGreatDoorBRFits
namespace Go.Proofs.YtiaajpdcacdngaaGreatDoor
open Go.RowKit
set_option linter.unusedVariables false
set_option linter.unusedSimpArgs false

theorem lvo_le (s : ByteArray) : Pl.lvo s ≤ 5 := by unfold Pl.lvo Pl.lvL; omega
theorem lev_le (t : Pl.Tr) : t.lev ≤ 7 := by
  unfold Pl.Tr.lev Pl.lv
  have := lvo_le t.text
  omega
/-- What a call answers in every world behind W. -/
abbrev Ans (W : World) (f : FuncId) (a : Array Value) (v : Value) : Prop := ∀ wz, Hid (Below W.heap.size W wz) → Calls Tryz.prog f a wz fun e w' => e = .returned v ∧ Hid (Below W.heap.size W w')
theorem ans_of {W : World} {f : FuncId} {a : Array Value} {v : Value} (h : ∀ wz, Below W.heap.size W wz → Calls Tryz.prog f a wz fun e w' => e = .returned v ∧ Below wz.heap.size wz w') : Ans W f a v :=
  fun wz hz => (h wz hz.out).mono fun e w' ⟨he, hb⟩ => ⟨he, Lib.hid (hz.out.trans (hb.mono hz.out.size))⟩

set_option maxHeartbeats 1600000 in
theorem rlevs_24 (s : ByteArray) (n gc dc : Nat) (ga da : Option Addr) (x y : Pl.Tr) (ks : List Pl.Tr) (R : Nat → Sl) (w : World) (m : Nat) (hm : m = (x :: y :: ks).length) (hl : m ≤ maxLen) (hks : Lies (fun b => b < w.heap.size) w (x :: y :: ks) da R) :
    Calls Tryz.prog 110 #[.agg #[.int .i64 24, .string s, .slice ga n gc, .slice da m dc]] w fun e w' => e = .returned (.bool (Pl.lvls 24 s (x :: y :: ks))) ∧ Below w.heap.size w w' := by
  unfold maxLen at hl
  have hm2 : 2 ≤ m := by rw [hm]; simp
  obtain ⟨b, o, rfl, hb, hx0, hy1⟩ := lies_cons hks
  have hy0 := hy1 y ks rfl
  generalize R 0 = r0 at *
  generalize R 1 = r1 at *
  obtain ⟨v, hv⟩ : ∃ v, v = Pl.lvo s := ⟨_, rfl⟩
  obtain ⟨vx, hvx⟩ : ∃ v, v = x.lev := ⟨_, rfl⟩
  obtain ⟨vy, hvy⟩ : ∃ v, v = y.lev := ⟨_, rfl⟩
  obtain ⟨q, hq⟩ : ∃ q : Bool, q = Pl.lvls 24 s (x :: y :: ks) := ⟨_, rfl⟩
  rw [← hq]
  rw [show Pl.lvls 24 s (x :: y :: ks) = (!(decide (Pl.lvo s = 3) && decide (x.lev = Pl.lvo s)) && decide (Pl.lvo s ≤ x.lev) && decide (Pl.lvo s < y.lev)) from rfl, ← hv, ← hvx, ← hvy] at hq
  have HQ := Lib.hid hq
  obtain ⟨W, hW⟩ : ∃ W, W = w.alloc (.cells #[.int .i64 24, .string s, .slice ga n gc, .slice (some ⟨b, o, none⟩) m dc] 25) := ⟨_, rfl⟩
  have A1 := at4_new w 24 s (.slice ga n gc) (.slice (some ⟨b, o, none⟩) m dc)
  have HBW := Lib.hid (box_below w (.cells #[.int .i64 24, .string s, .slice ga n gc, .slice (some ⟨b, o, none⟩) m dc] 25))
  have X1 := at4_below hx0 HBW.out
  have Y1 := at4_below hy0 HBW.out
  have HSZ : Hid (w.heap.size < (w.alloc (.cells #[.int .i64 24, .string s, .slice ga n gc, .slice (some ⟨b, o, none⟩) m dc] 25)).heap.size) := Lib.hid (by simp)
  rw [← hW] at A1 HBW X1 Y1 HSZ
  have HXR : Hid (∀ wz, Hid (Below W.heap.size W wz) → At4 wz b o x.kind x.text (.slice r0.ga x.gaps.length r0.gc) (.slice r0.da x.kids.length r0.dc)) := Lib.hid fun wz hz => at4_below X1 hz.out
  have HYR : Hid (∀ wz, Hid (Below W.heap.size W wz) → At4 wz b (o + 4) y.kind y.text (.slice r1.ga y.gaps.length r1.gc) (.slice r1.da y.kids.length r1.dc)) := Lib.hid fun wz hz => at4_below Y1 hz.out
  have HBX : Hid (∀ wz, Hid (Below W.heap.size W wz) → wz.cell? ⟨w.heap.size, 3, none⟩ = some (.slice (some ⟨b, o, none⟩) m dc)) := Lib.hid fun wz hz => (at4_below A1 hz.out).2.2.2
  have C0 : Hid (Ans W 131 #[.agg #[.int .i64 24, .string s, .slice ga n gc, .slice (some ⟨b, o, none⟩) m dc]] (.int .i64 v)) := Lib.hid (ans_of fun wz _ => rlevel_is 24 s v hv.symm n m gc dc ga _ wz)
  have C1 : Hid (Ans W 131 #[.agg #[.int .i64 x.kind, .string x.text, .slice r0.ga x.gaps.length r0.gc, .slice r0.da x.kids.length r0.dc]] (.int .i64 vx)) := Lib.hid (ans_of fun wz _ => rlev_is x r0 vx hvx.symm wz)
  have C2 : Hid (Ans W 131 #[.agg #[.int .i64 y.kind, .string y.text, .slice r1.ga y.gaps.length r1.gc, .slice r1.da y.kids.length r1.dc]] (.int .i64 vy)) := Lib.hid (ans_of fun wz _ => rlev_is y r1 vy hvy.symm wz)
  have B0 : Hid (Below W.heap.size W (w.alloc (.cells #[.int .i64 24, .string s, .slice ga n gc, .slice (some ⟨b, o, none⟩) m dc] 25))) := Lib.hid (by rw [← hW]; exact Below.refl _ _)
  have HWE := Lib.hid hW
  have p0 := HBX.out _ B0
  clear hq hv hvx hvy hm hks hy1 hx0 hy0 A1 X1 Y1 hW
  go_enter Tryz.func110, Tryz.ntmps110
  go_wp2_with (first
    | (go_at_call 131; (with_reducible refine (C2.out _ (by assumption)).mono ?_); rintro e w' ⟨rfl, hb2⟩; have p1 := HBX.out _ hb2; obtain ⟨x0, x1, x2, x3⟩ := HXR.out _ hb2; obtain ⟨y0, y1, y2, y3⟩ := HYR.out _ hb2)
    | (go_at_call 131; (with_reducible refine (C1.out _ (by assumption)).mono ?_); rintro e w' ⟨rfl, hb2⟩; have p1 := HBX.out _ hb2; obtain ⟨x0, x1, x2, x3⟩ := HXR.out _ hb2; obtain ⟨y0, y1, y2, y3⟩ := HYR.out _ hb2)
    | (go_at_call 131; (with_reducible refine (C0.out _ (by assumption)).mono ?_); rintro e w' ⟨rfl, hb2⟩; have p1 := HBX.out _ hb2; obtain ⟨x0, x1, x2, x3⟩ := HXR.out _ hb2; obtain ⟨y0, y1, y2, y3⟩ := HYR.out _ hb2))
  all_goals go_ret
  all_goals refine ⟨ret_bool ?_, HBW.out.trans ((by assumption : Hid (Below W.heap.size W _)).out.mono (Nat.le_of_lt HSZ.out))⟩
  all_goals rw [HQ.out, Bool.eq_iff_iff]
  all_goals clear HQ
  all_goals try simp only [beq_iff_eq, beq_eq_false_iff_ne, ne_eq] at *
  all_goals simp only [Bool.and_eq_true, Bool.not_eq_true', Bool.and_eq_false_iff, decide_eq_true_eq, decide_eq_false_iff_not, Bool.false_eq_true, false_iff, beq_iff_eq]
  all_goals omega

set_option maxHeartbeats 1600000 in
theorem rlevs_25 (s : ByteArray) (n gc dc : Nat) (ga da : Option Addr) (x : Pl.Tr) (ks : List Pl.Tr) (R : Nat → Sl) (w : World) (m : Nat) (hm : m = (x :: ks).length) (hl : m ≤ maxLen) (hks : Lies (fun b => b < w.heap.size) w (x :: ks) da R) :
    Calls Tryz.prog 110 #[.agg #[.int .i64 25, .string s, .slice ga n gc, .slice da m dc]] w fun e w' => e = .returned (.bool (decide (6 ≤ x.lev))) ∧ Below w.heap.size w w' := by
  unfold maxLen at hl
  have hm2 : 1 ≤ m := by rw [hm]; simp
  obtain ⟨b, o, rfl, hb, hx0, _⟩ := lies_cons hks
  generalize R 0 = r0 at *
  obtain ⟨vx, hvx⟩ : ∃ v, v = x.lev := ⟨_, rfl⟩
  rw [← hvx]
  have HVX := Lib.hid hvx
  have l1 := Lib.hid (at4_below hx0 (box_below w (.cells #[.int .i64 25, .string s, .slice ga n gc, .slice (some ⟨b, o, none⟩) m dc] 25))).range
  clear hvx hm hks hx0
  go_enter Tryz.func110, Tryz.ntmps110
  go_wp2_with (first
    | (refine wpList_load_mid rfl 25 _ rfl b o rfl [.int .i64 x.kind, .string x.text, .slice r0.ga x.gaps.length r0.gc, .slice r0.da x.kids.length r0.dc] _ l1.out Tryz.underlying25 rfl sizeN ?_)
    | (go_at_call 131; refine (rlev_is x r0 vx HVX.out.symm _).mono ?_; rintro e w' ⟨rfl, hb2⟩; have HB2 := Lib.hid hb2; clear hb2))
  all_goals go_ret
  all_goals exact ⟨rfl, (box_below _ _).trans (HB2.out.mono (by simp))⟩

set_option maxHeartbeats 1600000 in
theorem rlevs_21 (s : ByteArray) (n gc dc : Nat) (ga da : Option Addr) (x : Pl.Tr) (ks : List Pl.Tr) (R : Nat → Sl) (w : World) (m : Nat) (hm : m = (x :: ks).length) (hl : m ≤ maxLen) (hks : Lies (fun b => b < w.heap.size) w (x :: ks) da R) :
    Calls Tryz.prog 110 #[.agg #[.int .i64 21, .string s, .slice ga n gc, .slice da m dc]] w fun e w' => e = .returned (.bool (decide (7 ≤ x.lev))) ∧ Below w.heap.size w w' := by
  unfold maxLen at hl
  have hm2 : 1 ≤ m := by rw [hm]; simp
  obtain ⟨b, o, rfl, hb, hx0, _⟩ := lies_cons hks
  generalize R 0 = r0 at *
  obtain ⟨vx, hvx⟩ : ∃ v, v = x.lev := ⟨_, rfl⟩
  rw [← hvx]
  have HVX := Lib.hid hvx
  have l1 := Lib.hid (at4_below hx0 (box_below w (.cells #[.int .i64 21, .string s, .slice ga n gc, .slice (some ⟨b, o, none⟩) m dc] 25))).range
  clear hvx hm hks hx0
  go_enter Tryz.func110, Tryz.ntmps110
  go_wp2_with (first
    | (refine wpList_load_mid rfl 25 _ rfl b o rfl [.int .i64 x.kind, .string x.text, .slice r0.ga x.gaps.length r0.gc, .slice r0.da x.kids.length r0.dc] _ l1.out Tryz.underlying25 rfl sizeN ?_)
    | (go_at_call 131; refine (rlev_is x r0 vx HVX.out.symm _).mono ?_; rintro e w' ⟨rfl, hb2⟩; have HB2 := Lib.hid hb2; clear hb2))
  all_goals go_ret
  all_goals refine ⟨ret_bool ?_, (box_below _ _).trans (HB2.out.mono (by simp))⟩
  all_goals rw [Bool.eq_iff_iff]
  all_goals have h7 := lev_le x
  all_goals have h8 := HVX.out
  all_goals simp only [beq_iff_eq, decide_eq_true_eq]
  all_goals omega

set_option maxHeartbeats 1600000 in
theorem rlevs_rest (k : Int) (h24 : ¬ k = 24) (h25 : ¬ k = 25) (h21 : ¬ k = 21) (s : ByteArray) (n m gc dc : Nat) (ga da : Option Addr) (w : World) :
    Calls Tryz.prog 110 #[.agg #[.int .i64 k, .string s, .slice ga n gc, .slice da m dc]] w fun e w' => e = .returned (.bool true) ∧ Below w.heap.size w w' := by
  have b24 : (k == 24) = false := beq_eq_false_iff_ne.2 h24
  have b25 : (k == 25) = false := beq_eq_false_iff_ne.2 h25
  have b21 : (k == 21) = false := beq_eq_false_iff_ne.2 h21
  go_enter Tryz.func110, Tryz.ntmps110
  go_wp2_with fail
  go_ret
  exact ⟨rfl, box_below _ _⟩
theorem rlevs_at (k : Int) (s : ByteArray) (n gc dc : Nat) (ga da : Option Addr) (ks : List Pl.Tr) (R : Nat → Sl) (w : World) (hl : ks.length ≤ maxLen) (hks : Lies (fun b => b < w.heap.size) w ks da R) (hle : Pl.least k ≤ ks.length) :
    Calls Tryz.prog 110 #[.agg #[.int .i64 k, .string s, .slice ga n gc, .slice da ks.length dc]] w fun e w' => e = .returned (.bool (Pl.lvls k s ks)) ∧ Below w.heap.size w w' := by
  by_cases h24 : k = 24
  · subst h24
    match ks, hks, hl, hle with
    | [], hks, hl, hle => exact absurd hle (by decide)
    | [x], hks, hl, hle => exact absurd hle (by simp [Pl.least])
    | x :: y :: ks, hks, hl, hle => exact rlevs_24 s n gc dc ga da x y ks R w _ rfl hl hks
  by_cases h25 : k = 25
  · subst h25
    match ks, hks, hl, hle with
    | [], hks, hl, hle => exact absurd hle (by decide)
    | x :: ks, hks, hl, hle => exact rlevs_25 s n gc dc ga da x ks R w _ rfl hl hks
  by_cases h21 : k = 21
  · subst h21
    match ks, hks, hl, hle with
    | [], hks, hl, hle => exact absurd hle (by decide)
    | x :: ks, hks, hl, hle => exact rlevs_21 s n gc dc ga da x ks R w _ rfl hl hks
  rw [show Pl.lvls k s ks = true by unfold Pl.lvls; rw [if_neg h24, if_neg h25, if_neg h21]]
  exact rlevs_rest k h24 h25 h21 s n _ gc dc ga da w
end Go.Proofs.YtiaajpdcacdngaaGreatDoor

namespace Go.Proofs.YtiaajpdcacdngaaGreatDoor
open Go.RowKit
set_option linter.unusedVariables false
set_option linter.unusedSimpArgs false

theorem word_eq (k : Int) (s : ByteArray) (hk : 1 ≤ k ∧ k ≤ 26) : Pl.wordOK k s = (namedB k s || rwordB k s) := by
  unfold Pl.wordOK namedB rwordB
  by_cases h8 : k = 8
  · subst h8
    rw [show Pl.txt 8 = 2 from rfl]
    by_cases hz : s.size = 0 <;> simp [hz]
  rw [if_neg h8]
  by_cases h1 : k = 18 ∨ k = 23 ∨ k = 24 ∨ k = 25
  · have ht : Pl.txt k = 4 := by unfold Pl.txt; omega
    rw [ht, if_neg (by decide), if_pos rfl, if_pos h1, decide_eq_false (by omega), Bool.false_or]
  rw [if_neg h1]
  by_cases h2 : k = 2 ∨ k = 4 ∨ k = 5 ∨ k = 7 ∨ k = 9 ∨ k = 10 ∨ k = 11 ∨ k = 17 ∨ k = 19 ∨ k = 20 ∨ k = 21 ∨ k = 22
  · rw [decide_eq_true h2, Bool.true_or]
    have h0 : Pl.txt k ≠ 0 := by unfold Pl.txt; omega
    have h4 : Pl.txt k ≠ 4 := by unfold Pl.txt; omega
    rw [if_neg h0, if_neg h4]
  · rw [decide_eq_false h2, Bool.false_or]
    have h0 : Pl.txt k = 0 := by unfold Pl.txt; omega
    rw [h0, if_pos rfl]

set_option maxHeartbeats 1600000 in
theorem rshape_out (k : Int) (s : ByteArray) (n m gc dc : Nat) (ga da : Option Addr) (w : World) (hl : m ≤ maxLen) (d : decide (k < 1) = true ∨ decide (k < 1) = false ∧ decide (26 < k) = true) :
    Calls Tryz.prog 80 #[.agg #[.int .i64 k, .string s, .slice ga n gc, .slice da m dc]] w fun e w' => e = .returned (.bool false) ∧ Below w.heap.size w w' := by
  unfold maxLen at hl
  obtain ⟨W, hW⟩ : ∃ W, W = w.alloc (.cells #[.int .i64 k, .string s, .slice ga n gc, .slice da m dc] 25) := ⟨_, rfl⟩
  have A1 := Lib.hid (at4_new w k s (.slice ga n gc) (.slice da m dc))
  have HBW := Lib.hid (box_below w (.cells #[.int .i64 k, .string s, .slice ga n gc, .slice da m dc] 25))
  have HSZ : Hid (w.heap.size < (w.alloc (.cells #[.int .i64 k, .string s, .slice ga n gc, .slice da m dc] 25)).heap.size) := Lib.hid (by simp)
  rw [← hW] at A1 HBW HSZ
  have HWE := Lib.hid hW
  clear hW
  have k0 : ∀ z : Later W, z.u.cell? ⟨w.heap.size, 0, none⟩ = some (.int .i64 k) := fun z => (at4_later A1.out z).1
  rcases d with d1 | ⟨d1, d2⟩
  all_goals
    go_enter Tryz.func80, Tryz.ntmps80
    go_wp2_with fail
    rw [← HWE.out]
    refine region_later (by kernel_rfl) (by kernel_rfl) ?_
    repeat (go_big_quiet_step (fail))
    refine wpQuiet_nil ?_
    intro _ hw'
    obtain ⟨n1, rfl⟩ := hw'
    go_wp2_with fail
    go_ret
    exact ⟨rfl, HBW.out.trans (n1.h.mono (Nat.le_of_lt HSZ.out))⟩
set_option maxHeartbeats 1600000 in
theorem rshape_in (k : Int) (hk : 1 ≤ k ∧ k ≤ 26) (s : ByteArray) (n gc dc : Nat) (ga da : Option Addr) (ks : List Pl.Tr) (R : Nat → Sl) (w : World) (hl : ks.length ≤ maxLen) (hks : Lies (fun b => b < w.heap.size) w ks da R) :
    Calls Tryz.prog 80 #[.agg #[.int .i64 k, .string s, .slice ga n gc, .slice da ks.length dc]] w fun e w' => e = .returned (.bool (decide (Pl.least k ≤ ks.length) && Pl.fitA k 0 ks && (namedB k s || rwordB k s) && Pl.lvls k s ks)) ∧ Below w.heap.size w w' := by
  have HLV : Pl.least k ≤ ks.length → ∀ w2, Below w.heap.size w w2 → Calls Tryz.prog 110 #[.agg #[.int .i64 k, .string s, .slice ga n gc, .slice da ks.length dc]] w2 fun e w' => e = .returned (.bool (Pl.lvls k s ks)) ∧ Below w2.heap.size w2 w' :=
    fun hle w2 hb => rlevs_at k s n gc dc ga da ks R w2 hl (hks.later hb) hle
  unfold maxLen at hl
  have d1 : decide (k < 1) = false := decide_eq_false (by omega)
  have d2 : decide (26 < k) = false := decide_eq_false (by omega)
  obtain ⟨q, hq⟩ : ∃ q, Pl.least k = q := ⟨_, rfl⟩
  rw [hq] at HLV ⊢
  obtain ⟨m, hm⟩ : ∃ m, m = ks.length := ⟨_, rfl⟩
  rw [← hm] at hl HLV ⊢
  have HM := Lib.hid hm
  have HK := Lib.hid hks
  have HQ := Lib.hid hq
  clear hm hks hq
  obtain ⟨W, hW⟩ : ∃ W, W = w.alloc (.cells #[.int .i64 k, .string s, .slice ga n gc, .slice da m dc] 25) := ⟨_, rfl⟩
  have A1 := Lib.hid (at4_new w k s (.slice ga n gc) (.slice da m dc))
  have HBW := Lib.hid (box_below w (.cells #[.int .i64 k, .string s, .slice ga n gc, .slice da m dc] 25))
  have HSZ : Hid (w.heap.size < (w.alloc (.cells #[.int .i64 k, .string s, .slice ga n gc, .slice da m dc] 25)).heap.size) := Lib.hid (by simp)
  rw [← hW] at A1 HBW HSZ
  have HWE := Lib.hid hW
  clear hW
  have k0 : ∀ z : Later W, z.u.cell? ⟨w.heap.size, 0, none⟩ = some (.int .i64 k) := fun z => (at4_later A1.out z).1
  have k3 : ∀ z : Later W, z.u.cell? ⟨w.heap.size, 3, none⟩ = some (.slice da m dc) := fun z => (at4_later A1.out z).2.2.2
  have C0 : ∀ z : Later W, Calls Tryz.prog 107 #[.int .i64 k] z.u fun e w'' => e = .returned (.int .i64 q) ∧ ∃ y : Later W, w'' = y.u :=
    fun z => (rleast_any k z.u).mono fun e w'' ⟨he, hw⟩ => ⟨by rw [he, HQ.out], z, hw.symm⟩
  by_cases hlq : q ≤ m
  case neg =>
    have d3 : decide ((m : Int) < q) = true := decide_eq_true (by omega)
    rw [decide_eq_false hlq, Bool.false_and, Bool.false_and, Bool.false_and]
    go_enter Tryz.func80, Tryz.ntmps80
    go_wp2_with fail
    rw [← HWE.out]
    refine region_later (by kernel_rfl) (by kernel_rfl) ?_
    repeat (first | (go_big_quiet_step (fail)) | (go_big_quiet_step (exact C0 _)))
    refine wpQuiet_nil ?_
    intro _ hw'
    obtain ⟨n1, rfl⟩ := hw'
    go_wp2_with fail
    go_ret
    exact ⟨rfl, HBW.out.trans (n1.h.mono (Nat.le_of_lt HSZ.out))⟩
  have d3 : decide ((m : Int) < q) = false := decide_eq_false (by omega)
  rw [decide_eq_true hlq, Bool.true_and]
  have HL2 := Lib.hid (HLV hlq)
  clear HLV hlq
  obtain ⟨b, hb⟩ : ∃ b, b = Pl.fitA k 0 ks := ⟨_, rfl⟩
  obtain ⟨p1, hp1⟩ : ∃ p, p = namedB k s := ⟨_, rfl⟩
  obtain ⟨p2, hp2⟩ : ∃ p, p = rwordB k s := ⟨_, rfl⟩
  obtain ⟨p3, hp3⟩ : ∃ p, p = Pl.lvls k s ks := ⟨_, rfl⟩
  rw [← hp3] at HL2
  rw [← hb, ← hp1, ← hp2, ← hp3]
  obtain ⟨res, hres⟩ : ∃ res, res = (b && (p1 || p2) && p3) := ⟨_, rfl⟩
  rw [← hres]
  have HB := Lib.hid hb
  have HP1 := Lib.hid hp1
  have HP2 := Lib.hid hp2
  have HRS := Lib.hid hres
  clear hb hp1 hp2 hp3 hres
  go_enter Tryz.func80, Tryz.ntmps80
  go_wp2_with fail
  rw [← HWE.out]
  refine region_later (by kernel_rfl) (by kernel_rfl) ?_
  repeat (first | (go_big_quiet_step (fail)) | (go_big_quiet_step (exact C0 _)))
  refine wpQuiet_nil ?_
  intro _ hw'
  obtain ⟨n1, rfl⟩ := hw'
  have B1 := Lib.hid (HBW.out.trans (n1.h.mono (Nat.le_of_lt HSZ.out)))
  have X1 := Lib.hid (at4_later A1.out n1)
  clear k0 k3 C0
  go_wp2_with fail
  go_loopw [3] (fun i wr => ∃ j : Nat, j ≤ m ∧ i = .int .i64 j ∧ Pl.fitA k j (ks.drop j) = b ∧ Hid (Below w.heap.size w wr) ∧ Hid (At4 wr w.heap.size 0 k s (.slice ga n gc) (.slice da m dc))) (fun i _ => m - (intOf i).toNat)
  case atStart => exact ⟨0, Nat.zero_le _, rfl, HB.out.symm, B1, X1⟩
  case round =>
    obtain ⟨j, hj, rfl, hfit, HBL, HX⟩ := hrel
    have HF := Lib.hid hfit
    clear hfit
    have c3 := HX.out.2.2.2
    by_cases hlt : j < m
    · have hjk : j < ks.length := by rw [← HM.out]; exact hlt
      have hu := List.getElem?_eq_getElem hjk
      have HD := Lib.hid (fitA_drop k ks j hjk)
      rcases HK.out with h0 | ⟨b1, o1, rfl, hb1, hat⟩
      · rw [h0] at hjk; simp at hjk
      have l1 := At4.keep (hat j _ hu) (Same.below HBL.out fun _ h => h) hb1
      generalize ks[j] = u at *
      generalize R j = r1 at *
      obtain ⟨ga1, gc1, da1, dc1⟩ := r1
      obtain ⟨f, hf⟩ : ∃ f, f = Pl.fits k j u.kind := ⟨_, rfl⟩
      rw [← hf] at HD
      have HFF := Lib.hid hf
      have k0 : ∀ z : Later wr, z.u.cell? ⟨w.heap.size, 0, none⟩ = some (.int .i64 k) := fun z => (at4_later HX.out z).1
      have k3 : ∀ z : Later wr, z.u.cell? ⟨w.heap.size, 3, none⟩ = some (.slice (some ⟨b1, o1, none⟩) m dc) := fun z => (at4_later HX.out z).2.2.2
      have u0 : ∀ z : Later wr, z.u.cell? ⟨b1, o1 + j * 4, none⟩ = some (.int .i64 u.kind) := fun z => (at4_later l1 z).1
      have C0 : ∀ z : Later wr, Calls Tryz.prog 108 #[.int .i64 k, .int .i64 j, .int .i64 u.kind] z.u fun e w'' => e = .returned (.bool f) ∧ ∃ y : Later wr, w'' = y.u :=
        fun z => (rfits_is k j u.kind f HFF.out.symm z.u).mono fun e w'' ⟨he, hw⟩ => ⟨he, z, hw.symm⟩
      clear hf hat hu l1
      go_wp2_with fail
      refine region_later (by kernel_rfl) (by kernel_rfl) ?_
      repeat (first | (go_big_quiet_step (fail)) | (go_big_quiet_step (exact C0 _)))
      refine wpQuiet_nil ?_
      intro _ hw'
      obtain ⟨n2, rfl⟩ := hw'
      have B2 := Lib.hid (HBL.out.trans (n2.h.mono HBL.out.size))
      have X2 := Lib.hid (at4_later HX.out n2)
      clear k0 k3 u0 C0 c3
      cases f
      · have HNo : Hid (b = false) := Lib.hid (by rw [← HF.out, HD.out, Bool.false_and])
        go_wp2_with fail
        go_ret
        exact ⟨ret_bool (by rw [HRS.out, HNo.out]; rfl), B2.out⟩
      · have HYes : Hid (Pl.fitA k (j + 1) (ks.drop (j + 1)) = b) := Lib.hid (by rw [← HF.out, HD.out, Bool.true_and])
        go_wp2_with fail
        exact ⟨⟨j + 1, by omega, by go_num, HYes.out, B2, X2⟩, by simp [intOf]; omega⟩
    · obtain rfl : j = m := by omega
      have HYes : b = true := by
        have e := HF.out
        rw [List.drop_of_length_le (by rw [HM.out]; exact Nat.le_refl _)] at e
        exact e.symm
      subst HYes
      obtain ⟨c0, c1, c2, _⟩ := HX.out
      cases p1
      case true =>
        go_wp2_with (first
          | (go_at_call 110; have g9 := B5.out; clear g9; refine (HL2.out _ B5.out).mono ?_; rintro e w6 ⟨rfl, hb6⟩; have B6 := Lib.hid (B5.out.trans (hb6.mono B5.out.size)); clear hb6)
          | (go_at_call 82; refine (named_is k s _ HP1.out.symm _ _ _ _ _ _ _).mono ?_; rintro e w5 ⟨rfl, hb5⟩; have B5 := Lib.hid (HBL.out.trans (hb5.mono HBL.out.size)); have X5 := Lib.hid (at4_below HX.out hb5); obtain ⟨e0, e1, e2, e3⟩ := X5.out; clear hb5))
        go_ret
        exact ⟨ret_bool (by rw [HRS.out]; rfl), B6.out⟩
      cases p2
      · go_wp2_with (first
          | (go_at_call 109; refine (rword_is k s _ HP2.out.symm _ _ _ _ _ _ _).mono ?_; rintro e w6 ⟨rfl, hb6⟩; have B6 := Lib.hid (B5.out.trans (hb6.mono B5.out.size)); clear hb6)
          | (go_at_call 82; refine (named_is k s _ HP1.out.symm _ _ _ _ _ _ _).mono ?_; rintro e w5 ⟨rfl, hb5⟩; have B5 := Lib.hid (HBL.out.trans (hb5.mono HBL.out.size)); have X5 := Lib.hid (at4_below HX.out hb5); obtain ⟨e0, e1, e2, e3⟩ := X5.out; clear hb5))
        go_ret
        exact ⟨ret_bool (by rw [HRS.out]; rfl), B6.out⟩
      · go_wp2_with (first
          | (go_at_call 110; refine (HL2.out _ B6.out).mono ?_; rintro e w7 ⟨rfl, hb7⟩; have B7 := Lib.hid (B6.out.trans (hb7.mono B6.out.size)); clear hb7)
          | (go_at_call 109; refine (rword_is k s _ HP2.out.symm _ _ _ _ _ _ _).mono ?_; rintro e w6 ⟨rfl, hb6⟩; have B6 := Lib.hid (B5.out.trans (hb6.mono B5.out.size)); have X6 := Lib.hid (at4_below X5.out hb6); obtain ⟨g0, g1, g2, g3⟩ := X6.out; clear hb6)
          | (go_at_call 82; refine (named_is k s _ HP1.out.symm _ _ _ _ _ _ _).mono ?_; rintro e w5 ⟨rfl, hb5⟩; have B5 := Lib.hid (HBL.out.trans (hb5.mono HBL.out.size)); have X5 := Lib.hid (at4_below HX.out hb5); obtain ⟨e0, e1, e2, e3⟩ := X5.out; clear hb5))
        go_ret
        exact ⟨ret_bool (by rw [HRS.out]; rfl), B7.out⟩
theorem rshape_at (k : Int) (s : ByteArray) (n gc dc : Nat) (ga da : Option Addr) (ks : List Pl.Tr) (R : Nat → Sl) (w : World) (hl : ks.length ≤ maxLen) (hks : Lies (fun b => b < w.heap.size) w ks da R) :
    Calls Tryz.prog 80 #[.agg #[.int .i64 k, .string s, .slice ga n gc, .slice da ks.length dc]] w fun e w' => e = .returned (.bool (Pl.shape k s ks)) ∧ Below w.heap.size w w' := by
  unfold Pl.shape
  by_cases hk : 1 ≤ k ∧ k ≤ 26
  · rw [decide_eq_true hk, Bool.true_and, word_eq k s hk]
    exact rshape_in k hk s n gc dc ga da ks R w hl hks
  · rw [decide_eq_false hk, Bool.false_and, Bool.false_and, Bool.false_and, Bool.false_and]
    refine rshape_out k s n _ gc dc ga da w hl ?_
    by_cases h1 : k < 1
    · exact .inl (decide_eq_true h1)
    · exact .inr ⟨decide_eq_false h1, decide_eq_true (by omega)⟩
theorem rshape_is (k : Int) (s : ByteArray) (n gc dc : Nat) (ga da : Option Addr) (ks : List Pl.Tr) (R : Nat → Sl) (b : Bool) (hb : Pl.shape k s ks = b) (w : World) (hl : ks.length ≤ maxLen) (hks : Lies (fun b => b < w.heap.size) w ks da R) :
    Calls Tryz.prog 80 #[.agg #[.int .i64 k, .string s, .slice ga n gc, .slice da ks.length dc]] w fun e w' => e = .returned (.bool b) ∧ Below w.heap.size w w' := hb ▸ rshape_at k s n gc dc ga da ks R w hl hks
end Go.Proofs.YtiaajpdcacdngaaGreatDoor
