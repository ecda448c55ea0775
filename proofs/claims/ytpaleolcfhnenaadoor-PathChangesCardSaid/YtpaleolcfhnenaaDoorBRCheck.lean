/- The walks of the reference's shape. -/
import Derived.Test.YtpaleolcfhnenaaDoorBNode
import Derived.Test.YtpaleolcfhnenaaDoorBRFits
import Derived.Test.YtpaleolcfhnenaaDoorBCheck
namespace Go.Proofs.YtpaleolcfhnenaaDoor
open Go.RowKit
set_option linter.unusedVariables false
set_option linter.unusedSimpArgs false

theorem lvo_le (s : ByteArray) : Pl.lvo s ≤ 5 := by unfold Pl.lvo Pl.lvL; omega
theorem lev_le (t : Pl.Tr) : t.lev ≤ 7 := by
  unfold Pl.Tr.lev Pl.lv
  have := lvo_le t.text
  omega
/-- What a call answers in every world behind W. -/
abbrev Ans (W : World) (f : FuncId) (a : Array Value) (v : Value) : Prop := ∀ wz, Hid (Below W.heap.size W wz) → Calls Tryd.prog f a wz fun e w' => e = .returned v ∧ Hid (Below W.heap.size W w')
theorem ans_of {W : World} {f : FuncId} {a : Array Value} {v : Value} (h : ∀ wz, Below W.heap.size W wz → Calls Tryd.prog f a wz fun e w' => e = .returned v ∧ Below wz.heap.size wz w') : Ans W f a v :=
  fun wz hz => (h wz hz.out).mono fun e w' ⟨he, hb⟩ => ⟨he, Lib.hid (hz.out.trans (hb.mono hz.out.size))⟩

set_option maxHeartbeats 1600000 in
theorem rlevs_24 (s : ByteArray) (n gc dc : Nat) (ga da : Option Addr) (x y : Pl.Tr) (ks : List Pl.Tr) (R : Nat → Sl) (w : World) (m : Nat) (hm : m = (x :: y :: ks).length) (hl : m ≤ maxLen) (hks : Lies (fun b => b < w.heap.size) w (x :: y :: ks) da R) :
    Calls Tryd.prog 81 #[.agg #[.int .i64 24, .string s, .slice ga n gc, .slice da m dc]] w fun e w' => e = .returned (.bool (Pl.lvls 24 s (x :: y :: ks))) ∧ Below w.heap.size w w' := by
  unfold maxLen at hl
  have hm2 : 2 ≤ m := by rw [hm]; simp
  obtain ⟨b, o, rfl, hb, hx0, hy1⟩ := lies_cons hks
  have hy0 := hy1 y ks rfl
  generalize R 0 = r0 at *
  generalize R 1 = r1 at *
  obtain ⟨v, hv⟩ : ∃ v, v = Pl.lvo s := ⟨_, rfl⟩
  obtain ⟨vx, hvx⟩ : ∃ v, v = x.lev := ⟨_, rfl⟩
  obtain ⟨vy, hvy⟩ : ∃ v, v = y.lev := ⟨_, rfl⟩
  obtain ⟨q, hq⟩ : ∃ q : Bool, q = Pl.lvls 24 s (x :: y :: ks) := ⟨_, rfl⟩
  rw [← hq]
  rw [show Pl.lvls 24 s (x :: y :: ks) = (!(decide (Pl.lvo s = 3) && decide (x.lev = Pl.lvo s)) && decide (Pl.lvo s ≤ x.lev) && decide (Pl.lvo s < y.lev)) from rfl, ← hv, ← hvx, ← hvy] at hq
  have HQ := Lib.hid hq
  obtain ⟨W, hW⟩ : ∃ W, W = w.alloc (.cells #[.int .i64 24, .string s, .slice ga n gc, .slice (some ⟨b, o, none⟩) m dc] 25) := ⟨_, rfl⟩
  have A1 := at4_new w 24 s (.slice ga n gc) (.slice (some ⟨b, o, none⟩) m dc)
  have HBW := Lib.hid (box_below w (.cells #[.int .i64 24, .string s, .slice ga n gc, .slice (some ⟨b, o, none⟩) m dc] 25))
  have X1 := at4_below hx0 HBW.out
  have Y1 := at4_below hy0 HBW.out
  have HSZ : Hid (w.heap.size < (w.alloc (.cells #[.int .i64 24, .string s, .slice ga n gc, .slice (some ⟨b, o, none⟩) m dc] 25)).heap.size) := Lib.hid (by simp)
  rw [← hW] at A1 HBW X1 Y1 HSZ
  have HXR : Hid (∀ wz, Hid (Below W.heap.size W wz) → At4 wz b o x.kind x.text (.slice r0.ga x.gaps.length r0.gc) (.slice r0.da x.kids.length r0.dc)) := Lib.hid fun wz hz => at4_below X1 hz.out
  have HYR : Hid (∀ wz, Hid (Below W.heap.size W wz) → At4 wz b (o + 4) y.kind y.text (.slice r1.ga y.gaps.length r1.gc) (.slice r1.da y.kids.length r1.dc)) := Lib.hid fun wz hz => at4_below Y1 hz.out
  have HBX : Hid (∀ wz, Hid (Below W.heap.size W wz) → wz.cell? ⟨w.heap.size, 3, none⟩ = some (.slice (some ⟨b, o, none⟩) m dc)) := Lib.hid fun wz hz => (at4_below A1 hz.out).2.2.2
  have C0 : Hid (Ans W 92 #[.agg #[.int .i64 24, .string s, .slice ga n gc, .slice (some ⟨b, o, none⟩) m dc]] (.int .i64 v)) := Lib.hid (ans_of fun wz _ => rlevel_is 24 s v hv.symm n m gc dc ga _ wz)
  have C1 : Hid (Ans W 92 #[.agg #[.int .i64 x.kind, .string x.text, .slice r0.ga x.gaps.length r0.gc, .slice r0.da x.kids.length r0.dc]] (.int .i64 vx)) := Lib.hid (ans_of fun wz _ => rlev_is x r0 vx hvx.symm wz)
  have C2 : Hid (Ans W 92 #[.agg #[.int .i64 y.kind, .string y.text, .slice r1.ga y.gaps.length r1.gc, .slice r1.da y.kids.length r1.dc]] (.int .i64 vy)) := Lib.hid (ans_of fun wz _ => rlev_is y r1 vy hvy.symm wz)
  have B0 : Hid (Below W.heap.size W (w.alloc (.cells #[.int .i64 24, .string s, .slice ga n gc, .slice (some ⟨b, o, none⟩) m dc] 25))) := Lib.hid (by rw [← hW]; exact Below.refl _ _)
  have HWE := Lib.hid hW
  have p0 := HBX.out _ B0
  clear hq hv hvx hvy hm hks hy1 hx0 hy0 A1 X1 Y1 hW
  go_enter Tryd.func81, Tryd.ntmps81
  go_wp2_with (first
    | (go_at_call 92; (with_reducible refine (C2.out _ (by assumption)).mono ?_); rintro e w' ⟨rfl, hb2⟩; have p1 := HBX.out _ hb2; obtain ⟨x0, x1, x2, x3⟩ := HXR.out _ hb2; obtain ⟨y0, y1, y2, y3⟩ := HYR.out _ hb2)
    | (go_at_call 92; (with_reducible refine (C1.out _ (by assumption)).mono ?_); rintro e w' ⟨rfl, hb2⟩; have p1 := HBX.out _ hb2; obtain ⟨x0, x1, x2, x3⟩ := HXR.out _ hb2; obtain ⟨y0, y1, y2, y3⟩ := HYR.out _ hb2)
    | (go_at_call 92; (with_reducible refine (C0.out _ (by assumption)).mono ?_); rintro e w' ⟨rfl, hb2⟩; have p1 := HBX.out _ hb2; obtain ⟨x0, x1, x2, x3⟩ := HXR.out _ hb2; obtain ⟨y0, y1, y2, y3⟩ := HYR.out _ hb2))
  all_goals go_ret
  all_goals refine ⟨ret_bool ?_, HBW.out.trans ((by assumption : Hid (Below W.heap.size W _)).out.mono (Nat.le_of_lt HSZ.out))⟩
  all_goals rw [HQ.out, Bool.eq_iff_iff]
  all_goals clear HQ
  all_goals try simp only [beq_iff_eq, beq_eq_false_iff_ne, ne_eq] at *
  all_goals simp only [Bool.and_eq_true, Bool.not_eq_true', Bool.and_eq_false_iff, decide_eq_true_eq, decide_eq_false_iff_not, Bool.false_eq_true, false_iff, beq_iff_eq]
  all_goals omega

set_option maxHeartbeats 1600000 in
theorem rlevs_25 (s : ByteArray) (n gc dc : Nat) (ga da : Option Addr) (x : Pl.Tr) (ks : List Pl.Tr) (R : Nat → Sl) (w : World) (m : Nat) (hm : m = (x :: ks).length) (hl : m ≤ maxLen) (hks : Lies (fun b => b < w.heap.size) w (x :: ks) da R) :
    Calls Tryd.prog 81 #[.agg #[.int .i64 25, .string s, .slice ga n gc, .slice da m dc]] w fun e w' => e = .returned (.bool (decide (6 ≤ x.lev))) ∧ Below w.heap.size w w' := by
  unfold maxLen at hl
  have hm2 : 1 ≤ m := by rw [hm]; simp
  obtain ⟨b, o, rfl, hb, hx0, _⟩ := lies_cons hks
  generalize R 0 = r0 at *
  obtain ⟨vx, hvx⟩ : ∃ v, v = x.lev := ⟨_, rfl⟩
  rw [← hvx]
  have HVX := Lib.hid hvx
  have l1 := Lib.hid (at4_below hx0 (box_below w (.cells #[.int .i64 25, .string s, .slice ga n gc, .slice (some ⟨b, o, none⟩) m dc] 25))).range
  clear hvx hm hks hx0
  go_enter Tryd.func81, Tryd.ntmps81
  go_wp2_with (first
    | (refine wpList_load_mid rfl 25 _ rfl b o rfl [.int .i64 x.kind, .string x.text, .slice r0.ga x.gaps.length r0.gc, .slice r0.da x.kids.length r0.dc] _ l1.out Tryd.underlying25 rfl sizeN ?_)
    | (go_at_call 92; refine (rlev_is x r0 vx HVX.out.symm _).mono ?_; rintro e w' ⟨rfl, hb2⟩; have HB2 := Lib.hid hb2; clear hb2))
  all_goals go_ret
  all_goals exact ⟨rfl, (box_below _ _).trans (HB2.out.mono (by simp))⟩

set_option maxHeartbeats 1600000 in
theorem rlevs_21 (s : ByteArray) (n gc dc : Nat) (ga da : Option Addr) (x : Pl.Tr) (ks : List Pl.Tr) (R : Nat → Sl) (w : World) (m : Nat) (hm : m = (x :: ks).length) (hl : m ≤ maxLen) (hks : Lies (fun b => b < w.heap.size) w (x :: ks) da R) :
    Calls Tryd.prog 81 #[.agg #[.int .i64 21, .string s, .slice ga n gc, .slice da m dc]] w fun e w' => e = .returned (.bool (decide (7 ≤ x.lev))) ∧ Below w.heap.size w w' := by
  unfold maxLen at hl
  have hm2 : 1 ≤ m := by rw [hm]; simp
  obtain ⟨b, o, rfl, hb, hx0, _⟩ := lies_cons hks
  generalize R 0 = r0 at *
  obtain ⟨vx, hvx⟩ : ∃ v, v = x.lev := ⟨_, rfl⟩
  rw [← hvx]
  have HVX := Lib.hid hvx
  have l1 := Lib.hid (at4_below hx0 (box_below w (.cells #[.int .i64 21, .string s, .slice ga n gc, .slice (some ⟨b, o, none⟩) m dc] 25))).range
  clear hvx hm hks hx0
  go_enter Tryd.func81, Tryd.ntmps81
  go_wp2_with (first
    | (refine wpList_load_mid rfl 25 _ rfl b o rfl [.int .i64 x.kind, .string x.text, .slice r0.ga x.gaps.length r0.gc, .slice r0.da x.kids.length r0.dc] _ l1.out Tryd.underlying25 rfl sizeN ?_)
    | (go_at_call 92; refine (rlev_is x r0 vx HVX.out.symm _).mono ?_; rintro e w' ⟨rfl, hb2⟩; have HB2 := Lib.hid hb2; clear hb2))
  all_goals go_ret
  all_goals refine ⟨ret_bool ?_, (box_below _ _).trans (HB2.out.mono (by simp))⟩
  all_goals rw [Bool.eq_iff_iff]
  all_goals have h7 := lev_le x
  all_goals have h8 := HVX.out
  all_goals simp only [beq_iff_eq, decide_eq_true_eq]
  all_goals omega

set_option maxHeartbeats 1600000 in
theorem rlevs_rest (k : Int) (h24 : ¬ k = 24) (h25 : ¬ k = 25) (h21 : ¬ k = 21) (s : ByteArray) (n m gc dc : Nat) (ga da : Option Addr) (w : World) :
    Calls Tryd.prog 81 #[.agg #[.int .i64 k, .string s, .slice ga n gc, .slice da m dc]] w fun e w' => e = .returned (.bool true) ∧ Below w.heap.size w w' := by
  have b24 : (k == 24) = false := beq_eq_false_iff_ne.2 h24
  have b25 : (k == 25) = false := beq_eq_false_iff_ne.2 h25
  have b21 : (k == 21) = false := beq_eq_false_iff_ne.2 h21
  go_enter Tryd.func81, Tryd.ntmps81
  go_wp2_with fail
  go_ret
  exact ⟨rfl, box_below _ _⟩
theorem rlevs_at (k : Int) (s : ByteArray) (n gc dc : Nat) (ga da : Option Addr) (ks : List Pl.Tr) (R : Nat → Sl) (w : World) (hl : ks.length ≤ maxLen) (hks : Lies (fun b => b < w.heap.size) w ks da R) (hle : Pl.least k ≤ ks.length) :
    Calls Tryd.prog 81 #[.agg #[.int .i64 k, .string s, .slice ga n gc, .slice da ks.length dc]] w fun e w' => e = .returned (.bool (Pl.lvls k s ks)) ∧ Below w.heap.size w w' := by
  by_cases h24 : k = 24
  · subst h24
    match ks, hks, hl, hle with
    | [], hks, hl, hle => exact absurd hle (by decide)
    | [x], hks, hl, hle => exact absurd hle (by simp [Pl.least])
    | x :: y :: ks, hks, hl, hle => exact rlevs_24 s n gc dc ga da x y ks R w _ rfl hl hks
  by_cases h25 : k = 25
  · subst h25
    match ks, hks, hl, hle with
    | [], hks, hl, hle => exact absurd hle (by decide)
    | x :: ks, hks, hl, hle => exact rlevs_25 s n gc dc ga da x ks R w _ rfl hl hks
  by_cases h21 : k = 21
  · subst h21
    match ks, hks, hl, hle with
    | [], hks, hl, hle => exact absurd hle (by decide)
    | x :: ks, hks, hl, hle => exact rlevs_21 s n gc dc ga da x ks R w _ rfl hl hks
  rw [show Pl.lvls k s ks = true by unfold Pl.lvls; rw [if_neg h24, if_neg h25, if_neg h21]]
  exact rlevs_rest k h24 h25 h21 s n _ gc dc ga da w
end Go.Proofs.YtpaleolcfhnenaaDoor

namespace Go.Proofs.YtpaleolcfhnenaaDoor
open Go.RowKit
set_option linter.unusedVariables false
set_option linter.unusedSimpArgs false

theorem word_eq (k : Int) (s : ByteArray) (hk : 1 ≤ k ∧ k ≤ 26) : Pl.wordOK k s = (namedB k s || rwordB k s) := by
  unfold Pl.wordOK namedB rwordB
  by_cases h8 : k = 8
  · subst h8
    rw [show Pl.txt 8 = 2 from rfl]
    by_cases hz : s.size = 0 <;> simp [hz]
  rw [if_neg h8]
  by_cases h1 : k = 18 ∨ k = 23 ∨ k = 24 ∨ k = 25
  · have ht : Pl.txt k = 4 := by unfold Pl.txt; omega
    rw [ht, if_neg (by decide), if_pos rfl, if_pos h1, decide_eq_false (by omega), Bool.false_or]
  rw [if_neg h1]
  by_cases h2 : k = 2 ∨ k = 4 ∨ k = 5 ∨ k = 7 ∨ k = 9 ∨ k = 10 ∨ k = 11 ∨ k = 17 ∨ k = 19 ∨ k = 20 ∨ k = 21 ∨ k = 22
  · rw [decide_eq_true h2, Bool.true_or]
    have h0 : Pl.txt k ≠ 0 := by unfold Pl.txt; omega
    have h4 : Pl.txt k ≠ 4 := by unfold Pl.txt; omega
    rw [if_neg h0, if_neg h4]
  · rw [decide_eq_false h2, Bool.false_or]
    have h0 : Pl.txt k = 0 := by unfold Pl.txt; omega
    rw [h0, if_pos rfl]

set_option maxHeartbeats 1600000 in
theorem rshape_out (k : Int) (s : ByteArray) (n m gc dc : Nat) (ga da : Option Addr) (w : World) (hl : m ≤ maxLen) (d : decide (k < 1) = true ∨ decide (k < 1) = false ∧ decide (26 < k) = true) :
    Calls Tryd.prog 68 #[.agg #[.int .i64 k, .string s, .slice ga n gc, .slice da m dc]] w fun e w' => e = .returned (.bool false) ∧ Below w.heap.size w w' := by
  unfold maxLen at hl
  obtain ⟨W, hW⟩ : ∃ W, W = w.alloc (.cells #[.int .i64 k, .string s, .slice ga n gc, .slice da m dc] 25) := ⟨_, rfl⟩
  have A1 := Lib.hid (at4_new w k s (.slice ga n gc) (.slice da m dc))
  have HBW := Lib.hid (box_below w (.cells #[.int .i64 k, .string s, .slice ga n gc, .slice da m dc] 25))
  have HSZ : Hid (w.heap.size < (w.alloc (.cells #[.int .i64 k, .string s, .slice ga n gc, .slice da m dc] 25)).heap.size) := Lib.hid (by simp)
  rw [← hW] at A1 HBW HSZ
  have HWE := Lib.hid hW
  clear hW
  have k0 : ∀ z : Later W, z.u.cell? ⟨w.heap.size, 0, none⟩ = some (.int .i64 k) := fun z => (at4_later A1.out z).1
  rcases d with d1 | ⟨d1, d2⟩
  all_goals
    go_enter Tryd.func68, Tryd.ntmps68
    go_wp2_with fail
    rw [← HWE.out]
    refine region_later (by kernel_rfl) (by kernel_rfl) ?_
    repeat (go_big_quiet_step (fail))
    refine wpQuiet_nil ?_
    intro _ hw'
    obtain ⟨n1, rfl⟩ := hw'
    go_wp2_with fail
    go_ret
    exact ⟨rfl, HBW.out.trans (n1.h.mono (Nat.le_of_lt HSZ.out))⟩
set_option maxHeartbeats 1600000 in
theorem rshape_in (k : Int) (hk : 1 ≤ k ∧ k ≤ 26) (s : ByteArray) (n gc dc : Nat) (ga da : Option Addr) (ks : List Pl.Tr) (R : Nat → Sl) (w : World) (hl : ks.length ≤ maxLen) (hks : Lies (fun b => b < w.heap.size) w ks da R) :
    Calls Tryd.prog 68 #[.agg #[.int .i64 k, .string s, .slice ga n gc, .slice da ks.length dc]] w fun e w' => e = .returned (.bool (decide (Pl.least k ≤ ks.length) && Pl.fitA k 0 ks && (namedB k s || rwordB k s) && Pl.lvls k s ks)) ∧ Below w.heap.size w w' := by
  have HLV : Pl.least k ≤ ks.length → ∀ w2, Below w.heap.size w w2 → Calls Tryd.prog 81 #[.agg #[.int .i64 k, .string s, .slice ga n gc, .slice da ks.length dc]] w2 fun e w' => e = .returned (.bool (Pl.lvls k s ks)) ∧ Below w2.heap.size w2 w' :=
    fun hle w2 hb => rlevs_at k s n gc dc ga da ks R w2 hl (hks.later hb) hle
  unfold maxLen at hl
  have d1 : decide (k < 1) = false := decide_eq_false (by omega)
  have d2 : decide (26 < k) = false := decide_eq_false (by omega)
  obtain ⟨q, hq⟩ : ∃ q, Pl.least k = q := ⟨_, rfl⟩
  rw [hq] at HLV ⊢
  obtain ⟨m, hm⟩ : ∃ m, m = ks.length := ⟨_, rfl⟩
  rw [← hm] at hl HLV ⊢
  have HM := Lib.hid hm
  have HK := Lib.hid hks
  have HQ := Lib.hid hq
  clear hm hks hq
  obtain ⟨W, hW⟩ : ∃ W, W = w.alloc (.cells #[.int .i64 k, .string s, .slice ga n gc, .slice da m dc] 25) := ⟨_, rfl⟩
  have A1 := Lib.hid (at4_new w k s (.slice ga n gc) (.slice da m dc))
  have HBW := Lib.hid (box_below w (.cells #[.int .i64 k, .string s, .slice ga n gc, .slice da m dc] 25))
  have HSZ : Hid (w.heap.size < (w.alloc (.cells #[.int .i64 k, .string s, .slice ga n gc, .slice da m dc] 25)).heap.size) := Lib.hid (by simp)
  rw [← hW] at A1 HBW HSZ
  have HWE := Lib.hid hW
  clear hW
  have k0 : ∀ z : Later W, z.u.cell? ⟨w.heap.size, 0, none⟩ = some (.int .i64 k) := fun z => (at4_later A1.out z).1
  have k3 : ∀ z : Later W, z.u.cell? ⟨w.heap.size, 3, none⟩ = some (.slice da m dc) := fun z => (at4_later A1.out z).2.2.2
  have C0 : ∀ z : Later W, Calls Tryd.prog 79 #[.int .i64 k] z.u fun e w'' => e = .returned (.int .i64 q) ∧ ∃ y : Later W, w'' = y.u :=
    fun z => (rleast_any k z.u).mono fun e w'' ⟨he, hw⟩ => ⟨by rw [he, HQ.out], z, hw.symm⟩
  by_cases hlq : q ≤ m
  case neg =>
    have d3 : decide ((m : Int) < q) = true := decide_eq_true (by omega)
    rw [decide_eq_false hlq, Bool.false_and, Bool.false_and, Bool.false_and]
    go_enter Tryd.func68, Tryd.ntmps68
    go_wp2_with fail
    rw [← HWE.out]
    refine region_later (by kernel_rfl) (by kernel_rfl) ?_
    repeat (first | (go_big_quiet_step (fail)) | (go_big_quiet_step (exact C0 _)))
    refine wpQuiet_nil ?_
    intro _ hw'
    obtain ⟨n1, rfl⟩ := hw'
    go_wp2_with fail
    go_ret
    exact ⟨rfl, HBW.out.trans (n1.h.mono (Nat.le_of_lt HSZ.out))⟩
  have d3 : decide ((m : Int) < q) = false := decide_eq_false (by omega)
  rw [decide_eq_true hlq, Bool.true_and]
  have HL2 := Lib.hid (HLV hlq)
  clear HLV hlq
  obtain ⟨b, hb⟩ : ∃ b, b = Pl.fitA k 0 ks := ⟨_, rfl⟩
  obtain ⟨p1, hp1⟩ : ∃ p, p = namedB k s := ⟨_, rfl⟩
  obtain ⟨p2, hp2⟩ : ∃ p, p = rwordB k s := ⟨_, rfl⟩
  obtain ⟨p3, hp3⟩ : ∃ p, p = Pl.lvls k s ks := ⟨_, rfl⟩
  rw [← hp3] at HL2
  rw [← hb, ← hp1, ← hp2, ← hp3]
  obtain ⟨res, hres⟩ : ∃ res, res = (b && (p1 || p2) && p3) := ⟨_, rfl⟩
  rw [← hres]
  have HB := Lib.hid hb
  have HP1 := Lib.hid hp1
  have HP2 := Lib.hid hp2
  have HRS := Lib.hid hres
  clear hb hp1 hp2 hp3 hres
  go_enter Tryd.func68, Tryd.ntmps68
  go_wp2_with fail
  rw [← HWE.out]
  refine region_later (by kernel_rfl) (by kernel_rfl) ?_
  repeat (first | (go_big_quiet_step (fail)) | (go_big_quiet_step (exact C0 _)))
  refine wpQuiet_nil ?_
  intro _ hw'
  obtain ⟨n1, rfl⟩ := hw'
  have B1 := Lib.hid (HBW.out.trans (n1.h.mono (Nat.le_of_lt HSZ.out)))
  have X1 := Lib.hid (at4_later A1.out n1)
  clear k0 k3 C0
  go_wp2_with fail
  go_loopw [3] (fun i wr => ∃ j : Nat, j ≤ m ∧ i = .int .i64 j ∧ Pl.fitA k j (ks.drop j) = b ∧ Hid (Below w.heap.size w wr) ∧ Hid (At4 wr w.heap.size 0 k s (.slice ga n gc) (.slice da m dc))) (fun i _ => m - (intOf i).toNat)
  case atStart => exact ⟨0, Nat.zero_le _, rfl, HB.out.symm, B1, X1⟩
  case round =>
    obtain ⟨j, hj, rfl, hfit, HBL, HX⟩ := hrel
    have HF := Lib.hid hfit
    clear hfit
    have c3 := HX.out.2.2.2
    by_cases hlt : j < m
    · have hjk : j < ks.length := by rw [← HM.out]; exact hlt
      have hu := List.getElem?_eq_getElem hjk
      have HD := Lib.hid (fitA_drop k ks j hjk)
      rcases HK.out with h0 | ⟨b1, o1, rfl, hb1, hat⟩
      · rw [h0] at hjk; simp at hjk
      have l1 := At4.keep (hat j _ hu) (Same.below HBL.out fun _ h => h) hb1
      generalize ks[j] = u at *
      generalize R j = r1 at *
      obtain ⟨ga1, gc1, da1, dc1⟩ := r1
      obtain ⟨f, hf⟩ : ∃ f, f = Pl.fits k j u.kind := ⟨_, rfl⟩
      rw [← hf] at HD
      have HFF := Lib.hid hf
      have k0 : ∀ z : Later wr, z.u.cell? ⟨w.heap.size, 0, none⟩ = some (.int .i64 k) := fun z => (at4_later HX.out z).1
      have k3 : ∀ z : Later wr, z.u.cell? ⟨w.heap.size, 3, none⟩ = some (.slice (some ⟨b1, o1, none⟩) m dc) := fun z => (at4_later HX.out z).2.2.2
      have u0 : ∀ z : Later wr, z.u.cell? ⟨b1, o1 + j * 4, none⟩ = some (.int .i64 u.kind) := fun z => (at4_later l1 z).1
      have C0 : ∀ z : Later wr, Calls Tryd.prog 57 #[.int .i64 k, .int .i64 j, .int .i64 u.kind] z.u fun e w'' => e = .returned (.bool f) ∧ ∃ y : Later wr, w'' = y.u :=
        fun z => (rfits_is k j u.kind f HFF.out.symm z.u).mono fun e w'' ⟨he, hw⟩ => ⟨he, z, hw.symm⟩
      clear hf hat hu l1
      go_wp2_with fail
      refine region_later (by kernel_rfl) (by kernel_rfl) ?_
      repeat (first | (go_big_quiet_step (fail)) | (go_big_quiet_step (exact C0 _)))
      refine wpQuiet_nil ?_
      intro _ hw'
      obtain ⟨n2, rfl⟩ := hw'
      have B2 := Lib.hid (HBL.out.trans (n2.h.mono HBL.out.size))
      have X2 := Lib.hid (at4_later HX.out n2)
      clear k0 k3 u0 C0 c3
      cases f
      · have HNo : Hid (b = false) := Lib.hid (by rw [← HF.out, HD.out, Bool.false_and])
        go_wp2_with fail
        go_ret
        exact ⟨ret_bool (by rw [HRS.out, HNo.out]; rfl), B2.out⟩
      · have HYes : Hid (Pl.fitA k (j + 1) (ks.drop (j + 1)) = b) := Lib.hid (by rw [← HF.out, HD.out, Bool.true_and])
        go_wp2_with fail
        exact ⟨⟨j + 1, by omega, by go_num, HYes.out, B2, X2⟩, by simp [intOf]; omega⟩
    · obtain rfl : j = m := by omega
      have HYes : b = true := by
        have e := HF.out
        rw [List.drop_of_length_le (by rw [HM.out]; exact Nat.le_refl _)] at e
        exact e.symm
      subst HYes
      obtain ⟨c0, c1, c2, _⟩ := HX.out
      cases p1
      case true =>
        go_wp2_with (first
          | (go_at_call 81; have g9 := B5.out; clear g9; refine (HL2.out _ B5.out).mono ?_; rintro e w6 ⟨rfl, hb6⟩; have B6 := Lib.hid (B5.out.trans (hb6.mono B5.out.size)); clear hb6)
          | (go_at_call 70; refine (named_is k s _ HP1.out.symm _ _ _ _ _ _ _).mono ?_; rintro e w5 ⟨rfl, hb5⟩; have B5 := Lib.hid (HBL.out.trans (hb5.mono HBL.out.size)); have X5 := Lib.hid (at4_below HX.out hb5); obtain ⟨e0, e1, e2, e3⟩ := X5.out; clear hb5))
        go_ret
        exact ⟨ret_bool (by rw [HRS.out]; rfl), B6.out⟩
      cases p2
      · go_wp2_with (first
          | (go_at_call 80; refine (rword_is k s _ HP2.out.symm _ _ _ _ _ _ _).mono ?_; rintro e w6 ⟨rfl, hb6⟩; have B6 := Lib.hid (B5.out.trans (hb6.mono B5.out.size)); clear hb6)
          | (go_at_call 70; refine (named_is k s _ HP1.out.symm _ _ _ _ _ _ _).mono ?_; rintro e w5 ⟨rfl, hb5⟩; have B5 := Lib.hid (HBL.out.trans (hb5.mono HBL.out.size)); have X5 := Lib.hid (at4_below HX.out hb5); obtain ⟨e0, e1, e2, e3⟩ := X5.out; clear hb5))
        go_ret
        exact ⟨ret_bool (by rw [HRS.out]; rfl), B6.out⟩
      · go_wp2_with (first
          | (go_at_call 81; refine (HL2.out _ B6.out).mono ?_; rintro e w7 ⟨rfl, hb7⟩; have B7 := Lib.hid (B6.out.trans (hb7.mono B6.out.size)); clear hb7)
          | (go_at_call 80; refine (rword_is k s _ HP2.out.symm _ _ _ _ _ _ _).mono ?_; rintro e w6 ⟨rfl, hb6⟩; have B6 := Lib.hid (B5.out.trans (hb6.mono B5.out.size)); have X6 := Lib.hid (at4_below X5.out hb6); obtain ⟨g0, g1, g2, g3⟩ := X6.out; clear hb6)
          | (go_at_call 70; refine (named_is k s _ HP1.out.symm _ _ _ _ _ _ _).mono ?_; rintro e w5 ⟨rfl, hb5⟩; have B5 := Lib.hid (HBL.out.trans (hb5.mono HBL.out.size)); have X5 := Lib.hid (at4_below HX.out hb5); obtain ⟨e0, e1, e2, e3⟩ := X5.out; clear hb5))
        go_ret
        exact ⟨ret_bool (by rw [HRS.out]; rfl), B7.out⟩
theorem rshape_at (k : Int) (s : ByteArray) (n gc dc : Nat) (ga da : Option Addr) (ks : List Pl.Tr) (R : Nat → Sl) (w : World) (hl : ks.length ≤ maxLen) (hks : Lies (fun b => b < w.heap.size) w ks da R) :
    Calls Tryd.prog 68 #[.agg #[.int .i64 k, .string s, .slice ga n gc, .slice da ks.length dc]] w fun e w' => e = .returned (.bool (Pl.shape k s ks)) ∧ Below w.heap.size w w' := by
  unfold Pl.shape
  by_cases hk : 1 ≤ k ∧ k ≤ 26
  · rw [decide_eq_true hk, Bool.true_and, word_eq k s hk]
    exact rshape_in k hk s n gc dc ga da ks R w hl hks
  · rw [decide_eq_false hk, Bool.false_and, Bool.false_and, Bool.false_and, Bool.false_and]
    refine rshape_out k s n _ gc dc ga da w hl ?_
    by_cases h1 : k < 1
    · exact .inl (decide_eq_true h1)
    · exact .inr ⟨decide_eq_false h1, decide_eq_true (by omega)⟩
theorem rshape_is (k : Int) (s : ByteArray) (n gc dc : Nat) (ga da : Option Addr) (ks : List Pl.Tr) (R : Nat → Sl) (b : Bool) (hb : Pl.shape k s ks = b) (w : World) (hl : ks.length ≤ maxLen) (hks : Lies (fun b => b < w.heap.size) w ks da R) :
    Calls Tryd.prog 68 #[.agg #[.int .i64 k, .string s, .slice ga n gc, .slice da ks.length dc]] w fun e w' => e = .returned (.bool b) ∧ Below w.heap.size w w' := hb ▸ rshape_at k s n gc dc ga da ks R w hl hks
end Go.Proofs.YtpaleolcfhnenaaDoor

namespace Go.Proofs.YtpaleolcfhnenaaDoor
open Go.RowKit
set_option linter.unusedVariables false
set_option linter.unusedSimpArgs false

theorem name_eq (k : Int) (s : ByteArray) (hk : 1 ≤ k ∧ k ≤ 26) : Pl.nameOK k s = if k = 17 then Pl.isI s else if namedB k s = true then Pl.nm s else true := by
  unfold Pl.nameOK namedB
  by_cases h17 : k = 17
  · subst h17; rfl
  rw [if_neg h17]
  by_cases h8 : k = 8
  · subst h8
    rw [show Pl.txt 8 = 2 from rfl]
    by_cases hz : s.size = 0 <;> simp [hz]
  rw [if_neg h8]
  by_cases h2 : k = 2 ∨ k = 4 ∨ k = 5 ∨ k = 7 ∨ k = 9 ∨ k = 10 ∨ k = 11 ∨ k = 17 ∨ k = 19 ∨ k = 20 ∨ k = 21 ∨ k = 22
  · have h1 : Pl.txt k = 1 := by unfold Pl.txt; omega
    rw [h1, if_neg (by decide), if_pos rfl, if_pos (decide_eq_true h2)]
  · have h1 : Pl.txt k ≠ 1 := by unfold Pl.txt; omega
    have h3 : Pl.txt k ≠ 3 := by unfold Pl.txt; omega
    have h4 : Pl.txt k ≠ 2 := by unfold Pl.txt; omega
    rw [if_neg h4, if_neg h1, if_neg h3, decide_eq_false h2]
    rfl
theorem rown_is (k : Int) (s : ByteArray) (o : Int) (n m gc dc : Nat) (ga da : Option Addr) (w : World) (h : Pl.own k s m = o) (hm : m ≤ maxLen) :
    Calls Tryd.prog 58 #[.agg #[.int .i64 k, .string s, .slice ga n gc, .slice da m dc]] w fun e w' => e = .returned (.int .i64 o) ∧ Below w.heap.size w w' := h ▸ rown_any k s n m gc dc ga da w hm
/-- What shape answers, behind any world. -/
abbrev ShapeIs (w : World) (k : Int) (s : ByteArray) (ga : Option Addr) (n gc : Nat) (da : Option Addr) (m dc : Nat) (b : Bool) : Prop :=
  ∀ w2, Below w.heap.size w w2 → Calls Tryd.prog 68 #[.agg #[.int .i64 k, .string s, .slice ga n gc, .slice da m dc]] w2 fun e w' => e = .returned (.bool b) ∧ Below w2.heap.size w2 w'
set_option maxHeartbeats 1600000 in
theorem rnode_shape (k : Int) (s : ByteArray) (n m gc dc : Nat) (ga da : Option Addr) (w : World) (HS : Hid (ShapeIs w k s ga n gc da m dc false)) :
    Calls Tryd.prog 60 #[.agg #[.int .i64 k, .string s, .slice ga n gc, .slice da m dc]] w fun e w' => e = .returned (.int .i64 7) ∧ Below w.heap.size w w' := by
  have B0 := Lib.hid (box_below w (.cells #[.int .i64 k, .string s, .slice ga n gc, .slice da m dc] 25))
  go_enter Tryd.func60, Tryd.ntmps60
  go_wp2_with (go_at_call 68; refine (HS.out _ B0.out).mono ?_; rintro e w1 ⟨rfl, hb1⟩; have B1 := Lib.hid (B0.out.trans (hb1.mono B0.out.size)); clear hb1)
  go_ret
  exact ⟨rfl, B1.out⟩
set_option maxHeartbeats 1600000 in
theorem rnode_int_bad (s : ByteArray) (n m gc dc : Nat) (ga da : Option Addr) (w : World) (HS : Hid (ShapeIs w 17 s ga n gc da m dc true)) (HZ : Hid (s.size ≤ maxLen)) (HI : Hid (Pl.isI s = false)) :
    Calls Tryd.prog 60 #[.agg #[.int .i64 17, .string s, .slice ga n gc, .slice da m dc]] w fun e w' => e = .returned (.int .i64 4) ∧ Below w.heap.size w w' := by
  have A0 := Lib.hid (at4_new w 17 s (.slice ga n gc) (.slice da m dc))
  have B0 := Lib.hid (box_below w (.cells #[.int .i64 17, .string s, .slice ga n gc, .slice da m dc] 25))
  go_enter Tryd.func60, Tryd.ntmps60
  go_wp2_with (first
    | (go_at_call 68; refine (HS.out _ B0.out).mono ?_; rintro e w1 ⟨rfl, hb1⟩; have B1 := Lib.hid (B0.out.trans (hb1.mono B0.out.size)); have X1 := Lib.hid (at4_below A0.out hb1); obtain ⟨c0, c1, c2, c3⟩ := X1.out; clear hb1)
    | (go_at_call 69; refine (rint_is s _ HI.out _ HZ.out).mono ?_; rintro e w2 ⟨rfl, rfl⟩))
  go_ret
  exact ⟨rfl, B1.out⟩
set_option maxHeartbeats 1600000 in
theorem rnode_named_bad (k : Int) (h17 : ¬ k = 17) (s : ByteArray) (n m gc dc : Nat) (ga da : Option Addr) (w : World) (HS : Hid (ShapeIs w k s ga n gc da m dc true)) (HZ : Hid (s.size ≤ maxLen)) (HN : Hid (namedB k s = true)) (HV : Hid (Pl.nm s = false)) :
    Calls Tryd.prog 60 #[.agg #[.int .i64 k, .string s, .slice ga n gc, .slice da m dc]] w fun e w' => e = .returned (.int .i64 4) ∧ Below w.heap.size w w' := by
  have b17 : (k == 17) = false := beq_eq_false_iff_ne.2 h17
  have c17 : (k != 17) = true := by simpa using h17
  clear h17
  have A0 := Lib.hid (at4_new w k s (.slice ga n gc) (.slice da m dc))
  have B0 := Lib.hid (box_below w (.cells #[.int .i64 k, .string s, .slice ga n gc, .slice da m dc] 25))
  go_enter Tryd.func60, Tryd.ntmps60
  go_wp2_with (first
    | (go_at_call 68; refine (HS.out _ B0.out).mono ?_; rintro e w1 ⟨rfl, hb1⟩; have B1 := Lib.hid (B0.out.trans (hb1.mono B0.out.size)); have X1 := Lib.hid (at4_below A0.out hb1); obtain ⟨c0, c1, c2, c3⟩ := X1.out; clear hb1)
    | (go_at_call 70; refine (named_is k s _ HN.out _ _ _ _ _ _ _).mono ?_; rintro e w2 ⟨rfl, hb2⟩; have B2 := Lib.hid (B1.out.trans (hb2.mono B1.out.size)); have X2 := Lib.hid (at4_below X1.out hb2); obtain ⟨e0, e1, e2, e3⟩ := X2.out; clear hb2)
    | (go_at_call 71; refine (rvalid_is s _ HV.out _ HZ.out).mono ?_; rintro e w3 ⟨rfl, rfl⟩))
  go_ret
  exact ⟨rfl, B2.out⟩
set_option maxHeartbeats 1600000 in
theorem rnode_int_none (s : ByteArray) (n m gc dc : Nat) (ga da : Option Addr) (w : World) (HS : Hid (ShapeIs w 17 s ga n gc da m dc true)) (HZ : Hid (s.size ≤ maxLen)) (HI : Hid (Pl.isI s = true)) (hn : n = 0) :
    Calls Tryd.prog 60 #[.agg #[.int .i64 17, .string s, .slice ga n gc, .slice da m dc]] w fun e w' => e = .returned (.int .i64 0) ∧ Below w.heap.size w w' := by
  subst hn
  have A0 := Lib.hid (at4_new w 17 s (.slice ga 0 gc) (.slice da m dc))
  have B0 := Lib.hid (box_below w (.cells #[.int .i64 17, .string s, .slice ga 0 gc, .slice da m dc] 25))
  go_enter Tryd.func60, Tryd.ntmps60
  go_wp2_with (first
    | (go_at_call 68; refine (HS.out _ B0.out).mono ?_; rintro e w1 ⟨rfl, hb1⟩; have B1 := Lib.hid (B0.out.trans (hb1.mono B0.out.size)); have X1 := Lib.hid (at4_below A0.out hb1); obtain ⟨c0, c1, c2, c3⟩ := X1.out; clear hb1)
    | (go_at_call 69; refine (rint_is s _ HI.out _ HZ.out).mono ?_; rintro e w2 ⟨rfl, rfl⟩))
  have k2 : ∀ z : Later w1, z.u.cell? ⟨w.heap.size, 2, none⟩ = some (.slice ga 0 gc) := fun z => (at4_later X1.out z).2.2.1
  refine region_later (by kernel_rfl) (by kernel_rfl) ?_
  repeat (go_big_quiet_step (fail))
  refine wpQuiet_nil ?_
  intro _ hw'
  obtain ⟨n1, rfl⟩ := hw'
  have q2 := k2 n1
  clear k2
  have BN := Lib.hid (B1.out.trans (n1.h.mono B1.out.size))
  go_wp2_with fail
  refine wp_loop_rounds 1 ?_
  rw [rounds_succ]
  go_wp2_with fail
  go_ret
  exact ⟨rfl, BN.out⟩
set_option maxHeartbeats 1600000 in
theorem rnode_int_some (s : ByteArray) (n m gc dc : Nat) (ga da : Option Addr) (w : World) (HS : Hid (ShapeIs w 17 s ga n gc da m dc true)) (HZ : Hid (s.size ≤ maxLen)) (HI : Hid (Pl.isI s = true)) (g : List ByteArray) (hn : n = g.length) (h0 : 0 < n) (hm : m ≤ maxLen) (hg : Strs (fun b => b < w.heap.size) w ga g) (b : Bool) (hb : b = (decide ((n : Int) = Pl.own 17 s m) && g.all Pl.triv)) :
    Calls Tryd.prog 60 #[.agg #[.int .i64 17, .string s, .slice ga n gc, .slice da m dc]] w fun e w' => e = .returned (.int .i64 (if b = false then 7 else 0)) ∧ Below w.heap.size w w' := by
  have HMX := Lib.hid hm
  have hgl := hg.1
  rw [← hn] at hgl
  unfold maxLen at hgl hm
  have HG := Lib.hid hg
  have HN0 := Lib.hid hn
  obtain ⟨o, ho⟩ : ∃ o, o = Pl.own 17 s m := ⟨_, rfl⟩
  rw [← ho] at hb
  have HO := Lib.hid ho
  have HB := Lib.hid hb
  obtain ⟨v, hv⟩ : ∃ v : Int, v = if b = false then 7 else 0 := ⟨_, rfl⟩
  rw [← hv]
  have HVV := Lib.hid hv
  have z0 : decide ((0 : Int) < n) = true := by simp; omega
  have z1 : decide (0 < n) = true := by simp; omega
  clear hg hn ho hb hv
  have A0 := Lib.hid (at4_new w 17 s (.slice ga n gc) (.slice da m dc))
  have B0 := Lib.hid (box_below w (.cells #[.int .i64 17, .string s, .slice ga n gc, .slice da m dc] 25))
  go_enter Tryd.func60, Tryd.ntmps60
  go_wp2_with (first
    | (go_at_call 68; refine (HS.out _ B0.out).mono ?_; rintro e w1 ⟨rfl, hb1⟩; have B1 := Lib.hid (B0.out.trans (hb1.mono B0.out.size)); have X1 := Lib.hid (at4_below A0.out hb1); obtain ⟨c0, c1, c2, c3⟩ := X1.out; clear hb1)
    | (go_at_call 69; refine (rint_is s _ HI.out _ HZ.out).mono ?_; rintro e w2 ⟨rfl, rfl⟩))
  have k2 : ∀ z : Later w1, z.u.cell? ⟨w.heap.size, 2, none⟩ = some (.slice ga n gc) := fun z => (at4_later X1.out z).2.2.1
  have CALL : ∀ z : Later w1, Calls Tryd.prog 58 #[.agg #[.int .i64 17, .string s, .slice ga n gc, .slice da m dc]] z.u fun e w'' => e = .returned (.int .i64 o) ∧ ∃ y : Later w1, w'' = y.u :=
    fun z => (rown_is 17 s o n m gc dc ga da z.u HO.out.symm HMX.out).mono fun e w'' ⟨he, hw⟩ => ⟨he, ⟨w'', z.h.trans (hw.mono z.h.size)⟩, rfl⟩
  refine region_later (by kernel_rfl) (by kernel_rfl) ?_
  iterate 8 (go_big_quiet_step (fail))
  refine quiet_load (by rfl) 25 _ (by rfl) (.pointer (some ⟨w.heap.size, 0, none⟩)) _ (by rfl) (fun x hx => by obtain ⟨n, rfl⟩ := hx; exact (at4_later X1.out n).load) ?_
  simp only [Act.put, List.setIfInBounds_toArray, List.set_cons_succ, List.set_cons_zero]
  go_big_quiet_step (exact CALL _)
  repeat (go_big_quiet_step (fail))
  refine wpQuiet_nil ?_
  intro _ hw'
  obtain ⟨n1, rfl⟩ := hw'
  have BN := Lib.hid (B1.out.trans (n1.h.mono B1.out.size))
  have XN := Lib.hid (at4_later X1.out n1)
  clear k2 CALL
  obtain ⟨cb, hcb⟩ : ∃ cb : Bool, ((n : Int) != o) = cb := ⟨_, rfl⟩
  rw [hcb]
  cases cb
  case true =>
    have hno : ¬ (n : Int) = o := by simpa using hcb
    clear hcb
    have HNo : Hid (v = 7) := Lib.hid (by rw [HVV.out, HB.out, decide_eq_false hno, Bool.false_and, if_pos rfl])
    clear hno
    go_wp2_with fail
    go_ret
    exact ⟨ret_int HNo.out.symm, BN.out⟩
  have hno : (n : Int) = o := by simpa using hcb
  clear hcb
  have HB4 : Hid (b = g.all Pl.triv) := Lib.hid (by rw [HB.out, decide_eq_true hno, Bool.true_and])
  clear hno
  go_wp2_with fail
  go_loopw [3] (fun i wr => ∃ j : Nat, j ≤ n ∧ i = .int .i64 j ∧ (g.drop j).all Pl.triv = b ∧ Hid (Below w.heap.size w wr) ∧ Hid (At4 wr w.heap.size 0 17 s (.slice ga n gc) (.slice da m dc))) (fun i _ => n - (intOf i).toNat)
  case atStart => exact ⟨0, Nat.zero_le _, rfl, HB4.out.symm, BN, XN⟩
  case round =>
    obtain ⟨j, hj, rfl, hall, HBL, HX⟩ := hrel
    have HA := Lib.hid hall
    clear hall
    have c2 := HX.out.2.2.1
    by_cases hlt : j < n
    · have hjk : j < g.length := by rw [← HN0.out]; exact hlt
      have HD := Lib.hid (all_drop g j hjk)
      obtain ⟨hz1, b1, o1, hga, hb1, hc1⟩ := strs_at HG.out j hjk
      have hc2 : wr.cell? ⟨b1, o1 + j, none⟩ = some (.string g[j]) := (HBL.out.cell (p := ⟨_, _, none⟩) hb1).trans hc1
      have HZ1 := Lib.hid hz1
      generalize g[j] = x at *
      subst hga
      obtain ⟨t, ht⟩ : ∃ t, t = Pl.triv x := ⟨_, rfl⟩
      rw [← ht] at HD
      have HTV := Lib.hid ht
      clear ht hc1 hz1
      cases t
      · have HNo : Hid (v = 7) := Lib.hid (by rw [HVV.out, ← HA.out, HD.out, Bool.false_and, if_pos rfl])
        go_wp2_with (go_at_call 72; refine (rtvalid_is _ _ HTV.out.symm _ HZ1.out).mono ?_; rintro e w' ⟨rfl, rfl⟩)
        go_ret
        exact ⟨ret_int HNo.out.symm, HBL.out⟩
      · have HYes : Hid ((g.drop (j + 1)).all Pl.triv = b) := Lib.hid (by rw [← HA.out, HD.out, Bool.true_and])
        go_wp2_with (go_at_call 72; refine (rtvalid_is _ _ HTV.out.symm _ HZ1.out).mono ?_; rintro e w' ⟨rfl, rfl⟩)
        exact ⟨⟨j + 1, by omega, by go_num, HYes.out, HBL, HX⟩, by simp [intOf]; omega⟩
    · obtain rfl : j = n := by omega
      have HYes : Hid (v = 0) := Lib.hid (by
        have e := HA.out
        rw [List.drop_of_length_le (by rw [HN0.out]; exact Nat.le_refl _)] at e
        rw [HVV.out, ← e]; rfl)
      go_wp2_with fail
      go_ret
      exact ⟨ret_int HYes.out.symm, HBL.out⟩
set_option maxHeartbeats 1600000 in
theorem rnode_named_none (k : Int) (h17 : ¬ k = 17) (s : ByteArray) (n m gc dc : Nat) (ga da : Option Addr) (w : World) (HS : Hid (ShapeIs w k s ga n gc da m dc true)) (HZ : Hid (s.size ≤ maxLen)) (HN : Hid (namedB k s = true)) (HV : Hid (Pl.nm s = true)) (hn : n = 0) :
    Calls Tryd.prog 60 #[.agg #[.int .i64 k, .string s, .slice ga n gc, .slice da m dc]] w fun e w' => e = .returned (.int .i64 0) ∧ Below w.heap.size w w' := by
  have b17 : (k == 17) = false := beq_eq_false_iff_ne.2 h17
  have c17 : (k != 17) = true := by simpa using h17
  clear h17
  subst hn
  have A0 := Lib.hid (at4_new w k s (.slice ga 0 gc) (.slice da m dc))
  have B0 := Lib.hid (box_below w (.cells #[.int .i64 k, .string s, .slice ga 0 gc, .slice da m dc] 25))
  go_enter Tryd.func60, Tryd.ntmps60
  go_wp2_with (first
    | (go_at_call 68; refine (HS.out _ B0.out).mono ?_; rintro e w1 ⟨rfl, hb1⟩; have B1 := Lib.hid (B0.out.trans (hb1.mono B0.out.size)); have X1 := Lib.hid (at4_below A0.out hb1); obtain ⟨c0, c1, c2, c3⟩ := X1.out; clear hb1)
    | (go_at_call 70; refine (named_is k s _ HN.out _ _ _ _ _ _ _).mono ?_; rintro e w2 ⟨rfl, hb2⟩; have B2 := Lib.hid (B1.out.trans (hb2.mono B1.out.size)); have X2 := Lib.hid (at4_below X1.out hb2); obtain ⟨e0, e1, e2, e3⟩ := X2.out; clear hb2)
    | (go_at_call 71; refine (rvalid_is s _ HV.out _ HZ.out).mono ?_; rintro e w3 ⟨rfl, rfl⟩))
  have k2 : ∀ z : Later w2, z.u.cell? ⟨w.heap.size, 2, none⟩ = some (.slice ga 0 gc) := fun z => (at4_later X2.out z).2.2.1
  refine region_later (by kernel_rfl) (by kernel_rfl) ?_
  repeat (go_big_quiet_step (fail))
  refine wpQuiet_nil ?_
  intro _ hw'
  obtain ⟨n1, rfl⟩ := hw'
  have q2 := k2 n1
  clear k2
  have BN := Lib.hid (B2.out.trans (n1.h.mono B2.out.size))
  go_wp2_with fail
  refine wp_loop_rounds 1 ?_
  rw [rounds_succ]
  go_wp2_with fail
  go_ret
  exact ⟨rfl, BN.out⟩
set_option maxHeartbeats 1600000 in
theorem rnode_named_some (k : Int) (h17 : ¬ k = 17) (s : ByteArray) (n m gc dc : Nat) (ga da : Option Addr) (w : World) (HS : Hid (ShapeIs w k s ga n gc da m dc true)) (HZ : Hid (s.size ≤ maxLen)) (HN : Hid (namedB k s = true)) (HV : Hid (Pl.nm s = true)) (g : List ByteArray) (hn : n = g.length) (h0 : 0 < n) (hm : m ≤ maxLen) (hg : Strs (fun b => b < w.heap.size) w ga g) (b : Bool) (hb : b = (decide ((n : Int) = Pl.own k s m) && g.all Pl.triv)) :
    Calls Tryd.prog 60 #[.agg #[.int .i64 k, .string s, .slice ga n gc, .slice da m dc]] w fun e w' => e = .returned (.int .i64 (if b = false then 7 else 0)) ∧ Below w.heap.size w w' := by
  have b17 : (k == 17) = false := beq_eq_false_iff_ne.2 h17
  have c17 : (k != 17) = true := by simpa using h17
  clear h17
  have HMX := Lib.hid hm
  have hgl := hg.1
  rw [← hn] at hgl
  unfold maxLen at hgl hm
  have HG := Lib.hid hg
  have HN0 := Lib.hid hn
  obtain ⟨o, ho⟩ : ∃ o, o = Pl.own k s m := ⟨_, rfl⟩
  rw [← ho] at hb
  have HO := Lib.hid ho
  have HB := Lib.hid hb
  obtain ⟨v, hv⟩ : ∃ v : Int, v = if b = false then 7 else 0 := ⟨_, rfl⟩
  rw [← hv]
  have HVV := Lib.hid hv
  have z0 : decide ((0 : Int) < n) = true := by simp; omega
  have z1 : decide (0 < n) = true := by simp; omega
  clear hg hn ho hb hv
  have A0 := Lib.hid (at4_new w k s (.slice ga n gc) (.slice da m dc))
  have B0 := Lib.hid (box_below w (.cells #[.int .i64 k, .string s, .slice ga n gc, .slice da m dc] 25))
  go_enter Tryd.func60, Tryd.ntmps60
  go_wp2_with (first
    | (go_at_call 68; refine (HS.out _ B0.out).mono ?_; rintro e w1 ⟨rfl, hb1⟩; have B1 := Lib.hid (B0.out.trans (hb1.mono B0.out.size)); have X1 := Lib.hid (at4_below A0.out hb1); obtain ⟨c0, c1, c2, c3⟩ := X1.out; clear hb1)
    | (go_at_call 70; refine (named_is k s _ HN.out _ _ _ _ _ _ _).mono ?_; rintro e w2 ⟨rfl, hb2⟩; have B2 := Lib.hid (B1.out.trans (hb2.mono B1.out.size)); have X2 := Lib.hid (at4_below X1.out hb2); obtain ⟨e0, e1, e2, e3⟩ := X2.out; clear hb2)
    | (go_at_call 71; refine (rvalid_is s _ HV.out _ HZ.out).mono ?_; rintro e w3 ⟨rfl, rfl⟩))
  have k2 : ∀ z : Later w2, z.u.cell? ⟨w.heap.size, 2, none⟩ = some (.slice ga n gc) := fun z => (at4_later X2.out z).2.2.1
  have CALL : ∀ z : Later w2, Calls Tryd.prog 58 #[.agg #[.int .i64 k, .string s, .slice ga n gc, .slice da m dc]] z.u fun e w'' => e = .returned (.int .i64 o) ∧ ∃ y : Later w2, w'' = y.u :=
    fun z => (rown_is k s o n m gc dc ga da z.u HO.out.symm HMX.out).mono fun e w'' ⟨he, hw⟩ => ⟨he, ⟨w'', z.h.trans (hw.mono z.h.size)⟩, rfl⟩
  refine region_later (by kernel_rfl) (by kernel_rfl) ?_
  iterate 8 (go_big_quiet_step (fail))
  refine quiet_load (by rfl) 25 _ (by rfl) (.pointer (some ⟨w.heap.size, 0, none⟩)) _ (by rfl) (fun x hx => by obtain ⟨n, rfl⟩ := hx; exact (at4_later X2.out n).load) ?_
  simp only [Act.put, List.setIfInBounds_toArray, List.set_cons_succ, List.set_cons_zero]
  go_big_quiet_step (exact CALL _)
  repeat (go_big_quiet_step (fail))
  refine wpQuiet_nil ?_
  intro _ hw'
  obtain ⟨n1, rfl⟩ := hw'
  have BN := Lib.hid (B2.out.trans (n1.h.mono B2.out.size))
  have XN := Lib.hid (at4_later X2.out n1)
  clear k2 CALL
  obtain ⟨cb, hcb⟩ : ∃ cb : Bool, ((n : Int) != o) = cb := ⟨_, rfl⟩
  rw [hcb]
  cases cb
  case true =>
    have hno : ¬ (n : Int) = o := by simpa using hcb
    clear hcb
    have HNo : Hid (v = 7) := Lib.hid (by rw [HVV.out, HB.out, decide_eq_false hno, Bool.false_and, if_pos rfl])
    clear hno
    go_wp2_with fail
    go_ret
    exact ⟨ret_int HNo.out.symm, BN.out⟩
  have hno : (n : Int) = o := by simpa using hcb
  clear hcb
  have HB4 : Hid (b = g.all Pl.triv) := Lib.hid (by rw [HB.out, decide_eq_true hno, Bool.true_and])
  clear hno
  go_wp2_with fail
  go_loopw [3] (fun i wr => ∃ j : Nat, j ≤ n ∧ i = .int .i64 j ∧ (g.drop j).all Pl.triv = b ∧ Hid (Below w.heap.size w wr) ∧ Hid (At4 wr w.heap.size 0 k s (.slice ga n gc) (.slice da m dc))) (fun i _ => n - (intOf i).toNat)
  case atStart => exact ⟨0, Nat.zero_le _, rfl, HB4.out.symm, BN, XN⟩
  case round =>
    obtain ⟨j, hj, rfl, hall, HBL, HX⟩ := hrel
    have HA := Lib.hid hall
    clear hall
    have c2 := HX.out.2.2.1
    by_cases hlt : j < n
    · have hjk : j < g.length := by rw [← HN0.out]; exact hlt
      have HD := Lib.hid (all_drop g j hjk)
      obtain ⟨hz1, b1, o1, hga, hb1, hc1⟩ := strs_at HG.out j hjk
      have hc2 : wr.cell? ⟨b1, o1 + j, none⟩ = some (.string g[j]) := (HBL.out.cell (p := ⟨_, _, none⟩) hb1).trans hc1
      have HZ1 := Lib.hid hz1
      generalize g[j] = x at *
      subst hga
      obtain ⟨t, ht⟩ : ∃ t, t = Pl.triv x := ⟨_, rfl⟩
      rw [← ht] at HD
      have HTV := Lib.hid ht
      clear ht hc1 hz1
      cases t
      · have HNo : Hid (v = 7) := Lib.hid (by rw [HVV.out, ← HA.out, HD.out, Bool.false_and, if_pos rfl])
        go_wp2_with (go_at_call 72; refine (rtvalid_is _ _ HTV.out.symm _ HZ1.out).mono ?_; rintro e w' ⟨rfl, rfl⟩)
        go_ret
        exact ⟨ret_int HNo.out.symm, HBL.out⟩
      · have HYes : Hid ((g.drop (j + 1)).all Pl.triv = b) := Lib.hid (by rw [← HA.out, HD.out, Bool.true_and])
        go_wp2_with (go_at_call 72; refine (rtvalid_is _ _ HTV.out.symm _ HZ1.out).mono ?_; rintro e w' ⟨rfl, rfl⟩)
        exact ⟨⟨j + 1, by omega, by go_num, HYes.out, HBL, HX⟩, by simp [intOf]; omega⟩
    · obtain rfl : j = n := by omega
      have HYes : Hid (v = 0) := Lib.hid (by
        have e := HA.out
        rw [List.drop_of_length_le (by rw [HN0.out]; exact Nat.le_refl _)] at e
        rw [HVV.out, ← e]; rfl)
      go_wp2_with fail
      go_ret
      exact ⟨ret_int HYes.out.symm, HBL.out⟩
set_option maxHeartbeats 1600000 in
theorem rnode_plain_none (k : Int) (h17 : ¬ k = 17) (s : ByteArray) (n m gc dc : Nat) (ga da : Option Addr) (w : World) (HS : Hid (ShapeIs w k s ga n gc da m dc true)) (HZ : Hid (s.size ≤ maxLen)) (HN : Hid (namedB k s = false)) (hn : n = 0) :
    Calls Tryd.prog 60 #[.agg #[.int .i64 k, .string s, .slice ga n gc, .slice da m dc]] w fun e w' => e = .returned (.int .i64 0) ∧ Below w.heap.size w w' := by
  have b17 : (k == 17) = false := beq_eq_false_iff_ne.2 h17
  have c17 : (k != 17) = true := by simpa using h17
  clear h17
  subst hn
  have A0 := Lib.hid (at4_new w k s (.slice ga 0 gc) (.slice da m dc))
  have B0 := Lib.hid (box_below w (.cells #[.int .i64 k, .string s, .slice ga 0 gc, .slice da m dc] 25))
  go_enter Tryd.func60, Tryd.ntmps60
  go_wp2_with (first
    | (go_at_call 68; refine (HS.out _ B0.out).mono ?_; rintro e w1 ⟨rfl, hb1⟩; have B1 := Lib.hid (B0.out.trans (hb1.mono B0.out.size)); have X1 := Lib.hid (at4_below A0.out hb1); obtain ⟨c0, c1, c2, c3⟩ := X1.out; clear hb1)
    | (go_at_call 70; refine (named_is k s _ HN.out _ _ _ _ _ _ _).mono ?_; rintro e w2 ⟨rfl, hb2⟩; have B2 := Lib.hid (B1.out.trans (hb2.mono B1.out.size)); have X2 := Lib.hid (at4_below X1.out hb2); obtain ⟨e0, e1, e2, e3⟩ := X2.out; clear hb2))
  have k2 : ∀ z : Later w2, z.u.cell? ⟨w.heap.size, 2, none⟩ = some (.slice ga 0 gc) := fun z => (at4_later X2.out z).2.2.1
  refine region_later (by kernel_rfl) (by kernel_rfl) ?_
  repeat (go_big_quiet_step (fail))
  refine wpQuiet_nil ?_
  intro _ hw'
  obtain ⟨n1, rfl⟩ := hw'
  have q2 := k2 n1
  clear k2
  have BN := Lib.hid (B2.out.trans (n1.h.mono B2.out.size))
  go_wp2_with fail
  refine wp_loop_rounds 1 ?_
  rw [rounds_succ]
  go_wp2_with fail
  go_ret
  exact ⟨rfl, BN.out⟩
set_option maxHeartbeats 1600000 in
theorem rnode_plain_some (k : Int) (h17 : ¬ k = 17) (s : ByteArray) (n m gc dc : Nat) (ga da : Option Addr) (w : World) (HS : Hid (ShapeIs w k s ga n gc da m dc true)) (HZ : Hid (s.size ≤ maxLen)) (HN : Hid (namedB k s = false)) (g : List ByteArray) (hn : n = g.length) (h0 : 0 < n) (hm : m ≤ maxLen) (hg : Strs (fun b => b < w.heap.size) w ga g) (b : Bool) (hb : b = (decide ((n : Int) = Pl.own k s m) && g.all Pl.triv)) :
    Calls Tryd.prog 60 #[.agg #[.int .i64 k, .string s, .slice ga n gc, .slice da m dc]] w fun e w' => e = .returned (.int .i64 (if b = false then 7 else 0)) ∧ Below w.heap.size w w' := by
  have b17 : (k == 17) = false := beq_eq_false_iff_ne.2 h17
  have c17 : (k != 17) = true := by simpa using h17
  clear h17
  have HMX := Lib.hid hm
  have hgl := hg.1
  rw [← hn] at hgl
  unfold maxLen at hgl hm
  have HG := Lib.hid hg
  have HN0 := Lib.hid hn
  obtain ⟨o, ho⟩ : ∃ o, o = Pl.own k s m := ⟨_, rfl⟩
  rw [← ho] at hb
  have HO := Lib.hid ho
  have HB := Lib.hid hb
  obtain ⟨v, hv⟩ : ∃ v : Int, v = if b = false then 7 else 0 := ⟨_, rfl⟩
  rw [← hv]
  have HVV := Lib.hid hv
  have z0 : decide ((0 : Int) < n) = true := by simp; omega
  have z1 : decide (0 < n) = true := by simp; omega
  clear hg hn ho hb hv
  have A0 := Lib.hid (at4_new w k s (.slice ga n gc) (.slice da m dc))
  have B0 := Lib.hid (box_below w (.cells #[.int .i64 k, .string s, .slice ga n gc, .slice da m dc] 25))
  go_enter Tryd.func60, Tryd.ntmps60
  go_wp2_with (first
    | (go_at_call 68; refine (HS.out _ B0.out).mono ?_; rintro e w1 ⟨rfl, hb1⟩; have B1 := Lib.hid (B0.out.trans (hb1.mono B0.out.size)); have X1 := Lib.hid (at4_below A0.out hb1); obtain ⟨c0, c1, c2, c3⟩ := X1.out; clear hb1)
    | (go_at_call 70; refine (named_is k s _ HN.out _ _ _ _ _ _ _).mono ?_; rintro e w2 ⟨rfl, hb2⟩; have B2 := Lib.hid (B1.out.trans (hb2.mono B1.out.size)); have X2 := Lib.hid (at4_below X1.out hb2); obtain ⟨e0, e1, e2, e3⟩ := X2.out; clear hb2))
  have k2 : ∀ z : Later w2, z.u.cell? ⟨w.heap.size, 2, none⟩ = some (.slice ga n gc) := fun z => (at4_later X2.out z).2.2.1
  have CALL : ∀ z : Later w2, Calls Tryd.prog 58 #[.agg #[.int .i64 k, .string s, .slice ga n gc, .slice da m dc]] z.u fun e w'' => e = .returned (.int .i64 o) ∧ ∃ y : Later w2, w'' = y.u :=
    fun z => (rown_is k s o n m gc dc ga da z.u HO.out.symm HMX.out).mono fun e w'' ⟨he, hw⟩ => ⟨he, ⟨w'', z.h.trans (hw.mono z.h.size)⟩, rfl⟩
  refine region_later (by kernel_rfl) (by kernel_rfl) ?_
  iterate 8 (go_big_quiet_step (fail))
  refine quiet_load (by rfl) 25 _ (by rfl) (.pointer (some ⟨w.heap.size, 0, none⟩)) _ (by rfl) (fun x hx => by obtain ⟨n, rfl⟩ := hx; exact (at4_later X2.out n).load) ?_
  simp only [Act.put, List.setIfInBounds_toArray, List.set_cons_succ, List.set_cons_zero]
  go_big_quiet_step (exact CALL _)
  repeat (go_big_quiet_step (fail))
  refine wpQuiet_nil ?_
  intro _ hw'
  obtain ⟨n1, rfl⟩ := hw'
  have BN := Lib.hid (B2.out.trans (n1.h.mono B2.out.size))
  have XN := Lib.hid (at4_later X2.out n1)
  clear k2 CALL
  obtain ⟨cb, hcb⟩ : ∃ cb : Bool, ((n : Int) != o) = cb := ⟨_, rfl⟩
  rw [hcb]
  cases cb
  case true =>
    have hno : ¬ (n : Int) = o := by simpa using hcb
    clear hcb
    have HNo : Hid (v = 7) := Lib.hid (by rw [HVV.out, HB.out, decide_eq_false hno, Bool.false_and, if_pos rfl])
    clear hno
    go_wp2_with fail
    go_ret
    exact ⟨ret_int HNo.out.symm, BN.out⟩
  have hno : (n : Int) = o := by simpa using hcb
  clear hcb
  have HB4 : Hid (b = g.all Pl.triv) := Lib.hid (by rw [HB.out, decide_eq_true hno, Bool.true_and])
  clear hno
  go_wp2_with fail
  go_loopw [3] (fun i wr => ∃ j : Nat, j ≤ n ∧ i = .int .i64 j ∧ (g.drop j).all Pl.triv = b ∧ Hid (Below w.heap.size w wr) ∧ Hid (At4 wr w.heap.size 0 k s (.slice ga n gc) (.slice da m dc))) (fun i _ => n - (intOf i).toNat)
  case atStart => exact ⟨0, Nat.zero_le _, rfl, HB4.out.symm, BN, XN⟩
  case round =>
    obtain ⟨j, hj, rfl, hall, HBL, HX⟩ := hrel
    have HA := Lib.hid hall
    clear hall
    have c2 := HX.out.2.2.1
    by_cases hlt : j < n
    · have hjk : j < g.length := by rw [← HN0.out]; exact hlt
      have HD := Lib.hid (all_drop g j hjk)
      obtain ⟨hz1, b1, o1, hga, hb1, hc1⟩ := strs_at HG.out j hjk
      have hc2 : wr.cell? ⟨b1, o1 + j, none⟩ = some (.string g[j]) := (HBL.out.cell (p := ⟨_, _, none⟩) hb1).trans hc1
      have HZ1 := Lib.hid hz1
      generalize g[j] = x at *
      subst hga
      obtain ⟨t, ht⟩ : ∃ t, t = Pl.triv x := ⟨_, rfl⟩
      rw [← ht] at HD
      have HTV := Lib.hid ht
      clear ht hc1 hz1
      cases t
      · have HNo : Hid (v = 7) := Lib.hid (by rw [HVV.out, ← HA.out, HD.out, Bool.false_and, if_pos rfl])
        go_wp2_with (go_at_call 72; refine (rtvalid_is _ _ HTV.out.symm _ HZ1.out).mono ?_; rintro e w' ⟨rfl, rfl⟩)
        go_ret
        exact ⟨ret_int HNo.out.symm, HBL.out⟩
      · have HYes : Hid ((g.drop (j + 1)).all Pl.triv = b) := Lib.hid (by rw [← HA.out, HD.out, Bool.true_and])
        go_wp2_with (go_at_call 72; refine (rtvalid_is _ _ HTV.out.symm _ HZ1.out).mono ?_; rintro e w' ⟨rfl, rfl⟩)
        exact ⟨⟨j + 1, by omega, by go_num, HYes.out, HBL, HX⟩, by simp [intOf]; omega⟩
    · obtain rfl : j = n := by omega
      have HYes : Hid (v = 0) := Lib.hid (by
        have e := HA.out
        rw [List.drop_of_length_le (by rw [HN0.out]; exact Nat.le_refl _)] at e
        rw [HVV.out, ← e]; rfl)
      go_wp2_with fail
      go_ret
      exact ⟨ret_int HYes.out.symm, HBL.out⟩
theorem rnode_at (k : Int) (s : ByteArray) (g : List ByteArray) (ks : List Pl.Tr) (r : Sl) (w : World) (h : IsT w (.node k s g ks) r) :
    Calls Tryd.prog 60 #[.agg #[.int .i64 k, .string s, .slice r.ga g.length r.gc, .slice r.da ks.length r.dc]] w fun e w' => e = .returned (.int .i64 (Pl.nodeE k s g ks)) ∧ Below w.heap.size w w' := by
  obtain ⟨hs, hg, hl, R, hks, _⟩ := h.parts
  unfold Pl.nodeE
  cases hsh : Pl.shape k s ks
  · rw [if_pos rfl]
    exact rnode_shape k s _ _ _ _ _ _ w (Lib.hid fun w2 hb => rshape_is k s g.length r.gc r.dc r.ga r.da ks R false hsh w2 hl (hks.later hb))
  rw [if_neg (by decide)]
  have HS := Lib.hid (fun w2 (hb : Below w.heap.size w w2) => rshape_is k s g.length r.gc r.dc r.ga r.da ks R true hsh w2 hl (hks.later hb))
  have hk : 1 ≤ k ∧ k ≤ 26 := by
    unfold Pl.shape at hsh
    rw [Bool.and_eq_true, Bool.and_eq_true, Bool.and_eq_true, Bool.and_eq_true] at hsh
    exact of_decide_eq_true hsh.1.1.1.1
  rw [name_eq k s hk]
  have hgap : (if Pl.gapsOK k s g ks.length = false then (7 : Int) else 0) = if g.length = 0 then 0 else if (decide ((g.length : Int) = Pl.own k s ks.length) && g.all Pl.triv) = false then 7 else 0 := by
    unfold Pl.gapsOK
    by_cases h0 : g = []
    · subst h0; rfl
    · rw [decide_eq_false h0, Bool.false_or, if_neg (fun e => h0 (List.eq_nil_of_length_eq_zero e))]
  rw [hgap]
  by_cases h17 : k = 17
  · subst h17
    rw [if_pos rfl]
    cases hi : Pl.isI s
    · rw [if_pos rfl]
      exact rnode_int_bad s _ _ _ _ _ _ w HS (Lib.hid hs) (Lib.hid hi)
    rw [if_neg (by decide)]
    by_cases h0 : g.length = 0
    · rw [if_pos h0]
      exact rnode_int_none s _ _ _ _ _ _ w HS (Lib.hid hs) (Lib.hid hi) h0
    · rw [if_neg h0]
      exact rnode_int_some s _ _ _ _ _ _ w HS (Lib.hid hs) (Lib.hid hi) g rfl (by omega) hl hg _ rfl
  rw [if_neg h17]
  cases hn : namedB k s
  · rw [show (if false = true then Pl.nm s else true) = true from rfl, if_neg (show ¬ true = false by decide)]
    by_cases h0 : g.length = 0
    · rw [if_pos h0]
      exact rnode_plain_none k h17 s _ _ _ _ _ _ w HS (Lib.hid hs) (Lib.hid hn) h0
    · rw [if_neg h0]
      exact rnode_plain_some k h17 s _ _ _ _ _ _ w HS (Lib.hid hs) (Lib.hid hn) g rfl (by omega) hl hg _ rfl
  rw [if_pos rfl]
  cases hv : Pl.nm s
  · rw [if_pos rfl]
    exact rnode_named_bad k h17 s _ _ _ _ _ _ w HS (Lib.hid hs) (Lib.hid hn) (Lib.hid hv)
  rw [if_neg (by decide)]
  by_cases h0 : g.length = 0
  · rw [if_pos h0]
    exact rnode_named_none k h17 s _ _ _ _ _ _ w HS (Lib.hid hs) (Lib.hid hn) (Lib.hid hv) h0
  · rw [if_neg h0]
    exact rnode_named_some k h17 s _ _ _ _ _ _ w HS (Lib.hid hs) (Lib.hid hn) (Lib.hid hv) g rfl (by omega) hl hg _ rfl
theorem rnode_is (k : Int) (s : ByteArray) (g : List ByteArray) (ks : List Pl.Tr) (r : Sl) (v : Int) (hv : Pl.nodeE k s g ks = v) (w : World) (h : IsT w (.node k s g ks) r) :
    Calls Tryd.prog 60 #[.agg #[.int .i64 k, .string s, .slice r.ga g.length r.gc, .slice r.da ks.length r.dc]] w fun e w' => e = .returned (.int .i64 v) ∧ Below w.heap.size w w' := hv ▸ rnode_at k s g ks r w h
end Go.Proofs.YtpaleolcfhnenaaDoor

namespace Go.Proofs.YtpaleolcfhnenaaDoor
open Go.RowKit
set_option linter.unusedVariables false
set_option linter.unusedSimpArgs false

theorem rsz_le (l : Nat) (t : Pl.Tr) : Pl.rsz l t ≤ 4001 := by
  cases t with
  | node k s g ks => rw [Pl.rsz]; split <;> omega
theorem rszs_drop (l a : Nat) (ks : List Pl.Tr) (j : Nat) (h : j < ks.length) (ha : a ≤ 4000) : Pl.rszs l a (ks.drop j) = Pl.rszs l (a + Pl.rsz l ks[j]) (ks.drop (j + 1)) := by
  rw [List.drop_eq_getElem_cons h, Pl.rszs, if_pos ha]
theorem rszs_stop (l a : Nat) (ks : List Pl.Tr) (ha : ¬ a ≤ 4000) : Pl.rszs l a ks = a := by
  cases ks with
  | nil => rw [Pl.rszs]
  | cons t ts => rw [Pl.rszs, if_neg ha]
/-- What size answers at each kid, one level deeper. -/
def EachL (w : World) (ks : List Pl.Tr) (l : Nat) : Prop :=
  ∀ (j : Nat) u, ks[j]? = some u → ∀ w2, Below w.heap.size w w2 → ∀ r, IsT w2 u r → Calls Tryd.prog 47 #[.agg #[.int .i64 u.kind, .string u.text, .slice r.ga u.gaps.length r.gc, .slice r.da u.kids.length r.dc], .int .i64 l] w2 fun e w' => e = .returned (.int .i64 (Pl.rsz l u)) ∧ Below w2.heap.size w2 w'

set_option maxHeartbeats 1600000 in
theorem rsize_deep (l : Nat) (h60 : 60 < l) (h61 : l ≤ 61) (k : Int) (s : ByteArray) (n m gc dc : Nat) (ga da : Option Addr) (w : World) :
    Calls Tryd.prog 47 #[.agg #[.int .i64 k, .string s, .slice ga n gc, .slice da m dc], .int .i64 l] w fun e w' => e = .returned (.int .i64 4001) ∧ Below w.heap.size w w' := by
  have d1 : decide ((60 : Int) < l) = true := decide_eq_true (by omega)
  go_enter Tryd.func47, Tryd.ntmps47
  go_wp2_with fail
  refine region_later (by kernel_rfl) (by kernel_rfl) ?_
  repeat (go_big_quiet_step (fail))
  refine wpQuiet_nil ?_
  intro _ hw'
  obtain ⟨n1, rfl⟩ := hw'
  go_wp2_with fail
  go_ret
  exact ⟨rfl, (box_below _ _).trans (n1.h.mono (by simp))⟩
set_option maxHeartbeats 3200000 in
theorem rsize_step (l : Nat) (h60 : l ≤ 60) (k : Int) (s : ByteArray) (n gc dc : Nat) (ga da : Option Addr) (ks : List Pl.Tr) (R : Nat → Sl) (w : World) (hl : ks.length ≤ maxLen) (hks : Lies (fun b => b < w.heap.size) w ks da R) (hr : ∀ (j : Nat) u, ks[j]? = some u → IsT w u (R j))
    (ih : EachL w ks (l + 1)) :
    Calls Tryd.prog 47 #[.agg #[.int .i64 k, .string s, .slice ga n gc, .slice da ks.length dc], .int .i64 l] w fun e w' => e = .returned (.int .i64 ((if Pl.mostK k < ks.length then 4001 else min (Pl.rszs (l + 1) 1 ks) 4001 : Nat) : Int)) ∧ Below w.heap.size w w' := by
  unfold maxLen at hl
  have d1 : decide ((60 : Int) < l) = false := decide_eq_false (by omega)
  obtain ⟨q, hq⟩ : ∃ q, Pl.mostK k = q := ⟨_, rfl⟩
  obtain ⟨m, hm⟩ : ∃ m, m = ks.length := ⟨_, rfl⟩
  obtain ⟨b, hb⟩ : ∃ b, b = Pl.rszs (l + 1) 1 ks := ⟨_, rfl⟩
  rw [hq, ← hb]
  rw [← hm] at hl ⊢
  have HB := Lib.hid hb
  have HM := Lib.hid hm
  have HK := Lib.hid hks
  have HR := Lib.hid hr
  have HI := Lib.hid ih
  have HQ := Lib.hid hq
  clear hm hks hr ih hb hq
  obtain ⟨W, hW⟩ : ∃ W, W = w.alloc (.cells #[.int .i64 k, .string s, .slice ga n gc, .slice da m dc] 25) := ⟨_, rfl⟩
  have A1 := Lib.hid (at4_new w k s (.slice ga n gc) (.slice da m dc))
  have HBW := Lib.hid (box_below w (.cells #[.int .i64 k, .string s, .slice ga n gc, .slice da m dc] 25))
  have HSZ : Hid (w.heap.size < (w.alloc (.cells #[.int .i64 k, .string s, .slice ga n gc, .slice da m dc] 25)).heap.size) := Lib.hid (by simp)
  rw [← hW] at A1 HBW HSZ
  have HWE := Lib.hid hW
  clear hW
  have k0 : ∀ z : Later W, z.u.cell? ⟨w.heap.size, 0, none⟩ = some (.int .i64 k) := fun z => (at4_later A1.out z).1
  have k3 : ∀ z : Later W, z.u.cell? ⟨w.heap.size, 3, none⟩ = some (.slice da m dc) := fun z => (at4_later A1.out z).2.2.2
  have C0 : ∀ z : Later W, Calls Tryd.prog 59 #[.int .i64 k] z.u fun e w'' => e = .returned (.int .i64 q) ∧ ∃ y : Later W, w'' = y.u :=
    fun z => (rmost_any k z.u).mono fun e w'' ⟨he, hw⟩ => ⟨by rw [he, HQ.out], z, hw.symm⟩
  by_cases hqm : q < m
  · have d2 : decide (q < (m : Int)) = true := decide_eq_true hqm
    rw [if_pos hqm]
    go_enter Tryd.func47, Tryd.ntmps47
    go_wp2_with fail
    rw [← HWE.out]
    refine region_later (by kernel_rfl) (by kernel_rfl) ?_
    repeat (first | (go_big_quiet_step (fail)) | (go_big_quiet_step (exact C0 _)))
    refine wpQuiet_nil ?_
    intro _ hw'
    obtain ⟨n1, rfl⟩ := hw'
    go_wp2_with fail
    go_ret
    exact ⟨rfl, HBW.out.trans (n1.h.mono (Nat.le_of_lt HSZ.out))⟩
  have d2 : decide (q < (m : Int)) = false := decide_eq_false hqm
  rw [if_neg hqm]
  clear hqm
  obtain ⟨v, hv⟩ : ∃ v : Int, v = ((min b 4001 : Nat) : Int) := ⟨_, rfl⟩
  rw [← hv]
  have HV := Lib.hid hv
  clear hv
  go_enter Tryd.func47, Tryd.ntmps47
  go_wp2_with fail
  rw [← HWE.out]
  refine region_later (by kernel_rfl) (by kernel_rfl) ?_
  repeat (first | (go_big_quiet_step (fail)) | (go_big_quiet_step (exact C0 _)))
  refine wpQuiet_nil ?_
  intro _ hw'
  obtain ⟨n1, rfl⟩ := hw'
  have B1 := Lib.hid (HBW.out.trans (n1.h.mono (Nat.le_of_lt HSZ.out)))
  have X1 := Lib.hid (at4_later A1.out n1)
  clear k0 k3 C0
  go_wp2_with fail
  go_loopw [5, 6] (fun v i wr => ∃ j x : Nat, j ≤ m ∧ x ≤ 8001 ∧ i = .int .i64 j ∧ v = .int .i64 x ∧ Pl.rszs (l + 1) x (ks.drop j) = b ∧ Hid (Below w.heap.size w wr) ∧ Hid (At4 wr w.heap.size 0 k s (.slice ga n gc) (.slice da m dc))) (fun _ i _ => m - (intOf i).toNat)
  case atStart => exact ⟨0, 1, Nat.zero_le _, by decide, rfl, rfl, HB.out.symm, B1, X1⟩
  case round =>
    obtain ⟨j, x, hj, hx, rfl, rfl, hsum, HBL, HX⟩ := hrel
    have HS := Lib.hid hsum
    clear hsum
    have c3 := HX.out.2.2.2
    by_cases hlt : j < m
    · have g1 : decide ((j : Int) < m) = true := decide_eq_true (by omega)
      by_cases hx4 : x ≤ 4000
      · have hjk : j < ks.length := by rw [← HM.out]; exact hlt
        have hu := List.getElem?_eq_getElem hjk
        have HD := Lib.hid (rszs_drop (l + 1) x ks j hjk hx4)
        have HI1 := Lib.hid (HI.out j _ hu)
        have HR1 := Lib.hid (HR.out j _ hu)
        rcases HK.out with h0 | ⟨b1, o1, rfl, hb1, hat⟩
        · rw [h0] at hjk; simp at hjk
        obtain ⟨u0, u1, u2, u3⟩ := At4.keep (hat j _ hu) (Same.below HBL.out fun _ h => h) hb1
        generalize ks[j] = u at *
        generalize R j = r1 at *
        obtain ⟨ga1, gc1, da1, dc1⟩ := r1
        have HC := Lib.hid (HI1.out _ HBL.out ⟨ga1, gc1, da1, dc1⟩ (HR1.out.later HBL.out))
        obtain ⟨y, hy⟩ : ∃ y, y = Pl.rsz (l + 1) u := ⟨_, rfl⟩
        have hy1 : y ≤ 4001 := by rw [hy]; exact rsz_le _ _
        have HY : Hid (Pl.rszs (l + 1) (x + y) (ks.drop (j + 1)) = b) := Lib.hid (by rw [← HS.out, HD.out, hy])
        have HC2 : Hid (Calls Tryd.prog 47 #[.agg #[.int .i64 u.kind, .string u.text, .slice ga1 u.gaps.length gc1, .slice da1 u.kids.length dc1], .int .i64 ((l : Int) + 1)] wr fun e w' => e = .returned (.int .i64 y) ∧ Below wr.heap.size wr w') := Lib.hid (by rw [hy]; exact HC.out)
        clear hat hu hy HC
        go_wp2_with (go_at_call 47; refine HC2.out.mono ?_; rintro e w' ⟨rfl, hb2⟩; have HB2 := Lib.hid hb2; clear hb2)
        exact ⟨⟨j + 1, x + y, by omega, by omega, by go_num, by go_num, HY.out, Lib.hid (HBL.out.trans (HB2.out.mono HBL.out.size)), Lib.hid (at4_below HX.out HB2.out)⟩, by simp [intOf]; omega⟩
      · have HE : Hid (b = x) := Lib.hid (by rw [← HS.out, rszs_stop _ _ _ hx4])
        go_wp2_with fail
        all_goals go_ret
        all_goals refine ⟨ret_int ?_, HBL.out⟩
        all_goals have e1 := HV.out
        all_goals have e2 := HE.out
        all_goals omega
    · obtain rfl : j = m := by omega
      have g1 : decide ((j : Int) < j) = false := decide_eq_false (by omega)
      have HE : Hid (x = b) := Lib.hid (by
        have e := HS.out
        rw [List.drop_of_length_le (by rw [HM.out]; exact Nat.le_refl _), Pl.rszs] at e
        exact e)
      go_wp2_with fail
      all_goals go_ret
      all_goals refine ⟨ret_int ?_, HBL.out⟩
      all_goals have e1 := HV.out
      all_goals have e2 := HE.out
      all_goals omega
theorem rsize_at (t : Pl.Tr) : ∀ (l : Nat) w r, l ≤ 61 → IsT w t r → Calls Tryd.prog 47 #[.agg #[.int .i64 t.kind, .string t.text, .slice r.ga t.gaps.length r.gc, .slice r.da t.kids.length r.dc], .int .i64 l] w fun e w' => e = .returned (.int .i64 (Pl.rsz l t)) ∧ Below w.heap.size w w' := by
  refine Pl.Tr.ind (M := fun t => ∀ (l : Nat) w r, l ≤ 61 → IsT w t r → Calls Tryd.prog 47 #[.agg #[.int .i64 t.kind, .string t.text, .slice r.ga t.gaps.length r.gc, .slice r.da t.kids.length r.dc], .int .i64 l] w fun e w' => e = .returned (.int .i64 (Pl.rsz l t)) ∧ Below w.heap.size w w') ?_ t
  intro k s g ks ih l w r hl61 h
  obtain ⟨hs, hg, hl, R, hks, hr⟩ := h.parts
  rw [Pl.rsz]
  by_cases h60 : 60 < l
  · rw [if_pos (.inl h60)]
    exact rsize_deep l h60 hl61 k s _ _ _ _ _ _ w
  · have := rsize_step l (by omega) k s g.length r.gc r.dc r.ga r.da ks R w hl hks hr (fun j u hu w2 hb r2 h2 => ih u (List.mem_of_getElem? hu) (l + 1) w2 r2 (by omega) h2)
    have e : (if 60 < l ∨ Pl.mostK k < ks.length then 4001 else min (Pl.rszs (l + 1) 1 ks) 4001) = (if Pl.mostK k < ks.length then 4001 else min (Pl.rszs (l + 1) 1 ks) 4001) := by
      by_cases h1 : Pl.mostK k < ks.length
      · rw [if_pos h1, if_pos (.inr h1)]
      · rw [if_neg h1, if_neg (by rintro (h | h); exact h60 h; exact h1 h)]
    rw [e]
    exact this

set_option maxHeartbeats 3200000 in
theorem rfirst_step (k : Int) (s : ByteArray) (g : List ByteArray) (r : Sl) (ks : List Pl.Tr) (w : World) (h : IsT w (.node k s g ks) r)
    (ih : Each 48 w ks fun u => .int .i64 (Pl.firstE u)) :
    Calls Tryd.prog 48 #[.agg #[.int .i64 k, .string s, .slice r.ga g.length r.gc, .slice r.da ks.length r.dc]] w fun e w' => e = .returned (.int .i64 (if Pl.nodeE k s g ks ≠ 0 then Pl.nodeE k s g ks else Pl.firstsE ks)) ∧ Below w.heap.size w w' := by
  obtain ⟨hs, hg, hl, R, hks, hr⟩ := h.parts
  obtain ⟨v, hv⟩ : ∃ v, v = Pl.nodeE k s g ks := ⟨_, rfl⟩
  have HN := Lib.hid (fun w2 (hb : Below w.heap.size w w2) => rnode_is k s g ks r v hv.symm w2 (h.later hb))
  rw [← hv]
  unfold maxLen at hl
  obtain ⟨ga, gc, da, dc⟩ := r
  obtain ⟨m, hm⟩ : ∃ m, m = ks.length := ⟨_, rfl⟩
  obtain ⟨n, hn⟩ : ∃ n, n = g.length := ⟨_, rfl⟩
  simp only at HN ⊢
  rw [← hm, ← hn] at HN ⊢
  rw [← hm] at hl
  have HM := Lib.hid hm
  have HK := Lib.hid hks
  have HR := Lib.hid hr
  have HI := Lib.hid ih
  have B0 := Lib.hid (box_below w (.cells #[.int .i64 k, .string s, .slice ga n gc, .slice da m dc] 25))
  have A0 := Lib.hid (at4_new w k s (.slice ga n gc) (.slice da m dc))
  clear hm hks hr ih hv hn h hs hg
  obtain ⟨b, hb⟩ : ∃ b, b = if v ≠ 0 then v else Pl.firstsE ks := ⟨_, rfl⟩
  rw [← hb]
  have HB := Lib.hid hb
  clear hb
  go_enter Tryd.func48, Tryd.ntmps48
  go_wp2_with (go_at_call 60; refine (HN.out _ B0.out).mono ?_; rintro e w2 ⟨rfl, hb2⟩; have B2 := Lib.hid (B0.out.trans (hb2.mono B0.out.size)); have X2 := Lib.hid (at4_below A0.out hb2); clear hb2)
  go_loopw [3, 4] (fun x i wr => ∃ (j : Nat) (y : Int), j ≤ m ∧ i = .int .i64 j ∧ x = .int .i64 y ∧ (if y ≠ 0 then y else Pl.firstsE (ks.drop j)) = b ∧ Hid (Below w.heap.size w wr) ∧ Hid (At4 wr w.heap.size 0 k s (.slice ga n gc) (.slice da m dc))) (fun _ i _ => m - (intOf i).toNat)
  case atStart => exact ⟨0, v, Nat.zero_le _, rfl, rfl, HB.out.symm, B2, X2⟩
  case round =>
    obtain ⟨j, y, hj, rfl, rfl, hsum, HBL, HX⟩ := hrel
    have HS := Lib.hid hsum
    clear hsum
    have c3 := HX.out.2.2.2
    by_cases hlt : j < m
    · have g1 : decide ((j : Int) < m) = true := decide_eq_true (by omega)
      by_cases hy0 : y = 0
      · subst hy0
        have hjk : j < ks.length := by rw [← HM.out]; exact hlt
        have hu := List.getElem?_eq_getElem hjk
        have HD := Lib.hid (firsts_drop ks j hjk)
        have HI1 := Lib.hid (HI.out j _ hu)
        have HR1 := Lib.hid (HR.out j _ hu)
        rcases HK.out with h0 | ⟨b1, o1, rfl, hb1, hat⟩
        · rw [h0] at hjk; simp at hjk
        obtain ⟨u0, u1, u2, u3⟩ := At4.keep (hat j _ hu) (Same.below HBL.out fun _ h => h) hb1
        generalize ks[j] = u at *
        generalize R j = r1 at *
        obtain ⟨ga1, gc1, da1, dc1⟩ := r1
        have HC := Lib.hid (HI1.out _ HBL.out ⟨ga1, gc1, da1, dc1⟩ (HR1.out.later HBL.out))
        obtain ⟨z, hz⟩ : ∃ z, z = Pl.firstE u := ⟨_, rfl⟩
        have HY : Hid ((if z ≠ 0 then z else Pl.firstsE (ks.drop (j + 1))) = b) := Lib.hid (by rw [← HS.out, hz]; exact HD.out.symm)
        have HC2 : Hid (Calls Tryd.prog 48 #[.agg #[.int .i64 u.kind, .string u.text, .slice ga1 u.gaps.length gc1, .slice da1 u.kids.length dc1]] wr fun e w' => e = .returned (.int .i64 z) ∧ Below wr.heap.size wr w') := Lib.hid (by rw [hz]; exact HC.out)
        clear hat hu hz HC
        go_wp2_with (go_at_call 48; refine HC2.out.mono ?_; rintro e w' ⟨rfl, hb2⟩; have HB2 := Lib.hid hb2; clear hb2)
        exact ⟨⟨j + 1, z, by omega, by go_num, rfl, HY.out, Lib.hid (HBL.out.trans (HB2.out.mono HBL.out.size)), Lib.hid (at4_below HX.out HB2.out)⟩, by simp [intOf]; omega⟩
      · have HE : Hid (y = b) := Lib.hid (by rw [← HS.out, if_pos hy0])
        obtain ⟨v1, v2⟩ := int_neq2 hy0
        clear hy0
        go_wp2_with fail
        go_ret
        exact ⟨ret_int HE.out, HBL.out⟩
    · obtain rfl : j = m := by omega
      have g1 : decide ((j : Int) < j) = false := decide_eq_false (by omega)
      have HE : Hid (y = b) := Lib.hid (by
        have e := HS.out
        rw [List.drop_of_length_le (by rw [HM.out]; exact Nat.le_refl _), Pl.firstsE] at e
        rw [← e]
        by_cases h0 : y = 0
        · rw [h0]; rfl
        · rw [if_pos h0])
      go_wp2_with fail
      go_ret
      exact ⟨ret_int HE.out, HBL.out⟩
theorem rfirst_at (t : Pl.Tr) : ∀ w r, IsT w t r → Calls Tryd.prog 48 #[.agg #[.int .i64 t.kind, .string t.text, .slice r.ga t.gaps.length r.gc, .slice r.da t.kids.length r.dc]] w fun e w' => e = .returned (.int .i64 (Pl.firstE t)) ∧ Below w.heap.size w w' := by
  refine Pl.Tr.ind (M := fun t => ∀ w r, IsT w t r → Calls Tryd.prog 48 #[.agg #[.int .i64 t.kind, .string t.text, .slice r.ga t.gaps.length r.gc, .slice r.da t.kids.length r.dc]] w fun e w' => e = .returned (.int .i64 (Pl.firstE t)) ∧ Below w.heap.size w w') ?_ t
  intro k s g ks ih w r h
  have := rfirst_step k s g r ks w h (fun j u hu w2 hb r2 h2 => ih u (List.mem_of_getElem? hu) w2 r2 h2)
  rw [Pl.firstE]
  exact this
set_option maxHeartbeats 1600000 in
theorem rcheck_at (t : Pl.Tr) (w : World) (r : Sl) (h : IsT w t r) :
    Calls Tryd.prog 25 #[.agg #[.int .i64 t.kind, .string t.text, .slice r.ga t.gaps.length r.gc, .slice r.da t.kids.length r.dc]] w fun e w' => e = .returned (.int .i64 (Pl.rchk t)) ∧ Below w.heap.size w w' := by
  obtain ⟨z, hz⟩ : ∃ z, z = Pl.rsz 1 t := ⟨_, rfl⟩
  obtain ⟨f, hf⟩ : ∃ f, f = Pl.firstE t := ⟨_, rfl⟩
  have hz1 : z ≤ 4001 := by rw [hz]; exact rsz_le _ _
  have CS := Lib.hid (fun w2 (hb : Below w.heap.size w w2) => rsize_at t 1 w2 r (by decide) (h.later hb))
  have CF := Lib.hid (fun w2 (hb : Below w.heap.size w w2) => rfirst_at t w2 r (h.later hb))
  have A0 := Lib.hid (box_at t r w)
  have B0 := Lib.hid (box_below w (.cells #[.int .i64 t.kind, .string t.text, .slice r.ga t.gaps.length r.gc, .slice r.da t.kids.length r.dc] 25))
  unfold Pl.rchk
  rw [← hz] at CS
  rw [← hf] at CF
  rw [← hz, ← hf]
  clear hz hf h
  generalize t.kind = k at *
  generalize t.text = s at *
  generalize t.gaps.length = n at *
  generalize t.kids.length = m at *
  obtain ⟨ga, gc, da, dc⟩ := r
  simp only at *
  by_cases h1 : 4000 < z
  · rw [if_pos h1]
    go_enter Tryd.func25, Tryd.ntmps25
    go_wp2_with (go_at_call 47; refine (CS.out _ B0.out).mono ?_; rintro e w1 ⟨rfl, hb1⟩; have B1 := Lib.hid (B0.out.trans (hb1.mono B0.out.size)); clear hb1)
    go_ret
    exact ⟨rfl, B1.out⟩
  rw [if_neg h1]
  go_enter Tryd.func25, Tryd.ntmps25
  go_wp2_with (first
    | (go_at_call 47; refine (CS.out _ B0.out).mono ?_; rintro e w1 ⟨rfl, hb1⟩; have A1 := Lib.hid (at4_below A0.out hb1); have B1 := Lib.hid (B0.out.trans (hb1.mono B0.out.size)); obtain ⟨c0, c1, c2, c3⟩ := A1.out; clear hb1)
    | (go_at_call 48; refine (CF.out _ B1.out).mono ?_; rintro e w2 ⟨rfl, hb2⟩; have B2 := Lib.hid (B1.out.trans (hb2.mono B1.out.size)); clear hb2))
  go_ret
  exact ⟨rfl, B2.out⟩
end Go.Proofs.YtpaleolcfhnenaaDoor
