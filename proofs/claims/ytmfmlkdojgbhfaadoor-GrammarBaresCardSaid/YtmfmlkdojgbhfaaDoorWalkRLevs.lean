/- The walk of the reference's levels. -/
import Derived.Test.YtmfmlkdojgbhfaaDoorWalkLevs
namespace Go.Proofs.YtmfmlkdojgbhfaaDoor
open Go.RowKit
set_option linter.unusedVariables false
set_option linter.unusedSimpArgs false

theorem lvo_le (s : ByteArray) : Pl.lvo s ≤ 5 := by unfold Pl.lvo Pl.lvL; omega
theorem lev_le (t : Pl.Tr) : t.lev ≤ 7 := by
  unfold Pl.Tr.lev Pl.lv
  have := lvo_le t.text
  omega
/-- What a call answers in every world behind W. -/
abbrev Ans (W : World) (f : FuncId) (a : Array Value) (v : Value) : Prop := ∀ wz, Hid (Below W.heap.size W wz) → Calls Tryd.prog f a wz fun e w' => e = .returned v ∧ Hid (Below W.heap.size W w')
theorem ans_of {W : World} {f : FuncId} {a : Array Value} {v : Value} (h : ∀ wz, Below W.heap.size W wz → Calls Tryd.prog f a wz fun e w' => e = .returned v ∧ Below wz.heap.size wz w') : Ans W f a v :=
  fun wz hz => (h wz hz.out).mono fun e w' ⟨he, hb⟩ => ⟨he, Lib.hid (hz.out.trans (hb.mono hz.out.size))⟩

set_option maxHeartbeats 1600000 in
theorem rlevs_24 (s : ByteArray) (n gc dc : Nat) (ga da : Option Addr) (x y : Pl.Tr) (ks : List Pl.Tr) (R : Nat → Sl) (w : World) (m : Nat) (hm : m = (x :: y :: ks).length) (hl : m ≤ maxLen) (hks : Lies (fun b => b < w.heap.size) w (x :: y :: ks) da R) :
    Calls Tryd.prog 59 #[.agg #[.int .i64 24, .string s, .slice ga n gc, .slice da m dc]] w fun e w' => e = .returned (.bool (Pl.lvls 24 s (x :: y :: ks))) ∧ Below w.heap.size w w' := by
  unfold maxLen at hl
  have hm2 : 2 ≤ m := by rw [hm]; simp
  obtain ⟨b, o, rfl, hb, hx0, hy1⟩ := lies_cons hks
  have hy0 := hy1 y ks rfl
  generalize R 0 = r0 at *
  generalize R 1 = r1 at *
  obtain ⟨v, hv⟩ : ∃ v, v = Pl.lvo s := ⟨_, rfl⟩
  obtain ⟨vx, hvx⟩ : ∃ v, v = x.lev := ⟨_, rfl⟩
  obtain ⟨vy, hvy⟩ : ∃ v, v = y.lev := ⟨_, rfl⟩
  obtain ⟨q, hq⟩ : ∃ q : Bool, q = Pl.lvls 24 s (x :: y :: ks) := ⟨_, rfl⟩
  rw [← hq]
  rw [show Pl.lvls 24 s (x :: y :: ks) = (!(decide (Pl.lvo s = 3) && decide (x.lev = Pl.lvo s)) && decide (Pl.lvo s ≤ x.lev) && decide (Pl.lvo s < y.lev)) from rfl, ← hv, ← hvx, ← hvy] at hq
  have HQ := Lib.hid hq
  obtain ⟨W, hW⟩ : ∃ W, W = w.alloc (.cells #[.int .i64 24, .string s, .slice ga n gc, .slice (some ⟨b, o, none⟩) m dc] 25) := ⟨_, rfl⟩
  have A1 := at4_new w 24 s (.slice ga n gc) (.slice (some ⟨b, o, none⟩) m dc)
  have HBW := Lib.hid (box_below w (.cells #[.int .i64 24, .string s, .slice ga n gc, .slice (some ⟨b, o, none⟩) m dc] 25))
  have X1 := at4_below hx0 HBW.out
  have Y1 := at4_below hy0 HBW.out
  have HSZ : Hid (w.heap.size < (w.alloc (.cells #[.int .i64 24, .string s, .slice ga n gc, .slice (some ⟨b, o, none⟩) m dc] 25)).heap.size) := Lib.hid (by simp)
  rw [← hW] at A1 HBW X1 Y1 HSZ
  have HXR : Hid (∀ wz, Hid (Below W.heap.size W wz) → At4 wz b o x.kind x.text (.slice r0.ga x.gaps.length r0.gc) (.slice r0.da x.kids.length r0.dc)) := Lib.hid fun wz hz => at4_below X1 hz.out
  have HYR : Hid (∀ wz, Hid (Below W.heap.size W wz) → At4 wz b (o + 4) y.kind y.text (.slice r1.ga y.gaps.length r1.gc) (.slice r1.da y.kids.length r1.dc)) := Lib.hid fun wz hz => at4_below Y1 hz.out
  have HBX : Hid (∀ wz, Hid (Below W.heap.size W wz) → wz.cell? ⟨w.heap.size, 3, none⟩ = some (.slice (some ⟨b, o, none⟩) m dc)) := Lib.hid fun wz hz => (at4_below A1 hz.out).2.2.2
  have C0 : Hid (Ans W 16 #[.agg #[.int .i64 24, .string s, .slice ga n gc, .slice (some ⟨b, o, none⟩) m dc]] (.int .i64 v)) := Lib.hid (ans_of fun wz _ => rlevel_is 24 s v hv.symm n m gc dc ga _ wz)
  have C1 : Hid (Ans W 16 #[.agg #[.int .i64 x.kind, .string x.text, .slice r0.ga x.gaps.length r0.gc, .slice r0.da x.kids.length r0.dc]] (.int .i64 vx)) := Lib.hid (ans_of fun wz _ => rlev_is x r0 vx hvx.symm wz)
  have C2 : Hid (Ans W 16 #[.agg #[.int .i64 y.kind, .string y.text, .slice r1.ga y.gaps.length r1.gc, .slice r1.da y.kids.length r1.dc]] (.int .i64 vy)) := Lib.hid (ans_of fun wz _ => rlev_is y r1 vy hvy.symm wz)
  have B0 : Hid (Below W.heap.size W (w.alloc (.cells #[.int .i64 24, .string s, .slice ga n gc, .slice (some ⟨b, o, none⟩) m dc] 25))) := Lib.hid (by rw [← hW]; exact Below.refl _ _)
  have HWE := Lib.hid hW
  have p0 := HBX.out _ B0
  clear hq hv hvx hvy hm hks hy1 hx0 hy0 A1 X1 Y1 hW
  go_enter Tryd.func59, Tryd.ntmps59
  go_wp2_with (first
    | (go_at_call 16; (with_reducible refine (C2.out _ (by assumption)).mono ?_); rintro e w' ⟨rfl, hb2⟩; have p1 := HBX.out _ hb2; obtain ⟨x0, x1, x2, x3⟩ := HXR.out _ hb2; obtain ⟨y0, y1, y2, y3⟩ := HYR.out _ hb2)
    | (go_at_call 16; (with_reducible refine (C1.out _ (by assumption)).mono ?_); rintro e w' ⟨rfl, hb2⟩; have p1 := HBX.out _ hb2; obtain ⟨x0, x1, x2, x3⟩ := HXR.out _ hb2; obtain ⟨y0, y1, y2, y3⟩ := HYR.out _ hb2)
    | (go_at_call 16; (with_reducible refine (C0.out _ (by assumption)).mono ?_); rintro e w' ⟨rfl, hb2⟩; have p1 := HBX.out _ hb2; obtain ⟨x0, x1, x2, x3⟩ := HXR.out _ hb2; obtain ⟨y0, y1, y2, y3⟩ := HYR.out _ hb2))
  all_goals go_ret
  all_goals refine ⟨ret_bool ?_, HBW.out.trans ((by assumption : Hid (Below W.heap.size W _)).out.mono (Nat.le_of_lt HSZ.out))⟩
  all_goals rw [HQ.out, Bool.eq_iff_iff]
  all_goals clear HQ
  all_goals try simp only [beq_iff_eq, beq_eq_false_iff_ne, ne_eq] at *
  all_goals simp only [Bool.and_eq_true, Bool.not_eq_true', Bool.and_eq_false_iff, decide_eq_true_eq, decide_eq_false_iff_not, Bool.false_eq_true, false_iff, beq_iff_eq]
  all_goals omega

set_option maxHeartbeats 1600000 in
theorem rlevs_25 (s : ByteArray) (n gc dc : Nat) (ga da : Option Addr) (x : Pl.Tr) (ks : List Pl.Tr) (R : Nat → Sl) (w : World) (m : Nat) (hm : m = (x :: ks).length) (hl : m ≤ maxLen) (hks : Lies (fun b => b < w.heap.size) w (x :: ks) da R) :
    Calls Tryd.prog 59 #[.agg #[.int .i64 25, .string s, .slice ga n gc, .slice da m dc]] w fun e w' => e = .returned (.bool (decide (6 ≤ x.lev))) ∧ Below w.heap.size w w' := by
  unfold maxLen at hl
  have hm2 : 1 ≤ m := by rw [hm]; simp
  obtain ⟨b, o, rfl, hb, hx0, _⟩ := lies_cons hks
  generalize R 0 = r0 at *
  obtain ⟨vx, hvx⟩ : ∃ v, v = x.lev := ⟨_, rfl⟩
  rw [← hvx]
  have HVX := Lib.hid hvx
  have l1 := Lib.hid (at4_below hx0 (box_below w (.cells #[.int .i64 25, .string s, .slice ga n gc, .slice (some ⟨b, o, none⟩) m dc] 25))).range
  clear hvx hm hks hx0
  go_enter Tryd.func59, Tryd.ntmps59
  go_wp2_with (first
    | (refine wpList_load_mid rfl 25 _ rfl b o rfl [.int .i64 x.kind, .string x.text, .slice r0.ga x.gaps.length r0.gc, .slice r0.da x.kids.length r0.dc] _ l1.out Tryd.underlying25 rfl sizeN ?_)
    | (go_at_call 16; refine (rlev_is x r0 vx HVX.out.symm _).mono ?_; rintro e w' ⟨rfl, hb2⟩; have HB2 := Lib.hid hb2; clear hb2))
  all_goals go_ret
  all_goals exact ⟨rfl, (box_below _ _).trans (HB2.out.mono (by simp))⟩

set_option maxHeartbeats 1600000 in
theorem rlevs_21 (s : ByteArray) (n gc dc : Nat) (ga da : Option Addr) (x : Pl.Tr) (ks : List Pl.Tr) (R : Nat → Sl) (w : World) (m : Nat) (hm : m = (x :: ks).length) (hl : m ≤ maxLen) (hks : Lies (fun b => b < w.heap.size) w (x :: ks) da R) :
    Calls Tryd.prog 59 #[.agg #[.int .i64 21, .string s, .slice ga n gc, .slice da m dc]] w fun e w' => e = .returned (.bool (decide (7 ≤ x.lev))) ∧ Below w.heap.size w w' := by
  unfold maxLen at hl
  have hm2 : 1 ≤ m := by rw [hm]; simp
  obtain ⟨b, o, rfl, hb, hx0, _⟩ := lies_cons hks
  generalize R 0 = r0 at *
  obtain ⟨vx, hvx⟩ : ∃ v, v = x.lev := ⟨_, rfl⟩
  rw [← hvx]
  have HVX := Lib.hid hvx
  have l1 := Lib.hid (at4_below hx0 (box_below w (.cells #[.int .i64 21, .string s, .slice ga n gc, .slice (some ⟨b, o, none⟩) m dc] 25))).range
  clear hvx hm hks hx0
  go_enter Tryd.func59, Tryd.ntmps59
  go_wp2_with (first
    | (refine wpList_load_mid rfl 25 _ rfl b o rfl [.int .i64 x.kind, .string x.text, .slice r0.ga x.gaps.length r0.gc, .slice r0.da x.kids.length r0.dc] _ l1.out Tryd.underlying25 rfl sizeN ?_)
    | (go_at_call 16; refine (rlev_is x r0 vx HVX.out.symm _).mono ?_; rintro e w' ⟨rfl, hb2⟩; have HB2 := Lib.hid hb2; clear hb2))
  all_goals go_ret
  all_goals refine ⟨ret_bool ?_, (box_below _ _).trans (HB2.out.mono (by simp))⟩
  all_goals rw [Bool.eq_iff_iff]
  all_goals have h7 := lev_le x
  all_goals have h8 := HVX.out
  all_goals simp only [beq_iff_eq, decide_eq_true_eq]
  all_goals omega

set_option maxHeartbeats 1600000 in
theorem rlevs_rest (k : Int) (h24 : ¬ k = 24) (h25 : ¬ k = 25) (h21 : ¬ k = 21) (s : ByteArray) (n m gc dc : Nat) (ga da : Option Addr) (w : World) :
    Calls Tryd.prog 59 #[.agg #[.int .i64 k, .string s, .slice ga n gc, .slice da m dc]] w fun e w' => e = .returned (.bool true) ∧ Below w.heap.size w w' := by
  have b24 : (k == 24) = false := beq_eq_false_iff_ne.2 h24
  have b25 : (k == 25) = false := beq_eq_false_iff_ne.2 h25
  have b21 : (k == 21) = false := beq_eq_false_iff_ne.2 h21
  go_enter Tryd.func59, Tryd.ntmps59
  go_wp2_with fail
  go_ret
  exact ⟨rfl, box_below _ _⟩
theorem rlevs_at (k : Int) (s : ByteArray) (n gc dc : Nat) (ga da : Option Addr) (ks : List Pl.Tr) (R : Nat → Sl) (w : World) (hl : ks.length ≤ maxLen) (hks : Lies (fun b => b < w.heap.size) w ks da R) (hle : Pl.least k ≤ ks.length) :
    Calls Tryd.prog 59 #[.agg #[.int .i64 k, .string s, .slice ga n gc, .slice da ks.length dc]] w fun e w' => e = .returned (.bool (Pl.lvls k s ks)) ∧ Below w.heap.size w w' := by
  by_cases h24 : k = 24
  · subst h24
    match ks, hks, hl, hle with
    | [], hks, hl, hle => exact absurd hle (by decide)
    | [x], hks, hl, hle => exact absurd hle (by simp [Pl.least])
    | x :: y :: ks, hks, hl, hle => exact rlevs_24 s n gc dc ga da x y ks R w _ rfl hl hks
  by_cases h25 : k = 25
  · subst h25
    match ks, hks, hl, hle with
    | [], hks, hl, hle => exact absurd hle (by decide)
    | x :: ks, hks, hl, hle => exact rlevs_25 s n gc dc ga da x ks R w _ rfl hl hks
  by_cases h21 : k = 21
  · subst h21
    match ks, hks, hl, hle with
    | [], hks, hl, hle => exact absurd hle (by decide)
    | x :: ks, hks, hl, hle => exact rlevs_21 s n gc dc ga da x ks R w _ rfl hl hks
  rw [show Pl.lvls k s ks = true by unfold Pl.lvls; rw [if_neg h24, if_neg h25, if_neg h21]]
  exact rlevs_rest k h24 h25 h21 s n _ gc dc ga da w
end Go.Proofs.YtmfmlkdojgbhfaaDoor
