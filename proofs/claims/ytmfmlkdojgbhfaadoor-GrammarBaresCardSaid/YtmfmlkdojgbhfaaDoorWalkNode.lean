/- The walk of nodeError. -/
import Derived.Test.YtmfmlkdojgbhfaaDoorWalkGaps
import Derived.Test.YtmfmlkdojgbhfaaDoorWalkLevs
namespace Go.Proofs.YtmfmlkdojgbhfaaDoor
open Go.RowKit
set_option linter.unusedVariables false
set_option linter.unusedSimpArgs false

theorem node_no (k : Int) (hk : ¬ (1 ≤ k ∧ k ≤ 26)) (s : ByteArray) (n m gc dc : Nat) (ga da : Option Addr) (w : World) :
    Calls Tryd.prog 38 #[.agg #[.int .i64 k, .string s, .slice ga n gc, .slice da m dc]] w fun e w' => e = .returned (.int .i64 7) ∧ Below w.heap.size w w' := by
  have HK : Hid (decide (1 ≤ k ∧ k ≤ 26) = false) := Lib.hid (decide_eq_false hk)
  go_enter Tryd.func38, Tryd.ntmps38
  go_wp2_with (go_at_call 33; refine (known_is _ _ HK.out _).mono ?_; rintro e w' ⟨rfl, rfl⟩)
  go_ret
  exact ⟨rfl, box_below _ _⟩
set_option maxHeartbeats 1600000 in
theorem node_0 (k : Int) (HK : Hid (decide (1 ≤ k ∧ k ≤ 26) = true)) (s : ByteArray) (n m gc dc : Nat) (ga da : Option Addr) (w : World)
    (HCF : Hid (∀ w2, Below w.heap.size w w2 → Calls Tryd.prog 42 #[.agg #[.int .i64 k, .string s, .slice ga n gc, .slice da m dc]] w2 fun e w' => e = .returned (.bool false) ∧ Below w2.heap.size w2 w')) :
    Calls Tryd.prog 38 #[.agg #[.int .i64 k, .string s, .slice ga n gc, .slice da m dc]] w fun e w' => e = .returned (.int .i64 7) ∧ Below w.heap.size w w' := by
  have A0 := Lib.hid (at4_new w k s (.slice ga n gc) (.slice da m dc))
  have B0 := Lib.hid (box_below w (.cells #[.int .i64 k, .string s, .slice ga n gc, .slice da m dc] 25))
  go_enter Tryd.func38, Tryd.ntmps38
  go_wp2_with (first
    | (go_at_call 33; refine (known_is _ _ HK.out _).mono ?_; rintro e w' ⟨rfl, rfl⟩)
    | (go_at_call 42; refine (HCF.out _ B0.out).mono ?_; rintro e w1 ⟨rfl, hb1⟩; have A1 := Lib.hid (at4_below A0.out hb1); have B1 := Lib.hid (B0.out.trans (hb1.mono B0.out.size)); obtain ⟨c0, c1, c2, c3⟩ := A1.out; clear hb1))
  go_ret
  exact ⟨rfl, B1.out⟩
set_option maxHeartbeats 1600000 in
theorem node_1 (k : Int) (HK : Hid (decide (1 ≤ k ∧ k ≤ 26) = true)) (s : ByteArray) (n m gc dc : Nat) (ga da : Option Addr) (w : World)
    (HCF : Hid (∀ w2, Below w.heap.size w w2 → Calls Tryd.prog 42 #[.agg #[.int .i64 k, .string s, .slice ga n gc, .slice da m dc]] w2 fun e w' => e = .returned (.bool true) ∧ Below w2.heap.size w2 w'))
    (HCW : Hid (∀ w2, Below w.heap.size w w2 → Calls Tryd.prog 43 #[.agg #[.int .i64 k, .string s, .slice ga n gc, .slice da m dc]] w2 fun e w' => e = .returned (.bool false) ∧ Below w2.heap.size w2 w')) :
    Calls Tryd.prog 38 #[.agg #[.int .i64 k, .string s, .slice ga n gc, .slice da m dc]] w fun e w' => e = .returned (.int .i64 7) ∧ Below w.heap.size w w' := by
  have A0 := Lib.hid (at4_new w k s (.slice ga n gc) (.slice da m dc))
  have B0 := Lib.hid (box_below w (.cells #[.int .i64 k, .string s, .slice ga n gc, .slice da m dc] 25))
  go_enter Tryd.func38, Tryd.ntmps38
  go_wp2_with (first
    | (go_at_call 33; refine (known_is _ _ HK.out _).mono ?_; rintro e w' ⟨rfl, rfl⟩)
    | (go_at_call 42; refine (HCF.out _ B0.out).mono ?_; rintro e w1 ⟨rfl, hb1⟩; have A1 := Lib.hid (at4_below A0.out hb1); have B1 := Lib.hid (B0.out.trans (hb1.mono B0.out.size)); obtain ⟨c0, c1, c2, c3⟩ := A1.out; clear hb1)
    | (go_at_call 43; refine (HCW.out _ B1.out).mono ?_; rintro e w2 ⟨rfl, hb2⟩; have A2 := Lib.hid (at4_below A1.out hb2); have B2 := Lib.hid (B1.out.trans (hb2.mono B1.out.size)); obtain ⟨c0, c1, c2, c3⟩ := A2.out; clear hb2))
  go_ret
  exact ⟨rfl, B2.out⟩
set_option maxHeartbeats 1600000 in
theorem node_2 (k : Int) (HK : Hid (decide (1 ≤ k ∧ k ≤ 26) = true)) (s : ByteArray) (n m gc dc : Nat) (ga da : Option Addr) (w : World)
    (HCF : Hid (∀ w2, Below w.heap.size w w2 → Calls Tryd.prog 42 #[.agg #[.int .i64 k, .string s, .slice ga n gc, .slice da m dc]] w2 fun e w' => e = .returned (.bool true) ∧ Below w2.heap.size w2 w'))
    (HCW : Hid (∀ w2, Below w.heap.size w w2 → Calls Tryd.prog 43 #[.agg #[.int .i64 k, .string s, .slice ga n gc, .slice da m dc]] w2 fun e w' => e = .returned (.bool true) ∧ Below w2.heap.size w2 w'))
    (HCL : Hid (∀ w2, Below w.heap.size w w2 → Calls Tryd.prog 44 #[.agg #[.int .i64 k, .string s, .slice ga n gc, .slice da m dc]] w2 fun e w' => e = .returned (.bool false) ∧ Below w2.heap.size w2 w')) :
    Calls Tryd.prog 38 #[.agg #[.int .i64 k, .string s, .slice ga n gc, .slice da m dc]] w fun e w' => e = .returned (.int .i64 7) ∧ Below w.heap.size w w' := by
  have A0 := Lib.hid (at4_new w k s (.slice ga n gc) (.slice da m dc))
  have B0 := Lib.hid (box_below w (.cells #[.int .i64 k, .string s, .slice ga n gc, .slice da m dc] 25))
  go_enter Tryd.func38, Tryd.ntmps38
  go_wp2_with (first
    | (go_at_call 33; refine (known_is _ _ HK.out _).mono ?_; rintro e w' ⟨rfl, rfl⟩)
    | (go_at_call 42; refine (HCF.out _ B0.out).mono ?_; rintro e w1 ⟨rfl, hb1⟩; have A1 := Lib.hid (at4_below A0.out hb1); have B1 := Lib.hid (B0.out.trans (hb1.mono B0.out.size)); obtain ⟨c0, c1, c2, c3⟩ := A1.out; clear hb1)
    | (go_at_call 43; refine (HCW.out _ B1.out).mono ?_; rintro e w2 ⟨rfl, hb2⟩; have A2 := Lib.hid (at4_below A1.out hb2); have B2 := Lib.hid (B1.out.trans (hb2.mono B1.out.size)); obtain ⟨c0, c1, c2, c3⟩ := A2.out; clear hb2)
    | (go_at_call 44; refine (HCL.out _ B2.out).mono ?_; rintro e w3 ⟨rfl, hb3⟩; have A3 := Lib.hid (at4_below A2.out hb3); have B3 := Lib.hid (B2.out.trans (hb3.mono B2.out.size)); obtain ⟨c0, c1, c2, c3⟩ := A3.out; clear hb3))
  go_ret
  exact ⟨rfl, B3.out⟩
set_option maxHeartbeats 1600000 in
theorem node_3 (k : Int) (HK : Hid (decide (1 ≤ k ∧ k ≤ 26) = true)) (s : ByteArray) (n m gc dc : Nat) (ga da : Option Addr) (w : World)
    (HCF : Hid (∀ w2, Below w.heap.size w w2 → Calls Tryd.prog 42 #[.agg #[.int .i64 k, .string s, .slice ga n gc, .slice da m dc]] w2 fun e w' => e = .returned (.bool true) ∧ Below w2.heap.size w2 w'))
    (HCW : Hid (∀ w2, Below w.heap.size w w2 → Calls Tryd.prog 43 #[.agg #[.int .i64 k, .string s, .slice ga n gc, .slice da m dc]] w2 fun e w' => e = .returned (.bool true) ∧ Below w2.heap.size w2 w'))
    (HCL : Hid (∀ w2, Below w.heap.size w w2 → Calls Tryd.prog 44 #[.agg #[.int .i64 k, .string s, .slice ga n gc, .slice da m dc]] w2 fun e w' => e = .returned (.bool true) ∧ Below w2.heap.size w2 w'))
    (HCN : Hid (∀ w2, Below w.heap.size w w2 → Calls Tryd.prog 45 #[.agg #[.int .i64 k, .string s, .slice ga n gc, .slice da m dc]] w2 fun e w' => e = .returned (.bool false) ∧ Below w2.heap.size w2 w')) :
    Calls Tryd.prog 38 #[.agg #[.int .i64 k, .string s, .slice ga n gc, .slice da m dc]] w fun e w' => e = .returned (.int .i64 4) ∧ Below w.heap.size w w' := by
  have A0 := Lib.hid (at4_new w k s (.slice ga n gc) (.slice da m dc))
  have B0 := Lib.hid (box_below w (.cells #[.int .i64 k, .string s, .slice ga n gc, .slice da m dc] 25))
  go_enter Tryd.func38, Tryd.ntmps38
  go_wp2_with (first
    | (go_at_call 33; refine (known_is _ _ HK.out _).mono ?_; rintro e w' ⟨rfl, rfl⟩)
    | (go_at_call 42; refine (HCF.out _ B0.out).mono ?_; rintro e w1 ⟨rfl, hb1⟩; have A1 := Lib.hid (at4_below A0.out hb1); have B1 := Lib.hid (B0.out.trans (hb1.mono B0.out.size)); obtain ⟨c0, c1, c2, c3⟩ := A1.out; clear hb1)
    | (go_at_call 43; refine (HCW.out _ B1.out).mono ?_; rintro e w2 ⟨rfl, hb2⟩; have A2 := Lib.hid (at4_below A1.out hb2); have B2 := Lib.hid (B1.out.trans (hb2.mono B1.out.size)); obtain ⟨c0, c1, c2, c3⟩ := A2.out; clear hb2)
    | (go_at_call 44; refine (HCL.out _ B2.out).mono ?_; rintro e w3 ⟨rfl, hb3⟩; have A3 := Lib.hid (at4_below A2.out hb3); have B3 := Lib.hid (B2.out.trans (hb3.mono B2.out.size)); obtain ⟨c0, c1, c2, c3⟩ := A3.out; clear hb3)
    | (go_at_call 45; refine (HCN.out _ B3.out).mono ?_; rintro e w4 ⟨rfl, hb4⟩; have A4 := Lib.hid (at4_below A3.out hb4); have B4 := Lib.hid (B3.out.trans (hb4.mono B3.out.size)); obtain ⟨c0, c1, c2, c3⟩ := A4.out; clear hb4))
  go_ret
  exact ⟨rfl, B4.out⟩
set_option maxHeartbeats 1600000 in
theorem node_4 (k : Int) (HK : Hid (decide (1 ≤ k ∧ k ≤ 26) = true)) (s : ByteArray) (n m gc dc : Nat) (ga da : Option Addr) (w : World)
    (HCF : Hid (∀ w2, Below w.heap.size w w2 → Calls Tryd.prog 42 #[.agg #[.int .i64 k, .string s, .slice ga n gc, .slice da m dc]] w2 fun e w' => e = .returned (.bool true) ∧ Below w2.heap.size w2 w'))
    (HCW : Hid (∀ w2, Below w.heap.size w w2 → Calls Tryd.prog 43 #[.agg #[.int .i64 k, .string s, .slice ga n gc, .slice da m dc]] w2 fun e w' => e = .returned (.bool true) ∧ Below w2.heap.size w2 w'))
    (HCL : Hid (∀ w2, Below w.heap.size w w2 → Calls Tryd.prog 44 #[.agg #[.int .i64 k, .string s, .slice ga n gc, .slice da m dc]] w2 fun e w' => e = .returned (.bool true) ∧ Below w2.heap.size w2 w'))
    (HCN : Hid (∀ w2, Below w.heap.size w w2 → Calls Tryd.prog 45 #[.agg #[.int .i64 k, .string s, .slice ga n gc, .slice da m dc]] w2 fun e w' => e = .returned (.bool true) ∧ Below w2.heap.size w2 w'))
    (HCG : Hid (∀ w2, Below w.heap.size w w2 → Calls Tryd.prog 46 #[.agg #[.int .i64 k, .string s, .slice ga n gc, .slice da m dc]] w2 fun e w' => e = .returned (.bool false) ∧ Below w2.heap.size w2 w')) :
    Calls Tryd.prog 38 #[.agg #[.int .i64 k, .string s, .slice ga n gc, .slice da m dc]] w fun e w' => e = .returned (.int .i64 7) ∧ Below w.heap.size w w' := by
  have A0 := Lib.hid (at4_new w k s (.slice ga n gc) (.slice da m dc))
  have B0 := Lib.hid (box_below w (.cells #[.int .i64 k, .string s, .slice ga n gc, .slice da m dc] 25))
  go_enter Tryd.func38, Tryd.ntmps38
  go_wp2_with (first
    | (go_at_call 33; refine (known_is _ _ HK.out _).mono ?_; rintro e w' ⟨rfl, rfl⟩)
    | (go_at_call 42; refine (HCF.out _ B0.out).mono ?_; rintro e w1 ⟨rfl, hb1⟩; have A1 := Lib.hid (at4_below A0.out hb1); have B1 := Lib.hid (B0.out.trans (hb1.mono B0.out.size)); obtain ⟨c0, c1, c2, c3⟩ := A1.out; clear hb1)
    | (go_at_call 43; refine (HCW.out _ B1.out).mono ?_; rintro e w2 ⟨rfl, hb2⟩; have A2 := Lib.hid (at4_below A1.out hb2); have B2 := Lib.hid (B1.out.trans (hb2.mono B1.out.size)); obtain ⟨c0, c1, c2, c3⟩ := A2.out; clear hb2)
    | (go_at_call 44; refine (HCL.out _ B2.out).mono ?_; rintro e w3 ⟨rfl, hb3⟩; have A3 := Lib.hid (at4_below A2.out hb3); have B3 := Lib.hid (B2.out.trans (hb3.mono B2.out.size)); obtain ⟨c0, c1, c2, c3⟩ := A3.out; clear hb3)
    | (go_at_call 45; refine (HCN.out _ B3.out).mono ?_; rintro e w4 ⟨rfl, hb4⟩; have A4 := Lib.hid (at4_below A3.out hb4); have B4 := Lib.hid (B3.out.trans (hb4.mono B3.out.size)); obtain ⟨c0, c1, c2, c3⟩ := A4.out; clear hb4)
    | (go_at_call 46; refine (HCG.out _ B4.out).mono ?_; rintro e w5 ⟨rfl, hb5⟩; have A5 := Lib.hid (at4_below A4.out hb5); have B5 := Lib.hid (B4.out.trans (hb5.mono B4.out.size)); obtain ⟨c0, c1, c2, c3⟩ := A5.out; clear hb5))
  go_ret
  exact ⟨rfl, B5.out⟩
set_option maxHeartbeats 1600000 in
theorem node_5 (k : Int) (HK : Hid (decide (1 ≤ k ∧ k ≤ 26) = true)) (s : ByteArray) (n m gc dc : Nat) (ga da : Option Addr) (w : World)
    (HCF : Hid (∀ w2, Below w.heap.size w w2 → Calls Tryd.prog 42 #[.agg #[.int .i64 k, .string s, .slice ga n gc, .slice da m dc]] w2 fun e w' => e = .returned (.bool true) ∧ Below w2.heap.size w2 w'))
    (HCW : Hid (∀ w2, Below w.heap.size w w2 → Calls Tryd.prog 43 #[.agg #[.int .i64 k, .string s, .slice ga n gc, .slice da m dc]] w2 fun e w' => e = .returned (.bool true) ∧ Below w2.heap.size w2 w'))
    (HCL : Hid (∀ w2, Below w.heap.size w w2 → Calls Tryd.prog 44 #[.agg #[.int .i64 k, .string s, .slice ga n gc, .slice da m dc]] w2 fun e w' => e = .returned (.bool true) ∧ Below w2.heap.size w2 w'))
    (HCN : Hid (∀ w2, Below w.heap.size w w2 → Calls Tryd.prog 45 #[.agg #[.int .i64 k, .string s, .slice ga n gc, .slice da m dc]] w2 fun e w' => e = .returned (.bool true) ∧ Below w2.heap.size w2 w'))
    (HCG : Hid (∀ w2, Below w.heap.size w w2 → Calls Tryd.prog 46 #[.agg #[.int .i64 k, .string s, .slice ga n gc, .slice da m dc]] w2 fun e w' => e = .returned (.bool true) ∧ Below w2.heap.size w2 w')) :
    Calls Tryd.prog 38 #[.agg #[.int .i64 k, .string s, .slice ga n gc, .slice da m dc]] w fun e w' => e = .returned (.int .i64 0) ∧ Below w.heap.size w w' := by
  have A0 := Lib.hid (at4_new w k s (.slice ga n gc) (.slice da m dc))
  have B0 := Lib.hid (box_below w (.cells #[.int .i64 k, .string s, .slice ga n gc, .slice da m dc] 25))
  go_enter Tryd.func38, Tryd.ntmps38
  go_wp2_with (first
    | (go_at_call 33; refine (known_is _ _ HK.out _).mono ?_; rintro e w' ⟨rfl, rfl⟩)
    | (go_at_call 42; refine (HCF.out _ B0.out).mono ?_; rintro e w1 ⟨rfl, hb1⟩; have A1 := Lib.hid (at4_below A0.out hb1); have B1 := Lib.hid (B0.out.trans (hb1.mono B0.out.size)); obtain ⟨c0, c1, c2, c3⟩ := A1.out; clear hb1)
    | (go_at_call 43; refine (HCW.out _ B1.out).mono ?_; rintro e w2 ⟨rfl, hb2⟩; have A2 := Lib.hid (at4_below A1.out hb2); have B2 := Lib.hid (B1.out.trans (hb2.mono B1.out.size)); obtain ⟨c0, c1, c2, c3⟩ := A2.out; clear hb2)
    | (go_at_call 44; refine (HCL.out _ B2.out).mono ?_; rintro e w3 ⟨rfl, hb3⟩; have A3 := Lib.hid (at4_below A2.out hb3); have B3 := Lib.hid (B2.out.trans (hb3.mono B2.out.size)); obtain ⟨c0, c1, c2, c3⟩ := A3.out; clear hb3)
    | (go_at_call 45; refine (HCN.out _ B3.out).mono ?_; rintro e w4 ⟨rfl, hb4⟩; have A4 := Lib.hid (at4_below A3.out hb4); have B4 := Lib.hid (B3.out.trans (hb4.mono B3.out.size)); obtain ⟨c0, c1, c2, c3⟩ := A4.out; clear hb4)
    | (go_at_call 46; refine (HCG.out _ B4.out).mono ?_; rintro e w5 ⟨rfl, hb5⟩; have A5 := Lib.hid (at4_below A4.out hb5); have B5 := Lib.hid (B4.out.trans (hb5.mono B4.out.size)); obtain ⟨c0, c1, c2, c3⟩ := A5.out; clear hb5))
  go_ret
  exact ⟨rfl, B5.out⟩
theorem nodeE_at (k : Int) (s : ByteArray) (g : List ByteArray) (ks : List Pl.Tr) (r : Sl) (w : World) (hT : Tabs w) (h : IsT w (.node k s g ks) r) :
    Calls Tryd.prog 38 #[.agg #[.int .i64 k, .string s, .slice r.ga g.length r.gc, .slice r.da ks.length r.dc]] w fun e w' => e = .returned (.int .i64 (Pl.nodeE k s g ks)) ∧ Below w.heap.size w w' := by
  obtain ⟨hs, hg, hl, R, hks, _⟩ := h.parts
  unfold Pl.nodeE Pl.shape
  by_cases hk : 1 ≤ k ∧ k ≤ 26
  case neg =>
    rw [decide_eq_false hk, Bool.false_and, Bool.false_and, Bool.false_and, Bool.false_and, if_pos rfl]
    exact node_no k hk s _ _ _ _ _ _ w
  have HK : Hid (decide (1 ≤ k ∧ k ≤ 26) = true) := Lib.hid (decide_eq_true hk)
  obtain ⟨q, rfl, hq⟩ := nat_of (k := k) (n := 27) (by omega) (by omega)
  rw [HK.out, Bool.true_and]
  have HCF := fun w2 (hb : Below w.heap.size w w2) => fitKids_at q (by omega) hq s g.length r.gc r.dc r.ga r.da ks R w2 (hT.later hb) hl (hks.later hb)
  have HCW := fun w2 (hb : Below w.heap.size w w2) => rword_at q hq s g.length ks.length r.gc r.dc r.ga r.da w2 (hT.later hb)
  have HCN := fun w2 (hb : Below w.heap.size w w2) => rname_at q hq s g.length ks.length r.gc r.dc r.ga r.da w2 (hT.later hb) hs
  have HCG := fun w2 (hb : Below w.heap.size w w2) => gaps_at q s g ks.length r.gc r.dc r.ga r.da w2 (hT.later hb) hl (hg.later hb)
  cases hf : decide (Pl.least q ≤ ks.length) && Pl.fitA q 0 ks
  · rw [Bool.false_and, Bool.false_and, if_pos rfl]
    rw [hf] at HCF
    exact node_0 q HK s _ _ _ _ _ _ w (Lib.hid HCF)
  have hle : Pl.least q ≤ ks.length := by
    rw [Bool.and_eq_true] at hf
    exact of_decide_eq_true hf.1
  have HCL := fun w2 (hb : Below w.heap.size w w2) => levs_at q s g.length r.gc r.dc r.ga r.da ks R w2 (hT.later hb) hl (hks.later hb) hle
  rw [hf] at HCF
  rw [Bool.true_and]
  cases hw : Pl.wordOK q s
  · rw [Bool.false_and, if_pos rfl]
    rw [hw] at HCW
    exact node_1 q HK s _ _ _ _ _ _ w (Lib.hid HCF) (Lib.hid HCW)
  rw [hw] at HCW
  rw [Bool.true_and]
  cases hv : Pl.lvls q s ks
  · rw [if_pos rfl]
    rw [hv] at HCL
    exact node_2 q HK s _ _ _ _ _ _ w (Lib.hid HCF) (Lib.hid HCW) (Lib.hid HCL)
  rw [hv] at HCL
  rw [if_neg (by decide)]
  cases hn : Pl.nameOK q s
  · rw [if_pos rfl]
    rw [hn] at HCN
    exact node_3 q HK s _ _ _ _ _ _ w (Lib.hid HCF) (Lib.hid HCW) (Lib.hid HCL) (Lib.hid HCN)
  rw [hn] at HCN
  rw [if_neg (by decide)]
  cases hg2 : Pl.gapsOK q s g ks.length
  · rw [if_pos rfl]
    rw [hg2] at HCG
    exact node_4 q HK s _ _ _ _ _ _ w (Lib.hid HCF) (Lib.hid HCW) (Lib.hid HCL) (Lib.hid HCN) (Lib.hid HCG)
  rw [hg2] at HCG
  rw [if_neg (by decide)]
  exact node_5 q HK s _ _ _ _ _ _ w (Lib.hid HCF) (Lib.hid HCW) (Lib.hid HCL) (Lib.hid HCN) (Lib.hid HCG)
theorem nodeE_is (k : Int) (s : ByteArray) (g : List ByteArray) (ks : List Pl.Tr) (r : Sl) (v : Int) (hv : Pl.nodeE k s g ks = v) (w : World) (hT : Tabs w) (h : IsT w (.node k s g ks) r) :
    Calls Tryd.prog 38 #[.agg #[.int .i64 k, .string s, .slice r.ga g.length r.gc, .slice r.da ks.length r.dc]] w fun e w' => e = .returned (.int .i64 v) ∧ Below w.heap.size w w' := hv ▸ nodeE_at k s g ks r w hT h
end Go.Proofs.YtmfmlkdojgbhfaaDoor
