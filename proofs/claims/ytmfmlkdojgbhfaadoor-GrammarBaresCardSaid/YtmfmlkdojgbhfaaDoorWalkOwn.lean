/- The walks of Own and of the reference's. -/
import Derived.Test.YtmfmlkdojgbhfaaDoorWalkKinds
namespace Go.Proofs.YtmfmlkdojgbhfaaDoor
open Go.RowKit
set_option linter.unusedVariables false
set_option linter.unusedSimpArgs false

theorem box_drewN (w : World) (o : Obj) (n : Nat) : Below w.heap.size w ((w.alloc o).drewN n) := ((Below.refl _ _).alloc (Nat.le_refl _) o).trans ((below_drewN _ n).mono (by simp))
theorem own_lit_3 (s : ByteArray) (m : Nat) : Pl.own 3 s m = wrap64 (2 + ((m - 1 : Nat) : Int)) := by unfold Pl.own Pl.ownT; simp
theorem own_lit_20 (s : ByteArray) (m : Nat) : Pl.own 20 s m = wrap64 (3 + ((m - 1 : Nat) : Int)) := by unfold Pl.own Pl.ownT; simp
theorem own_lit_21 (s : ByteArray) (m : Nat) : Pl.own 21 s m = wrap64 (4 + ((m - 2 : Nat) : Int)) := by unfold Pl.own Pl.ownT; simp
theorem max_one (n : Nat) : max (0 : Int) ((n : Int) - 1) = ((n - 1 : Nat) : Int) := by omega
theorem max_two (n : Nat) : max (0 : Int) ((n : Int) - 1 - 1) = ((n - 2 : Nat) : Int) := by omega
theorem own_no (k : Int) (s : ByteArray) (n m gc dc : Nat) (ga da : Option Addr) (w : World) (hT : Tabs w) (hm : m ≤ maxLen) (hk : ¬ (1 ≤ k ∧ k ≤ 26)) :
    Calls Tryd.prog 13 #[.agg #[.int .i64 k, .string s, .slice ga n gc, .slice da m dc]] w fun e w' => e = .returned (.int .i64 (Pl.own (k) s m)) ∧ Below w.heap.size w w' := by
  unfold maxLen at hm
  obtain ⟨o, ho⟩ : ∃ o, o = Pl.own (k) s m := ⟨_, rfl⟩
  rw [← ho]
  have HO := Lib.hid ho
  clear ho
  have HK : Hid (decide (1 ≤ k ∧ k ≤ 26) = false) := Lib.hid (decide_eq_false hk)
  go_enter Tryd.func13, Tryd.ntmps13
  go_wp2_with (go_at_call 33; refine (known_is _ _ HK.out _).mono ?_; rintro e w' ⟨rfl, rfl⟩)
  all_goals go_ret
  all_goals refine ⟨ret_int ?_, (Below.refl _ _).alloc (Nat.le_refl _) _⟩
  all_goals have ho := HO.out
  all_goals rw [ho]
  all_goals (unfold Pl.own; simp only [Pl.ownT]; omega)
theorem own_8e (s : ByteArray) (n m gc dc : Nat) (ga da : Option Addr) (w : World) (hT : Tabs w) (hm : m ≤ maxLen) (hz : s.size = 0) :
    Calls Tryd.prog 13 #[.agg #[.int .i64 8, .string s, .slice ga n gc, .slice da m dc]] w fun e w' => e = .returned (.int .i64 (Pl.own (8) s m)) ∧ Below w.heap.size w w' := by
  unfold maxLen at hm
  obtain ⟨o, ho⟩ : ∃ o, o = Pl.own (8) s m := ⟨_, rfl⟩
  rw [← ho]
  have HO := Lib.hid ho
  clear ho
  have s1 : s.toList.isEmpty = true := by rw [Pl.toList_eq, List.isEmpty_iff_length_eq_zero, ← Lib.size_eq]; exact hz
  have c1 : (w.alloc (.cells #[.int .i64 8, .string s, .slice ga n gc, .slice da m dc] 25)).cell? ⟨0, 8, none⟩ = some (.int .i64 2) := (hT.later ((Below.refl _ _).alloc (Nat.le_refl _) _)).1 8 (by first | decide | assumption)
  have c2 : (w.alloc (.cells #[.int .i64 8, .string s, .slice ga n gc, .slice da m dc] 25)).drew.cell? ⟨0, 8, none⟩ = some (.int .i64 2) := c1
  have HK : Hid (decide (1 ≤ (8 : Int) ∧ (8 : Int) ≤ 26) = true) := Lib.hid (decide_eq_true (by omega))
  clear hT
  go_enter Tryd.func13, Tryd.ntmps13
  go_wp2_with (go_at_call 33; refine (known_is _ _ HK.out _).mono ?_; rintro e w' ⟨rfl, rfl⟩)
  go_quiet (fail)
  go_wp2_with fail
  all_goals go_ret
  all_goals refine ⟨ret_int ?_, box_drewN _ _ _⟩
  all_goals have ho := HO.out
  all_goals rw [ho]
  all_goals (unfold Pl.own; simp [hz])
theorem own_8n (s : ByteArray) (n m gc dc : Nat) (ga da : Option Addr) (w : World) (hT : Tabs w) (hm : m ≤ maxLen) (hz : ¬ s.size = 0) :
    Calls Tryd.prog 13 #[.agg #[.int .i64 8, .string s, .slice ga n gc, .slice da m dc]] w fun e w' => e = .returned (.int .i64 (Pl.own (8) s m)) ∧ Below w.heap.size w w' := by
  unfold maxLen at hm
  obtain ⟨o, ho⟩ : ∃ o, o = Pl.own (8) s m := ⟨_, rfl⟩
  rw [← ho]
  have HO := Lib.hid ho
  clear ho
  obtain ⟨s1, s2, s3⟩ := Pl.not_empty s (by omega)
  have c1 : (w.alloc (.cells #[.int .i64 8, .string s, .slice ga n gc, .slice da m dc] 25)).cell? ⟨0, 8, none⟩ = some (.int .i64 2) := (hT.later ((Below.refl _ _).alloc (Nat.le_refl _) _)).1 8 (by first | decide | assumption)
  have c2 : (w.alloc (.cells #[.int .i64 8, .string s, .slice ga n gc, .slice da m dc] 25)).drew.cell? ⟨0, 8, none⟩ = some (.int .i64 2) := c1
  have HK : Hid (decide (1 ≤ (8 : Int) ∧ (8 : Int) ≤ 26) = true) := Lib.hid (decide_eq_true (by omega))
  clear hT
  go_enter Tryd.func13, Tryd.ntmps13
  go_wp2_with (go_at_call 33; refine (known_is _ _ HK.out _).mono ?_; rintro e w' ⟨rfl, rfl⟩)
  go_quiet (fail)
  go_wp2_with fail
  all_goals go_ret
  all_goals refine ⟨ret_int ?_, box_drewN _ _ _⟩
  all_goals have ho := HO.out
  all_goals rw [ho]
  all_goals (unfold Pl.own; simp [hz])
theorem own_14z (s : ByteArray) (n m gc dc : Nat) (ga da : Option Addr) (w : World) (hT : Tabs w) (hm : m ≤ maxLen) (hz : m = 0) :
    Calls Tryd.prog 13 #[.agg #[.int .i64 14, .string s, .slice ga n gc, .slice da m dc]] w fun e w' => e = .returned (.int .i64 (Pl.own (14) s m)) ∧ Below w.heap.size w w' := by
  unfold maxLen at hm
  obtain ⟨o, ho⟩ : ∃ o, o = Pl.own (14) s m := ⟨_, rfl⟩
  rw [← ho]
  have HO := Lib.hid ho
  clear ho
  subst hz
  have c1 : (w.alloc (.cells #[.int .i64 14, .string s, .slice ga n gc, .slice da 0 dc] 25)).cell? ⟨0, 14, none⟩ = some (.int .i64 1) := (hT.later ((Below.refl _ _).alloc (Nat.le_refl _) _)).1 14 (by first | decide | assumption)
  have c2 : (w.alloc (.cells #[.int .i64 14, .string s, .slice ga n gc, .slice da 0 dc] 25)).drew.cell? ⟨0, 14, none⟩ = some (.int .i64 1) := c1
  have HK : Hid (decide (1 ≤ (14 : Int) ∧ (14 : Int) ≤ 26) = true) := Lib.hid (decide_eq_true (by omega))
  clear hT
  go_enter Tryd.func13, Tryd.ntmps13
  go_wp2_with (go_at_call 33; refine (known_is _ _ HK.out _).mono ?_; rintro e w' ⟨rfl, rfl⟩)
  go_quiet (fail)
  go_wp2_with fail
  all_goals go_ret
  all_goals refine ⟨ret_int ?_, box_drewN _ _ _⟩
  all_goals have ho := HO.out
  all_goals rw [ho]
  all_goals (unfold Pl.own; simp)
theorem own_14n (s : ByteArray) (n m gc dc : Nat) (ga da : Option Addr) (w : World) (hT : Tabs w) (hm : m ≤ maxLen) (hz : 0 < m) :
    Calls Tryd.prog 13 #[.agg #[.int .i64 14, .string s, .slice ga n gc, .slice da m dc]] w fun e w' => e = .returned (.int .i64 (Pl.own (14) s m)) ∧ Below w.heap.size w w' := by
  unfold maxLen at hm
  obtain ⟨o, ho⟩ : ∃ o, o = Pl.own (14) s m := ⟨_, rfl⟩
  rw [← ho]
  have HO := Lib.hid ho
  clear ho
  have z1 : ((m : Int) == 0) = false := by simp; omega
  have c1 : (w.alloc (.cells #[.int .i64 14, .string s, .slice ga n gc, .slice da m dc] 25)).cell? ⟨0, 14, none⟩ = some (.int .i64 1) := (hT.later ((Below.refl _ _).alloc (Nat.le_refl _) _)).1 14 (by first | decide | assumption)
  have c2 : (w.alloc (.cells #[.int .i64 14, .string s, .slice ga n gc, .slice da m dc] 25)).drew.cell? ⟨0, 14, none⟩ = some (.int .i64 1) := c1
  have HK : Hid (decide (1 ≤ (14 : Int) ∧ (14 : Int) ≤ 26) = true) := Lib.hid (decide_eq_true (by omega))
  clear hT
  go_enter Tryd.func13, Tryd.ntmps13
  go_wp2_with (go_at_call 33; refine (known_is _ _ HK.out _).mono ?_; rintro e w' ⟨rfl, rfl⟩)
  go_quiet (fail)
  go_wp2_with fail
  all_goals go_ret
  all_goals refine ⟨ret_int ?_, box_drewN _ _ _⟩
  all_goals have ho := HO.out
  all_goals rw [ho]
  all_goals (unfold Pl.own; simp; omega)
theorem own_3 (s : ByteArray) (n m gc dc : Nat) (ga da : Option Addr) (w : World) (hT : Tabs w) (hm : m ≤ maxLen) :
    Calls Tryd.prog 13 #[.agg #[.int .i64 3, .string s, .slice ga n gc, .slice da m dc]] w fun e w' => e = .returned (.int .i64 (Pl.own (3) s m)) ∧ Below w.heap.size w w' := by
  unfold maxLen at hm
  obtain ⟨o, ho⟩ : ∃ o, o = Pl.own (3) s m := ⟨_, rfl⟩
  rw [← ho]
  have HO := Lib.hid ho
  clear ho
  have c1 : (w.alloc (.cells #[.int .i64 3, .string s, .slice ga n gc, .slice da m dc] 25)).cell? ⟨0, 3, none⟩ = some (.int .i64 2) := (hT.later ((Below.refl _ _).alloc (Nat.le_refl _) _)).1 3 (by first | decide | assumption)
  have c2 : (w.alloc (.cells #[.int .i64 3, .string s, .slice ga n gc, .slice da m dc] 25)).drew.cell? ⟨0, 3, none⟩ = some (.int .i64 2) := c1
  have HK : Hid (decide (1 ≤ (3 : Int) ∧ (3 : Int) ≤ 26) = true) := Lib.hid (decide_eq_true (by omega))
  clear hT
  go_enter Tryd.func13, Tryd.ntmps13
  go_wp2_with (go_at_call 33; refine (known_is _ _ HK.out _).mono ?_; rintro e w' ⟨rfl, rfl⟩)
  go_quiet (fail)
  go_wp2_with fail
  all_goals go_ret
  all_goals refine ⟨ret_int ?_, box_drewN _ _ _⟩
  all_goals have ho := HO.out
  all_goals rw [ho]
  all_goals (rw [own_lit_3]; congr 1; omega)
theorem own_20 (s : ByteArray) (n m gc dc : Nat) (ga da : Option Addr) (w : World) (hT : Tabs w) (hm : m ≤ maxLen) :
    Calls Tryd.prog 13 #[.agg #[.int .i64 20, .string s, .slice ga n gc, .slice da m dc]] w fun e w' => e = .returned (.int .i64 (Pl.own (20) s m)) ∧ Below w.heap.size w w' := by
  unfold maxLen at hm
  obtain ⟨o, ho⟩ : ∃ o, o = Pl.own (20) s m := ⟨_, rfl⟩
  rw [← ho]
  have HO := Lib.hid ho
  clear ho
  have c1 : (w.alloc (.cells #[.int .i64 20, .string s, .slice ga n gc, .slice da m dc] 25)).cell? ⟨0, 20, none⟩ = some (.int .i64 3) := (hT.later ((Below.refl _ _).alloc (Nat.le_refl _) _)).1 20 (by first | decide | assumption)
  have c2 : (w.alloc (.cells #[.int .i64 20, .string s, .slice ga n gc, .slice da m dc] 25)).drew.cell? ⟨0, 20, none⟩ = some (.int .i64 3) := c1
  have HK : Hid (decide (1 ≤ (20 : Int) ∧ (20 : Int) ≤ 26) = true) := Lib.hid (decide_eq_true (by omega))
  clear hT
  go_enter Tryd.func13, Tryd.ntmps13
  go_wp2_with (go_at_call 33; refine (known_is _ _ HK.out _).mono ?_; rintro e w' ⟨rfl, rfl⟩)
  go_quiet (fail)
  go_wp2_with fail
  all_goals go_ret
  all_goals refine ⟨ret_int ?_, box_drewN _ _ _⟩
  all_goals have ho := HO.out
  all_goals rw [ho]
  all_goals (rw [own_lit_20]; congr 1; omega)
theorem own_21 (s : ByteArray) (n m gc dc : Nat) (ga da : Option Addr) (w : World) (hT : Tabs w) (hm : m ≤ maxLen) :
    Calls Tryd.prog 13 #[.agg #[.int .i64 21, .string s, .slice ga n gc, .slice da m dc]] w fun e w' => e = .returned (.int .i64 (Pl.own (21) s m)) ∧ Below w.heap.size w w' := by
  unfold maxLen at hm
  obtain ⟨o, ho⟩ : ∃ o, o = Pl.own (21) s m := ⟨_, rfl⟩
  rw [← ho]
  have HO := Lib.hid ho
  clear ho
  have c1 : (w.alloc (.cells #[.int .i64 21, .string s, .slice ga n gc, .slice da m dc] 25)).cell? ⟨0, 21, none⟩ = some (.int .i64 4) := (hT.later ((Below.refl _ _).alloc (Nat.le_refl _) _)).1 21 (by first | decide | assumption)
  have c2 : (w.alloc (.cells #[.int .i64 21, .string s, .slice ga n gc, .slice da m dc] 25)).drew.cell? ⟨0, 21, none⟩ = some (.int .i64 4) := c1
  have HK : Hid (decide (1 ≤ (21 : Int) ∧ (21 : Int) ≤ 26) = true) := Lib.hid (decide_eq_true (by omega))
  clear hT
  go_enter Tryd.func13, Tryd.ntmps13
  go_wp2_with (go_at_call 33; refine (known_is _ _ HK.out _).mono ?_; rintro e w' ⟨rfl, rfl⟩)
  go_quiet (fail)
  go_wp2_with fail
  all_goals go_ret
  all_goals refine ⟨ret_int ?_, box_drewN _ _ _⟩
  all_goals have ho := HO.out
  all_goals rw [ho]
  all_goals (rw [own_lit_21]; congr 1; omega)
theorem own_rest (k : Nat) (s : ByteArray) (n m gc dc : Nat) (ga da : Option Addr) (w : World) (hT : Tabs w) (hm : m ≤ maxLen) (h1 : 1 ≤ k) (h27 : k < 27) (n8 : ¬ k = 8) (n14 : ¬ k = 14) (n21 : ¬ k = 21) (n3 : ¬ k = 3) (n20 : ¬ k = 20) :
    Calls Tryd.prog 13 #[.agg #[.int .i64 (k : Nat), .string s, .slice ga n gc, .slice da m dc]] w fun e w' => e = .returned (.int .i64 (Pl.own ((k : Nat)) s m)) ∧ Below w.heap.size w w' := by
  unfold maxLen at hm
  obtain ⟨o, ho⟩ : ∃ o, o = Pl.own ((k : Nat)) s m := ⟨_, rfl⟩
  rw [← ho]
  have HO := Lib.hid ho
  clear ho
  have c1 : (w.alloc (.cells #[.int .i64 k, .string s, .slice ga n gc, .slice da m dc] 25)).cell? ⟨0, k, none⟩ = some (.int .i64 (Pl.ownT (k : Nat))) := (hT.later ((Below.refl _ _).alloc (Nat.le_refl _) _)).1 k (by first | decide | assumption)
  have c2 : (w.alloc (.cells #[.int .i64 k, .string s, .slice ga n gc, .slice da m dc] 25)).drew.cell? ⟨0, k, none⟩ = some (.int .i64 (Pl.ownT (k : Nat))) := c1
  have HK : Hid (decide (1 ≤ (k : Int) ∧ (k : Int) ≤ 26) = true) := Lib.hid (decide_eq_true (by omega))
  clear hT
  obtain ⟨q, hq⟩ : ∃ q, q = Pl.ownT (k : Nat) := ⟨_, rfl⟩
  rw [← hq] at c1 c2
  have HQ := Lib.hid hq
  clear hq
  have b8 : ((k : Int) == 8) = false := by simp; omega
  have b14 : ((k : Int) == 14) = false := by simp; omega
  have b21 : ((k : Int) == 21) = false := by simp; omega
  have b3 : ((k : Int) == 3) = false := by simp; omega
  have b20 : ((k : Int) == 20) = false := by simp; omega
  go_enter Tryd.func13, Tryd.ntmps13
  go_wp2_with (go_at_call 33; refine (known_is _ _ HK.out _).mono ?_; rintro e w' ⟨rfl, rfl⟩)
  go_quiet (fail)
  go_wp2_with fail
  all_goals go_ret
  all_goals refine ⟨ret_int ?_, box_drewN _ _ _⟩
  all_goals have ho := HO.out
  all_goals rw [ho]
  all_goals (unfold Pl.own; rw [← HQ.out]; omega)
theorem own_any (k : Int) (s : ByteArray) (n m gc dc : Nat) (ga da : Option Addr) (w : World) (hT : Tabs w) (hm : m ≤ maxLen) :
    Calls Tryd.prog 13 #[.agg #[.int .i64 k, .string s, .slice ga n gc, .slice da m dc]] w fun e w' => e = .returned (.int .i64 (Pl.own k s m)) ∧ Below w.heap.size w w' := by
  by_cases hk : 1 ≤ k ∧ k ≤ 26
  case neg => exact own_no k s n m gc dc ga da w hT hm hk
  by_cases e8 : k = 8
  · subst e8
    by_cases hz : s.size = 0
    · exact own_8e s n m gc dc ga da w hT hm hz
    · exact own_8n s n m gc dc ga da w hT hm hz
  by_cases e14 : k = 14
  · subst e14
    by_cases hz : m = 0
    · exact own_14z s n m gc dc ga da w hT hm hz
    · exact own_14n s n m gc dc ga da w hT hm (by omega)
  by_cases e3 : k = 3
  · subst e3; exact own_3 s n m gc dc ga da w hT hm
  by_cases e20 : k = 20
  · subst e20; exact own_20 s n m gc dc ga da w hT hm
  by_cases e21 : k = 21
  · subst e21; exact own_21 s n m gc dc ga da w hT hm
  obtain ⟨q, rfl, hq⟩ := nat_of (k := k) (n := 27) (by omega) (by omega)
  exact own_rest q s n m gc dc ga da w hT hm (by omega) hq (by omega) (by omega) (by omega) (by omega) (by omega)
end Go.Proofs.YtmfmlkdojgbhfaaDoor
