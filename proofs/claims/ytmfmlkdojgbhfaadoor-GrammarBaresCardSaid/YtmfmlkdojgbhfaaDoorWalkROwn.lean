/- The walk of the reference's Own. -/
import Derived.Test.YtmfmlkdojgbhfaaDoorWalkOwn
namespace Go.Proofs.YtmfmlkdojgbhfaaDoor
open Go.RowKit
set_option linter.unusedVariables false
set_option linter.unusedSimpArgs false

theorem rown_8e (s : ByteArray) (n m gc dc : Nat) (ga da : Option Addr) (w : World) (hm : m ≤ maxLen) (hz : s.size = 0) :
    Calls Tryd.prog 14 #[.agg #[.int .i64 8, .string s, .slice ga n gc, .slice da m dc]] w fun e w' => e = .returned (.int .i64 (Pl.own (8) s m)) ∧ Below w.heap.size w w' := by
  unfold maxLen at hm
  obtain ⟨o, ho⟩ : ∃ o, o = Pl.own (8) s m := ⟨_, rfl⟩
  rw [← ho]
  have HO := Lib.hid ho
  clear ho
  have s1 : s.toList.isEmpty = true := by rw [Pl.toList_eq, List.isEmpty_iff_length_eq_zero, ← Lib.size_eq]; exact hz
  go_enter Tryd.func14, Tryd.ntmps14
  go_wp2_with (fail)
  all_goals go_ret
  all_goals refine ⟨ret_int ?_, (Below.refl _ _).alloc (Nat.le_refl _) _⟩
  all_goals have ho := HO.out
  all_goals rw [ho]
  all_goals (unfold Pl.own; simp [hz])
theorem rown_8n (s : ByteArray) (n m gc dc : Nat) (ga da : Option Addr) (w : World) (hm : m ≤ maxLen) (hz : ¬ s.size = 0) :
    Calls Tryd.prog 14 #[.agg #[.int .i64 8, .string s, .slice ga n gc, .slice da m dc]] w fun e w' => e = .returned (.int .i64 (Pl.own (8) s m)) ∧ Below w.heap.size w w' := by
  unfold maxLen at hm
  obtain ⟨o, ho⟩ : ∃ o, o = Pl.own (8) s m := ⟨_, rfl⟩
  rw [← ho]
  have HO := Lib.hid ho
  clear ho
  obtain ⟨s1, s2, s3⟩ := Pl.not_empty s (by omega)
  go_enter Tryd.func14, Tryd.ntmps14
  go_wp2_with (fail)
  all_goals go_ret
  all_goals refine ⟨ret_int ?_, (Below.refl _ _).alloc (Nat.le_refl _) _⟩
  all_goals have ho := HO.out
  all_goals rw [ho]
  all_goals (unfold Pl.own; simp [hz])
theorem rown_14 (s : ByteArray) (n m gc dc : Nat) (ga da : Option Addr) (w : World) (hm : m ≤ maxLen) :
    Calls Tryd.prog 14 #[.agg #[.int .i64 14, .string s, .slice ga n gc, .slice da m dc]] w fun e w' => e = .returned (.int .i64 (Pl.own (14) s m)) ∧ Below w.heap.size w w' := by
  unfold maxLen at hm
  obtain ⟨o, ho⟩ : ∃ o, o = Pl.own (14) s m := ⟨_, rfl⟩
  rw [← ho]
  have HO := Lib.hid ho
  clear ho
  go_enter Tryd.func14, Tryd.ntmps14
  go_wp2_with (fail)
  all_goals go_ret
  all_goals refine ⟨ret_int ?_, (Below.refl _ _).alloc (Nat.le_refl _) _⟩
  all_goals have ho := HO.out
  all_goals rw [ho]
  all_goals (unfold Pl.own; simp; omega)
theorem rown_3 (s : ByteArray) (n m gc dc : Nat) (ga da : Option Addr) (w : World) (hm : m ≤ maxLen) :
    Calls Tryd.prog 14 #[.agg #[.int .i64 3, .string s, .slice ga n gc, .slice da m dc]] w fun e w' => e = .returned (.int .i64 (Pl.own (3) s m)) ∧ Below w.heap.size w w' := by
  unfold maxLen at hm
  obtain ⟨o, ho⟩ : ∃ o, o = Pl.own (3) s m := ⟨_, rfl⟩
  rw [← ho]
  have HO := Lib.hid ho
  clear ho
  go_enter Tryd.func14, Tryd.ntmps14
  go_wp2_with (fail)
  all_goals go_ret
  all_goals refine ⟨ret_int ?_, (Below.refl _ _).alloc (Nat.le_refl _) _⟩
  all_goals have ho := HO.out
  all_goals rw [ho]
  all_goals (rw [own_lit_3]; congr 1; omega)
theorem rown_20 (s : ByteArray) (n m gc dc : Nat) (ga da : Option Addr) (w : World) (hm : m ≤ maxLen) :
    Calls Tryd.prog 14 #[.agg #[.int .i64 20, .string s, .slice ga n gc, .slice da m dc]] w fun e w' => e = .returned (.int .i64 (Pl.own (20) s m)) ∧ Below w.heap.size w w' := by
  unfold maxLen at hm
  obtain ⟨o, ho⟩ : ∃ o, o = Pl.own (20) s m := ⟨_, rfl⟩
  rw [← ho]
  have HO := Lib.hid ho
  clear ho
  go_enter Tryd.func14, Tryd.ntmps14
  go_wp2_with (fail)
  all_goals go_ret
  all_goals refine ⟨ret_int ?_, (Below.refl _ _).alloc (Nat.le_refl _) _⟩
  all_goals have ho := HO.out
  all_goals rw [ho]
  all_goals (rw [own_lit_20]; congr 1; omega)
theorem rown_21 (s : ByteArray) (n m gc dc : Nat) (ga da : Option Addr) (w : World) (hm : m ≤ maxLen) :
    Calls Tryd.prog 14 #[.agg #[.int .i64 21, .string s, .slice ga n gc, .slice da m dc]] w fun e w' => e = .returned (.int .i64 (Pl.own (21) s m)) ∧ Below w.heap.size w w' := by
  unfold maxLen at hm
  obtain ⟨o, ho⟩ : ∃ o, o = Pl.own (21) s m := ⟨_, rfl⟩
  rw [← ho]
  have HO := Lib.hid ho
  clear ho
  go_enter Tryd.func14, Tryd.ntmps14
  go_wp2_with (fail)
  all_goals go_ret
  all_goals refine ⟨ret_int ?_, (Below.refl _ _).alloc (Nat.le_refl _) _⟩
  all_goals have ho := HO.out
  all_goals rw [ho]
  all_goals (rw [own_lit_21]; congr 1; omega)
set_option maxHeartbeats 1600000 in
set_option maxRecDepth 10000 in
theorem rown_rest (k : Int) (s : ByteArray) (n m gc dc : Nat) (ga da : Option Addr) (w : World) (hm : m ≤ maxLen) (n8 : ¬ k = 8) (n14 : ¬ k = 14) (n21 : ¬ k = 21) (n3 : ¬ k = 3) (n20 : ¬ k = 20) :
    Calls Tryd.prog 14 #[.agg #[.int .i64 k, .string s, .slice ga n gc, .slice da m dc]] w fun e w' => e = .returned (.int .i64 (Pl.own (k) s m)) ∧ Below w.heap.size w w' := by
  unfold maxLen at hm
  obtain ⟨o, ho⟩ : ∃ o, o = Pl.own (k) s m := ⟨_, rfl⟩
  rw [← ho]
  have HO := Lib.hid ho
  clear ho
  have b8 : (k == 8) = false := by simpa using n8
  have b14 : (k == 14) = false := by simpa using n14
  have b21 : (k == 21) = false := by simpa using n21
  have b3 : (k == 3) = false := by simpa using n3
  have b20 : (k == 20) = false := by simpa using n20
  go_enter Tryd.func14, Tryd.ntmps14
  go_wp2_with (fail)
  all_goals go_ret
  all_goals refine ⟨ret_int ?_, (Below.refl _ _).alloc (Nat.le_refl _) _⟩
  all_goals have ho := HO.out
  all_goals rw [ho]
  all_goals try simp only [beq_iff_eq, beq_eq_false_iff_ne, ne_eq] at *
  all_goals clear HO
  all_goals unfold Pl.own Pl.ownT
  all_goals omega
theorem rown_any (k : Int) (s : ByteArray) (n m gc dc : Nat) (ga da : Option Addr) (w : World) (hm : m ≤ maxLen) :
    Calls Tryd.prog 14 #[.agg #[.int .i64 k, .string s, .slice ga n gc, .slice da m dc]] w fun e w' => e = .returned (.int .i64 (Pl.own k s m)) ∧ Below w.heap.size w w' := by
  by_cases e8 : k = 8
  · subst e8
    by_cases hz : s.size = 0
    · exact rown_8e s n m gc dc ga da w hm hz
    · exact rown_8n s n m gc dc ga da w hm hz
  by_cases e14 : k = 14
  · subst e14; exact rown_14 s n m gc dc ga da w hm
  by_cases e3 : k = 3
  · subst e3; exact rown_3 s n m gc dc ga da w hm
  by_cases e20 : k = 20
  · subst e20; exact rown_20 s n m gc dc ga da w hm
  by_cases e21 : k = 21
  · subst e21; exact rown_21 s n m gc dc ga da w hm
  exact rown_rest k s n m gc dc ga da w hm e8 e14 e21 e3 e20
end Go.Proofs.YtmfmlkdojgbhfaaDoor
