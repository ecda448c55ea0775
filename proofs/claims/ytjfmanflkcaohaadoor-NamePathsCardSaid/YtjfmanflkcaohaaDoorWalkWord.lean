/- The walks of isDigit, isWord, Keyword and of the reference's digit, letter, Keyword. -/
import Derived.Test.YtjfmanflkcaohaaDoorRows
import Derived.Test.YtjfmanflkcaohaaDoorPlain
import Derived.WalkKit
import Derived.WalkSpells
import Derived.WalkLawsBesides
import Derived.Outline
import Derived.Lib.Hide
namespace Go.Proofs.YtjfmanflkcaohaaDoor
open Go.RowKit
set_option linter.unusedVariables false
set_option linter.unusedSimpArgs false

theorem ret_bool {a b : Bool} (h : a = b) : Ending.returned (.bool a) = .returned (.bool b) := by rw [h]
theorem ret_str {a b : ByteArray} (h : a = b) : Ending.returned (.string a) = .returned (.string b) := by rw [h]

theorem digit_any (c : Nat) (w : World) :
    Calls Tryd.prog 27 #[.int .i32 c] w fun e w' => e = .returned (.bool (Pl.dg c)) ∧ w = w' := by
  go_enter Tryd.func27, Tryd.ntmps27
  go_wp2
  · go_ret
    exact ⟨ret_bool (by unfold Pl.dg; rw [Bool.eq_iff_iff]; simp; omega), rfl⟩
  · go_ret
    exact ⟨ret_bool (by unfold Pl.dg; rw [Bool.eq_iff_iff]; simp; omega), rfl⟩
theorem rdigit_any (c : Nat) (w : World) :
    Calls Tryd.prog 28 #[.int .u8 c] w fun e w' => e = .returned (.bool (Pl.dg c)) ∧ w = w' := by
  go_enter Tryd.func28, Tryd.ntmps28
  go_wp2
  · go_ret
    exact ⟨ret_bool (by unfold Pl.dg; rw [Bool.eq_iff_iff]; simp; omega), rfl⟩
  · go_ret
    exact ⟨ret_bool (by unfold Pl.dg; rw [Bool.eq_iff_iff]; simp; omega), rfl⟩
theorem word_any (c : Nat) (w : World) :
    Calls Tryd.prog 26 #[.int .i32 c] w fun e w' => e = .returned (.bool (Pl.wd c)) ∧ w = w' := by
  go_enter Tryd.func26, Tryd.ntmps26
  go_wp2_with (go_at_call 27; refine (digit_any _ _).mono ?_; rintro e w' ⟨rfl, rfl⟩)
  all_goals go_ret
  all_goals refine ⟨ret_bool ?_, rfl⟩
  all_goals first
    | (have hd : Pl.dg c = true := by assumption
       simp [Pl.wd, hd])
    | (have hd : ¬ Pl.dg c = true := by assumption
       simp only [Bool.not_eq_true] at hd
       rw [Bool.eq_iff_iff]; simp [Pl.wd, Pl.lt, hd]; omega)
    | (rw [Bool.eq_iff_iff]; simp [Pl.wd, Pl.lt]; omega)
theorem rletter_any (c : Nat) (w : World) :
    Calls Tryd.prog 29 #[.int .u8 c] w fun e w' => e = .returned (.bool (Pl.lt c)) ∧ w = w' := by
  go_enter Tryd.func29, Tryd.ntmps29
  go_wp2
  all_goals go_ret
  all_goals refine ⟨ret_bool ?_, rfl⟩
  all_goals (rw [Bool.eq_iff_iff]; simp [Pl.lt]; omega)

set_option maxHeartbeats 1000000 in
theorem kw_yes (s : ByteArray) (w : World) (h : Pl.kw s = true) :
    Calls Tryd.prog 13 #[.string s] w fun e w' => e = .returned (.bool true) ∧ w = w' := by
  rcases Pl.kw_yes s h with rfl | rfl | rfl | rfl | rfl | rfl | rfl | rfl | rfl | rfl | rfl | rfl
  all_goals clear h
  all_goals
    go_enter Tryd.func13, Tryd.ntmps13
    go_wp2
    go_ret
    exact ⟨rfl, rfl⟩
set_option maxHeartbeats 1000000 in
theorem kw_no (s : ByteArray) (w : World) (h : Pl.kw s = false) :
    Calls Tryd.prog 13 #[.string s] w fun e w' => e = .returned (.bool false) ∧ w = w' := by
  obtain ⟨h1, h2, h3, h4, h5, h6, h7, h8, h9, h10, h11, h12⟩ := Pl.kw_no s h
  clear h
  go_enter Tryd.func13, Tryd.ntmps13
  go_wp2
  go_ret
  exact ⟨rfl, rfl⟩
theorem kw_any (s : ByteArray) (w : World) :
    Calls Tryd.prog 13 #[.string s] w fun e w' => e = .returned (.bool (Pl.kw s)) ∧ w = w' := by
  cases h : Pl.kw s
  · exact kw_no s w h
  · exact kw_yes s w h
set_option maxHeartbeats 1000000 in
theorem rkw_yes (s : ByteArray) (w : World) (h : Pl.kw s = true) :
    Calls Tryd.prog 14 #[.string s] w fun e w' => e = .returned (.bool true) ∧ w = w' := by
  rcases Pl.kw_yes s h with rfl | rfl | rfl | rfl | rfl | rfl | rfl | rfl | rfl | rfl | rfl | rfl
  all_goals clear h
  all_goals
    go_enter Tryd.func14, Tryd.ntmps14
    go_wp2
    go_ret
    exact ⟨rfl, rfl⟩
set_option maxHeartbeats 1000000 in
theorem rkw_no (s : ByteArray) (w : World) (h : Pl.kw s = false) :
    Calls Tryd.prog 14 #[.string s] w fun e w' => e = .returned (.bool false) ∧ w = w' := by
  obtain ⟨h1, h2, h3, h4, h5, h6, h7, h8, h9, h10, h11, h12⟩ := Pl.kw_no s h
  clear h
  go_enter Tryd.func14, Tryd.ntmps14
  go_wp2
  go_ret
  exact ⟨rfl, rfl⟩
theorem rkw_any (s : ByteArray) (w : World) :
    Calls Tryd.prog 14 #[.string s] w fun e w' => e = .returned (.bool (Pl.kw s)) ∧ w = w' := by
  cases h : Pl.kw s
  · exact rkw_no s w h
  · exact rkw_yes s w h
end Go.Proofs.YtjfmanflkcaohaaDoor
