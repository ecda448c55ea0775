/- The walks of isDigit, isWord, Keyword and of the reference's digit, letter, Keyword. -/
import Derived.Test.YtmfmlkdojgbhfaaDoorRows
import Derived.Test.YtmfmlkdojgbhfaaDoorPlain
import Derived.WalkKit
import Derived.WalkSpells
import Derived.WalkLawsBesides
import Derived.Outline
import Derived.Lib.Hide
namespace Go.Proofs.YtmfmlkdojgbhfaaDoor
open Go.RowKit
set_option linter.unusedVariables false
set_option linter.unusedSimpArgs false

theorem ret_bool {a b : Bool} (h : a = b) : Ending.returned (.bool a) = .returned (.bool b) := by rw [h]
theorem ret_int {k : IntKind} {a b : Int} (h : a = b) : Ending.returned (.int k a) = .returned (.int k b) := by rw [h]
theorem ret_str {a b : ByteArray} (h : a = b) : Ending.returned (.string a) = .returned (.string b) := by rw [h]

theorem digit_any (c : Nat) (w : World) :
    Calls Tryd.prog 66 #[.int .i32 c] w fun e w' => e = .returned (.bool (Pl.dg c)) ∧ w = w' := by
  go_enter Tryd.func66, Tryd.ntmps66
  go_wp2
  · go_ret
    exact ⟨ret_bool (by unfold Pl.dg; rw [Bool.eq_iff_iff]; simp; omega), rfl⟩
  · go_ret
    exact ⟨ret_bool (by unfold Pl.dg; rw [Bool.eq_iff_iff]; simp; omega), rfl⟩
theorem rdigit_any (c : Nat) (w : World) :
    Calls Tryd.prog 60 #[.int .u8 c] w fun e w' => e = .returned (.bool (Pl.dg c)) ∧ w = w' := by
  go_enter Tryd.func60, Tryd.ntmps60
  go_wp2
  · go_ret
    exact ⟨ret_bool (by unfold Pl.dg; rw [Bool.eq_iff_iff]; simp; omega), rfl⟩
  · go_ret
    exact ⟨ret_bool (by unfold Pl.dg; rw [Bool.eq_iff_iff]; simp; omega), rfl⟩
theorem word_any (c : Nat) (w : World) :
    Calls Tryd.prog 65 #[.int .i32 c] w fun e w' => e = .returned (.bool (Pl.wd c)) ∧ w = w' := by
  go_enter Tryd.func65, Tryd.ntmps65
  go_wp2_with (go_at_call 66; refine (digit_any _ _).mono ?_; rintro e w' ⟨rfl, rfl⟩)
  all_goals go_ret
  all_goals refine ⟨ret_bool ?_, rfl⟩
  all_goals first
    | (have hd : Pl.dg c = true := by assumption
       simp [Pl.wd, hd])
    | (have hd : ¬ Pl.dg c = true := by assumption
       simp only [Bool.not_eq_true] at hd
       rw [Bool.eq_iff_iff]; simp [Pl.wd, Pl.lt, hd]; omega)
    | (rw [Bool.eq_iff_iff]; simp [Pl.wd, Pl.lt]; omega)
theorem rletter_any (c : Nat) (w : World) :
    Calls Tryd.prog 62 #[.int .u8 c] w fun e w' => e = .returned (.bool (Pl.lt c)) ∧ w = w' := by
  go_enter Tryd.func62, Tryd.ntmps62
  go_wp2
  all_goals go_ret
  all_goals refine ⟨ret_bool ?_, rfl⟩
  all_goals (rw [Bool.eq_iff_iff]; simp [Pl.lt]; omega)

set_option maxHeartbeats 1000000 in
theorem kw_yes (s : ByteArray) (w : World) (h : Pl.kw s = true) :
    Calls Tryd.prog 64 #[.string s] w fun e w' => e = .returned (.bool true) ∧ w = w' := by
  rcases Pl.kw_yes s h with rfl | rfl | rfl | rfl | rfl | rfl | rfl | rfl | rfl | rfl | rfl | rfl
  all_goals clear h
  all_goals
    go_enter Tryd.func64, Tryd.ntmps64
    go_wp2
    go_ret
    exact ⟨rfl, rfl⟩
set_option maxHeartbeats 1000000 in
theorem kw_no (s : ByteArray) (w : World) (h : Pl.kw s = false) :
    Calls Tryd.prog 64 #[.string s] w fun e w' => e = .returned (.bool false) ∧ w = w' := by
  obtain ⟨h1, h2, h3, h4, h5, h6, h7, h8, h9, h10, h11, h12⟩ := Pl.kw_no s h
  clear h
  go_enter Tryd.func64, Tryd.ntmps64
  go_wp2
  go_ret
  exact ⟨rfl, rfl⟩
theorem kw_any (s : ByteArray) (w : World) :
    Calls Tryd.prog 64 #[.string s] w fun e w' => e = .returned (.bool (Pl.kw s)) ∧ w = w' := by
  cases h : Pl.kw s
  · exact kw_no s w h
  · exact kw_yes s w h
set_option maxHeartbeats 1000000 in
theorem rkw_yes (s : ByteArray) (w : World) (h : Pl.kw s = true) :
    Calls Tryd.prog 61 #[.string s] w fun e w' => e = .returned (.bool true) ∧ w = w' := by
  rcases Pl.kw_yes s h with rfl | rfl | rfl | rfl | rfl | rfl | rfl | rfl | rfl | rfl | rfl | rfl
  all_goals clear h
  all_goals
    go_enter Tryd.func61, Tryd.ntmps61
    go_wp2
    go_ret
    exact ⟨rfl, rfl⟩
set_option maxHeartbeats 1000000 in
theorem rkw_no (s : ByteArray) (w : World) (h : Pl.kw s = false) :
    Calls Tryd.prog 61 #[.string s] w fun e w' => e = .returned (.bool false) ∧ w = w' := by
  obtain ⟨h1, h2, h3, h4, h5, h6, h7, h8, h9, h10, h11, h12⟩ := Pl.kw_no s h
  clear h
  go_enter Tryd.func61, Tryd.ntmps61
  go_wp2
  go_ret
  exact ⟨rfl, rfl⟩
theorem rkw_any (s : ByteArray) (w : World) :
    Calls Tryd.prog 61 #[.string s] w fun e w' => e = .returned (.bool (Pl.kw s)) ∧ w = w' := by
  cases h : Pl.kw s
  · exact rkw_no s w h
  · exact rkw_yes s w h
end Go.Proofs.YtmfmlkdojgbhfaaDoor
