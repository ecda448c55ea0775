/- The walks of Fits and of the reference's. -/
import Derived.Test.YtmfmlkdojgbhfaaDoorWalkKinds
namespace Go.Proofs.YtmfmlkdojgbhfaaDoor
open Go.RowKit
set_option linter.unusedVariables false
set_option linter.unusedSimpArgs false

/-- What fitsAfterExpression says. -/
def AftP (p q k : Int) : Prop := p = 13 ∧ (q = 0 ∧ Pl.grp k = 3 ∨ q = 1 ∧ k = 6 ∨ q = 2 ∧ k = 14) ∨ p = 15 ∧ (q = 0 ∧ Pl.grp k = 3 ∨ q = 1 ∧ k = 6) ∨ p = 24 ∧ q < 2 ∧ Pl.grp k = 3 ∨
  (p = 9 ∨ p = 10 ∨ p = 11 ∨ p = 12 ∨ p = 16 ∨ p = 25 ∨ p = 26) ∧ q = 0 ∧ Pl.grp k = 3
instance (p q k : Int) : Decidable (AftP p q k) := by unfold AftP; infer_instance
set_option maxHeartbeats 1600000 in
set_option maxRecDepth 10000 in
theorem aft_any (p q k : Int) (w : World) (hT : Tabs w) :
    Calls Tryd.prog 35 #[.int .i64 p, .int .i64 q, .int .i64 k] w fun e w' => e = .returned (.bool (decide (AftP (p) (q) k))) ∧ w = w' := by
  obtain ⟨b, hb⟩ : ∃ b : Bool, b = decide (AftP (p) (q) k) := ⟨_, rfl⟩
  rw [← hb]
  have HB := Lib.hid hb
  clear hb
  obtain ⟨g, hg⟩ : ∃ g, g = Pl.grp k := ⟨_, rfl⟩
  have HG := Lib.hid hg
  clear hg
  go_enter Tryd.func35, Tryd.ntmps35
  go_wp2_with (go_at_call 21; refine (group_is _ _ HG.out.symm _ hT).mono ?_; rintro e w' ⟨rfl, rfl⟩)
  all_goals go_ret
  all_goals refine ⟨ret_bool ?_, rfl⟩
  all_goals rw [HB.out, Bool.eq_iff_iff]
  all_goals (rw [decide_eq_true_eq]; unfold AftP)
  all_goals try rw [← HG.out]
  all_goals try simp only [beq_iff_eq, beq_eq_false_iff_ne, ne_eq] at *
  all_goals first | (simp <;> omega) | omega
theorem aft_is (p q k : Int) (b : Bool) (h : decide (AftP p q k) = b) (w : World) (hT : Tabs w) :
    Calls Tryd.prog 35 #[.int .i64 p, .int .i64 q, .int .i64 k] w fun e w' => e = .returned (.bool b) ∧ w = w' := h ▸ aft_any p q k w hT
end Go.Proofs.YtmfmlkdojgbhfaaDoor
