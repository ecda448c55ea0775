/- The walks of fitKids and its like. -/
import Derived.Test.YtpaleolcfhnenaaDoorBMem
namespace Go.Proofs.YtpaleolcfhnenaaDoor
open Go.RowKit
set_option linter.unusedVariables false
set_option linter.unusedSimpArgs false

/-- What fitsAfterExpression says. -/
def AftP (p q k : Int) : Prop := p = 13 ∧ (q = 0 ∧ Pl.grp k = 3 ∨ q = 1 ∧ k = 6 ∨ q = 2 ∧ k = 14) ∨ p = 15 ∧ (q = 0 ∧ Pl.grp k = 3 ∨ q = 1 ∧ k = 6) ∨ p = 24 ∧ q < 2 ∧ Pl.grp k = 3 ∨
  (p = 9 ∨ p = 10 ∨ p = 11 ∨ p = 12 ∨ p = 16 ∨ p = 25 ∨ p = 26) ∧ q = 0 ∧ Pl.grp k = 3
instance (p q k : Int) : Decidable (AftP p q k) := by unfold AftP; infer_instance
set_option maxHeartbeats 1600000 in
set_option maxRecDepth 10000 in
theorem aft_any (p q k : Int) (w : World) (hT : Tabs w) :
    Calls Tryd.prog 102 #[.int .i64 p, .int .i64 q, .int .i64 k] w fun e w' => e = .returned (.bool (decide (AftP (p) (q) k))) ∧ w = w' := by
  obtain ⟨b, hb⟩ : ∃ b : Bool, b = decide (AftP (p) (q) k) := ⟨_, rfl⟩
  rw [← hb]
  have HB := Lib.hid hb
  clear hb
  obtain ⟨g, hg⟩ : ∃ g, g = Pl.grp k := ⟨_, rfl⟩
  have HG := Lib.hid hg
  clear hg
  go_enter Tryd.func102, Tryd.ntmps102
  go_wp2_with (go_at_call 101; refine (group_is _ _ HG.out.symm _ hT).mono ?_; rintro e w' ⟨rfl, rfl⟩)
  all_goals go_ret
  all_goals refine ⟨ret_bool ?_, rfl⟩
  all_goals rw [HB.out, Bool.eq_iff_iff]
  all_goals (rw [decide_eq_true_eq]; unfold AftP)
  all_goals try rw [← HG.out]
  all_goals try simp only [beq_iff_eq, beq_eq_false_iff_ne, ne_eq] at *
  all_goals first | (simp <;> omega) | omega
theorem aft_is (p q k : Int) (b : Bool) (h : decide (AftP p q k) = b) (w : World) (hT : Tabs w) :
    Calls Tryd.prog 102 #[.int .i64 p, .int .i64 q, .int .i64 k] w fun e w' => e = .returned (.bool b) ∧ w = w' := h ▸ aft_any p q k w hT
end Go.Proofs.YtpaleolcfhnenaaDoor

namespace Go.Proofs.YtpaleolcfhnenaaDoor
open Go.RowKit
set_option linter.unusedVariables false
set_option linter.unusedSimpArgs false

theorem fits_aft (p q k : Int) (h0 : 0 ≤ q) (n1 : ¬ p = 1) (n2 : ¬ p = 2) (n3 : ¬ p = 3) (n4 : ¬ p = 4) (n6 : ¬ p = 6) (n7 : ¬ p = 7) (n14 : ¬ p = 14) (n20 : ¬ p = 20) (n21 : ¬ p = 21) : Pl.fits p q k = decide (AftP p q k) := by
  unfold Pl.fits
  rw [decide_eq_decide]
  unfold Pl.FitsP AftP
  simp [h0, n1, n2, n3, n4, n6, n7, n14, n20, n21]
set_option maxHeartbeats 1600000 in
set_option maxRecDepth 10000 in
theorem fits_neg (p q k : Int) (w : World) (h0 : q < 0) :
    Calls Tryd.prog 94 #[.int .i64 p, .int .i64 q, .int .i64 k] w fun e w' => e = .returned (.bool (Pl.fits (p) (q) k)) ∧ w = w' := by
  obtain ⟨b, hb⟩ : ∃ b : Bool, b = Pl.fits (p) (q) k := ⟨_, rfl⟩
  rw [← hb]
  have HB := Lib.hid hb
  clear hb
  obtain ⟨g, hg⟩ : ∃ g, g = Pl.grp k := ⟨_, rfl⟩
  have HG := Lib.hid hg
  clear hg
  go_enter Tryd.func94, Tryd.ntmps94
  go_wp2_with (fail)
  all_goals go_ret
  all_goals refine ⟨ret_bool ?_, rfl⟩
  all_goals rw [HB.out, Bool.eq_iff_iff]
  all_goals (unfold Pl.fits; rw [decide_eq_true_eq]; unfold Pl.FitsP)
  all_goals try rw [← HG.out]
  all_goals try simp only [beq_iff_eq, beq_eq_false_iff_ne, ne_eq] at *
  all_goals first | (simp <;> omega) | omega
set_option maxHeartbeats 1600000 in
set_option maxRecDepth 10000 in
theorem fits_1 (q k : Int) (w : World) (h0 : 0 ≤ q) (hT : Tabs w) :
    Calls Tryd.prog 94 #[.int .i64 1, .int .i64 q, .int .i64 k] w fun e w' => e = .returned (.bool (Pl.fits (1) (q) k)) ∧ w = w' := by
  obtain ⟨b, hb⟩ : ∃ b : Bool, b = Pl.fits (1) (q) k := ⟨_, rfl⟩
  rw [← hb]
  have HB := Lib.hid hb
  clear hb
  obtain ⟨g, hg⟩ : ∃ g, g = Pl.grp k := ⟨_, rfl⟩
  have HG := Lib.hid hg
  clear hg
  go_enter Tryd.func94, Tryd.ntmps94
  go_wp2_with (go_at_call 101; refine (group_is _ _ HG.out.symm _ hT).mono ?_; rintro e w' ⟨rfl, rfl⟩)
  all_goals go_ret
  all_goals refine ⟨ret_bool ?_, rfl⟩
  all_goals rw [HB.out, Bool.eq_iff_iff]
  all_goals (unfold Pl.fits; rw [decide_eq_true_eq]; unfold Pl.FitsP)
  all_goals try rw [← HG.out]
  all_goals try simp only [beq_iff_eq, beq_eq_false_iff_ne, ne_eq] at *
  all_goals first | (simp <;> omega) | omega
set_option maxHeartbeats 1600000 in
set_option maxRecDepth 10000 in
theorem fits_2_0 (k : Int) (w : World) (hT : Tabs w) :
    Calls Tryd.prog 94 #[.int .i64 2, .int .i64 0, .int .i64 k] w fun e w' => e = .returned (.bool (Pl.fits (2) (0) k)) ∧ w = w' := by
  obtain ⟨b, hb⟩ : ∃ b : Bool, b = Pl.fits (2) (0) k := ⟨_, rfl⟩
  rw [← hb]
  have HB := Lib.hid hb
  clear hb
  obtain ⟨g, hg⟩ : ∃ g, g = Pl.grp k := ⟨_, rfl⟩
  have HG := Lib.hid hg
  clear hg
  have t0 : w.cell? ⟨3, 0, none⟩ = some (.int .i64 3) := hT.2.1 0 (by decide)
  go_enter Tryd.func94, Tryd.ntmps94
  go_wp2_with (go_at_call 101; refine (group_is _ _ HG.out.symm _ hT).mono ?_; rintro e w' ⟨rfl, rfl⟩)
  all_goals go_ret
  all_goals refine ⟨ret_bool ?_, rfl⟩
  all_goals rw [HB.out, Bool.eq_iff_iff]
  all_goals (unfold Pl.fits; rw [decide_eq_true_eq]; unfold Pl.FitsP)
  all_goals try rw [← HG.out]
  all_goals try simp only [beq_iff_eq, beq_eq_false_iff_ne, ne_eq] at *
  all_goals first | (simp <;> omega) | omega
set_option maxHeartbeats 1600000 in
set_option maxRecDepth 10000 in
theorem fits_2_1 (k : Int) (w : World) (hT : Tabs w) :
    Calls Tryd.prog 94 #[.int .i64 2, .int .i64 1, .int .i64 k] w fun e w' => e = .returned (.bool (Pl.fits (2) (1) k)) ∧ w = w' := by
  obtain ⟨b, hb⟩ : ∃ b : Bool, b = Pl.fits (2) (1) k := ⟨_, rfl⟩
  rw [← hb]
  have HB := Lib.hid hb
  clear hb
  obtain ⟨g, hg⟩ : ∃ g, g = Pl.grp k := ⟨_, rfl⟩
  have HG := Lib.hid hg
  clear hg
  have t1 : w.cell? ⟨3, 1, none⟩ = some (.int .i64 5) := hT.2.1 1 (by decide)
  go_enter Tryd.func94, Tryd.ntmps94
  go_wp2_with (go_at_call 101; refine (group_is _ _ HG.out.symm _ hT).mono ?_; rintro e w' ⟨rfl, rfl⟩)
  all_goals go_ret
  all_goals refine ⟨ret_bool ?_, rfl⟩
  all_goals rw [HB.out, Bool.eq_iff_iff]
  all_goals (unfold Pl.fits; rw [decide_eq_true_eq]; unfold Pl.FitsP)
  all_goals try rw [← HG.out]
  all_goals try simp only [beq_iff_eq, beq_eq_false_iff_ne, ne_eq] at *
  all_goals first | (simp <;> omega) | omega
set_option maxHeartbeats 1600000 in
set_option maxRecDepth 10000 in
theorem fits_2_2 (k : Int) (w : World) (hT : Tabs w) :
    Calls Tryd.prog 94 #[.int .i64 2, .int .i64 2, .int .i64 k] w fun e w' => e = .returned (.bool (Pl.fits (2) (2) k)) ∧ w = w' := by
  obtain ⟨b, hb⟩ : ∃ b : Bool, b = Pl.fits (2) (2) k := ⟨_, rfl⟩
  rw [← hb]
  have HB := Lib.hid hb
  clear hb
  obtain ⟨g, hg⟩ : ∃ g, g = Pl.grp k := ⟨_, rfl⟩
  have HG := Lib.hid hg
  clear hg
  have t2 : w.cell? ⟨3, 2, none⟩ = some (.int .i64 6) := hT.2.1 2 (by decide)
  go_enter Tryd.func94, Tryd.ntmps94
  go_wp2_with (go_at_call 101; refine (group_is _ _ HG.out.symm _ hT).mono ?_; rintro e w' ⟨rfl, rfl⟩)
  all_goals go_ret
  all_goals refine ⟨ret_bool ?_, rfl⟩
  all_goals rw [HB.out, Bool.eq_iff_iff]
  all_goals (unfold Pl.fits; rw [decide_eq_true_eq]; unfold Pl.FitsP)
  all_goals try rw [← HG.out]
  all_goals try simp only [beq_iff_eq, beq_eq_false_iff_ne, ne_eq] at *
  all_goals first | (simp <;> omega) | omega
set_option maxHeartbeats 1600000 in
set_option maxRecDepth 10000 in
theorem fits_2 (q k : Int) (w : World) (h0 : 3 ≤ q) (hT : Tabs w) :
    Calls Tryd.prog 94 #[.int .i64 2, .int .i64 q, .int .i64 k] w fun e w' => e = .returned (.bool (Pl.fits (2) (q) k)) ∧ w = w' := by
  obtain ⟨b, hb⟩ : ∃ b : Bool, b = Pl.fits (2) (q) k := ⟨_, rfl⟩
  rw [← hb]
  have HB := Lib.hid hb
  clear hb
  obtain ⟨g, hg⟩ : ∃ g, g = Pl.grp k := ⟨_, rfl⟩
  have HG := Lib.hid hg
  clear hg
  go_enter Tryd.func94, Tryd.ntmps94
  go_wp2_with (go_at_call 101; refine (group_is _ _ HG.out.symm _ hT).mono ?_; rintro e w' ⟨rfl, rfl⟩)
  all_goals go_ret
  all_goals refine ⟨ret_bool ?_, rfl⟩
  all_goals rw [HB.out, Bool.eq_iff_iff]
  all_goals (unfold Pl.fits; rw [decide_eq_true_eq]; unfold Pl.FitsP)
  all_goals try rw [← HG.out]
  all_goals try simp only [beq_iff_eq, beq_eq_false_iff_ne, ne_eq] at *
  all_goals first | (simp <;> omega) | omega
set_option maxHeartbeats 1600000 in
set_option maxRecDepth 10000 in
theorem fits_3 (q k : Int) (w : World) (h0 : 0 ≤ q) (hT : Tabs w) :
    Calls Tryd.prog 94 #[.int .i64 3, .int .i64 q, .int .i64 k] w fun e w' => e = .returned (.bool (Pl.fits (3) (q) k)) ∧ w = w' := by
  obtain ⟨b, hb⟩ : ∃ b : Bool, b = Pl.fits (3) (q) k := ⟨_, rfl⟩
  rw [← hb]
  have HB := Lib.hid hb
  clear hb
  obtain ⟨g, hg⟩ : ∃ g, g = Pl.grp k := ⟨_, rfl⟩
  have HG := Lib.hid hg
  clear hg
  go_enter Tryd.func94, Tryd.ntmps94
  go_wp2_with (go_at_call 101; refine (group_is _ _ HG.out.symm _ hT).mono ?_; rintro e w' ⟨rfl, rfl⟩)
  all_goals go_ret
  all_goals refine ⟨ret_bool ?_, rfl⟩
  all_goals rw [HB.out, Bool.eq_iff_iff]
  all_goals (unfold Pl.fits; rw [decide_eq_true_eq]; unfold Pl.FitsP)
  all_goals try rw [← HG.out]
  all_goals try simp only [beq_iff_eq, beq_eq_false_iff_ne, ne_eq] at *
  all_goals first | (simp <;> omega) | omega
set_option maxHeartbeats 1600000 in
set_option maxRecDepth 10000 in
theorem fits_4 (q k : Int) (w : World) (h0 : 0 ≤ q) (hT : Tabs w) :
    Calls Tryd.prog 94 #[.int .i64 4, .int .i64 q, .int .i64 k] w fun e w' => e = .returned (.bool (Pl.fits (4) (q) k)) ∧ w = w' := by
  obtain ⟨b, hb⟩ : ∃ b : Bool, b = Pl.fits (4) (q) k := ⟨_, rfl⟩
  rw [← hb]
  have HB := Lib.hid hb
  clear hb
  obtain ⟨g, hg⟩ : ∃ g, g = Pl.grp k := ⟨_, rfl⟩
  have HG := Lib.hid hg
  clear hg
  go_enter Tryd.func94, Tryd.ntmps94
  go_wp2_with (go_at_call 101; refine (group_is _ _ HG.out.symm _ hT).mono ?_; rintro e w' ⟨rfl, rfl⟩)
  all_goals go_ret
  all_goals refine ⟨ret_bool ?_, rfl⟩
  all_goals rw [HB.out, Bool.eq_iff_iff]
  all_goals (unfold Pl.fits; rw [decide_eq_true_eq]; unfold Pl.FitsP)
  all_goals try rw [← HG.out]
  all_goals try simp only [beq_iff_eq, beq_eq_false_iff_ne, ne_eq] at *
  all_goals first | (simp <;> omega) | omega
set_option maxHeartbeats 1600000 in
set_option maxRecDepth 10000 in
theorem fits_6 (q k : Int) (w : World) (h0 : 0 ≤ q) (hT : Tabs w) :
    Calls Tryd.prog 94 #[.int .i64 6, .int .i64 q, .int .i64 k] w fun e w' => e = .returned (.bool (Pl.fits (6) (q) k)) ∧ w = w' := by
  obtain ⟨b, hb⟩ : ∃ b : Bool, b = Pl.fits (6) (q) k := ⟨_, rfl⟩
  rw [← hb]
  have HB := Lib.hid hb
  clear hb
  obtain ⟨g, hg⟩ : ∃ g, g = Pl.grp k := ⟨_, rfl⟩
  have HG := Lib.hid hg
  clear hg
  go_enter Tryd.func94, Tryd.ntmps94
  go_wp2_with (go_at_call 101; refine (group_is _ _ HG.out.symm _ hT).mono ?_; rintro e w' ⟨rfl, rfl⟩)
  all_goals go_ret
  all_goals refine ⟨ret_bool ?_, rfl⟩
  all_goals rw [HB.out, Bool.eq_iff_iff]
  all_goals (unfold Pl.fits; rw [decide_eq_true_eq]; unfold Pl.FitsP)
  all_goals try rw [← HG.out]
  all_goals try simp only [beq_iff_eq, beq_eq_false_iff_ne, ne_eq] at *
  all_goals first | (simp <;> omega) | omega
set_option maxHeartbeats 1600000 in
set_option maxRecDepth 10000 in
theorem fits_7 (q k : Int) (w : World) (h0 : 0 ≤ q) (hT : Tabs w) :
    Calls Tryd.prog 94 #[.int .i64 7, .int .i64 q, .int .i64 k] w fun e w' => e = .returned (.bool (Pl.fits (7) (q) k)) ∧ w = w' := by
  obtain ⟨b, hb⟩ : ∃ b : Bool, b = Pl.fits (7) (q) k := ⟨_, rfl⟩
  rw [← hb]
  have HB := Lib.hid hb
  clear hb
  obtain ⟨g, hg⟩ : ∃ g, g = Pl.grp k := ⟨_, rfl⟩
  have HG := Lib.hid hg
  clear hg
  go_enter Tryd.func94, Tryd.ntmps94
  go_wp2_with (go_at_call 101; refine (group_is _ _ HG.out.symm _ hT).mono ?_; rintro e w' ⟨rfl, rfl⟩)
  all_goals go_ret
  all_goals refine ⟨ret_bool ?_, rfl⟩
  all_goals rw [HB.out, Bool.eq_iff_iff]
  all_goals (unfold Pl.fits; rw [decide_eq_true_eq]; unfold Pl.FitsP)
  all_goals try rw [← HG.out]
  all_goals try simp only [beq_iff_eq, beq_eq_false_iff_ne, ne_eq] at *
  all_goals first | (simp <;> omega) | omega
set_option maxHeartbeats 1600000 in
set_option maxRecDepth 10000 in
theorem fits_14 (q k : Int) (w : World) (h0 : 0 ≤ q) (hT : Tabs w) :
    Calls Tryd.prog 94 #[.int .i64 14, .int .i64 q, .int .i64 k] w fun e w' => e = .returned (.bool (Pl.fits (14) (q) k)) ∧ w = w' := by
  obtain ⟨b, hb⟩ : ∃ b : Bool, b = Pl.fits (14) (q) k := ⟨_, rfl⟩
  rw [← hb]
  have HB := Lib.hid hb
  clear hb
  obtain ⟨g, hg⟩ : ∃ g, g = Pl.grp k := ⟨_, rfl⟩
  have HG := Lib.hid hg
  clear hg
  go_enter Tryd.func94, Tryd.ntmps94
  go_wp2_with (go_at_call 101; refine (group_is _ _ HG.out.symm _ hT).mono ?_; rintro e w' ⟨rfl, rfl⟩)
  all_goals go_ret
  all_goals refine ⟨ret_bool ?_, rfl⟩
  all_goals rw [HB.out, Bool.eq_iff_iff]
  all_goals (unfold Pl.fits; rw [decide_eq_true_eq]; unfold Pl.FitsP)
  all_goals try rw [← HG.out]
  all_goals try simp only [beq_iff_eq, beq_eq_false_iff_ne, ne_eq] at *
  all_goals first | (simp <;> omega) | omega
set_option maxHeartbeats 1600000 in
set_option maxRecDepth 10000 in
theorem fits_20 (q k : Int) (w : World) (h0 : 0 ≤ q) (hT : Tabs w) :
    Calls Tryd.prog 94 #[.int .i64 20, .int .i64 q, .int .i64 k] w fun e w' => e = .returned (.bool (Pl.fits (20) (q) k)) ∧ w = w' := by
  obtain ⟨b, hb⟩ : ∃ b : Bool, b = Pl.fits (20) (q) k := ⟨_, rfl⟩
  rw [← hb]
  have HB := Lib.hid hb
  clear hb
  obtain ⟨g, hg⟩ : ∃ g, g = Pl.grp k := ⟨_, rfl⟩
  have HG := Lib.hid hg
  clear hg
  go_enter Tryd.func94, Tryd.ntmps94
  go_wp2_with (go_at_call 101; refine (group_is _ _ HG.out.symm _ hT).mono ?_; rintro e w' ⟨rfl, rfl⟩)
  all_goals go_ret
  all_goals refine ⟨ret_bool ?_, rfl⟩
  all_goals rw [HB.out, Bool.eq_iff_iff]
  all_goals (unfold Pl.fits; rw [decide_eq_true_eq]; unfold Pl.FitsP)
  all_goals try rw [← HG.out]
  all_goals try simp only [beq_iff_eq, beq_eq_false_iff_ne, ne_eq] at *
  all_goals first | (simp <;> omega) | omega
set_option maxHeartbeats 1600000 in
set_option maxRecDepth 10000 in
theorem fits_21 (q k : Int) (w : World) (h0 : 0 ≤ q) (hT : Tabs w) :
    Calls Tryd.prog 94 #[.int .i64 21, .int .i64 q, .int .i64 k] w fun e w' => e = .returned (.bool (Pl.fits (21) (q) k)) ∧ w = w' := by
  obtain ⟨b, hb⟩ : ∃ b : Bool, b = Pl.fits (21) (q) k := ⟨_, rfl⟩
  rw [← hb]
  have HB := Lib.hid hb
  clear hb
  obtain ⟨g, hg⟩ : ∃ g, g = Pl.grp k := ⟨_, rfl⟩
  have HG := Lib.hid hg
  clear hg
  go_enter Tryd.func94, Tryd.ntmps94
  go_wp2_with (go_at_call 101; refine (group_is _ _ HG.out.symm _ hT).mono ?_; rintro e w' ⟨rfl, rfl⟩)
  all_goals go_ret
  all_goals refine ⟨ret_bool ?_, rfl⟩
  all_goals rw [HB.out, Bool.eq_iff_iff]
  all_goals (unfold Pl.fits; rw [decide_eq_true_eq]; unfold Pl.FitsP)
  all_goals try rw [← HG.out]
  all_goals try simp only [beq_iff_eq, beq_eq_false_iff_ne, ne_eq] at *
  all_goals first | (simp <;> omega) | omega
set_option maxHeartbeats 1600000 in
set_option maxRecDepth 10000 in
theorem fits_no (p q k : Int) (w : World) (h0 : 0 ≤ q) (hT : Tabs w) (n1 : (p == 1) = false) (n2 : (p == 2) = false) (n3 : (p == 3) = false) (n4 : (p == 4) = false) (n6 : (p == 6) = false) (n7 : (p == 7) = false) (n14 : (p == 14) = false) (n20 : (p == 20) = false) (n21 : (p == 21) = false) :
    Calls Tryd.prog 94 #[.int .i64 p, .int .i64 q, .int .i64 k] w fun e w' => e = .returned (.bool (Pl.fits (p) (q) k)) ∧ w = w' := by
  obtain ⟨b, hb⟩ : ∃ b : Bool, b = Pl.fits (p) (q) k := ⟨_, rfl⟩
  rw [← hb]
  have HB := Lib.hid hb
  clear hb
  obtain ⟨g, hg⟩ : ∃ g, g = Pl.grp k := ⟨_, rfl⟩
  have HG := Lib.hid hg
  clear hg
  obtain ⟨a, ha⟩ : ∃ a : Bool, a = decide (AftP p q k) := ⟨_, rfl⟩
  have HA := Lib.hid ha
  clear ha
  go_enter Tryd.func94, Tryd.ntmps94
  go_wp2_with (go_at_call 102; refine (aft_is _ _ _ _ HA.out.symm _ hT).mono ?_; rintro e w' ⟨rfl, rfl⟩)
  all_goals go_ret
  all_goals refine ⟨ret_bool ?_, rfl⟩
  all_goals rw [HB.out, HA.out]
  all_goals exact (fits_aft p q k h0 (by simpa using n1) (by simpa using n2) (by simpa using n3) (by simpa using n4) (by simpa using n6) (by simpa using n7) (by simpa using n14) (by simpa using n20) (by simpa using n21)).symm
theorem fits_any (p q k : Int) (w : World) (hT : Tabs w) :
    Calls Tryd.prog 94 #[.int .i64 p, .int .i64 q, .int .i64 k] w fun e w' => e = .returned (.bool (Pl.fits p q k)) ∧ w = w' := by
  by_cases h0 : 0 ≤ q
  case neg => exact fits_neg p q k w (by omega)
  by_cases e1 : p = 1
  · subst e1; exact fits_1 q k w h0 hT
  have n1 : (p == 1) = false := by simpa using e1
  by_cases e2 : p = 2
  · subst e2; exact (by
      by_cases f0 : q = 0
      · subst f0; exact fits_2_0 k w hT
      by_cases f1 : q = 1
      · subst f1; exact fits_2_1 k w hT
      by_cases f2 : q = 2
      · subst f2; exact fits_2_2 k w hT
      exact fits_2 q k w (by omega) hT)
  have n2 : (p == 2) = false := by simpa using e2
  by_cases e3 : p = 3
  · subst e3; exact fits_3 q k w h0 hT
  have n3 : (p == 3) = false := by simpa using e3
  by_cases e4 : p = 4
  · subst e4; exact fits_4 q k w h0 hT
  have n4 : (p == 4) = false := by simpa using e4
  by_cases e6 : p = 6
  · subst e6; exact fits_6 q k w h0 hT
  have n6 : (p == 6) = false := by simpa using e6
  by_cases e7 : p = 7
  · subst e7; exact fits_7 q k w h0 hT
  have n7 : (p == 7) = false := by simpa using e7
  by_cases e14 : p = 14
  · subst e14; exact fits_14 q k w h0 hT
  have n14 : (p == 14) = false := by simpa using e14
  by_cases e20 : p = 20
  · subst e20; exact fits_20 q k w h0 hT
  have n20 : (p == 20) = false := by simpa using e20
  by_cases e21 : p = 21
  · subst e21; exact fits_21 q k w h0 hT
  have n21 : (p == 21) = false := by simpa using e21
  exact fits_no p q k w h0 hT n1 n2 n3 n4 n6 n7 n14 n20 n21
theorem fits_is (p q k : Int) (b : Bool) (h : Pl.fits p q k = b) (w : World) (hT : Tabs w) :
    Calls Tryd.prog 94 #[.int .i64 p, .int .i64 q, .int .i64 k] w fun e w' => e = .returned (.bool b) ∧ w = w' := h ▸ fits_any p q k w hT
end Go.Proofs.YtpaleolcfhnenaaDoor
