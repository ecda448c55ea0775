/- The walks of the reference's Fits and its like. -/
import Derived.Test.YtpaleolcfhnenaaDoorBMem
namespace Go.Proofs.YtpaleolcfhnenaaDoor
open Go.RowKit
set_option linter.unusedVariables false
set_option linter.unusedSimpArgs false

set_option maxHeartbeats 1600000 in
set_option maxRecDepth 10000 in
theorem rfits_neg (p q k : Int) (w : World) (h0 : q < 0) :
    Calls Tryd.prog 57 #[.int .i64 p, .int .i64 q, .int .i64 k] w fun e w' => e = .returned (.bool (Pl.fits (p) (q) k)) ∧ w = w' := by
  obtain ⟨b, hb⟩ : ∃ b : Bool, b = Pl.fits (p) (q) k := ⟨_, rfl⟩
  rw [← hb]
  have HB := Lib.hid hb
  clear hb
  obtain ⟨g, hg⟩ : ∃ g, g = Pl.grp k := ⟨_, rfl⟩
  have HG := Lib.hid hg
  clear hg
  go_enter Tryd.func57, Tryd.ntmps57
  go_wp2_with (fail)
  all_goals go_ret
  all_goals refine ⟨ret_bool ?_, rfl⟩
  all_goals rw [HB.out, Bool.eq_iff_iff]
  all_goals (unfold Pl.fits; rw [decide_eq_true_eq]; unfold Pl.FitsP)
  all_goals try rw [← HG.out]
  all_goals try simp only [beq_iff_eq, beq_eq_false_iff_ne, ne_eq] at *
  all_goals first | (simp <;> omega) | omega
set_option maxHeartbeats 1600000 in
set_option maxRecDepth 10000 in
theorem rfits_1 (q k : Int) (w : World) (h0 : 0 ≤ q) :
    Calls Tryd.prog 57 #[.int .i64 1, .int .i64 q, .int .i64 k] w fun e w' => e = .returned (.bool (Pl.fits (1) (q) k)) ∧ w = w' := by
  obtain ⟨b, hb⟩ : ∃ b : Bool, b = Pl.fits (1) (q) k := ⟨_, rfl⟩
  rw [← hb]
  have HB := Lib.hid hb
  clear hb
  obtain ⟨g, hg⟩ : ∃ g, g = Pl.grp k := ⟨_, rfl⟩
  have HG := Lib.hid hg
  clear hg
  go_enter Tryd.func57, Tryd.ntmps57
  go_wp2_with (go_at_call 67; refine (rgroup_is _ _ HG.out.symm _).mono ?_; rintro e w' ⟨rfl, rfl⟩)
  all_goals go_ret
  all_goals refine ⟨ret_bool ?_, rfl⟩
  all_goals rw [HB.out, Bool.eq_iff_iff]
  all_goals (unfold Pl.fits; rw [decide_eq_true_eq]; unfold Pl.FitsP)
  all_goals try rw [← HG.out]
  all_goals try simp only [beq_iff_eq, beq_eq_false_iff_ne, ne_eq] at *
  all_goals first | (simp <;> omega) | omega
set_option maxHeartbeats 1600000 in
set_option maxRecDepth 10000 in
theorem rfits_2 (q k : Int) (w : World) (h0 : 0 ≤ q) :
    Calls Tryd.prog 57 #[.int .i64 2, .int .i64 q, .int .i64 k] w fun e w' => e = .returned (.bool (Pl.fits (2) (q) k)) ∧ w = w' := by
  obtain ⟨b, hb⟩ : ∃ b : Bool, b = Pl.fits (2) (q) k := ⟨_, rfl⟩
  rw [← hb]
  have HB := Lib.hid hb
  clear hb
  obtain ⟨g, hg⟩ : ∃ g, g = Pl.grp k := ⟨_, rfl⟩
  have HG := Lib.hid hg
  clear hg
  go_enter Tryd.func57, Tryd.ntmps57
  go_wp2_with (go_at_call 67; refine (rgroup_is _ _ HG.out.symm _).mono ?_; rintro e w' ⟨rfl, rfl⟩)
  all_goals go_ret
  all_goals refine ⟨ret_bool ?_, rfl⟩
  all_goals rw [HB.out, Bool.eq_iff_iff]
  all_goals (unfold Pl.fits; rw [decide_eq_true_eq]; unfold Pl.FitsP)
  all_goals try rw [← HG.out]
  all_goals try simp only [beq_iff_eq, beq_eq_false_iff_ne, ne_eq] at *
  all_goals first | (simp <;> omega) | omega
set_option maxHeartbeats 1600000 in
set_option maxRecDepth 10000 in
theorem rfits_3 (q k : Int) (w : World) (h0 : 0 ≤ q) :
    Calls Tryd.prog 57 #[.int .i64 3, .int .i64 q, .int .i64 k] w fun e w' => e = .returned (.bool (Pl.fits (3) (q) k)) ∧ w = w' := by
  obtain ⟨b, hb⟩ : ∃ b : Bool, b = Pl.fits (3) (q) k := ⟨_, rfl⟩
  rw [← hb]
  have HB := Lib.hid hb
  clear hb
  obtain ⟨g, hg⟩ : ∃ g, g = Pl.grp k := ⟨_, rfl⟩
  have HG := Lib.hid hg
  clear hg
  go_enter Tryd.func57, Tryd.ntmps57
  go_wp2_with (go_at_call 67; refine (rgroup_is _ _ HG.out.symm _).mono ?_; rintro e w' ⟨rfl, rfl⟩)
  all_goals go_ret
  all_goals refine ⟨ret_bool ?_, rfl⟩
  all_goals rw [HB.out, Bool.eq_iff_iff]
  all_goals (unfold Pl.fits; rw [decide_eq_true_eq]; unfold Pl.FitsP)
  all_goals try rw [← HG.out]
  all_goals try simp only [beq_iff_eq, beq_eq_false_iff_ne, ne_eq] at *
  all_goals first | (simp <;> omega) | omega
set_option maxHeartbeats 1600000 in
set_option maxRecDepth 10000 in
theorem rfits_4 (q k : Int) (w : World) (h0 : 0 ≤ q) :
    Calls Tryd.prog 57 #[.int .i64 4, .int .i64 q, .int .i64 k] w fun e w' => e = .returned (.bool (Pl.fits (4) (q) k)) ∧ w = w' := by
  obtain ⟨b, hb⟩ : ∃ b : Bool, b = Pl.fits (4) (q) k := ⟨_, rfl⟩
  rw [← hb]
  have HB := Lib.hid hb
  clear hb
  obtain ⟨g, hg⟩ : ∃ g, g = Pl.grp k := ⟨_, rfl⟩
  have HG := Lib.hid hg
  clear hg
  go_enter Tryd.func57, Tryd.ntmps57
  go_wp2_with (go_at_call 67; refine (rgroup_is _ _ HG.out.symm _).mono ?_; rintro e w' ⟨rfl, rfl⟩)
  all_goals go_ret
  all_goals refine ⟨ret_bool ?_, rfl⟩
  all_goals rw [HB.out, Bool.eq_iff_iff]
  all_goals (unfold Pl.fits; rw [decide_eq_true_eq]; unfold Pl.FitsP)
  all_goals try rw [← HG.out]
  all_goals try simp only [beq_iff_eq, beq_eq_false_iff_ne, ne_eq] at *
  all_goals first | (simp <;> omega) | omega
set_option maxHeartbeats 1600000 in
set_option maxRecDepth 10000 in
theorem rfits_6 (q k : Int) (w : World) (h0 : 0 ≤ q) :
    Calls Tryd.prog 57 #[.int .i64 6, .int .i64 q, .int .i64 k] w fun e w' => e = .returned (.bool (Pl.fits (6) (q) k)) ∧ w = w' := by
  obtain ⟨b, hb⟩ : ∃ b : Bool, b = Pl.fits (6) (q) k := ⟨_, rfl⟩
  rw [← hb]
  have HB := Lib.hid hb
  clear hb
  obtain ⟨g, hg⟩ : ∃ g, g = Pl.grp k := ⟨_, rfl⟩
  have HG := Lib.hid hg
  clear hg
  go_enter Tryd.func57, Tryd.ntmps57
  go_wp2_with (go_at_call 67; refine (rgroup_is _ _ HG.out.symm _).mono ?_; rintro e w' ⟨rfl, rfl⟩)
  all_goals go_ret
  all_goals refine ⟨ret_bool ?_, rfl⟩
  all_goals rw [HB.out, Bool.eq_iff_iff]
  all_goals (unfold Pl.fits; rw [decide_eq_true_eq]; unfold Pl.FitsP)
  all_goals try rw [← HG.out]
  all_goals try simp only [beq_iff_eq, beq_eq_false_iff_ne, ne_eq] at *
  all_goals first | (simp <;> omega) | omega
set_option maxHeartbeats 1600000 in
set_option maxRecDepth 10000 in
theorem rfits_7 (q k : Int) (w : World) (h0 : 0 ≤ q) :
    Calls Tryd.prog 57 #[.int .i64 7, .int .i64 q, .int .i64 k] w fun e w' => e = .returned (.bool (Pl.fits (7) (q) k)) ∧ w = w' := by
  obtain ⟨b, hb⟩ : ∃ b : Bool, b = Pl.fits (7) (q) k := ⟨_, rfl⟩
  rw [← hb]
  have HB := Lib.hid hb
  clear hb
  obtain ⟨g, hg⟩ : ∃ g, g = Pl.grp k := ⟨_, rfl⟩
  have HG := Lib.hid hg
  clear hg
  go_enter Tryd.func57, Tryd.ntmps57
  go_wp2_with (go_at_call 67; refine (rgroup_is _ _ HG.out.symm _).mono ?_; rintro e w' ⟨rfl, rfl⟩)
  all_goals go_ret
  all_goals refine ⟨ret_bool ?_, rfl⟩
  all_goals rw [HB.out, Bool.eq_iff_iff]
  all_goals (unfold Pl.fits; rw [decide_eq_true_eq]; unfold Pl.FitsP)
  all_goals try rw [← HG.out]
  all_goals try simp only [beq_iff_eq, beq_eq_false_iff_ne, ne_eq] at *
  all_goals first | (simp <;> omega) | omega
set_option maxHeartbeats 1600000 in
set_option maxRecDepth 10000 in
theorem rfits_13 (q k : Int) (w : World) (h0 : 0 ≤ q) :
    Calls Tryd.prog 57 #[.int .i64 13, .int .i64 q, .int .i64 k] w fun e w' => e = .returned (.bool (Pl.fits (13) (q) k)) ∧ w = w' := by
  obtain ⟨b, hb⟩ : ∃ b : Bool, b = Pl.fits (13) (q) k := ⟨_, rfl⟩
  rw [← hb]
  have HB := Lib.hid hb
  clear hb
  obtain ⟨g, hg⟩ : ∃ g, g = Pl.grp k := ⟨_, rfl⟩
  have HG := Lib.hid hg
  clear hg
  go_enter Tryd.func57, Tryd.ntmps57
  go_wp2_with (go_at_call 67; refine (rgroup_is _ _ HG.out.symm _).mono ?_; rintro e w' ⟨rfl, rfl⟩)
  all_goals go_ret
  all_goals refine ⟨ret_bool ?_, rfl⟩
  all_goals rw [HB.out, Bool.eq_iff_iff]
  all_goals (unfold Pl.fits; rw [decide_eq_true_eq]; unfold Pl.FitsP)
  all_goals try rw [← HG.out]
  all_goals try simp only [beq_iff_eq, beq_eq_false_iff_ne, ne_eq] at *
  all_goals first | (simp <;> omega) | omega
set_option maxHeartbeats 1600000 in
set_option maxRecDepth 10000 in
theorem rfits_14 (q k : Int) (w : World) (h0 : 0 ≤ q) :
    Calls Tryd.prog 57 #[.int .i64 14, .int .i64 q, .int .i64 k] w fun e w' => e = .returned (.bool (Pl.fits (14) (q) k)) ∧ w = w' := by
  obtain ⟨b, hb⟩ : ∃ b : Bool, b = Pl.fits (14) (q) k := ⟨_, rfl⟩
  rw [← hb]
  have HB := Lib.hid hb
  clear hb
  obtain ⟨g, hg⟩ : ∃ g, g = Pl.grp k := ⟨_, rfl⟩
  have HG := Lib.hid hg
  clear hg
  go_enter Tryd.func57, Tryd.ntmps57
  go_wp2_with (go_at_call 67; refine (rgroup_is _ _ HG.out.symm _).mono ?_; rintro e w' ⟨rfl, rfl⟩)
  all_goals go_ret
  all_goals refine ⟨ret_bool ?_, rfl⟩
  all_goals rw [HB.out, Bool.eq_iff_iff]
  all_goals (unfold Pl.fits; rw [decide_eq_true_eq]; unfold Pl.FitsP)
  all_goals try rw [← HG.out]
  all_goals try simp only [beq_iff_eq, beq_eq_false_iff_ne, ne_eq] at *
  all_goals first | (simp <;> omega) | omega
set_option maxHeartbeats 1600000 in
set_option maxRecDepth 10000 in
theorem rfits_15 (q k : Int) (w : World) (h0 : 0 ≤ q) :
    Calls Tryd.prog 57 #[.int .i64 15, .int .i64 q, .int .i64 k] w fun e w' => e = .returned (.bool (Pl.fits (15) (q) k)) ∧ w = w' := by
  obtain ⟨b, hb⟩ : ∃ b : Bool, b = Pl.fits (15) (q) k := ⟨_, rfl⟩
  rw [← hb]
  have HB := Lib.hid hb
  clear hb
  obtain ⟨g, hg⟩ : ∃ g, g = Pl.grp k := ⟨_, rfl⟩
  have HG := Lib.hid hg
  clear hg
  go_enter Tryd.func57, Tryd.ntmps57
  go_wp2_with (go_at_call 67; refine (rgroup_is _ _ HG.out.symm _).mono ?_; rintro e w' ⟨rfl, rfl⟩)
  all_goals go_ret
  all_goals refine ⟨ret_bool ?_, rfl⟩
  all_goals rw [HB.out, Bool.eq_iff_iff]
  all_goals (unfold Pl.fits; rw [decide_eq_true_eq]; unfold Pl.FitsP)
  all_goals try rw [← HG.out]
  all_goals try simp only [beq_iff_eq, beq_eq_false_iff_ne, ne_eq] at *
  all_goals first | (simp <;> omega) | omega
set_option maxHeartbeats 1600000 in
set_option maxRecDepth 10000 in
theorem rfits_20 (q k : Int) (w : World) (h0 : 0 ≤ q) :
    Calls Tryd.prog 57 #[.int .i64 20, .int .i64 q, .int .i64 k] w fun e w' => e = .returned (.bool (Pl.fits (20) (q) k)) ∧ w = w' := by
  obtain ⟨b, hb⟩ : ∃ b : Bool, b = Pl.fits (20) (q) k := ⟨_, rfl⟩
  rw [← hb]
  have HB := Lib.hid hb
  clear hb
  obtain ⟨g, hg⟩ : ∃ g, g = Pl.grp k := ⟨_, rfl⟩
  have HG := Lib.hid hg
  clear hg
  go_enter Tryd.func57, Tryd.ntmps57
  go_wp2_with (go_at_call 67; refine (rgroup_is _ _ HG.out.symm _).mono ?_; rintro e w' ⟨rfl, rfl⟩)
  all_goals go_ret
  all_goals refine ⟨ret_bool ?_, rfl⟩
  all_goals rw [HB.out, Bool.eq_iff_iff]
  all_goals (unfold Pl.fits; rw [decide_eq_true_eq]; unfold Pl.FitsP)
  all_goals try rw [← HG.out]
  all_goals try simp only [beq_iff_eq, beq_eq_false_iff_ne, ne_eq] at *
  all_goals first | (simp <;> omega) | omega
set_option maxHeartbeats 1600000 in
set_option maxRecDepth 10000 in
theorem rfits_21 (q k : Int) (w : World) (h0 : 0 ≤ q) :
    Calls Tryd.prog 57 #[.int .i64 21, .int .i64 q, .int .i64 k] w fun e w' => e = .returned (.bool (Pl.fits (21) (q) k)) ∧ w = w' := by
  obtain ⟨b, hb⟩ : ∃ b : Bool, b = Pl.fits (21) (q) k := ⟨_, rfl⟩
  rw [← hb]
  have HB := Lib.hid hb
  clear hb
  obtain ⟨g, hg⟩ : ∃ g, g = Pl.grp k := ⟨_, rfl⟩
  have HG := Lib.hid hg
  clear hg
  go_enter Tryd.func57, Tryd.ntmps57
  go_wp2_with (go_at_call 67; refine (rgroup_is _ _ HG.out.symm _).mono ?_; rintro e w' ⟨rfl, rfl⟩)
  all_goals go_ret
  all_goals refine ⟨ret_bool ?_, rfl⟩
  all_goals rw [HB.out, Bool.eq_iff_iff]
  all_goals (unfold Pl.fits; rw [decide_eq_true_eq]; unfold Pl.FitsP)
  all_goals try rw [← HG.out]
  all_goals try simp only [beq_iff_eq, beq_eq_false_iff_ne, ne_eq] at *
  all_goals first | (simp <;> omega) | omega
set_option maxHeartbeats 1600000 in
set_option maxRecDepth 10000 in
theorem rfits_24 (q k : Int) (w : World) (h0 : 0 ≤ q) :
    Calls Tryd.prog 57 #[.int .i64 24, .int .i64 q, .int .i64 k] w fun e w' => e = .returned (.bool (Pl.fits (24) (q) k)) ∧ w = w' := by
  obtain ⟨b, hb⟩ : ∃ b : Bool, b = Pl.fits (24) (q) k := ⟨_, rfl⟩
  rw [← hb]
  have HB := Lib.hid hb
  clear hb
  obtain ⟨g, hg⟩ : ∃ g, g = Pl.grp k := ⟨_, rfl⟩
  have HG := Lib.hid hg
  clear hg
  go_enter Tryd.func57, Tryd.ntmps57
  go_wp2_with (go_at_call 67; refine (rgroup_is _ _ HG.out.symm _).mono ?_; rintro e w' ⟨rfl, rfl⟩)
  all_goals go_ret
  all_goals refine ⟨ret_bool ?_, rfl⟩
  all_goals rw [HB.out, Bool.eq_iff_iff]
  all_goals (unfold Pl.fits; rw [decide_eq_true_eq]; unfold Pl.FitsP)
  all_goals try rw [← HG.out]
  all_goals try simp only [beq_iff_eq, beq_eq_false_iff_ne, ne_eq] at *
  all_goals first | (simp <;> omega) | omega
set_option maxHeartbeats 1600000 in
set_option maxRecDepth 10000 in
theorem rfits_9 (q k : Int) (w : World) (h0 : 0 ≤ q) :
    Calls Tryd.prog 57 #[.int .i64 9, .int .i64 q, .int .i64 k] w fun e w' => e = .returned (.bool (Pl.fits (9) (q) k)) ∧ w = w' := by
  obtain ⟨b, hb⟩ : ∃ b : Bool, b = Pl.fits (9) (q) k := ⟨_, rfl⟩
  rw [← hb]
  have HB := Lib.hid hb
  clear hb
  obtain ⟨g, hg⟩ : ∃ g, g = Pl.grp k := ⟨_, rfl⟩
  have HG := Lib.hid hg
  clear hg
  go_enter Tryd.func57, Tryd.ntmps57
  go_wp2_with (go_at_call 67; refine (rgroup_is _ _ HG.out.symm _).mono ?_; rintro e w' ⟨rfl, rfl⟩)
  all_goals go_ret
  all_goals refine ⟨ret_bool ?_, rfl⟩
  all_goals rw [HB.out, Bool.eq_iff_iff]
  all_goals (unfold Pl.fits; rw [decide_eq_true_eq]; unfold Pl.FitsP)
  all_goals try rw [← HG.out]
  all_goals try simp only [beq_iff_eq, beq_eq_false_iff_ne, ne_eq] at *
  all_goals first | (simp <;> omega) | omega
set_option maxHeartbeats 1600000 in
set_option maxRecDepth 10000 in
theorem rfits_10 (q k : Int) (w : World) (h0 : 0 ≤ q) :
    Calls Tryd.prog 57 #[.int .i64 10, .int .i64 q, .int .i64 k] w fun e w' => e = .returned (.bool (Pl.fits (10) (q) k)) ∧ w = w' := by
  obtain ⟨b, hb⟩ : ∃ b : Bool, b = Pl.fits (10) (q) k := ⟨_, rfl⟩
  rw [← hb]
  have HB := Lib.hid hb
  clear hb
  obtain ⟨g, hg⟩ : ∃ g, g = Pl.grp k := ⟨_, rfl⟩
  have HG := Lib.hid hg
  clear hg
  go_enter Tryd.func57, Tryd.ntmps57
  go_wp2_with (go_at_call 67; refine (rgroup_is _ _ HG.out.symm _).mono ?_; rintro e w' ⟨rfl, rfl⟩)
  all_goals go_ret
  all_goals refine ⟨ret_bool ?_, rfl⟩
  all_goals rw [HB.out, Bool.eq_iff_iff]
  all_goals (unfold Pl.fits; rw [decide_eq_true_eq]; unfold Pl.FitsP)
  all_goals try rw [← HG.out]
  all_goals try simp only [beq_iff_eq, beq_eq_false_iff_ne, ne_eq] at *
  all_goals first | (simp <;> omega) | omega
set_option maxHeartbeats 1600000 in
set_option maxRecDepth 10000 in
theorem rfits_11 (q k : Int) (w : World) (h0 : 0 ≤ q) :
    Calls Tryd.prog 57 #[.int .i64 11, .int .i64 q, .int .i64 k] w fun e w' => e = .returned (.bool (Pl.fits (11) (q) k)) ∧ w = w' := by
  obtain ⟨b, hb⟩ : ∃ b : Bool, b = Pl.fits (11) (q) k := ⟨_, rfl⟩
  rw [← hb]
  have HB := Lib.hid hb
  clear hb
  obtain ⟨g, hg⟩ : ∃ g, g = Pl.grp k := ⟨_, rfl⟩
  have HG := Lib.hid hg
  clear hg
  go_enter Tryd.func57, Tryd.ntmps57
  go_wp2_with (go_at_call 67; refine (rgroup_is _ _ HG.out.symm _).mono ?_; rintro e w' ⟨rfl, rfl⟩)
  all_goals go_ret
  all_goals refine ⟨ret_bool ?_, rfl⟩
  all_goals rw [HB.out, Bool.eq_iff_iff]
  all_goals (unfold Pl.fits; rw [decide_eq_true_eq]; unfold Pl.FitsP)
  all_goals try rw [← HG.out]
  all_goals try simp only [beq_iff_eq, beq_eq_false_iff_ne, ne_eq] at *
  all_goals first | (simp <;> omega) | omega
set_option maxHeartbeats 1600000 in
set_option maxRecDepth 10000 in
theorem rfits_12 (q k : Int) (w : World) (h0 : 0 ≤ q) :
    Calls Tryd.prog 57 #[.int .i64 12, .int .i64 q, .int .i64 k] w fun e w' => e = .returned (.bool (Pl.fits (12) (q) k)) ∧ w = w' := by
  obtain ⟨b, hb⟩ : ∃ b : Bool, b = Pl.fits (12) (q) k := ⟨_, rfl⟩
  rw [← hb]
  have HB := Lib.hid hb
  clear hb
  obtain ⟨g, hg⟩ : ∃ g, g = Pl.grp k := ⟨_, rfl⟩
  have HG := Lib.hid hg
  clear hg
  go_enter Tryd.func57, Tryd.ntmps57
  go_wp2_with (go_at_call 67; refine (rgroup_is _ _ HG.out.symm _).mono ?_; rintro e w' ⟨rfl, rfl⟩)
  all_goals go_ret
  all_goals refine ⟨ret_bool ?_, rfl⟩
  all_goals rw [HB.out, Bool.eq_iff_iff]
  all_goals (unfold Pl.fits; rw [decide_eq_true_eq]; unfold Pl.FitsP)
  all_goals try rw [← HG.out]
  all_goals try simp only [beq_iff_eq, beq_eq_false_iff_ne, ne_eq] at *
  all_goals first | (simp <;> omega) | omega
set_option maxHeartbeats 1600000 in
set_option maxRecDepth 10000 in
theorem rfits_16 (q k : Int) (w : World) (h0 : 0 ≤ q) :
    Calls Tryd.prog 57 #[.int .i64 16, .int .i64 q, .int .i64 k] w fun e w' => e = .returned (.bool (Pl.fits (16) (q) k)) ∧ w = w' := by
  obtain ⟨b, hb⟩ : ∃ b : Bool, b = Pl.fits (16) (q) k := ⟨_, rfl⟩
  rw [← hb]
  have HB := Lib.hid hb
  clear hb
  obtain ⟨g, hg⟩ : ∃ g, g = Pl.grp k := ⟨_, rfl⟩
  have HG := Lib.hid hg
  clear hg
  go_enter Tryd.func57, Tryd.ntmps57
  go_wp2_with (go_at_call 67; refine (rgroup_is _ _ HG.out.symm _).mono ?_; rintro e w' ⟨rfl, rfl⟩)
  all_goals go_ret
  all_goals refine ⟨ret_bool ?_, rfl⟩
  all_goals rw [HB.out, Bool.eq_iff_iff]
  all_goals (unfold Pl.fits; rw [decide_eq_true_eq]; unfold Pl.FitsP)
  all_goals try rw [← HG.out]
  all_goals try simp only [beq_iff_eq, beq_eq_false_iff_ne, ne_eq] at *
  all_goals first | (simp <;> omega) | omega
set_option maxHeartbeats 1600000 in
set_option maxRecDepth 10000 in
theorem rfits_25 (q k : Int) (w : World) (h0 : 0 ≤ q) :
    Calls Tryd.prog 57 #[.int .i64 25, .int .i64 q, .int .i64 k] w fun e w' => e = .returned (.bool (Pl.fits (25) (q) k)) ∧ w = w' := by
  obtain ⟨b, hb⟩ : ∃ b : Bool, b = Pl.fits (25) (q) k := ⟨_, rfl⟩
  rw [← hb]
  have HB := Lib.hid hb
  clear hb
  obtain ⟨g, hg⟩ : ∃ g, g = Pl.grp k := ⟨_, rfl⟩
  have HG := Lib.hid hg
  clear hg
  go_enter Tryd.func57, Tryd.ntmps57
  go_wp2_with (go_at_call 67; refine (rgroup_is _ _ HG.out.symm _).mono ?_; rintro e w' ⟨rfl, rfl⟩)
  all_goals go_ret
  all_goals refine ⟨ret_bool ?_, rfl⟩
  all_goals rw [HB.out, Bool.eq_iff_iff]
  all_goals (unfold Pl.fits; rw [decide_eq_true_eq]; unfold Pl.FitsP)
  all_goals try rw [← HG.out]
  all_goals try simp only [beq_iff_eq, beq_eq_false_iff_ne, ne_eq] at *
  all_goals first | (simp <;> omega) | omega
set_option maxHeartbeats 1600000 in
set_option maxRecDepth 10000 in
theorem rfits_26 (q k : Int) (w : World) (h0 : 0 ≤ q) :
    Calls Tryd.prog 57 #[.int .i64 26, .int .i64 q, .int .i64 k] w fun e w' => e = .returned (.bool (Pl.fits (26) (q) k)) ∧ w = w' := by
  obtain ⟨b, hb⟩ : ∃ b : Bool, b = Pl.fits (26) (q) k := ⟨_, rfl⟩
  rw [← hb]
  have HB := Lib.hid hb
  clear hb
  obtain ⟨g, hg⟩ : ∃ g, g = Pl.grp k := ⟨_, rfl⟩
  have HG := Lib.hid hg
  clear hg
  go_enter Tryd.func57, Tryd.ntmps57
  go_wp2_with (go_at_call 67; refine (rgroup_is _ _ HG.out.symm _).mono ?_; rintro e w' ⟨rfl, rfl⟩)
  all_goals go_ret
  all_goals refine ⟨ret_bool ?_, rfl⟩
  all_goals rw [HB.out, Bool.eq_iff_iff]
  all_goals (unfold Pl.fits; rw [decide_eq_true_eq]; unfold Pl.FitsP)
  all_goals try rw [← HG.out]
  all_goals try simp only [beq_iff_eq, beq_eq_false_iff_ne, ne_eq] at *
  all_goals first | (simp <;> omega) | omega
set_option maxHeartbeats 1600000 in
set_option maxRecDepth 10000 in
theorem rfits_no (p q k : Int) (w : World) (h0 : 0 ≤ q) (n1 : (p == 1) = false) (n2 : (p == 2) = false) (n3 : (p == 3) = false) (n4 : (p == 4) = false) (n6 : (p == 6) = false) (n7 : (p == 7) = false) (n13 : (p == 13) = false) (n14 : (p == 14) = false) (n15 : (p == 15) = false) (n20 : (p == 20) = false) (n21 : (p == 21) = false) (n24 : (p == 24) = false) (n9 : (p == 9) = false) (n10 : (p == 10) = false) (n11 : (p == 11) = false) (n12 : (p == 12) = false) (n16 : (p == 16) = false) (n25 : (p == 25) = false) (n26 : (p == 26) = false) :
    Calls Tryd.prog 57 #[.int .i64 p, .int .i64 q, .int .i64 k] w fun e w' => e = .returned (.bool (Pl.fits (p) (q) k)) ∧ w = w' := by
  obtain ⟨b, hb⟩ : ∃ b : Bool, b = Pl.fits (p) (q) k := ⟨_, rfl⟩
  rw [← hb]
  have HB := Lib.hid hb
  clear hb
  obtain ⟨g, hg⟩ : ∃ g, g = Pl.grp k := ⟨_, rfl⟩
  have HG := Lib.hid hg
  clear hg
  go_enter Tryd.func57, Tryd.ntmps57
  go_wp2_with (go_at_call 67; refine (rgroup_is _ _ HG.out.symm _).mono ?_; rintro e w' ⟨rfl, rfl⟩)
  all_goals go_ret
  all_goals refine ⟨ret_bool ?_, rfl⟩
  all_goals rw [HB.out, Bool.eq_iff_iff]
  all_goals (unfold Pl.fits; rw [decide_eq_true_eq]; unfold Pl.FitsP)
  all_goals try rw [← HG.out]
  all_goals try simp only [beq_iff_eq, beq_eq_false_iff_ne, ne_eq] at *
  all_goals first | (simp <;> omega) | omega
theorem rfits_any (p q k : Int) (w : World) :
    Calls Tryd.prog 57 #[.int .i64 p, .int .i64 q, .int .i64 k] w fun e w' => e = .returned (.bool (Pl.fits p q k)) ∧ w = w' := by
  by_cases h0 : 0 ≤ q
  case neg => exact rfits_neg p q k w (by omega)
  by_cases e1 : p = 1
  · subst e1; exact rfits_1 q k w h0
  have n1 : (p == 1) = false := by simpa using e1
  by_cases e2 : p = 2
  · subst e2; exact rfits_2 q k w h0
  have n2 : (p == 2) = false := by simpa using e2
  by_cases e3 : p = 3
  · subst e3; exact rfits_3 q k w h0
  have n3 : (p == 3) = false := by simpa using e3
  by_cases e4 : p = 4
  · subst e4; exact rfits_4 q k w h0
  have n4 : (p == 4) = false := by simpa using e4
  by_cases e6 : p = 6
  · subst e6; exact rfits_6 q k w h0
  have n6 : (p == 6) = false := by simpa using e6
  by_cases e7 : p = 7
  · subst e7; exact rfits_7 q k w h0
  have n7 : (p == 7) = false := by simpa using e7
  by_cases e13 : p = 13
  · subst e13; exact rfits_13 q k w h0
  have n13 : (p == 13) = false := by simpa using e13
  by_cases e14 : p = 14
  · subst e14; exact rfits_14 q k w h0
  have n14 : (p == 14) = false := by simpa using e14
  by_cases e15 : p = 15
  · subst e15; exact rfits_15 q k w h0
  have n15 : (p == 15) = false := by simpa using e15
  by_cases e20 : p = 20
  · subst e20; exact rfits_20 q k w h0
  have n20 : (p == 20) = false := by simpa using e20
  by_cases e21 : p = 21
  · subst e21; exact rfits_21 q k w h0
  have n21 : (p == 21) = false := by simpa using e21
  by_cases e24 : p = 24
  · subst e24; exact rfits_24 q k w h0
  have n24 : (p == 24) = false := by simpa using e24
  by_cases e9 : p = 9
  · subst e9; exact rfits_9 q k w h0
  have n9 : (p == 9) = false := by simpa using e9
  by_cases e10 : p = 10
  · subst e10; exact rfits_10 q k w h0
  have n10 : (p == 10) = false := by simpa using e10
  by_cases e11 : p = 11
  · subst e11; exact rfits_11 q k w h0
  have n11 : (p == 11) = false := by simpa using e11
  by_cases e12 : p = 12
  · subst e12; exact rfits_12 q k w h0
  have n12 : (p == 12) = false := by simpa using e12
  by_cases e16 : p = 16
  · subst e16; exact rfits_16 q k w h0
  have n16 : (p == 16) = false := by simpa using e16
  by_cases e25 : p = 25
  · subst e25; exact rfits_25 q k w h0
  have n25 : (p == 25) = false := by simpa using e25
  by_cases e26 : p = 26
  · subst e26; exact rfits_26 q k w h0
  have n26 : (p == 26) = false := by simpa using e26
  exact rfits_no p q k w h0 n1 n2 n3 n4 n6 n7 n13 n14 n15 n20 n21 n24 n9 n10 n11 n12 n16 n25 n26
theorem rfits_is (p q k : Int) (b : Bool) (h : Pl.fits p q k = b) (w : World) :
    Calls Tryd.prog 57 #[.int .i64 p, .int .i64 q, .int .i64 k] w fun e w' => e = .returned (.bool b) ∧ w = w' := h ▸ rfits_any p q k w
end Go.Proofs.YtpaleolcfhnenaaDoor
