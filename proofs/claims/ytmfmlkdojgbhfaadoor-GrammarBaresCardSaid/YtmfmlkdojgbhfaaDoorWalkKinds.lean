/- The tables; the walks of the functions on kinds alone. -/
import Derived.Test.YtmfmlkdojgbhfaaDoorMem
import Derived.Test.YtmfmlkdojgbhfaaDoorPlainG
import Derived.Laws.Rows
namespace Go.Proofs.YtmfmlkdojgbhfaaDoor
open Go.RowKit
set_option linter.unusedVariables false
set_option linter.unusedSimpArgs false

/-- The program's five tables lie in their blocks. -/
def TabAt (w : World) (b n : Nat) (f : Int → Int) : Prop := ∀ m : Nat, m < n → w.cell? ⟨b, m, none⟩ = some (.int .i64 (f m))
def partT (m : Int) : Int := if m = 0 then 3 else if m = 1 then 5 else 6
def Tabs (w : World) : Prop := TabAt w 0 27 Pl.ownT ∧ TabAt w 1 3 partT ∧ TabAt w 2 27 Pl.grp ∧ TabAt w 3 27 Pl.least ∧ TabAt w 4 27 Pl.txt
theorem TabAt.later {w w' : World} {b n : Nat} {f : Int → Int} (h : TabAt w b n f) (hb : Below w.heap.size w w') : TabAt w' b n f := fun m hm => by
  have := h m hm
  rw [← this]
  exact hb.cell (p := ⟨b, m, none⟩) (World.block_lt_of_cell? w _ this)
theorem Tabs.later {w w' : World} (h : Tabs w) (hb : Below w.heap.size w w') : Tabs w' :=
  ⟨h.1.later hb, h.2.1.later hb, h.2.2.1.later hb, h.2.2.2.1.later hb, h.2.2.2.2.later hb⟩
theorem nat_of {k : Int} {n : Nat} (h0 : 0 ≤ k) (h1 : k < n) : ∃ m : Nat, k = m ∧ m < n := ⟨k.toNat, by omega, by omega⟩

theorem known_any (k : Int) (w : World) :
    Calls Tryd.prog 33 #[.int .i64 k] w fun e w' => e = .returned (.bool (decide (1 ≤ k ∧ k ≤ 26))) ∧ w = w' := by
  go_enter Tryd.func33, Tryd.ntmps33
  go_wp2
  all_goals go_ret
  all_goals refine ⟨ret_bool ?_, rfl⟩
  all_goals rw [Bool.eq_iff_iff]
  all_goals try simp only [beq_iff_eq, beq_eq_false_iff_ne, ne_eq] at *
  all_goals first | (simp <;> omega) | omega
theorem known_is (k : Int) (b : Bool) (h : decide (1 ≤ k ∧ k ≤ 26) = b) (w : World) :
    Calls Tryd.prog 33 #[.int .i64 k] w fun e w' => e = .returned (.bool b) ∧ w = w' := h ▸ known_any k w
theorem group_any (k : Int) (w : World) (hT : Tabs w) :
    Calls Tryd.prog 21 #[.int .i64 k] w fun e w' => e = .returned (.int .i64 (Pl.grp k)) ∧ w = w' := by
  by_cases hk : 1 ≤ k ∧ k ≤ 26
  · obtain ⟨m, rfl, hm⟩ := nat_of (k := k) (n := 27) (by omega) (by omega)
    have hc := hT.2.2.1 m hm
    have HK : Hid (decide (1 ≤ (m : Int) ∧ (m : Int) ≤ 26) = true) := Lib.hid (decide_eq_true hk)
    generalize Pl.grp m = g at *
    clear hk hT
    go_enter Tryd.func21, Tryd.ntmps21
    go_wp2_with (go_at_call 33; refine (known_is _ _ HK.out _).mono ?_; rintro e w' ⟨rfl, rfl⟩)
    go_ret
    exact ⟨rfl, rfl⟩
  · have HK : Hid (decide (1 ≤ k ∧ k ≤ 26) = false) := Lib.hid (decide_eq_false hk)
    rw [show Pl.grp k = 0 by unfold Pl.grp; omega]
    go_enter Tryd.func21, Tryd.ntmps21
    go_wp2_with (go_at_call 33; refine (known_is _ _ HK.out _).mono ?_; rintro e w' ⟨rfl, rfl⟩)
    go_ret
    exact ⟨rfl, rfl⟩
theorem rgroup_any (k : Int) (w : World) :
    Calls Tryd.prog 22 #[.int .i64 k] w fun e w' => e = .returned (.int .i64 (Pl.grp k)) ∧ w = w' := by
  obtain ⟨g, hg⟩ : ∃ g, g = Pl.grp k := ⟨_, rfl⟩
  rw [← hg]
  have HG := Lib.hid hg
  clear hg
  go_enter Tryd.func22, Tryd.ntmps22
  go_wp2
  all_goals go_ret
  all_goals refine ⟨ret_int ?_, rfl⟩
  all_goals rw [HG.out]
  all_goals unfold Pl.grp
  all_goals try simp only [beq_iff_eq, beq_eq_false_iff_ne, ne_eq] at *
  all_goals omega
theorem free_any (k : Int) (w : World) :
    Calls Tryd.prog 19 #[.int .i64 k] w fun e w' => e = .returned (.bool (decide (k = 1 ∨ k = 7))) ∧ w = w' := by
  go_enter Tryd.func19, Tryd.ntmps19
  go_wp2
  all_goals go_ret
  all_goals refine ⟨ret_bool ?_, rfl⟩
  all_goals rw [Bool.eq_iff_iff]
  all_goals try simp only [beq_iff_eq, beq_eq_false_iff_ne, ne_eq] at *
  all_goals first | (simp <;> omega) | omega
theorem rfree_any (k : Int) (w : World) :
    Calls Tryd.prog 20 #[.int .i64 k] w fun e w' => e = .returned (.bool (decide (k = 1 ∨ k = 7))) ∧ w = w' := by
  go_enter Tryd.func20, Tryd.ntmps20
  go_wp2
  all_goals go_ret
  all_goals refine ⟨ret_bool ?_, rfl⟩
  all_goals rw [Bool.eq_iff_iff]
  all_goals try simp only [beq_iff_eq, beq_eq_false_iff_ne, ne_eq] at *
  all_goals first | (simp <;> omega) | omega
theorem most_any (k : Int) (w : World) :
    Calls Tryd.prog 36 #[.int .i64 k] w fun e w' => e = .returned (.int .i64 (Pl.mostK k)) ∧ w = w' := by
  obtain ⟨g, hg⟩ : ∃ g, g = Pl.mostK k := ⟨_, rfl⟩
  rw [← hg]
  have HG := Lib.hid hg
  clear hg
  go_enter Tryd.func36, Tryd.ntmps36
  go_wp2
  all_goals go_ret
  all_goals refine ⟨ret_int ?_, rfl⟩
  all_goals rw [HG.out]
  all_goals unfold Pl.mostK
  all_goals try simp only [beq_iff_eq, beq_eq_false_iff_ne, ne_eq] at *
  all_goals omega
theorem rmost_any (k : Int) (w : World) :
    Calls Tryd.prog 39 #[.int .i64 k] w fun e w' => e = .returned (.int .i64 (Pl.mostK k)) ∧ w = w' := by
  obtain ⟨g, hg⟩ : ∃ g, g = Pl.mostK k := ⟨_, rfl⟩
  rw [← hg]
  have HG := Lib.hid hg
  clear hg
  go_enter Tryd.func39, Tryd.ntmps39
  go_wp2
  all_goals go_ret
  all_goals refine ⟨ret_int ?_, rfl⟩
  all_goals rw [HG.out]
  all_goals unfold Pl.mostK
  all_goals try simp only [beq_iff_eq, beq_eq_false_iff_ne, ne_eq] at *
  all_goals omega
theorem rleast_any (k : Int) (w : World) :
    Calls Tryd.prog 57 #[.int .i64 k] w fun e w' => e = .returned (.int .i64 (Pl.least k)) ∧ w = w' := by
  obtain ⟨g, hg⟩ : ∃ g, g = Pl.least k := ⟨_, rfl⟩
  rw [← hg]
  have HG := Lib.hid hg
  clear hg
  go_enter Tryd.func57, Tryd.ntmps57
  go_wp2
  all_goals go_ret
  all_goals refine ⟨ret_int ?_, rfl⟩
  all_goals rw [HG.out]
  all_goals unfold Pl.least
  all_goals try simp only [beq_iff_eq, beq_eq_false_iff_ne, ne_eq] at *
  all_goals omega

theorem group_is (k g : Int) (h : Pl.grp k = g) (w : World) (hT : Tabs w) :
    Calls Tryd.prog 21 #[.int .i64 k] w fun e w' => e = .returned (.int .i64 g) ∧ w = w' := h ▸ group_any k w hT
theorem rgroup_is (k g : Int) (h : Pl.grp k = g) (w : World) :
    Calls Tryd.prog 22 #[.int .i64 k] w fun e w' => e = .returned (.int .i64 g) ∧ w = w' := h ▸ rgroup_any k w
end Go.Proofs.YtmfmlkdojgbhfaaDoor
