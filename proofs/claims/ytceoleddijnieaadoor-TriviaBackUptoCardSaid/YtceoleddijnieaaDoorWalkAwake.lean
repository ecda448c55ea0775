/- The walk of the law's examples. -/
import Derived.Test.YtceoleddijnieaaDoorWalkComs
import Derived.Test.YtceoleddijnieaaDoorWalkInd
import Derived.Test.YtceoleddijnieaaDoorWalkShift
namespace Go.Proofs.YtceoleddijnieaaDoor
open Go.RowKit
set_option linter.unusedVariables false
set_option linter.unusedSimpArgs false

theorem eo_x : Pl.eo [32, 47, 47, 32, 120, 10] = 6 := by
  rw [Pl.eo_go _ (by decide)]
  show 1 + Pl.eo [47, 47, 32, 120, 10] = 6
  rw [Pl.eo_go _ (by decide)]
  show 1 + (5 + Pl.eo []) = 6
  rw [Pl.eo_stop [] rfl]
theorem eo_ab : Pl.eo [32, 47, 47, 32, 97, 10, 98] = 6 := by
  rw [Pl.eo_go _ (by decide)]
  show 1 + Pl.eo [47, 47, 32, 97, 10, 98] = 6
  rw [Pl.eo_go _ (by decide)]
  show 1 + (5 + Pl.eo [98]) = 6
  rw [Pl.eo_stop [98] (by decide)]
theorem eo_a : Pl.eo [32, 47, 47, 32, 97] = 1 := by
  rw [Pl.eo_go _ (by decide)]
  show 1 + Pl.eo [47, 47, 32, 97] = 1
  rw [Pl.eo_stop _ (by decide)]
theorem coms_ab : Pl.coms [47, 47, 32, 97, 10, 9, 47, 47, 98, 10] = [[47, 47, 32, 97], [47, 47, 98]] := by
  rw [Pl.coms_go _ (by decide)]
  show [[47, 47, 32, 97]] ++ Pl.coms [9, 47, 47, 98, 10] = _
  rw [Pl.coms_go _ (by decide)]
  show [[47, 47, 32, 97]] ++ ([] ++ Pl.coms [47, 47, 98, 10]) = _
  rw [Pl.coms_go _ (by decide)]
  show [[47, 47, 32, 97]] ++ ([] ++ ([[47, 47, 98]] ++ Pl.coms [])) = _
  rw [Pl.coms_stop [] rfl]; rfl
theorem ti_ab : Pl.ti [10, 10, 9, 9] = 2 := by decide
theorem sh_ab : Pl.sh 1 [10, 9, 47, 47, 32, 97, 10, 9, 9] = [10, 9, 9, 47, 47, 32, 97, 10, 9, 9, 9] := by
  rw [Pl.sh_nl]; unfold Pl.shf
  show 10 :: 9 :: 9 :: Pl.sh 1 [47, 47, 32, 97, 10, 9, 9] = _
  rw [Pl.sh_no _ _ _ (by decide), Pl.sh_no _ _ _ (by decide), Pl.sh_no _ _ _ (by decide), Pl.sh_no _ _ _ (by decide), Pl.sh_nl]; unfold Pl.shf
  show 10 :: 9 :: 9 :: 47 :: 47 :: 32 :: 97 :: 10 :: 9 :: 9 :: 9 :: Pl.sh 1 [] = _
  rw [Pl.sh_nil]

def Two (w : World) (e : Ending) (w' : World) : Prop := ∃ g c, e = .returned (.slice (some ⟨g, 0, none⟩) 2 c) ∧ g < w'.heap.size ∧ w'.cell? ⟨g, 0, none⟩ = some (.string ⟨#[47, 47, 32, 97]⟩) ∧ w'.cell? ⟨g, 1, none⟩ = some (.string ⟨#[47, 47, 98]⟩) ∧ Below w.heap.size w w'
theorem coms_ex (w : World) : Calls Tryd.prog 14 #[.string ⟨#[47, 47, 32, 97, 10, 9, 47, 47, 98, 10]⟩] w (Two w) := by
  refine (coms_any ⟨#[47, 47, 32, 97, 10, 9, 47, 47, 98, 10]⟩ w [[47, 47, 32, 97], [47, 47, 98]] coms_ab.symm (by decide)).mono ?_
  rintro e w' ⟨v, rfl, hr, hb⟩
  rcases hr with ⟨h, _⟩ | ⟨g, c, rfl, h1, h2⟩
  · cases h
  · exact ⟨g, c, rfl, h1, h2 0 _ rfl, h2 1 _ rfl, hb⟩
theorem valid_ex (w : World) : Calls Tryd.prog 9 #[.string ⟨#[32, 47, 47, 32, 120, 10]⟩] w fun e w' => e = .returned (.bool true) ∧ Below w.heap.size w w' :=
  valid_is ⟨#[32, 47, 47, 32, 120, 10]⟩ true (by unfold val; show (Pl.eo [32, 47, 47, 32, 120, 10] == 6) = true; rw [eo_x]; rfl) w (by decide)
theorem end_ex (w : World) : Calls Tryd.prog 11 #[.string ⟨#[32, 47, 47, 32, 97, 10, 98]⟩, .int .i64 0] w fun e w' => e = .returned (.int .i64 6) ∧ Below w.heap.size w w' :=
  (end_in ⟨#[32, 47, 47, 32, 97, 10, 98]⟩ 0 w (by decide) (by decide)).mono fun e w' ⟨he, hb⟩ => ⟨by rw [he]; exact ret_int (by show (((0 + Pl.eo [32, 47, 47, 32, 97, 10, 98] : Nat)) : Int) = 6; rw [eo_ab]; rfl), hb⟩
theorem end_ex2 (w : World) : Calls Tryd.prog 11 #[.string ⟨#[32, 47, 47, 32, 97]⟩, .int .i64 0] w fun e w' => e = .returned (.int .i64 1) ∧ Below w.heap.size w w' :=
  (end_in ⟨#[32, 47, 47, 32, 97]⟩ 0 w (by decide) (by decide)).mono fun e w' ⟨he, hb⟩ => ⟨by rw [he]; exact ret_int (by show (((0 + Pl.eo [32, 47, 47, 32, 97] : Nat)) : Int) = 1; rw [eo_a]; rfl), hb⟩
theorem indent_ex (w : World) : Calls Tryd.prog 16 #[.string ⟨#[10, 10, 9, 9]⟩] w fun e w' => e = .returned (.int .i64 2) ∧ w = w' :=
  (indent_any ⟨#[10, 10, 9, 9]⟩ w (by decide)).mono fun e w' ⟨he, hb⟩ => ⟨by rw [he]; exact ret_int (by show ((Pl.ti [10, 10, 9, 9] : Nat) : Int) = 2; rw [ti_ab]; rfl), hb⟩
theorem shift_ex (w : World) : Calls Tryd.prog 19 #[.string ⟨#[10, 9, 47, 47, 32, 97, 10, 9, 9]⟩, .int .i64 1] w fun e w' => e = .returned (.string ⟨#[10, 9, 9, 47, 47, 32, 97, 10, 9, 9, 9]⟩) ∧ Below w.heap.size w w' :=
  (shift_any ⟨#[10, 9, 47, 47, 32, 97, 10, 9, 9]⟩ 1 1 w (by decide) (by decide)).mono fun e w' ⟨he, hb⟩ => ⟨by rw [he]; exact ret_str (by show Pl.mk (Pl.sh 1 [10, 9, 47, 47, 32, 97, 10, 9, 9]) = _; rw [sh_ab]; rfl), hb⟩

set_option maxHeartbeats 1600000 in
theorem awake_any (w : World) : Calls Tryd.prog 18 #[] w fun e w' => e = .returned (.bool true) ∧ Below w.heap.size w w' := by
  go_enter Tryd.func18, Tryd.ntmps18
  go_wp2_with fail
  refine (coms_ex _).mono ?_
  rintro e w1 ⟨g, c, rfl, hg, c0, c1, hb1⟩
  go_wp2_with fail
  refine (valid_ex _).mono ?_
  rintro e w2 ⟨rfl, hb2⟩
  have hb12 := hb1.trans (hb2.mono hb1.size)
  have d0 := (hb2.cell (p := ⟨g, 0, none⟩) hg).trans c0
  have d1 := (hb2.cell (p := ⟨g, 1, none⟩) hg).trans c1
  have hg2 := Nat.lt_of_lt_of_le hg hb2.size
  clear hb1 hb2 c0 c1 hg
  go_wp2_with fail
  refine (end_ex _).mono ?_
  rintro e w3 ⟨rfl, hb3⟩
  have hb13 := hb12.trans (hb3.mono hb12.size)
  have c0 := (hb3.cell (p := ⟨g, 0, none⟩) hg2).trans d0
  have c1 := (hb3.cell (p := ⟨g, 1, none⟩) hg2).trans d1
  have hg3 := Nat.lt_of_lt_of_le hg2 hb3.size
  clear hb12 hb3 d0 d1 hg2
  go_wp2_with fail
  refine (end_ex2 _).mono ?_
  rintro e w4 ⟨rfl, hb4⟩
  have hb14 := hb13.trans (hb4.mono hb13.size)
  have d0 := (hb4.cell (p := ⟨g, 0, none⟩) hg3).trans c0
  have d1 := (hb4.cell (p := ⟨g, 1, none⟩) hg3).trans c1
  clear hb13 hb4 c0 c1 hg3
  go_wp2_with fail
  refine (indent_ex _).mono ?_
  rintro e w' ⟨rfl, rfl⟩
  go_wp2_with fail
  refine (shift_ex _).mono ?_
  rintro e w5 ⟨rfl, hb5⟩
  have hb15 := hb14.trans (hb5.mono hb14.size)
  clear hb14 hb5
  go_wp2_with fail
  go_ret
  exact ⟨rfl, hb15⟩
end Go.Proofs.YtceoleddijnieaaDoor
