/- What the closing texts share: the five tables out of the listed variables, a world for the witness, how much a law reads. -/
import Derived.Test.YtmfmlkdojgbhfaaDoorFrame
import Derived.Test.YtmfmlkdojgbhfaaDoorCards
import Derived.Test.YtmfmlkdojgbhfaaDoorTie
import Derived.Test.YtmfmlkdojgbhfaaDoorOpen
import Derived.Test.YtmfmlkdojgbhfaaDoorWalkKinds
import Derived.Deep.DeepHandedRow
import Derived.Lib.LaidTab
import Derived.Stop.LaidErr
import Derived.Clock
namespace Go.Proofs.YtmfmlkdojgbhfaaDoor
open Go.ChangeShapes Go.WideShapes Go.ChangeAt Go.RowKit Go.Deep
set_option linter.unusedVariables false
set_option linter.unusedSimpArgs false

def cardLaid : List (String × DataW Unit) := [("treemerge/grammar.groups", Rows.laid_treemerge_grammar_groups), ("treemerge/grammar.owns", Rows.laid_treemerge_grammar_owns), ("treemerge/grammar.least", Rows.laid_treemerge_grammar_least), ("treemerge/grammar.partsOfFunc", Rows.laid_treemerge_grammar_partsOfFunc), ("treemerge/grammar.texts", Rows.laid_treemerge_grammar_texts)]
theorem cellsA27 : Tryd.prog.cellsOf 42 = 27 := by kernel_rfl
theorem cellsA3 : Tryd.prog.cellsOf 44 = 3 := by kernel_rfl
def zs_groups : List Int := [0, 0, 1, 0, 0, 0, 0, 1, 0, 1, 2, 2, 2, 2, 0, 2, 2, 3, 3, 3, 3, 3, 3, 3, 3, 3, 3]
theorem g_groups : Tryd.prog.globalNamed "treemerge/grammar.groups" = some 2 := by kernel_rfl
theorem gt_groups : (Tryd.prog.globals[2]?).map (·.type) = some 42 := by kernel_rfl
theorem z_groups : ∀ m : Nat, m < 27 → zs_groups.getD m 0 = Pl.grp m := by decide +kernel
theorem tab_groups {W : World} {rest : List (String × DataW Unit)} (h : laidMet Tryd.prog (("treemerge/grammar.groups", Rows.laid_treemerge_grammar_groups) :: rest) W) : TabAt W 2 27 Pl.grp := by
  have ht : Lib.TabIs Tryd.prog W "treemerge/grammar.groups" .i64 zs_groups := Lib.tabIs_of_head (rest := rest) g_groups gt_groups Tryd.underlying42 Tryd.underlying3 cellsI cellsA27 h
  intro m hm
  rw [ht.cell g_groups m hm, z_groups m hm]
def zs_owns : List Int := [0, 1, 2, 2, 1, 1, 2, 4, 2, 4, 4, 3, 2, 1, 1, 1, 1, 1, 1, 1, 3, 4, 4, 1, 1, 1, 2]
theorem g_owns : Tryd.prog.globalNamed "treemerge/grammar.owns" = some 0 := by kernel_rfl
theorem gt_owns : (Tryd.prog.globals[0]?).map (·.type) = some 42 := by kernel_rfl
theorem z_owns : ∀ m : Nat, m < 27 → zs_owns.getD m 0 = Pl.ownT m := by decide +kernel
theorem tab_owns {W : World} {rest : List (String × DataW Unit)} (h : laidMet Tryd.prog (("treemerge/grammar.owns", Rows.laid_treemerge_grammar_owns) :: rest) W) : TabAt W 0 27 Pl.ownT := by
  have ht : Lib.TabIs Tryd.prog W "treemerge/grammar.owns" .i64 zs_owns := Lib.tabIs_of_head (rest := rest) g_owns gt_owns Tryd.underlying42 Tryd.underlying3 cellsI cellsA27 h
  intro m hm
  rw [ht.cell g_owns m hm, z_owns m hm]
def zs_least : List Int := [0, 0, 3, 0, 1, 0, 0, 1, 0, 1, 1, 1, 1, 3, 0, 2, 1, 0, 0, 0, 0, 1, 0, 0, 2, 1, 1]
theorem g_least : Tryd.prog.globalNamed "treemerge/grammar.least" = some 3 := by kernel_rfl
theorem gt_least : (Tryd.prog.globals[3]?).map (·.type) = some 42 := by kernel_rfl
theorem z_least : ∀ m : Nat, m < 27 → zs_least.getD m 0 = Pl.least m := by decide +kernel
theorem tab_least {W : World} {rest : List (String × DataW Unit)} (h : laidMet Tryd.prog (("treemerge/grammar.least", Rows.laid_treemerge_grammar_least) :: rest) W) : TabAt W 3 27 Pl.least := by
  have ht : Lib.TabIs Tryd.prog W "treemerge/grammar.least" .i64 zs_least := Lib.tabIs_of_head (rest := rest) g_least gt_least Tryd.underlying42 Tryd.underlying3 cellsI cellsA27 h
  intro m hm
  rw [ht.cell g_least m hm, z_least m hm]
def zs_partsOfFunc : List Int := [3, 5, 6]
theorem g_partsOfFunc : Tryd.prog.globalNamed "treemerge/grammar.partsOfFunc" = some 1 := by kernel_rfl
theorem gt_partsOfFunc : (Tryd.prog.globals[1]?).map (·.type) = some 44 := by kernel_rfl
theorem z_partsOfFunc : ∀ m : Nat, m < 3 → zs_partsOfFunc.getD m 0 = partT m := by decide +kernel
theorem tab_partsOfFunc {W : World} {rest : List (String × DataW Unit)} (h : laidMet Tryd.prog (("treemerge/grammar.partsOfFunc", Rows.laid_treemerge_grammar_partsOfFunc) :: rest) W) : TabAt W 1 3 partT := by
  have ht : Lib.TabIs Tryd.prog W "treemerge/grammar.partsOfFunc" .i64 zs_partsOfFunc := Lib.tabIs_of_head (rest := rest) g_partsOfFunc gt_partsOfFunc Tryd.underlying44 Tryd.underlying3 cellsI cellsA3 h
  intro m hm
  rw [ht.cell g_partsOfFunc m hm, z_partsOfFunc m hm]
def zs_texts : List Int := [0, 0, 1, 0, 1, 1, 0, 1, 2, 1, 1, 1, 0, 0, 0, 0, 0, 3, 4, 1, 1, 1, 1, 4, 4, 4, 0]
theorem g_texts : Tryd.prog.globalNamed "treemerge/grammar.texts" = some 4 := by kernel_rfl
theorem gt_texts : (Tryd.prog.globals[4]?).map (·.type) = some 42 := by kernel_rfl
theorem z_texts : ∀ m : Nat, m < 27 → zs_texts.getD m 0 = Pl.txt m := by decide +kernel
theorem tab_texts {W : World} {rest : List (String × DataW Unit)} (h : laidMet Tryd.prog (("treemerge/grammar.texts", Rows.laid_treemerge_grammar_texts) :: rest) W) : TabAt W 4 27 Pl.txt := by
  have ht : Lib.TabIs Tryd.prog W "treemerge/grammar.texts" .i64 zs_texts := Lib.tabIs_of_head (rest := rest) g_texts gt_texts Tryd.underlying42 Tryd.underlying3 cellsI cellsA27 h
  intro m hm
  rw [ht.cell g_texts m hm, z_texts m hm]
theorem tabs_of {W : World} (h : laidMetH Tryd.prog cardLaid W) : Tabs W := by
  have h1 : laidMet Tryd.prog cardLaid W := h
  exact ⟨tab_owns h1.tail, tab_partsOfFunc h1.tail.tail.tail, tab_groups h1, tab_least h1.tail.tail, tab_texts h1.tail.tail.tail.tail⟩

/- ### A world for the witness -/
/-- The cells of a table out of its datum. -/
def flat1 : DataW Unit → List Value
  | .lit (.int k n) => [.int k n]
  | _ => []
def flat2 : DataW Unit → List Value
  | .agg l => l.flatMap flat1
  | _ => []
def cellsLaid (l : List Value) : Obj → Obj
  | .cells _ t frozen => .cells l.toArray t frozen
  | o => o
/-- The settled world, the tables holding what their initialisers lay. -/
noncomputable def laidWorld (os : Os) : World :=
  { World.holding Tryd.prog os ⟨#[], #[], []⟩ with heap := ((((((World.holding Tryd.prog os ⟨#[], #[], []⟩).heap.modify 2 (cellsLaid (flat2 Rows.laid_treemerge_grammar_groups))).modify 0 (cellsLaid (flat2 Rows.laid_treemerge_grammar_owns))).modify 3 (cellsLaid (flat2 Rows.laid_treemerge_grammar_least))).modify 1 (cellsLaid (flat2 Rows.laid_treemerge_grammar_partsOfFunc))).modify 4 (cellsLaid (flat2 Rows.laid_treemerge_grammar_texts))) }

/- ### What a law reads -/
theorem bound {H : Type} {l : List (DataW H)} (hk : Rows.uptoSmall H l = true) : Rows.uptoBulkAll l ≤ 1048576 := of_decide_eq_true hk
theorem head_bulk {H : Type} (d : DataW H) (l : List (DataW H)) (h : Rows.uptoBulkAll (d :: l) ≤ 1048576) : Rows.uptoBulk d ≤ 1048576 := by
  simp only [Rows.uptoBulkAll] at h; omega
end Go.Proofs.YtmfmlkdojgbhfaaDoor
