/- The five tables, and a world for the witness. -/
import Derived.Test.YtpaleolcfhnenaaDoorClose
namespace Go.Proofs.YtpaleolcfhnenaaDoor
open Go.ChangeShapes Go.WideShapes Go.ChangeAt Go.RowKit Go.Deep
set_option linter.unusedVariables false
set_option linter.constructorNameAsVariable false
set_option maxRecDepth 100000
set_option linter.unusedSimpArgs false

def cardLaid : List (String × DataW Unit) := [("treemerge/grammar.groups", Rows.laid_treemerge_grammar_groups), ("treemerge/grammar.owns", Rows.laid_treemerge_grammar_owns), ("treemerge/grammar.least", Rows.laid_treemerge_grammar_least), ("treemerge/grammar.partsOfFunc", Rows.laid_treemerge_grammar_partsOfFunc), ("treemerge/grammar.texts", Rows.laid_treemerge_grammar_texts)]
theorem tabs_of {W : World} (h : laidMetH Tryd.prog cardLaid W) : Tabs W := by
  have h1 : laidMet Tryd.prog cardLaid W := h
  exact ⟨tab_owns h1.tail, tab_partsOfFunc h1.tail.tail.tail, tab_groups h1, tab_least h1.tail.tail, tab_texts h1.tail.tail.tail.tail⟩

/- ### A world for the witness -/
/-- The cells of a table out of its datum. -/
def flat1 : DataW Unit → List Value
  | .lit (.int k n) => [.int k n]
  | _ => []
def flat2 : DataW Unit → List Value
  | .agg l => l.flatMap flat1
  | _ => []
def cellsLaid (l : List Value) : Obj → Obj
  | .cells _ t frozen => .cells l.toArray t frozen
  | o => o
/-- The settled world, the tables holding what their initialisers lay. -/
noncomputable def laidWorld (os : Os) : World :=
  { World.holding Tryd.prog os ⟨#[], #[], []⟩ with heap := ((((((World.holding Tryd.prog os ⟨#[], #[], []⟩).heap.modify 4 (cellsLaid (flat2 Rows.laid_treemerge_grammar_groups))).modify 0 (cellsLaid (flat2 Rows.laid_treemerge_grammar_owns))).modify 1 (cellsLaid (flat2 Rows.laid_treemerge_grammar_least))).modify 3 (cellsLaid (flat2 Rows.laid_treemerge_grammar_partsOfFunc))).modify 2 (cellsLaid (flat2 Rows.laid_treemerge_grammar_texts))) }

end Go.Proofs.YtpaleolcfhnenaaDoor
