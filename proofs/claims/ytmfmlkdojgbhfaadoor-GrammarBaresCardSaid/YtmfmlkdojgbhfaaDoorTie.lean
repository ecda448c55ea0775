/-
  DERIVED. GIVEN WITH THE SEED: THE PROGRAM's TIES (one call each: nine closed facts by the kernel) AND EACH ROW's TIE, after the 31st guide's Derived/Test/Toyas{Tie, Card}.lean. No idea stands in it: it is a product of the set-up. Laid BY PROGRAM, IN A SANDBOX (cutbox-door.mjs). By AI agents, Wed Nov 11 2026. No macro, syntax, notation, axiom, sorry.
-/
import Derived.Test.YtmfmlkdojgbhfaaDoorRows
import Derived.LaidByTextLater
import Derived.SevenTiedAt
import Derived.LaidSub
import Derived.LaidOnce
namespace Go.Proofs.YtmfmlkdojgbhfaaDoor
open Go
set_option maxRecDepth 100000
theorem seatTie1 : Tryd.prog.laidByTextLater [("treemerge/grammar.groups", Rows.laid_treemerge_grammar_groups), ("treemerge/grammar.owns", Rows.laid_treemerge_grammar_owns), ("treemerge/grammar.least", Rows.laid_treemerge_grammar_least), ("treemerge/grammar.partsOfFunc", Rows.laid_treemerge_grammar_partsOfFunc), ("treemerge/grammar.texts", Rows.laid_treemerge_grammar_texts)] [.data, .data, .data, .data, .data] true :=
  Program.laidByTextLater_by_one 34 8 28 (by kernel_rfl) (by kernel_rfl) (by kernel_rfl) (by kernel_rfl) (by kernel_rfl) (by kernel_rfl) (fun _ _ => by kernel_rfl)
theorem noOwnUnsafe : Tryd.pinned.checked.prog.headLifts.contains "ownunsafe" = false := by kernel_rfl
theorem tie : Tryd.prog.laidByTextLater [("treemerge/grammar.groups", Rows.laid_treemerge_grammar_groups), ("treemerge/grammar.owns", Rows.laid_treemerge_grammar_owns), ("treemerge/grammar.least", Rows.laid_treemerge_grammar_least), ("treemerge/grammar.partsOfFunc", Rows.laid_treemerge_grammar_partsOfFunc), ("treemerge/grammar.texts", Rows.laid_treemerge_grammar_texts)] [.data, .data, .data, .data, .data] true :=
  Program.laidByTextLater.sub seatTie1 ["treemerge/grammar.groups", "treemerge/grammar.owns", "treemerge/grammar.least", "treemerge/grammar.partsOfFunc", "treemerge/grammar.texts"] (by kernel_rfl) (by kernel_rfl)
theorem grammarChecks_row_tie : Rows.grammarChecksRow.laidByTextAt .later Tryd.pinned [.data, .data, .data, .data, .data] true :=
  OpenClaim.laidByTextAt_later rfl rfl tie noOwnUnsafe
theorem grammarNodes_row_tie : Rows.grammarNodesRow.laidByTextAt .later Tryd.pinned [.data, .data, .data, .data, .data] true :=
  OpenClaim.laidByTextAt_later rfl rfl tie noOwnUnsafe
theorem grammarKinds_row_tie : Rows.grammarKindsRow.laidByTextAt .later Tryd.pinned [.data, .data, .data, .data, .data] true :=
  OpenClaim.laidByTextAt_later rfl rfl tie noOwnUnsafe
theorem grammarParts_row_tie : Rows.grammarPartsRow.laidByTextAt .later Tryd.pinned [.data, .data, .data, .data, .data] true :=
  OpenClaim.laidByTextAt_later rfl rfl tie noOwnUnsafe
theorem grammarBares_row_tie : Rows.grammarBaresRow.laidByTextAt .later Tryd.pinned [.data, .data, .data, .data, .data] true :=
  OpenClaim.laidByTextAt_later rfl rfl tie noOwnUnsafe
theorem grammarParens_row_tie : Rows.grammarParensRow.laidByTextAt .later Tryd.pinned [.data, .data, .data, .data, .data] true :=
  OpenClaim.laidByTextAt_later rfl rfl tie noOwnUnsafe
theorem grammarOperators_row_tie : Rows.grammarOperatorsRow.laidByTextAt .later Tryd.pinned [.data, .data, .data, .data, .data] true :=
  OpenClaim.laidByTextAt_later rfl rfl tie noOwnUnsafe
theorem grammarChecksUpto_row_tie : Rows.grammarChecksUptoRow.laidByTextAt .later Tryd.pinned [.data, .data, .data, .data, .data] true :=
  OpenClaim.laidByTextAt_later rfl rfl tie noOwnUnsafe
theorem grammarNodesUpto_row_tie : Rows.grammarNodesUptoRow.laidByTextAt .later Tryd.pinned [.data, .data, .data, .data, .data] true :=
  OpenClaim.laidByTextAt_later rfl rfl tie noOwnUnsafe
theorem grammarKindsUpto_row_tie : Rows.grammarKindsUptoRow.laidByTextAt .later Tryd.pinned [.data, .data, .data, .data, .data] true :=
  OpenClaim.laidByTextAt_later rfl rfl tie noOwnUnsafe
theorem grammarPartsUpto_row_tie : Rows.grammarPartsUptoRow.laidByTextAt .later Tryd.pinned [.data, .data, .data, .data, .data] true :=
  OpenClaim.laidByTextAt_later rfl rfl tie noOwnUnsafe
theorem grammarBaresUpto_row_tie : Rows.grammarBaresUptoRow.laidByTextAt .later Tryd.pinned [.data, .data, .data, .data, .data] true :=
  OpenClaim.laidByTextAt_later rfl rfl tie noOwnUnsafe
theorem grammarParensUpto_row_tie : Rows.grammarParensUptoRow.laidByTextAt .later Tryd.pinned [.data, .data, .data, .data, .data] true :=
  OpenClaim.laidByTextAt_later rfl rfl tie noOwnUnsafe
theorem grammarOperatorsUpto_row_tie : Rows.grammarOperatorsUptoRow.laidByTextAt .later Tryd.pinned [.data, .data, .data, .data, .data] true :=
  OpenClaim.laidByTextAt_later rfl rfl tie noOwnUnsafe
end Go.Proofs.YtmfmlkdojgbhfaaDoor
