/-
  DERIVED. GIVEN WITH THE SEED: THE CARDS: each row of YtmfmlkdojgbhfaaDoorRows.lean that lists a variable, with what it lists TIED to the program's text (the seventh form; the later family's looks); each row that meets fmt, with fmt's text TOLD by the authors' own Lean function (tested against real Go, not proved from fmt's source: count such statements apart). THE CARD IS WHAT COUNTS. Prove the row's statement (the work); the ties are given (YtmfmlkdojgbhfaaDoorTie.lean); close each card by the builder's one call (the guide's Derived/Test/ToyasCard.lean, 'card_holds'). Laid BY PROGRAM, IN A SANDBOX (cutbox-door.mjs). By AI agents, Wed Nov 11 2026. No macro, syntax, notation, axiom, sorry.
-/
import Derived.Test.YtmfmlkdojgbhfaaDoorRows
import GoSem.ClaimSeven
namespace Go.Proofs.YtmfmlkdojgbhfaaDoor
namespace Rows

/-- THE TIED CARD OF 'treemergelaw07.GrammarChecks'. -/
def grammarChecksCard : Claim7 := { stood := { row := grammarChecksRow, standIns := [], harness := (true, "192273ce17334091f4f88182eb69ecfb53a9de5fe9f9b3e6afbc54da602fd747"), looks := false }, kinds := [], alts := [], laidByText := true, laidKinds := [.data, .data, .data, .data, .data], laidTests := true, laidLooks := .later }
def GrammarChecksCardSaid : Prop := Claim7.holds Tryd.pinned (.plain (OpenSpec.ofChange grammarChecksSpec)) grammarChecksCard

/-- THE TIED CARD OF 'treemergelaw07.GrammarNodes'. -/
def grammarNodesCard : Claim7 := { stood := { row := grammarNodesRow, standIns := [], harness := (true, "192273ce17334091f4f88182eb69ecfb53a9de5fe9f9b3e6afbc54da602fd747"), looks := false }, kinds := [], alts := [], laidByText := true, laidKinds := [.data, .data, .data, .data, .data], laidTests := true, laidLooks := .later }
def GrammarNodesCardSaid : Prop := Claim7.holds Tryd.pinned (.plain (OpenSpec.ofChange grammarNodesSpec)) grammarNodesCard

/-- THE TIED CARD OF 'treemergelaw07.GrammarKinds'. -/
def grammarKindsCard : Claim7 := { stood := { row := grammarKindsRow, standIns := [], harness := (true, "192273ce17334091f4f88182eb69ecfb53a9de5fe9f9b3e6afbc54da602fd747"), looks := false }, kinds := [], alts := [], laidByText := true, laidKinds := [.data, .data, .data, .data, .data], laidTests := true, laidLooks := .later }
def GrammarKindsCardSaid : Prop := Claim7.holds Tryd.pinned (.plain (OpenSpec.ofChange grammarKindsSpec)) grammarKindsCard

/-- THE TIED CARD OF 'treemergelaw07.GrammarParts'. -/
def grammarPartsCard : Claim7 := { stood := { row := grammarPartsRow, standIns := [], harness := (true, "192273ce17334091f4f88182eb69ecfb53a9de5fe9f9b3e6afbc54da602fd747"), looks := false }, kinds := [], alts := [], laidByText := true, laidKinds := [.data, .data, .data, .data, .data], laidTests := true, laidLooks := .later }
def GrammarPartsCardSaid : Prop := Claim7.holds Tryd.pinned (.plain (OpenSpec.ofChange grammarPartsSpec)) grammarPartsCard

/-- THE TIED CARD OF 'treemergelaw07.GrammarBares'. -/
def grammarBaresCard : Claim7 := { stood := { row := grammarBaresRow, standIns := [], harness := (true, "192273ce17334091f4f88182eb69ecfb53a9de5fe9f9b3e6afbc54da602fd747"), looks := false }, kinds := [], alts := [], laidByText := true, laidKinds := [.data, .data, .data, .data, .data], laidTests := true, laidLooks := .later }
def GrammarBaresCardSaid : Prop := Claim7.holds Tryd.pinned (.plain (OpenSpec.ofChange grammarBaresSpec)) grammarBaresCard

/-- THE TIED CARD OF 'treemergelaw07.GrammarParens'. -/
def grammarParensCard : Claim7 := { stood := { row := grammarParensRow, standIns := [], harness := (true, "192273ce17334091f4f88182eb69ecfb53a9de5fe9f9b3e6afbc54da602fd747"), looks := false }, kinds := [], alts := [], laidByText := true, laidKinds := [.data, .data, .data, .data, .data], laidTests := true, laidLooks := .later }
def GrammarParensCardSaid : Prop := Claim7.holds Tryd.pinned (.plain (OpenSpec.ofChange grammarParensSpec)) grammarParensCard

/-- THE TIED CARD OF 'treemergelaw07.GrammarOperators'. -/
def grammarOperatorsCard : Claim7 := { stood := { row := grammarOperatorsRow, standIns := [], harness := (true, "192273ce17334091f4f88182eb69ecfb53a9de5fe9f9b3e6afbc54da602fd747"), looks := false }, kinds := [], alts := [], laidByText := true, laidKinds := [.data, .data, .data, .data, .data], laidTests := true, laidLooks := .later }
def GrammarOperatorsCardSaid : Prop := Claim7.holds Tryd.pinned (.plain (OpenSpec.ofChange grammarOperatorsSpec)) grammarOperatorsCard

/-- THE SECOND FORM's CARD OF 'treemergelaw07.GrammarChecks'. -/
def grammarChecksUptoCard : Claim7 := { stood := { row := grammarChecksUptoRow, standIns := [], harness := (true, "192273ce17334091f4f88182eb69ecfb53a9de5fe9f9b3e6afbc54da602fd747"), looks := false }, kinds := [], alts := [], laidByText := true, laidKinds := [.data, .data, .data, .data, .data], laidTests := true, laidLooks := .later }
def GrammarChecksUptoCardSaid : Prop := Claim7.holds Tryd.pinned (.plain (OpenSpec.upto grammarChecksSpec)) grammarChecksUptoCard

/-- THE SECOND FORM's CARD OF 'treemergelaw07.GrammarNodes'. -/
def grammarNodesUptoCard : Claim7 := { stood := { row := grammarNodesUptoRow, standIns := [], harness := (true, "192273ce17334091f4f88182eb69ecfb53a9de5fe9f9b3e6afbc54da602fd747"), looks := false }, kinds := [], alts := [], laidByText := true, laidKinds := [.data, .data, .data, .data, .data], laidTests := true, laidLooks := .later }
def GrammarNodesUptoCardSaid : Prop := Claim7.holds Tryd.pinned (.plain (OpenSpec.upto grammarNodesSpec)) grammarNodesUptoCard

/-- THE SECOND FORM's CARD OF 'treemergelaw07.GrammarKinds'. -/
def grammarKindsUptoCard : Claim7 := { stood := { row := grammarKindsUptoRow, standIns := [], harness := (true, "192273ce17334091f4f88182eb69ecfb53a9de5fe9f9b3e6afbc54da602fd747"), looks := false }, kinds := [], alts := [], laidByText := true, laidKinds := [.data, .data, .data, .data, .data], laidTests := true, laidLooks := .later }
def GrammarKindsUptoCardSaid : Prop := Claim7.holds Tryd.pinned (.plain (OpenSpec.upto grammarKindsSpec)) grammarKindsUptoCard

/-- THE SECOND FORM's CARD OF 'treemergelaw07.GrammarParts'. -/
def grammarPartsUptoCard : Claim7 := { stood := { row := grammarPartsUptoRow, standIns := [], harness := (true, "192273ce17334091f4f88182eb69ecfb53a9de5fe9f9b3e6afbc54da602fd747"), looks := false }, kinds := [], alts := [], laidByText := true, laidKinds := [.data, .data, .data, .data, .data], laidTests := true, laidLooks := .later }
def GrammarPartsUptoCardSaid : Prop := Claim7.holds Tryd.pinned (.plain (OpenSpec.upto grammarPartsSpec)) grammarPartsUptoCard

/-- THE SECOND FORM's CARD OF 'treemergelaw07.GrammarBares'. -/
def grammarBaresUptoCard : Claim7 := { stood := { row := grammarBaresUptoRow, standIns := [], harness := (true, "192273ce17334091f4f88182eb69ecfb53a9de5fe9f9b3e6afbc54da602fd747"), looks := false }, kinds := [], alts := [], laidByText := true, laidKinds := [.data, .data, .data, .data, .data], laidTests := true, laidLooks := .later }
def GrammarBaresUptoCardSaid : Prop := Claim7.holds Tryd.pinned (.plain (OpenSpec.upto grammarBaresSpec)) grammarBaresUptoCard

/-- THE SECOND FORM's CARD OF 'treemergelaw07.GrammarParens'. -/
def grammarParensUptoCard : Claim7 := { stood := { row := grammarParensUptoRow, standIns := [], harness := (true, "192273ce17334091f4f88182eb69ecfb53a9de5fe9f9b3e6afbc54da602fd747"), looks := false }, kinds := [], alts := [], laidByText := true, laidKinds := [.data, .data, .data, .data, .data], laidTests := true, laidLooks := .later }
def GrammarParensUptoCardSaid : Prop := Claim7.holds Tryd.pinned (.plain (OpenSpec.upto grammarParensSpec)) grammarParensUptoCard

/-- THE SECOND FORM's CARD OF 'treemergelaw07.GrammarOperators'. -/
def grammarOperatorsUptoCard : Claim7 := { stood := { row := grammarOperatorsUptoRow, standIns := [], harness := (true, "192273ce17334091f4f88182eb69ecfb53a9de5fe9f9b3e6afbc54da602fd747"), looks := false }, kinds := [], alts := [], laidByText := true, laidKinds := [.data, .data, .data, .data, .data], laidTests := true, laidLooks := .later }
def GrammarOperatorsUptoCardSaid : Prop := Claim7.holds Tryd.pinned (.plain (OpenSpec.upto grammarOperatorsSpec)) grammarOperatorsUptoCard
end Rows
end Go.Proofs.YtmfmlkdojgbhfaaDoor
