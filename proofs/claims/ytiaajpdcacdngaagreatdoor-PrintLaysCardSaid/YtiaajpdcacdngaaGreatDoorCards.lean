/-
  DERIVED. GIVEN WITH THE SEED: THE CARDS: each row of YtiaajpdcacdngaaGreatDoorRows.lean that lists a variable, with what it lists TIED to the program's text (the seventh form; the later family's looks); each row that meets fmt, with fmt's text TOLD by the authors' own Lean function (tested against real Go, not proved from fmt's source: count such statements apart). THE CARD IS WHAT COUNTS. Prove the row's statement (the work); the ties are given (YtiaajpdcacdngaaGreatDoorTie.lean); close each card by the builder's one call (the guide's Derived/Test/ToyasCard.lean, 'card_holds'). Laid BY PROGRAM, IN A SANDBOX (cutbox-door.mjs). By AI agents, Wed Nov 11 2026. No macro, syntax, notation, axiom, sorry.
-/
import Derived.Test.YtiaajpdcacdngaaGreatDoorRows
import GoSem.ClaimSeven
namespace Go.Proofs.YtiaajpdcacdngaaGreatDoor
namespace Rows

/-- THE TIED CARD OF 'treemergelaw08.PrintWords'. -/
def printWordsCard : Claim7 := { stood := { row := printWordsRow, standIns := [], harness := (true, "620c93b66ccc3f973e89832df3e8b053081dc39f2ec8a609265d6c16eac7684a"), looks := true }, kinds := [], alts := [], laidByText := true, laidKinds := [.data, .data, .data, .data, .data], laidTests := true, laidLooks := .later }
def PrintWordsCardSaid : Prop := Claim7.holds Tryz.pinned (.plain (OpenSpec.ofChange printWordsSpec)) printWordsCard

/-- THE TIED CARD OF 'treemergelaw08.PrintTexts'. -/
def printTextsCard : Claim7 := { stood := { row := printTextsRow, standIns := [], harness := (true, "620c93b66ccc3f973e89832df3e8b053081dc39f2ec8a609265d6c16eac7684a"), looks := true }, kinds := [], alts := [], laidByText := true, laidKinds := [.data, .data, .data, .data, .data], laidTests := true, laidLooks := .later }
def PrintTextsCardSaid : Prop := Claim7.holds Tryz.pinned (.plain (OpenSpec.ofChange printTextsSpec)) printTextsCard

/-- THE TIED CARD OF 'treemergelaw08.PrintLays'. -/
def printLaysCard : Claim7 := { stood := { row := printLaysRow, standIns := [], harness := (true, "620c93b66ccc3f973e89832df3e8b053081dc39f2ec8a609265d6c16eac7684a"), looks := true }, kinds := [], alts := [], laidByText := true, laidKinds := [.data, .data, .data, .data, .data], laidTests := true, laidLooks := .later }
def PrintLaysCardSaid : Prop := Claim7.holds Tryz.pinned (.plain (OpenSpec.ofChange printLaysSpec)) printLaysCard

/-- THE TIED CARD OF 'treemergelaw08.PrintLayout'. -/
def printLayoutCard : Claim7 := { stood := { row := printLayoutRow, standIns := [], harness := (true, "620c93b66ccc3f973e89832df3e8b053081dc39f2ec8a609265d6c16eac7684a"), looks := true }, kinds := [], alts := [], laidByText := true, laidKinds := [.data, .data, .data, .data, .data], laidTests := true, laidLooks := .later }
def PrintLayoutCardSaid : Prop := Claim7.holds Tryz.pinned (.plain (OpenSpec.ofChange printLayoutSpec)) printLayoutCard

/-- THE TIED CARD OF 'treemergelaw08.PrintTokens'. -/
def printTokensCard : Claim7 := { stood := { row := printTokensRow, standIns := [], harness := (true, "620c93b66ccc3f973e89832df3e8b053081dc39f2ec8a609265d6c16eac7684a"), looks := true }, kinds := [], alts := [], laidByText := true, laidKinds := [.data, .data, .data, .sentinel, .sentinel, .data, .data, .data, .data, .data], laidTests := true, laidLooks := .later }
def PrintTokensCardSaid : Prop := Claim7.holds Tryz.pinned (.plain (OpenSpec.ofChange printTokensSpec)) printTokensCard

/-- THE TIED CARD OF 'treemergelaw08.PrintNumbers'. -/
def printNumbersCard : Claim7 := { stood := { row := printNumbersRow, standIns := [], harness := (true, "620c93b66ccc3f973e89832df3e8b053081dc39f2ec8a609265d6c16eac7684a"), looks := true }, kinds := [], alts := [], laidByText := true, laidKinds := [.data, .data, .data, .data, .data], laidTests := true, laidLooks := .later }
def PrintNumbersCardSaid : Prop := Claim7.holds Tryz.pinned (.plain (OpenSpec.ofChange printNumbersSpec)) printNumbersCard

/-- THE SECOND FORM's CARD OF 'treemergelaw08.PrintWords'. -/
def printWordsUptoCard : Claim7 := { stood := { row := printWordsUptoRow, standIns := [], harness := (true, "620c93b66ccc3f973e89832df3e8b053081dc39f2ec8a609265d6c16eac7684a"), looks := true }, kinds := [], alts := [], laidByText := true, laidKinds := [.data, .data, .data, .data, .data], laidTests := true, laidLooks := .later }
def PrintWordsUptoCardSaid : Prop := Claim7.holds Tryz.pinned (.plain (OpenSpec.upto printWordsSpec)) printWordsUptoCard

/-- THE SECOND FORM's CARD OF 'treemergelaw08.PrintTexts'. -/
def printTextsUptoCard : Claim7 := { stood := { row := printTextsUptoRow, standIns := [], harness := (true, "620c93b66ccc3f973e89832df3e8b053081dc39f2ec8a609265d6c16eac7684a"), looks := true }, kinds := [], alts := [], laidByText := true, laidKinds := [.data, .data, .data, .data, .data], laidTests := true, laidLooks := .later }
def PrintTextsUptoCardSaid : Prop := Claim7.holds Tryz.pinned (.plain (OpenSpec.upto printTextsSpec)) printTextsUptoCard

/-- THE SECOND FORM's CARD OF 'treemergelaw08.PrintLays'. -/
def printLaysUptoCard : Claim7 := { stood := { row := printLaysUptoRow, standIns := [], harness := (true, "620c93b66ccc3f973e89832df3e8b053081dc39f2ec8a609265d6c16eac7684a"), looks := true }, kinds := [], alts := [], laidByText := true, laidKinds := [.data, .data, .data, .data, .data], laidTests := true, laidLooks := .later }
def PrintLaysUptoCardSaid : Prop := Claim7.holds Tryz.pinned (.plain (OpenSpec.upto printLaysSpec)) printLaysUptoCard

/-- THE SECOND FORM's CARD OF 'treemergelaw08.PrintLayout'. -/
def printLayoutUptoCard : Claim7 := { stood := { row := printLayoutUptoRow, standIns := [], harness := (true, "620c93b66ccc3f973e89832df3e8b053081dc39f2ec8a609265d6c16eac7684a"), looks := true }, kinds := [], alts := [], laidByText := true, laidKinds := [.data, .data, .data, .data, .data], laidTests := true, laidLooks := .later }
def PrintLayoutUptoCardSaid : Prop := Claim7.holds Tryz.pinned (.plain (OpenSpec.upto printLayoutSpec)) printLayoutUptoCard

/-- THE SECOND FORM's CARD OF 'treemergelaw08.PrintTokens'. -/
def printTokensUptoCard : Claim7 := { stood := { row := printTokensUptoRow, standIns := [], harness := (true, "620c93b66ccc3f973e89832df3e8b053081dc39f2ec8a609265d6c16eac7684a"), looks := true }, kinds := [], alts := [], laidByText := true, laidKinds := [.data, .data, .data, .sentinel, .sentinel, .data, .data, .data, .data, .data], laidTests := true, laidLooks := .later }
def PrintTokensUptoCardSaid : Prop := Claim7.holds Tryz.pinned (.plain (OpenSpec.upto printTokensSpec)) printTokensUptoCard

/-- THE SECOND FORM's CARD OF 'treemergelaw08.PrintNumbers'. -/
def printNumbersUptoCard : Claim7 := { stood := { row := printNumbersUptoRow, standIns := [], harness := (true, "620c93b66ccc3f973e89832df3e8b053081dc39f2ec8a609265d6c16eac7684a"), looks := true }, kinds := [], alts := [], laidByText := true, laidKinds := [.data, .data, .data, .data, .data], laidTests := true, laidLooks := .later }
def PrintNumbersUptoCardSaid : Prop := Claim7.holds Tryz.pinned (.plain (OpenSpec.upto printNumbersSpec)) printNumbersUptoCard
end Rows
end Go.Proofs.YtiaajpdcacdngaaGreatDoor
