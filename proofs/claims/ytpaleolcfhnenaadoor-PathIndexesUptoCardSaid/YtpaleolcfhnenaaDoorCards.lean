/-
  DERIVED. GIVEN WITH THE SEED: THE CARDS: each row of YtpaleolcfhnenaaDoorRows.lean that lists a variable, with what it lists TIED to the program's text (the seventh form; the later family's looks); each row that meets fmt, with fmt's text TOLD by the authors' own Lean function (tested against real Go, not proved from fmt's source: count such statements apart). THE CARD IS WHAT COUNTS. Prove the row's statement (the work); the ties are given (YtpaleolcfhnenaaDoorTie.lean); close each card by the builder's one call (the guide's Derived/Test/ToyasCard.lean, 'card_holds'). Laid BY PROGRAM, IN A SANDBOX (cutbox-door.mjs). By AI agents, Wed Nov 11 2026. No macro, syntax, notation, axiom, sorry.
-/
import Derived.Test.YtpaleolcfhnenaaDoorRows
import GoSem.ClaimSeven
namespace Go.Proofs.YtpaleolcfhnenaaDoor
namespace Rows

/-- THE TIED CARD OF 'treemergelaw10.PathFinds'. -/
def pathFindsCard : Claim7 := { stood := { row := pathFindsRow, standIns := [], harness := (true, "f77f2d4d37395cdf5201d2928ea4e586e0281f30c9c5dd16b39a6b217efbcba2"), looks := false }, kinds := [], alts := [], laidByText := true, laidKinds := [.data, .data, .data, .data, .data], laidTests := true, laidLooks := .later }
def PathFindsCardSaid : Prop := Claim7.holds Tryd.pinned (.plain (OpenSpec.ofChange pathFindsSpec)) pathFindsCard

/-- THE TIED CARD OF 'treemergelaw10.PathChanges'. -/
def pathChangesCard : Claim7 := { stood := { row := pathChangesRow, standIns := [], harness := (true, "f77f2d4d37395cdf5201d2928ea4e586e0281f30c9c5dd16b39a6b217efbcba2"), looks := false }, kinds := [], alts := [], laidByText := true, laidKinds := [.data, .data, .data, .data, .data], laidTests := true, laidLooks := .later }
def PathChangesCardSaid : Prop := Claim7.holds Tryd.pinned (.plain (OpenSpec.ofChange pathChangesSpec)) pathChangesCard

/-- THE TIED CARD OF 'treemergelaw10.PathReplaces'. -/
def pathReplacesCard : Claim7 := { stood := { row := pathReplacesRow, standIns := [], harness := (true, "f77f2d4d37395cdf5201d2928ea4e586e0281f30c9c5dd16b39a6b217efbcba2"), looks := false }, kinds := [], alts := [], laidByText := true, laidKinds := [.data, .data, .data, .data, .data], laidTests := true, laidLooks := .later }
def PathReplacesCardSaid : Prop := Claim7.holds Tryd.pinned (.plain (OpenSpec.ofChange pathReplacesSpec)) pathReplacesCard

/-- THE TIED CARD OF 'treemergelaw10.PathIndexes'. -/
def pathIndexesCard : Claim7 := { stood := { row := pathIndexesRow, standIns := [], harness := (true, "f77f2d4d37395cdf5201d2928ea4e586e0281f30c9c5dd16b39a6b217efbcba2"), looks := false }, kinds := [], alts := [], laidByText := true, laidKinds := [.data, .data, .data, .data, .data], laidTests := true, laidLooks := .later }
def PathIndexesCardSaid : Prop := Claim7.holds Tryd.pinned (.plain (OpenSpec.ofChange pathIndexesSpec)) pathIndexesCard

/-- THE TIED CARD OF 'treemergelaw10.PathRemoves'. -/
def pathRemovesCard : Claim7 := { stood := { row := pathRemovesRow, standIns := [], harness := (true, "f77f2d4d37395cdf5201d2928ea4e586e0281f30c9c5dd16b39a6b217efbcba2"), looks := false }, kinds := [], alts := [], laidByText := true, laidKinds := [.data, .data, .data, .data, .data], laidTests := true, laidLooks := .later }
def PathRemovesCardSaid : Prop := Claim7.holds Tryd.pinned (.plain (OpenSpec.ofChange pathRemovesSpec)) pathRemovesCard

/-- THE TIED CARD OF 'treemergelaw10.PathBack'. -/
def pathBackCard : Claim7 := { stood := { row := pathBackRow, standIns := [], harness := (true, "f77f2d4d37395cdf5201d2928ea4e586e0281f30c9c5dd16b39a6b217efbcba2"), looks := false }, kinds := [], alts := [], laidByText := true, laidKinds := [.data, .data, .data, .data, .data], laidTests := true, laidLooks := .later }
def PathBackCardSaid : Prop := Claim7.holds Tryd.pinned (.plain (OpenSpec.ofChange pathBackSpec)) pathBackCard

/-- THE SECOND FORM's CARD OF 'treemergelaw10.PathFinds'. -/
def pathFindsUptoCard : Claim7 := { stood := { row := pathFindsUptoRow, standIns := [], harness := (true, "f77f2d4d37395cdf5201d2928ea4e586e0281f30c9c5dd16b39a6b217efbcba2"), looks := false }, kinds := [], alts := [], laidByText := true, laidKinds := [.data, .data, .data, .data, .data], laidTests := true, laidLooks := .later }
def PathFindsUptoCardSaid : Prop := Claim7.holds Tryd.pinned (.plain (OpenSpec.upto pathFindsSpec)) pathFindsUptoCard

/-- THE SECOND FORM's CARD OF 'treemergelaw10.PathChanges'. -/
def pathChangesUptoCard : Claim7 := { stood := { row := pathChangesUptoRow, standIns := [], harness := (true, "f77f2d4d37395cdf5201d2928ea4e586e0281f30c9c5dd16b39a6b217efbcba2"), looks := false }, kinds := [], alts := [], laidByText := true, laidKinds := [.data, .data, .data, .data, .data], laidTests := true, laidLooks := .later }
def PathChangesUptoCardSaid : Prop := Claim7.holds Tryd.pinned (.plain (OpenSpec.upto pathChangesSpec)) pathChangesUptoCard

/-- THE SECOND FORM's CARD OF 'treemergelaw10.PathReplaces'. -/
def pathReplacesUptoCard : Claim7 := { stood := { row := pathReplacesUptoRow, standIns := [], harness := (true, "f77f2d4d37395cdf5201d2928ea4e586e0281f30c9c5dd16b39a6b217efbcba2"), looks := false }, kinds := [], alts := [], laidByText := true, laidKinds := [.data, .data, .data, .data, .data], laidTests := true, laidLooks := .later }
def PathReplacesUptoCardSaid : Prop := Claim7.holds Tryd.pinned (.plain (OpenSpec.upto pathReplacesSpec)) pathReplacesUptoCard

/-- THE SECOND FORM's CARD OF 'treemergelaw10.PathIndexes'. -/
def pathIndexesUptoCard : Claim7 := { stood := { row := pathIndexesUptoRow, standIns := [], harness := (true, "f77f2d4d37395cdf5201d2928ea4e586e0281f30c9c5dd16b39a6b217efbcba2"), looks := false }, kinds := [], alts := [], laidByText := true, laidKinds := [.data, .data, .data, .data, .data], laidTests := true, laidLooks := .later }
def PathIndexesUptoCardSaid : Prop := Claim7.holds Tryd.pinned (.plain (OpenSpec.upto pathIndexesSpec)) pathIndexesUptoCard

/-- THE SECOND FORM's CARD OF 'treemergelaw10.PathRemoves'. -/
def pathRemovesUptoCard : Claim7 := { stood := { row := pathRemovesUptoRow, standIns := [], harness := (true, "f77f2d4d37395cdf5201d2928ea4e586e0281f30c9c5dd16b39a6b217efbcba2"), looks := false }, kinds := [], alts := [], laidByText := true, laidKinds := [.data, .data, .data, .data, .data], laidTests := true, laidLooks := .later }
def PathRemovesUptoCardSaid : Prop := Claim7.holds Tryd.pinned (.plain (OpenSpec.upto pathRemovesSpec)) pathRemovesUptoCard

/-- THE SECOND FORM's CARD OF 'treemergelaw10.PathBack'. -/
def pathBackUptoCard : Claim7 := { stood := { row := pathBackUptoRow, standIns := [], harness := (true, "f77f2d4d37395cdf5201d2928ea4e586e0281f30c9c5dd16b39a6b217efbcba2"), looks := false }, kinds := [], alts := [], laidByText := true, laidKinds := [.data, .data, .data, .data, .data], laidTests := true, laidLooks := .later }
def PathBackUptoCardSaid : Prop := Claim7.holds Tryd.pinned (.plain (OpenSpec.upto pathBackSpec)) pathBackUptoCard
end Rows
end Go.Proofs.YtpaleolcfhnenaaDoor
