/-
  DERIVED. GIVEN WITH THE SEED: THE CARDS: each row of YtceoleddijnieaaDoorRows.lean that lists a variable, with what it lists TIED to the program's text (the seventh form; the later family's looks); each row that meets fmt, with fmt's text TOLD by the authors' own Lean function (tested against real Go, not proved from fmt's source: count such statements apart). THE CARD IS WHAT COUNTS. Prove the row's statement (the work); the ties are given (YtceoleddijnieaaDoorTie.lean); close each card by the builder's one call (the guide's Derived/Test/ToyasCard.lean, 'card_holds'). Laid BY PROGRAM, IN A SANDBOX (cutbox-door.mjs). By AI agents, Wed Nov 11 2026. No macro, syntax, notation, axiom, sorry.
-/
import Derived.Test.YtceoleddijnieaaDoorRows
import GoSem.ClaimSeven
namespace Go.Proofs.YtceoleddijnieaaDoor
namespace Rows

/-- THE TIED CARD OF 'treemergelaw04.TriviaReads'. -/
def triviaReadsCard : Claim7 := { stood := { row := triviaReadsRow, standIns := [], harness := (true, "bba9d9139135f732b747f73cb4e08417760aeabf402bc506c26786922ac5ad9f"), looks := false }, kinds := [], alts := [], laidByText := true, laidKinds := [.data, .pinned], laidTests := true, laidLooks := .later }
def TriviaReadsCardSaid : Prop := Claim7.holds Tryd.pinned (.plain (OpenSpec.ofChange triviaReadsSpec)) triviaReadsCard

/-- THE TIED CARD OF 'treemergelaw04.TriviaShifts'. -/
def triviaShiftsCard : Claim7 := { stood := { row := triviaShiftsRow, standIns := [], harness := (true, "bba9d9139135f732b747f73cb4e08417760aeabf402bc506c26786922ac5ad9f"), looks := false }, kinds := [], alts := [], laidByText := true, laidKinds := [.data, .pinned], laidTests := true, laidLooks := .later }
def TriviaShiftsCardSaid : Prop := Claim7.holds Tryd.pinned (.plain (OpenSpec.ofChange triviaShiftsSpec)) triviaShiftsCard

/-- THE TIED CARD OF 'treemergelaw04.TriviaJoin'. -/
def triviaJoinCard : Claim7 := { stood := { row := triviaJoinRow, standIns := [], harness := (true, "bba9d9139135f732b747f73cb4e08417760aeabf402bc506c26786922ac5ad9f"), looks := false }, kinds := [], alts := [], laidByText := true, laidKinds := [.data, .pinned], laidTests := true, laidLooks := .later }
def TriviaJoinCardSaid : Prop := Claim7.holds Tryd.pinned (.plain (OpenSpec.ofChange triviaJoinSpec)) triviaJoinCard

/-- THE TIED CARD OF 'treemergelaw04.TriviaEnds'. -/
def triviaEndsCard : Claim7 := { stood := { row := triviaEndsRow, standIns := [], harness := (true, "bba9d9139135f732b747f73cb4e08417760aeabf402bc506c26786922ac5ad9f"), looks := false }, kinds := [], alts := [], laidByText := true, laidKinds := [.data, .pinned], laidTests := true, laidLooks := .later }
def TriviaEndsCardSaid : Prop := Claim7.holds Tryd.pinned (.plain (OpenSpec.ofChange triviaEndsSpec)) triviaEndsCard

/-- THE TIED CARD OF 'treemergelaw04.TriviaBack'. -/
def triviaBackCard : Claim7 := { stood := { row := triviaBackRow, standIns := [], harness := (true, "bba9d9139135f732b747f73cb4e08417760aeabf402bc506c26786922ac5ad9f"), looks := false }, kinds := [], alts := [], laidByText := true, laidKinds := [.data, .pinned], laidTests := true, laidLooks := .later }
def TriviaBackCardSaid : Prop := Claim7.holds Tryd.pinned (.plain (OpenSpec.ofChange triviaBackSpec)) triviaBackCard

/-- THE TIED CARD OF 'treemergelaw04.TriviaIndents'. -/
def triviaIndentsCard : Claim7 := { stood := { row := triviaIndentsRow, standIns := [], harness := (true, "bba9d9139135f732b747f73cb4e08417760aeabf402bc506c26786922ac5ad9f"), looks := false }, kinds := [], alts := [], laidByText := true, laidKinds := [.data, .pinned], laidTests := true, laidLooks := .later }
def TriviaIndentsCardSaid : Prop := Claim7.holds Tryd.pinned (.plain (OpenSpec.ofChange triviaIndentsSpec)) triviaIndentsCard

/-- THE SECOND FORM's CARD OF 'treemergelaw04.TriviaReads'. -/
def triviaReadsUptoCard : Claim7 := { stood := { row := triviaReadsUptoRow, standIns := [], harness := (true, "bba9d9139135f732b747f73cb4e08417760aeabf402bc506c26786922ac5ad9f"), looks := false }, kinds := [], alts := [], laidByText := true, laidKinds := [.data, .pinned], laidTests := true, laidLooks := .later }
def TriviaReadsUptoCardSaid : Prop := Claim7.holds Tryd.pinned (.plain (OpenSpec.upto triviaReadsSpec)) triviaReadsUptoCard

/-- THE SECOND FORM's CARD OF 'treemergelaw04.TriviaShifts'. -/
def triviaShiftsUptoCard : Claim7 := { stood := { row := triviaShiftsUptoRow, standIns := [], harness := (true, "bba9d9139135f732b747f73cb4e08417760aeabf402bc506c26786922ac5ad9f"), looks := false }, kinds := [], alts := [], laidByText := true, laidKinds := [.data, .pinned], laidTests := true, laidLooks := .later }
def TriviaShiftsUptoCardSaid : Prop := Claim7.holds Tryd.pinned (.plain (OpenSpec.upto triviaShiftsSpec)) triviaShiftsUptoCard

/-- THE SECOND FORM's CARD OF 'treemergelaw04.TriviaJoin'. -/
def triviaJoinUptoCard : Claim7 := { stood := { row := triviaJoinUptoRow, standIns := [], harness := (true, "bba9d9139135f732b747f73cb4e08417760aeabf402bc506c26786922ac5ad9f"), looks := false }, kinds := [], alts := [], laidByText := true, laidKinds := [.data, .pinned], laidTests := true, laidLooks := .later }
def TriviaJoinUptoCardSaid : Prop := Claim7.holds Tryd.pinned (.plain (OpenSpec.upto triviaJoinSpec)) triviaJoinUptoCard

/-- THE SECOND FORM's CARD OF 'treemergelaw04.TriviaEnds'. -/
def triviaEndsUptoCard : Claim7 := { stood := { row := triviaEndsUptoRow, standIns := [], harness := (true, "bba9d9139135f732b747f73cb4e08417760aeabf402bc506c26786922ac5ad9f"), looks := false }, kinds := [], alts := [], laidByText := true, laidKinds := [.data, .pinned], laidTests := true, laidLooks := .later }
def TriviaEndsUptoCardSaid : Prop := Claim7.holds Tryd.pinned (.plain (OpenSpec.upto triviaEndsSpec)) triviaEndsUptoCard

/-- THE SECOND FORM's CARD OF 'treemergelaw04.TriviaBack'. -/
def triviaBackUptoCard : Claim7 := { stood := { row := triviaBackUptoRow, standIns := [], harness := (true, "bba9d9139135f732b747f73cb4e08417760aeabf402bc506c26786922ac5ad9f"), looks := false }, kinds := [], alts := [], laidByText := true, laidKinds := [.data, .pinned], laidTests := true, laidLooks := .later }
def TriviaBackUptoCardSaid : Prop := Claim7.holds Tryd.pinned (.plain (OpenSpec.upto triviaBackSpec)) triviaBackUptoCard

/-- THE SECOND FORM's CARD OF 'treemergelaw04.TriviaIndents'. -/
def triviaIndentsUptoCard : Claim7 := { stood := { row := triviaIndentsUptoRow, standIns := [], harness := (true, "bba9d9139135f732b747f73cb4e08417760aeabf402bc506c26786922ac5ad9f"), looks := false }, kinds := [], alts := [], laidByText := true, laidKinds := [.data, .pinned], laidTests := true, laidLooks := .later }
def TriviaIndentsUptoCardSaid : Prop := Claim7.holds Tryd.pinned (.plain (OpenSpec.upto triviaIndentsSpec)) triviaIndentsUptoCard
end Rows
end Go.Proofs.YtceoleddijnieaaDoor
