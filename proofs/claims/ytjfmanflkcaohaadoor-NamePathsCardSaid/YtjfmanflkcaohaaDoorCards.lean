/-
  DERIVED. GIVEN WITH THE SEED: THE CARDS: each row of YtjfmanflkcaohaaDoorRows.lean that lists a variable, with what it lists TIED to the program's text (the seventh form; the later family's looks); each row that meets fmt, with fmt's text TOLD by the authors' own Lean function (tested against real Go, not proved from fmt's source: count such statements apart). THE CARD IS WHAT COUNTS. Prove the row's statement (the work); the ties are given (YtjfmanflkcaohaaDoorTie.lean); close each card by the builder's one call (the guide's Derived/Test/ToyasCard.lean, 'card_holds'). Laid BY PROGRAM, IN A SANDBOX (cutbox-door.mjs). By AI agents, Wed Nov 11 2026. No macro, syntax, notation, axiom, sorry.
-/
import Derived.Test.YtjfmanflkcaohaaDoorRows
import GoSem.ClaimSeven
namespace Go.Proofs.YtjfmanflkcaohaaDoor
namespace Rows

/-- THE TIED CARD OF 'treemergelaw03.NameValids'. -/
def nameValidsCard : Claim7 := { stood := { row := nameValidsRow, standIns := [], harness := (true, "f2a684e9c59aaed6d5854cba27d92e98ca9cc1b66be4c05545289103ed7400af"), looks := false }, kinds := [], alts := [], laidByText := true, laidKinds := [.data, .data, .data, .data, .pinned], laidTests := true, laidLooks := .later }
def NameValidsCardSaid : Prop := Claim7.holds Tryd.pinned (.plain (OpenSpec.ofChange nameValidsSpec)) nameValidsCard

/-- THE TIED CARD OF 'treemergelaw03.NamePaths'. -/
def namePathsCard : Claim7 := { stood := { row := namePathsRow, standIns := [], harness := (true, "f2a684e9c59aaed6d5854cba27d92e98ca9cc1b66be4c05545289103ed7400af"), looks := false }, kinds := [], alts := [], laidByText := true, laidKinds := [.data, .data, .data, .data, .pinned], laidTests := true, laidLooks := .later }
def NamePathsCardSaid : Prop := Claim7.holds Tryd.pinned (.plain (OpenSpec.ofChange namePathsSpec)) namePathsCard

/-- THE TIED CARD OF 'treemergelaw03.NameCandidates'. -/
def nameCandidatesCard : Claim7 := { stood := { row := nameCandidatesRow, standIns := [], harness := (true, "f2a684e9c59aaed6d5854cba27d92e98ca9cc1b66be4c05545289103ed7400af"), looks := false }, kinds := [], alts := [], laidByText := true, laidKinds := [.data, .data, .data, .data, .pinned], laidTests := true, laidLooks := .later }
def NameCandidatesCardSaid : Prop := Claim7.holds Tryd.pinned (.plain (OpenSpec.ofChange nameCandidatesSpec)) nameCandidatesCard

/-- THE TIED CARD OF 'treemergelaw03.NameLists'. -/
def nameListsCard : Claim7 := { stood := { row := nameListsRow, standIns := [], harness := (true, "f2a684e9c59aaed6d5854cba27d92e98ca9cc1b66be4c05545289103ed7400af"), looks := false }, kinds := [], alts := [], laidByText := true, laidKinds := [.data, .data, .data, .data, .pinned], laidTests := true, laidLooks := .later }
def NameListsCardSaid : Prop := Claim7.holds Tryd.pinned (.plain (OpenSpec.ofChange nameListsSpec)) nameListsCard

/-- THE TIED CARD OF 'treemergelaw03.NameFresh'. -/
def nameFreshCard : Claim7 := { stood := { row := nameFreshRow, standIns := [], harness := (true, "f2a684e9c59aaed6d5854cba27d92e98ca9cc1b66be4c05545289103ed7400af"), looks := false }, kinds := [], alts := [], laidByText := true, laidKinds := [.data, .data, .data, .data, .pinned], laidTests := true, laidLooks := .later }
def NameFreshCardSaid : Prop := Claim7.holds Tryd.pinned (.plain (OpenSpec.ofChange nameFreshSpec)) nameFreshCard

/-- THE TIED CARD OF 'treemergelaw03.NameSorts'. -/
def nameSortsCard : Claim7 := { stood := { row := nameSortsRow, standIns := [], harness := (true, "f2a684e9c59aaed6d5854cba27d92e98ca9cc1b66be4c05545289103ed7400af"), looks := false }, kinds := [], alts := [], laidByText := true, laidKinds := [.data, .data, .data, .data, .pinned], laidTests := true, laidLooks := .later }
def NameSortsCardSaid : Prop := Claim7.holds Tryd.pinned (.plain (OpenSpec.ofChange nameSortsSpec)) nameSortsCard

/-- THE TIED CARD OF 'treemergelaw03.NameGrows'. -/
def nameGrowsCard : Claim7 := { stood := { row := nameGrowsRow, standIns := [], harness := (true, "f2a684e9c59aaed6d5854cba27d92e98ca9cc1b66be4c05545289103ed7400af"), looks := false }, kinds := [], alts := [], laidByText := true, laidKinds := [.data, .data, .data, .data, .pinned], laidTests := true, laidLooks := .later }
def NameGrowsCardSaid : Prop := Claim7.holds Tryd.pinned (.plain (OpenSpec.ofChange nameGrowsSpec)) nameGrowsCard

/-- THE SECOND FORM's CARD OF 'treemergelaw03.NameValids'. -/
def nameValidsUptoCard : Claim7 := { stood := { row := nameValidsUptoRow, standIns := [], harness := (true, "f2a684e9c59aaed6d5854cba27d92e98ca9cc1b66be4c05545289103ed7400af"), looks := false }, kinds := [], alts := [], laidByText := true, laidKinds := [.data, .data, .data, .data, .pinned], laidTests := true, laidLooks := .later }
def NameValidsUptoCardSaid : Prop := Claim7.holds Tryd.pinned (.plain (OpenSpec.upto nameValidsSpec)) nameValidsUptoCard

/-- THE SECOND FORM's CARD OF 'treemergelaw03.NamePaths'. -/
def namePathsUptoCard : Claim7 := { stood := { row := namePathsUptoRow, standIns := [], harness := (true, "f2a684e9c59aaed6d5854cba27d92e98ca9cc1b66be4c05545289103ed7400af"), looks := false }, kinds := [], alts := [], laidByText := true, laidKinds := [.data, .data, .data, .data, .pinned], laidTests := true, laidLooks := .later }
def NamePathsUptoCardSaid : Prop := Claim7.holds Tryd.pinned (.plain (OpenSpec.upto namePathsSpec)) namePathsUptoCard

/-- THE SECOND FORM's CARD OF 'treemergelaw03.NameCandidates'. -/
def nameCandidatesUptoCard : Claim7 := { stood := { row := nameCandidatesUptoRow, standIns := [], harness := (true, "f2a684e9c59aaed6d5854cba27d92e98ca9cc1b66be4c05545289103ed7400af"), looks := false }, kinds := [], alts := [], laidByText := true, laidKinds := [.data, .data, .data, .data, .pinned], laidTests := true, laidLooks := .later }
def NameCandidatesUptoCardSaid : Prop := Claim7.holds Tryd.pinned (.plain (OpenSpec.upto nameCandidatesSpec)) nameCandidatesUptoCard

/-- THE SECOND FORM's CARD OF 'treemergelaw03.NameLists'. -/
def nameListsUptoCard : Claim7 := { stood := { row := nameListsUptoRow, standIns := [], harness := (true, "f2a684e9c59aaed6d5854cba27d92e98ca9cc1b66be4c05545289103ed7400af"), looks := false }, kinds := [], alts := [], laidByText := true, laidKinds := [.data, .data, .data, .data, .pinned], laidTests := true, laidLooks := .later }
def NameListsUptoCardSaid : Prop := Claim7.holds Tryd.pinned (.plain (OpenSpec.upto nameListsSpec)) nameListsUptoCard

/-- THE SECOND FORM's CARD OF 'treemergelaw03.NameFresh'. -/
def nameFreshUptoCard : Claim7 := { stood := { row := nameFreshUptoRow, standIns := [], harness := (true, "f2a684e9c59aaed6d5854cba27d92e98ca9cc1b66be4c05545289103ed7400af"), looks := false }, kinds := [], alts := [], laidByText := true, laidKinds := [.data, .data, .data, .data, .pinned], laidTests := true, laidLooks := .later }
def NameFreshUptoCardSaid : Prop := Claim7.holds Tryd.pinned (.plain (OpenSpec.upto nameFreshSpec)) nameFreshUptoCard

/-- THE SECOND FORM's CARD OF 'treemergelaw03.NameSorts'. -/
def nameSortsUptoCard : Claim7 := { stood := { row := nameSortsUptoRow, standIns := [], harness := (true, "f2a684e9c59aaed6d5854cba27d92e98ca9cc1b66be4c05545289103ed7400af"), looks := false }, kinds := [], alts := [], laidByText := true, laidKinds := [.data, .data, .data, .data, .pinned], laidTests := true, laidLooks := .later }
def NameSortsUptoCardSaid : Prop := Claim7.holds Tryd.pinned (.plain (OpenSpec.upto nameSortsSpec)) nameSortsUptoCard

/-- THE SECOND FORM's CARD OF 'treemergelaw03.NameGrows'. -/
def nameGrowsUptoCard : Claim7 := { stood := { row := nameGrowsUptoRow, standIns := [], harness := (true, "f2a684e9c59aaed6d5854cba27d92e98ca9cc1b66be4c05545289103ed7400af"), looks := false }, kinds := [], alts := [], laidByText := true, laidKinds := [.data, .data, .data, .data, .pinned], laidTests := true, laidLooks := .later }
def NameGrowsUptoCardSaid : Prop := Claim7.holds Tryd.pinned (.plain (OpenSpec.upto nameGrowsSpec)) nameGrowsUptoCard
end Rows
end Go.Proofs.YtjfmanflkcaohaaDoor
