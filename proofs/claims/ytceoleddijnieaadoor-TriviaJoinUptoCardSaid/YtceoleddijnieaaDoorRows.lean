/-
  NARROWER THAN 'FOR EVERY INPUT', by the rows' own cells (each row's printed sentence says how): TriviaReads: laid · TriviaShifts: laid · TriviaJoin: laid · TriviaEnds: laid · TriviaBack: laid · TriviaIndents: laid.
  DERIVED. THE GIVEN ROWS OF THIS SEAT. 6 by the template 'for every input the law returns true; each argument reads behind the call as it read before'; 0 by the template 'total and deterministic' (their statements: YtceoleddijnieaaDoorTotals.lean).
  GIVEN WITH THE SEED: the statements are not yours to turn. If you find one false, say at which input.
  Laid BY PROGRAM, IN A SANDBOX (cutbox-rows.mjs): the forced cells as the released guide's own fill.sh prints them over the translation f0baa18ebf584d07… (all of the seat's roots in one cut). By AI agents, Wed Nov 11 2026. No macro, syntax, notation, axiom, sorry.
-/
import Derived.Test.YtceoleddijnieaaDoorChecked
import GoSem.PinnedTables
import GoSem.Claim
import GoSem.ClaimJoined
import GoSem.ClaimMapViews
import Derived.JoinedTies
import Derived.KernelRfl
namespace Go.Proofs.YtceoleddijnieaaDoor
/- THE CELL 'sum', in the pinned program and in every row, IS THE sha256 OF THE DUMP (.gsa) THAT YtceoleddijnieaaDoorProg.lean LOADS. Nothing in Lean hashes anything: it is a label: what it is worth is what the hold of that sum in a sandbox is worth. -/
noncomputable def Tryd.pinned : Pinned := { name := "ytceoleddijnieaadoor", sum := "f0baa18ebf584d0728d41ae2d6532de8ed274f8b0b9e34eef1cf60f45c32afd6", checked := Tryd.checked }
namespace Rows
def none {H : Type} : Left H := { results := [], args := [] }

/- WHAT THE LISTED PACKAGE-LEVEL VARIABLES READ AS WHEN THE CALL BEGINS. Each datum BY PROGRAM (the guide's laid-datum.mjs) off the statement by which the dump's own 'gosem.cut.vars' lays the variable. In a bare row this is a premise. The card (YtceoleddijnieaaDoorCards.lean) ties it to the program's text. -/
def laid_unicode_utf8_acceptRanges {H : Type} : DataW H := .agg [.agg [.lit (.int .u8 128), .lit (.int .u8 191)], .agg [.lit (.int .u8 160), .lit (.int .u8 191)], .agg [.lit (.int .u8 128), .lit (.int .u8 159)], .agg [.lit (.int .u8 144), .lit (.int .u8 191)], .agg [.lit (.int .u8 128), .lit (.int .u8 143)], .agg [.lit (.int .u8 0), .lit (.int .u8 0)], .agg [.lit (.int .u8 0), .lit (.int .u8 0)], .agg [.lit (.int .u8 0), .lit (.int .u8 0)], .agg [.lit (.int .u8 0), .lit (.int .u8 0)], .agg [.lit (.int .u8 0), .lit (.int .u8 0)], .agg [.lit (.int .u8 0), .lit (.int .u8 0)], .agg [.lit (.int .u8 0), .lit (.int .u8 0)], .agg [.lit (.int .u8 0), .lit (.int .u8 0)], .agg [.lit (.int .u8 0), .lit (.int .u8 0)], .agg [.lit (.int .u8 0), .lit (.int .u8 0)], .agg [.lit (.int .u8 0), .lit (.int .u8 0)]]
/-- One of Go's own tables, pinned by name: the form's constant. -/
def laid_unicode_utf8_first : DataW Unit := Go.Pinned.utf8First

/-- 'treemergelaw04.TriviaReads': WHATEVER THE INPUT: true; the input reads as it did. -/
def triviaReadsSpec : ChangeSpec := { name := "triviaReads", fn := fun _ => fun
  | [d1, d2] => { results := [.lit (.bool true)], args := [d1, d2] }
  | _ => none }
def triviaReadsRow : OpenClaim := { program := "ytceoleddijnieaadoor", sum := "f0baa18ebf584d0728d41ae2d6532de8ed274f8b0b9e34eef1cf60f45c32afd6", func := "treemerge/treemergelaw04.TriviaReads", spec := "triviaReads", inPlace := ["internal/bytealg.IndexByteString", "internal/bytealg.IndexString", "internal/abi.NoEscape", "internal/bytealg.MakeNoZero"], unfollowed := true, recurses := true, named := ["unicode/utf8.first", "unicode/utf8.acceptRanges", "internal/bytealg.MaxLen"], apart := false, laid := [("unicode/utf8.acceptRanges", laid_unicode_utf8_acceptRanges), ("unicode/utf8.first", laid_unicode_utf8_first)] }
def TriviaReadsSaid : Prop := triviaReadsRow.holds Tryd.pinned (OpenSpec.ofChange triviaReadsSpec)

/-- ITS FALSE NEIGHBOUR: 'it returns false'. Refute it at one input. -/
def triviaReadsWrong : ChangeSpec := { name := "triviaReads", fn := fun _ => fun
  | [d1, d2] => { results := [.lit (.bool false)], args := [d1, d2] }
  | _ => none }
def TriviaReadsWrongFalsely : Prop := triviaReadsRow.holds Tryd.pinned (OpenSpec.ofChange triviaReadsWrong)

/-- 'treemergelaw04.TriviaShifts': WHATEVER THE INPUT: true; the input reads as it did. -/
def triviaShiftsSpec : ChangeSpec := { name := "triviaShifts", fn := fun _ => fun
  | [d1, d2] => { results := [.lit (.bool true)], args := [d1, d2] }
  | _ => none }
def triviaShiftsRow : OpenClaim := { program := "ytceoleddijnieaadoor", sum := "f0baa18ebf584d0728d41ae2d6532de8ed274f8b0b9e34eef1cf60f45c32afd6", func := "treemerge/treemergelaw04.TriviaShifts", spec := "triviaShifts", inPlace := ["internal/bytealg.IndexByteString", "internal/bytealg.IndexString", "internal/abi.NoEscape", "internal/bytealg.MakeNoZero"], unfollowed := true, recurses := true, named := ["unicode/utf8.first", "unicode/utf8.acceptRanges", "internal/bytealg.MaxLen"], apart := false, laid := [("unicode/utf8.acceptRanges", laid_unicode_utf8_acceptRanges), ("unicode/utf8.first", laid_unicode_utf8_first)] }
def TriviaShiftsSaid : Prop := triviaShiftsRow.holds Tryd.pinned (OpenSpec.ofChange triviaShiftsSpec)

/-- ITS FALSE NEIGHBOUR: 'it returns false'. Refute it at one input. -/
def triviaShiftsWrong : ChangeSpec := { name := "triviaShifts", fn := fun _ => fun
  | [d1, d2] => { results := [.lit (.bool false)], args := [d1, d2] }
  | _ => none }
def TriviaShiftsWrongFalsely : Prop := triviaShiftsRow.holds Tryd.pinned (OpenSpec.ofChange triviaShiftsWrong)

/-- 'treemergelaw04.TriviaJoin': WHATEVER THE INPUT: true; the input reads as it did. -/
def triviaJoinSpec : ChangeSpec := { name := "triviaJoin", fn := fun _ => fun
  | [d1, d2] => { results := [.lit (.bool true)], args := [d1, d2] }
  | _ => none }
def triviaJoinRow : OpenClaim := { program := "ytceoleddijnieaadoor", sum := "f0baa18ebf584d0728d41ae2d6532de8ed274f8b0b9e34eef1cf60f45c32afd6", func := "treemerge/treemergelaw04.TriviaJoin", spec := "triviaJoin", inPlace := ["internal/bytealg.IndexByteString", "internal/bytealg.IndexString", "internal/abi.NoEscape", "internal/bytealg.MakeNoZero"], unfollowed := true, recurses := true, named := ["unicode/utf8.first", "unicode/utf8.acceptRanges", "internal/bytealg.MaxLen"], apart := false, laid := [("unicode/utf8.acceptRanges", laid_unicode_utf8_acceptRanges), ("unicode/utf8.first", laid_unicode_utf8_first)] }
def TriviaJoinSaid : Prop := triviaJoinRow.holds Tryd.pinned (OpenSpec.ofChange triviaJoinSpec)

/-- ITS FALSE NEIGHBOUR: 'it returns false'. Refute it at one input. -/
def triviaJoinWrong : ChangeSpec := { name := "triviaJoin", fn := fun _ => fun
  | [d1, d2] => { results := [.lit (.bool false)], args := [d1, d2] }
  | _ => none }
def TriviaJoinWrongFalsely : Prop := triviaJoinRow.holds Tryd.pinned (OpenSpec.ofChange triviaJoinWrong)

/-- 'treemergelaw04.TriviaEnds': WHATEVER THE INPUT: true; the input reads as it did. -/
def triviaEndsSpec : ChangeSpec := { name := "triviaEnds", fn := fun _ => fun
  | [d1, d2] => { results := [.lit (.bool true)], args := [d1, d2] }
  | _ => none }
def triviaEndsRow : OpenClaim := { program := "ytceoleddijnieaadoor", sum := "f0baa18ebf584d0728d41ae2d6532de8ed274f8b0b9e34eef1cf60f45c32afd6", func := "treemerge/treemergelaw04.TriviaEnds", spec := "triviaEnds", inPlace := ["internal/bytealg.IndexByteString", "internal/bytealg.IndexString", "internal/abi.NoEscape", "internal/bytealg.MakeNoZero"], unfollowed := true, recurses := true, named := ["unicode/utf8.first", "unicode/utf8.acceptRanges", "internal/bytealg.MaxLen"], apart := false, laid := [("unicode/utf8.acceptRanges", laid_unicode_utf8_acceptRanges), ("unicode/utf8.first", laid_unicode_utf8_first)] }
def TriviaEndsSaid : Prop := triviaEndsRow.holds Tryd.pinned (OpenSpec.ofChange triviaEndsSpec)

/-- ITS FALSE NEIGHBOUR: 'it returns false'. Refute it at one input. -/
def triviaEndsWrong : ChangeSpec := { name := "triviaEnds", fn := fun _ => fun
  | [d1, d2] => { results := [.lit (.bool false)], args := [d1, d2] }
  | _ => none }
def TriviaEndsWrongFalsely : Prop := triviaEndsRow.holds Tryd.pinned (OpenSpec.ofChange triviaEndsWrong)

/-- 'treemergelaw04.TriviaBack': WHATEVER THE INPUT: true; the input reads as it did. -/
def triviaBackSpec : ChangeSpec := { name := "triviaBack", fn := fun _ => fun
  | [d1, d2] => { results := [.lit (.bool true)], args := [d1, d2] }
  | _ => none }
def triviaBackRow : OpenClaim := { program := "ytceoleddijnieaadoor", sum := "f0baa18ebf584d0728d41ae2d6532de8ed274f8b0b9e34eef1cf60f45c32afd6", func := "treemerge/treemergelaw04.TriviaBack", spec := "triviaBack", inPlace := ["internal/bytealg.IndexByteString", "internal/bytealg.IndexString", "internal/abi.NoEscape", "internal/bytealg.MakeNoZero"], unfollowed := true, recurses := true, named := ["unicode/utf8.first", "unicode/utf8.acceptRanges", "internal/bytealg.MaxLen"], apart := false, laid := [("unicode/utf8.acceptRanges", laid_unicode_utf8_acceptRanges), ("unicode/utf8.first", laid_unicode_utf8_first)] }
def TriviaBackSaid : Prop := triviaBackRow.holds Tryd.pinned (OpenSpec.ofChange triviaBackSpec)

/-- ITS FALSE NEIGHBOUR: 'it returns false'. Refute it at one input. -/
def triviaBackWrong : ChangeSpec := { name := "triviaBack", fn := fun _ => fun
  | [d1, d2] => { results := [.lit (.bool false)], args := [d1, d2] }
  | _ => none }
def TriviaBackWrongFalsely : Prop := triviaBackRow.holds Tryd.pinned (OpenSpec.ofChange triviaBackWrong)

/-- 'treemergelaw04.TriviaIndents': WHATEVER THE INPUT: true; the input reads as it did. -/
def triviaIndentsSpec : ChangeSpec := { name := "triviaIndents", fn := fun _ => fun
  | [d1, d2] => { results := [.lit (.bool true)], args := [d1, d2] }
  | _ => none }
def triviaIndentsRow : OpenClaim := { program := "ytceoleddijnieaadoor", sum := "f0baa18ebf584d0728d41ae2d6532de8ed274f8b0b9e34eef1cf60f45c32afd6", func := "treemerge/treemergelaw04.TriviaIndents", spec := "triviaIndents", inPlace := ["internal/bytealg.IndexByteString", "internal/bytealg.IndexString", "internal/abi.NoEscape", "internal/bytealg.MakeNoZero"], unfollowed := true, recurses := true, named := ["unicode/utf8.first", "unicode/utf8.acceptRanges", "internal/bytealg.MaxLen"], apart := false, laid := [("unicode/utf8.acceptRanges", laid_unicode_utf8_acceptRanges), ("unicode/utf8.first", laid_unicode_utf8_first)] }
def TriviaIndentsSaid : Prop := triviaIndentsRow.holds Tryd.pinned (OpenSpec.ofChange triviaIndentsSpec)

/-- ITS FALSE NEIGHBOUR: 'it returns false'. Refute it at one input. -/
def triviaIndentsWrong : ChangeSpec := { name := "triviaIndents", fn := fun _ => fun
  | [d1, d2] => { results := [.lit (.bool false)], args := [d1, d2] }
  | _ => none }
def TriviaIndentsWrongFalsely : Prop := triviaIndentsRow.holds Tryd.pinned (OpenSpec.ofChange triviaIndentsWrong)

/- THE SECOND FORM. 'bulk': how many values and letters a reading holds, each counted each time it is reached (what is shared counts as often as it is met; a slice's spare places count too). A statement '..UptoSaid' is the law's where the arguments, and the package variables that the reading takes, are together of bulk at most 1048576: NARROWER than '..Said'. Prove '..Said' where nothing that the law and all that it calls make is longer than what came in: it says more and counts as full. Else prove '..UptoSaid'. A law counts once. -/
mutual
def uptoBulk {H : Type} : DataW H → Nat
  | .lit (.string bytes) => bytes.length + 1
  | .lit _ => 1
  | .nil => 1
  | .ptr d => uptoBulk d + 1
  | .slice elems spare => uptoBulkAll elems + uptoBulkAll spare + 1
  | .agg parts => uptoBulkAll parts + 1
  | .iface _ d => uptoBulk d + 1
  | .map entries => uptoBulkEntries entries + 1
  | .held _ => 1
def uptoBulkAll {H : Type} : List (DataW H) → Nat
  | [] => 0
  | d :: r => uptoBulk d + uptoBulkAll r
def uptoBulkEntries {H : Type} : List (Lit × DataW H) → Nat
  | [] => 0
  | x :: r => uptoBulkEntry x + uptoBulkEntries r
def uptoBulkEntry {H : Type} : Lit × DataW H → Nat
  | (.string bytes, d) => bytes.length + uptoBulk d + 1
  | (_, d) => uptoBulk d + 1
 end
def uptoSmall : (H : Type) → List (DataW H) → Bool := fun _ ds => decide (uptoBulkAll ds ≤ 1048576)
def OpenSpec.upto (s : _root_.Go.ChangeSpec) : _root_.Go.OpenSpec := { _root_.Go.OpenSpec.ofChange s with cond := some uptoSmall }

/-- 'treemergelaw04.TriviaReads', WHERE WHAT IT READS IS OF BULK AT MOST 1048576: true; the input reads as it did. -/
def triviaReadsUptoRow : OpenClaim := { program := "ytceoleddijnieaadoor", sum := "f0baa18ebf584d0728d41ae2d6532de8ed274f8b0b9e34eef1cf60f45c32afd6", func := "treemerge/treemergelaw04.TriviaReads", spec := "triviaReads", inPlace := ["internal/bytealg.IndexByteString", "internal/bytealg.IndexString", "internal/abi.NoEscape", "internal/bytealg.MakeNoZero"], unfollowed := true, recurses := true, named := ["unicode/utf8.first", "unicode/utf8.acceptRanges", "internal/bytealg.MaxLen"], apart := false, laid := [("unicode/utf8.acceptRanges", laid_unicode_utf8_acceptRanges), ("unicode/utf8.first", laid_unicode_utf8_first)], narrowed := true }
def TriviaReadsUptoSaid : Prop := triviaReadsUptoRow.holds Tryd.pinned (OpenSpec.upto triviaReadsSpec)

/-- 'treemergelaw04.TriviaShifts', WHERE WHAT IT READS IS OF BULK AT MOST 1048576: true; the input reads as it did. -/
def triviaShiftsUptoRow : OpenClaim := { program := "ytceoleddijnieaadoor", sum := "f0baa18ebf584d0728d41ae2d6532de8ed274f8b0b9e34eef1cf60f45c32afd6", func := "treemerge/treemergelaw04.TriviaShifts", spec := "triviaShifts", inPlace := ["internal/bytealg.IndexByteString", "internal/bytealg.IndexString", "internal/abi.NoEscape", "internal/bytealg.MakeNoZero"], unfollowed := true, recurses := true, named := ["unicode/utf8.first", "unicode/utf8.acceptRanges", "internal/bytealg.MaxLen"], apart := false, laid := [("unicode/utf8.acceptRanges", laid_unicode_utf8_acceptRanges), ("unicode/utf8.first", laid_unicode_utf8_first)], narrowed := true }
def TriviaShiftsUptoSaid : Prop := triviaShiftsUptoRow.holds Tryd.pinned (OpenSpec.upto triviaShiftsSpec)

/-- 'treemergelaw04.TriviaJoin', WHERE WHAT IT READS IS OF BULK AT MOST 1048576: true; the input reads as it did. -/
def triviaJoinUptoRow : OpenClaim := { program := "ytceoleddijnieaadoor", sum := "f0baa18ebf584d0728d41ae2d6532de8ed274f8b0b9e34eef1cf60f45c32afd6", func := "treemerge/treemergelaw04.TriviaJoin", spec := "triviaJoin", inPlace := ["internal/bytealg.IndexByteString", "internal/bytealg.IndexString", "internal/abi.NoEscape", "internal/bytealg.MakeNoZero"], unfollowed := true, recurses := true, named := ["unicode/utf8.first", "unicode/utf8.acceptRanges", "internal/bytealg.MaxLen"], apart := false, laid := [("unicode/utf8.acceptRanges", laid_unicode_utf8_acceptRanges), ("unicode/utf8.first", laid_unicode_utf8_first)], narrowed := true }
def TriviaJoinUptoSaid : Prop := triviaJoinUptoRow.holds Tryd.pinned (OpenSpec.upto triviaJoinSpec)

/-- 'treemergelaw04.TriviaEnds', WHERE WHAT IT READS IS OF BULK AT MOST 1048576: true; the input reads as it did. -/
def triviaEndsUptoRow : OpenClaim := { program := "ytceoleddijnieaadoor", sum := "f0baa18ebf584d0728d41ae2d6532de8ed274f8b0b9e34eef1cf60f45c32afd6", func := "treemerge/treemergelaw04.TriviaEnds", spec := "triviaEnds", inPlace := ["internal/bytealg.IndexByteString", "internal/bytealg.IndexString", "internal/abi.NoEscape", "internal/bytealg.MakeNoZero"], unfollowed := true, recurses := true, named := ["unicode/utf8.first", "unicode/utf8.acceptRanges", "internal/bytealg.MaxLen"], apart := false, laid := [("unicode/utf8.acceptRanges", laid_unicode_utf8_acceptRanges), ("unicode/utf8.first", laid_unicode_utf8_first)], narrowed := true }
def TriviaEndsUptoSaid : Prop := triviaEndsUptoRow.holds Tryd.pinned (OpenSpec.upto triviaEndsSpec)

/-- 'treemergelaw04.TriviaBack', WHERE WHAT IT READS IS OF BULK AT MOST 1048576: true; the input reads as it did. -/
def triviaBackUptoRow : OpenClaim := { program := "ytceoleddijnieaadoor", sum := "f0baa18ebf584d0728d41ae2d6532de8ed274f8b0b9e34eef1cf60f45c32afd6", func := "treemerge/treemergelaw04.TriviaBack", spec := "triviaBack", inPlace := ["internal/bytealg.IndexByteString", "internal/bytealg.IndexString", "internal/abi.NoEscape", "internal/bytealg.MakeNoZero"], unfollowed := true, recurses := true, named := ["unicode/utf8.first", "unicode/utf8.acceptRanges", "internal/bytealg.MaxLen"], apart := false, laid := [("unicode/utf8.acceptRanges", laid_unicode_utf8_acceptRanges), ("unicode/utf8.first", laid_unicode_utf8_first)], narrowed := true }
def TriviaBackUptoSaid : Prop := triviaBackUptoRow.holds Tryd.pinned (OpenSpec.upto triviaBackSpec)

/-- 'treemergelaw04.TriviaIndents', WHERE WHAT IT READS IS OF BULK AT MOST 1048576: true; the input reads as it did. -/
def triviaIndentsUptoRow : OpenClaim := { program := "ytceoleddijnieaadoor", sum := "f0baa18ebf584d0728d41ae2d6532de8ed274f8b0b9e34eef1cf60f45c32afd6", func := "treemerge/treemergelaw04.TriviaIndents", spec := "triviaIndents", inPlace := ["internal/bytealg.IndexByteString", "internal/bytealg.IndexString", "internal/abi.NoEscape", "internal/bytealg.MakeNoZero"], unfollowed := true, recurses := true, named := ["unicode/utf8.first", "unicode/utf8.acceptRanges", "internal/bytealg.MaxLen"], apart := false, laid := [("unicode/utf8.acceptRanges", laid_unicode_utf8_acceptRanges), ("unicode/utf8.first", laid_unicode_utf8_first)], narrowed := true }
def TriviaIndentsUptoSaid : Prop := triviaIndentsUptoRow.holds Tryd.pinned (OpenSpec.upto triviaIndentsSpec)

end Rows
end Go.Proofs.YtceoleddijnieaaDoor
