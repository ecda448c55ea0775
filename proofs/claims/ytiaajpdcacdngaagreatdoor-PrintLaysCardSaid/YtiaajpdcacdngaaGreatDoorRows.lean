/-
  NARROWER THAN 'FOR EVERY INPUT', by the rows' own cells (each row's printed sentence says how): PrintWords: loops, laid · PrintTexts: loops, laid · PrintLays: loops, laid · PrintLayout: loops, laid · PrintTokens: loops, laid · PrintNumbers: loops, laid.
  DERIVED. THE GIVEN ROWS OF THIS SEAT. 6 by the template 'for every input the law returns true; each argument reads behind the call as it read before'; 0 by the template 'total and deterministic' (their statements: YtiaajpdcacdngaaGreatDoorTotals.lean).
  GIVEN WITH THE SEED: the statements are not yours to turn. If you find one false, say at which input.
  Laid BY PROGRAM, IN A SANDBOX (cutbox-rows.mjs): the forced cells as the released guide's own fill.sh prints them over the translation 980fcd30457e57ec… (all of the seat's roots in one cut). By AI agents, Wed Nov 11 2026. No macro, syntax, notation, axiom, sorry.
-/
import Derived.Test.YtiaajpdcacdngaaGreatDoorChecked
import GoSem.Claim
import GoSem.ClaimJoined
import GoSem.ClaimMapViews
import Derived.JoinedTies
import Derived.KernelRfl
namespace Go.Proofs.YtiaajpdcacdngaaGreatDoor
/- THE CELL 'sum', in the pinned program and in every row, IS THE sha256 OF THE DUMP (.gsa) THAT YtiaajpdcacdngaaGreatDoorProg.lean LOADS. Nothing in Lean hashes anything: it is a label: what it is worth is what the hold of that sum in a sandbox is worth. -/
noncomputable def Tryz.pinned : Pinned := { name := "ytiaajpdcacdngaagreatdoor", sum := "980fcd30457e57ec8280e6ade92d5648015d40165ddc946bfa0dc93bcee308e0", checked := Tryz.checked }
namespace Rows
def none {H : Type} : Left H := { results := [], args := [] }

/- WHAT THE LISTED PACKAGE-LEVEL VARIABLES READ AS WHEN THE CALL BEGINS. Each datum BY PROGRAM (the guide's laid-datum.mjs) off the statement by which the dump's own 'gosem.cut.vars' lays the variable. In a bare row this is a premise. The card (YtiaajpdcacdngaaGreatDoorCards.lean) ties it to the program's text. -/
def laid_treemerge_grammar_groups {H : Type} : DataW H := .agg [.lit (.int .i64 0), .lit (.int .i64 0), .lit (.int .i64 1), .lit (.int .i64 0), .lit (.int .i64 0), .lit (.int .i64 0), .lit (.int .i64 0), .lit (.int .i64 1), .lit (.int .i64 0), .lit (.int .i64 1), .lit (.int .i64 2), .lit (.int .i64 2), .lit (.int .i64 2), .lit (.int .i64 2), .lit (.int .i64 0), .lit (.int .i64 2), .lit (.int .i64 2), .lit (.int .i64 3), .lit (.int .i64 3), .lit (.int .i64 3), .lit (.int .i64 3), .lit (.int .i64 3), .lit (.int .i64 3), .lit (.int .i64 3), .lit (.int .i64 3), .lit (.int .i64 3), .lit (.int .i64 3)]
def laid_treemerge_grammar_owns {H : Type} : DataW H := .agg [.lit (.int .i64 0), .lit (.int .i64 1), .lit (.int .i64 2), .lit (.int .i64 2), .lit (.int .i64 1), .lit (.int .i64 1), .lit (.int .i64 2), .lit (.int .i64 4), .lit (.int .i64 2), .lit (.int .i64 4), .lit (.int .i64 4), .lit (.int .i64 3), .lit (.int .i64 2), .lit (.int .i64 1), .lit (.int .i64 1), .lit (.int .i64 1), .lit (.int .i64 1), .lit (.int .i64 1), .lit (.int .i64 1), .lit (.int .i64 1), .lit (.int .i64 3), .lit (.int .i64 4), .lit (.int .i64 4), .lit (.int .i64 1), .lit (.int .i64 1), .lit (.int .i64 1), .lit (.int .i64 2)]
def laid_treemerge_grammar_least {H : Type} : DataW H := .agg [.lit (.int .i64 0), .lit (.int .i64 0), .lit (.int .i64 3), .lit (.int .i64 0), .lit (.int .i64 1), .lit (.int .i64 0), .lit (.int .i64 0), .lit (.int .i64 1), .lit (.int .i64 0), .lit (.int .i64 1), .lit (.int .i64 1), .lit (.int .i64 1), .lit (.int .i64 1), .lit (.int .i64 3), .lit (.int .i64 0), .lit (.int .i64 2), .lit (.int .i64 1), .lit (.int .i64 0), .lit (.int .i64 0), .lit (.int .i64 0), .lit (.int .i64 0), .lit (.int .i64 1), .lit (.int .i64 0), .lit (.int .i64 0), .lit (.int .i64 2), .lit (.int .i64 1), .lit (.int .i64 1)]
def laid_treemerge_grammar_partsOfFunc {H : Type} : DataW H := .agg [.lit (.int .i64 3), .lit (.int .i64 5), .lit (.int .i64 6)]
def laid_treemerge_grammar_texts {H : Type} : DataW H := .agg [.lit (.int .i64 0), .lit (.int .i64 0), .lit (.int .i64 1), .lit (.int .i64 0), .lit (.int .i64 1), .lit (.int .i64 1), .lit (.int .i64 0), .lit (.int .i64 1), .lit (.int .i64 2), .lit (.int .i64 1), .lit (.int .i64 1), .lit (.int .i64 1), .lit (.int .i64 0), .lit (.int .i64 0), .lit (.int .i64 0), .lit (.int .i64 0), .lit (.int .i64 0), .lit (.int .i64 3), .lit (.int .i64 4), .lit (.int .i64 1), .lit (.int .i64 1), .lit (.int .i64 1), .lit (.int .i64 1), .lit (.int .i64 4), .lit (.int .i64 4), .lit (.int .i64 4), .lit (.int .i64 0)]
def laid_math_bits_deBruijn32tab {H : Type} : DataW H := .agg [.lit (.int .u8 0), .lit (.int .u8 1), .lit (.int .u8 28), .lit (.int .u8 2), .lit (.int .u8 29), .lit (.int .u8 14), .lit (.int .u8 24), .lit (.int .u8 3), .lit (.int .u8 30), .lit (.int .u8 22), .lit (.int .u8 20), .lit (.int .u8 15), .lit (.int .u8 25), .lit (.int .u8 17), .lit (.int .u8 4), .lit (.int .u8 8), .lit (.int .u8 31), .lit (.int .u8 27), .lit (.int .u8 13), .lit (.int .u8 23), .lit (.int .u8 21), .lit (.int .u8 19), .lit (.int .u8 16), .lit (.int .u8 7), .lit (.int .u8 26), .lit (.int .u8 12), .lit (.int .u8 18), .lit (.int .u8 6), .lit (.int .u8 11), .lit (.int .u8 5), .lit (.int .u8 10), .lit (.int .u8 9)]
def laid_math_bits_deBruijn64tab {H : Type} : DataW H := .agg [.lit (.int .u8 0), .lit (.int .u8 1), .lit (.int .u8 56), .lit (.int .u8 2), .lit (.int .u8 57), .lit (.int .u8 49), .lit (.int .u8 28), .lit (.int .u8 3), .lit (.int .u8 61), .lit (.int .u8 58), .lit (.int .u8 42), .lit (.int .u8 50), .lit (.int .u8 38), .lit (.int .u8 29), .lit (.int .u8 17), .lit (.int .u8 4), .lit (.int .u8 62), .lit (.int .u8 47), .lit (.int .u8 59), .lit (.int .u8 36), .lit (.int .u8 45), .lit (.int .u8 43), .lit (.int .u8 51), .lit (.int .u8 22), .lit (.int .u8 53), .lit (.int .u8 39), .lit (.int .u8 33), .lit (.int .u8 30), .lit (.int .u8 24), .lit (.int .u8 18), .lit (.int .u8 12), .lit (.int .u8 5), .lit (.int .u8 63), .lit (.int .u8 55), .lit (.int .u8 48), .lit (.int .u8 27), .lit (.int .u8 60), .lit (.int .u8 41), .lit (.int .u8 37), .lit (.int .u8 16), .lit (.int .u8 46), .lit (.int .u8 35), .lit (.int .u8 44), .lit (.int .u8 21), .lit (.int .u8 52), .lit (.int .u8 32), .lit (.int .u8 23), .lit (.int .u8 11), .lit (.int .u8 54), .lit (.int .u8 26), .lit (.int .u8 40), .lit (.int .u8 15), .lit (.int .u8 34), .lit (.int .u8 20), .lit (.int .u8 31), .lit (.int .u8 10), .lit (.int .u8 25), .lit (.int .u8 14), .lit (.int .u8 19), .lit (.int .u8 9), .lit (.int .u8 13), .lit (.int .u8 8), .lit (.int .u8 7), .lit (.int .u8 6)]
def laid_internal_strconv_uint64pow10 {H : Type} : DataW H := .agg [.lit (.int .u64 1), .lit (.int .u64 10), .lit (.int .u64 100), .lit (.int .u64 1000), .lit (.int .u64 10000), .lit (.int .u64 100000), .lit (.int .u64 1000000), .lit (.int .u64 10000000), .lit (.int .u64 100000000), .lit (.int .u64 1000000000), .lit (.int .u64 10000000000), .lit (.int .u64 100000000000), .lit (.int .u64 1000000000000), .lit (.int .u64 10000000000000), .lit (.int .u64 100000000000000), .lit (.int .u64 1000000000000000), .lit (.int .u64 10000000000000000), .lit (.int .u64 100000000000000000), .lit (.int .u64 1000000000000000000), .lit (.int .u64 10000000000000000000)]
def laid_strconv_ErrRange {H : Type} : DataW H := .iface "*errors.errorString" (.ptr (.agg [.lit (.string [118, 97, 108, 117, 101, 32, 111, 117, 116, 32, 111, 102, 32, 114, 97, 110, 103, 101])]))
def laid_strconv_ErrSyntax {H : Type} : DataW H := .iface "*errors.errorString" (.ptr (.agg [.lit (.string [105, 110, 118, 97, 108, 105, 100, 32, 115, 121, 110, 116, 97, 120])]))

/-- 'treemergelaw08.PrintWords': WHATEVER THE INPUT: true; the input reads as it did. -/
def printWordsSpec : ChangeSpec := { name := "printWords", fn := fun _ => fun
  | [d] => { results := [.lit (.bool true)], args := [d] }
  | _ => none }
def printWordsRow : OpenClaim := { program := "ytiaajpdcacdngaagreatdoor", sum := "980fcd30457e57ec8280e6ade92d5648015d40165ddc946bfa0dc93bcee308e0", func := "treemerge/treemergelaw08.PrintWords", spec := "printWords", inPlace := ["internal/bytealg.IndexByteString", "internal/abi.NoEscape", "internal/bytealg.MakeNoZero"], unfollowed := true, recurses := true, named := ["treemerge/grammar.least", "treemerge/grammar.partsOfFunc", "treemerge/grammar.groups", "treemerge/grammar.texts", "treemerge/grammar.owns"], loops := true, apart := false, laid := [("treemerge/grammar.groups", laid_treemerge_grammar_groups), ("treemerge/grammar.owns", laid_treemerge_grammar_owns), ("treemerge/grammar.least", laid_treemerge_grammar_least), ("treemerge/grammar.partsOfFunc", laid_treemerge_grammar_partsOfFunc), ("treemerge/grammar.texts", laid_treemerge_grammar_texts)] }
def PrintWordsSaid : Prop := printWordsRow.holds Tryz.pinned (OpenSpec.ofChange printWordsSpec)

/-- ITS FALSE NEIGHBOUR: 'it returns false'. Refute it at one input. -/
def printWordsWrong : ChangeSpec := { name := "printWords", fn := fun _ => fun
  | [d] => { results := [.lit (.bool false)], args := [d] }
  | _ => none }
def PrintWordsWrongFalsely : Prop := printWordsRow.holds Tryz.pinned (OpenSpec.ofChange printWordsWrong)

/-- 'treemergelaw08.PrintTexts': WHATEVER THE INPUT: true; the input reads as it did. -/
def printTextsSpec : ChangeSpec := { name := "printTexts", fn := fun _ => fun
  | [d] => { results := [.lit (.bool true)], args := [d] }
  | _ => none }
def printTextsRow : OpenClaim := { program := "ytiaajpdcacdngaagreatdoor", sum := "980fcd30457e57ec8280e6ade92d5648015d40165ddc946bfa0dc93bcee308e0", func := "treemerge/treemergelaw08.PrintTexts", spec := "printTexts", inPlace := ["internal/bytealg.IndexByteString", "internal/abi.NoEscape", "internal/bytealg.MakeNoZero"], unfollowed := true, recurses := true, named := ["treemerge/grammar.least", "treemerge/grammar.partsOfFunc", "treemerge/grammar.groups", "treemerge/grammar.texts", "treemerge/grammar.owns"], loops := true, apart := false, laid := [("treemerge/grammar.groups", laid_treemerge_grammar_groups), ("treemerge/grammar.owns", laid_treemerge_grammar_owns), ("treemerge/grammar.least", laid_treemerge_grammar_least), ("treemerge/grammar.partsOfFunc", laid_treemerge_grammar_partsOfFunc), ("treemerge/grammar.texts", laid_treemerge_grammar_texts)] }
def PrintTextsSaid : Prop := printTextsRow.holds Tryz.pinned (OpenSpec.ofChange printTextsSpec)

/-- ITS FALSE NEIGHBOUR: 'it returns false'. Refute it at one input. -/
def printTextsWrong : ChangeSpec := { name := "printTexts", fn := fun _ => fun
  | [d] => { results := [.lit (.bool false)], args := [d] }
  | _ => none }
def PrintTextsWrongFalsely : Prop := printTextsRow.holds Tryz.pinned (OpenSpec.ofChange printTextsWrong)

/-- 'treemergelaw08.PrintLays': WHATEVER THE INPUT: true; the input reads as it did. -/
def printLaysSpec : ChangeSpec := { name := "printLays", fn := fun _ => fun
  | [d] => { results := [.lit (.bool true)], args := [d] }
  | _ => none }
def printLaysRow : OpenClaim := { program := "ytiaajpdcacdngaagreatdoor", sum := "980fcd30457e57ec8280e6ade92d5648015d40165ddc946bfa0dc93bcee308e0", func := "treemerge/treemergelaw08.PrintLays", spec := "printLays", inPlace := ["internal/bytealg.IndexByteString", "internal/abi.NoEscape", "internal/bytealg.MakeNoZero"], unfollowed := true, recurses := true, named := ["treemerge/grammar.least", "treemerge/grammar.partsOfFunc", "treemerge/grammar.groups", "treemerge/grammar.texts", "treemerge/grammar.owns"], loops := true, apart := false, laid := [("treemerge/grammar.groups", laid_treemerge_grammar_groups), ("treemerge/grammar.owns", laid_treemerge_grammar_owns), ("treemerge/grammar.least", laid_treemerge_grammar_least), ("treemerge/grammar.partsOfFunc", laid_treemerge_grammar_partsOfFunc), ("treemerge/grammar.texts", laid_treemerge_grammar_texts)] }
def PrintLaysSaid : Prop := printLaysRow.holds Tryz.pinned (OpenSpec.ofChange printLaysSpec)

/-- ITS FALSE NEIGHBOUR: 'it returns false'. Refute it at one input. -/
def printLaysWrong : ChangeSpec := { name := "printLays", fn := fun _ => fun
  | [d] => { results := [.lit (.bool false)], args := [d] }
  | _ => none }
def PrintLaysWrongFalsely : Prop := printLaysRow.holds Tryz.pinned (OpenSpec.ofChange printLaysWrong)

/-- 'treemergelaw08.PrintLayout': WHATEVER THE INPUT: true; the input reads as it did. -/
def printLayoutSpec : ChangeSpec := { name := "printLayout", fn := fun _ => fun
  | [d] => { results := [.lit (.bool true)], args := [d] }
  | _ => none }
def printLayoutRow : OpenClaim := { program := "ytiaajpdcacdngaagreatdoor", sum := "980fcd30457e57ec8280e6ade92d5648015d40165ddc946bfa0dc93bcee308e0", func := "treemerge/treemergelaw08.PrintLayout", spec := "printLayout", inPlace := ["internal/bytealg.IndexByteString", "internal/abi.NoEscape", "internal/bytealg.MakeNoZero"], unfollowed := true, recurses := true, named := ["treemerge/grammar.least", "treemerge/grammar.partsOfFunc", "treemerge/grammar.groups", "treemerge/grammar.texts", "treemerge/grammar.owns"], loops := true, apart := false, laid := [("treemerge/grammar.groups", laid_treemerge_grammar_groups), ("treemerge/grammar.owns", laid_treemerge_grammar_owns), ("treemerge/grammar.least", laid_treemerge_grammar_least), ("treemerge/grammar.partsOfFunc", laid_treemerge_grammar_partsOfFunc), ("treemerge/grammar.texts", laid_treemerge_grammar_texts)] }
def PrintLayoutSaid : Prop := printLayoutRow.holds Tryz.pinned (OpenSpec.ofChange printLayoutSpec)

/-- ITS FALSE NEIGHBOUR: 'it returns false'. Refute it at one input. -/
def printLayoutWrong : ChangeSpec := { name := "printLayout", fn := fun _ => fun
  | [d] => { results := [.lit (.bool false)], args := [d] }
  | _ => none }
def PrintLayoutWrongFalsely : Prop := printLayoutRow.holds Tryz.pinned (OpenSpec.ofChange printLayoutWrong)

/-- 'treemergelaw08.PrintTokens': WHATEVER THE INPUT: true; the input reads as it did. -/
def printTokensSpec : ChangeSpec := { name := "printTokens", fn := fun _ => fun
  | [d] => { results := [.lit (.bool true)], args := [d] }
  | _ => none }
def printTokensRow : OpenClaim := { program := "ytiaajpdcacdngaagreatdoor", sum := "980fcd30457e57ec8280e6ade92d5648015d40165ddc946bfa0dc93bcee308e0", func := "treemerge/treemergelaw08.PrintTokens", spec := "printTokens", inPlace := ["internal/bytealg.IndexByteString", "internal/abi.NoEscape", "internal/bytealg.MakeNoZero"], unfollowed := true, recurses := true, named := ["treemerge/grammar.least", "treemerge/grammar.partsOfFunc", "treemerge/grammar.groups", "treemerge/grammar.texts", "treemerge/grammar.owns", "strconv.ErrSyntax", "strconv.ErrRange", "internal/strconv.uint64pow10", "math/bits.deBruijn32tab", "math/bits.deBruijn64tab"], loops := true, apart := false, laid := [("math/bits.deBruijn32tab", laid_math_bits_deBruijn32tab), ("math/bits.deBruijn64tab", laid_math_bits_deBruijn64tab), ("internal/strconv.uint64pow10", laid_internal_strconv_uint64pow10), ("strconv.ErrRange", laid_strconv_ErrRange), ("strconv.ErrSyntax", laid_strconv_ErrSyntax), ("treemerge/grammar.groups", laid_treemerge_grammar_groups), ("treemerge/grammar.owns", laid_treemerge_grammar_owns), ("treemerge/grammar.least", laid_treemerge_grammar_least), ("treemerge/grammar.partsOfFunc", laid_treemerge_grammar_partsOfFunc), ("treemerge/grammar.texts", laid_treemerge_grammar_texts)] }
def PrintTokensSaid : Prop := printTokensRow.holds Tryz.pinned (OpenSpec.ofChange printTokensSpec)

/-- ITS FALSE NEIGHBOUR: 'it returns false'. Refute it at one input. -/
def printTokensWrong : ChangeSpec := { name := "printTokens", fn := fun _ => fun
  | [d] => { results := [.lit (.bool false)], args := [d] }
  | _ => none }
def PrintTokensWrongFalsely : Prop := printTokensRow.holds Tryz.pinned (OpenSpec.ofChange printTokensWrong)

/-- 'treemergelaw08.PrintNumbers': WHATEVER THE INPUT: true; the input reads as it did. -/
def printNumbersSpec : ChangeSpec := { name := "printNumbers", fn := fun _ => fun
  | [d] => { results := [.lit (.bool true)], args := [d] }
  | _ => none }
def printNumbersRow : OpenClaim := { program := "ytiaajpdcacdngaagreatdoor", sum := "980fcd30457e57ec8280e6ade92d5648015d40165ddc946bfa0dc93bcee308e0", func := "treemerge/treemergelaw08.PrintNumbers", spec := "printNumbers", inPlace := ["internal/bytealg.IndexByteString", "internal/abi.NoEscape", "internal/bytealg.MakeNoZero"], unfollowed := true, recurses := true, named := ["treemerge/grammar.least", "treemerge/grammar.partsOfFunc", "treemerge/grammar.groups", "treemerge/grammar.texts", "treemerge/grammar.owns"], loops := true, apart := false, laid := [("treemerge/grammar.groups", laid_treemerge_grammar_groups), ("treemerge/grammar.owns", laid_treemerge_grammar_owns), ("treemerge/grammar.least", laid_treemerge_grammar_least), ("treemerge/grammar.partsOfFunc", laid_treemerge_grammar_partsOfFunc), ("treemerge/grammar.texts", laid_treemerge_grammar_texts)] }
def PrintNumbersSaid : Prop := printNumbersRow.holds Tryz.pinned (OpenSpec.ofChange printNumbersSpec)

/-- ITS FALSE NEIGHBOUR: 'it returns false'. Refute it at one input. -/
def printNumbersWrong : ChangeSpec := { name := "printNumbers", fn := fun _ => fun
  | [d] => { results := [.lit (.bool false)], args := [d] }
  | _ => none }
def PrintNumbersWrongFalsely : Prop := printNumbersRow.holds Tryz.pinned (OpenSpec.ofChange printNumbersWrong)

/- THE SECOND FORM. 'bulk': how many values and letters a reading holds, each counted each time it is reached (what is shared counts as often as it is met; a slice's spare places count too). A statement '..UptoSaid' is the law's where the arguments, and the package variables that the reading takes, are together of bulk at most 1048576: NARROWER than '..Said'. Prove '..Said' where nothing that the law and all that it calls make is longer than what came in: it says more and counts as full. Else prove '..UptoSaid'. A law counts once. -/
mutual
def uptoBulk {H : Type} : DataW H → Nat
  | .lit (.string bytes) => bytes.length + 1
  | .lit _ => 1
  | .nil => 1
  | .ptr d => uptoBulk d + 1
  | .slice elems spare => uptoBulkAll elems + uptoBulkAll spare + 1
  | .agg parts => uptoBulkAll parts + 1
  | .iface _ d => uptoBulk d + 1
  | .map entries => uptoBulkEntries entries + 1
  | .held _ => 1
def uptoBulkAll {H : Type} : List (DataW H) → Nat
  | [] => 0
  | d :: r => uptoBulk d + uptoBulkAll r
def uptoBulkEntries {H : Type} : List (Lit × DataW H) → Nat
  | [] => 0
  | x :: r => uptoBulkEntry x + uptoBulkEntries r
def uptoBulkEntry {H : Type} : Lit × DataW H → Nat
  | (.string bytes, d) => bytes.length + uptoBulk d + 1
  | (_, d) => uptoBulk d + 1
 end
def uptoSmall : (H : Type) → List (DataW H) → Bool := fun _ ds => decide (uptoBulkAll ds ≤ 1048576)
def OpenSpec.upto (s : _root_.Go.ChangeSpec) : _root_.Go.OpenSpec := { _root_.Go.OpenSpec.ofChange s with cond := some uptoSmall }

/-- 'treemergelaw08.PrintWords', WHERE WHAT IT READS IS OF BULK AT MOST 1048576: true; the input reads as it did. -/
def printWordsUptoRow : OpenClaim := { program := "ytiaajpdcacdngaagreatdoor", sum := "980fcd30457e57ec8280e6ade92d5648015d40165ddc946bfa0dc93bcee308e0", func := "treemerge/treemergelaw08.PrintWords", spec := "printWords", inPlace := ["internal/bytealg.IndexByteString", "internal/abi.NoEscape", "internal/bytealg.MakeNoZero"], unfollowed := true, recurses := true, named := ["treemerge/grammar.least", "treemerge/grammar.partsOfFunc", "treemerge/grammar.groups", "treemerge/grammar.texts", "treemerge/grammar.owns"], loops := true, apart := false, laid := [("treemerge/grammar.groups", laid_treemerge_grammar_groups), ("treemerge/grammar.owns", laid_treemerge_grammar_owns), ("treemerge/grammar.least", laid_treemerge_grammar_least), ("treemerge/grammar.partsOfFunc", laid_treemerge_grammar_partsOfFunc), ("treemerge/grammar.texts", laid_treemerge_grammar_texts)], narrowed := true }
def PrintWordsUptoSaid : Prop := printWordsUptoRow.holds Tryz.pinned (OpenSpec.upto printWordsSpec)

/-- 'treemergelaw08.PrintTexts', WHERE WHAT IT READS IS OF BULK AT MOST 1048576: true; the input reads as it did. -/
def printTextsUptoRow : OpenClaim := { program := "ytiaajpdcacdngaagreatdoor", sum := "980fcd30457e57ec8280e6ade92d5648015d40165ddc946bfa0dc93bcee308e0", func := "treemerge/treemergelaw08.PrintTexts", spec := "printTexts", inPlace := ["internal/bytealg.IndexByteString", "internal/abi.NoEscape", "internal/bytealg.MakeNoZero"], unfollowed := true, recurses := true, named := ["treemerge/grammar.least", "treemerge/grammar.partsOfFunc", "treemerge/grammar.groups", "treemerge/grammar.texts", "treemerge/grammar.owns"], loops := true, apart := false, laid := [("treemerge/grammar.groups", laid_treemerge_grammar_groups), ("treemerge/grammar.owns", laid_treemerge_grammar_owns), ("treemerge/grammar.least", laid_treemerge_grammar_least), ("treemerge/grammar.partsOfFunc", laid_treemerge_grammar_partsOfFunc), ("treemerge/grammar.texts", laid_treemerge_grammar_texts)], narrowed := true }
def PrintTextsUptoSaid : Prop := printTextsUptoRow.holds Tryz.pinned (OpenSpec.upto printTextsSpec)

/-- 'treemergelaw08.PrintLays', WHERE WHAT IT READS IS OF BULK AT MOST 1048576: true; the input reads as it did. -/
def printLaysUptoRow : OpenClaim := { program := "ytiaajpdcacdngaagreatdoor", sum := "980fcd30457e57ec8280e6ade92d5648015d40165ddc946bfa0dc93bcee308e0", func := "treemerge/treemergelaw08.PrintLays", spec := "printLays", inPlace := ["internal/bytealg.IndexByteString", "internal/abi.NoEscape", "internal/bytealg.MakeNoZero"], unfollowed := true, recurses := true, named := ["treemerge/grammar.least", "treemerge/grammar.partsOfFunc", "treemerge/grammar.groups", "treemerge/grammar.texts", "treemerge/grammar.owns"], loops := true, apart := false, laid := [("treemerge/grammar.groups", laid_treemerge_grammar_groups), ("treemerge/grammar.owns", laid_treemerge_grammar_owns), ("treemerge/grammar.least", laid_treemerge_grammar_least), ("treemerge/grammar.partsOfFunc", laid_treemerge_grammar_partsOfFunc), ("treemerge/grammar.texts", laid_treemerge_grammar_texts)], narrowed := true }
def PrintLaysUptoSaid : Prop := printLaysUptoRow.holds Tryz.pinned (OpenSpec.upto printLaysSpec)

/-- 'treemergelaw08.PrintLayout', WHERE WHAT IT READS IS OF BULK AT MOST 1048576: true; the input reads as it did. -/
def printLayoutUptoRow : OpenClaim := { program := "ytiaajpdcacdngaagreatdoor", sum := "980fcd30457e57ec8280e6ade92d5648015d40165ddc946bfa0dc93bcee308e0", func := "treemerge/treemergelaw08.PrintLayout", spec := "printLayout", inPlace := ["internal/bytealg.IndexByteString", "internal/abi.NoEscape", "internal/bytealg.MakeNoZero"], unfollowed := true, recurses := true, named := ["treemerge/grammar.least", "treemerge/grammar.partsOfFunc", "treemerge/grammar.groups", "treemerge/grammar.texts", "treemerge/grammar.owns"], loops := true, apart := false, laid := [("treemerge/grammar.groups", laid_treemerge_grammar_groups), ("treemerge/grammar.owns", laid_treemerge_grammar_owns), ("treemerge/grammar.least", laid_treemerge_grammar_least), ("treemerge/grammar.partsOfFunc", laid_treemerge_grammar_partsOfFunc), ("treemerge/grammar.texts", laid_treemerge_grammar_texts)], narrowed := true }
def PrintLayoutUptoSaid : Prop := printLayoutUptoRow.holds Tryz.pinned (OpenSpec.upto printLayoutSpec)

/-- 'treemergelaw08.PrintTokens', WHERE WHAT IT READS IS OF BULK AT MOST 1048576: true; the input reads as it did. -/
def printTokensUptoRow : OpenClaim := { program := "ytiaajpdcacdngaagreatdoor", sum := "980fcd30457e57ec8280e6ade92d5648015d40165ddc946bfa0dc93bcee308e0", func := "treemerge/treemergelaw08.PrintTokens", spec := "printTokens", inPlace := ["internal/bytealg.IndexByteString", "internal/abi.NoEscape", "internal/bytealg.MakeNoZero"], unfollowed := true, recurses := true, named := ["treemerge/grammar.least", "treemerge/grammar.partsOfFunc", "treemerge/grammar.groups", "treemerge/grammar.texts", "treemerge/grammar.owns", "strconv.ErrSyntax", "strconv.ErrRange", "internal/strconv.uint64pow10", "math/bits.deBruijn32tab", "math/bits.deBruijn64tab"], loops := true, apart := false, laid := [("math/bits.deBruijn32tab", laid_math_bits_deBruijn32tab), ("math/bits.deBruijn64tab", laid_math_bits_deBruijn64tab), ("internal/strconv.uint64pow10", laid_internal_strconv_uint64pow10), ("strconv.ErrRange", laid_strconv_ErrRange), ("strconv.ErrSyntax", laid_strconv_ErrSyntax), ("treemerge/grammar.groups", laid_treemerge_grammar_groups), ("treemerge/grammar.owns", laid_treemerge_grammar_owns), ("treemerge/grammar.least", laid_treemerge_grammar_least), ("treemerge/grammar.partsOfFunc", laid_treemerge_grammar_partsOfFunc), ("treemerge/grammar.texts", laid_treemerge_grammar_texts)], narrowed := true }
def PrintTokensUptoSaid : Prop := printTokensUptoRow.holds Tryz.pinned (OpenSpec.upto printTokensSpec)

/-- 'treemergelaw08.PrintNumbers', WHERE WHAT IT READS IS OF BULK AT MOST 1048576: true; the input reads as it did. -/
def printNumbersUptoRow : OpenClaim := { program := "ytiaajpdcacdngaagreatdoor", sum := "980fcd30457e57ec8280e6ade92d5648015d40165ddc946bfa0dc93bcee308e0", func := "treemerge/treemergelaw08.PrintNumbers", spec := "printNumbers", inPlace := ["internal/bytealg.IndexByteString", "internal/abi.NoEscape", "internal/bytealg.MakeNoZero"], unfollowed := true, recurses := true, named := ["treemerge/grammar.least", "treemerge/grammar.partsOfFunc", "treemerge/grammar.groups", "treemerge/grammar.texts", "treemerge/grammar.owns"], loops := true, apart := false, laid := [("treemerge/grammar.groups", laid_treemerge_grammar_groups), ("treemerge/grammar.owns", laid_treemerge_grammar_owns), ("treemerge/grammar.least", laid_treemerge_grammar_least), ("treemerge/grammar.partsOfFunc", laid_treemerge_grammar_partsOfFunc), ("treemerge/grammar.texts", laid_treemerge_grammar_texts)], narrowed := true }
def PrintNumbersUptoSaid : Prop := printNumbersUptoRow.holds Tryz.pinned (OpenSpec.upto printNumbersSpec)

end Rows
end Go.Proofs.YtiaajpdcacdngaaGreatDoor
