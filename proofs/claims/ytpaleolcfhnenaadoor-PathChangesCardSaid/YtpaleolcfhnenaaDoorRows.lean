/-
  NARROWER THAN 'FOR EVERY INPUT', by the rows' own cells (each row's printed sentence says how): PathFinds: loops, laid · PathChanges: loops, laid · PathReplaces: loops, laid · PathIndexes: loops, laid · PathRemoves: loops, laid · PathBack: loops, laid.
  DERIVED. THE GIVEN ROWS OF THIS SEAT. 6 by the template 'for every input the law returns true; each argument reads behind the call as it read before'; 0 by the template 'total and deterministic' (their statements: YtpaleolcfhnenaaDoorTotals.lean).
  GIVEN WITH THE SEED: the statements are not yours to turn. If you find one false, say at which input.
  Laid BY PROGRAM, IN A SANDBOX (cutbox-rows.mjs): the forced cells as the released guide's own fill.sh prints them over the translation 8346e8e2ca26dcea… (all of the seat's roots in one cut). By AI agents, Wed Nov 11 2026. No macro, syntax, notation, axiom, sorry.
-/
import Derived.Test.YtpaleolcfhnenaaDoorChecked
import GoSem.Claim
import GoSem.ClaimJoined
import GoSem.ClaimMapViews
import Derived.JoinedTies
import Derived.KernelRfl
namespace Go.Proofs.YtpaleolcfhnenaaDoor
/- THE CELL 'sum', in the pinned program and in every row, IS THE sha256 OF THE DUMP (.gsa) THAT YtpaleolcfhnenaaDoorProg.lean LOADS. Nothing in Lean hashes anything: it is a label: what it is worth is what the hold of that sum in a sandbox is worth. -/
noncomputable def Tryd.pinned : Pinned := { name := "ytpaleolcfhnenaadoor", sum := "8346e8e2ca26dcea3620511431f180980f821e23ff12fd4f3624beb017dc8212", checked := Tryd.checked }
namespace Rows
def none {H : Type} : Left H := { results := [], args := [] }

/- WHAT THE LISTED PACKAGE-LEVEL VARIABLES READ AS WHEN THE CALL BEGINS. Each datum BY PROGRAM (the guide's laid-datum.mjs) off the statement by which the dump's own 'gosem.cut.vars' lays the variable. In a bare row this is a premise. The card (YtpaleolcfhnenaaDoorCards.lean) ties it to the program's text. -/
def laid_treemerge_grammar_groups {H : Type} : DataW H := .agg [.lit (.int .i64 0), .lit (.int .i64 0), .lit (.int .i64 1), .lit (.int .i64 0), .lit (.int .i64 0), .lit (.int .i64 0), .lit (.int .i64 0), .lit (.int .i64 1), .lit (.int .i64 0), .lit (.int .i64 1), .lit (.int .i64 2), .lit (.int .i64 2), .lit (.int .i64 2), .lit (.int .i64 2), .lit (.int .i64 0), .lit (.int .i64 2), .lit (.int .i64 2), .lit (.int .i64 3), .lit (.int .i64 3), .lit (.int .i64 3), .lit (.int .i64 3), .lit (.int .i64 3), .lit (.int .i64 3), .lit (.int .i64 3), .lit (.int .i64 3), .lit (.int .i64 3), .lit (.int .i64 3)]
def laid_treemerge_grammar_owns {H : Type} : DataW H := .agg [.lit (.int .i64 0), .lit (.int .i64 1), .lit (.int .i64 2), .lit (.int .i64 2), .lit (.int .i64 1), .lit (.int .i64 1), .lit (.int .i64 2), .lit (.int .i64 4), .lit (.int .i64 2), .lit (.int .i64 4), .lit (.int .i64 4), .lit (.int .i64 3), .lit (.int .i64 2), .lit (.int .i64 1), .lit (.int .i64 1), .lit (.int .i64 1), .lit (.int .i64 1), .lit (.int .i64 1), .lit (.int .i64 1), .lit (.int .i64 1), .lit (.int .i64 3), .lit (.int .i64 4), .lit (.int .i64 4), .lit (.int .i64 1), .lit (.int .i64 1), .lit (.int .i64 1), .lit (.int .i64 2)]
def laid_treemerge_grammar_least {H : Type} : DataW H := .agg [.lit (.int .i64 0), .lit (.int .i64 0), .lit (.int .i64 3), .lit (.int .i64 0), .lit (.int .i64 1), .lit (.int .i64 0), .lit (.int .i64 0), .lit (.int .i64 1), .lit (.int .i64 0), .lit (.int .i64 1), .lit (.int .i64 1), .lit (.int .i64 1), .lit (.int .i64 1), .lit (.int .i64 3), .lit (.int .i64 0), .lit (.int .i64 2), .lit (.int .i64 1), .lit (.int .i64 0), .lit (.int .i64 0), .lit (.int .i64 0), .lit (.int .i64 0), .lit (.int .i64 1), .lit (.int .i64 0), .lit (.int .i64 0), .lit (.int .i64 2), .lit (.int .i64 1), .lit (.int .i64 1)]
def laid_treemerge_grammar_partsOfFunc {H : Type} : DataW H := .agg [.lit (.int .i64 3), .lit (.int .i64 5), .lit (.int .i64 6)]
def laid_treemerge_grammar_texts {H : Type} : DataW H := .agg [.lit (.int .i64 0), .lit (.int .i64 0), .lit (.int .i64 1), .lit (.int .i64 0), .lit (.int .i64 1), .lit (.int .i64 1), .lit (.int .i64 0), .lit (.int .i64 1), .lit (.int .i64 2), .lit (.int .i64 1), .lit (.int .i64 1), .lit (.int .i64 1), .lit (.int .i64 0), .lit (.int .i64 0), .lit (.int .i64 0), .lit (.int .i64 0), .lit (.int .i64 0), .lit (.int .i64 3), .lit (.int .i64 4), .lit (.int .i64 1), .lit (.int .i64 1), .lit (.int .i64 1), .lit (.int .i64 1), .lit (.int .i64 4), .lit (.int .i64 4), .lit (.int .i64 4), .lit (.int .i64 0)]

/-- 'treemergelaw10.PathFinds': WHATEVER THE INPUT: true; the input reads as it did. -/
def pathFindsSpec : ChangeSpec := { name := "pathFinds", fn := fun _ => fun
  | [d1, d2, d3] => { results := [.lit (.bool true)], args := [d1, d2, d3] }
  | _ => none }
def pathFindsRow : OpenClaim := { program := "ytpaleolcfhnenaadoor", sum := "8346e8e2ca26dcea3620511431f180980f821e23ff12fd4f3624beb017dc8212", func := "treemerge/treemergelaw10.PathFinds", spec := "pathFinds", inPlace := ["internal/bytealg.IndexByteString"], unfollowed := true, recurses := true, named := ["treemerge/grammar.least", "treemerge/grammar.partsOfFunc", "treemerge/grammar.groups", "treemerge/grammar.texts", "treemerge/grammar.owns"], loops := true, apart := false, laid := [("treemerge/grammar.groups", laid_treemerge_grammar_groups), ("treemerge/grammar.owns", laid_treemerge_grammar_owns), ("treemerge/grammar.least", laid_treemerge_grammar_least), ("treemerge/grammar.partsOfFunc", laid_treemerge_grammar_partsOfFunc), ("treemerge/grammar.texts", laid_treemerge_grammar_texts)] }
def PathFindsSaid : Prop := pathFindsRow.holds Tryd.pinned (OpenSpec.ofChange pathFindsSpec)

/-- ITS FALSE NEIGHBOUR: 'it returns false'. Refute it at one input. -/
def pathFindsWrong : ChangeSpec := { name := "pathFinds", fn := fun _ => fun
  | [d1, d2, d3] => { results := [.lit (.bool false)], args := [d1, d2, d3] }
  | _ => none }
def PathFindsWrongFalsely : Prop := pathFindsRow.holds Tryd.pinned (OpenSpec.ofChange pathFindsWrong)

/-- 'treemergelaw10.PathChanges': WHATEVER THE INPUT: true; the input reads as it did. -/
def pathChangesSpec : ChangeSpec := { name := "pathChanges", fn := fun _ => fun
  | [d1, d2, d3] => { results := [.lit (.bool true)], args := [d1, d2, d3] }
  | _ => none }
def pathChangesRow : OpenClaim := { program := "ytpaleolcfhnenaadoor", sum := "8346e8e2ca26dcea3620511431f180980f821e23ff12fd4f3624beb017dc8212", func := "treemerge/treemergelaw10.PathChanges", spec := "pathChanges", inPlace := ["internal/bytealg.IndexByteString"], unfollowed := true, recurses := true, named := ["treemerge/grammar.least", "treemerge/grammar.partsOfFunc", "treemerge/grammar.groups", "treemerge/grammar.texts", "treemerge/grammar.owns"], loops := true, apart := false, laid := [("treemerge/grammar.groups", laid_treemerge_grammar_groups), ("treemerge/grammar.owns", laid_treemerge_grammar_owns), ("treemerge/grammar.least", laid_treemerge_grammar_least), ("treemerge/grammar.partsOfFunc", laid_treemerge_grammar_partsOfFunc), ("treemerge/grammar.texts", laid_treemerge_grammar_texts)] }
def PathChangesSaid : Prop := pathChangesRow.holds Tryd.pinned (OpenSpec.ofChange pathChangesSpec)

/-- ITS FALSE NEIGHBOUR: 'it returns false'. Refute it at one input. -/
def pathChangesWrong : ChangeSpec := { name := "pathChanges", fn := fun _ => fun
  | [d1, d2, d3] => { results := [.lit (.bool false)], args := [d1, d2, d3] }
  | _ => none }
def PathChangesWrongFalsely : Prop := pathChangesRow.holds Tryd.pinned (OpenSpec.ofChange pathChangesWrong)

/-- 'treemergelaw10.PathReplaces': WHATEVER THE INPUT: true; the input reads as it did. -/
def pathReplacesSpec : ChangeSpec := { name := "pathReplaces", fn := fun _ => fun
  | [d1, d2, d3, d4] => { results := [.lit (.bool true)], args := [d1, d2, d3, d4] }
  | _ => none }
def pathReplacesRow : OpenClaim := { program := "ytpaleolcfhnenaadoor", sum := "8346e8e2ca26dcea3620511431f180980f821e23ff12fd4f3624beb017dc8212", func := "treemerge/treemergelaw10.PathReplaces", spec := "pathReplaces", inPlace := ["internal/bytealg.IndexByteString"], unfollowed := true, recurses := true, named := ["treemerge/grammar.least", "treemerge/grammar.partsOfFunc", "treemerge/grammar.groups", "treemerge/grammar.texts", "treemerge/grammar.owns"], loops := true, apart := false, laid := [("treemerge/grammar.groups", laid_treemerge_grammar_groups), ("treemerge/grammar.owns", laid_treemerge_grammar_owns), ("treemerge/grammar.least", laid_treemerge_grammar_least), ("treemerge/grammar.partsOfFunc", laid_treemerge_grammar_partsOfFunc), ("treemerge/grammar.texts", laid_treemerge_grammar_texts)] }
def PathReplacesSaid : Prop := pathReplacesRow.holds Tryd.pinned (OpenSpec.ofChange pathReplacesSpec)

/-- ITS FALSE NEIGHBOUR: 'it returns false'. Refute it at one input. -/
def pathReplacesWrong : ChangeSpec := { name := "pathReplaces", fn := fun _ => fun
  | [d1, d2, d3, d4] => { results := [.lit (.bool false)], args := [d1, d2, d3, d4] }
  | _ => none }
def PathReplacesWrongFalsely : Prop := pathReplacesRow.holds Tryd.pinned (OpenSpec.ofChange pathReplacesWrong)

/-- 'treemergelaw10.PathIndexes': WHATEVER THE INPUT: true; the input reads as it did. -/
def pathIndexesSpec : ChangeSpec := { name := "pathIndexes", fn := fun _ => fun
  | [d1, d2] => { results := [.lit (.bool true)], args := [d1, d2] }
  | _ => none }
def pathIndexesRow : OpenClaim := { program := "ytpaleolcfhnenaadoor", sum := "8346e8e2ca26dcea3620511431f180980f821e23ff12fd4f3624beb017dc8212", func := "treemerge/treemergelaw10.PathIndexes", spec := "pathIndexes", inPlace := ["internal/bytealg.IndexByteString"], unfollowed := true, recurses := true, named := ["treemerge/grammar.least", "treemerge/grammar.partsOfFunc", "treemerge/grammar.groups", "treemerge/grammar.texts", "treemerge/grammar.owns"], loops := true, apart := false, laid := [("treemerge/grammar.groups", laid_treemerge_grammar_groups), ("treemerge/grammar.owns", laid_treemerge_grammar_owns), ("treemerge/grammar.least", laid_treemerge_grammar_least), ("treemerge/grammar.partsOfFunc", laid_treemerge_grammar_partsOfFunc), ("treemerge/grammar.texts", laid_treemerge_grammar_texts)] }
def PathIndexesSaid : Prop := pathIndexesRow.holds Tryd.pinned (OpenSpec.ofChange pathIndexesSpec)

/-- ITS FALSE NEIGHBOUR: 'it returns false'. Refute it at one input. -/
def pathIndexesWrong : ChangeSpec := { name := "pathIndexes", fn := fun _ => fun
  | [d1, d2] => { results := [.lit (.bool false)], args := [d1, d2] }
  | _ => none }
def PathIndexesWrongFalsely : Prop := pathIndexesRow.holds Tryd.pinned (OpenSpec.ofChange pathIndexesWrong)

/-- 'treemergelaw10.PathRemoves': WHATEVER THE INPUT: true; the input reads as it did. -/
def pathRemovesSpec : ChangeSpec := { name := "pathRemoves", fn := fun _ => fun
  | [d1, d2, d3] => { results := [.lit (.bool true)], args := [d1, d2, d3] }
  | _ => none }
def pathRemovesRow : OpenClaim := { program := "ytpaleolcfhnenaadoor", sum := "8346e8e2ca26dcea3620511431f180980f821e23ff12fd4f3624beb017dc8212", func := "treemerge/treemergelaw10.PathRemoves", spec := "pathRemoves", inPlace := ["internal/bytealg.IndexByteString"], unfollowed := true, recurses := true, named := ["treemerge/grammar.least", "treemerge/grammar.partsOfFunc", "treemerge/grammar.groups", "treemerge/grammar.texts", "treemerge/grammar.owns"], loops := true, apart := false, laid := [("treemerge/grammar.groups", laid_treemerge_grammar_groups), ("treemerge/grammar.owns", laid_treemerge_grammar_owns), ("treemerge/grammar.least", laid_treemerge_grammar_least), ("treemerge/grammar.partsOfFunc", laid_treemerge_grammar_partsOfFunc), ("treemerge/grammar.texts", laid_treemerge_grammar_texts)] }
def PathRemovesSaid : Prop := pathRemovesRow.holds Tryd.pinned (OpenSpec.ofChange pathRemovesSpec)

/-- ITS FALSE NEIGHBOUR: 'it returns false'. Refute it at one input. -/
def pathRemovesWrong : ChangeSpec := { name := "pathRemoves", fn := fun _ => fun
  | [d1, d2, d3] => { results := [.lit (.bool false)], args := [d1, d2, d3] }
  | _ => none }
def PathRemovesWrongFalsely : Prop := pathRemovesRow.holds Tryd.pinned (OpenSpec.ofChange pathRemovesWrong)

/-- 'treemergelaw10.PathBack': WHATEVER THE INPUT: true; the input reads as it did. -/
def pathBackSpec : ChangeSpec := { name := "pathBack", fn := fun _ => fun
  | [d1, d2, d3] => { results := [.lit (.bool true)], args := [d1, d2, d3] }
  | _ => none }
def pathBackRow : OpenClaim := { program := "ytpaleolcfhnenaadoor", sum := "8346e8e2ca26dcea3620511431f180980f821e23ff12fd4f3624beb017dc8212", func := "treemerge/treemergelaw10.PathBack", spec := "pathBack", inPlace := ["internal/bytealg.IndexByteString"], unfollowed := true, recurses := true, named := ["treemerge/grammar.least", "treemerge/grammar.partsOfFunc", "treemerge/grammar.groups", "treemerge/grammar.texts", "treemerge/grammar.owns"], loops := true, apart := false, laid := [("treemerge/grammar.groups", laid_treemerge_grammar_groups), ("treemerge/grammar.owns", laid_treemerge_grammar_owns), ("treemerge/grammar.least", laid_treemerge_grammar_least), ("treemerge/grammar.partsOfFunc", laid_treemerge_grammar_partsOfFunc), ("treemerge/grammar.texts", laid_treemerge_grammar_texts)] }
def PathBackSaid : Prop := pathBackRow.holds Tryd.pinned (OpenSpec.ofChange pathBackSpec)

/-- ITS FALSE NEIGHBOUR: 'it returns false'. Refute it at one input. -/
def pathBackWrong : ChangeSpec := { name := "pathBack", fn := fun _ => fun
  | [d1, d2, d3] => { results := [.lit (.bool false)], args := [d1, d2, d3] }
  | _ => none }
def PathBackWrongFalsely : Prop := pathBackRow.holds Tryd.pinned (OpenSpec.ofChange pathBackWrong)

/- THE SECOND FORM. 'bulk': how many values and letters a reading holds, each counted each time it is reached (what is shared counts as often as it is met; a slice's spare places count too). A statement '..UptoSaid' is the law's where the arguments, and the package variables that the reading takes, are together of bulk at most 1048576: NARROWER than '..Said'. Prove '..Said' where nothing that the law and all that it calls make is longer than what came in: it says more and counts as full. Else prove '..UptoSaid'. A law counts once. -/
mutual
def uptoBulk {H : Type} : DataW H → Nat
  | .lit (.string bytes) => bytes.length + 1
  | .lit _ => 1
  | .nil => 1
  | .ptr d => uptoBulk d + 1
  | .slice elems spare => uptoBulkAll elems + uptoBulkAll spare + 1
  | .agg parts => uptoBulkAll parts + 1
  | .iface _ d => uptoBulk d + 1
  | .map entries => uptoBulkEntries entries + 1
  | .held _ => 1
def uptoBulkAll {H : Type} : List (DataW H) → Nat
  | [] => 0
  | d :: r => uptoBulk d + uptoBulkAll r
def uptoBulkEntries {H : Type} : List (Lit × DataW H) → Nat
  | [] => 0
  | x :: r => uptoBulkEntry x + uptoBulkEntries r
def uptoBulkEntry {H : Type} : Lit × DataW H → Nat
  | (.string bytes, d) => bytes.length + uptoBulk d + 1
  | (_, d) => uptoBulk d + 1
 end
def uptoSmall : (H : Type) → List (DataW H) → Bool := fun _ ds => decide (uptoBulkAll ds ≤ 1048576)
def OpenSpec.upto (s : _root_.Go.ChangeSpec) : _root_.Go.OpenSpec := { _root_.Go.OpenSpec.ofChange s with cond := some uptoSmall }

/-- 'treemergelaw10.PathFinds', WHERE WHAT IT READS IS OF BULK AT MOST 1048576: true; the input reads as it did. -/
def pathFindsUptoRow : OpenClaim := { program := "ytpaleolcfhnenaadoor", sum := "8346e8e2ca26dcea3620511431f180980f821e23ff12fd4f3624beb017dc8212", func := "treemerge/treemergelaw10.PathFinds", spec := "pathFinds", inPlace := ["internal/bytealg.IndexByteString"], unfollowed := true, recurses := true, named := ["treemerge/grammar.least", "treemerge/grammar.partsOfFunc", "treemerge/grammar.groups", "treemerge/grammar.texts", "treemerge/grammar.owns"], loops := true, apart := false, laid := [("treemerge/grammar.groups", laid_treemerge_grammar_groups), ("treemerge/grammar.owns", laid_treemerge_grammar_owns), ("treemerge/grammar.least", laid_treemerge_grammar_least), ("treemerge/grammar.partsOfFunc", laid_treemerge_grammar_partsOfFunc), ("treemerge/grammar.texts", laid_treemerge_grammar_texts)], narrowed := true }
def PathFindsUptoSaid : Prop := pathFindsUptoRow.holds Tryd.pinned (OpenSpec.upto pathFindsSpec)

/-- 'treemergelaw10.PathChanges', WHERE WHAT IT READS IS OF BULK AT MOST 1048576: true; the input reads as it did. -/
def pathChangesUptoRow : OpenClaim := { program := "ytpaleolcfhnenaadoor", sum := "8346e8e2ca26dcea3620511431f180980f821e23ff12fd4f3624beb017dc8212", func := "treemerge/treemergelaw10.PathChanges", spec := "pathChanges", inPlace := ["internal/bytealg.IndexByteString"], unfollowed := true, recurses := true, named := ["treemerge/grammar.least", "treemerge/grammar.partsOfFunc", "treemerge/grammar.groups", "treemerge/grammar.texts", "treemerge/grammar.owns"], loops := true, apart := false, laid := [("treemerge/grammar.groups", laid_treemerge_grammar_groups), ("treemerge/grammar.owns", laid_treemerge_grammar_owns), ("treemerge/grammar.least", laid_treemerge_grammar_least), ("treemerge/grammar.partsOfFunc", laid_treemerge_grammar_partsOfFunc), ("treemerge/grammar.texts", laid_treemerge_grammar_texts)], narrowed := true }
def PathChangesUptoSaid : Prop := pathChangesUptoRow.holds Tryd.pinned (OpenSpec.upto pathChangesSpec)

/-- 'treemergelaw10.PathReplaces', WHERE WHAT IT READS IS OF BULK AT MOST 1048576: true; the input reads as it did. -/
def pathReplacesUptoRow : OpenClaim := { program := "ytpaleolcfhnenaadoor", sum := "8346e8e2ca26dcea3620511431f180980f821e23ff12fd4f3624beb017dc8212", func := "treemerge/treemergelaw10.PathReplaces", spec := "pathReplaces", inPlace := ["internal/bytealg.IndexByteString"], unfollowed := true, recurses := true, named := ["treemerge/grammar.least", "treemerge/grammar.partsOfFunc", "treemerge/grammar.groups", "treemerge/grammar.texts", "treemerge/grammar.owns"], loops := true, apart := false, laid := [("treemerge/grammar.groups", laid_treemerge_grammar_groups), ("treemerge/grammar.owns", laid_treemerge_grammar_owns), ("treemerge/grammar.least", laid_treemerge_grammar_least), ("treemerge/grammar.partsOfFunc", laid_treemerge_grammar_partsOfFunc), ("treemerge/grammar.texts", laid_treemerge_grammar_texts)], narrowed := true }
def PathReplacesUptoSaid : Prop := pathReplacesUptoRow.holds Tryd.pinned (OpenSpec.upto pathReplacesSpec)

/-- 'treemergelaw10.PathIndexes', WHERE WHAT IT READS IS OF BULK AT MOST 1048576: true; the input reads as it did. -/
def pathIndexesUptoRow : OpenClaim := { program := "ytpaleolcfhnenaadoor", sum := "8346e8e2ca26dcea3620511431f180980f821e23ff12fd4f3624beb017dc8212", func := "treemerge/treemergelaw10.PathIndexes", spec := "pathIndexes", inPlace := ["internal/bytealg.IndexByteString"], unfollowed := true, recurses := true, named := ["treemerge/grammar.least", "treemerge/grammar.partsOfFunc", "treemerge/grammar.groups", "treemerge/grammar.texts", "treemerge/grammar.owns"], loops := true, apart := false, laid := [("treemerge/grammar.groups", laid_treemerge_grammar_groups), ("treemerge/grammar.owns", laid_treemerge_grammar_owns), ("treemerge/grammar.least", laid_treemerge_grammar_least), ("treemerge/grammar.partsOfFunc", laid_treemerge_grammar_partsOfFunc), ("treemerge/grammar.texts", laid_treemerge_grammar_texts)], narrowed := true }
def PathIndexesUptoSaid : Prop := pathIndexesUptoRow.holds Tryd.pinned (OpenSpec.upto pathIndexesSpec)

/-- 'treemergelaw10.PathRemoves', WHERE WHAT IT READS IS OF BULK AT MOST 1048576: true; the input reads as it did. -/
def pathRemovesUptoRow : OpenClaim := { program := "ytpaleolcfhnenaadoor", sum := "8346e8e2ca26dcea3620511431f180980f821e23ff12fd4f3624beb017dc8212", func := "treemerge/treemergelaw10.PathRemoves", spec := "pathRemoves", inPlace := ["internal/bytealg.IndexByteString"], unfollowed := true, recurses := true, named := ["treemerge/grammar.least", "treemerge/grammar.partsOfFunc", "treemerge/grammar.groups", "treemerge/grammar.texts", "treemerge/grammar.owns"], loops := true, apart := false, laid := [("treemerge/grammar.groups", laid_treemerge_grammar_groups), ("treemerge/grammar.owns", laid_treemerge_grammar_owns), ("treemerge/grammar.least", laid_treemerge_grammar_least), ("treemerge/grammar.partsOfFunc", laid_treemerge_grammar_partsOfFunc), ("treemerge/grammar.texts", laid_treemerge_grammar_texts)], narrowed := true }
def PathRemovesUptoSaid : Prop := pathRemovesUptoRow.holds Tryd.pinned (OpenSpec.upto pathRemovesSpec)

/-- 'treemergelaw10.PathBack', WHERE WHAT IT READS IS OF BULK AT MOST 1048576: true; the input reads as it did. -/
def pathBackUptoRow : OpenClaim := { program := "ytpaleolcfhnenaadoor", sum := "8346e8e2ca26dcea3620511431f180980f821e23ff12fd4f3624beb017dc8212", func := "treemerge/treemergelaw10.PathBack", spec := "pathBack", inPlace := ["internal/bytealg.IndexByteString"], unfollowed := true, recurses := true, named := ["treemerge/grammar.least", "treemerge/grammar.partsOfFunc", "treemerge/grammar.groups", "treemerge/grammar.texts", "treemerge/grammar.owns"], loops := true, apart := false, laid := [("treemerge/grammar.groups", laid_treemerge_grammar_groups), ("treemerge/grammar.owns", laid_treemerge_grammar_owns), ("treemerge/grammar.least", laid_treemerge_grammar_least), ("treemerge/grammar.partsOfFunc", laid_treemerge_grammar_partsOfFunc), ("treemerge/grammar.texts", laid_treemerge_grammar_texts)], narrowed := true }
def PathBackUptoSaid : Prop := pathBackUptoRow.holds Tryd.pinned (OpenSpec.upto pathBackSpec)

end Rows
end Go.Proofs.YtpaleolcfhnenaaDoor
