/-
  NARROWER THAN 'FOR EVERY INPUT', by the rows' own cells (each row's printed sentence says how): GrammarChecks: loops, laid · GrammarNodes: loops, laid · GrammarKinds: laid · GrammarParts: loops, laid · GrammarBares: loops, laid · GrammarParens: loops, laid · GrammarOperators: laid.
  DERIVED. THE GIVEN ROWS OF THIS SEAT. 7 by the template 'for every input the law returns true; each argument reads behind the call as it read before'; 0 by the template 'total and deterministic' (their statements: YtmfmlkdojgbhfaaDoorTotals.lean).
  GIVEN WITH THE SEED: the statements are not yours to turn. If you find one false, say at which input.
  Laid BY PROGRAM, IN A SANDBOX (cutbox-rows.mjs): the forced cells as the released guide's own fill.sh prints them over the translation 0ed03cdb353439e1… (all of the seat's roots in one cut). By AI agents, Wed Nov 11 2026. No macro, syntax, notation, axiom, sorry.
-/
import Derived.Test.YtmfmlkdojgbhfaaDoorChecked
import GoSem.Claim
import GoSem.ClaimJoined
import GoSem.ClaimMapViews
import Derived.JoinedTies
import Derived.KernelRfl
namespace Go.Proofs.YtmfmlkdojgbhfaaDoor
/- THE CELL 'sum', in the pinned program and in every row, IS THE sha256 OF THE DUMP (.gsa) THAT YtmfmlkdojgbhfaaDoorProg.lean LOADS. Nothing in Lean hashes anything: it is a label: what it is worth is what the hold of that sum in a sandbox is worth. -/
noncomputable def Tryd.pinned : Pinned := { name := "ytmfmlkdojgbhfaadoor", sum := "0ed03cdb353439e147c171ad1b229f33393d696fde8b955979ea749cefe9c0bd", checked := Tryd.checked }
namespace Rows
def none {H : Type} : Left H := { results := [], args := [] }

/- WHAT THE LISTED PACKAGE-LEVEL VARIABLES READ AS WHEN THE CALL BEGINS. Each datum BY PROGRAM (the guide's laid-datum.mjs) off the statement by which the dump's own 'gosem.cut.vars' lays the variable. In a bare row this is a premise. The card (YtmfmlkdojgbhfaaDoorCards.lean) ties it to the program's text. -/
def laid_treemerge_grammar_groups {H : Type} : DataW H := .agg [.lit (.int .i64 0), .lit (.int .i64 0), .lit (.int .i64 1), .lit (.int .i64 0), .lit (.int .i64 0), .lit (.int .i64 0), .lit (.int .i64 0), .lit (.int .i64 1), .lit (.int .i64 0), .lit (.int .i64 1), .lit (.int .i64 2), .lit (.int .i64 2), .lit (.int .i64 2), .lit (.int .i64 2), .lit (.int .i64 0), .lit (.int .i64 2), .lit (.int .i64 2), .lit (.int .i64 3), .lit (.int .i64 3), .lit (.int .i64 3), .lit (.int .i64 3), .lit (.int .i64 3), .lit (.int .i64 3), .lit (.int .i64 3), .lit (.int .i64 3), .lit (.int .i64 3), .lit (.int .i64 3)]
def laid_treemerge_grammar_owns {H : Type} : DataW H := .agg [.lit (.int .i64 0), .lit (.int .i64 1), .lit (.int .i64 2), .lit (.int .i64 2), .lit (.int .i64 1), .lit (.int .i64 1), .lit (.int .i64 2), .lit (.int .i64 4), .lit (.int .i64 2), .lit (.int .i64 4), .lit (.int .i64 4), .lit (.int .i64 3), .lit (.int .i64 2), .lit (.int .i64 1), .lit (.int .i64 1), .lit (.int .i64 1), .lit (.int .i64 1), .lit (.int .i64 1), .lit (.int .i64 1), .lit (.int .i64 1), .lit (.int .i64 3), .lit (.int .i64 4), .lit (.int .i64 4), .lit (.int .i64 1), .lit (.int .i64 1), .lit (.int .i64 1), .lit (.int .i64 2)]
def laid_treemerge_grammar_least {H : Type} : DataW H := .agg [.lit (.int .i64 0), .lit (.int .i64 0), .lit (.int .i64 3), .lit (.int .i64 0), .lit (.int .i64 1), .lit (.int .i64 0), .lit (.int .i64 0), .lit (.int .i64 1), .lit (.int .i64 0), .lit (.int .i64 1), .lit (.int .i64 1), .lit (.int .i64 1), .lit (.int .i64 1), .lit (.int .i64 3), .lit (.int .i64 0), .lit (.int .i64 2), .lit (.int .i64 1), .lit (.int .i64 0), .lit (.int .i64 0), .lit (.int .i64 0), .lit (.int .i64 0), .lit (.int .i64 1), .lit (.int .i64 0), .lit (.int .i64 0), .lit (.int .i64 2), .lit (.int .i64 1), .lit (.int .i64 1)]
def laid_treemerge_grammar_partsOfFunc {H : Type} : DataW H := .agg [.lit (.int .i64 3), .lit (.int .i64 5), .lit (.int .i64 6)]
def laid_treemerge_grammar_texts {H : Type} : DataW H := .agg [.lit (.int .i64 0), .lit (.int .i64 0), .lit (.int .i64 1), .lit (.int .i64 0), .lit (.int .i64 1), .lit (.int .i64 1), .lit (.int .i64 0), .lit (.int .i64 1), .lit (.int .i64 2), .lit (.int .i64 1), .lit (.int .i64 1), .lit (.int .i64 1), .lit (.int .i64 0), .lit (.int .i64 0), .lit (.int .i64 0), .lit (.int .i64 0), .lit (.int .i64 0), .lit (.int .i64 3), .lit (.int .i64 4), .lit (.int .i64 1), .lit (.int .i64 1), .lit (.int .i64 1), .lit (.int .i64 1), .lit (.int .i64 4), .lit (.int .i64 4), .lit (.int .i64 4), .lit (.int .i64 0)]

/-- 'treemergelaw07.GrammarChecks': WHATEVER THE INPUT: true; the input reads as it did. -/
def grammarChecksSpec : ChangeSpec := { name := "grammarChecks", fn := fun _ => fun
  | [d] => { results := [.lit (.bool true)], args := [d] }
  | _ => none }
def grammarChecksRow : OpenClaim := { program := "ytmfmlkdojgbhfaadoor", sum := "0ed03cdb353439e147c171ad1b229f33393d696fde8b955979ea749cefe9c0bd", func := "treemerge/treemergelaw07.GrammarChecks", spec := "grammarChecks", inPlace := ["internal/bytealg.IndexByteString"], unfollowed := true, recurses := true, named := ["treemerge/grammar.least", "treemerge/grammar.partsOfFunc", "treemerge/grammar.groups", "treemerge/grammar.texts", "treemerge/grammar.owns"], loops := true, apart := false, laid := [("treemerge/grammar.groups", laid_treemerge_grammar_groups), ("treemerge/grammar.owns", laid_treemerge_grammar_owns), ("treemerge/grammar.least", laid_treemerge_grammar_least), ("treemerge/grammar.partsOfFunc", laid_treemerge_grammar_partsOfFunc), ("treemerge/grammar.texts", laid_treemerge_grammar_texts)] }
def GrammarChecksSaid : Prop := grammarChecksRow.holds Tryd.pinned (OpenSpec.ofChange grammarChecksSpec)

/-- ITS FALSE NEIGHBOUR: 'it returns false'. Refute it at one input. -/
def grammarChecksWrong : ChangeSpec := { name := "grammarChecks", fn := fun _ => fun
  | [d] => { results := [.lit (.bool false)], args := [d] }
  | _ => none }
def GrammarChecksWrongFalsely : Prop := grammarChecksRow.holds Tryd.pinned (OpenSpec.ofChange grammarChecksWrong)

/-- 'treemergelaw07.GrammarNodes': WHATEVER THE INPUT: true; the input reads as it did. -/
def grammarNodesSpec : ChangeSpec := { name := "grammarNodes", fn := fun _ => fun
  | [d] => { results := [.lit (.bool true)], args := [d] }
  | _ => none }
def grammarNodesRow : OpenClaim := { program := "ytmfmlkdojgbhfaadoor", sum := "0ed03cdb353439e147c171ad1b229f33393d696fde8b955979ea749cefe9c0bd", func := "treemerge/treemergelaw07.GrammarNodes", spec := "grammarNodes", inPlace := ["internal/bytealg.IndexByteString"], unfollowed := true, recurses := true, named := ["treemerge/grammar.owns", "treemerge/grammar.groups", "treemerge/grammar.least", "treemerge/grammar.partsOfFunc", "treemerge/grammar.texts"], loops := true, apart := false, laid := [("treemerge/grammar.groups", laid_treemerge_grammar_groups), ("treemerge/grammar.owns", laid_treemerge_grammar_owns), ("treemerge/grammar.least", laid_treemerge_grammar_least), ("treemerge/grammar.partsOfFunc", laid_treemerge_grammar_partsOfFunc), ("treemerge/grammar.texts", laid_treemerge_grammar_texts)] }
def GrammarNodesSaid : Prop := grammarNodesRow.holds Tryd.pinned (OpenSpec.ofChange grammarNodesSpec)

/-- ITS FALSE NEIGHBOUR: 'it returns false'. Refute it at one input. -/
def grammarNodesWrong : ChangeSpec := { name := "grammarNodes", fn := fun _ => fun
  | [d] => { results := [.lit (.bool false)], args := [d] }
  | _ => none }
def GrammarNodesWrongFalsely : Prop := grammarNodesRow.holds Tryd.pinned (OpenSpec.ofChange grammarNodesWrong)

/-- 'treemergelaw07.GrammarKinds': WHATEVER THE INPUT: true; the input reads as it did. -/
def grammarKindsSpec : ChangeSpec := { name := "grammarKinds", fn := fun _ => fun
  | [d1, d2, d3] => { results := [.lit (.bool true)], args := [d1, d2, d3] }
  | _ => none }
def grammarKindsRow : OpenClaim := { program := "ytmfmlkdojgbhfaadoor", sum := "0ed03cdb353439e147c171ad1b229f33393d696fde8b955979ea749cefe9c0bd", func := "treemerge/treemergelaw07.GrammarKinds", spec := "grammarKinds", inPlace := ["internal/bytealg.IndexByteString"], unfollowed := true, recurses := true, named := ["treemerge/grammar.partsOfFunc", "treemerge/grammar.groups", "treemerge/grammar.least", "treemerge/grammar.texts", "treemerge/grammar.owns"], apart := false, laid := [("treemerge/grammar.groups", laid_treemerge_grammar_groups), ("treemerge/grammar.owns", laid_treemerge_grammar_owns), ("treemerge/grammar.least", laid_treemerge_grammar_least), ("treemerge/grammar.partsOfFunc", laid_treemerge_grammar_partsOfFunc), ("treemerge/grammar.texts", laid_treemerge_grammar_texts)] }
def GrammarKindsSaid : Prop := grammarKindsRow.holds Tryd.pinned (OpenSpec.ofChange grammarKindsSpec)

/-- ITS FALSE NEIGHBOUR: 'it returns false'. Refute it at one input. -/
def grammarKindsWrong : ChangeSpec := { name := "grammarKinds", fn := fun _ => fun
  | [d1, d2, d3] => { results := [.lit (.bool false)], args := [d1, d2, d3] }
  | _ => none }
def GrammarKindsWrongFalsely : Prop := grammarKindsRow.holds Tryd.pinned (OpenSpec.ofChange grammarKindsWrong)

/-- 'treemergelaw07.GrammarParts': WHATEVER THE INPUT: true; the input reads as it did. -/
def grammarPartsSpec : ChangeSpec := { name := "grammarParts", fn := fun _ => fun
  | [d] => { results := [.lit (.bool true)], args := [d] }
  | _ => none }
def grammarPartsRow : OpenClaim := { program := "ytmfmlkdojgbhfaadoor", sum := "0ed03cdb353439e147c171ad1b229f33393d696fde8b955979ea749cefe9c0bd", func := "treemerge/treemergelaw07.GrammarParts", spec := "grammarParts", inPlace := ["internal/bytealg.IndexByteString"], unfollowed := true, recurses := true, named := ["treemerge/grammar.least", "treemerge/grammar.partsOfFunc", "treemerge/grammar.groups", "treemerge/grammar.texts", "treemerge/grammar.owns"], loops := true, apart := false, laid := [("treemerge/grammar.groups", laid_treemerge_grammar_groups), ("treemerge/grammar.owns", laid_treemerge_grammar_owns), ("treemerge/grammar.least", laid_treemerge_grammar_least), ("treemerge/grammar.partsOfFunc", laid_treemerge_grammar_partsOfFunc), ("treemerge/grammar.texts", laid_treemerge_grammar_texts)] }
def GrammarPartsSaid : Prop := grammarPartsRow.holds Tryd.pinned (OpenSpec.ofChange grammarPartsSpec)

/-- ITS FALSE NEIGHBOUR: 'it returns false'. Refute it at one input. -/
def grammarPartsWrong : ChangeSpec := { name := "grammarParts", fn := fun _ => fun
  | [d] => { results := [.lit (.bool false)], args := [d] }
  | _ => none }
def GrammarPartsWrongFalsely : Prop := grammarPartsRow.holds Tryd.pinned (OpenSpec.ofChange grammarPartsWrong)

/-- 'treemergelaw07.GrammarBares': WHATEVER THE INPUT: true; the input reads as it did. -/
def grammarBaresSpec : ChangeSpec := { name := "grammarBares", fn := fun _ => fun
  | [d] => { results := [.lit (.bool true)], args := [d] }
  | _ => none }
def grammarBaresRow : OpenClaim := { program := "ytmfmlkdojgbhfaadoor", sum := "0ed03cdb353439e147c171ad1b229f33393d696fde8b955979ea749cefe9c0bd", func := "treemerge/treemergelaw07.GrammarBares", spec := "grammarBares", inPlace := ["internal/bytealg.IndexByteString"], unfollowed := true, recurses := true, named := ["treemerge/grammar.least", "treemerge/grammar.partsOfFunc", "treemerge/grammar.groups", "treemerge/grammar.texts", "treemerge/grammar.owns"], loops := true, apart := false, laid := [("treemerge/grammar.groups", laid_treemerge_grammar_groups), ("treemerge/grammar.owns", laid_treemerge_grammar_owns), ("treemerge/grammar.least", laid_treemerge_grammar_least), ("treemerge/grammar.partsOfFunc", laid_treemerge_grammar_partsOfFunc), ("treemerge/grammar.texts", laid_treemerge_grammar_texts)] }
def GrammarBaresSaid : Prop := grammarBaresRow.holds Tryd.pinned (OpenSpec.ofChange grammarBaresSpec)

/-- ITS FALSE NEIGHBOUR: 'it returns false'. Refute it at one input. -/
def grammarBaresWrong : ChangeSpec := { name := "grammarBares", fn := fun _ => fun
  | [d] => { results := [.lit (.bool false)], args := [d] }
  | _ => none }
def GrammarBaresWrongFalsely : Prop := grammarBaresRow.holds Tryd.pinned (OpenSpec.ofChange grammarBaresWrong)

/-- 'treemergelaw07.GrammarParens': WHATEVER THE INPUT: true; the input reads as it did. -/
def grammarParensSpec : ChangeSpec := { name := "grammarParens", fn := fun _ => fun
  | [d1, d2] => { results := [.lit (.bool true)], args := [d1, d2] }
  | _ => none }
def grammarParensRow : OpenClaim := { program := "ytmfmlkdojgbhfaadoor", sum := "0ed03cdb353439e147c171ad1b229f33393d696fde8b955979ea749cefe9c0bd", func := "treemerge/treemergelaw07.GrammarParens", spec := "grammarParens", inPlace := ["internal/bytealg.IndexByteString"], unfollowed := true, recurses := true, named := ["treemerge/grammar.least", "treemerge/grammar.partsOfFunc", "treemerge/grammar.groups", "treemerge/grammar.texts", "treemerge/grammar.owns"], loops := true, apart := false, laid := [("treemerge/grammar.groups", laid_treemerge_grammar_groups), ("treemerge/grammar.owns", laid_treemerge_grammar_owns), ("treemerge/grammar.least", laid_treemerge_grammar_least), ("treemerge/grammar.partsOfFunc", laid_treemerge_grammar_partsOfFunc), ("treemerge/grammar.texts", laid_treemerge_grammar_texts)] }
def GrammarParensSaid : Prop := grammarParensRow.holds Tryd.pinned (OpenSpec.ofChange grammarParensSpec)

/-- ITS FALSE NEIGHBOUR: 'it returns false'. Refute it at one input. -/
def grammarParensWrong : ChangeSpec := { name := "grammarParens", fn := fun _ => fun
  | [d1, d2] => { results := [.lit (.bool false)], args := [d1, d2] }
  | _ => none }
def GrammarParensWrongFalsely : Prop := grammarParensRow.holds Tryd.pinned (OpenSpec.ofChange grammarParensWrong)

/-- 'treemergelaw07.GrammarOperators': WHATEVER THE INPUT: true; the input reads as it did. -/
def grammarOperatorsSpec : ChangeSpec := { name := "grammarOperators", fn := fun _ => fun
  | [d1, d2] => { results := [.lit (.bool true)], args := [d1, d2] }
  | _ => none }
def grammarOperatorsRow : OpenClaim := { program := "ytmfmlkdojgbhfaadoor", sum := "0ed03cdb353439e147c171ad1b229f33393d696fde8b955979ea749cefe9c0bd", func := "treemerge/treemergelaw07.GrammarOperators", spec := "grammarOperators", inPlace := ["internal/bytealg.IndexByteString"], unfollowed := true, recurses := true, named := ["treemerge/grammar.groups", "treemerge/grammar.least", "treemerge/grammar.partsOfFunc", "treemerge/grammar.texts", "treemerge/grammar.owns"], apart := false, laid := [("treemerge/grammar.groups", laid_treemerge_grammar_groups), ("treemerge/grammar.owns", laid_treemerge_grammar_owns), ("treemerge/grammar.least", laid_treemerge_grammar_least), ("treemerge/grammar.partsOfFunc", laid_treemerge_grammar_partsOfFunc), ("treemerge/grammar.texts", laid_treemerge_grammar_texts)] }
def GrammarOperatorsSaid : Prop := grammarOperatorsRow.holds Tryd.pinned (OpenSpec.ofChange grammarOperatorsSpec)

/-- ITS FALSE NEIGHBOUR: 'it returns false'. Refute it at one input. -/
def grammarOperatorsWrong : ChangeSpec := { name := "grammarOperators", fn := fun _ => fun
  | [d1, d2] => { results := [.lit (.bool false)], args := [d1, d2] }
  | _ => none }
def GrammarOperatorsWrongFalsely : Prop := grammarOperatorsRow.holds Tryd.pinned (OpenSpec.ofChange grammarOperatorsWrong)

/- THE SECOND FORM. 'bulk': how many values and letters a reading holds, each counted each time it is reached (what is shared counts as often as it is met; a slice's spare places count too). A statement '..UptoSaid' is the law's where the arguments, and the package variables that the reading takes, are together of bulk at most 1048576: NARROWER than '..Said'. Prove '..Said' where nothing that the law and all that it calls make is longer than what came in: it says more and counts as full. Else prove '..UptoSaid'. A law counts once. -/
mutual
def uptoBulk {H : Type} : DataW H → Nat
  | .lit (.string bytes) => bytes.length + 1
  | .lit _ => 1
  | .nil => 1
  | .ptr d => uptoBulk d + 1
  | .slice elems spare => uptoBulkAll elems + uptoBulkAll spare + 1
  | .agg parts => uptoBulkAll parts + 1
  | .iface _ d => uptoBulk d + 1
  | .map entries => uptoBulkEntries entries + 1
  | .held _ => 1
def uptoBulkAll {H : Type} : List (DataW H) → Nat
  | [] => 0
  | d :: r => uptoBulk d + uptoBulkAll r
def uptoBulkEntries {H : Type} : List (Lit × DataW H) → Nat
  | [] => 0
  | x :: r => uptoBulkEntry x + uptoBulkEntries r
def uptoBulkEntry {H : Type} : Lit × DataW H → Nat
  | (.string bytes, d) => bytes.length + uptoBulk d + 1
  | (_, d) => uptoBulk d + 1
 end
def uptoSmall : (H : Type) → List (DataW H) → Bool := fun _ ds => decide (uptoBulkAll ds ≤ 1048576)
def OpenSpec.upto (s : _root_.Go.ChangeSpec) : _root_.Go.OpenSpec := { _root_.Go.OpenSpec.ofChange s with cond := some uptoSmall }

/-- 'treemergelaw07.GrammarChecks', WHERE WHAT IT READS IS OF BULK AT MOST 1048576: true; the input reads as it did. -/
def grammarChecksUptoRow : OpenClaim := { program := "ytmfmlkdojgbhfaadoor", sum := "0ed03cdb353439e147c171ad1b229f33393d696fde8b955979ea749cefe9c0bd", func := "treemerge/treemergelaw07.GrammarChecks", spec := "grammarChecks", inPlace := ["internal/bytealg.IndexByteString"], unfollowed := true, recurses := true, named := ["treemerge/grammar.least", "treemerge/grammar.partsOfFunc", "treemerge/grammar.groups", "treemerge/grammar.texts", "treemerge/grammar.owns"], loops := true, apart := false, laid := [("treemerge/grammar.groups", laid_treemerge_grammar_groups), ("treemerge/grammar.owns", laid_treemerge_grammar_owns), ("treemerge/grammar.least", laid_treemerge_grammar_least), ("treemerge/grammar.partsOfFunc", laid_treemerge_grammar_partsOfFunc), ("treemerge/grammar.texts", laid_treemerge_grammar_texts)], narrowed := true }
def GrammarChecksUptoSaid : Prop := grammarChecksUptoRow.holds Tryd.pinned (OpenSpec.upto grammarChecksSpec)

/-- 'treemergelaw07.GrammarNodes', WHERE WHAT IT READS IS OF BULK AT MOST 1048576: true; the input reads as it did. -/
def grammarNodesUptoRow : OpenClaim := { program := "ytmfmlkdojgbhfaadoor", sum := "0ed03cdb353439e147c171ad1b229f33393d696fde8b955979ea749cefe9c0bd", func := "treemerge/treemergelaw07.GrammarNodes", spec := "grammarNodes", inPlace := ["internal/bytealg.IndexByteString"], unfollowed := true, recurses := true, named := ["treemerge/grammar.owns", "treemerge/grammar.groups", "treemerge/grammar.least", "treemerge/grammar.partsOfFunc", "treemerge/grammar.texts"], loops := true, apart := false, laid := [("treemerge/grammar.groups", laid_treemerge_grammar_groups), ("treemerge/grammar.owns", laid_treemerge_grammar_owns), ("treemerge/grammar.least", laid_treemerge_grammar_least), ("treemerge/grammar.partsOfFunc", laid_treemerge_grammar_partsOfFunc), ("treemerge/grammar.texts", laid_treemerge_grammar_texts)], narrowed := true }
def GrammarNodesUptoSaid : Prop := grammarNodesUptoRow.holds Tryd.pinned (OpenSpec.upto grammarNodesSpec)

/-- 'treemergelaw07.GrammarKinds', WHERE WHAT IT READS IS OF BULK AT MOST 1048576: true; the input reads as it did. -/
def grammarKindsUptoRow : OpenClaim := { program := "ytmfmlkdojgbhfaadoor", sum := "0ed03cdb353439e147c171ad1b229f33393d696fde8b955979ea749cefe9c0bd", func := "treemerge/treemergelaw07.GrammarKinds", spec := "grammarKinds", inPlace := ["internal/bytealg.IndexByteString"], unfollowed := true, recurses := true, named := ["treemerge/grammar.partsOfFunc", "treemerge/grammar.groups", "treemerge/grammar.least", "treemerge/grammar.texts", "treemerge/grammar.owns"], apart := false, laid := [("treemerge/grammar.groups", laid_treemerge_grammar_groups), ("treemerge/grammar.owns", laid_treemerge_grammar_owns), ("treemerge/grammar.least", laid_treemerge_grammar_least), ("treemerge/grammar.partsOfFunc", laid_treemerge_grammar_partsOfFunc), ("treemerge/grammar.texts", laid_treemerge_grammar_texts)], narrowed := true }
def GrammarKindsUptoSaid : Prop := grammarKindsUptoRow.holds Tryd.pinned (OpenSpec.upto grammarKindsSpec)

/-- 'treemergelaw07.GrammarParts', WHERE WHAT IT READS IS OF BULK AT MOST 1048576: true; the input reads as it did. -/
def grammarPartsUptoRow : OpenClaim := { program := "ytmfmlkdojgbhfaadoor", sum := "0ed03cdb353439e147c171ad1b229f33393d696fde8b955979ea749cefe9c0bd", func := "treemerge/treemergelaw07.GrammarParts", spec := "grammarParts", inPlace := ["internal/bytealg.IndexByteString"], unfollowed := true, recurses := true, named := ["treemerge/grammar.least", "treemerge/grammar.partsOfFunc", "treemerge/grammar.groups", "treemerge/grammar.texts", "treemerge/grammar.owns"], loops := true, apart := false, laid := [("treemerge/grammar.groups", laid_treemerge_grammar_groups), ("treemerge/grammar.owns", laid_treemerge_grammar_owns), ("treemerge/grammar.least", laid_treemerge_grammar_least), ("treemerge/grammar.partsOfFunc", laid_treemerge_grammar_partsOfFunc), ("treemerge/grammar.texts", laid_treemerge_grammar_texts)], narrowed := true }
def GrammarPartsUptoSaid : Prop := grammarPartsUptoRow.holds Tryd.pinned (OpenSpec.upto grammarPartsSpec)

/-- 'treemergelaw07.GrammarBares', WHERE WHAT IT READS IS OF BULK AT MOST 1048576: true; the input reads as it did. -/
def grammarBaresUptoRow : OpenClaim := { program := "ytmfmlkdojgbhfaadoor", sum := "0ed03cdb353439e147c171ad1b229f33393d696fde8b955979ea749cefe9c0bd", func := "treemerge/treemergelaw07.GrammarBares", spec := "grammarBares", inPlace := ["internal/bytealg.IndexByteString"], unfollowed := true, recurses := true, named := ["treemerge/grammar.least", "treemerge/grammar.partsOfFunc", "treemerge/grammar.groups", "treemerge/grammar.texts", "treemerge/grammar.owns"], loops := true, apart := false, laid := [("treemerge/grammar.groups", laid_treemerge_grammar_groups), ("treemerge/grammar.owns", laid_treemerge_grammar_owns), ("treemerge/grammar.least", laid_treemerge_grammar_least), ("treemerge/grammar.partsOfFunc", laid_treemerge_grammar_partsOfFunc), ("treemerge/grammar.texts", laid_treemerge_grammar_texts)], narrowed := true }
def GrammarBaresUptoSaid : Prop := grammarBaresUptoRow.holds Tryd.pinned (OpenSpec.upto grammarBaresSpec)

/-- 'treemergelaw07.GrammarParens', WHERE WHAT IT READS IS OF BULK AT MOST 1048576: true; the input reads as it did. -/
def grammarParensUptoRow : OpenClaim := { program := "ytmfmlkdojgbhfaadoor", sum := "0ed03cdb353439e147c171ad1b229f33393d696fde8b955979ea749cefe9c0bd", func := "treemerge/treemergelaw07.GrammarParens", spec := "grammarParens", inPlace := ["internal/bytealg.IndexByteString"], unfollowed := true, recurses := true, named := ["treemerge/grammar.least", "treemerge/grammar.partsOfFunc", "treemerge/grammar.groups", "treemerge/grammar.texts", "treemerge/grammar.owns"], loops := true, apart := false, laid := [("treemerge/grammar.groups", laid_treemerge_grammar_groups), ("treemerge/grammar.owns", laid_treemerge_grammar_owns), ("treemerge/grammar.least", laid_treemerge_grammar_least), ("treemerge/grammar.partsOfFunc", laid_treemerge_grammar_partsOfFunc), ("treemerge/grammar.texts", laid_treemerge_grammar_texts)], narrowed := true }
def GrammarParensUptoSaid : Prop := grammarParensUptoRow.holds Tryd.pinned (OpenSpec.upto grammarParensSpec)

/-- 'treemergelaw07.GrammarOperators', WHERE WHAT IT READS IS OF BULK AT MOST 1048576: true; the input reads as it did. -/
def grammarOperatorsUptoRow : OpenClaim := { program := "ytmfmlkdojgbhfaadoor", sum := "0ed03cdb353439e147c171ad1b229f33393d696fde8b955979ea749cefe9c0bd", func := "treemerge/treemergelaw07.GrammarOperators", spec := "grammarOperators", inPlace := ["internal/bytealg.IndexByteString"], unfollowed := true, recurses := true, named := ["treemerge/grammar.groups", "treemerge/grammar.least", "treemerge/grammar.partsOfFunc", "treemerge/grammar.texts", "treemerge/grammar.owns"], apart := false, laid := [("treemerge/grammar.groups", laid_treemerge_grammar_groups), ("treemerge/grammar.owns", laid_treemerge_grammar_owns), ("treemerge/grammar.least", laid_treemerge_grammar_least), ("treemerge/grammar.partsOfFunc", laid_treemerge_grammar_partsOfFunc), ("treemerge/grammar.texts", laid_treemerge_grammar_texts)], narrowed := true }
def GrammarOperatorsUptoSaid : Prop := grammarOperatorsUptoRow.holds Tryd.pinned (OpenSpec.upto grammarOperatorsSpec)

end Rows
end Go.Proofs.YtmfmlkdojgbhfaaDoor
