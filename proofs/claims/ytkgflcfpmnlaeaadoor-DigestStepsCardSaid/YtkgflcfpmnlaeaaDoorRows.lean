/-
  NARROWER THAN 'FOR EVERY INPUT', by the rows' own cells (each row's printed sentence says how): DigestSums: laid · DigestLists: laid · DigestParses: laid · DigestHex: laid · DigestSteps: laid · DigestExtends: laid.
  DERIVED. THE GIVEN ROWS OF THIS SEAT. 6 by the template 'for every input the law returns true; each argument reads behind the call as it read before'; 0 by the template 'total and deterministic' (their statements: YtkgflcfpmnlaeaaDoorTotals.lean).
  GIVEN WITH THE SEED: the statements are not yours to turn. If you find one false, say at which input.
  Laid BY PROGRAM, IN A SANDBOX (cutbox-rows.mjs): the forced cells as the released guide's own fill.sh prints them over the translation 1fa670c62903c26b… (all of the seat's roots in one cut). By AI agents, Wed Nov 11 2026. No macro, syntax, notation, axiom, sorry.
-/
import Derived.Test.YtkgflcfpmnlaeaaDoorChecked
import GoSem.Claim
import GoSem.ClaimJoined
import GoSem.ClaimMapViews
import Derived.JoinedTies
import Derived.KernelRfl
namespace Go.Proofs.YtkgflcfpmnlaeaaDoor
/- THE CELL 'sum', in the pinned program and in every row, IS THE sha256 OF THE DUMP (.gsa) THAT YtkgflcfpmnlaeaaDoorProg.lean LOADS. Nothing in Lean hashes anything: it is a label: what it is worth is what the hold of that sum in a sandbox is worth. -/
noncomputable def Tryd.pinned : Pinned := { name := "ytkgflcfpmnlaeaadoor", sum := "1fa670c62903c26bfe0ea8b491f1f1adaae7f920321467f896aa58b1050fba76", checked := Tryd.checked }
namespace Rows
def none {H : Type} : Left H := { results := [], args := [] }

/- WHAT THE LISTED PACKAGE-LEVEL VARIABLES READ AS WHEN THE CALL BEGINS. Each datum BY PROGRAM (the guide's laid-datum.mjs) off the statement by which the dump's own 'gosem.cut.vars' lays the variable. In a bare row this is a premise. The card (YtkgflcfpmnlaeaaDoorCards.lean) ties it to the program's text. -/
def laid_treemerge_digest_digits {H : Type} : DataW H := .agg [.lit (.int .u8 48), .lit (.int .u8 49), .lit (.int .u8 50), .lit (.int .u8 51), .lit (.int .u8 52), .lit (.int .u8 53), .lit (.int .u8 54), .lit (.int .u8 55), .lit (.int .u8 56), .lit (.int .u8 57), .lit (.int .u8 97), .lit (.int .u8 98), .lit (.int .u8 99), .lit (.int .u8 100), .lit (.int .u8 101), .lit (.int .u8 102)]

/-- 'treemergelaw02.DigestSums': WHATEVER THE INPUT: true; the input reads as it did. -/
def digestSumsSpec : ChangeSpec := { name := "digestSums", fn := fun _ => fun
  | [d1, d2, d3] => { results := [.lit (.bool true)], args := [d1, d2, d3] }
  | _ => none }
def digestSumsRow : OpenClaim := { program := "ytkgflcfpmnlaeaadoor", sum := "1fa670c62903c26bfe0ea8b491f1f1adaae7f920321467f896aa58b1050fba76", func := "treemerge/treemergelaw02.DigestSums", spec := "digestSums", named := ["treemerge/digest.digits"], apart := false, laid := [("treemerge/digest.digits", laid_treemerge_digest_digits)] }
def DigestSumsSaid : Prop := digestSumsRow.holds Tryd.pinned (OpenSpec.ofChange digestSumsSpec)

/-- ITS FALSE NEIGHBOUR: 'it returns false'. Refute it at one input. -/
def digestSumsWrong : ChangeSpec := { name := "digestSums", fn := fun _ => fun
  | [d1, d2, d3] => { results := [.lit (.bool false)], args := [d1, d2, d3] }
  | _ => none }
def DigestSumsWrongFalsely : Prop := digestSumsRow.holds Tryd.pinned (OpenSpec.ofChange digestSumsWrong)

/-- 'treemergelaw02.DigestLists': WHATEVER THE INPUT: true; the input reads as it did. -/
def digestListsSpec : ChangeSpec := { name := "digestLists", fn := fun _ => fun
  | [d] => { results := [.lit (.bool true)], args := [d] }
  | _ => none }
def digestListsRow : OpenClaim := { program := "ytkgflcfpmnlaeaadoor", sum := "1fa670c62903c26bfe0ea8b491f1f1adaae7f920321467f896aa58b1050fba76", func := "treemerge/treemergelaw02.DigestLists", spec := "digestLists", named := ["treemerge/digest.digits"], apart := false, laid := [("treemerge/digest.digits", laid_treemerge_digest_digits)] }
def DigestListsSaid : Prop := digestListsRow.holds Tryd.pinned (OpenSpec.ofChange digestListsSpec)

/-- ITS FALSE NEIGHBOUR: 'it returns false'. Refute it at one input. -/
def digestListsWrong : ChangeSpec := { name := "digestLists", fn := fun _ => fun
  | [d] => { results := [.lit (.bool false)], args := [d] }
  | _ => none }
def DigestListsWrongFalsely : Prop := digestListsRow.holds Tryd.pinned (OpenSpec.ofChange digestListsWrong)

/-- 'treemergelaw02.DigestParses': WHATEVER THE INPUT: true; the input reads as it did. -/
def digestParsesSpec : ChangeSpec := { name := "digestParses", fn := fun _ => fun
  | [d] => { results := [.lit (.bool true)], args := [d] }
  | _ => none }
def digestParsesRow : OpenClaim := { program := "ytkgflcfpmnlaeaadoor", sum := "1fa670c62903c26bfe0ea8b491f1f1adaae7f920321467f896aa58b1050fba76", func := "treemerge/treemergelaw02.DigestParses", spec := "digestParses", named := ["treemerge/digest.digits"], apart := false, laid := [("treemerge/digest.digits", laid_treemerge_digest_digits)] }
def DigestParsesSaid : Prop := digestParsesRow.holds Tryd.pinned (OpenSpec.ofChange digestParsesSpec)

/-- ITS FALSE NEIGHBOUR: 'it returns false'. Refute it at one input. -/
def digestParsesWrong : ChangeSpec := { name := "digestParses", fn := fun _ => fun
  | [d] => { results := [.lit (.bool false)], args := [d] }
  | _ => none }
def DigestParsesWrongFalsely : Prop := digestParsesRow.holds Tryd.pinned (OpenSpec.ofChange digestParsesWrong)

/-- 'treemergelaw02.DigestHex': WHATEVER THE INPUT: true; the input reads as it did. -/
def digestHexSpec : ChangeSpec := { name := "digestHex", fn := fun _ => fun
  | [d1, d2] => { results := [.lit (.bool true)], args := [d1, d2] }
  | _ => none }
def digestHexRow : OpenClaim := { program := "ytkgflcfpmnlaeaadoor", sum := "1fa670c62903c26bfe0ea8b491f1f1adaae7f920321467f896aa58b1050fba76", func := "treemerge/treemergelaw02.DigestHex", spec := "digestHex", named := ["treemerge/digest.digits"], apart := false, laid := [("treemerge/digest.digits", laid_treemerge_digest_digits)] }
def DigestHexSaid : Prop := digestHexRow.holds Tryd.pinned (OpenSpec.ofChange digestHexSpec)

/-- ITS FALSE NEIGHBOUR: 'it returns false'. Refute it at one input. -/
def digestHexWrong : ChangeSpec := { name := "digestHex", fn := fun _ => fun
  | [d1, d2] => { results := [.lit (.bool false)], args := [d1, d2] }
  | _ => none }
def DigestHexWrongFalsely : Prop := digestHexRow.holds Tryd.pinned (OpenSpec.ofChange digestHexWrong)

/-- 'treemergelaw02.DigestSteps': WHATEVER THE INPUT: true; the input reads as it did. -/
def digestStepsSpec : ChangeSpec := { name := "digestSteps", fn := fun _ => fun
  | [d1, d2] => { results := [.lit (.bool true)], args := [d1, d2] }
  | _ => none }
def digestStepsRow : OpenClaim := { program := "ytkgflcfpmnlaeaadoor", sum := "1fa670c62903c26bfe0ea8b491f1f1adaae7f920321467f896aa58b1050fba76", func := "treemerge/treemergelaw02.DigestSteps", spec := "digestSteps", named := ["treemerge/digest.digits"], apart := false, laid := [("treemerge/digest.digits", laid_treemerge_digest_digits)] }
def DigestStepsSaid : Prop := digestStepsRow.holds Tryd.pinned (OpenSpec.ofChange digestStepsSpec)

/-- ITS FALSE NEIGHBOUR: 'it returns false'. Refute it at one input. -/
def digestStepsWrong : ChangeSpec := { name := "digestSteps", fn := fun _ => fun
  | [d1, d2] => { results := [.lit (.bool false)], args := [d1, d2] }
  | _ => none }
def DigestStepsWrongFalsely : Prop := digestStepsRow.holds Tryd.pinned (OpenSpec.ofChange digestStepsWrong)

/-- 'treemergelaw02.DigestExtends': WHATEVER THE INPUT: true; the input reads as it did. -/
def digestExtendsSpec : ChangeSpec := { name := "digestExtends", fn := fun _ => fun
  | [d] => { results := [.lit (.bool true)], args := [d] }
  | _ => none }
def digestExtendsRow : OpenClaim := { program := "ytkgflcfpmnlaeaadoor", sum := "1fa670c62903c26bfe0ea8b491f1f1adaae7f920321467f896aa58b1050fba76", func := "treemerge/treemergelaw02.DigestExtends", spec := "digestExtends", named := ["treemerge/digest.digits"], apart := false, laid := [("treemerge/digest.digits", laid_treemerge_digest_digits)] }
def DigestExtendsSaid : Prop := digestExtendsRow.holds Tryd.pinned (OpenSpec.ofChange digestExtendsSpec)

/-- ITS FALSE NEIGHBOUR: 'it returns false'. Refute it at one input. -/
def digestExtendsWrong : ChangeSpec := { name := "digestExtends", fn := fun _ => fun
  | [d] => { results := [.lit (.bool false)], args := [d] }
  | _ => none }
def DigestExtendsWrongFalsely : Prop := digestExtendsRow.holds Tryd.pinned (OpenSpec.ofChange digestExtendsWrong)

/- THE SECOND FORM. 'bulk': how many values and letters a reading holds, each counted each time it is reached (what is shared counts as often as it is met; a slice's spare places count too). A statement '..UptoSaid' is the law's where the arguments, and the package variables that the reading takes, are together of bulk at most 1048576: NARROWER than '..Said'. Prove '..Said' where nothing that the law and all that it calls make is longer than what came in: it says more and counts as full. Else prove '..UptoSaid'. A law counts once. -/
mutual
def uptoBulk {H : Type} : DataW H → Nat
  | .lit (.string bytes) => bytes.length + 1
  | .lit _ => 1
  | .nil => 1
  | .ptr d => uptoBulk d + 1
  | .slice elems spare => uptoBulkAll elems + uptoBulkAll spare + 1
  | .agg parts => uptoBulkAll parts + 1
  | .iface _ d => uptoBulk d + 1
  | .map entries => uptoBulkEntries entries + 1
  | .held _ => 1
def uptoBulkAll {H : Type} : List (DataW H) → Nat
  | [] => 0
  | d :: r => uptoBulk d + uptoBulkAll r
def uptoBulkEntries {H : Type} : List (Lit × DataW H) → Nat
  | [] => 0
  | x :: r => uptoBulkEntry x + uptoBulkEntries r
def uptoBulkEntry {H : Type} : Lit × DataW H → Nat
  | (.string bytes, d) => bytes.length + uptoBulk d + 1
  | (_, d) => uptoBulk d + 1
 end
def uptoSmall : (H : Type) → List (DataW H) → Bool := fun _ ds => decide (uptoBulkAll ds ≤ 1048576)
def OpenSpec.upto (s : _root_.Go.ChangeSpec) : _root_.Go.OpenSpec := { _root_.Go.OpenSpec.ofChange s with cond := some uptoSmall }

/-- 'treemergelaw02.DigestSums', WHERE WHAT IT READS IS OF BULK AT MOST 1048576: true; the input reads as it did. -/
def digestSumsUptoRow : OpenClaim := { program := "ytkgflcfpmnlaeaadoor", sum := "1fa670c62903c26bfe0ea8b491f1f1adaae7f920321467f896aa58b1050fba76", func := "treemerge/treemergelaw02.DigestSums", spec := "digestSums", named := ["treemerge/digest.digits"], apart := false, laid := [("treemerge/digest.digits", laid_treemerge_digest_digits)], narrowed := true }
def DigestSumsUptoSaid : Prop := digestSumsUptoRow.holds Tryd.pinned (OpenSpec.upto digestSumsSpec)

/-- 'treemergelaw02.DigestLists', WHERE WHAT IT READS IS OF BULK AT MOST 1048576: true; the input reads as it did. -/
def digestListsUptoRow : OpenClaim := { program := "ytkgflcfpmnlaeaadoor", sum := "1fa670c62903c26bfe0ea8b491f1f1adaae7f920321467f896aa58b1050fba76", func := "treemerge/treemergelaw02.DigestLists", spec := "digestLists", named := ["treemerge/digest.digits"], apart := false, laid := [("treemerge/digest.digits", laid_treemerge_digest_digits)], narrowed := true }
def DigestListsUptoSaid : Prop := digestListsUptoRow.holds Tryd.pinned (OpenSpec.upto digestListsSpec)

/-- 'treemergelaw02.DigestParses', WHERE WHAT IT READS IS OF BULK AT MOST 1048576: true; the input reads as it did. -/
def digestParsesUptoRow : OpenClaim := { program := "ytkgflcfpmnlaeaadoor", sum := "1fa670c62903c26bfe0ea8b491f1f1adaae7f920321467f896aa58b1050fba76", func := "treemerge/treemergelaw02.DigestParses", spec := "digestParses", named := ["treemerge/digest.digits"], apart := false, laid := [("treemerge/digest.digits", laid_treemerge_digest_digits)], narrowed := true }
def DigestParsesUptoSaid : Prop := digestParsesUptoRow.holds Tryd.pinned (OpenSpec.upto digestParsesSpec)

/-- 'treemergelaw02.DigestHex', WHERE WHAT IT READS IS OF BULK AT MOST 1048576: true; the input reads as it did. -/
def digestHexUptoRow : OpenClaim := { program := "ytkgflcfpmnlaeaadoor", sum := "1fa670c62903c26bfe0ea8b491f1f1adaae7f920321467f896aa58b1050fba76", func := "treemerge/treemergelaw02.DigestHex", spec := "digestHex", named := ["treemerge/digest.digits"], apart := false, laid := [("treemerge/digest.digits", laid_treemerge_digest_digits)], narrowed := true }
def DigestHexUptoSaid : Prop := digestHexUptoRow.holds Tryd.pinned (OpenSpec.upto digestHexSpec)

/-- 'treemergelaw02.DigestSteps', WHERE WHAT IT READS IS OF BULK AT MOST 1048576: true; the input reads as it did. -/
def digestStepsUptoRow : OpenClaim := { program := "ytkgflcfpmnlaeaadoor", sum := "1fa670c62903c26bfe0ea8b491f1f1adaae7f920321467f896aa58b1050fba76", func := "treemerge/treemergelaw02.DigestSteps", spec := "digestSteps", named := ["treemerge/digest.digits"], apart := false, laid := [("treemerge/digest.digits", laid_treemerge_digest_digits)], narrowed := true }
def DigestStepsUptoSaid : Prop := digestStepsUptoRow.holds Tryd.pinned (OpenSpec.upto digestStepsSpec)

/-- 'treemergelaw02.DigestExtends', WHERE WHAT IT READS IS OF BULK AT MOST 1048576: true; the input reads as it did. -/
def digestExtendsUptoRow : OpenClaim := { program := "ytkgflcfpmnlaeaadoor", sum := "1fa670c62903c26bfe0ea8b491f1f1adaae7f920321467f896aa58b1050fba76", func := "treemerge/treemergelaw02.DigestExtends", spec := "digestExtends", named := ["treemerge/digest.digits"], apart := false, laid := [("treemerge/digest.digits", laid_treemerge_digest_digits)], narrowed := true }
def DigestExtendsUptoSaid : Prop := digestExtendsUptoRow.holds Tryd.pinned (OpenSpec.upto digestExtendsSpec)

end Rows
end Go.Proofs.YtkgflcfpmnlaeaaDoor
