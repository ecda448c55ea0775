/-
  NARROWER THAN 'FOR EVERY INPUT', by the rows' own cells (each row's printed sentence says how): ScopeUses: loops · ScopePlaces: loops · ScopeLists: loops · ScopeResolves: loops · ScopeAgrees: loops · ScopeBare: loops.
  DERIVED. THE GIVEN ROWS OF THIS SEAT. 6 by the template 'for every input the law returns true; each argument reads behind the call as it read before'; 0 by the template 'total and deterministic' (their statements: YtoelfiendfemaaaTotals.lean).
  GIVEN WITH THE SEED: the statements are not yours to turn. If you find one false, say at which input.
  Laid BY PROGRAM, IN A SANDBOX (cutbox-rows.mjs): the forced cells as the released guide's own fill.sh prints them over the translation 44d44f3e8aee3caa… (all of the seat's roots in one cut). By AI agents, Wed Nov 11 2026. No macro, syntax, notation, axiom, sorry.
-/
import Derived.Test.YtoelfiendfemaaaChecked
import GoSem.Claim
import GoSem.ClaimJoined
import GoSem.ClaimMapViews
import Derived.JoinedTies
import Derived.KernelRfl
namespace Go.Proofs.Ytoelfiendfemaaa
/- THE CELL 'sum', in the pinned program and in every row, IS THE sha256 OF THE DUMP (.gsa) THAT YtoelfiendfemaaaProg.lean LOADS. Nothing in Lean hashes anything: it is a label: what it is worth is what the hold of that sum in a sandbox is worth. -/
noncomputable def Try.pinned : Pinned := { name := "ytoelfiendfemaaa", sum := "44d44f3e8aee3caac0a0cedbc3db613b802a4305c9a36903705d86f928db324d", checked := Try.checked }
namespace Rows
def none {H : Type} : Left H := { results := [], args := [] }

/-- 'treemergelaw12.ScopeUses': WHATEVER THE INPUT: true; the input reads as it did. -/
def scopeUsesSpec : ChangeSpec := { name := "scopeUses", fn := fun _ => fun
  | [d] => { results := [.lit (.bool true)], args := [d] }
  | _ => none }
def scopeUsesRow : OpenClaim := { program := "ytoelfiendfemaaa", sum := "44d44f3e8aee3caac0a0cedbc3db613b802a4305c9a36903705d86f928db324d", func := "treemerge/treemergelaw12.ScopeUses", spec := "scopeUses", unfollowed := true, recurses := true, loops := true, plainKeys := false, apart := false }
def ScopeUsesSaid : Prop := scopeUsesRow.holds Try.pinned (OpenSpec.ofChange scopeUsesSpec)

/-- ITS FALSE NEIGHBOUR: 'it returns false'. Refute it at one input. -/
def scopeUsesWrong : ChangeSpec := { name := "scopeUses", fn := fun _ => fun
  | [d] => { results := [.lit (.bool false)], args := [d] }
  | _ => none }
def ScopeUsesWrongFalsely : Prop := scopeUsesRow.holds Try.pinned (OpenSpec.ofChange scopeUsesWrong)

/-- 'treemergelaw12.ScopePlaces': WHATEVER THE INPUT: true; the input reads as it did. -/
def scopePlacesSpec : ChangeSpec := { name := "scopePlaces", fn := fun _ => fun
  | [d1, d2] => { results := [.lit (.bool true)], args := [d1, d2] }
  | _ => none }
def scopePlacesRow : OpenClaim := { program := "ytoelfiendfemaaa", sum := "44d44f3e8aee3caac0a0cedbc3db613b802a4305c9a36903705d86f928db324d", func := "treemerge/treemergelaw12.ScopePlaces", spec := "scopePlaces", unfollowed := true, recurses := true, loops := true, plainKeys := false, apart := false }
def ScopePlacesSaid : Prop := scopePlacesRow.holds Try.pinned (OpenSpec.ofChange scopePlacesSpec)

/-- ITS FALSE NEIGHBOUR: 'it returns false'. Refute it at one input. -/
def scopePlacesWrong : ChangeSpec := { name := "scopePlaces", fn := fun _ => fun
  | [d1, d2] => { results := [.lit (.bool false)], args := [d1, d2] }
  | _ => none }
def ScopePlacesWrongFalsely : Prop := scopePlacesRow.holds Try.pinned (OpenSpec.ofChange scopePlacesWrong)

/-- 'treemergelaw12.ScopeLists': WHATEVER THE INPUT: true; the input reads as it did. -/
def scopeListsSpec : ChangeSpec := { name := "scopeLists", fn := fun _ => fun
  | [d] => { results := [.lit (.bool true)], args := [d] }
  | _ => none }
def scopeListsRow : OpenClaim := { program := "ytoelfiendfemaaa", sum := "44d44f3e8aee3caac0a0cedbc3db613b802a4305c9a36903705d86f928db324d", func := "treemerge/treemergelaw12.ScopeLists", spec := "scopeLists", unfollowed := true, recurses := true, loops := true, plainKeys := false, apart := false }
def ScopeListsSaid : Prop := scopeListsRow.holds Try.pinned (OpenSpec.ofChange scopeListsSpec)

/-- ITS FALSE NEIGHBOUR: 'it returns false'. Refute it at one input. -/
def scopeListsWrong : ChangeSpec := { name := "scopeLists", fn := fun _ => fun
  | [d] => { results := [.lit (.bool false)], args := [d] }
  | _ => none }
def ScopeListsWrongFalsely : Prop := scopeListsRow.holds Try.pinned (OpenSpec.ofChange scopeListsWrong)

/-- 'treemergelaw12.ScopeResolves': WHATEVER THE INPUT: true; the input reads as it did. -/
def scopeResolvesSpec : ChangeSpec := { name := "scopeResolves", fn := fun _ => fun
  | [d] => { results := [.lit (.bool true)], args := [d] }
  | _ => none }
def scopeResolvesRow : OpenClaim := { program := "ytoelfiendfemaaa", sum := "44d44f3e8aee3caac0a0cedbc3db613b802a4305c9a36903705d86f928db324d", func := "treemerge/treemergelaw12.ScopeResolves", spec := "scopeResolves", unfollowed := true, recurses := true, loops := true, plainKeys := false, apart := false }
def ScopeResolvesSaid : Prop := scopeResolvesRow.holds Try.pinned (OpenSpec.ofChange scopeResolvesSpec)

/-- ITS FALSE NEIGHBOUR: 'it returns false'. Refute it at one input. -/
def scopeResolvesWrong : ChangeSpec := { name := "scopeResolves", fn := fun _ => fun
  | [d] => { results := [.lit (.bool false)], args := [d] }
  | _ => none }
def ScopeResolvesWrongFalsely : Prop := scopeResolvesRow.holds Try.pinned (OpenSpec.ofChange scopeResolvesWrong)

/-- 'treemergelaw12.ScopeAgrees': WHATEVER THE INPUT: true; the input reads as it did. -/
def scopeAgreesSpec : ChangeSpec := { name := "scopeAgrees", fn := fun _ => fun
  | [d1, d2] => { results := [.lit (.bool true)], args := [d1, d2] }
  | _ => none }
def scopeAgreesRow : OpenClaim := { program := "ytoelfiendfemaaa", sum := "44d44f3e8aee3caac0a0cedbc3db613b802a4305c9a36903705d86f928db324d", func := "treemerge/treemergelaw12.ScopeAgrees", spec := "scopeAgrees", unfollowed := true, recurses := true, loops := true, plainKeys := false, apart := false }
def ScopeAgreesSaid : Prop := scopeAgreesRow.holds Try.pinned (OpenSpec.ofChange scopeAgreesSpec)

/-- ITS FALSE NEIGHBOUR: 'it returns false'. Refute it at one input. -/
def scopeAgreesWrong : ChangeSpec := { name := "scopeAgrees", fn := fun _ => fun
  | [d1, d2] => { results := [.lit (.bool false)], args := [d1, d2] }
  | _ => none }
def ScopeAgreesWrongFalsely : Prop := scopeAgreesRow.holds Try.pinned (OpenSpec.ofChange scopeAgreesWrong)

/-- 'treemergelaw12.ScopeBare': WHATEVER THE INPUT: true; the input reads as it did. -/
def scopeBareSpec : ChangeSpec := { name := "scopeBare", fn := fun _ => fun
  | [d1, d2] => { results := [.lit (.bool true)], args := [d1, d2] }
  | _ => none }
def scopeBareRow : OpenClaim := { program := "ytoelfiendfemaaa", sum := "44d44f3e8aee3caac0a0cedbc3db613b802a4305c9a36903705d86f928db324d", func := "treemerge/treemergelaw12.ScopeBare", spec := "scopeBare", unfollowed := true, recurses := true, loops := true, plainKeys := false, apart := false }
def ScopeBareSaid : Prop := scopeBareRow.holds Try.pinned (OpenSpec.ofChange scopeBareSpec)

/-- ITS FALSE NEIGHBOUR: 'it returns false'. Refute it at one input. -/
def scopeBareWrong : ChangeSpec := { name := "scopeBare", fn := fun _ => fun
  | [d1, d2] => { results := [.lit (.bool false)], args := [d1, d2] }
  | _ => none }
def ScopeBareWrongFalsely : Prop := scopeBareRow.holds Try.pinned (OpenSpec.ofChange scopeBareWrong)

/- THE SECOND FORM. 'bulk': how many values and letters a reading holds, each counted each time it is reached (what is shared counts as often as it is met; a slice's spare places count too). A statement '..UptoSaid' is the law's where the arguments, and the package variables that the reading takes, are together of bulk at most 1048576: NARROWER than '..Said'. Prove '..Said' where nothing that the law and all that it calls make is longer than what came in: it says more and counts as full. Else prove '..UptoSaid'. A law counts once. -/
mutual
def uptoBulk {H : Type} : DataW H → Nat
  | .lit (.string bytes) => bytes.length + 1
  | .lit _ => 1
  | .nil => 1
  | .ptr d => uptoBulk d + 1
  | .slice elems spare => uptoBulkAll elems + uptoBulkAll spare + 1
  | .agg parts => uptoBulkAll parts + 1
  | .iface _ d => uptoBulk d + 1
  | .map entries => uptoBulkEntries entries + 1
  | .held _ => 1
def uptoBulkAll {H : Type} : List (DataW H) → Nat
  | [] => 0
  | d :: r => uptoBulk d + uptoBulkAll r
def uptoBulkEntries {H : Type} : List (Lit × DataW H) → Nat
  | [] => 0
  | x :: r => uptoBulkEntry x + uptoBulkEntries r
def uptoBulkEntry {H : Type} : Lit × DataW H → Nat
  | (.string bytes, d) => bytes.length + uptoBulk d + 1
  | (_, d) => uptoBulk d + 1
 end
def uptoSmall : (H : Type) → List (DataW H) → Bool := fun _ ds => decide (uptoBulkAll ds ≤ 1048576)
def OpenSpec.upto (s : _root_.Go.ChangeSpec) : _root_.Go.OpenSpec := { _root_.Go.OpenSpec.ofChange s with cond := some uptoSmall }

/-- 'treemergelaw12.ScopeUses', WHERE WHAT IT READS IS OF BULK AT MOST 1048576: true; the input reads as it did. -/
def scopeUsesUptoRow : OpenClaim := { program := "ytoelfiendfemaaa", sum := "44d44f3e8aee3caac0a0cedbc3db613b802a4305c9a36903705d86f928db324d", func := "treemerge/treemergelaw12.ScopeUses", spec := "scopeUses", unfollowed := true, recurses := true, loops := true, plainKeys := false, apart := false, narrowed := true }
def ScopeUsesUptoSaid : Prop := scopeUsesUptoRow.holds Try.pinned (OpenSpec.upto scopeUsesSpec)

/-- 'treemergelaw12.ScopePlaces', WHERE WHAT IT READS IS OF BULK AT MOST 1048576: true; the input reads as it did. -/
def scopePlacesUptoRow : OpenClaim := { program := "ytoelfiendfemaaa", sum := "44d44f3e8aee3caac0a0cedbc3db613b802a4305c9a36903705d86f928db324d", func := "treemerge/treemergelaw12.ScopePlaces", spec := "scopePlaces", unfollowed := true, recurses := true, loops := true, plainKeys := false, apart := false, narrowed := true }
def ScopePlacesUptoSaid : Prop := scopePlacesUptoRow.holds Try.pinned (OpenSpec.upto scopePlacesSpec)

/-- 'treemergelaw12.ScopeLists', WHERE WHAT IT READS IS OF BULK AT MOST 1048576: true; the input reads as it did. -/
def scopeListsUptoRow : OpenClaim := { program := "ytoelfiendfemaaa", sum := "44d44f3e8aee3caac0a0cedbc3db613b802a4305c9a36903705d86f928db324d", func := "treemerge/treemergelaw12.ScopeLists", spec := "scopeLists", unfollowed := true, recurses := true, loops := true, plainKeys := false, apart := false, narrowed := true }
def ScopeListsUptoSaid : Prop := scopeListsUptoRow.holds Try.pinned (OpenSpec.upto scopeListsSpec)

/-- 'treemergelaw12.ScopeResolves', WHERE WHAT IT READS IS OF BULK AT MOST 1048576: true; the input reads as it did. -/
def scopeResolvesUptoRow : OpenClaim := { program := "ytoelfiendfemaaa", sum := "44d44f3e8aee3caac0a0cedbc3db613b802a4305c9a36903705d86f928db324d", func := "treemerge/treemergelaw12.ScopeResolves", spec := "scopeResolves", unfollowed := true, recurses := true, loops := true, plainKeys := false, apart := false, narrowed := true }
def ScopeResolvesUptoSaid : Prop := scopeResolvesUptoRow.holds Try.pinned (OpenSpec.upto scopeResolvesSpec)

/-- 'treemergelaw12.ScopeAgrees', WHERE WHAT IT READS IS OF BULK AT MOST 1048576: true; the input reads as it did. -/
def scopeAgreesUptoRow : OpenClaim := { program := "ytoelfiendfemaaa", sum := "44d44f3e8aee3caac0a0cedbc3db613b802a4305c9a36903705d86f928db324d", func := "treemerge/treemergelaw12.ScopeAgrees", spec := "scopeAgrees", unfollowed := true, recurses := true, loops := true, plainKeys := false, apart := false, narrowed := true }
def ScopeAgreesUptoSaid : Prop := scopeAgreesUptoRow.holds Try.pinned (OpenSpec.upto scopeAgreesSpec)

/-- 'treemergelaw12.ScopeBare', WHERE WHAT IT READS IS OF BULK AT MOST 1048576: true; the input reads as it did. -/
def scopeBareUptoRow : OpenClaim := { program := "ytoelfiendfemaaa", sum := "44d44f3e8aee3caac0a0cedbc3db613b802a4305c9a36903705d86f928db324d", func := "treemerge/treemergelaw12.ScopeBare", spec := "scopeBare", unfollowed := true, recurses := true, loops := true, plainKeys := false, apart := false, narrowed := true }
def ScopeBareUptoSaid : Prop := scopeBareUptoRow.holds Try.pinned (OpenSpec.upto scopeBareSpec)

end Rows
end Go.Proofs.Ytoelfiendfemaaa
