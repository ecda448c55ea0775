/- A set of strings in a map of bools that the call makes: what it says of each string. -/
import Derived.Test.YtjfmanflkcaohaaDoorWalkPath
import Derived.Test.YtjfmanflkcaohaaDoorPlainFresh
import Derived.Maps.OwnOps
import Derived.Maps.OwnSet
import Derived.Maps.Views
namespace Go.Proofs.YtjfmanflkcaohaaDoor
open Go.RowKit Go.Maps
set_option linter.unusedVariables false
set_option linter.unusedSimpArgs false

theorem Tryd.keyLaw : Keyed Tryd.prog 9 := string_keyed Tryd.underlying9
theorem Tryd.zeroB (w : World) : (zeroValue 4).run Tryd.prog w = .ok (.bool false) w := by kernel_rfl

/-- The datum of the map says of each string whether it is in the list. -/
def SaysOf (D : DataW Unit) (xs : List ByteArray) : Prop := IsMap D ∧ ∀ x : ByteArray, D.atKey (.string x.data.toList) (.lit (.bool false)) = .lit (.bool (Pl.inL xs x))
theorem says_none : SaysOf (.map []) [] := ⟨⟨[], rfl⟩, fun x => rfl⟩
theorem says_put (D : DataW Unit) (xs : List ByteArray) (y : ByteArray) (h : SaysOf D xs) : SaysOf (D.put (.string y.data.toList) (.lit (.bool true))) (xs ++ [y]) := by
  obtain ⟨h1, h2⟩ := h
  refine ⟨h1.put _ _, fun x => ?_⟩
  by_cases e : x = y
  · subst e
    rw [atKey_put_same h1 (show WideAt.IsKeyLit (.string _) from trivial), Pl.inL_snoc]
    simp
  · rw [atKey_put_other (fun h => e (Pl.list_ext (by simpa using h))), h2, Pl.inL_snoc]
    have : decide (y = x) = false := by simpa using fun h => e h.symm
    rw [this, Bool.or_false]

/-- The map of the call: block b holds a map of at most n entries that says of each string whether it is in the list. -/
def SetAt (w : World) (b n : Nat) (xs : List ByteArray) : Prop := ∃ D : DataW Unit, w.ownsMap Tryd.prog 9 (plainElem Tryd.prog 4) b n D ∧ SaysOf D xs
theorem set_made (w : World) : SetAt (w.alloc (.map #[] 0)) w.heap.size 0 [] := ⟨_, World.ownsMap_made _ _ _ _, says_none⟩
theorem SetAt.look {w : World} {b n : Nat} {xs : List ByteArray} (h : SetAt w b n xs) (x : ByteArray) (hx : x.size ≤ maxLen) :
    (Instr.lookup 39 (.map (some b)) (.string x) false).run Tryd.prog w = .ok (.bool (Pl.inL xs x)) w := by
  obtain ⟨D, hown, hs⟩ := h
  obtain ⟨v, ps, hrun, hv⟩ := hown.lookup Tryd.keyLaw Tryd.underlying39 (Tryd.zeroB w) (plainElem_bool Tryd.underlying4 false) (WideMaps.keyOf_string_mk Tryd.underlying9 hx)
  rw [hrun]
  rw [hs.2 x] at hv
  cases v <;> simp [plainElem, Tryd.underlying4] at hv
  rw [hv.1]
theorem run_makeMap_hint (n : Int) (w : World) : (Instr.makeMap 39 (some (.int .i64 n))).run Tryd.prog w = .ok (.map (some w.heap.size)) (w.alloc (.map #[] 0)) := by
  simp [Instr.makeMap, run_underlying Tryd.underlying39, asInt, asIntOf, Result.andThen]
theorem SetAt.later {w w' : World} {b n : Nat} {xs : List ByteArray} (h : SetAt w b n xs) (hb : Below w.heap.size w w') : SetAt w' b n xs := by
  obtain ⟨D, ⟨es, clock, hh, hrest⟩, hs⟩ := h
  exact ⟨D, ⟨es, clock, by rw [hb.block b (Array.getElem?_eq_some_iff.1 hh).1, hh], hrest⟩, hs⟩
end Go.Proofs.YtjfmanflkcaohaaDoor
