/- The walk of the law on sorted lists. -/
import Derived.Test.YtjfmanflkcaohaaDoorLaws
namespace Go.Proofs.YtjfmanflkcaohaaDoor
open Go.RowKit
set_option linter.unusedVariables false
set_option linter.unusedSimpArgs false

theorem lhas_q (v : Value) (xs : List ByteArray) (x : ByteArray) (b : Bool) (hb : Pl.inL xs x = b) (w : World) (h : Reads w v xs) (n : Nat) :
    Calls Tryd.prog 25 #[v, .string x] (w.drewN n) fun e w' => e = .returned (.bool b) ∧ ∃ m, w' = w.drewN m :=
  Calls.quiet_of_same ((lhas_is v xs x b hb (w.drewN n) (h.later (below_drewN (Below.refl _ _) _))).mono fun e w' ⟨h1, h2⟩ => ⟨h1, h2.symm⟩)

/-- Each string is greater than the one before it. -/
def Rises (ys : List ByteArray) : Prop := ∀ i, (h0 : 0 < i) → (h : i < ys.length) → ys[i - 1].toList < ys[i].toList
theorem rises_ins (xs : List ByteArray) (s : ByteArray) : Rises (Pl.insB xs s) := Pl.insB_rises xs s
/-- What the walk wants of a list of the call's own that is not empty. -/
theorem Reads.some {w : World} {v : Value} {xs : List ByteArray} (h : Reads w v xs) (hne : xs ≠ []) : ∃ b o n c, v = .slice (some ⟨b, o, none⟩) n c ∧ n = xs.length ∧ b < w.heap.size ∧ StrsAt w b o xs := by
  rcases h with ⟨h, _⟩ | ⟨b, o, c, rfl, h1, h2, _⟩
  · exact absurd h hne
  · exact ⟨b, o, _, c, rfl, rfl, h1, h2⟩

/-- What the law's first loop keeps: both lists read as they did. -/
def Keeps (v : Value) (xs : List ByteArray) (u : Value) (ys : List ByteArray) (g o : Nat) (w wr : World) : Prop := StrsAt wr g o ys ∧ Reads wr v xs ∧ Reads wr u ys ∧ g < wr.heap.size ∧ Below w.heap.size w wr
theorem Keeps.drewN {v : Value} {xs : List ByteArray} {u : Value} {ys : List ByteArray} {g o : Nat} {w wr : World} (h : Keeps v xs u ys g o w wr) (n : Nat) : Keeps v xs u ys g o w (wr.drewN n) :=
  ⟨h.1, h.2.1.later (below_drewN (Below.refl _ _) _), h.2.2.1.later (below_drewN (Below.refl _ _) _), h.2.2.2.1, below_drewN h.2.2.2.2 _⟩
end Go.Proofs.YtjfmanflkcaohaaDoor
