/- Rows of nodes that a call makes by append. -/
import Derived.Test.YtoelfiendfemaaaWBaseJ
import Derived.Deep.AppendLies
namespace Go.Proofs.Ytoelfiendfemaaa
open Go.RowKit Go.Deep
set_option linter.unusedVariables false
set_option linter.unusedSimpArgs false

def cells4 (x : Pl.Tr × Sl) : List Value := [.int .i64 x.1.kind, .string x.1.text, .slice x.2.ga x.1.gaps.length x.2.gc, .slice x.2.da x.1.kids.length x.2.dc]
def row4 (L : List (Pl.Tr × Sl)) : List Value := L.flatMap cells4
theorem row4_snoc (L : List (Pl.Tr × Sl)) (t : Pl.Tr × Sl) : row4 (L ++ [t]) = row4 L ++ cells4 t := by unfold row4; simp
theorem row4_len (L : List (Pl.Tr × Sl)) : (row4 L).length = L.length * 4 := by
  induction L with
  | nil => rfl
  | cons t L ih => unfold row4 at ih ⊢; rw [List.flatMap_cons, List.length_append, ih, List.length_cons]; show 4 + _ = _; omega
theorem row4_get (L : List (Pl.Tr × Sl)) (j : Nat) (t : Pl.Tr × Sl) (h : L[j]? = some t) (f : Nat) (hf : f < 4) : (row4 L)[j * 4 + f]? = (cells4 t)[f]? := by
  induction L generalizing j with
  | nil => simp at h
  | cons a L ih =>
    have e : row4 (a :: L) = cells4 a ++ row4 L := by unfold row4; rw [List.flatMap_cons]
    rw [e]
    match j, h with
    | 0, h =>
      obtain rfl : a = t := by simpa using h
      rw [List.getElem?_append_left (by show 0 * 4 + f < 4; omega)]
      congr 1; omega
    | j + 1, h =>
      rw [List.getElem?_append_right (by show 4 ≤ _; omega)]
      have := ih j (by simpa using h)
      rw [← this]
      congr 1; show (j + 1) * 4 + f - 4 = _; omega
theorem owns_later {w w' : World} {B : Nat} {e : TypeId} {size n : Nat} {v : Value} {xs : List Value} (h : w.ownsRow B e size v n xs) (hb : Below w.heap.size w w') : w'.ownsRow B e size v n xs := by
  refine ⟨h.1, ?_⟩
  rcases h.2 with h2 | ⟨g, cap, cur, h1, h2, h3, h4⟩
  · exact .inl h2
  · exact .inr ⟨g, cap, cur, h1, h2, by rw [hb.block g (lt_of_block h3)]; exact h3, h4⟩
/-- What lies in a row of the call's own. -/
theorem owns_at {w : World} {B n : Nat} {v : Value} {L : List (Pl.Tr × Sl)} (h : w.ownsRow B 54 4 v n (row4 L)) (hn : n = L.length) (h0 : 0 < n) :
    ∃ g cap, v = .slice (some ⟨g, 0, none⟩) n cap ∧ B ≤ g ∧ g < w.heap.size ∧ n ≤ maxLen ∧ ∀ (j : Nat) x, L[j]? = some x → AtT w g (0 + j * 4) x.1 x.2 := by
  rcases h.2 with ⟨rfl, h3⟩ | ⟨g, cap, cur, rfl, hg, hh, hn1, hm, hz, ht⟩
  · omega
  · refine ⟨g, cap, rfl, hg, lt_of_block hh, by omega, fun j x hj => ?_⟩
    have hjl := (List.getElem?_eq_some_iff.1 hj).1
    have one : ∀ f, f < 4 → w.cell? ⟨g, 0 + j * 4 + f, none⟩ = (cells4 x)[f]? := by
      intro f hf
      have h4 := row4_get L j x hj f hf
      rw [← ht, List.getElem?_take, if_pos (by omega)] at h4
      rw [cell_of_row w g _ cur _ _ hh, ← h4, Nat.zero_add]
      simp
    exact ⟨one 0 (by decide), one 1 (by decide), one 2 (by decide), one 3 (by decide)⟩
/-- What an append has left as it was. -/
theorem grown_same {w w' : World} {row : Option Nat} (hg : w.grownBy w' row) {P : Nat → Prop} (hP : ∀ x, P x → x < w.heap.size ∧ some x ≠ row) : Same P w w' :=
  fun x hx => hg.block x (hP x hx).1 (hP x hx).2
end Go.Proofs.Ytoelfiendfemaaa
