/- Tables of rows as they lie in memory, and rows that a call makes by append. -/
import Derived.Test.YtoelfiendfemaaaWalkRBare
namespace Go.Proofs.Ytoelfiendfemaaa
open Go.RowKit Go.Deep
set_option linter.unusedVariables false
set_option linter.unusedSimpArgs false

theorem infoR : (Try.prog.info? 47).map (fun i => (i.zero, i.size, i.bytes)) = some (some (.agg #[.int .i64 0, .int .i64 0, .string ⟨#[]⟩, .slice none 0 0, .slice none 0 0]), 5, 80) := by kernel_rfl
theorem infoI : (Try.prog.info? 3).map (fun i => (i.zero, i.size, i.bytes)) = some (some (.int .i64 0), 1, 8) := by kernel_rfl
theorem sizeR : (Try.prog.info? 47).map (·.size) = some 5 := by kernel_rfl
def cells5 (x : Pl.Rw × Sl) : List Value := [.int .i64 x.1.parent, .int .i64 x.1.kind, .string x.1.text, .slice x.2.ga x.1.gaps.length x.2.gc, .slice x.2.da x.1.kids.length x.2.dc]
def row5 (L : List (Pl.Rw × Sl)) : List Value := L.flatMap cells5
theorem row5_append (L M : List (Pl.Rw × Sl)) : row5 (L ++ M) = row5 L ++ row5 M := by unfold row5; simp
theorem row5_snoc (L : List (Pl.Rw × Sl)) (t : Pl.Rw × Sl) : row5 (L ++ [t]) = row5 L ++ cells5 t := by unfold row5; simp
theorem row5_len (L : List (Pl.Rw × Sl)) : (row5 L).length = L.length * 5 := by
  induction L with
  | nil => rfl
  | cons t L ih => unfold row5 at ih ⊢; rw [List.flatMap_cons, List.length_append, ih, List.length_cons]; show 5 + _ = _; omega
theorem row5_get (L : List (Pl.Rw × Sl)) (j : Nat) (t : Pl.Rw × Sl) (h : L[j]? = some t) (f : Nat) (hf : f < 5) : (row5 L)[j * 5 + f]? = (cells5 t)[f]? := by
  induction L generalizing j with
  | nil => simp at h
  | cons a L ih =>
    have e : row5 (a :: L) = cells5 a ++ row5 L := by unfold row5; rw [List.flatMap_cons]
    rw [e]
    match j, h with
    | 0, h =>
      obtain rfl : a = t := by simpa using h
      rw [List.getElem?_append_left (by show 0 * 5 + f < 5; omega)]
      congr 1; omega
    | j + 1, h =>
      rw [List.getElem?_append_right (by show 5 ≤ _; omega)]
      have := ih j (by simpa using h)
      rw [← this]
      congr 1; show (j + 1) * 5 + f - 5 = _; omega
/-- The five cells of a row, from an address on. -/
def At5 (w : World) (b o : Nat) (x : Pl.Rw) (r : Sl) : Prop := w.rangeAt b o (cells5 (x, r))
theorem At5.keep {w w' : World} {b o : Nat} {x : Pl.Rw} {r : Sl} (h : At5 w b o x r) (hb : w'.heap[b]? = w.heap[b]?) : At5 w' b o x r := fun j v hv => (World.cell?_of_block (w := w) (a := ⟨b, o + j, none⟩) hb).trans (h j v hv)
theorem At5.cells {w : World} {b o : Nat} {x : Pl.Rw} {r : Sl} (h : At5 w b o x r) : w.cell? ⟨b, o, none⟩ = some (.int .i64 x.parent) ∧ w.cell? ⟨b, o + 1, none⟩ = some (.int .i64 x.kind) ∧ w.cell? ⟨b, o + 2, none⟩ = some (.string x.text) ∧
    w.cell? ⟨b, o + 3, none⟩ = some (.slice r.ga x.gaps.length r.gc) ∧ w.cell? ⟨b, o + 4, none⟩ = some (.slice r.da x.kids.length r.dc) :=
  ⟨h 0 _ rfl, h 1 _ rfl, h 2 _ rfl, h 3 _ rfl, h 4 _ rfl⟩
/-- What a row's slices read as. -/
def RowIn (P : Nat → Prop) (w : World) (x : Pl.Rw) (r : Sl) : Prop := x.text.size ≤ maxLen ∧ Strs P w r.ga x.gaps ∧ Ints P w r.da x.kids
theorem RowIn.keep {P Q : Nat → Prop} {w w' : World} {x : Pl.Rw} {r : Sl} (h : RowIn P w x r) (hs : Same P w w') (hq : ∀ b, P b → Q b) : RowIn Q w' x r := ⟨h.1, h.2.1.keep hs hq, h.2.2.keep hs hq⟩
/-- A table that lies somewhere. -/
def TabIn (P : Nat → Prop) (w : World) (a : Option Addr) (l : List Pl.Rw) (R : Nat → Sl) : Prop :=
  l.length ≤ maxLen ∧ (l = [] ∨ ∃ b o, a = some ⟨b, o, none⟩ ∧ P b ∧ ∀ (j : Nat) x, l[j]? = some x → At5 w b (o + j * 5) x (R j)) ∧ ∀ (j : Nat) x, l[j]? = some x → RowIn P w x (R j)
theorem TabIn.keep {P Q : Nat → Prop} {w w' : World} {a : Option Addr} {l : List Pl.Rw} {R : Nat → Sl} (h : TabIn P w a l R) (hs : Same P w w') (hq : ∀ b, P b → Q b) : TabIn Q w' a l R := by
  obtain ⟨h1, h2, h3⟩ := h
  refine ⟨h1, ?_, fun j x hx => (h3 j x hx).keep hs hq⟩
  rcases h2 with h2 | ⟨b, o, e, hb, h2⟩
  · exact .inl h2
  · exact .inr ⟨b, o, e, hq b hb, fun j x hx => (h2 j x hx).keep (hs b hb)⟩
/-- What lies in a row of rows of the call's own. -/
theorem owns5_at {w : World} {B n : Nat} {v : Value} {L : List (Pl.Rw × Sl)} (h : w.ownsRow B 47 5 v n (row5 L)) (hn : n = L.length) (h0 : 0 < n) :
    ∃ g cap, v = .slice (some ⟨g, 0, none⟩) n cap ∧ B ≤ g ∧ g < w.heap.size ∧ n ≤ maxLen ∧ ∀ (j : Nat) x, L[j]? = some x → At5 w g (0 + j * 5) x.1 x.2 := by
  rcases h.2 with ⟨rfl, h3⟩ | ⟨g, cap, cur, rfl, hg, hh, hn1, hm, hz, ht⟩
  · omega
  · refine ⟨g, cap, rfl, hg, lt_of_block hh, by omega, fun j x hj f v hv => ?_⟩
    have hjl := (List.getElem?_eq_some_iff.1 hj).1
    have hf : f < 5 := (List.getElem?_eq_some_iff.1 hv).1
    have h4 := row5_get L j x hj f hf
    rw [← ht, List.getElem?_take, if_pos (by omega), hv] at h4
    rw [cell_of_row w g _ cur _ _ hh, ← h4, Nat.zero_add]
    simp
theorem isTab_get {α β : Type} {L : List (α × β)} {l : List α} (h : L.map Prod.fst = l) {j : Nat} {x : α} (hx : l[j]? = some x) : ∃ r, L[j]? = some (x, r) := by
  rw [← h, List.getElem?_map] at hx
  obtain ⟨y, hy, rfl⟩ := Option.map_eq_some_iff.1 hx
  exact ⟨y.2, hy⟩
/-- The places of the slices in a list of rows. -/
def places (L : List (Pl.Rw × Sl)) (q : Nat) : Sl := match L[q]? with | some x => x.2 | none => ⟨none, 0, none, 0⟩
theorem places_get {L : List (Pl.Rw × Sl)} {q : Nat} {x : Pl.Rw × Sl} (h : L[q]? = some x) : places L q = x.2 := by unfold places; rw [h]
/-- What appendRows and the reference's rows answer: the rows of a tree behind those that are there. -/
def RowsP (B : Nat) (P : Nat → Prop) (t : Pl.Tr) (p : Int) (a : Option Addr) (n c : Nat) (L : List (Pl.Rw × Sl)) (w1 : World) (e : Ending) (w' : World) : Prop :=
  ∃ (g c' : Nat) (L2 : List (Pl.Rw × Sl)), e = .returned (.slice (some ⟨g, 0, none⟩) (n + Pl.sz t) c') ∧ L2.map Prod.fst = Pl.tab t n p ∧ w'.ownsRow B 47 5 (.slice (some ⟨g, 0, none⟩) (n + Pl.sz t) c') (n + Pl.sz t) (row5 (L ++ L2)) ∧
    w1.grownBy w' (Value.slice a n c).ownBlock ∧ ((Value.slice a n c).ownBlock = some g ∨ w1.heap.size ≤ g) ∧ g < w'.heap.size ∧
    ∀ (q : Nat) x, L2[q]? = some x → RowIn (fun b => (P b ∨ w1.heap.size ≤ b) ∧ b < w'.heap.size ∧ b ≠ g) w' x.1 x.2
theorem owns_keep {w w' : World} {B : Nat} {e : TypeId} {size n : Nat} {v : Value} {xs : List Value} (h : w.ownsRow B e size v n xs) (hb : ∀ x, v.ownBlock = some x → w'.heap[x]? = w.heap[x]?) : w'.ownsRow B e size v n xs := by
  refine ⟨h.1, ?_⟩
  rcases h.2 with h2 | ⟨g, cap, cur, h1, h2, h3, h4⟩
  · exact .inl h2
  · exact .inr ⟨g, cap, cur, h1, h2, by rw [hb g (by rw [h1]; rfl)]; exact h3, h4⟩
theorem grown_trans {a b c : World} {row row' : Option Nat} (h : a.grownBy b row) (k : b.grownBy c row') (hr : ∀ j, row' = some j → a.heap.size ≤ j ∨ row = some j) : a.grownBy c row := by
  refine ⟨k.os.trans h.os, k.tape.trans h.tape, k.output.trans h.output, Nat.le_trans h.size k.size, fun i hi hne => ?_⟩
  have h1 := h.block i hi hne
  have h2 := h.size
  refine (k.block i (by omega) (fun e => ?_)).trans h1
  rcases hr i e.symm with h3 | h3
  · omega
  · exact hne h3.symm
theorem below_grown {w w' : World} {row : Option Nat} (h : Below w.heap.size w w') : w.grownBy w' row := ⟨h.os, h.tape, h.output, h.size, fun k hk _ => h.block k hk⟩
theorem below_grown' {w w' : World} {B : Nat} {row : Option Nat} (h : Below B w w') (hB : w.heap.size ≤ B) : w.grownBy w' row := ⟨h.os, h.tape, h.output, h.size, fun k hk _ => h.block k (by omega)⟩
end Go.Proofs.Ytoelfiendfemaaa
