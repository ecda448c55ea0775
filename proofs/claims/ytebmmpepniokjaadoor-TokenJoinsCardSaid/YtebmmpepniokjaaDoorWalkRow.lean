/- Lists of tokens that a call makes, or that came in. -/
import Derived.Test.YtebmmpepniokjaaDoorWalkSkip
import Derived.Test.YtebmmpepniokjaaDoorPlainGap
import Derived.Deep.QuietTactic
import Derived.BigQuiet
import Derived.IntWalk
import Derived.OwnWalk
namespace Go.Proofs.YtebmmpepniokjaaDoor
open Go.RowKit
set_option linter.unusedVariables false
set_option linter.unusedSimpArgs false

/-- A token as it lies in memory. -/
structure T4 where
  k : Int
  lead : ByteArray
  text : ByteArray
  pos : Int
def t4 (t : Pl.Tok) : T4 := ⟨t.k, Pl.mk t.lead, Pl.mk t.text, t.pos⟩
def cells4 (t : T4) : List Value := [.int .i64 t.k, .string t.lead, .string t.text, .int .i64 t.pos]
def row4 (L : List T4) : List Value := L.flatMap cells4
theorem row4_snoc (L : List T4) (t : T4) : row4 (L ++ [t]) = row4 L ++ cells4 t := by unfold row4; simp
theorem row4_len (L : List T4) : (row4 L).length = L.length * 4 := by
  induction L with
  | nil => rfl
  | cons t L ih => unfold row4 at ih ⊢; rw [List.flatMap_cons, List.length_append, ih, List.length_cons]; show 4 + _ = _; omega
theorem row4_get (L : List T4) (j : Nat) (t : T4) (h : L[j]? = some t) (f : Nat) (hf : f < 4) : (row4 L)[4 * j + f]? = (cells4 t)[f]? := by
  induction L generalizing j with
  | nil => simp at h
  | cons a L ih =>
    have e : row4 (a :: L) = cells4 a ++ row4 L := by unfold row4; rw [List.flatMap_cons]
    rw [e]
    match j, h with
    | 0, h =>
      obtain rfl : a = t := by simpa using h
      rw [List.getElem?_append_left (by show 4 * 0 + f < 4; omega)]
      congr 1; omega
    | j + 1, h =>
      rw [List.getElem?_append_right (by show 4 ≤ _; omega)]
      have := ih j (by simpa using h)
      rw [← this]
      congr 1; show 4 * (j + 1) + f - 4 = _; omega
theorem Tryd.infoT : (Tryd.prog.info? 32).map (fun i => (i.zero, i.size, i.bytes)) = some (some (.agg #[.int .i64 0, .string ⟨#[]⟩, .string ⟨#[]⟩, .int .i64 0]), 4, 48) := by kernel_rfl

/-- The four cells of a token, from an address on. -/
def At4 (w : World) (b o : Nat) (t : T4) : Prop := w.cell? ⟨b, o, none⟩ = some (.int .i64 t.k) ∧ w.cell? ⟨b, o + 1, none⟩ = some (.string t.lead) ∧ w.cell? ⟨b, o + 2, none⟩ = some (.string t.text) ∧ w.cell? ⟨b, o + 3, none⟩ = some (.int .i64 t.pos)
def Toks (w : World) (b o : Nat) (L : List T4) : Prop := ∀ (j : Nat) t, L[j]? = some t → At4 w b (o + 4 * j) t
theorem Toks.later {w w' : World} {b o : Nat} {L : List T4} (h : Toks w b o L) (hl : b < w.heap.size) (hb : Below w.heap.size w w') : Toks w' b o L := by
  intro j t hj
  obtain ⟨h1, h2, h3, h4⟩ := h j t hj
  exact ⟨(hb.cell (p := ⟨b, _, none⟩) hl).trans h1, (hb.cell (p := ⟨b, _, none⟩) hl).trans h2, (hb.cell (p := ⟨b, _, none⟩) hl).trans h3, (hb.cell (p := ⟨b, _, none⟩) hl).trans h4⟩
/-- A slice that reads as a list of tokens, wherever it lies. -/
def Reads (w : World) (v : Value) (L : List T4) : Prop :=
  (L = [] ∧ ∃ a c, v = .slice a 0 c ∧ (a = none → c = 0)) ∨ ∃ b o c, v = .slice (some ⟨b, o, none⟩) L.length c ∧ b < w.heap.size ∧ Toks w b o L ∧ L.length ≤ maxLen
theorem Reads.later {w w' : World} {v : Value} {L : List T4} (h : Reads w v L) (hb : Below w.heap.size w w') : Reads w' v L := by
  rcases h with h | ⟨b, o, c, h1, h2, h3, h4⟩
  · exact .inl h
  · exact .inr ⟨b, o, c, h1, Nat.lt_of_lt_of_le h2 hb.size, h3.later h2 hb, h4⟩
theorem reads_nil (w : World) : Reads w (.slice none 0 0) [] := .inl ⟨rfl, _, _, rfl, fun _ => rfl⟩
theorem reads_len {w : World} {v : Value} {L : List T4} (h : Reads w v L) : ∃ a c, v = .slice a L.length c := by
  rcases h with ⟨rfl, a, c, rfl, _⟩ | ⟨b, o, c, rfl, _⟩
  · exact ⟨a, c, rfl⟩
  · exact ⟨_, c, rfl⟩
/-- A row of tokens of the call's own. -/
def Own (w : World) (B : Nat) (v : Value) (L : List T4) : Prop := w.ownsRow B 32 4 v L.length (row4 L)
theorem reads_own {w : World} {B : Nat} {v : Value} {L : List T4} (h : Own w B v L) : Reads w v L := by
  obtain ⟨h1, h2⟩ := h
  rcases h2 with ⟨rfl, h3⟩ | ⟨g, cap, cur, rfl, hg, hh, hn, hm, hz, ht⟩
  · exact .inl ⟨List.eq_nil_of_length_eq_zero h3, _, _, rfl, fun _ => rfl⟩
  · refine .inr ⟨g, 0, cap, rfl, lt_of_block hh, fun j t hj => ?_, by omega⟩
    have hjl := (List.getElem?_eq_some_iff.1 hj).1
    have one : ∀ f, f < 4 → w.cell? ⟨g, 0 + 4 * j + f, none⟩ = (cells4 t)[f]? := by
      intro f hf
      have h4 := row4_get L j t hj f hf
      rw [← ht, List.getElem?_take, if_pos (by omega)] at h4
      rw [cell_of_row w g _ cur _ _ hh, ← h4, Nat.zero_add]
      simp
    exact ⟨one 0 (by decide), one 1 (by decide), one 2 (by decide), one 3 (by decide)⟩
theorem own_ge {w : World} {B : Nat} {v : Value} {L : List T4} (h : Own w B v L) : ∀ k, v.ownBlock = some k → B ≤ k := by
  intro k hk
  rcases h.2 with ⟨rfl, _⟩ | ⟨g, cap, cur, rfl, hg, _⟩
  · simp [Value.ownBlock] at hk
  · simp [Value.ownBlock] at hk; omega
theorem own_later {w w' : World} {B : Nat} {v : Value} {L : List T4} (h : Own w B v L) (hb : Below w.heap.size w w') : Own w' B v L := by
  refine ⟨h.1, ?_⟩
  rcases h.2 with h2 | ⟨g, cap, cur, h1, h2, h3, h4⟩
  · exact .inl h2
  · exact .inr ⟨g, cap, cur, h1, h2, by rw [hb.block g (lt_of_block h3)]; exact h3, h4⟩
theorem own_nil (w : World) (B : Nat) : Own w B (.slice none 0 0) [] := World.ownsRow_nil _ _ _ _
theorem own_snoc {w : World} {B n : Nat} {v : Value} {L : List T4} {t : T4} (h : w.ownsRow B 32 4 v (n + 1) (row4 L ++ cells4 t)) (hn : n = L.length) : Own w B v (L ++ [t]) := by
  subst hn
  unfold Own
  rw [row4_snoc, List.length_append]; exact h
theorem news4 (k pos : Int) (lead text : ByteArray) (w : World) : ∀ (j : Nat) u, ([.int .i64 k, .string lead, .string text, .int .i64 pos] : List Value)[j]? = some u → (w.alloc (.cells #[.int .i64 k, .string lead, .string text, .int .i64 pos] 32)).cell? ((⟨w.heap.size, 0, none⟩ : Addr).add j) = some u := by
  intro j u hj
  match j, hj with
  | 0, hj => simp at hj; subst hj; simp [Addr.add]
  | 1, hj => simp at hj; subst hj; simp [Addr.add]
  | 2, hj => simp at hj; subst hj; simp [Addr.add]
  | 3, hj => simp at hj; subst hj; simp [Addr.add]
theorem news4_cell (k pos : Int) (lead text : ByteArray) : ∀ u ∈ ([.int .i64 k, .string lead, .string text, .int .i64 pos] : List Value), u.oneCell' = true := by
  intro u hu; simp at hu; rcases hu with rfl | rfl | rfl | rfl <;> rfl
end Go.Proofs.YtebmmpepniokjaaDoor
