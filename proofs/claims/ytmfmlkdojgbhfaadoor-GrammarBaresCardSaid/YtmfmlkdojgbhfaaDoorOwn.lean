/- Rows of nodes that a law makes by append. -/
import Derived.Test.YtmfmlkdojgbhfaaDoorWalkAwake
import Derived.Deep.AppendLies
import Derived.Deep.RegionLaw
import Derived.OwnWalk
namespace Go.Proofs.YtmfmlkdojgbhfaaDoor
open Go.RowKit
set_option linter.unusedVariables false
set_option linter.unusedSimpArgs false

theorem infoN : (Tryd.prog.info? 25).map (fun i => (i.zero, i.size, i.bytes)) = some (some (.agg #[.int .i64 0, .string ⟨#[]⟩, .slice none 0 0, .slice none 0 0]), 4, 72) := by kernel_rfl
theorem info_parts {sz by' : Nat} {z : Value} {o : Option TypeInfo} (h : o.map (fun i => (i.zero, i.size, i.bytes)) = some (some z, sz, by')) : ∃ i, o = some i ∧ i.zero = some z ∧ i.size = sz ∧ i.bytes = by' := by
  obtain ⟨i, hi, hzz⟩ := Option.map_eq_some_iff.1 h
  simp only [Prod.mk.injEq] at hzz
  exact ⟨i, hi, hzz.1, hzz.2.1, hzz.2.2⟩
def cells4 (x : Pl.Tr × Sl) : List Value := [.int .i64 x.1.kind, .string x.1.text, .slice x.2.ga x.1.gaps.length x.2.gc, .slice x.2.da x.1.kids.length x.2.dc]
def row4 (L : List (Pl.Tr × Sl)) : List Value := L.flatMap cells4
theorem row4_snoc (L : List (Pl.Tr × Sl)) (t : Pl.Tr × Sl) : row4 (L ++ [t]) = row4 L ++ cells4 t := by unfold row4; simp
theorem row4_get (L : List (Pl.Tr × Sl)) (j : Nat) (t : Pl.Tr × Sl) (h : L[j]? = some t) (f : Nat) (hf : f < 4) : (row4 L)[j * 4 + f]? = (cells4 t)[f]? := by
  induction L generalizing j with
  | nil => simp at h
  | cons a L ih =>
    have e : row4 (a :: L) = cells4 a ++ row4 L := by unfold row4; rw [List.flatMap_cons]
    rw [e]
    match j, h with
    | 0, h =>
      obtain rfl : a = t := by simpa using h
      rw [List.getElem?_append_left (by show 0 * 4 + f < 4; omega)]
      congr 1; omega
    | j + 1, h =>
      rw [List.getElem?_append_right (by show 4 ≤ _; omega)]
      have := ih j (by simpa using h)
      rw [← this]
      congr 1; show (j + 1) * 4 + f - 4 = _; omega
theorem lt_blk {w : World} {b : Nat} {o : Obj} (h : w.heap[b]? = some o) : b < w.heap.size := (Array.getElem?_eq_some_iff.1 h).1
theorem owns_later {w w' : World} {B : Nat} {e : TypeId} {size n : Nat} {v : Value} {xs : List Value} (h : w.ownsRow B e size v n xs) (hb : Below w.heap.size w w') : w'.ownsRow B e size v n xs := by
  refine ⟨h.1, ?_⟩
  rcases h.2 with h2 | ⟨g, cap, cur, h1, h2, h3, h4⟩
  · exact .inl h2
  · exact .inr ⟨g, cap, cur, h1, h2, by rw [hb.block g (lt_blk h3)]; exact h3, h4⟩
/-- What lies in a row of the call's own. -/
theorem owns_at {w : World} {B n : Nat} {v : Value} {L : List (Pl.Tr × Sl)} (h : w.ownsRow B 25 4 v n (row4 L)) (hn : n = L.length) (h0 : 0 < n) :
    ∃ g cap, v = .slice (some ⟨g, 0, none⟩) n cap ∧ B ≤ g ∧ g < w.heap.size ∧ n ≤ maxLen ∧ ∀ (j : Nat) x, L[j]? = some x → AtT w g (0 + j * 4) x.1 x.2 := by
  rcases h.2 with ⟨rfl, h3⟩ | ⟨g, cap, cur, rfl, hg, hh, hn1, hm, hz, ht⟩
  · omega
  · refine ⟨g, cap, rfl, hg, lt_blk hh, by omega, fun j x hj => ?_⟩
    have hjl := (List.getElem?_eq_some_iff.1 hj).1
    have one : ∀ f, f < 4 → w.cell? ⟨g, 0 + j * 4 + f, none⟩ = (cells4 x)[f]? := by
      intro f hf
      have h4 := row4_get L j x hj f hf
      rw [← ht, List.getElem?_take, if_pos (by omega)] at h4
      rw [cell_of_row w g _ cur _ _ hh, ← h4, Nat.zero_add]
      simp
    exact ⟨one 0 (by decide), one 1 (by decide), one 2 (by decide), one 3 (by decide)⟩
/-- The slice that holds the kids gathered so far: its value, and what it reads as; X is a box that none of them uses. -/
def Made (X B : Nat) (w : World) (a : Option Addr) (n c : Nat) (L : List (Pl.Tr × Sl)) : Prop :=
  n = L.length ∧ w.ownsRow B 25 4 (.slice a n c) n (row4 L) ∧ ∀ (q : Nat) x, L[q]? = some x → Tin (fun b => b < w.heap.size ∧ b ≠ X ∧ (Value.slice a n c).ownBlock ≠ some b) w x.1 x.2
theorem made_nil (X B : Nat) (w : World) : Made X B w none 0 0 [] := ⟨rfl, World.ownsRow_nil _ _ _ _, fun q x h => by cases q <;> cases h⟩
/-- One kid more, behind a call and the append. -/
theorem made_snoc {X B n c cap g : Nat} {a : Option Addr} {w w2 w3 : World} {o : Obj} {L : List (Pl.Tr × Sl)} {t : Pl.Tr} {r : Sl} (h : Made X B w a n c L) (hb : Below w.heap.size w w2) (ht : Tin (fun x => x < w2.heap.size ∧ x ≠ X ∧ (Value.slice a n c).ownBlock ≠ some x) w2 t r)
    (hown : w3.ownsRow B 25 4 (.slice (some ⟨g, 0, none⟩) (n + 1) cap) (n + 1) (row4 L ++ cells4 (t, r))) (hgrow : (w2.alloc o).grownBy w3 (Value.slice a n c).ownBlock) (hat : (Value.slice a n c).ownBlock = some g ∨ g = w2.heap.size + 1) :
    Made X B w3 (some ⟨g, 0, none⟩) (n + 1) cap (L ++ [(t, r)]) := by
  obtain ⟨h1, h2, h3⟩ := h
  have hz := hb.size
  have hz3 := hgrow.size
  simp at hz3
  have hgo : (Value.slice (some (⟨g, 0, none⟩ : Addr)) (n + 1) cap).ownBlock = some g := rfl
  refine ⟨by rw [List.length_append, h1]; rfl, by rw [row4_snoc]; exact hown, fun q x hx => ?_⟩
  by_cases hq : q < L.length
  · rw [List.getElem?_append_left hq] at hx
    refine (h3 q x hx).keep (fun y hy => ?_) (fun y hy => ?_)
    · exact (hgrow.block y (by simp; omega) (fun e => hy.2.2 e.symm)).trans ((Below.heap_alloc _ _ _ (by omega)).trans (hb.block y hy.1))
    · refine ⟨by omega, hy.2.1, fun e => ?_⟩
      rw [hgo, Option.some.injEq] at e
      rcases hat with hat | hat
      · exact hy.2.2 (by rw [hat, e])
      · omega
  · rw [List.getElem?_append_right (by omega)] at hx
    obtain rfl : (t, r) = x := by
      match hq2 : q - L.length, hx with
      | 0, hx => simpa using hx
      | k + 1, hx => simp at hx
    refine ht.keep (fun y hy => ?_) (fun y hy => ?_)
    · exact (hgrow.block y (by simp; omega) (fun e => hy.2.2 e.symm)).trans (Below.heap_alloc _ _ _ hy.1)
    · refine ⟨by omega, hy.2.1, fun e => ?_⟩
      rw [hgo, Option.some.injEq] at e
      rcases hat with hat | hat
      · exact hy.2.2 (by rw [hat, e])
      · omega
theorem made_keep {X B n c : Nat} {a : Option Addr} {w w' : World} {L : List (Pl.Tr × Sl)} (h : Made X B w a n c L) (hX : X < B) (hb : ∀ x, x ≠ X → x < w.heap.size → w'.heap[x]? = w.heap[x]?) (hs : w.heap.size ≤ w'.heap.size) : Made X B w' a n c L := by
  obtain ⟨h1, h2, h3⟩ := h
  refine ⟨h1, ⟨h2.1, ?_⟩, fun q x hx => (h3 q x hx).keep (fun y hy => hb y hy.2.1 hy.1) fun y hy => ⟨by omega, hy.2⟩⟩
  rcases h2.2 with h | ⟨g, cap, cur, k1, k2, k3, k4⟩
  · exact .inl h
  · exact .inr ⟨g, cap, cur, k1, k2, by rw [hb g (by omega) (lt_blk k3)]; exact k3, k4⟩
/-- The kids gathered are a node's kids. -/
theorem made_lies {X B n c : Nat} {a : Option Addr} {w : World} {L : List (Pl.Tr × Sl)} (h : Made X B w a n c L) : ∃ R, Lies (fun b => b < w.heap.size) w (L.map Prod.fst) a R ∧ ∀ (j : Nat) u, (L.map Prod.fst)[j]? = some u → IsT w u (R j) := by
  obtain ⟨h1, h2, h3⟩ := h
  refine ⟨fun q => match L[q]? with | some x => x.2 | none => ⟨none, 0, none, 0⟩, ?_, fun q v hv => ?_⟩
  · rcases Nat.eq_zero_or_pos n with h0 | h0
    · left
      rw [List.map_eq_nil_iff]
      exact List.eq_nil_of_length_eq_zero (by omega)
    · obtain ⟨g2, cap2, he, hge2, hlt2, _, hat⟩ := owns_at h2 h1 h0
      injection he with he1 he2 he3
      refine .inr ⟨g2, 0, he1, hlt2, fun q v hv => ?_⟩
      rw [List.getElem?_map] at hv
      obtain ⟨x, hx, rfl⟩ := Option.map_eq_some_iff.1 hv
      simp only [hx]
      exact hat q x hx
  · rw [List.getElem?_map] at hv
    obtain ⟨x, hx, rfl⟩ := Option.map_eq_some_iff.1 hv
    simp only [hx]
    exact (h3 q x hx).isT fun b hb => hb.1
end Go.Proofs.YtmfmlkdojgbhfaaDoor
