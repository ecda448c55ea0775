/- Trivia of a string, as plain functions of lists of bytes: nothing of the program. What one blank or complete comment takes, where the trivia ends. -/
import Derived.Test.YtmfmlkdojgbhfaaDoorPlain
import Derived.Lib.IndexLaws
namespace Go.Proofs.YtmfmlkdojgbhfaaDoor.Pl
open Go
set_option linter.unusedVariables false
set_option linter.unusedSimpArgs false


def blank (c : UInt8) : Bool := c == 32 || c == 9 || c == 10
theorem blank_iff (c : UInt8) : blank c = true ↔ c = 32 ∨ c = 9 ∨ c = 10 := by simp [blank, or_assoc]

/-- How many bytes the blank or the complete comment takes with which a text begins; 0 if there is none. -/
def hop : Bs → Nat
  | [] => 0
  | c :: r => if blank c = true then 1 else if c = 47 ∧ r.head? = some 47 ∧ (10 : UInt8) ∈ r then r.idxOf 10 + 2 else 0

theorem idxOf_split (y r : Bs) (h : (10 : UInt8) ∉ y) : (y ++ 10 :: r).idxOf 10 = y.length := by
  induction y with
  | nil => simp
  | cons a t ih =>
    simp only [List.mem_cons, not_or] at h
    rw [List.cons_append, List.idxOf_cons, ih h.2]
    have : (a == 10) = false := by simpa using fun e => h.1 e.symm
    simp [this]
theorem hop_blank (c : UInt8) (r : Bs) (h : blank c = true) : hop (c :: r) = 1 := by simp [hop, h]
theorem hop_comment (y r : Bs) (h : (10 : UInt8) ∉ y) : hop (47 :: 47 :: (y ++ 10 :: r)) = y.length + 3 := by
  have hb : blank 47 = false := by decide
  have e : (47 :: (y ++ 10 :: r) : Bs).idxOf 10 = y.length + 1 := by
    have := idxOf_split (47 :: y) r (by simp [h])
    simpa using this
  rw [hop, if_neg (by simp [hb]), if_pos ⟨rfl, rfl, by simp⟩, e]

/-- What a text begins with. -/
theorem hop_cases (l : Bs) : hop l = 0 ∨ (∃ c r, l = c :: r ∧ blank c = true ∧ hop l = 1) ∨ ∃ y r : Bs, l = 47 :: 47 :: (y ++ 10 :: r) ∧ (10 : UInt8) ∉ y ∧ hop l = y.length + 3 := by
  match l with
  | [] => exact .inl rfl
  | c :: r =>
    by_cases hb : blank c = true
    · exact .inr (.inl ⟨c, r, rfl, hb, hop_blank c r hb⟩)
    · by_cases hc : c = 47 ∧ r.head? = some 47 ∧ (10 : UInt8) ∈ r
      · obtain ⟨rfl, h2, h3⟩ := hc
        cases r with
        | nil => simp at h2
        | cons a t =>
          obtain rfl : a = 47 := by simpa using h2
          have h4 : (10 : UInt8) ∈ t := by simpa using h3
          obtain ⟨y, u, rfl, hy⟩ := List.eq_append_cons_of_mem h4
          exact .inr (.inr ⟨y, u, rfl, hy, hop_comment y u hy⟩)
      · left
        rw [hop, if_neg hb, if_neg hc]

theorem hop_le (l : Bs) : hop l ≤ l.length := by
  rcases hop_cases l with h | ⟨c, r, rfl, _, h⟩ | ⟨y, r, rfl, _, h⟩
  · omega
  · rw [h]; simp
  · rw [h]; simp only [List.length_cons, List.length_append]; omega

theorem hop_append (l m : Bs) (h0 : hop l ≠ 0) : hop (l ++ m) = hop l := by
  rcases hop_cases l with h | ⟨c, r, rfl, hb, h⟩ | ⟨y, r, rfl, hy, h⟩
  · exact absurd h h0
  · rw [h, List.cons_append]; exact hop_blank _ _ hb
  · rw [h]
    have := hop_comment y (r ++ m) hy
    simpa using this
theorem hop_take (l : Bs) (h0 : hop l ≠ 0) : hop (l.take (hop l)) = hop l := by
  rcases hop_cases l with h | ⟨c, r, rfl, hb, h⟩ | ⟨y, r, rfl, hy, h⟩
  · exact absurd h h0
  · rw [h]; exact hop_blank _ _ hb
  · rw [h]
    have e : (47 :: 47 :: (y ++ 10 :: r) : Bs).take (y.length + 3) = 47 :: 47 :: (y ++ 10 :: []) := by
      have : (47 :: 47 :: (y ++ 10 :: r) : Bs) = (47 :: 47 :: (y ++ 10 :: [])) ++ r := by simp
      rw [this]
      exact List.take_left' (by simp)
    rw [e]; exact hop_comment y [] hy

theorem hop_ind {P : Bs → Prop} (h0 : ∀ l, hop l = 0 → P l) (h1 : ∀ l, hop l ≠ 0 → P (l.drop (hop l)) → P l) (l : Bs) : P l := by
  have key : ∀ n (l : Bs), l.length ≤ n → P l := by
    intro n
    induction n with
    | zero =>
      intro l hl
      have : l = [] := List.eq_nil_of_length_eq_zero (by omega)
      subst this; exact h0 [] rfl
    | succ n ih =>
      intro l hl
      by_cases hz : hop l = 0
      · exact h0 l hz
      · have := hop_le l
        exact h1 l hz (ih _ (by rw [List.length_drop]; omega))
  exact key l.length l (Nat.le_refl _)

/-- How many bytes the trivia takes with which a text begins. -/
def eo (l : Bs) : Nat := if h : hop l = 0 then 0 else hop l + eo (l.drop (hop l))
  termination_by l.length
  decreasing_by have := hop_le l; rw [List.length_drop]; omega
theorem eo_stop (l : Bs) (h : hop l = 0) : eo l = 0 := by unfold eo; rw [dif_pos h]
theorem eo_go (l : Bs) (h : hop l ≠ 0) : eo l = hop l + eo (l.drop (hop l)) := by rw [eo, dif_neg h]

theorem eo_le (l : Bs) : eo l ≤ l.length := by
  induction l using hop_ind with
  | h0 l h => rw [eo_stop l h]; omega
  | h1 l h ih => rw [eo_go l h]; have := hop_le l; rw [List.length_drop] at ih; omega
theorem eo_rest (l : Bs) : hop (l.drop (eo l)) = 0 := by
  induction l using hop_ind with
  | h0 l h => rw [eo_stop l h]; simpa using h
  | h1 l h ih => rw [eo_go l h, ← List.drop_drop]; exact ih
theorem eo_take (l : Bs) : eo (l.take (eo l)) = eo l := by
  induction l using hop_ind with
  | h0 l h => rw [eo_stop l h]; rw [List.take_zero]; exact eo_stop [] rfl
  | h1 l h ih =>
    have hl := hop_le l
    have e : l.take (eo l) = l.take (hop l) ++ (l.drop (hop l)).take (eo (l.drop (hop l))) := by rw [eo_go l h, List.take_add]
    have ht := hop_take l h
    have h2 : hop (l.take (eo l)) = hop l := by rw [e, hop_append _ _ (by rw [ht]; exact h), ht]
    rw [eo_go (l.take (eo l)) (by rw [h2]; exact h), h2, eo_go l h]
    congr 1
    rw [← eo_go l h, e, List.drop_left' (by rw [List.length_take]; omega)]
    exact ih
theorem eo_append (s t : Bs) (h : eo s = s.length) : eo (s ++ t) = s.length + eo t := by
  induction s using hop_ind with
  | h0 l hl =>
    rw [eo_stop l hl] at h
    have : l = [] := List.eq_nil_of_length_eq_zero h.symm
    subst this; simp
  | h1 l hl ih =>
    have hle := hop_le l
    have h2 := eo_go l hl
    have h3 := hop_append l t hl
    have h4 : (l ++ t).drop (hop l) = l.drop (hop l) ++ t := by rw [List.drop_append_of_le_length hle]
    rw [eo_go (l ++ t) (by rw [h3]; exact hl), h3, h4, ih (by rw [List.length_drop]; omega), List.length_drop]
    omega

/- ### What the program asks of the rest of a string -/

/-- Behind two slashes: the first line feed's place decides. -/
theorem prefix_iff (m : Bs) : Lib.hasPrefix m [47, 47] = true ↔ ∃ r, m = 47 :: 47 :: r := by
  unfold Lib.hasPrefix
  match m with
  | [] => simp [List.isPrefixOf]
  | [a] => simp [List.isPrefixOf]
  | a :: b :: r =>
    simp [List.isPrefixOf]
    constructor
    · rintro ⟨rfl, rfl⟩; exact ⟨rfl, rfl⟩
    · rintro ⟨rfl, rfl⟩; exact ⟨rfl, rfl⟩
theorem hop_not (c : UInt8) (r : Bs) (hb : blank c = false) (h : Lib.hasPrefix (c :: r) [47, 47] = false) : hop (c :: r) = 0 := by
  rcases hop_cases (c :: r) with h1 | ⟨c', r', e, hb', _⟩ | ⟨y, r', e, _, _⟩
  · exact h1
  · cases e; rw [hb] at hb'; cases hb'
  · have := (prefix_iff (c :: r)).2 ⟨_, e⟩
    rw [h] at this; cases this
theorem hop_idx (m : Bs) (h : Lib.hasPrefix m [47, 47] = true) : (hop m : Int) = Lib.indexByte m 10 + 1 := by
  obtain ⟨r, rfl⟩ := (prefix_iff m).1 h
  by_cases hm : (10 : UInt8) ∈ r
  · obtain ⟨y, u, rfl, hy⟩ := List.eq_append_cons_of_mem hm
    rw [hop_comment y u hy]
    have : ∀ y : Bs, (10 : UInt8) ∉ y → Lib.indexByte (y ++ 10 :: u) 10 = y.length := by
      intro y
      induction y with
      | nil => intro _; simp [Lib.indexByte]
      | cons a t ih =>
        intro hy
        simp only [List.mem_cons, not_or] at hy
        have ha : (a == 10) = false := by simpa using fun e => hy.1 e.symm
        have := ih hy.2
        simp only [List.cons_append, Lib.indexByte, ha, this]
        simp
        try omega
    have := this (47 :: 47 :: y) (by simp [hy])
    rw [List.cons_append, List.cons_append] at this
    rw [this]; simp only [List.length_cons]; omega
  · have e0 : hop (47 :: 47 :: r) = 0 := by
      rcases hop_cases (47 :: 47 :: r) with h1 | ⟨c', r', e, hb', _⟩ | ⟨y, r', e, _, _⟩
      · exact h1
      · cases e; exact absurd hb' (by decide)
      · cases e; exact absurd (by simp) hm
    have : ∀ y : Bs, (10 : UInt8) ∉ y → Lib.indexByte y 10 = -1 := by
      intro y
      induction y with
      | nil => intro _; rfl
      | cons a t ih =>
        intro hy
        simp only [List.mem_cons, not_or] at hy
        have ha : (a == 10) = false := by simpa using fun e => hy.1 e.symm
        simp [Lib.indexByte, ha, ih hy.2]
    rw [e0, this (47 :: 47 :: r) (by simp [hm])]; rfl
/-- As the reference looks for the line feed, byte by byte. -/
theorem hop_found (m : Bs) (h : ∃ r, m = 47 :: 47 :: r) (k : Nat) (hk : k < m.length) (h10 : m[k] = 10) (hno : ∀ j, (hj : j < m.length) → j < k → m[j] ≠ 10) : hop m = k + 1 := by
  obtain ⟨r, rfl⟩ := h
  have hk2 : 2 ≤ k := by
    match k, hk, h10 with
    | 0, _, h10 => simp at h10
    | 1, _, h10 => simp at h10
    | k + 2, _, _ => omega
  have e : (47 :: 47 :: r : Bs) = 47 :: 47 :: (r.take (k - 2) ++ 10 :: r.drop (k - 1)) := by
    congr 2
    have h1 : k - 2 < r.length := by simp only [List.length_cons] at hk; omega
    have h2 : r[k - 2] = 10 := by
      have : (47 :: 47 :: r : Bs)[k] = r[k - 2] := by
        obtain ⟨q, rfl⟩ : ∃ q, k = q + 2 := ⟨k - 2, by omega⟩
        simp
      rw [← this]; exact h10
    rw [show k - 1 = k - 2 + 1 from by omega, ← h2, ← List.drop_eq_getElem_cons h1, List.take_append_drop]
  have hy : (10 : UInt8) ∉ r.take (k - 2) := by
    intro hm
    obtain ⟨j, hj, hj2⟩ := List.getElem_of_mem hm
    rw [List.getElem_take] at hj2
    rw [List.length_take] at hj
    have := hno (j + 2) (by simp only [List.length_cons]; omega) (by omega)
    simp at this
    exact this hj2
  have := hop_comment _ (r.drop (k - 1)) hy
  rw [← e] at this
  rw [this, List.length_take]
  simp only [List.length_cons] at hk
  omega
theorem hop_none (m : Bs) (hb : ∀ c r, m = c :: r → blank c = false) (h : (∀ r, m ≠ 47 :: 47 :: r) ∨ ∀ j, (hj : j < m.length) → m[j] ≠ 10) : hop m = 0 := by
  rcases hop_cases m with h1 | ⟨c', r', e, hb', _⟩ | ⟨y, r', e, _, _⟩
  · exact h1
  · have := hb _ _ e; rw [hb'] at this; cases this
  · rcases h with h | h
    · exact absurd e (h _)
    · subst e
      have := h (y.length + 2) (by simp)
      simp at this
end Go.Proofs.YtmfmlkdojgbhfaaDoor.Pl
