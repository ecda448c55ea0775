/- Tokens, as plain functions of lists of bytes: nothing of the program. Which token a text begins with, the tokens of a text. -/
import Derived.Test.YtebmmpepniokjaaDoorPlainEnd
import Derived.Lib.ParseIntB
namespace Go.Proofs.YtebmmpepniokjaaDoor.Pl
open Go
set_option linter.unusedVariables false
set_option linter.unusedSimpArgs false

/-- A letter, a digit or an underscore. -/
def wb (c : UInt8) : Bool := wd c.toNat
/-- A digit. -/
def db (c : UInt8) : Bool := dg c.toNat
theorem db_wb (c : UInt8) (h : db c = true) : wb c = true := by unfold wb wd; unfold db at h; rw [h]; simp
/-- The marks of one byte, but = and the slash. -/
def mks : Bs := [40, 41, 123, 125, 44, 59, 58, 46, 60, 43, 45, 42, 33, 38, 124]
/-- The length of the run with which a text begins. -/
def rl (l : Bs) : Nat := (l.takeWhile wb).length
/-- What digits spell, behind n. -/
def numF (n : Nat) (l : Bs) : Nat := l.foldl (fun n c => n * 10 + (c.toNat - 48)) n
/-- An integer of the language. -/
def isInt (x : Bs) : Bool := !(x == []) && x.all db && (x == [48] || !(x.head? == some 48)) && decide (numF 0 x ≤ 1000000000000)
/-- The kind and the length of the token with which a text begins; zeros if there is none. -/
def frun (c : UInt8) (l : Bs) : Nat × Nat :=
  if db c = true then (if isInt (l.take (rl l)) = true then (2, rl l) else (0, 0))
  else if rl l ≤ 32 then (1, rl l) else (0, 0)
def fst : Bs → Nat × Nat
  | [] => (0, 0)
  | c :: r =>
    if wb c = true then frun c (c :: r)
    else if c = 61 then (3, if r.head? = some 61 then 2 else 1)
    else if c = 47 then (if r.head? = some 47 then (0, 0) else (3, 1))
    else if mks.contains c = true then (3, 1) else (0, 0)

theorem fst_cons (c : UInt8) (r : Bs) : fst (c :: r) = if wb c = true then frun c (c :: r) else if c = 61 then (3, if r.head? = some 61 then 2 else 1) else if c = 47 then (if r.head? = some 47 then (0, 0) else (3, 1)) else if mks.contains c = true then (3, 1) else (0, 0) := rfl
theorem rl_le (l : Bs) : rl l ≤ l.length := by unfold rl; exact (List.takeWhile_sublist _).length_le
theorem rl_pos (c : UInt8) (r : Bs) (h : wb c = true) : 1 ≤ rl (c :: r) := by unfold rl; rw [List.takeWhile_cons, if_pos h]; simp
theorem rl_take (l : Bs) : l.take (rl l) = l.takeWhile wb := by
  have h : l.takeWhile wb ++ l.dropWhile wb = l := List.takeWhile_append_dropWhile
  unfold rl
  have h2 : (l.takeWhile wb ++ l.dropWhile wb).take (l.takeWhile wb).length = l.takeWhile wb := List.take_left' rfl
  rwa [h] at h2
theorem rl_all (l : Bs) : ∀ c ∈ l.take (rl l), wb c = true := by
  rw [rl_take]
  intro c hc
  have := List.all_takeWhile (p := wb) (l := l)
  exact List.all_eq_true.1 this c hc
/-- The run ends where it must. -/
theorem rl_eq (l : Bs) (n : Nat) (hn : n ≤ l.length) (hy : ∀ k, (hk : k < l.length) → k < n → wb l[k] = true) (hno : ∀ hk : n < l.length, wb l[n] = false) : rl l = n := by
  induction l generalizing n with
  | nil => simp at hn; subst hn; rfl
  | cons c r ih =>
    match n with
    | 0 =>
      have := hno (by simp)
      simp only [List.getElem_cons_zero] at this
      unfold rl; rw [List.takeWhile_cons, if_neg (by simp [this])]; rfl
    | n + 1 =>
      have h0 := hy 0 (by simp) (by omega)
      simp only [List.getElem_cons_zero] at h0
      have := ih n (by simpa using hn) (fun k hk hlt => by have := hy (k + 1) (by simpa using hk) (by omega); simpa using this) (fun hk => by have := hno (by simpa using hk); simpa using this)
      unfold rl at this ⊢
      rw [List.takeWhile_cons, if_pos h0, List.length_cons, this]
/-- A run before what is no part of it. -/
theorem rl_append (x r : Bs) (hx : ∀ c ∈ x, wb c = true) (hr : ∀ c, r.head? = some c → wb c = false) : rl (x ++ r) = x.length := by
  induction x with
  | nil =>
    cases r with
    | nil => rfl
    | cons c t =>
      have := hr c rfl
      unfold rl; rw [List.nil_append, List.takeWhile_cons, if_neg (by simp [this])]
  | cons a t ih =>
    have := ih (fun c hc => hx c (List.mem_cons_of_mem _ hc))
    unfold rl at this ⊢
    rw [List.cons_append, List.takeWhile_cons, if_pos (hx a (List.mem_cons_self ..)), List.length_cons, this, List.length_cons]

theorem frun_cases (c : UInt8) (l : Bs) : frun c l = (0, 0) ∨ ((frun c l).1 ≠ 0 ∧ (frun c l).2 = rl l) := by
  unfold frun
  split
  · split
    · exact .inr ⟨by simp, rfl⟩
    · exact .inl rfl
  · split
    · exact .inr ⟨by simp, rfl⟩
    · exact .inl rfl
/-- No token, or one of at least a byte. -/
theorem fst_cases (l : Bs) : fst l = (0, 0) ∨ ((fst l).1 ≠ 0 ∧ 1 ≤ (fst l).2 ∧ (fst l).2 ≤ l.length ∧ (fst l).1 ≤ 3) := by
  match l with
  | [] => exact .inl rfl
  | c :: r =>
    rw [fst_cons]
    split
    · rename_i hw
      rcases frun_cases c (c :: r) with h | ⟨h1, h2⟩
      · exact .inl h
      · refine .inr ⟨h1, by rw [h2]; exact rl_pos c r hw, by rw [h2]; exact rl_le _, ?_⟩
        unfold frun; split <;> split <;> simp
    · split
      · right
        refine ⟨by simp, ?_, ?_, by simp⟩
        · simp only; split <;> omega
        · simp only; split
          · rename_i h
            cases r with
            | nil => simp at h
            | cons a t => simp
          · simp
      · split
        · split
          · exact .inl rfl
          · exact .inr ⟨by simp, by simp, by simp, by simp⟩
        · split
          · exact .inr ⟨by simp, by simp, by simp, by simp⟩
          · exact .inl rfl
theorem fst_le (l : Bs) : (fst l).2 ≤ l.length := by
  rcases fst_cases l with h | h
  · rw [h]; exact Nat.zero_le _
  · exact h.2.2.1
theorem fst_pos (l : Bs) (h : (fst l).1 ≠ 0) : 1 ≤ (fst l).2 := by
  rcases fst_cases l with h1 | h1
  · rw [h1] at h; exact absurd rfl h
  · exact h1.2.1
theorem fst_zero (l : Bs) (h : (fst l).1 = 0) : fst l = (0, 0) := by
  rcases fst_cases l with h1 | h1
  · exact h1
  · exact absurd h h1.1
theorem fst_three (l : Bs) : (fst l).1 ≤ 3 := by
  rcases fst_cases l with h1 | h1
  · rw [h1]; exact Nat.zero_le _
  · exact h1.2.2.2

/- ### The tokens of a text -/
structure Tok where
  k : Nat
  lead : Bs
  text : Bs
  pos : Nat
/-- The tokens with which the text begins that lies at an offset, and the offset at which no token begins, if it isn't all tokens. -/
def tk (l : Bs) (off : Nat) : List Tok × Option Nat :=
  if h : l.length ≤ eo l then ([⟨4, l, [], off + eo l⟩], none)
  else if hk : (fst (l.drop (eo l))).1 = 0 then ([], some (off + eo l))
  else
    (⟨(fst (l.drop (eo l))).1, l.take (eo l), (l.drop (eo l)).take (fst (l.drop (eo l))).2, off + eo l⟩ :: (tk (l.drop (eo l + (fst (l.drop (eo l))).2)) (off + eo l + (fst (l.drop (eo l))).2)).1,
      (tk (l.drop (eo l + (fst (l.drop (eo l))).2)) (off + eo l + (fst (l.drop (eo l))).2)).2)
  termination_by l.length
  decreasing_by all_goals (have := fst_pos _ hk; rw [List.length_drop]; omega)
theorem tk_end (l : Bs) (off : Nat) (h : l.length ≤ eo l) : tk l off = ([⟨4, l, [], off + eo l⟩], none) := by rw [tk, dif_pos h]
theorem tk_bad (l : Bs) (off : Nat) (h : eo l < l.length) (hk : (fst (l.drop (eo l))).1 = 0) : tk l off = ([], some (off + eo l)) := by rw [tk, dif_neg (by omega), dif_pos hk]
theorem tk_go (l : Bs) (off : Nat) (h : eo l < l.length) (k n : Nat) (hf : fst (l.drop (eo l)) = (k, n)) (hk : k ≠ 0) :
    tk l off = (⟨k, l.take (eo l), (l.drop (eo l)).take n, off + eo l⟩ :: (tk (l.drop (eo l + n)) (off + eo l + n)).1, (tk (l.drop (eo l + n)) (off + eo l + n)).2) := by
  rw [tk, dif_neg (by omega), dif_neg (by rw [hf]; exact hk), hf]

theorem tk_ind {P : Bs → Nat → Prop} (h0 : ∀ l off, l.length ≤ eo l → P l off) (h1 : ∀ l off, eo l < l.length → (fst (l.drop (eo l))).1 = 0 → P l off)
    (h2 : ∀ l off k n, eo l < l.length → fst (l.drop (eo l)) = (k, n) → k ≠ 0 → 1 ≤ n → n ≤ l.length - eo l → P (l.drop (eo l + n)) (off + eo l + n) → P l off) (l : Bs) (off : Nat) : P l off := by
  have key : ∀ m (l : Bs) off, l.length ≤ m → P l off := by
    intro m
    induction m with
    | zero => intro l off hl; exact h0 l off (by omega)
    | succ m ih =>
      intro l off hl
      by_cases he : l.length ≤ eo l
      · exact h0 l off he
      · by_cases hk : (fst (l.drop (eo l))).1 = 0
        · exact h1 l off (by omega) hk
        · obtain ⟨k, n, hf⟩ : ∃ k n, fst (l.drop (eo l)) = (k, n) := ⟨_, _, rfl⟩
          rw [hf] at hk
          have hp := fst_pos (l.drop (eo l)) (by rw [hf]; exact hk)
          have hq := fst_le (l.drop (eo l))
          rw [hf] at hp hq
          rw [List.length_drop] at hq
          exact h2 l off k n (by omega) hf hk hp hq (ih _ _ (by rw [List.length_drop]; simp only at hp; omega))
  exact key l.length l off (Nat.le_refl _)

/-- Lead and text of each token. -/
def joinT (L : List Tok) : Bs := (L.map fun t => t.lead ++ t.text).flatten
theorem tk_len (l : Bs) (off : Nat) : (tk l off).1.length ≤ l.length + 1 := by
  induction l, off using tk_ind with
  | h0 l off h => rw [tk_end l off h]; simp
  | h1 l off h hk => rw [tk_bad l off h hk]; simp
  | h2 l off k n h hf hk hp hq ih => rw [tk_go l off h k n hf hk]; rw [List.length_drop] at ih; simp only [List.length_cons]; omega
theorem tk_join (l : Bs) (off : Nat) (h : (tk l off).2 = none) : joinT (tk l off).1 = l := by
  induction l, off using tk_ind with
  | h0 l off he => rw [tk_end l off he]; simp [joinT]
  | h1 l off he hk => rw [tk_bad l off he hk] at h; cases h
  | h2 l off k n he hf hk hp hq ih =>
    rw [tk_go l off he k n hf hk] at h ⊢
    have := ih h
    unfold joinT at this ⊢
    rw [List.map_cons, List.flatten_cons, this]
    simp only
    rw [List.append_assoc, ← List.drop_drop, List.take_append_drop, List.take_append_drop]
/-- Each lead and text is a part of the text. -/
theorem tk_parts (l : Bs) (off : Nat) : ∀ t ∈ (tk l off).1, t.lead.length ≤ l.length ∧ t.text.length ≤ l.length ∧ t.pos ≤ off + l.length ∧ t.k ≤ 4 := by
  induction l, off using tk_ind with
  | h0 l off h => rw [tk_end l off h]; have := eo_le l; simp; omega
  | h1 l off he hk => rw [tk_bad l off he hk]; simp
  | h2 l off k n he hf hk hp hq ih =>
    rw [tk_go l off he k n hf hk]
    intro t ht
    rcases List.mem_cons.1 ht with rfl | ht
    · have := fst_three (l.drop (eo l))
      rw [hf] at this
      refine ⟨by simp only [List.length_take]; omega, by simp only [List.length_take, List.length_drop]; omega, by simp only; omega, by simp only at this ⊢; omega⟩
    · have := ih t ht
      rw [List.length_drop] at this
      omega
end Go.Proofs.YtebmmpepniokjaaDoor.Pl
