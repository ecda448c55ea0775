/- Tokens, as plain functions of lists of bytes. -/
import Derived.Test.YtiaajpdcacdngaaGreatDoorBPlain
import Derived.Test.YtiaajpdcacdngaaGreatDoorBBytes
import Derived.Lib.ParseIntB
namespace Go.Proofs.YtiaajpdcacdngaaGreatDoor.Pl
open Go
set_option linter.unusedVariables false
set_option linter.unusedSimpArgs false

/-- A letter, a digit or an underscore. -/
def wb (c : UInt8) : Bool := wd c.toNat
/-- A digit. -/
def db (c : UInt8) : Bool := dg c.toNat
theorem db_wb (c : UInt8) (h : db c = true) : wb c = true := by unfold wb wd; unfold db at h; rw [h]; simp
/-- The marks of one byte, but = and the slash. -/
def mks : Bs := [40, 41, 123, 125, 44, 59, 58, 46, 60, 43, 45, 42, 33, 38, 124]
/-- The length of the run with which a text begins. -/
def rl (l : Bs) : Nat := (l.takeWhile wb).length
/-- What digits spell, behind n. -/
def numF (n : Nat) (l : Bs) : Nat := l.foldl (fun n c => n * 10 + (c.toNat - 48)) n
/-- An integer of the language. -/
def isInt (x : Bs) : Bool := !(x == []) && x.all db && (x == [48] || !(x.head? == some 48)) && decide (numF 0 x ≤ 1000000000000)
/-- The kind and the length of the token with which a text begins; zeros if there is none. -/
def frun (c : UInt8) (l : Bs) : Nat × Nat :=
  if db c = true then (if isInt (l.take (rl l)) = true then (2, rl l) else (0, 0))
  else if rl l ≤ 32 then (1, rl l) else (0, 0)
def fst : Bs → Nat × Nat
  | [] => (0, 0)
  | c :: r =>
    if wb c = true then frun c (c :: r)
    else if c = 61 then (3, if r.head? = some 61 then 2 else 1)
    else if c = 47 then (if r.head? = some 47 then (0, 0) else (3, 1))
    else if mks.contains c = true then (3, 1) else (0, 0)

theorem fst_cons (c : UInt8) (r : Bs) : fst (c :: r) = if wb c = true then frun c (c :: r) else if c = 61 then (3, if r.head? = some 61 then 2 else 1) else if c = 47 then (if r.head? = some 47 then (0, 0) else (3, 1)) else if mks.contains c = true then (3, 1) else (0, 0) := rfl
theorem rl_le (l : Bs) : rl l ≤ l.length := by unfold rl; exact (List.takeWhile_sublist _).length_le
theorem rl_pos (c : UInt8) (r : Bs) (h : wb c = true) : 1 ≤ rl (c :: r) := by unfold rl; rw [List.takeWhile_cons, if_pos h]; simp
theorem rl_take (l : Bs) : l.take (rl l) = l.takeWhile wb := by
  have h : l.takeWhile wb ++ l.dropWhile wb = l := List.takeWhile_append_dropWhile
  unfold rl
  have h2 : (l.takeWhile wb ++ l.dropWhile wb).take (l.takeWhile wb).length = l.takeWhile wb := List.take_left' rfl
  rwa [h] at h2
theorem rl_all (l : Bs) : ∀ c ∈ l.take (rl l), wb c = true := by
  rw [rl_take]
  intro c hc
  have := List.all_takeWhile (p := wb) (l := l)
  exact List.all_eq_true.1 this c hc
/-- The run ends where it must. -/
theorem rl_eq (l : Bs) (n : Nat) (hn : n ≤ l.length) (hy : ∀ k, (hk : k < l.length) → k < n → wb l[k] = true) (hno : ∀ hk : n < l.length, wb l[n] = false) : rl l = n := by
  induction l generalizing n with
  | nil => simp at hn; subst hn; rfl
  | cons c r ih =>
    match n with
    | 0 =>
      have := hno (by simp)
      simp only [List.getElem_cons_zero] at this
      unfold rl; rw [List.takeWhile_cons, if_neg (by simp [this])]; rfl
    | n + 1 =>
      have h0 := hy 0 (by simp) (by omega)
      simp only [List.getElem_cons_zero] at h0
      have := ih n (by simpa using hn) (fun k hk hlt => by have := hy (k + 1) (by simpa using hk) (by omega); simpa using this) (fun hk => by have := hno (by simpa using hk); simpa using this)
      unfold rl at this ⊢
      rw [List.takeWhile_cons, if_pos h0, List.length_cons, this]
/-- A run before what is no part of it. -/
theorem rl_append (x r : Bs) (hx : ∀ c ∈ x, wb c = true) (hr : ∀ c, r.head? = some c → wb c = false) : rl (x ++ r) = x.length := by
  induction x with
  | nil =>
    cases r with
    | nil => rfl
    | cons c t =>
      have := hr c rfl
      unfold rl; rw [List.nil_append, List.takeWhile_cons, if_neg (by simp [this])]
  | cons a t ih =>
    have := ih (fun c hc => hx c (List.mem_cons_of_mem _ hc))
    unfold rl at this ⊢
    rw [List.cons_append, List.takeWhile_cons, if_pos (hx a (List.mem_cons_self ..)), List.length_cons, this, List.length_cons]

theorem frun_cases (c : UInt8) (l : Bs) : frun c l = (0, 0) ∨ ((frun c l).1 ≠ 0 ∧ (frun c l).2 = rl l) := by
  unfold frun
  split
  · split
    · exact .inr ⟨by simp, rfl⟩
    · exact .inl rfl
  · split
    · exact .inr ⟨by simp, rfl⟩
    · exact .inl rfl
/-- No token, or one of at least a byte. -/
theorem fst_cases (l : Bs) : fst l = (0, 0) ∨ ((fst l).1 ≠ 0 ∧ 1 ≤ (fst l).2 ∧ (fst l).2 ≤ l.length ∧ (fst l).1 ≤ 3) := by
  match l with
  | [] => exact .inl rfl
  | c :: r =>
    rw [fst_cons]
    split
    · rename_i hw
      rcases frun_cases c (c :: r) with h | ⟨h1, h2⟩
      · exact .inl h
      · refine .inr ⟨h1, by rw [h2]; exact rl_pos c r hw, by rw [h2]; exact rl_le _, ?_⟩
        unfold frun; split <;> split <;> simp
    · split
      · right
        refine ⟨by simp, ?_, ?_, by simp⟩
        · simp only; split <;> omega
        · simp only; split
          · rename_i h
            cases r with
            | nil => simp at h
            | cons a t => simp
          · simp
      · split
        · split
          · exact .inl rfl
          · exact .inr ⟨by simp, by simp, by simp, by simp⟩
        · split
          · exact .inr ⟨by simp, by simp, by simp, by simp⟩
          · exact .inl rfl
theorem fst_le (l : Bs) : (fst l).2 ≤ l.length := by
  rcases fst_cases l with h | h
  · rw [h]; exact Nat.zero_le _
  · exact h.2.2.1
theorem fst_pos (l : Bs) (h : (fst l).1 ≠ 0) : 1 ≤ (fst l).2 := by
  rcases fst_cases l with h1 | h1
  · rw [h1] at h; exact absurd rfl h
  · exact h1.2.1
theorem fst_zero (l : Bs) (h : (fst l).1 = 0) : fst l = (0, 0) := by
  rcases fst_cases l with h1 | h1
  · exact h1
  · exact absurd h h1.1
theorem fst_three (l : Bs) : (fst l).1 ≤ 3 := by
  rcases fst_cases l with h1 | h1
  · rw [h1]; exact Nat.zero_le _
  · exact h1.2.2.2

/- ### The tokens of a text -/
structure Tok where
  k : Nat
  lead : Bs
  text : Bs
  pos : Nat
/-- The tokens with which the text begins that lies at an offset, and the offset at which no token begins, if it isn't all tokens. -/
def tk (l : Bs) (off : Nat) : List Tok × Option Nat :=
  if h : l.length ≤ eo l then ([⟨4, l, [], off + eo l⟩], none)
  else if hk : (fst (l.drop (eo l))).1 = 0 then ([], some (off + eo l))
  else
    (⟨(fst (l.drop (eo l))).1, l.take (eo l), (l.drop (eo l)).take (fst (l.drop (eo l))).2, off + eo l⟩ :: (tk (l.drop (eo l + (fst (l.drop (eo l))).2)) (off + eo l + (fst (l.drop (eo l))).2)).1,
      (tk (l.drop (eo l + (fst (l.drop (eo l))).2)) (off + eo l + (fst (l.drop (eo l))).2)).2)
  termination_by l.length
  decreasing_by all_goals (have := fst_pos _ hk; rw [List.length_drop]; omega)
theorem tk_end (l : Bs) (off : Nat) (h : l.length ≤ eo l) : tk l off = ([⟨4, l, [], off + eo l⟩], none) := by rw [tk, dif_pos h]
theorem tk_bad (l : Bs) (off : Nat) (h : eo l < l.length) (hk : (fst (l.drop (eo l))).1 = 0) : tk l off = ([], some (off + eo l)) := by rw [tk, dif_neg (by omega), dif_pos hk]
theorem tk_go (l : Bs) (off : Nat) (h : eo l < l.length) (k n : Nat) (hf : fst (l.drop (eo l)) = (k, n)) (hk : k ≠ 0) :
    tk l off = (⟨k, l.take (eo l), (l.drop (eo l)).take n, off + eo l⟩ :: (tk (l.drop (eo l + n)) (off + eo l + n)).1, (tk (l.drop (eo l + n)) (off + eo l + n)).2) := by
  rw [tk, dif_neg (by omega), dif_neg (by rw [hf]; exact hk), hf]

theorem tk_ind {P : Bs → Nat → Prop} (h0 : ∀ l off, l.length ≤ eo l → P l off) (h1 : ∀ l off, eo l < l.length → (fst (l.drop (eo l))).1 = 0 → P l off)
    (h2 : ∀ l off k n, eo l < l.length → fst (l.drop (eo l)) = (k, n) → k ≠ 0 → 1 ≤ n → n ≤ l.length - eo l → P (l.drop (eo l + n)) (off + eo l + n) → P l off) (l : Bs) (off : Nat) : P l off := by
  have key : ∀ m (l : Bs) off, l.length ≤ m → P l off := by
    intro m
    induction m with
    | zero => intro l off hl; exact h0 l off (by omega)
    | succ m ih =>
      intro l off hl
      by_cases he : l.length ≤ eo l
      · exact h0 l off he
      · by_cases hk : (fst (l.drop (eo l))).1 = 0
        · exact h1 l off (by omega) hk
        · obtain ⟨k, n, hf⟩ : ∃ k n, fst (l.drop (eo l)) = (k, n) := ⟨_, _, rfl⟩
          rw [hf] at hk
          have hp := fst_pos (l.drop (eo l)) (by rw [hf]; exact hk)
          have hq := fst_le (l.drop (eo l))
          rw [hf] at hp hq
          rw [List.length_drop] at hq
          exact h2 l off k n (by omega) hf hk hp hq (ih _ _ (by rw [List.length_drop]; simp only at hp; omega))
  exact key l.length l off (Nat.le_refl _)

/-- Lead and text of each token. -/
def joinT (L : List Tok) : Bs := (L.map fun t => t.lead ++ t.text).flatten
theorem tk_len (l : Bs) (off : Nat) : (tk l off).1.length ≤ l.length + 1 := by
  induction l, off using tk_ind with
  | h0 l off h => rw [tk_end l off h]; simp
  | h1 l off h hk => rw [tk_bad l off h hk]; simp
  | h2 l off k n h hf hk hp hq ih => rw [tk_go l off h k n hf hk]; rw [List.length_drop] at ih; simp only [List.length_cons]; omega
theorem tk_join (l : Bs) (off : Nat) (h : (tk l off).2 = none) : joinT (tk l off).1 = l := by
  induction l, off using tk_ind with
  | h0 l off he => rw [tk_end l off he]; simp [joinT]
  | h1 l off he hk => rw [tk_bad l off he hk] at h; cases h
  | h2 l off k n he hf hk hp hq ih =>
    rw [tk_go l off he k n hf hk] at h ⊢
    have := ih h
    unfold joinT at this ⊢
    rw [List.map_cons, List.flatten_cons, this]
    simp only
    rw [List.append_assoc, ← List.drop_drop, List.take_append_drop, List.take_append_drop]
/-- Each lead and text is a part of the text. -/
theorem tk_parts (l : Bs) (off : Nat) : ∀ t ∈ (tk l off).1, t.lead.length ≤ l.length ∧ t.text.length ≤ l.length ∧ t.pos ≤ off + l.length ∧ t.k ≤ 4 := by
  induction l, off using tk_ind with
  | h0 l off h => rw [tk_end l off h]; have := eo_le l; simp; omega
  | h1 l off he hk => rw [tk_bad l off he hk]; simp
  | h2 l off k n he hf hk hp hq ih =>
    rw [tk_go l off he k n hf hk]
    intro t ht
    rcases List.mem_cons.1 ht with rfl | ht
    · have := fst_three (l.drop (eo l))
      rw [hf] at this
      refine ⟨by simp only [List.length_take]; omega, by simp only [List.length_take, List.length_drop]; omega, by simp only; omega, by simp only at this ⊢; omega⟩
    · have := ih t ht
      rw [List.length_drop] at this
      omega
end Go.Proofs.YtiaajpdcacdngaaGreatDoor.Pl

namespace Go.Proofs.YtiaajpdcacdngaaGreatDoor.Pl
open Go
set_option linter.unusedVariables false
set_option linter.unusedSimpArgs false

/-- A text that is one token. -/
def Whole (x : Bs) (k : Nat) : Prop := fst x = (k, x.length) ∧ k ≠ 0
/-- The kind of the token that is all of a text; 0 if there is none. -/
def kd (l : Bs) : Nat := if (fst l).2 = l.length then (fst l).1 else 0
theorem kd_whole (x : Bs) (k : Nat) (h : Whole x k) : kd x = k := by unfold kd; rw [h.1]; simp
theorem whole_kd (x : Bs) (h : kd x ≠ 0) : Whole x (kd x) := by
  unfold kd at h ⊢
  split at h
  · rename_i e
    rw [if_pos e]
    exact ⟨Prod.ext rfl e, h⟩
  · exact absurd rfl h
theorem kd_le (x : Bs) : kd x ≤ 3 := by unfold kd; split; exact fst_three x; exact Nat.zero_le _

theorem mks_not (c : UInt8) (h : mks.contains c = true) : wb c = false ∧ c ≠ 61 ∧ c ≠ 47 ∧ blank c = false := by
  have : c ∈ mks := by simpa using h
  simp only [mks, List.mem_cons, List.not_mem_nil, or_false] at this
  rcases this with rfl | rfl | rfl | rfl | rfl | rfl | rfl | rfl | rfl | rfl | rfl | rfl | rfl | rfl | rfl <;> decide
theorem wb_not_blank (c : UInt8) (h : wb c = true) : blank c = false ∧ c ≠ 47 ∧ c ≠ 61 ∧ c ≠ 32 := by
  refine ⟨?_, ?_, ?_, ?_⟩
  · cases hb : blank c with
    | false => rfl
    | true =>
      rcases (blank_iff c).1 hb with rfl | rfl | rfl <;> exact absurd h (by decide)
  all_goals (rintro rfl; exact absurd h (by decide))

theorem whole_cases (x : Bs) (k : Nat) (h : Whole x k) :
    (∃ c t, x = c :: t ∧ (∀ a ∈ x, wb a = true) ∧ ((db c = true ∧ isInt x = true ∧ k = 2) ∨ (db c = false ∧ x.length ≤ 32 ∧ k = 1))) ∨
    (k = 3 ∧ (x = [61] ∨ x = [61, 61] ∨ x = [47] ∨ ∃ c, x = [c] ∧ mks.contains c = true)) := by
  obtain ⟨h1, h2⟩ := h
  match x, h1 with
  | [], h1 => rw [show fst [] = (0, 0) from rfl] at h1; cases h1; exact absurd rfl h2
  | c :: r, h1 =>
    rw [fst_cons] at h1
    split at h1
    · rename_i hw
      left
      refine ⟨c, r, rfl, ?_, ?_⟩
      · rcases frun_cases c (c :: r) with e | ⟨_, e⟩
        · rw [e, Prod.mk.injEq] at h1; exact absurd h1.1.symm h2
        · rw [h1] at e
          have := rl_all (c :: r)
          rw [← e, List.take_length] at this
          exact this
      · unfold frun at h1
        split at h1
        · rename_i hd
          split at h1
          · rename_i hi
            rw [Prod.mk.injEq] at h1
            have e : (c :: r).take (rl (c :: r)) = c :: r := by rw [List.take_of_length_le]; omega
            rw [e] at hi
            exact .inl ⟨hd, hi, h1.1.symm⟩
          · rw [Prod.mk.injEq] at h1; exact absurd h1.1.symm h2
        · rename_i hd
          split at h1
          · rename_i hl
            rw [Prod.mk.injEq] at h1
            exact .inr ⟨by simpa using hd, by omega, h1.1.symm⟩
          · rw [Prod.mk.injEq] at h1; exact absurd h1.1.symm h2
    · right
      split at h1
      · rename_i e
        subst e
        split at h1
        · rename_i e
          rw [Prod.mk.injEq] at h1
          cases r with
          | nil => simp at e
          | cons a t =>
            obtain rfl : a = 61 := by simpa using e
            have : t = [] := List.eq_nil_of_length_eq_zero (by simp only [List.length_cons] at h1; omega)
            subst this
            exact ⟨h1.1.symm, .inr (.inl rfl)⟩
        · rw [Prod.mk.injEq] at h1
          have : r = [] := List.eq_nil_of_length_eq_zero (by simp only [List.length_cons] at h1; omega)
          subst this
          exact ⟨h1.1.symm, .inl rfl⟩
      · split at h1
        · rename_i e
          subst e
          split at h1
          · rw [Prod.mk.injEq] at h1; exact absurd h1.1.symm h2
          · rw [Prod.mk.injEq] at h1
            have : r = [] := List.eq_nil_of_length_eq_zero (by simp only [List.length_cons] at h1; omega)
            subst this
            exact ⟨h1.1.symm, .inr (.inr (.inl rfl))⟩
        · split at h1
          · rename_i e
            rw [Prod.mk.injEq] at h1
            have : r = [] := List.eq_nil_of_length_eq_zero (by simp only [List.length_cons] at h1; omega)
            subst this
            exact ⟨h1.1.symm, .inr (.inr (.inr ⟨c, rfl, e⟩))⟩
          · rw [Prod.mk.injEq] at h1; exact absurd h1.1.symm h2
theorem whole_pos (x : Bs) (k : Nat) (h : Whole x k) : 1 ≤ x.length := by
  have := fst_pos x (by rw [h.1]; exact h.2)
  rw [h.1] at this; exact this
theorem whole_run (c : UInt8) (t : Bs) (k : Nat) (ha : ∀ a ∈ c :: t, wb a = true) (h : (db c = true ∧ isInt (c :: t) = true ∧ k = 2) ∨ (db c = false ∧ (c :: t).length ≤ 32 ∧ k = 1)) (r : Bs) (hr : ∀ a, r.head? = some a → wb a = false) : fst (c :: t ++ r) = (k, (c :: t).length) := by
  have e := rl_append (c :: t) r ha hr
  rw [List.cons_append] at e ⊢
  rw [fst_cons, if_pos (ha c (List.mem_cons_self ..))]
  unfold frun
  rw [e]
  have e2 : (c :: (t ++ r)).take (c :: t).length = c :: t := by rw [← List.cons_append]; exact List.take_left' rfl
  rw [e2]
  rcases h with ⟨h1, h2, rfl⟩ | ⟨h1, h2, rfl⟩
  · rw [if_pos h1, if_pos h2]
  · rw [if_neg (by simp [h1]), if_pos h2]

/-- What may follow a token, so that it is read as this token. -/
def sep (x r : Bs) : Prop := ∀ c, r.head? = some c → ((∀ a, x.getLast? = some a → wb a = true → wb c = false) ∧ (x = [61] → c ≠ 61) ∧ (x = [47] → c ≠ 47))
theorem sep_nil (x : Bs) : sep x [] := fun c h => by simp at h
theorem sep_space (x r : Bs) : sep x (32 :: r) := by
  intro c h
  obtain rfl : (32 : UInt8) = c := by simpa using h
  exact ⟨fun _ _ _ => by decide, fun _ => by decide, fun _ => by decide⟩
theorem fst_whole (x r : Bs) (k : Nat) (h : Whole x k) (hs : sep x r) : fst (x ++ r) = (k, x.length) := by
  rcases whole_cases x k h with ⟨c, t, rfl, ha, hk⟩ | ⟨rfl, rfl | rfl | rfl | ⟨c, rfl, hc⟩⟩
  · refine whole_run c t k ha hk r (fun a hr => ?_)
    have := (hs a hr).1 ((c :: t).getLast (by simp)) (List.getLast?_eq_some_getLast (by simp))
    exact this (ha _ (List.getLast_mem _))
  · rw [List.cons_append, List.nil_append, fst_cons, if_neg (by decide), if_pos rfl, if_neg (fun e => (hs 61 e).2.1 rfl rfl)]; rfl
  · rw [List.cons_append, List.cons_append, List.nil_append, fst_cons, if_neg (by decide), if_pos rfl]; rfl
  · rw [List.cons_append, List.nil_append, fst_cons, if_neg (by decide), if_neg (by decide), if_pos rfl, if_neg (fun e => (hs 47 e).2.2 rfl rfl)]; rfl
  · obtain ⟨h1, h2, h3, _⟩ := mks_not c hc
    rw [List.cons_append, List.nil_append, fst_cons, if_neg (by simp [h1]), if_neg h2, if_neg h3, if_pos hc]; rfl
theorem hop_whole (x r : Bs) (k : Nat) (h : Whole x k) (hs : sep x r) : hop (x ++ r) = 0 := by
  refine hop_none _ (fun c t e => ?_) (.inl fun t e => ?_)
  · rcases whole_cases x k h with ⟨c', t', rfl, ha, hk⟩ | ⟨rfl, rfl | rfl | rfl | ⟨c', rfl, hc⟩⟩
    · rw [List.cons_append] at e; injection e with e _
      subst e; exact (wb_not_blank _ (ha _ (List.mem_cons_self ..))).1
    · rw [List.cons_append] at e; injection e with e _; subst e; decide
    · rw [List.cons_append] at e; injection e with e _; subst e; decide
    · rw [List.cons_append] at e; injection e with e _; subst e; decide
    · rw [List.cons_append] at e; injection e with e _; subst e; exact (mks_not _ hc).2.2.2
  · rcases whole_cases x k h with ⟨c', t', rfl, ha, hk⟩ | ⟨rfl, rfl | rfl | rfl | ⟨c', rfl, hc⟩⟩
    · rw [List.cons_append] at e; injection e with e _
      exact (wb_not_blank _ (ha _ (List.mem_cons_self ..))).2.1 e
    · rw [List.cons_append] at e; injection e with e _; exact absurd e (by decide)
    · rw [List.cons_append] at e; injection e with e _; exact absurd e (by decide)
    · rw [List.cons_append, List.nil_append] at e; injection e with _ e
      exact (hs 47 (by rw [e]; rfl)).2.2 rfl rfl
    · rw [List.cons_append] at e; injection e with e _
      exact (mks_not _ hc).2.2.1 e

/-- The token with which a text begins is a token by itself. -/
theorem fst_take (l : Bs) (k n : Nat) (h : fst l = (k, n)) (hk : k ≠ 0) : Whole (l.take n) k := by
  have hn := fst_le l
  rw [h] at hn
  refine ⟨?_, hk⟩
  rw [List.length_take, Nat.min_eq_left hn]
  match l, h with
  | [], h => rw [show fst [] = (0, 0) from rfl] at h; cases h; exact absurd rfl hk
  | c :: r, h =>
    have h0 := h
    rw [fst_cons] at h
    split at h
    · rename_i hw
      rcases frun_cases c (c :: r) with e | ⟨_, e⟩
      · rw [e] at h; cases h; exact absurd rfl hk
      · rw [h] at e
        simp only at e
        subst e
        have hp := rl_pos c r hw
        have ha := rl_all (c :: r)
        obtain ⟨m, hm⟩ : ∃ m, rl (c :: r) = m + 1 := ⟨rl (c :: r) - 1, by omega⟩
        unfold frun at h
        rw [hm] at h ha ⊢
        rw [List.take_succ_cons] at h ha ⊢
        have := whole_run c (r.take m) k ha (by
          split at h
          · rename_i hd
            split at h
            · rename_i hi
              rw [Prod.mk.injEq] at h
              exact .inl ⟨hd, hi, h.1.symm⟩
            · cases h
          · rename_i hd
            split at h
            · rename_i hl
              rw [Prod.mk.injEq] at h
              exact .inr ⟨by simpa using hd, by simp only [List.length_cons, List.length_take]; omega, h.1.symm⟩
            · cases h) [] (fun a ha => by simp at ha)
        rw [List.append_nil] at this
        rw [this]
        simp only [List.length_cons, List.length_take] at hn hm ⊢
        have := rl_le (c :: r)
        simp only [List.length_cons] at this
        congr 1; omega
    · split at h
      · rename_i e
        subst e
        split at h
        · rename_i e
          cases h
          cases r with
          | nil => simp at e
          | cons a t => obtain rfl : a = 61 := by simpa using e
                        rfl
        · cases h; rfl
      · split at h
        · rename_i e
          subst e
          split at h
          · cases h; exact absurd rfl hk
          · cases h; rfl
        · split at h
          · rename_i h1 h2 h3 e
            cases h
            rw [List.take_succ_cons, List.take_zero, fst_cons, if_neg h1, if_neg h2, if_neg h3, if_pos e]
          · cases h; exact absurd rfl hk

/-- A token behind nothing or a blank. -/
theorem eo_space (m : Bs) : eo (32 :: m) = 1 + eo m := by
  have : hop (32 :: m) = 1 := hop_blank 32 m (by decide)
  rw [eo_go _ (by rw [this]; decide), this]; rfl
theorem tk_whole (p x r : Bs) (k off : Nat) (hp : p = [] ∨ p = [32]) (h : Whole x k) (hs : sep x r) :
    tk (p ++ (x ++ r)) off = (⟨k, p, x, off + p.length⟩ :: (tk r (off + p.length + x.length)).1, (tk r (off + p.length + x.length)).2) := by
  have h0 := eo_stop _ (hop_whole x r k h hs)
  have e : eo (p ++ (x ++ r)) = p.length := by
    rcases hp with rfl | rfl
    · simpa using h0
    · rw [List.cons_append, List.nil_append, eo_space, h0]; rfl
  have hl := whole_pos x k h
  have hd : (p ++ (x ++ r)).drop p.length = x ++ r := List.drop_left' rfl
  have := tk_go (p ++ (x ++ r)) off (by rw [e]; simp only [List.length_append]; omega) k x.length (by rw [e, hd]; exact fst_whole x r k h hs) h.2
  rw [e, hd] at this
  rw [this]
  have e1 : (p ++ (x ++ r)).take p.length = p := List.take_left' rfl
  have e2 : (x ++ r).take x.length = x := List.take_left' rfl
  have e3 : (p ++ (x ++ r)).drop (p.length + x.length) = r := by rw [← List.drop_drop, hd]; exact List.drop_left' rfl
  rw [e1, e2, e3]
theorem tk_nil (off : Nat) : tk [] off = ([⟨4, [], [], off⟩], none) := by
  have e : eo [] = 0 := eo_stop [] rfl
  have := tk_end [] off (by rw [e]; exact Nat.le_refl _)
  rw [this, e]; rfl

/- ### Two tokens -/
def glue (a b : Bs) : Bool := (a.getLast?.any wb && b.head?.any wb) || (a == [61] && (b == [61] || b == [61, 61])) || (a == [47] && b == [47])
theorem sep_glue (a b r : Bs) (ka kb : Nat) (hb : Whole b kb) (h : glue a b = false) : sep a (b ++ r) := by
  intro c hc
  unfold glue at h
  simp only [Bool.or_eq_false_iff] at h
  obtain ⟨⟨h1, h2⟩, h3⟩ := h
  have hbc : b.head? = some c := by
    have := whole_pos b kb hb
    match b, this with
    | d :: t, _ => rw [List.cons_append] at hc; exact hc
  refine ⟨fun x hx hw => ?_, fun e => ?_, fun e => ?_⟩
  · rw [hx, hbc] at h1
    simpa [hw] using h1
  · rintro rfl
    subst e
    rcases whole_cases b kb hb with ⟨c', t', rfl, ha, hk⟩ | ⟨rfl, rfl | rfl | rfl | ⟨c', rfl, hc'⟩⟩
    · obtain rfl : c' = 61 := by simpa using hbc
      exact absurd (ha _ (List.mem_cons_self ..)) (by decide)
    · exact absurd h2 (by decide)
    · exact absurd h2 (by decide)
    · exact absurd hbc (by decide)
    · obtain rfl : c' = 61 := by simpa using hbc
      exact absurd hc' (by decide)
  · rintro rfl
    subst e
    rcases whole_cases b kb hb with ⟨c', t', rfl, ha, hk⟩ | ⟨rfl, rfl | rfl | rfl | ⟨c', rfl, hc'⟩⟩
    · obtain rfl : c' = 47 := by simpa using hbc
      exact absurd (ha _ (List.mem_cons_self ..)) (by decide)
    · exact absurd hbc (by decide)
    · exact absurd hbc (by decide)
    · exact absurd h3 (by decide)
    · obtain rfl : c' = 47 := by simpa using hbc
      exact absurd hc' (by decide)
/-- Two tokens, and the end. -/
def Two (L : List Tok) (R : Option Nat) (a b : Bs) : Prop := R = none ∧ ∃ x y z, L = [x, y, z] ∧ x.text = a ∧ y.text = b
theorem two_space (a b : Bs) (ka kb : Nat) (ha : Whole a ka) (hb : Whole b kb) : Two (tk (a ++ (32 :: b)) 0).1 (tk (a ++ (32 :: b)) 0).2 a b := by
  have h1 := tk_whole [] a (32 :: b) ka 0 (.inl rfl) ha (sep_space _ _)
  have h2 := tk_whole [32] b [] kb (0 + ([] : Bs).length + a.length) (.inr rfl) hb (sep_nil _)
  rw [List.nil_append] at h1
  rw [List.append_nil, List.cons_append, List.nil_append, tk_nil] at h2
  rw [h1, h2]
  exact ⟨rfl, _, _, _, rfl, rfl, rfl⟩
theorem two_none (a b : Bs) (ka kb : Nat) (ha : Whole a ka) (hb : Whole b kb) (hg : glue a b = false) : Two (tk (a ++ b) 0).1 (tk (a ++ b) 0).2 a b := by
  have hs := sep_glue a b [] ka kb hb hg
  rw [List.append_nil] at hs
  have h1 := tk_whole [] a b ka 0 (.inl rfl) ha hs
  have h2 := tk_whole [] b [] kb (0 + ([] : Bs).length + a.length) (.inl rfl) hb (sep_nil _)
  rw [List.nil_append] at h1 h2
  rw [List.append_nil, tk_nil] at h2
  rw [h1, h2]
  exact ⟨rfl, _, _, _, rfl, rfl, rfl⟩

/- ### The tokens of a text, with single blanks between them -/
theorem tk_shape (l : Bs) (off : Nat) (h : (tk l off).2 = none) : ∃ L e, (tk l off).1 = L ++ [e] ∧ e.k = 4 ∧ e.text = [] ∧ ∀ t ∈ L, Whole t.text t.k := by
  induction l, off using tk_ind with
  | h0 l off he => rw [tk_end l off he]; exact ⟨[], _, rfl, rfl, rfl, fun t ht => by cases ht⟩
  | h1 l off he hk => rw [tk_bad l off he hk] at h; cases h
  | h2 l off k n he hf hk hp hq ih =>
    rw [tk_go l off he k n hf hk] at h ⊢
    obtain ⟨L, e, h1, h2, h3, h4⟩ := ih h
    refine ⟨_ :: L, e, by simp only; rw [h1]; rfl, h2, h3, fun t ht => ?_⟩
    rcases List.mem_cons.1 ht with rfl | ht
    · exact fst_take _ k n hf hk
    · exact h4 t ht
/-- The texts, a blank behind each. -/
def spaced (L : List Tok) : Bs := (L.map fun t => t.text ++ [32]).flatten
def kt (t : Tok) : Nat × Bs := (t.k, t.text)
theorem spaced_tk (L : List Tok) (hL : ∀ t ∈ L, Whole t.text t.k) (p : Bs) (hp : p = [] ∨ p = [32]) (off : Nat) :
    (tk (p ++ (spaced L ++ [32])) off).2 = none ∧ (tk (p ++ (spaced L ++ [32])) off).1.map kt = L.map kt ++ [(4, [])] := by
  induction L generalizing p off with
  | nil =>
    have e : eo (p ++ [32]) = (p ++ [32]).length := by
      have e0 : eo [] = 0 := eo_stop [] rfl
      rcases hp with rfl | rfl
      · rw [List.nil_append, eo_space, e0]; rfl
      · rw [List.cons_append, List.nil_append, eo_space, eo_space, e0]; rfl
    have := tk_end (p ++ [32]) off (by rw [e]; exact Nat.le_refl _)
    show (tk (p ++ [32]) off).2 = none ∧ (tk (p ++ [32]) off).1.map kt = _
    rw [this]; exact ⟨rfl, rfl⟩
  | cons t L ih =>
    have e : spaced (t :: L) ++ [32] = t.text ++ ([32] ++ (spaced L ++ [32])) := by unfold spaced; simp
    have := tk_whole p t.text ([32] ++ (spaced L ++ [32])) t.k off hp (hL t (List.mem_cons_self ..)) (sep_space _ _)
    rw [e, this]
    obtain ⟨h1, h2⟩ := ih (fun x hx => hL x (List.mem_cons_of_mem _ hx)) [32] (.inr rfl) (off + p.length + t.text.length)
    refine ⟨h1, ?_⟩
    rw [List.map_cons, h2]; rfl
/-- The tokens of a text with single blanks are read as tokens with the same texts and kinds. -/
theorem blanks_tk (l : Bs) (off : Nat) (h : (tk l off).2 = none) : (tk (spaced (tk l off).1) 0).2 = none ∧ (tk (spaced (tk l off).1) 0).1.map kt = (tk l off).1.map kt := by
  obtain ⟨L, e, h1, h2, h3, h4⟩ := tk_shape l off h
  have es : spaced (L ++ [e]) = [] ++ (spaced L ++ [32]) := by unfold spaced; simp [h3]
  rw [h1, es]
  obtain ⟨h5, h6⟩ := spaced_tk L h4 [] (.inl rfl) 0
  refine ⟨h5, ?_⟩
  rw [h6, List.map_append]
  simp [kt, h2, h3]
theorem spaced_snoc (L : List Tok) (t : Tok) : spaced (L ++ [t]) = spaced L ++ t.text ++ [32] := by unfold spaced; simp
theorem texts_le (l : Bs) (off : Nat) : ((tk l off).1.map fun t => t.text.length).sum ≤ l.length := by
  induction l, off using tk_ind with
  | h0 l off he => rw [tk_end l off he]; simp
  | h1 l off he hk => rw [tk_bad l off he hk]; simp
  | h2 l off k n he hf hk hp hq ih =>
    rw [tk_go l off he k n hf hk]
    rw [List.length_drop] at ih
    simp only [List.map_cons, List.sum_cons, List.length_take, List.length_drop]
    omega
theorem spaced_len (L : List Tok) : (spaced L).length = (L.map fun t => t.text.length).sum + L.length := by
  induction L with
  | nil => rfl
  | cons t L ih => unfold spaced at ih ⊢; simp only [List.map_cons, List.flatten_cons, List.length_append, ih, List.sum_cons, List.length_cons, List.length_nil]; omega
theorem spaced_le (l : Bs) (off : Nat) : (spaced (tk l off).1).length ≤ 2 * l.length + 1 := by
  rw [spaced_len]
  have := texts_le l off
  have := tk_len l off
  omega
theorem spaced_take (L : List Tok) (k : Nat) : (spaced (L.take k)).length ≤ (spaced L).length := by
  have : spaced L = spaced (L.take k) ++ spaced (L.drop k) := by unfold spaced; rw [← List.flatten_append, ← List.map_append, List.take_append_drop]
  rw [this, List.length_append]; omega
end Go.Proofs.YtiaajpdcacdngaaGreatDoor.Pl

namespace Go.Proofs.YtiaajpdcacdngaaGreatDoor.Pl
open Go
set_option linter.unusedVariables false
set_option linter.unusedSimpArgs false

theorem db_iff (c : UInt8) : db c = true ↔ 48 ≤ c.toNat ∧ c.toNat ≤ 57 := by unfold db dg; simp
theorem numF_cons (n : Nat) (c : UInt8) (l : Bs) : numF n (c :: l) = numF (n * 10 + (c.toNat - 48)) l := by unfold numF; rw [List.foldl_cons]
theorem numF_snoc (n : Nat) (c : UInt8) (l : Bs) : numF n (l ++ [c]) = numF n l * 10 + (c.toNat - 48) := by unfold numF; rw [List.foldl_append]; rfl
theorem numF_ge (n : Nat) (l : Bs) : n * 10 ^ l.length ≤ numF n l := by
  induction l generalizing n with
  | nil => simp [numF]
  | cons c l ih =>
    rw [numF_cons]
    refine Nat.le_trans ?_ (ih _)
    rw [List.length_cons, Nat.pow_succ, Nat.mul_comm (10 ^ l.length) 10, ← Nat.mul_assoc]
    exact Nat.mul_le_mul_right _ (by omega)
theorem numF_le (n : Nat) (l : Bs) : n ≤ numF n l := by
  refine Nat.le_trans ?_ (numF_ge n l)
  exact Nat.le_mul_of_pos_right _ (Nat.pow_pos (by decide))
theorem numF_lt (l : Bs) (h : l.all db = true) : numF 0 l < 10 ^ l.length := by
  have key : ∀ (l : Bs) n, l.all db = true → numF n l < (n + 1) * 10 ^ l.length := by
    intro l
    induction l with
    | nil => intro n _; simp [numF]
    | cons c l ih =>
      intro n h
      rw [List.all_cons, Bool.and_eq_true] at h
      have hc := (db_iff c).1 h.1
      rw [numF_cons]
      refine Nat.lt_of_lt_of_le (ih _ h.2) ?_
      rw [List.length_cons, Nat.pow_succ, Nat.mul_comm (10 ^ l.length) 10, ← Nat.mul_assoc]
      exact Nat.mul_le_mul_right _ (by omega)
  have := key l 0 h
  simpa using this

theorem parseM_ok (M acc : Nat) (l : Bs) (u : Nat) (h : Lib.parseUintM M acc l = .ok u) : l.all db = true ∧ u = numF acc l := by
  induction l generalizing acc with
  | nil => rw [Lib.parseUintM] at h; cases h; exact ⟨rfl, rfl⟩
  | cons c r ih =>
    rw [Lib.parseUintM] at h
    split at h
    · rename_i hd
      split at h
      · cases h
      · split at h
        · cases h
        · obtain ⟨h1, h2⟩ := ih _ h
          exact ⟨by rw [List.all_cons, h1, (db_iff c).2 hd]; rfl, h2⟩
    · cases h
theorem parseM_yes (acc : Nat) (l : Bs) (h : l.all db = true) (hn : numF acc l ≤ 1000000000000) : Lib.parseUintM (2 ^ 64 - 1) acc l = .ok (numF acc l) := by
  induction l generalizing acc with
  | nil => rfl
  | cons c r ih =>
    rw [List.all_cons, Bool.and_eq_true] at h
    have hc := (db_iff c).1 h.1
    rw [numF_cons] at hn
    have h1 := numF_le (acc * 10 + (c.toNat - 48)) r
    rw [Lib.parseUintM, if_pos hc, if_neg (by omega), if_neg (by omega), ih _ h.2 hn, numF_cons]
theorem parseI_ok (c : UInt8) (r : Bs) (h43 : ¬ (c.toNat = 43 ∨ c.toNat = 45)) (v : Int) (h : Lib.parseIntB 64 (c :: r) = .ok v) : ∃ u : Nat, Lib.parseUintM (2 ^ 64 - 1) 0 (c :: r) = .ok u ∧ v = u := by
  have h45 : ¬ c.toNat = 45 := fun h => h43 (.inr h)
  unfold Lib.parseIntB at h
  simp only [h43, if_false] at h
  unfold Lib.parseUintB at h
  rw [if_neg (by simp)] at h
  cases hp : Lib.parseUintM (2 ^ 64 - 1) 0 (c :: r)
  · rename_i u
    rw [hp] at h
    simp only [h45, not_false_eq_true, true_and, false_and, if_false] at h
    split at h
    · cases h
    · injection h with h
      exact ⟨u, rfl, h.symm⟩
  · rw [hp] at h; cases h
  · rw [hp] at h; cases h
theorem parseI_yes (c : UInt8) (r : Bs) (h43 : ¬ (c.toNat = 43 ∨ c.toNat = 45)) (u : Nat) (hp : Lib.parseUintM (2 ^ 64 - 1) 0 (c :: r) = .ok u) (hu : u < 2 ^ 63) : Lib.parseIntB 64 (c :: r) = .ok (u : Int) := by
  have h45 : ¬ c.toNat = 45 := fun h => h43 (.inr h)
  unfold Lib.parseIntB
  simp only [h43, if_false]
  unfold Lib.parseUintB
  rw [if_neg (by simp), hp]
  simp only [h45, not_false_eq_true, true_and, false_and, if_false]
  exact if_neg (Nat.not_le_of_lt hu)
/-- What strconv reads of a run: at most 10^12 just if it is digits that spell so much. -/
theorem parse_run (x : Bs) (h0 : x ≠ []) (hw : ∀ a ∈ x, wb a = true) :
    (∃ v : Nat, Lib.parseIntB 64 x = .ok (v : Int) ∧ decide (v ≤ 1000000000000) = (x.all db && decide (numF 0 x ≤ 1000000000000))) ∨
    ((∀ v, Lib.parseIntB 64 x ≠ .ok v) ∧ (x.all db && decide (numF 0 x ≤ 1000000000000)) = false) := by
  match x, h0 with
  | c :: r, _ =>
    have hc := hw c (List.mem_cons_self ..)
    have h43 : ¬ (c.toNat = 43 ∨ c.toNat = 45) := by
      rintro (h | h)
      · have : c = 43 := UInt8.toNat_inj.1 h
        subst this; exact absurd hc (by decide)
      · have : c = 45 := UInt8.toNat_inj.1 h
        subst this; exact absurd hc (by decide)
    by_cases hex : ∃ v, Lib.parseIntB 64 (c :: r) = .ok v
    · obtain ⟨v, hv⟩ := hex
      obtain ⟨u, hp, rfl⟩ := parseI_ok c r h43 v hv
      obtain ⟨h1, h2⟩ := parseM_ok _ _ _ _ hp
      exact .inl ⟨u, hv, by rw [h1, h2]; rfl⟩
    · refine .inr ⟨fun v hv => hex ⟨v, hv⟩, ?_⟩
      rw [Bool.eq_false_iff]
      intro h
      simp only [Bool.and_eq_true, decide_eq_true_eq] at h
      exact hex ⟨_, parseI_yes c r h43 _ (parseM_yes 0 _ h.1 h.2) (by omega)⟩
theorem isInt_eq (x : Bs) (h0 : x ≠ []) (hz : x = [48] ∨ x.head? ≠ some 48) : isInt x = (x.all db && decide (numF 0 x ≤ 1000000000000)) := by
  unfold isInt
  have h1 : (x == []) = false := by simpa using h0
  have h2 : (x == [48] || !(x.head? == some 48)) = true := by
    rcases hz with h | h
    · simp [h]
    · simp [h]
  rw [h1, h2]; simp
theorem isInt_zero (x : Bs) (h1 : x ≠ [48]) (h : x.head? = some 48) : isInt x = false := by
  unfold isInt
  have h2 : (x == [48] || !(x.head? == some 48)) = false := by simp [h1, h]
  rw [h2]; simp
theorem isInt_nil : isInt [] = false := rfl
theorem isInt_long (x : Bs) (h : 13 < x.length) : isInt x = false := by
  rw [Bool.eq_false_iff]
  intro hi
  unfold isInt at hi
  simp only [Bool.and_eq_true, decide_eq_true_eq, Bool.or_eq_true, Bool.not_eq_true', beq_iff_eq] at hi
  obtain ⟨⟨⟨_, hd⟩, hz⟩, hn⟩ := hi
  match x, h with
  | c :: r, h =>
    rcases hz with hz | hz
    · cases hz; simp at h
    · rw [List.all_cons, Bool.and_eq_true] at hd
      have hc := (db_iff c).1 hd.1
      have hc2 : c.toNat ≠ 48 := by
        intro e
        have : c = 48 := UInt8.toNat_inj.1 e
        subst this; simp at hz
      rw [numF_cons] at hn
      have := numF_ge (0 * 10 + (c.toNat - 48)) r
      have h2 : 10 ^ 13 ≤ 10 ^ r.length := Nat.pow_le_pow_right (by decide) (by simp only [List.length_cons] at h; omega)
      have h3 : 1 * 10 ^ r.length ≤ (0 * 10 + (c.toNat - 48)) * 10 ^ r.length := Nat.mul_le_mul_right _ (by omega)
      omega
end Go.Proofs.YtiaajpdcacdngaaGreatDoor.Pl

namespace Go.Proofs.YtiaajpdcacdngaaGreatDoor.Tk
open Go.RowKit
set_option linter.unusedVariables false
set_option linter.unusedSimpArgs false

/-- The class of a byte. -/
def cls (c : UInt8) : Nat := if Pl.lt c.toNat = true then 1 else if Pl.db c = true then 2 else if c = 61 then 4 else if c = 47 then 5 else if Pl.mks.contains c = true then 3 else 0
theorem idx_mem (l : Pl.Bs) (c : UInt8) : (0 ≤ Lib.indexByte l c) ↔ l.contains c = true := by
  induction l with
  | nil => simp [Lib.indexByte]
  | cons a t ih =>
    have hge := Lib.indexByte_ge t c
    rw [List.contains_cons]
    by_cases h : a = c
    · subst h; simp [Lib.indexByte]
    · have h1 : (a == c) = false := by simpa using h
      have h2 : (c == a) = false := by simpa using fun e => h e.symm
      rw [h2, Bool.false_or, ← ih]
      rw [Lib.indexByte, h1, if_neg (by decide)]
      split
      · rename_i e
        have e2 : Lib.indexByte t c = -1 := by simpa using e
        omega
      · rename_i e
        have e2 : ¬ Lib.indexByte t c = -1 := by simpa using e
        omega
theorem lt_iff (n : Nat) : Pl.lt n = true ↔ (97 ≤ n ∧ n ≤ 122) ∨ (65 ≤ n ∧ n ≤ 90) ∨ n = 95 := by
  unfold Pl.lt; simp only [Bool.or_eq_true, Bool.and_eq_true, decide_eq_true_eq, or_assoc]
theorem cls_lt (c : UInt8) (h : (97 ≤ c.toNat ∧ c.toNat ≤ 122) ∨ (65 ≤ c.toNat ∧ c.toNat ≤ 90) ∨ c.toNat = 95) : cls c = 1 := by
  unfold cls; rw [if_pos ((lt_iff _).2 h)]
theorem cls_dg (c : UInt8) (h : 48 ≤ c.toNat ∧ c.toNat ≤ 57) : cls c = 2 := by
  unfold cls; rw [if_neg (fun e => by have := (lt_iff _).1 e; omega), if_pos ((Pl.db_iff c).2 h)]
theorem cls_61 (c : UInt8) (h : c.toNat = 61) : cls c = 4 := by
  obtain rfl : c = 61 := UInt8.toNat_inj.1 h
  decide
theorem cls_47 (c : UInt8) (h : c.toNat = 47) : cls c = 5 := by
  obtain rfl : c = 47 := UInt8.toNat_inj.1 h
  decide
theorem cls_else (c : UInt8) (h1 : ¬ ((97 ≤ c.toNat ∧ c.toNat ≤ 122) ∨ (65 ≤ c.toNat ∧ c.toNat ≤ 90) ∨ c.toNat = 95)) (h2 : ¬ (48 ≤ c.toNat ∧ c.toNat ≤ 57)) (h3 : c.toNat ≠ 61) (h4 : c.toNat ≠ 47) :
    cls c = if Pl.mks.contains c = true then 3 else 0 := by
  unfold cls
  rw [if_neg (fun e => h1 ((lt_iff _).1 e)), if_neg (fun e => h2 ((Pl.db_iff c).1 e)), if_neg (fun e => h3 (by rw [e]; rfl)), if_neg (fun e => h4 (by rw [e]; rfl))]

theorem markidx_is (c : UInt8) (n : Int) (h : Lib.indexByte Pl.mks c = n) (w : World) :
    Calls Tryz.prog 116 #[.string ⟨#[40, 41, 123, 125, 44, 59, 58, 46, 60, 43, 45, 42, 33, 38, 124]⟩, .int .u8 c.toNat] w fun e w' => e = .returned (.int .i64 n) ∧ w = w' := by
  refine (Tryz.strings_IndexByte ⟨#[40, 41, 123, 125, 44, 59, 58, 46, 60, 43, 45, 42, 33, 38, 124]⟩ c.toNat w).mono fun e w' ⟨he, hw⟩ => ⟨?_, hw.symm⟩
  rw [he]
  refine ret_int ?_
  rw [← h]
  have : ((c.toNat : Int).toNat).toUInt8 = c := by simp
  rw [this]; rfl

set_option maxHeartbeats 1000000 in
theorem class_any (c : UInt8) (w : World) :
    Calls Tryz.prog 87 #[.int .u8 c.toNat] w fun e w' => e = .returned (.int .i64 (cls c)) ∧ w = w' := by
  have hb : c.toNat < 256 := c.toNat_lt
  by_cases h1 : (97 ≤ c.toNat ∧ c.toNat ≤ 122) ∨ (65 ≤ c.toNat ∧ c.toNat ≤ 90) ∨ c.toNat = 95
  · rw [cls_lt c h1]
    generalize c.toNat = n at *
    rcases h1 with ⟨h1, h2⟩ | ⟨h1, h2⟩ | h1
    all_goals
      go_enter Tryz.func87, Tryz.ntmps87
      go_wp2_with fail
      go_ret
      exact ⟨rfl, rfl⟩
  · by_cases h2 : 48 ≤ c.toNat ∧ c.toNat ≤ 57
    · rw [cls_dg c h2]
      generalize c.toNat = n at *
      obtain ⟨h3, h4⟩ := h2
      go_enter Tryz.func87, Tryz.ntmps87
      go_wp2_with fail
      go_ret
      exact ⟨rfl, rfl⟩
    · by_cases h3 : c.toNat = 61
      · rw [cls_61 c h3, h3]
        go_enter Tryz.func87, Tryz.ntmps87
        go_wp2_with fail
        go_ret
        exact ⟨rfl, rfl⟩
      · by_cases h4 : c.toNat = 47
        · rw [cls_47 c h4, h4]
          go_enter Tryz.func87, Tryz.ntmps87
          go_wp2_with fail
          go_ret
          exact ⟨rfl, rfl⟩
        · rw [cls_else c h1 h2 h3 h4]
          obtain ⟨i, hi⟩ : ∃ i, Lib.indexByte Pl.mks c = i := ⟨_, rfl⟩
          have hm := idx_mem Pl.mks c
          rw [hi] at hm
          have HI := Lib.hid (markidx_is c i hi)
          clear hi
          generalize c.toNat = n at *
          have h95 : n ≠ 95 := fun e => h1 (.inr (.inr e))
          have hr : n < 48 ∨ (57 < n ∧ n < 65) ∨ (90 < n ∧ n < 97) ∨ 122 < n := by omega
          by_cases hm2 : 0 ≤ i
          · rw [if_pos (hm.1 hm2)]
            clear hm h1 h2
            rcases hr with hr | ⟨hr, hq⟩ | ⟨hr, hq⟩ | hr
            all_goals
              have d0 : ((n : Int) == 95) = decide (n = 95) := by rw [Bool.eq_iff_iff]; simp; omega
              have d1 : decide (n = 95) = false := by simp; omega
              rw [d1] at d0
              clear d1
              try have d1 : decide ((n : Int) ≤ 90) = false := by simp; omega
              try have d2 : decide ((n : Int) ≤ 122) = false := by simp; omega
              go_enter Tryz.func87, Tryz.ntmps87
              go_wp2_with (go_at_call 116; refine (HI.out _).mono ?_; rintro e w' ⟨rfl, rfl⟩)
              go_ret
              exact ⟨rfl, rfl⟩
          · rw [if_neg (fun e => hm2 (hm.2 e))]
            clear hm h1 h2
            rcases hr with hr | ⟨hr, hq⟩ | ⟨hr, hq⟩ | hr
            all_goals
              have d0 : ((n : Int) == 95) = decide (n = 95) := by rw [Bool.eq_iff_iff]; simp; omega
              have d1 : decide (n = 95) = false := by simp; omega
              rw [d1] at d0
              clear d1
              try have d1 : decide ((n : Int) ≤ 90) = false := by simp; omega
              try have d2 : decide ((n : Int) ≤ 122) = false := by simp; omega
              go_enter Tryz.func87, Tryz.ntmps87
              go_wp2_with (go_at_call 116; refine (HI.out _).mono ?_; rintro e w' ⟨rfl, rfl⟩)
              go_ret
              exact ⟨rfl, rfl⟩
theorem class_is (c : UInt8) (n : Int) (h : (cls c : Int) = n) (w : World) :
    Calls Tryz.prog 87 #[.int .u8 c.toNat] w fun e w' => e = .returned (.int .i64 n) ∧ w = w' := h ▸ class_any c w
theorem wb_iff (c : UInt8) : Pl.wb c = true ↔ cls c = 1 ∨ cls c = 2 := by
  unfold Pl.wb Pl.wd cls Pl.db
  cases Pl.lt c.toNat <;> cases Pl.dg c.toNat <;> simp
  split
  · simp
  · split
    · simp
    · split <;> simp
theorem inrun_any (c : UInt8) (w : World) :
    Calls Tryz.prog 104 #[.int .u8 c.toNat] w fun e w' => e = .returned (.bool (Pl.wb c)) ∧ w = w' := by
  obtain ⟨n, hn⟩ : ∃ n : Int, (cls c : Int) = n := ⟨_, rfl⟩
  have hw : Pl.wb c = (n == 1 || n == 2) := by
    rw [Bool.eq_iff_iff, wb_iff]; simp; omega
  have HC := Lib.hid (class_is c n hn)
  have HW := Lib.hid hw
  clear hn hw
  go_enter Tryz.func104, Tryz.ntmps104
  go_wp2_with (go_at_call 87; refine (HC.out _).mono ?_; rintro e w' ⟨rfl, rfl⟩)
  all_goals go_ret
  all_goals refine ⟨ret_bool ?_, rfl⟩
  all_goals first | (rw [HW.out]; simp [*]; done) | (rw [HW.out])
theorem inrun_is (c : UInt8) (b : Bool) (h : Pl.wb c = b) (w : World) :
    Calls Tryz.prog 104 #[.int .u8 c.toNat] w fun e w' => e = .returned (.bool b) ∧ w = w' := h ▸ inrun_any c w

/- ### The reference's -/
theorem digit5_any (c : UInt8) (w : World) :
    Calls Tryz.prog 129 #[.int .u8 c.toNat] w fun e w' => e = .returned (.bool (Pl.db c)) ∧ w = w' := by
  have hb : c.toNat < 256 := c.toNat_lt
  have hd := Pl.db_iff c
  generalize c.toNat = n at *
  generalize Pl.db c = b at *
  go_enter Tryz.func129, Tryz.ntmps129
  go_wp2
  all_goals go_ret
  all_goals refine ⟨ret_bool ?_, rfl⟩
  all_goals (rw [Bool.eq_iff_iff, hd]; simp; omega)
theorem digit5_is (c : UInt8) (b : Bool) (h : Pl.db c = b) (w : World) :
    Calls Tryz.prog 129 #[.int .u8 c.toNat] w fun e w' => e = .returned (.bool b) ∧ w = w' := h ▸ digit5_any c w
theorem letter5_any (c : UInt8) (w : World) :
    Calls Tryz.prog 106 #[.int .u8 c.toNat] w fun e w' => e = .returned (.bool (Pl.wb c)) ∧ w = w' := by
  have hb : c.toNat < 256 := c.toNat_lt
  obtain ⟨d, hd⟩ : ∃ d, Pl.db c = d := ⟨_, rfl⟩
  have hw : Pl.wb c = true ↔ ((97 ≤ c.toNat ∧ c.toNat ≤ 122) ∨ (65 ≤ c.toNat ∧ c.toNat ≤ 90) ∨ c.toNat = 95) ∨ d = true := by
    rw [← hd, ← lt_iff]; unfold Pl.wb Pl.wd Pl.db; rw [Bool.or_eq_true]
  have HD := Lib.hid (digit5_is c d hd)
  clear hd
  generalize c.toNat = n at *
  generalize Pl.wb c = b at *
  cases d
  all_goals
    go_enter Tryz.func106, Tryz.ntmps106
    go_wp2_with (go_at_call 129; refine (HD.out _).mono ?_; rintro e w' ⟨rfl, rfl⟩)
  all_goals go_ret
  all_goals refine ⟨ret_bool ?_, rfl⟩
  all_goals (rw [Bool.eq_iff_iff, hw]; simp; try omega)
theorem letter5_is (c : UInt8) (b : Bool) (h : Pl.wb c = b) (w : World) :
    Calls Tryz.prog 106 #[.int .u8 c.toNat] w fun e w' => e = .returned (.bool b) ∧ w = w' := h ▸ letter5_any c w
end Go.Proofs.YtiaajpdcacdngaaGreatDoor.Tk

namespace Go.Proofs.YtiaajpdcacdngaaGreatDoor.Tk
open Go.RowKit
set_option linter.unusedVariables false
set_option linter.unusedSimpArgs false

/-- The library's two variables hold an error or nil. -/
def Errs (w : World) : Prop :=
  (∃ ev, w.cell? ⟨6, 0, none⟩ = some ev ∧ (ev = .nilIface ∨ ∃ te pe, ev = .iface te pe)) ∧ (∃ ev, w.cell? ⟨7, 0, none⟩ = some ev ∧ (ev = .nilIface ∨ ∃ te pe, ev = .iface te pe))
theorem Errs.later {w w' : World} (h : Errs w) (hb : Below w.heap.size w w') : Errs w' := by
  obtain ⟨⟨a, h1, h2⟩, ⟨b, h3, h4⟩⟩ := h
  have l1 := Lib.lt_of_cell h1
  have l3 := Lib.lt_of_cell h3
  exact ⟨⟨a, (hb.cell (p := ⟨6, 0, none⟩) l1).trans h1, h2⟩, ⟨b, (hb.cell (p := ⟨7, 0, none⟩) l3).trans h3, h4⟩⟩

/-- A string whose bytes are letters, digits, underscores. -/
def Run (s : ByteArray) : Prop := 1 ≤ s.size ∧ s.size ≤ 1099511627776 ∧ ∀ a ∈ s.data.toList, Pl.wb a = true
theorem parse_ok (s : ByteArray) (v : Nat) (hs : s.size ≤ 1099511627776) (h : Lib.parseIntB 64 s.data.toList = .ok (v : Int)) (w : World) :
    Calls Tryz.prog 136 #[.string s, .int .i64 10, .int .i64 64] w fun e w' => e = .returned (.tuple #[.int .i64 v, .nilIface]) ∧ Below w.heap.size w w' := by
  refine (Tryz.strconv_ParseInt_10_at64_ok s (by omega) v h w).mono ?_
  rintro e w' ⟨rfl, rfl | ⟨t, rfl⟩⟩
  · exact ⟨rfl, Below.refl _ _⟩
  · exact ⟨rfl, Lib.bytesWorld_below _ _ _⟩
/-- A number and an error that is not nil. -/
def Err (w : World) (e : Ending) (w' : World) : Prop := ∃ n N, e = .returned (.tuple #[.int .i64 n, .iface 128 (.pointer (some ⟨N, 0, none⟩))]) ∧ Below w.heap.size w w'
theorem parse_err (s : ByteArray) (hs : s.size ≤ 1099511627776) (h : ∀ v, Lib.parseIntB 64 s.data.toList ≠ .ok v) (w : World) (hE : Errs w) :
    Calls Tryz.prog 136 #[.string s, .int .i64 10, .int .i64 64] w (Err w) := by
  obtain ⟨⟨a, h1, h2⟩, ⟨b, h3, h4⟩⟩ := hE
  cases hq : Lib.parseIntB 64 s.data.toList
  · exact absurd hq (h _)
  · refine (Any.strconv_ParseInt_10_at64_syntax Tryz.laysC174 s (by omega) hq a w h1 h2).mono ?_
    rintro e w' ⟨N, he, _, _, hb⟩
    exact ⟨_, N, he, hb⟩
  · refine (Any.strconv_ParseInt_10_at64_range Tryz.laysC174 s (by omega) hq b w h3 h4).mono ?_
    rintro e w' ⟨N, he, _, _, hb⟩
    exact ⟨_, N, he, hb⟩

theorem data_ne (s : ByteArray) (h : 1 ≤ s.size) : s.data.toList ≠ [] := by
  intro e; rw [Lib.size_eq, e] at h; simp at h
theorem head_eq (s : ByteArray) (h : 0 < s.size) : s.data.toList.head? = some s[0] := by
  have hl : 0 < s.data.toList.length := by rw [← Lib.size_eq]; exact h
  rw [← Pl.get_list s 0 h hl]
  match s.data.toList, hl with
  | c :: r, _ => rfl

set_option maxHeartbeats 1000000 in
theorem int_any (s : ByteArray) (w : World) (hr : Run s) (hE : Errs w) :
    Calls Tryz.prog 119 #[.string s] w fun e w' => e = .returned (.bool (Pl.isInt s.data.toList)) ∧ Below w.heap.size w w' := by
  obtain ⟨h1, h2, h3⟩ := hr
  have h0 : 0 < s.size := h1
  have hne := data_ne s h1
  have hh := head_eq s h0
  obtain ⟨b, hb⟩ : ∃ b, Pl.isInt s.data.toList = b := ⟨_, rfl⟩
  rw [hb]
  by_cases hz : s[0] = 48
  · have hzn : ((s[0].toNat : Int) == 48) = true := by rw [hz]; decide
    by_cases ho : s.data.toList = [48]
    · have e1 : (s.toList == [48]) = true := by rw [Pl.toList_eq, ho]; rfl
      have hp := Pl.parse_run s.data.toList hne h3
      rw [← Pl.isInt_eq _ hne (.inl ho), hb] at hp
      rcases hp with ⟨v, hv, hd⟩ | ⟨hv, hd⟩
      · have HP := Lib.hid (parse_ok s v h2 hv)
        have hd2 : decide ((v : Int) ≤ 1000000000000) = b := by rw [← hd, Bool.eq_iff_iff]; simp; omega
        clear hv hd hh ho h3 hz hE hb
        cases b
        all_goals
          go_enter Tryz.func119, Tryz.ntmps119
          go_wp2_with (go_at_call 136; refine (HP.out _).mono ?_; rintro e w' ⟨rfl, hbel⟩)
          go_ret
          exact ⟨rfl, hbel⟩
      · have HP := Lib.hid (parse_err s h2 hv w hE)
        subst hd
        clear hv hh ho h3 hz hE hb
        go_enter Tryz.func119, Tryz.ntmps119
        go_wp2_with (go_at_call 136; refine HP.out.mono ?_; rintro e w' ⟨n, N, rfl, hbel⟩)
        go_ret
        exact ⟨rfl, hbel⟩
    · have e1 : (s.toList == [48]) = false := by rw [Pl.toList_eq]; simpa using ho
      have hf : b = false := by rw [← hb]; exact Pl.isInt_zero _ ho (by rw [hh, hz])
      subst hf
      clear hh ho h3 hz hE hb
      go_enter Tryz.func119, Tryz.ntmps119
      go_wp2_with fail
      go_ret
      exact ⟨rfl, Below.refl _ _⟩
  · have hzn : ((s[0].toNat : Int) == 48) = false := by
      have : s[0].toNat ≠ 48 := fun e => hz (UInt8.toNat_inj.1 e)
      simp; omega
    have hp := Pl.parse_run s.data.toList hne h3
    rw [← Pl.isInt_eq _ hne (.inr (by rw [hh]; simpa using hz)), hb] at hp
    rcases hp with ⟨v, hv, hd⟩ | ⟨hv, hd⟩
    · have HP := Lib.hid (parse_ok s v h2 hv)
      have hd2 : decide ((v : Int) ≤ 1000000000000) = b := by rw [← hd, Bool.eq_iff_iff]; simp; omega
      clear hv hd hh h3 hz hE hb
      cases b
      all_goals
        go_enter Tryz.func119, Tryz.ntmps119
        go_wp2_with (go_at_call 136; refine (HP.out _).mono ?_; rintro e w' ⟨rfl, hbel⟩)
        go_ret
        exact ⟨rfl, hbel⟩
    · have HP := Lib.hid (parse_err s h2 hv w hE)
      subst hd
      clear hv hh h3 hz hE hb
      go_enter Tryz.func119, Tryz.ntmps119
      go_wp2_with (go_at_call 136; refine HP.out.mono ?_; rintro e w' ⟨n, N, rfl, hbel⟩)
      go_ret
      exact ⟨rfl, hbel⟩
theorem int_is (s : ByteArray) (b : Bool) (h : Pl.isInt s.data.toList = b) (w : World) (hr : Run s) (hE : Errs w) :
    Calls Tryz.prog 119 #[.string s] w fun e w' => e = .returned (.bool b) ∧ Below w.heap.size w w' := h ▸ int_any s w hr hE
end Go.Proofs.YtiaajpdcacdngaaGreatDoor.Tk
