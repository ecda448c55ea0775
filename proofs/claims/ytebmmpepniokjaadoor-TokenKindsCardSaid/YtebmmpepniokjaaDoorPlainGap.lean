/- Tokens side by side: what a token is by itself, before what it is read as the same token, and what becomes of it behind a blank. Plain functions of lists of bytes: nothing of the program. -/
import Derived.Test.YtebmmpepniokjaaDoorPlainTok
namespace Go.Proofs.YtebmmpepniokjaaDoor.Pl
open Go
set_option linter.unusedVariables false
set_option linter.unusedSimpArgs false

/-- A text that is one token. -/
def Whole (x : Bs) (k : Nat) : Prop := fst x = (k, x.length) ∧ k ≠ 0
/-- The kind of the token that is all of a text; 0 if there is none. -/
def kd (l : Bs) : Nat := if (fst l).2 = l.length then (fst l).1 else 0
theorem kd_whole (x : Bs) (k : Nat) (h : Whole x k) : kd x = k := by unfold kd; rw [h.1]; simp
theorem whole_kd (x : Bs) (h : kd x ≠ 0) : Whole x (kd x) := by
  unfold kd at h ⊢
  split at h
  · rename_i e
    rw [if_pos e]
    exact ⟨Prod.ext rfl e, h⟩
  · exact absurd rfl h
theorem kd_le (x : Bs) : kd x ≤ 3 := by unfold kd; split; exact fst_three x; exact Nat.zero_le _

theorem mks_not (c : UInt8) (h : mks.contains c = true) : wb c = false ∧ c ≠ 61 ∧ c ≠ 47 ∧ blank c = false := by
  have : c ∈ mks := by simpa using h
  simp only [mks, List.mem_cons, List.not_mem_nil, or_false] at this
  rcases this with rfl | rfl | rfl | rfl | rfl | rfl | rfl | rfl | rfl | rfl | rfl | rfl | rfl | rfl | rfl <;> decide
theorem wb_not_blank (c : UInt8) (h : wb c = true) : blank c = false ∧ c ≠ 47 ∧ c ≠ 61 ∧ c ≠ 32 := by
  refine ⟨?_, ?_, ?_, ?_⟩
  · cases hb : blank c with
    | false => rfl
    | true =>
      rcases (blank_iff c).1 hb with rfl | rfl | rfl <;> exact absurd h (by decide)
  all_goals (rintro rfl; exact absurd h (by decide))

theorem whole_cases (x : Bs) (k : Nat) (h : Whole x k) :
    (∃ c t, x = c :: t ∧ (∀ a ∈ x, wb a = true) ∧ ((db c = true ∧ isInt x = true ∧ k = 2) ∨ (db c = false ∧ x.length ≤ 32 ∧ k = 1))) ∨
    (k = 3 ∧ (x = [61] ∨ x = [61, 61] ∨ x = [47] ∨ ∃ c, x = [c] ∧ mks.contains c = true)) := by
  obtain ⟨h1, h2⟩ := h
  match x, h1 with
  | [], h1 => rw [show fst [] = (0, 0) from rfl] at h1; cases h1; exact absurd rfl h2
  | c :: r, h1 =>
    rw [fst_cons] at h1
    split at h1
    · rename_i hw
      left
      refine ⟨c, r, rfl, ?_, ?_⟩
      · rcases frun_cases c (c :: r) with e | ⟨_, e⟩
        · rw [e, Prod.mk.injEq] at h1; exact absurd h1.1.symm h2
        · rw [h1] at e
          have := rl_all (c :: r)
          rw [← e, List.take_length] at this
          exact this
      · unfold frun at h1
        split at h1
        · rename_i hd
          split at h1
          · rename_i hi
            rw [Prod.mk.injEq] at h1
            have e : (c :: r).take (rl (c :: r)) = c :: r := by rw [List.take_of_length_le]; omega
            rw [e] at hi
            exact .inl ⟨hd, hi, h1.1.symm⟩
          · rw [Prod.mk.injEq] at h1; exact absurd h1.1.symm h2
        · rename_i hd
          split at h1
          · rename_i hl
            rw [Prod.mk.injEq] at h1
            exact .inr ⟨by simpa using hd, by omega, h1.1.symm⟩
          · rw [Prod.mk.injEq] at h1; exact absurd h1.1.symm h2
    · right
      split at h1
      · rename_i e
        subst e
        split at h1
        · rename_i e
          rw [Prod.mk.injEq] at h1
          cases r with
          | nil => simp at e
          | cons a t =>
            obtain rfl : a = 61 := by simpa using e
            have : t = [] := List.eq_nil_of_length_eq_zero (by simp only [List.length_cons] at h1; omega)
            subst this
            exact ⟨h1.1.symm, .inr (.inl rfl)⟩
        · rw [Prod.mk.injEq] at h1
          have : r = [] := List.eq_nil_of_length_eq_zero (by simp only [List.length_cons] at h1; omega)
          subst this
          exact ⟨h1.1.symm, .inl rfl⟩
      · split at h1
        · rename_i e
          subst e
          split at h1
          · rw [Prod.mk.injEq] at h1; exact absurd h1.1.symm h2
          · rw [Prod.mk.injEq] at h1
            have : r = [] := List.eq_nil_of_length_eq_zero (by simp only [List.length_cons] at h1; omega)
            subst this
            exact ⟨h1.1.symm, .inr (.inr (.inl rfl))⟩
        · split at h1
          · rename_i e
            rw [Prod.mk.injEq] at h1
            have : r = [] := List.eq_nil_of_length_eq_zero (by simp only [List.length_cons] at h1; omega)
            subst this
            exact ⟨h1.1.symm, .inr (.inr (.inr ⟨c, rfl, e⟩))⟩
          · rw [Prod.mk.injEq] at h1; exact absurd h1.1.symm h2
theorem whole_pos (x : Bs) (k : Nat) (h : Whole x k) : 1 ≤ x.length := by
  have := fst_pos x (by rw [h.1]; exact h.2)
  rw [h.1] at this; exact this
theorem whole_run (c : UInt8) (t : Bs) (k : Nat) (ha : ∀ a ∈ c :: t, wb a = true) (h : (db c = true ∧ isInt (c :: t) = true ∧ k = 2) ∨ (db c = false ∧ (c :: t).length ≤ 32 ∧ k = 1)) (r : Bs) (hr : ∀ a, r.head? = some a → wb a = false) : fst (c :: t ++ r) = (k, (c :: t).length) := by
  have e := rl_append (c :: t) r ha hr
  rw [List.cons_append] at e ⊢
  rw [fst_cons, if_pos (ha c (List.mem_cons_self ..))]
  unfold frun
  rw [e]
  have e2 : (c :: (t ++ r)).take (c :: t).length = c :: t := by rw [← List.cons_append]; exact List.take_left' rfl
  rw [e2]
  rcases h with ⟨h1, h2, rfl⟩ | ⟨h1, h2, rfl⟩
  · rw [if_pos h1, if_pos h2]
  · rw [if_neg (by simp [h1]), if_pos h2]

/-- What may follow a token, so that it is read as this token. -/
def sep (x r : Bs) : Prop := ∀ c, r.head? = some c → ((∀ a, x.getLast? = some a → wb a = true → wb c = false) ∧ (x = [61] → c ≠ 61) ∧ (x = [47] → c ≠ 47))
theorem sep_nil (x : Bs) : sep x [] := fun c h => by simp at h
theorem sep_space (x r : Bs) : sep x (32 :: r) := by
  intro c h
  obtain rfl : (32 : UInt8) = c := by simpa using h
  exact ⟨fun _ _ _ => by decide, fun _ => by decide, fun _ => by decide⟩
theorem fst_whole (x r : Bs) (k : Nat) (h : Whole x k) (hs : sep x r) : fst (x ++ r) = (k, x.length) := by
  rcases whole_cases x k h with ⟨c, t, rfl, ha, hk⟩ | ⟨rfl, rfl | rfl | rfl | ⟨c, rfl, hc⟩⟩
  · refine whole_run c t k ha hk r (fun a hr => ?_)
    have := (hs a hr).1 ((c :: t).getLast (by simp)) (List.getLast?_eq_some_getLast (by simp))
    exact this (ha _ (List.getLast_mem _))
  · rw [List.cons_append, List.nil_append, fst_cons, if_neg (by decide), if_pos rfl, if_neg (fun e => (hs 61 e).2.1 rfl rfl)]; rfl
  · rw [List.cons_append, List.cons_append, List.nil_append, fst_cons, if_neg (by decide), if_pos rfl]; rfl
  · rw [List.cons_append, List.nil_append, fst_cons, if_neg (by decide), if_neg (by decide), if_pos rfl, if_neg (fun e => (hs 47 e).2.2 rfl rfl)]; rfl
  · obtain ⟨h1, h2, h3, _⟩ := mks_not c hc
    rw [List.cons_append, List.nil_append, fst_cons, if_neg (by simp [h1]), if_neg h2, if_neg h3, if_pos hc]; rfl
theorem hop_whole (x r : Bs) (k : Nat) (h : Whole x k) (hs : sep x r) : hop (x ++ r) = 0 := by
  refine hop_none _ (fun c t e => ?_) (.inl fun t e => ?_)
  · rcases whole_cases x k h with ⟨c', t', rfl, ha, hk⟩ | ⟨rfl, rfl | rfl | rfl | ⟨c', rfl, hc⟩⟩
    · rw [List.cons_append] at e; injection e with e _
      subst e; exact (wb_not_blank _ (ha _ (List.mem_cons_self ..))).1
    · rw [List.cons_append] at e; injection e with e _; subst e; decide
    · rw [List.cons_append] at e; injection e with e _; subst e; decide
    · rw [List.cons_append] at e; injection e with e _; subst e; decide
    · rw [List.cons_append] at e; injection e with e _; subst e; exact (mks_not _ hc).2.2.2
  · rcases whole_cases x k h with ⟨c', t', rfl, ha, hk⟩ | ⟨rfl, rfl | rfl | rfl | ⟨c', rfl, hc⟩⟩
    · rw [List.cons_append] at e; injection e with e _
      exact (wb_not_blank _ (ha _ (List.mem_cons_self ..))).2.1 e
    · rw [List.cons_append] at e; injection e with e _; exact absurd e (by decide)
    · rw [List.cons_append] at e; injection e with e _; exact absurd e (by decide)
    · rw [List.cons_append, List.nil_append] at e; injection e with _ e
      exact (hs 47 (by rw [e]; rfl)).2.2 rfl rfl
    · rw [List.cons_append] at e; injection e with e _
      exact (mks_not _ hc).2.2.1 e

/-- The token with which a text begins is a token by itself. -/
theorem fst_take (l : Bs) (k n : Nat) (h : fst l = (k, n)) (hk : k ≠ 0) : Whole (l.take n) k := by
  have hn := fst_le l
  rw [h] at hn
  refine ⟨?_, hk⟩
  rw [List.length_take, Nat.min_eq_left hn]
  match l, h with
  | [], h => rw [show fst [] = (0, 0) from rfl] at h; cases h; exact absurd rfl hk
  | c :: r, h =>
    have h0 := h
    rw [fst_cons] at h
    split at h
    · rename_i hw
      rcases frun_cases c (c :: r) with e | ⟨_, e⟩
      · rw [e] at h; cases h; exact absurd rfl hk
      · rw [h] at e
        simp only at e
        subst e
        have hp := rl_pos c r hw
        have ha := rl_all (c :: r)
        obtain ⟨m, hm⟩ : ∃ m, rl (c :: r) = m + 1 := ⟨rl (c :: r) - 1, by omega⟩
        unfold frun at h
        rw [hm] at h ha ⊢
        rw [List.take_succ_cons] at h ha ⊢
        have := whole_run c (r.take m) k ha (by
          split at h
          · rename_i hd
            split at h
            · rename_i hi
              rw [Prod.mk.injEq] at h
              exact .inl ⟨hd, hi, h.1.symm⟩
            · cases h
          · rename_i hd
            split at h
            · rename_i hl
              rw [Prod.mk.injEq] at h
              exact .inr ⟨by simpa using hd, by simp only [List.length_cons, List.length_take]; omega, h.1.symm⟩
            · cases h) [] (fun a ha => by simp at ha)
        rw [List.append_nil] at this
        rw [this]
        simp only [List.length_cons, List.length_take] at hn hm ⊢
        have := rl_le (c :: r)
        simp only [List.length_cons] at this
        congr 1; omega
    · split at h
      · rename_i e
        subst e
        split at h
        · rename_i e
          cases h
          cases r with
          | nil => simp at e
          | cons a t => obtain rfl : a = 61 := by simpa using e
                        rfl
        · cases h; rfl
      · split at h
        · rename_i e
          subst e
          split at h
          · cases h; exact absurd rfl hk
          · cases h; rfl
        · split at h
          · rename_i h1 h2 h3 e
            cases h
            rw [List.take_succ_cons, List.take_zero, fst_cons, if_neg h1, if_neg h2, if_neg h3, if_pos e]
          · cases h; exact absurd rfl hk

/-- A token behind nothing or a blank. -/
theorem eo_space (m : Bs) : eo (32 :: m) = 1 + eo m := by
  have : hop (32 :: m) = 1 := hop_blank 32 m (by decide)
  rw [eo_go _ (by rw [this]; decide), this]; rfl
theorem tk_whole (p x r : Bs) (k off : Nat) (hp : p = [] ∨ p = [32]) (h : Whole x k) (hs : sep x r) :
    tk (p ++ (x ++ r)) off = (⟨k, p, x, off + p.length⟩ :: (tk r (off + p.length + x.length)).1, (tk r (off + p.length + x.length)).2) := by
  have h0 := eo_stop _ (hop_whole x r k h hs)
  have e : eo (p ++ (x ++ r)) = p.length := by
    rcases hp with rfl | rfl
    · simpa using h0
    · rw [List.cons_append, List.nil_append, eo_space, h0]; rfl
  have hl := whole_pos x k h
  have hd : (p ++ (x ++ r)).drop p.length = x ++ r := List.drop_left' rfl
  have := tk_go (p ++ (x ++ r)) off (by rw [e]; simp only [List.length_append]; omega) k x.length (by rw [e, hd]; exact fst_whole x r k h hs) h.2
  rw [e, hd] at this
  rw [this]
  have e1 : (p ++ (x ++ r)).take p.length = p := List.take_left' rfl
  have e2 : (x ++ r).take x.length = x := List.take_left' rfl
  have e3 : (p ++ (x ++ r)).drop (p.length + x.length) = r := by rw [← List.drop_drop, hd]; exact List.drop_left' rfl
  rw [e1, e2, e3]
theorem tk_nil (off : Nat) : tk [] off = ([⟨4, [], [], off⟩], none) := by
  have e : eo [] = 0 := eo_stop [] rfl
  have := tk_end [] off (by rw [e]; exact Nat.le_refl _)
  rw [this, e]; rfl

/- ### Two tokens -/
def glue (a b : Bs) : Bool := (a.getLast?.any wb && b.head?.any wb) || (a == [61] && (b == [61] || b == [61, 61])) || (a == [47] && b == [47])
theorem sep_glue (a b r : Bs) (ka kb : Nat) (hb : Whole b kb) (h : glue a b = false) : sep a (b ++ r) := by
  intro c hc
  unfold glue at h
  simp only [Bool.or_eq_false_iff] at h
  obtain ⟨⟨h1, h2⟩, h3⟩ := h
  have hbc : b.head? = some c := by
    have := whole_pos b kb hb
    match b, this with
    | d :: t, _ => rw [List.cons_append] at hc; exact hc
  refine ⟨fun x hx hw => ?_, fun e => ?_, fun e => ?_⟩
  · rw [hx, hbc] at h1
    simpa [hw] using h1
  · rintro rfl
    subst e
    rcases whole_cases b kb hb with ⟨c', t', rfl, ha, hk⟩ | ⟨rfl, rfl | rfl | rfl | ⟨c', rfl, hc'⟩⟩
    · obtain rfl : c' = 61 := by simpa using hbc
      exact absurd (ha _ (List.mem_cons_self ..)) (by decide)
    · exact absurd h2 (by decide)
    · exact absurd h2 (by decide)
    · exact absurd hbc (by decide)
    · obtain rfl : c' = 61 := by simpa using hbc
      exact absurd hc' (by decide)
  · rintro rfl
    subst e
    rcases whole_cases b kb hb with ⟨c', t', rfl, ha, hk⟩ | ⟨rfl, rfl | rfl | rfl | ⟨c', rfl, hc'⟩⟩
    · obtain rfl : c' = 47 := by simpa using hbc
      exact absurd (ha _ (List.mem_cons_self ..)) (by decide)
    · exact absurd hbc (by decide)
    · exact absurd hbc (by decide)
    · exact absurd h3 (by decide)
    · obtain rfl : c' = 47 := by simpa using hbc
      exact absurd hc' (by decide)
/-- Two tokens, and the end. -/
def Two (L : List Tok) (R : Option Nat) (a b : Bs) : Prop := R = none ∧ ∃ x y z, L = [x, y, z] ∧ x.text = a ∧ y.text = b
theorem two_space (a b : Bs) (ka kb : Nat) (ha : Whole a ka) (hb : Whole b kb) : Two (tk (a ++ (32 :: b)) 0).1 (tk (a ++ (32 :: b)) 0).2 a b := by
  have h1 := tk_whole [] a (32 :: b) ka 0 (.inl rfl) ha (sep_space _ _)
  have h2 := tk_whole [32] b [] kb (0 + ([] : Bs).length + a.length) (.inr rfl) hb (sep_nil _)
  rw [List.nil_append] at h1
  rw [List.append_nil, List.cons_append, List.nil_append, tk_nil] at h2
  rw [h1, h2]
  exact ⟨rfl, _, _, _, rfl, rfl, rfl⟩
theorem two_none (a b : Bs) (ka kb : Nat) (ha : Whole a ka) (hb : Whole b kb) (hg : glue a b = false) : Two (tk (a ++ b) 0).1 (tk (a ++ b) 0).2 a b := by
  have hs := sep_glue a b [] ka kb hb hg
  rw [List.append_nil] at hs
  have h1 := tk_whole [] a b ka 0 (.inl rfl) ha hs
  have h2 := tk_whole [] b [] kb (0 + ([] : Bs).length + a.length) (.inl rfl) hb (sep_nil _)
  rw [List.nil_append] at h1 h2
  rw [List.append_nil, tk_nil] at h2
  rw [h1, h2]
  exact ⟨rfl, _, _, _, rfl, rfl, rfl⟩

/- ### The tokens of a text, with single blanks between them -/
theorem tk_shape (l : Bs) (off : Nat) (h : (tk l off).2 = none) : ∃ L e, (tk l off).1 = L ++ [e] ∧ e.k = 4 ∧ e.text = [] ∧ ∀ t ∈ L, Whole t.text t.k := by
  induction l, off using tk_ind with
  | h0 l off he => rw [tk_end l off he]; exact ⟨[], _, rfl, rfl, rfl, fun t ht => by cases ht⟩
  | h1 l off he hk => rw [tk_bad l off he hk] at h; cases h
  | h2 l off k n he hf hk hp hq ih =>
    rw [tk_go l off he k n hf hk] at h ⊢
    obtain ⟨L, e, h1, h2, h3, h4⟩ := ih h
    refine ⟨_ :: L, e, by simp only; rw [h1]; rfl, h2, h3, fun t ht => ?_⟩
    rcases List.mem_cons.1 ht with rfl | ht
    · exact fst_take _ k n hf hk
    · exact h4 t ht
/-- The texts, a blank behind each. -/
def spaced (L : List Tok) : Bs := (L.map fun t => t.text ++ [32]).flatten
def kt (t : Tok) : Nat × Bs := (t.k, t.text)
theorem spaced_tk (L : List Tok) (hL : ∀ t ∈ L, Whole t.text t.k) (p : Bs) (hp : p = [] ∨ p = [32]) (off : Nat) :
    (tk (p ++ (spaced L ++ [32])) off).2 = none ∧ (tk (p ++ (spaced L ++ [32])) off).1.map kt = L.map kt ++ [(4, [])] := by
  induction L generalizing p off with
  | nil =>
    have e : eo (p ++ [32]) = (p ++ [32]).length := by
      have e0 : eo [] = 0 := eo_stop [] rfl
      rcases hp with rfl | rfl
      · rw [List.nil_append, eo_space, e0]; rfl
      · rw [List.cons_append, List.nil_append, eo_space, eo_space, e0]; rfl
    have := tk_end (p ++ [32]) off (by rw [e]; exact Nat.le_refl _)
    show (tk (p ++ [32]) off).2 = none ∧ (tk (p ++ [32]) off).1.map kt = _
    rw [this]; exact ⟨rfl, rfl⟩
  | cons t L ih =>
    have e : spaced (t :: L) ++ [32] = t.text ++ ([32] ++ (spaced L ++ [32])) := by unfold spaced; simp
    have := tk_whole p t.text ([32] ++ (spaced L ++ [32])) t.k off hp (hL t (List.mem_cons_self ..)) (sep_space _ _)
    rw [e, this]
    obtain ⟨h1, h2⟩ := ih (fun x hx => hL x (List.mem_cons_of_mem _ hx)) [32] (.inr rfl) (off + p.length + t.text.length)
    refine ⟨h1, ?_⟩
    rw [List.map_cons, h2]; rfl
/-- The tokens of a text with single blanks are read as tokens with the same texts and kinds. -/
theorem blanks_tk (l : Bs) (off : Nat) (h : (tk l off).2 = none) : (tk (spaced (tk l off).1) 0).2 = none ∧ (tk (spaced (tk l off).1) 0).1.map kt = (tk l off).1.map kt := by
  obtain ⟨L, e, h1, h2, h3, h4⟩ := tk_shape l off h
  have es : spaced (L ++ [e]) = [] ++ (spaced L ++ [32]) := by unfold spaced; simp [h3]
  rw [h1, es]
  obtain ⟨h5, h6⟩ := spaced_tk L h4 [] (.inl rfl) 0
  refine ⟨h5, ?_⟩
  rw [h6, List.map_append]
  simp [kt, h2, h3]
theorem spaced_snoc (L : List Tok) (t : Tok) : spaced (L ++ [t]) = spaced L ++ t.text ++ [32] := by unfold spaced; simp
theorem texts_le (l : Bs) (off : Nat) : ((tk l off).1.map fun t => t.text.length).sum ≤ l.length := by
  induction l, off using tk_ind with
  | h0 l off he => rw [tk_end l off he]; simp
  | h1 l off he hk => rw [tk_bad l off he hk]; simp
  | h2 l off k n he hf hk hp hq ih =>
    rw [tk_go l off he k n hf hk]
    rw [List.length_drop] at ih
    simp only [List.map_cons, List.sum_cons, List.length_take, List.length_drop]
    omega
theorem spaced_len (L : List Tok) : (spaced L).length = (L.map fun t => t.text.length).sum + L.length := by
  induction L with
  | nil => rfl
  | cons t L ih => unfold spaced at ih ⊢; simp only [List.map_cons, List.flatten_cons, List.length_append, ih, List.sum_cons, List.length_cons, List.length_nil]; omega
theorem spaced_le (l : Bs) (off : Nat) : (spaced (tk l off).1).length ≤ 2 * l.length + 1 := by
  rw [spaced_len]
  have := texts_le l off
  have := tk_len l off
  omega
theorem spaced_take (L : List Tok) (k : Nat) : (spaced (L.take k)).length ≤ (spaced L).length := by
  have : spaced L = spaced (L.take k) ++ spaced (L.drop k) := by unfold spaced; rw [← List.flatten_append, ← List.map_append, List.take_append_drop]
  rw [this, List.length_append]; omega
end Go.Proofs.YtebmmpepniokjaaDoor.Pl
