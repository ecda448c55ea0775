/- Shifting the indentation of a string, as plain functions of lists of bytes: nothing of the program. -/
import Derived.Test.YtceoleddijnieaaDoorPlain
import Derived.Lib.LastIndexByte
import Derived.Lib.Repeat
import Derived.Lib.TrimByte
namespace Go.Proofs.YtceoleddijnieaaDoor.Pl
open Go
set_option linter.unusedVariables false
set_option linter.unusedSimpArgs false

/-- How many tabs a text begins with. -/
def tb : Bs → Nat
  | [] => 0
  | c :: r => if c = 9 then tb r + 1 else 0
def rp (n : Int) : Bs := List.replicate n.toNat 9

theorem tb_tab (r : Bs) : tb (9 :: r) = tb r + 1 := by rw [tb, if_pos rfl]
theorem tb_no (c : UInt8) (r : Bs) (h : c ≠ 9) : tb (c :: r) = 0 := by rw [tb, if_neg h]
theorem tb_le (l : Bs) : tb l ≤ l.length := by
  induction l with
  | nil => exact Nat.le_refl _
  | cons c r ih =>
    rw [tb]; split
    · simp only [List.length_cons]; omega
    · omega
theorem tb_take (l : Bs) : l.take (tb l) = List.replicate (tb l) 9 := by
  induction l with
  | nil => rfl
  | cons c r ih =>
    by_cases h : c = 9
    · subst h; rw [tb_tab, List.take_succ_cons, ih]; rfl
    · rw [tb_no _ _ h]; rfl
theorem tb_split (l : Bs) : List.replicate (tb l) 9 ++ l.drop (tb l) = l := by rw [← tb_take, List.take_append_drop]
theorem tb_rest (l : Bs) : (l.drop (tb l)).head? ≠ some 9 := by
  induction l with
  | nil => simp
  | cons c r ih =>
    by_cases h : c = 9
    · subst h; rw [tb_tab, List.drop_succ_cons]; exact ih
    · rw [tb_no _ _ h]; simpa using h
theorem tb_head (l : Bs) (h : l.head? ≠ some 9) : tb l = 0 := by
  cases l with
  | nil => rfl
  | cons c r => exact tb_no c r (by simpa using h)
theorem tb_rep (k : Nat) (m : Bs) : tb (List.replicate k 9 ++ m) = k + tb m := by
  induction k with
  | zero => simp
  | succ k ih => rw [List.replicate_succ, List.cons_append, tb_tab, ih]; omega
theorem tb_rep0 (k : Nat) (m : Bs) (h : m.head? ≠ some 9) : tb (List.replicate k 9 ++ m) = k := by rw [tb_rep, tb_head m h]; rfl
theorem drop_rep (k : Nat) (m : Bs) : (List.replicate k 9 ++ m : Bs).drop k = m := List.drop_left' (by simp)
theorem tb_nl (y m : Bs) : tb (y ++ 10 :: m) = tb y := by
  induction y with
  | nil => exact tb_no 10 m (by decide)
  | cons c r ih =>
    rw [List.cons_append]
    by_cases h : c = 9
    · subst h; rw [tb_tab, tb_tab, ih]
    · rw [tb_no _ _ h, tb_no _ _ h]
theorem tb_get (l : Bs) (k : Nat) (hk : k < l.length) (hall : ∀ j, (hj : j < l.length) → j < k → l[j] = 9) (h : l[k] ≠ 9) : tb l = k := by
  induction l generalizing k with
  | nil => simp at hk
  | cons c r ih =>
    cases k with
    | zero => exact tb_no c r (by simpa using h)
    | succ k =>
      have h0 := hall 0 (by simp) (by omega)
      simp only [List.getElem_cons_zero] at h0
      subst h0
      rw [tb_tab, ih k (by simpa using hk) (fun j hj hlt => by have := hall (j + 1) (by simpa using hj) (by omega); rwa [List.getElem_cons_succ] at this) (by simpa using h)]
theorem tb_all (l : Bs) (hall : ∀ j, (hj : j < l.length) → l[j] = 9) : tb l = l.length := by
  induction l with
  | nil => rfl
  | cons c r ih =>
    have h0 := hall 0 (by simp)
    simp only [List.getElem_cons_zero] at h0
    subst h0
    rw [tb_tab, ih (fun j hj => by have := hall (j + 1) (by simpa using hj); rwa [List.getElem_cons_succ] at this)]; rfl

/-- What Shift makes of a text; of a text that stands behind a line feed. -/
def sh (d : Int) : Bs → Bs
  | [] => []
  | c :: r => if c = 10 then 10 :: (rp (tb r + d) ++ sh d (r.drop (tb r))) else c :: sh d r
  termination_by l => l.length
  decreasing_by
  · simp only [List.length_cons, List.length_drop]; omega
  · simp
def shf (d : Int) (l : Bs) : Bs := rp (tb l + d) ++ sh d (l.drop (tb l))
theorem sh_nil (d : Int) : sh d [] = [] := by rw [sh]
theorem sh_nl (d : Int) (r : Bs) : sh d (10 :: r) = 10 :: shf d r := by rw [sh, if_pos rfl]; rfl
theorem sh_no (d : Int) (c : UInt8) (r : Bs) (h : c ≠ 10) : sh d (c :: r) = c :: sh d r := by rw [sh, if_neg h]
theorem sh_ind {P : Bs → Prop} (h0 : P []) (h1 : ∀ c r, c ≠ 10 → P r → P (c :: r)) (h2 : ∀ r, P (r.drop (tb r)) → P (10 :: r)) (l : Bs) : P l := by
  have key : ∀ n (l : Bs), l.length ≤ n → P l := by
    intro n
    induction n with
    | zero =>
      intro l hl
      have : l = [] := List.eq_nil_of_length_eq_zero (by omega)
      subst this; exact h0
    | succ n ih =>
      intro l hl
      cases l with
      | nil => exact h0
      | cons c r =>
        simp only [List.length_cons] at hl
        by_cases hc : c = 10
        · subst hc; exact h2 r (ih _ (by rw [List.length_drop]; omega))
        · exact h1 c r hc (ih r (by omega))
  exact key l.length l (Nat.le_refl _)

theorem sh_pre (d : Int) (y m : Bs) (h : (10 : UInt8) ∉ y) : sh d (y ++ m) = y ++ sh d m := by
  induction y with
  | nil => rfl
  | cons c r ih =>
    simp only [List.mem_cons, not_or] at h
    rw [List.cons_append, sh_no _ _ _ (fun e => h.1 e.symm), ih h.2]; rfl
theorem sh_same (d : Int) (y : Bs) (h : (10 : UInt8) ∉ y) : sh d y = y := by
  have := sh_pre d y [] h
  rw [sh_nil] at this
  simpa using this
theorem rp_len (d : Int) (l : Bs) (h : d ≤ 60) : (rp (tb l + d)).length ≤ tb l + 60 := by unfold rp; rw [List.length_replicate]; omega
theorem shf_len (d : Int) (l : Bs) (h : d ≤ 60) (ih : (sh d (l.drop (tb l))).length ≤ 61 * (l.drop (tb l)).length) : (shf d l).length ≤ 61 * l.length + 60 := by
  have h1 := rp_len d l h
  have h2 := tb_le l
  unfold shf
  rw [List.length_append]
  rw [List.length_drop] at ih
  omega
theorem sh_len (d : Int) (l : Bs) (h : d ≤ 60) : (sh d l).length ≤ 61 * l.length := by
  induction l using sh_ind with
  | h0 => rw [sh_nil]; simp
  | h1 c r hc ih => rw [sh_no _ _ _ hc]; simp only [List.length_cons]; omega
  | h2 r ih => rw [sh_nl]; have := shf_len d r h ih; simp only [List.length_cons]; omega
theorem sh_head (d : Int) (l : Bs) : (sh d l).head? = l.head? := by
  cases l with
  | nil => rw [sh_nil]
  | cons c r =>
    by_cases hc : c = 10
    · subst hc; rw [sh_nl]; rfl
    · rw [sh_no _ _ _ hc]; rfl

/- ### Line by line -/

def wr (d : Int) (x : Bs) : Bs := rp (tb x + d) ++ x.drop (tb x)
def outL (d : Int) : List Bs → Bs
  | [] => []
  | a :: r => a ++ (r.map (wr d)).flatten
theorem wr_len (d : Int) (x : Bs) (h : d ≤ 60) : (wr d x).length ≤ x.length + 60 := by
  have h1 := rp_len d x h
  have h2 := tb_le x
  unfold wr
  rw [List.length_append, List.length_drop]; omega
theorem outL_len (d : Int) (h : d ≤ 60) (L : List Bs) : (outL d L).length ≤ L.flatten.length + 60 * L.length := by
  have key : ∀ L : List Bs, ((L.map (wr d)).flatten).length ≤ L.flatten.length + 60 * L.length := by
    intro L
    induction L with
    | nil => simp
    | cons a r ih =>
      have := wr_len d a h
      simp only [List.map_cons, List.flatten_cons, List.length_append, List.length_cons]; omega
  cases L with
  | nil => simp [outL]
  | cons a r =>
    have := key r
    simp only [outL, List.flatten_cons, List.length_append, List.length_cons]; omega
theorem outL_snoc (d : Int) (L : List Bs) (k : Nat) (h1 : 1 ≤ k) (h2 : k < L.length) : outL d (L.take (k + 1)) = outL d (L.take k) ++ wr d L[k] := by
  cases L with
  | nil => simp at h2
  | cons a r =>
    obtain ⟨j, rfl⟩ : ∃ j, k = j + 1 := ⟨k - 1, by omega⟩
    have e : r.take (j + 1) = r.take j ++ [r[j]'(by simpa using h2)] := List.take_succ_eq_append_getElem (by simpa using h2)
    rw [List.take_succ_cons, List.take_succ_cons, e]
    simp only [outL, List.map_append, List.map_cons, List.map_nil, List.flatten_append, List.flatten_cons, List.flatten_nil, List.append_nil, List.append_assoc, List.getElem_cons_succ]
theorem outL_one (d : Int) (L : List Bs) (h : 0 < L.length) : outL d (L.take 1) = L[0] := by
  cases L with
  | nil => simp at h
  | cons a r => simp [outL]

theorem mem_of_ne {y : Bs} (h : ∀ c ∈ y, c ≠ 10) : (10 : UInt8) ∉ y := fun hm => h 10 hm rfl
theorem shf_no (d : Int) (z : Bs) (h : (10 : UInt8) ∉ z) : shf d z = wr d z := by
  unfold shf wr
  rw [sh_same d _ (fun hm => h (List.mem_of_mem_drop hm))]
theorem shf_line (d : Int) (y m : Bs) (h : (10 : UInt8) ∉ y) : shf d (y ++ 10 :: m) = wr d (y ++ [10]) ++ shf d m := by
  have hl := tb_le y
  unfold wr
  rw [shf, tb_nl, tb_nl y [], List.drop_append_of_le_length hl, List.drop_append_of_le_length hl, sh_pre d _ _ (fun hm => h (List.mem_of_mem_drop hm)), sh_nl]
  simp
theorem shf_lines (d : Int) (D : List Bs) (E : Bs) (hD : ∀ x ∈ D, ∃ y : Bs, x = y ++ [10] ∧ ∀ c ∈ y, c ≠ 10) (hE : (10 : UInt8) ∉ E) : shf d (D.flatten ++ E) = (D.map (wr d)).flatten ++ wr d E := by
  induction D with
  | nil => simpa using shf_no d E hE
  | cons x r ih =>
    obtain ⟨y, rfl, hy⟩ := hD x (by simp)
    have := shf_line d y (r.flatten ++ E) (mem_of_ne hy)
    simp only [List.flatten_cons, List.map_cons, List.append_assoc, List.cons_append, List.nil_append] at this ⊢
    rw [this, ih (fun x hx => hD x (by simp [hx]))]
theorem sh_lines (d : Int) (D : List Bs) (E : Bs) (hD : ∀ x ∈ D, ∃ y : Bs, x = y ++ [10] ∧ ∀ c ∈ y, c ≠ 10) (hE : (10 : UInt8) ∉ E) (h : D ≠ []) : sh d (D.flatten ++ E) = outL d D ++ wr d E := by
  cases D with
  | nil => exact absurd rfl h
  | cons x r =>
    obtain ⟨y, rfl, hy⟩ := hD x (by simp)
    have h1 := sh_pre d y (10 :: (r.flatten ++ E)) (mem_of_ne hy)
    have h2 := shf_lines d r E (fun x hx => hD x (by simp [hx])) hE
    rw [sh_nl, h2] at h1
    simpa [outL] using h1

/-- What the program writes: all lines, and tabs behind a line feed at the end. -/
def ends (l : Bs) : Bool := Lib.hasSuffix l [10]
theorem ends_iff (l : Bs) : ends l = true ↔ ∃ y, l = y ++ [10] := by
  unfold ends Lib.hasSuffix
  rw [List.isSuffixOf_iff_suffix]
  constructor
  · rintro ⟨y, h⟩; exact ⟨y, h.symm⟩
  · rintro ⟨y, h⟩; exact ⟨y, h.symm⟩
theorem out_lines (d : Int) (l : Bs) : outL d (lns l) ++ (if ends l = true then wr d [] else []) = sh d l := by
  have hg := good l
  have hf := flat l
  by_cases hE : (st l).2 = []
  · have e : lns l = (st l).1 := by unfold lns; rw [if_pos hE]
    rw [hE, List.append_nil] at hf
    rw [e]
    by_cases hD : (st l).1 = []
    · rw [hD] at hf
      have hl : l = [] := by simpa using hf.symm
      have hn : ends l = false := by rw [hl]; rfl
      rw [hD, hn, hl, sh_nil]; rfl
    · have h1 := sh_lines d (st l).1 [] hg.1 (by simp) hD
      have hy : ends l = true := by
        rw [ends_iff, ← hf]
        obtain ⟨y, h2, _⟩ := hg.1 ((st l).1.getLast hD) (List.getLast_mem hD)
        refine ⟨(st l).1.dropLast.flatten ++ y, ?_⟩
        rw [List.append_assoc, ← h2, show (st l).1.dropLast.flatten ++ (st l).1.getLast hD = ((st l).1.dropLast ++ [(st l).1.getLast hD]).flatten from by simp, List.dropLast_concat_getLast]
      rw [List.append_nil, hf] at h1
      rw [if_pos hy, h1]
  · have e : lns l = (st l).1 ++ [(st l).2] := by unfold lns; rw [if_neg hE]
    have hn : ends l = false := by
      cases h : ends l with
      | false => rfl
      | true =>
        obtain ⟨y, hy⟩ := (ends_iff l).1 h
        rcases List.eq_nil_or_concat (st l).2 with h0 | ⟨z, x, hz⟩
        · exact absurd h0 hE
        · have h2 := hf.trans hy
          rw [hz, List.concat_eq_append, ← List.append_assoc] at h2
          have h3 := List.append_inj_right' h2 rfl
          obtain rfl : x = 10 := by simpa using h3
          exact absurd rfl (hg.2 10 (by rw [hz]; simp))
    rw [e, hn, if_neg (by simp), List.append_nil]
    by_cases hD : (st l).1 = []
    · have h1 := sh_same d (st l).2 (mem_of_ne hg.2)
      have hl : (st l).2 = l := by rw [hD] at hf; simpa using hf
      rw [hD, ← h1, hl]; simp only [List.nil_append, outL, List.map_nil, List.flatten_nil, List.append_nil]
    · have h1 := sh_lines d (st l).1 (st l).2 hg.1 (mem_of_ne hg.2) hD
      rw [hf] at h1
      rw [h1]
      cases hh : (st l).1 with
      | nil => exact absurd hh hD
      | cons a r => simp [outL]

/- ### The number of line feeds -/

theorem st_count (l : Bs) : (st l).1.length = l.count 10 := by
  have key : ∀ (m : Bs) (p : List Bs × Bs), (m.foldl step p).1.length = p.1.length + m.count 10 := by
    intro m
    induction m with
    | nil => intro p; simp
    | cons c r ih =>
      intro p
      simp only [List.foldl_cons]
      rw [ih, List.count_cons]
      unfold step
      by_cases hc : c = 10
      · simp [hc]; omega
      · simp [hc]
  have := key l ([], [])
  simpa [st] using this
theorem lns_x (l : Bs) : (lns (l ++ [120])).length = l.count 10 + 1 := by
  unfold lns
  rw [st_snoc_no _ _ (by decide), if_neg (by simp)]
  simp [st_count]
theorem count_rp (n : Int) : (rp n).count 10 = 0 := by
  unfold rp
  rw [List.count_replicate]; rfl
theorem count_drop_tb (r : Bs) : (r.drop (tb r)).count 10 = r.count 10 := by
  have := congrArg (List.count 10) (tb_split r)
  rw [List.count_append, List.count_replicate] at this
  simpa using this
theorem sh_count (d : Int) (l : Bs) : (sh d l).count 10 = l.count 10 := by
  induction l using sh_ind with
  | h0 => rw [sh_nil]
  | h1 c r hc ih => rw [sh_no _ _ _ hc, List.count_cons, List.count_cons, ih]
  | h2 r ih => rw [sh_nl, List.count_cons, List.count_cons, shf, List.count_append, count_rp, ih, count_drop_tb]; omega

/- ### Shifting back -/

theorem sh_back (n : Nat) (l : Bs) : sh (-(n : Int)) (sh n l) = l := by
  induction l using sh_ind with
  | h0 => rw [sh_nil, sh_nil]
  | h1 c r hc ih => rw [sh_no _ _ _ hc, sh_no _ _ _ hc, ih]
  | h2 r ih =>
    have hh : (sh n (r.drop (tb r))).head? ≠ some 9 := by rw [sh_head]; exact tb_rest r
    have e : ((tb r : Int) + n).toNat = tb r + n := by omega
    rw [sh_nl, sh_nl, shf, shf, rp, rp, e, tb_rep0 _ _ hh, drop_rep, ih]
    have : (((tb r + n : Nat) : Int) + -(n : Int)).toNat = tb r := by omega
    rw [this, tb_split]

/- ### Trivia behind a shift -/

theorem hop_tab (m : Bs) : hop (9 :: m) = 1 := hop_blank 9 m (by decide)
theorem eo_tabs (k : Nat) (m : Bs) : eo (List.replicate k 9 ++ m) = k + eo m ∧ coms (List.replicate k 9 ++ m) = coms m := by
  induction k with
  | zero => simp
  | succ k ih =>
    have h1 : hop (9 :: (List.replicate k 9 ++ m)) = 1 := hop_tab _
    rw [List.replicate_succ, List.cons_append, eo_go _ (by rw [h1]; decide), coms_go _ (by rw [h1]; decide), h1]
    simp only [List.drop_succ_cons, List.drop_zero]
    refine ⟨by rw [ih.1]; omega, ?_⟩
    rw [ih.2]; simp [one]
/-- What is trivia and what its comments are does not hang on the shift. -/
def Like (a b : Bs) : Prop := (eo a = a.length ↔ eo b = b.length) ∧ coms a = coms b
theorem like_tabs (k j : Nat) (a b : Bs) (h : Like a b) : Like (List.replicate k 9 ++ a) (List.replicate j 9 ++ b) := by
  have h1 := eo_tabs k a
  have h2 := eo_tabs j b
  have h3 := h.1
  refine ⟨?_, by rw [h1.2, h2.2]; exact h.2⟩
  rw [h1.1, h2.1, List.length_append, List.length_append, List.length_replicate, List.length_replicate]
  omega
theorem like_hop (p a b : Bs) (k : Nat) (hk : k ≠ 0) (hp : p.length = k) (ha : hop (p ++ a) = k) (hb : hop (p ++ b) = k) (h : Like a b) : Like (p ++ a) (p ++ b) := by
  have e1 : (p ++ a).drop k = a := List.drop_left' hp
  have e2 : (p ++ b).drop k = b := List.drop_left' hp
  have o1 : one (p ++ a) = one (p ++ b) := by
    unfold one
    rw [ha, hb, List.take_append_of_le_length (by omega), List.take_append_of_le_length (by omega)]
    cases p with
    | nil => simp at hp; omega
    | cons c r => rfl
  have h3 := h.1
  refine ⟨?_, ?_⟩
  · rw [eo_go _ (by rw [ha]; exact hk), eo_go (p ++ b) (by rw [hb]; exact hk), ha, hb, e1, e2, List.length_append, List.length_append]
    omega
  · rw [coms_go _ (by rw [ha]; exact hk), coms_go (p ++ b) (by rw [hb]; exact hk), ha, hb, e1, e2, o1, h.2]
theorem like_none (a b : Bs) (ha : hop a = 0) (hb : hop b = 0) (h : a = [] ↔ b = []) : Like a b := by
  refine ⟨?_, by rw [coms_stop a ha, coms_stop b hb]⟩
  rw [eo_stop a ha, eo_stop b hb]
  constructor
  · intro h1
    have : a = [] := List.eq_nil_of_length_eq_zero h1.symm
    rw [h.1 this]; rfl
  · intro h1
    have : b = [] := List.eq_nil_of_length_eq_zero h1.symm
    rw [h.2 this]; rfl
theorem hop_sh_zero (d : Int) (l : Bs) (h : hop l = 0) : hop (sh d l) = 0 := by
  match l with
  | [] => rw [sh_nil]; exact h
  | c :: r =>
    have hb : blank c = false := by
      cases hb : blank c with
      | false => rfl
      | true => rw [hop_blank c r hb] at h; cases h
    have hc : c ≠ 10 := fun e => by rw [e] at hb; cases hb
    rw [sh_no _ _ _ hc]
    refine hop_none _ (fun c' r' e => by cases e; exact hb) ?_
    by_cases h47 : c = 47 ∧ r.head? = some 47
    · obtain ⟨rfl, h2⟩ := h47
      have hm : (10 : UInt8) ∉ r := by
        intro hm
        rw [hop, if_neg (by simp [hb]), if_pos ⟨rfl, h2, hm⟩] at h
        omega
      rw [sh_same d r hm]
      right
      intro j hj e
      have : (10 : UInt8) ∈ (47 :: r : Bs) := e ▸ List.getElem_mem hj
      simp at this
      exact hm this
    · left
      intro r' e
      injection e with e1 e2
      exact h47 ⟨e1, by rw [← sh_head d r, e2]; rfl⟩
theorem sh_like (d : Int) (l : Bs) : Like (sh d l) l := by
  have key : ∀ n (l : Bs), l.length ≤ n → Like (sh d l) l := by
    intro n
    induction n with
    | zero =>
      intro l hl
      have : l = [] := List.eq_nil_of_length_eq_zero (by omega)
      subst this; rw [sh_nil]; exact ⟨Iff.rfl, rfl⟩
    | succ n ih =>
      intro l hl
      have feed : ∀ (p r : Bs) (k : Nat), k ≠ 0 → p.length = k → (∀ m, hop (p ++ m) = k) → r.length ≤ n → Like (p ++ shf d r) (p ++ r) := by
        intro p r k hk hp hh hr
        have h1 := like_tabs (tb r + d).toNat (tb r) _ _ (ih (r.drop (tb r)) (by rw [List.length_drop]; omega))
        rw [tb_split] at h1
        exact like_hop p _ _ k hk hp (hh _) (hh _) h1
      rcases hop_cases l with h | ⟨c, r, rfl, hb, h⟩ | ⟨y, r, rfl, hy, h⟩
      · refine like_none _ _ (hop_sh_zero d l h) h ?_
        have := sh_head d l
        cases l with
        | nil => rw [sh_nil]
        | cons c r =>
          cases hs : sh d (c :: r) with
          | nil => rw [hs] at this; simp at this
          | cons a b => simp
      · simp only [List.length_cons] at hl
        by_cases hc : c = 10
        · subst hc
          rw [sh_nl]
          exact feed [10] r 1 (by decide) rfl (fun m => hop_blank 10 m (by decide)) (by omega)
        · rw [sh_no _ _ _ hc]
          exact like_hop [c] _ _ 1 (by decide) rfl (hop_blank c _ hb) (hop_blank c _ hb) (ih r (by omega))
      · simp only [List.length_cons, List.length_append] at hl
        have e : sh d (47 :: 47 :: (y ++ 10 :: r)) = (47 :: 47 :: (y ++ [10])) ++ shf d r := by
          have := sh_pre d (47 :: 47 :: y) (10 :: r) (by simp [hy])
          rw [sh_nl] at this
          simpa using this
        have e2 : (47 :: 47 :: (y ++ 10 :: r) : Bs) = (47 :: 47 :: (y ++ [10])) ++ r := by simp
        rw [e, e2]
        exact feed _ r (y.length + 3) (by omega) (by simp) (fun m => by have := hop_comment y m hy; simpa using this) (by omega)
  exact key l.length l (Nat.le_refl _)

/- ### Indentation -/

theorem drop_tabs (l : Bs) : Lib.trimLeftB l 9 = l.drop (tb l) := by
  unfold Lib.trimLeftB
  induction l with
  | nil => rfl
  | cons c r ih =>
    by_cases h : c = 9
    · subst h; rw [tb_tab, List.drop_succ_cons, ← ih]; rfl
    · rw [tb_no _ _ h, List.dropWhile_cons, if_neg (by simpa using h)]; rfl

/-- As the reference counts: the tabs so far, and whether a tab would count. -/
def istep (p : Nat × Bool) (c : UInt8) : Nat × Bool := if c = 10 then (0, true) else if c = 9 ∧ p.2 = true then (p.1 + 1, true) else (p.1, false)
def isl (l : Bs) : Nat × Bool := l.foldl istep (0, false)
def ti (l : Bs) : Nat := (isl l).1
theorem isl_snoc (l : Bs) (c : UInt8) : isl (l ++ [c]) = istep (isl l) c := by simp [isl]
theorem isl_le (l : Bs) : (isl l).1 ≤ l.length := by
  have key : ∀ (m : Bs) (p : Nat × Bool), (m.foldl istep p).1 ≤ p.1 + m.length := by
    intro m
    induction m with
    | nil => intro p; simp
    | cons c r ih =>
      intro p
      have := ih (istep p c)
      have h2 : (istep p c).1 ≤ p.1 + 1 := by unfold istep; split <;> (try split) <;> simp
      simp only [List.foldl_cons, List.length_cons]; omega
  have := key l (0, false)
  simpa [isl] using this
theorem fold_off (b : Bs) (n : Nat) (h : (10 : UInt8) ∉ b) : b.foldl istep (n, false) = (n, false) := by
  induction b with
  | nil => rfl
  | cons c r ih =>
    simp only [List.mem_cons, not_or] at h
    have : istep (n, false) c = (n, false) := by unfold istep; rw [if_neg (fun e => h.1 e.symm), if_neg (by simp)]
    rw [List.foldl_cons, this, ih h.2]
theorem fold_on (b : Bs) (n : Nat) (h : (10 : UInt8) ∉ b) : (b.foldl istep (n, true)).1 = n + tb b := by
  induction b generalizing n with
  | nil => rfl
  | cons c r ih =>
    simp only [List.mem_cons, not_or] at h
    rw [List.foldl_cons]
    by_cases h9 : c = 9
    · have : istep (n, true) c = (n + 1, true) := by unfold istep; rw [if_neg (fun e => h.1 e.symm), if_pos ⟨h9, rfl⟩]
      rw [this, ih _ h.2, h9, tb_tab]; omega
    · have : istep (n, true) c = (n, false) := by unfold istep; rw [if_neg (fun e => h.1 e.symm), if_neg (by simp [h9])]
      rw [this, fold_off r n h.2, tb_no _ _ h9]; rfl
theorem ti_none (l : Bs) (h : (10 : UInt8) ∉ l) : ti l = 0 := by unfold ti isl; rw [fold_off l 0 h]
theorem ti_last (a b : Bs) (h : (10 : UInt8) ∉ b) : ti (a ++ 10 :: b) = tb b := by
  unfold ti isl
  rw [List.foldl_append, List.foldl_cons]
  have : istep (a.foldl istep (0, false)) 10 = (0, true) := by unfold istep; rw [if_pos rfl]
  rw [this, fold_on b 0 h]; omega
theorem last_split (l : Bs) (h : (10 : UInt8) ∈ l) : ∃ a b : Bs, l = a ++ 10 :: b ∧ (10 : UInt8) ∉ b := by
  obtain ⟨y, r, he, hy⟩ := List.eq_append_cons_of_mem (List.mem_reverse.2 h)
  have := congrArg List.reverse he
  rw [List.reverse_reverse] at this
  exact ⟨r.reverse, y.reverse, by rw [this]; simp, by simpa using hy⟩
theorem sh_last (d : Int) (a b : Bs) : ∃ A : Bs, sh d (a ++ 10 :: b) = A ++ 10 :: shf d b := by
  have key : ∀ n (a : Bs), a.length ≤ n → ∃ A : Bs, sh d (a ++ 10 :: b) = A ++ 10 :: shf d b := by
    intro n
    induction n with
    | zero =>
      intro a ha
      have : a = [] := List.eq_nil_of_length_eq_zero (by omega)
      subst this; exact ⟨[], by rw [List.nil_append, sh_nl]; rfl⟩
    | succ n ih =>
      intro a ha
      cases a with
      | nil => exact ⟨[], by rw [List.nil_append, sh_nl]; rfl⟩
      | cons c r =>
        simp only [List.length_cons] at ha
        rw [List.cons_append]
        by_cases hc : c = 10
        · subst hc
          have hl := tb_le r
          obtain ⟨A, hA⟩ := ih (r.drop (tb r)) (by rw [List.length_drop]; omega)
          refine ⟨10 :: (rp (tb r + d) ++ A), ?_⟩
          rw [sh_nl, shf, tb_nl, List.drop_append_of_le_length hl, hA]; simp
        · obtain ⟨A, hA⟩ := ih r (by omega)
          exact ⟨c :: A, by rw [sh_no _ _ _ hc, hA]; rfl⟩
  exact key a.length a (Nat.le_refl _)
theorem ti_sh (n : Nat) (l : Bs) (h : (10 : UInt8) ∈ l) : ti (sh n l) = ti l + n := by
  obtain ⟨a, b, rfl, hb⟩ := last_split l h
  obtain ⟨A, hA⟩ := sh_last n a b
  have h1 : (10 : UInt8) ∉ b.drop (tb b) := fun hm => hb (List.mem_of_mem_drop hm)
  have e : ((tb b : Int) + n).toNat = tb b + n := by omega
  have h2 : (10 : UInt8) ∉ shf n b := by
    rw [shf_no _ _ hb]; unfold wr rp
    simp only [List.mem_append, not_or]
    exact ⟨fun hm => by have := List.eq_of_mem_replicate hm; exact absurd this (by decide), h1⟩
  rw [hA, ti_last _ _ h2, ti_last _ _ hb, shf_no _ _ hb, wr, rp, e, tb_rep0 _ _ (tb_rest b)]

/-- Where the last line feed stands. -/
theorem last_none (s : ByteArray) (h : Lib.lastIndexByte s 10 = -1) : ti s.data.toList = 0 := by
  rcases Lib.lastIndexByte_spec s 10 with ⟨_, h2⟩ | ⟨i, h1, h2, _⟩
  · apply ti_none
    intro hm
    obtain ⟨j, hj, e⟩ := List.getElem_of_mem hm
    have hj2 : j < s.size := by rw [Lib.size_eq]; exact hj
    have := h2 j hj2
    rw [getElem!_pos s.data j hj] at this
    apply this
    have e2 : s.data[j] = 10 := e
    rw [e2]; rfl
  · omega
theorem last_some (s : ByteArray) (h : ¬ Lib.lastIndexByte s 10 < 0) : ∃ i : Nat, Lib.lastIndexByte s 10 = i ∧ i < s.size ∧ ti s.data.toList = tb (s.data.toList.drop (i + 1)) := by
  rcases Lib.lastIndexByte_spec s 10 with ⟨h1, _⟩ | ⟨i, h1, h2, h3, h4⟩
  · omega
  · refine ⟨i, h2, h1, ?_⟩
    have hi : i < s.data.toList.length := by rw [← Lib.size_eq]; exact h1
    rw [getElem!_pos s.data i hi] at h3
    have e10 : s.data.toList[i] = 10 := by
      apply UInt8.toNat_inj.1
      show (s.data[i]).toNat = 10
      omega
    have hno : (10 : UInt8) ∉ s.data.toList.drop (i + 1) := by
      intro hm
      obtain ⟨j, hj, e⟩ := List.getElem_of_mem hm
      rw [List.getElem_drop] at e
      rw [List.length_drop] at hj
      have hj2 : i + 1 + j < s.size := by rw [Lib.size_eq]; omega
      have := h4 (i + 1 + j) (by omega) hj2
      rw [getElem!_pos s.data (i + 1 + j) hj2] at this
      apply this
      have e2 : s.data[i + 1 + j] = 10 := e
      rw [e2]; rfl
    have := ti_last (s.data.toList.take i) _ hno
    rw [← e10, ← List.drop_eq_getElem_cons hi, List.take_append_drop] at this
    exact this
end Go.Proofs.YtceoleddijnieaaDoor.Pl
