/- Trees without gaps, with a parenthesis, operators on integers: what Check says of them. Plain data: nothing of the program. -/
import Derived.Test.YtmfmlkdojgbhfaaDoorPlainChk
import Derived.KernelRfl
namespace Go.Proofs.YtmfmlkdojgbhfaaDoor.Pl
open Go RowKit
set_option linter.unusedVariables false
set_option linter.unusedSimpArgs false

/- ### Without gaps -/
theorem bare_kind (t : Tr) : (bare t).kind = t.kind := by cases t; rw [bare]; rfl
theorem bare_text (t : Tr) : (bare t).text = t.text := by cases t; rw [bare]; rfl
theorem bare_lev (t : Tr) : (bare t).lev = t.lev := by unfold Tr.lev; rw [bare_kind, bare_text]
theorem bares_len (ks : List Tr) : (bares ks).length = ks.length := by rw [bares_map, List.length_map]
theorem bare_szws (ks : List Tr) (h : ∀ t ∈ ks, szw (bare t) = szw t) : ∀ a, szws a (bares ks) = szws a ks := by
  induction ks with
  | nil => intro a; rfl
  | cons t ts ih => intro a; rw [bares, szws, szws, h t (by simp), ih (fun u hu => h u (by simp [hu]))]
theorem bare_szw (t : Tr) : szw (bare t) = szw t := by
  refine Tr.ind (M := fun t => szw (bare t) = szw t) (fun k s g ks ih => ?_) t
  rw [bare, szw, szw, bare_szws ks ih]
theorem bare_htws (ks : List Tr) (h : ∀ t ∈ ks, htw (bare t) = htw t) : ∀ a, htws a (bares ks) = htws a ks := by
  induction ks with
  | nil => intro a; rfl
  | cons t ts ih => intro a; rw [bares, htws, htws, h t (by simp), ih (fun u hu => h u (by simp [hu]))]
theorem bare_htw (t : Tr) : htw (bare t) = htw t := by
  refine Tr.ind (M := fun t => htw (bare t) = htw t) (fun k s g ks ih => ?_) t
  rw [bare, htw, htw, bare_htws ks ih]
theorem bare_crowds (ks : List Tr) (h : ∀ t ∈ ks, crowd (bare t) = crowd t) : crowds (bares ks) = crowds ks := by
  induction ks with
  | nil => rfl
  | cons t ts ih => rw [bares, crowds, crowds, h t (by simp), ih (fun u hu => h u (by simp [hu]))]
theorem bare_crowd (t : Tr) : crowd (bare t) = crowd t := by
  refine Tr.ind (M := fun t => crowd (bare t) = crowd t) (fun k s g ks ih => ?_) t
  rw [bare, crowd, crowd, bare_crowds ks ih, bares_len]
theorem fitA_bares (k : Int) (ks : List Tr) : ∀ i, fitA k i (bares ks) = fitA k i ks := by
  induction ks with
  | nil => intro i; rfl
  | cons t ts ih => intro i; rw [bares, fitA, fitA, bare_kind, ih]
theorem lvls_bares (k : Int) (s : ByteArray) (ks : List Tr) : lvls k s (bares ks) = lvls k s ks := by
  unfold lvls
  by_cases h24 : k = 24
  · rw [if_pos h24, if_pos h24]
    match ks with
    | [] => rfl
    | [a] => rfl
    | a :: b :: r => simp only [bares, bare_lev]
  rw [if_neg h24, if_neg h24]
  by_cases h25 : k = 25
  · rw [if_pos h25, if_pos h25]
    match ks with
    | [] => rfl
    | a :: r => simp only [bares, bare_lev]
  rw [if_neg h25, if_neg h25]
  by_cases h21 : k = 21
  · rw [if_pos h21, if_pos h21]
    match ks with
    | [] => rfl
    | a :: r => simp only [bares, bare_lev]
  rw [if_neg h21, if_neg h21]
theorem shape_bares (k : Int) (s : ByteArray) (ks : List Tr) : shape k s (bares ks) = shape k s ks := by
  unfold shape
  rw [bares_len, fitA_bares, lvls_bares]
theorem bare_first (t : Tr) : firstE t = 0 → firstE (bare t) = 0 := by
  refine Tr.ind (M := fun t => firstE t = 0 → firstE (bare t) = 0) (fun k s g ks ih => ?_) t
  intro h
  obtain ⟨h1, h2⟩ := first_zero k s g ks h
  obtain ⟨h3, h4, h5⟩ := nodeE_zero k s g ks h1
  rw [bare]
  refine first_node k s [] (bares ks) (nodeE_of k s [] _ (by rw [shape_bares]; exact h3) h4 rfl) (firsts_of _ fun t ht => ?_)
  rw [bares_map] at ht
  obtain ⟨u, hu, rfl⟩ := List.mem_map.1 ht
  exact ih u hu (firsts_mem ks h2 u hu)
theorem bare_chk (t : Tr) (h : chk t = 0) : chk (bare t) = 0 := by
  obtain ⟨h1, h2, h3, h4⟩ := chk_zero t h
  rw [chk_of _ (by rw [bare_szw]; exact h1) (by rw [bare_htw]; exact h2) (by rw [bare_crowd]; exact h3)]
  exact bare_first t h4
/-- With a gap that is no trivia. -/
theorem bare_gap (k : Int) (s : ByteArray) (g : List ByteArray) (ks : List Tr) (x : ByteArray) (xs : List ByteArray) (hx : triv x = false) (h : chk (.node k s g ks) = 0) : chk (.node k s (x :: xs) (bares ks)) = 7 := by
  obtain ⟨h1, h2, h3, h4⟩ := chk_zero _ h
  obtain ⟨h5, h6⟩ := first_zero k s g ks h4
  obtain ⟨h7, h8, h9⟩ := nodeE_zero k s g ks h5
  have e1 := bare_szw (.node k s g ks)
  have e2 := bare_htw (.node k s g ks)
  have e3 := bare_crowd (.node k s g ks)
  rw [bare] at e1 e2 e3
  have f1 : szw (.node k s (x :: xs) (bares ks)) = szw (.node k s [] (bares ks)) := by rw [szw, szw]
  have f2 : htw (.node k s (x :: xs) (bares ks)) = htw (.node k s [] (bares ks)) := by rw [htw, htw]
  have f3 : crowd (.node k s (x :: xs) (bares ks)) = crowd (.node k s [] (bares ks)) := by rw [crowd, crowd]
  rw [chk_of _ (by rw [f1, e1]; exact h1) (by rw [f2, e2]; exact h2) (by rw [f3, e3]; exact h3)]
  refine first_bad k s (x :: xs) (bares ks) 7 ?_ (by decide)
  unfold nodeE
  rw [shape_bares, h7, h8, if_neg (by decide), if_neg (by decide)]
  have : gapsOK k s (x :: xs) (bares ks).length = false := by
    unfold gapsOK
    rw [List.all_cons, hx]
    simp
  rw [this, if_pos rfl]
theorem own_nonneg (k : Int) (s : ByteArray) (n : Nat) (hn : n ≤ 200) : 0 ≤ own k s n ∧ own k s n ≤ 1000 := by
  unfold own ownT
  rw [wrap_in _ (by omega) (by omega), wrap_in _ (by omega) (by omega)]
  omega
theorem chk_len (k : Int) (s : ByteArray) (g : List ByteArray) (ks : List Tr) (h : chk (.node k s g ks) = 0) : ks.length ≤ 200 := by
  obtain ⟨_, _, h3, _⟩ := chk_zero _ h
  have := (crowd_node k s g ks h3).1
  have := mostK_le k
  omega

/- ### A kid in parentheses -/
def par (u : Tr) : Tr := .node 26 ⟨#[]⟩ [] [u]
theorem grp_kinds (k : Int) (h : grp k = 3) : 17 ≤ k ∧ k ≤ 26 := by unfold grp at h; omega
theorem fits_par (p q k : Int) (h : fits p q k = true) (hk : grp k = 3) : fits p q 26 = true := by
  have hr := grp_kinds k hk
  unfold fits at h ⊢
  rw [decide_eq_true_eq] at h ⊢
  obtain ⟨h0, h⟩ := h
  have h26 : grp 26 = 3 := rfl
  refine ⟨h0, ?_⟩
  rw [hk] at h
  rw [h26]
  rcases h with ⟨_, h⟩ | ⟨_, h⟩ | ⟨_, h⟩ | ⟨_, _, h⟩ | ⟨_, h⟩ | ⟨_, h⟩ | ⟨h1, h⟩ | ⟨_, _, h⟩ | ⟨h1, h⟩ | ⟨h1, _⟩ | ⟨h1, h2, _⟩ | ⟨h1, h2, _⟩
  · exact absurd h (by decide)
  · exfalso; omega
  · exfalso; omega
  · exfalso; omega
  · exact absurd h (by decide)
  · exfalso; omega
  · refine .inr (.inr (.inr (.inr (.inr (.inr (.inl ⟨h1, .inl ⟨?_, rfl⟩⟩))))))
    omega
  · exfalso; omega
  · refine .inr (.inr (.inr (.inr (.inr (.inr (.inr (.inr (.inl ⟨h1, .inl ⟨?_, rfl⟩⟩))))))))
    omega
  · exact .inr (.inr (.inr (.inr (.inr (.inr (.inr (.inr (.inr (.inl ⟨h1, rfl⟩)))))))))
  · exact .inr (.inr (.inr (.inr (.inr (.inr (.inr (.inr (.inr (.inr (.inl ⟨h1, h2, rfl⟩))))))))))
  · exact .inr (.inr (.inr (.inr (.inr (.inr (.inr (.inr (.inr (.inr (.inr ⟨h1, h2, rfl⟩))))))))))
theorem par_lev (u : Tr) : (par u).lev = 7 := rfl
theorem lvo_small (s : ByteArray) : 0 ≤ lvo s ∧ lvo s ≤ 5 := by unfold lvo lvL; omega
theorem lvls_par (k : Int) (s : ByteArray) (ks : List Tr) (i : Nat) (u : Tr) (h : lvls k s ks = true) : lvls k s (ks.set i (par u)) = true := by
  have hs := lvo_small s
  have hp := par_lev u
  unfold lvls at h ⊢
  by_cases h24 : k = 24
  · rw [if_pos h24] at h ⊢
    match ks, i, h with
    | [], i, h => rfl
    | [a], 0, h => rfl
    | [a], i + 1, h => rfl
    | a :: b :: r, 0, h =>
      simp only [List.set_cons_zero, Bool.and_eq_true, Bool.not_eq_true', Bool.and_eq_false_iff, decide_eq_true_eq, decide_eq_false_iff_not] at h ⊢
      omega
    | a :: b :: r, 1, h =>
      simp only [List.set_cons_succ, List.set_cons_zero, Bool.and_eq_true, Bool.not_eq_true', Bool.and_eq_false_iff, decide_eq_true_eq, decide_eq_false_iff_not] at h ⊢
      omega
    | a :: b :: r, i + 2, h => exact h
  rw [if_neg h24] at h ⊢
  by_cases h25 : k = 25
  · rw [if_pos h25] at h ⊢
    match ks, i, h with
    | [], i, h => rfl
    | a :: r, 0, h => rfl
    | a :: r, i + 1, h => exact h
  rw [if_neg h25] at h ⊢
  by_cases h21 : k = 21
  · rw [if_pos h21] at h ⊢
    match ks, i, h with
    | [], i, h => rfl
    | a :: r, 0, h => rfl
    | a :: r, i + 1, h => exact h
  rw [if_neg h21]
theorem par_first (u : Tr) (hu : firstE u = 0) (hg : grp u.kind = 3) : firstE (par u) = 0 := by
  refine first_node 26 ⟨#[]⟩ [] [u] (nodeE_of _ _ _ _ (shape_of _ _ _ (by decide) (by simp [least]) ?_ (by kernel_rfl) (by unfold lvls; rfl)) (by kernel_rfl) rfl) (firsts_of _ fun t ht => ?_)
  · rw [fitA, fitA, Bool.and_true]
    unfold fits
    rw [decide_eq_true_eq]
    unfold FitsP
    rw [hg]
    omega
  · obtain rfl : t = u := by simpa using ht
    exact hu
theorem par_chk (k : Int) (s : ByteArray) (g : List ByteArray) (ks : List Tr) (i : Nat) (u : Tr) (hi : ks[i]? = some u) (hg : grp u.kind = 3) (h : chk (.node k s g ks) = 0) :
    chk (.node k s g (ks.set i (par u))) = 0 ∨ chk (.node k s g (ks.set i (par u))) = 3 := by
  obtain ⟨h1, h2, h3, h4⟩ := chk_zero _ h
  obtain ⟨h5, h6⟩ := first_zero k s g ks h4
  obtain ⟨h7, h8, h9⟩ := nodeE_zero k s g ks h5
  obtain ⟨g1, g2, g3, g4, g5⟩ := shape_parts k s ks h7
  have hf : firstE (.node k s g (ks.set i (par u))) = 0 := by
    refine first_node k s g _ (nodeE_of k s g _ (shape_of k s _ g1 (by rw [List.length_set]; exact g2) (fitA_of k _ 0 fun j t ht => ?_) g4 (lvls_par k s ks i u g5)) h8 (by rw [List.length_set]; exact h9)) (firsts_of _ fun t ht => ?_)
    · rw [List.getElem?_set] at ht
      by_cases hij : i = j
      · subst hij
        rw [if_pos rfl] at ht
        split at ht
        · obtain rfl : par u = t := by simpa using ht
          exact fits_par k _ u.kind (fitA_get k ks 0 g3 i u hi) hg
        · cases ht
      · rw [if_neg hij] at ht
        exact fitA_get k ks 0 g3 j t ht
    · rcases List.mem_or_eq_of_mem_set ht with ht | rfl
      · exact firsts_mem ks h6 t ht
      · exact par_first u (firsts_mem ks h6 u (List.mem_of_getElem? hi)) hg
  by_cases hc : 4000 < szw (.node k s g (ks.set i (par u))) ∨ 60 < htw (.node k s g (ks.set i (par u))) ∨ crowd (.node k s g (ks.set i (par u))) = true
  · right; unfold chk; rw [if_pos hc]
  · left; unfold chk; rw [if_neg hc]; exact hf

/- ### Operators on integers -/
def num (s : ByteArray) : Tr := .node 17 s [] []
def bin (op : ByteArray) (a b : Tr) : Tr := .node 24 op [] [a, b]
/-- A small expression that is well-formed. -/
def Small (t : Tr) : Prop := sz t ≤ 100 ∧ ht t ≤ 20 ∧ crowd t = false ∧ firstE t = 0 ∧ grp t.kind = 3
theorem bin_lev (op : ByteArray) (a b : Tr) : (bin op a b).lev = lvo op := rfl
theorem bin_chk (op : ByteArray) (a b : Tr) (ha : Small a) (hb : Small b) :
    chk (bin op a b) = if 0 < lvo op ∧ ¬ (lvo op = 3 ∧ a.lev = lvo op) ∧ lvo op ≤ a.lev ∧ lvo op < b.lev then 0 else 7 := by
  obtain ⟨a1, a2, a3, a4, a5⟩ := ha
  obtain ⟨b1, b2, b3, b4, b5⟩ := hb
  have hz : sz (bin op a b) ≤ 300 := by unfold bin; rw [sz, szs, szs, szs]; omega
  have hh : ht (bin op a b) ≤ 30 := by unfold bin; rw [ht, hts, hts, hts]; omega
  have hcr : crowd (bin op a b) = false := by unfold bin; rw [crowd, crowds, crowds, crowds, a3, b3]; rfl
  rw [chk_of _ (by rw [szw_eq _ (by omega)]; omega) (by rw [htw_eq _ (by omega)]; omega) hcr]
  have hfit : fitA 24 0 [a, b] = true := by
    rw [fitA, fitA, fitA, Bool.and_true, Bool.and_eq_true]
    unfold fits
    rw [decide_eq_true_eq, decide_eq_true_eq]
    unfold FitsP
    rw [a5, b5]
    omega
  have hw : wordOK 24 op = decide (0 < lvo op) := rfl
  have hl : lvls 24 op [a, b] = (!(decide (lvo op = 3) && decide (a.lev = lvo op)) && decide (lvo op ≤ a.lev) && decide (lvo op < b.lev)) := rfl
  have hsh : shape 24 op [a, b] = true ↔ 0 < lvo op ∧ ¬ (lvo op = 3 ∧ a.lev = lvo op) ∧ lvo op ≤ a.lev ∧ lvo op < b.lev := by
    unfold shape
    rw [hfit, hw, hl]
    have e1 : decide ((1 : Int) ≤ 24 ∧ (24 : Int) ≤ 26) = true := by decide
    have e2 : decide (least 24 ≤ (([a, b] : List Tr).length : Int)) = true := by simp [least]
    rw [e1, e2]
    simp only [Bool.and_eq_true, Bool.not_eq_true', Bool.and_eq_false_iff, decide_eq_true_eq, decide_eq_false_iff_not, true_and]
    omega
  by_cases hc : 0 < lvo op ∧ ¬ (lvo op = 3 ∧ a.lev = lvo op) ∧ lvo op ≤ a.lev ∧ lvo op < b.lev
  · rw [if_pos hc]
    refine first_node 24 op [] [a, b] (nodeE_of _ _ _ _ (hsh.2 hc) rfl rfl) (firsts_of _ fun t ht => ?_)
    simp only [List.mem_cons, List.not_mem_nil, or_false] at ht
    rcases ht with rfl | rfl
    · exact a4
    · exact b4
  · rw [if_neg hc]
    refine first_bad 24 op [] [a, b] 7 ?_ (by decide)
    unfold nodeE
    have : shape 24 op [a, b] = false := by
      cases h : shape 24 op [a, b]
      · rfl
      · exact absurd (hsh.1 h) hc
    rw [this, if_pos rfl]
theorem num_small (s : ByteArray) (h : nodeE 17 s [] [] = 0) : Small (num s) := by
  unfold num
  refine ⟨by rw [sz, szs]; decide, by rw [ht, hts]; decide, by rw [crowd, crowds]; rfl, ?_, rfl⟩
  exact first_node 17 s [] [] h (by rw [firstsE])
def n1 : Tr := num ⟨#[49]⟩
def n2 : Tr := num ⟨#[50]⟩
def n3 : Tr := num ⟨#[51]⟩
def n4 : Tr := num ⟨#[52]⟩
theorem small1 : Small n1 := num_small _ (by kernel_rfl)
theorem small2 : Small n2 := num_small _ (by kernel_rfl)
theorem small3 : Small n3 := num_small _ (by kernel_rfl)
theorem small4 : Small n4 := num_small _ (by kernel_rfl)
theorem num_lev (s : ByteArray) : (num s).lev = 7 := rfl
theorem bin_two (op s z : ByteArray) (h1 : Small (num s)) (h2 : Small (num z)) : chk (bin op (num s) (num z)) = if 0 < lvo op then 0 else 7 := by
  rw [bin_chk op _ _ h1 h2, num_lev, num_lev]
  have := lvo_small op
  by_cases h : 0 < lvo op
  · rw [if_pos h, if_pos (by omega)]
  · rw [if_neg h, if_neg (by omega)]
theorem bin_small (op s z : ByteArray) (h1 : Small (num s)) (h2 : Small (num z)) (h : 0 < lvo op) : Small (bin op (num s) (num z)) := by
  have hc := bin_two op s z h1 h2
  rw [if_pos h] at hc
  have hf := (chk_zero _ hc).2.2.2
  have a1 := h1.1
  have b1 := h2.1
  refine ⟨?_, ?_, (chk_zero _ hc).2.2.1, hf, rfl⟩
  · unfold bin num; rw [sz, szs, szs, szs, sz, sz, szs]; decide
  · unfold bin num; rw [ht, hts, hts, hts, ht, ht, hts]; decide
theorem bin_right (op op2 s : ByteArray) (b : Tr) (h1 : Small (num s)) (hb : Small b) (hl : b.lev = lvo op2) (h : 0 < lvo op) : chk (bin op (num s) b) = if lvo op < lvo op2 then 0 else 7 := by
  rw [bin_chk op _ _ h1 hb, num_lev, hl]
  have := lvo_small op
  by_cases h2 : lvo op < lvo op2
  · rw [if_pos h2, if_pos (by omega)]
  · rw [if_neg h2, if_neg (by omega)]
theorem bin_left (op op2 s : ByteArray) (b : Tr) (h1 : Small (num s)) (hb : Small b) (hl : b.lev = lvo op2) (h : 0 < lvo op) : chk (bin op b (num s)) = if lvo op < lvo op2 ∨ lvo op2 = lvo op ∧ lvo op ≠ 3 then 0 else 7 := by
  rw [bin_chk op _ _ hb h1, num_lev, hl]
  have := lvo_small op
  by_cases h2 : lvo op < lvo op2 ∨ lvo op2 = lvo op ∧ lvo op ≠ 3
  · rw [if_pos h2, if_pos (by omega)]
  · rw [if_neg h2, if_neg (by omega)]
/- ### The laws' examples -/
def summ : Tr := bin ⟨#[43]⟩ n1 n2
def good : Tr := bin ⟨#[42]⟩ (par summ) n3
def bad : Tr := bin ⟨#[42]⟩ summ n3
def seven : Tr := num ⟨#[48, 48, 55]⟩
theorem good_chk : chk good = 0 := by kernel_rfl
theorem bad_chk : chk bad = 7 := by kernel_rfl
theorem seven_chk : chk seven = 4 := by kernel_rfl
end Go.Proofs.YtmfmlkdojgbhfaaDoor.Pl
