/- What Check says of trees: the limits, parts, trees without gaps, parentheses, operators. Plain data: nothing of the program. -/
import Derived.Test.YtmfmlkdojgbhfaaDoorPlainInt
import Derived.IntWalk
namespace Go.Proofs.YtmfmlkdojgbhfaaDoor.Pl
open Go RowKit
set_option linter.unusedVariables false
set_option linter.unusedSimpArgs false

/- ### Sizes without overflow -/
theorem wrap_in (n : Int) (h0 : -9223372036854775808 ≤ n) (h1 : n ≤ 9223372036854775807) : wrap64 n = n := by unfold wrap64; omega
theorem szws_eq (ks : List Tr) (h : ∀ t ∈ ks, sz t ≤ 4611686018427387904 → szw t = sz t) : ∀ a : Int, 0 ≤ a → a + szs ks ≤ 4611686018427387904 → szws a ks = a + szs ks := by
  induction ks with
  | nil => intro a _ _; rw [szws, szs]; simp
  | cons t ts ih =>
    intro a h0 h1
    rw [szs] at h1 ⊢
    have ht := h t (by simp) (by omega)
    rw [szws, ht, wrap_in _ (by omega) (by omega), ih (fun u hu => h u (by simp [hu])) _ (by omega) (by omega)]
    omega
theorem szw_eq (t : Tr) : sz t ≤ 4611686018427387904 → szw t = sz t := by
  refine Tr.ind (M := fun t => sz t ≤ 4611686018427387904 → szw t = sz t) (fun k s g ks ih => ?_) t
  intro h
  rw [sz] at h ⊢
  rw [szw, szws_eq ks ih 1 (by decide) (by omega)]
  omega
theorem htws_eq (ks : List Tr) (h : ∀ t ∈ ks, htw t = ht t) : ∀ a : Nat, htws a ks = max a (hts ks) := by
  induction ks with
  | nil => intro a; rw [htws, hts]; simp
  | cons t ts ih =>
    intro a
    rw [htws, h t (by simp), hts]
    have := ih (fun u hu => h u (by simp [hu])) (max a (ht t))
    have e : ((max a (ht t) : Nat) : Int) = max (a : Int) (ht t : Int) := by omega
    rw [← e, this]
    omega
theorem htw_eq (t : Tr) : sz t ≤ 4611686018427387904 → htw t = ht t := by
  refine Tr.ind (M := fun t => sz t ≤ 4611686018427387904 → htw t = ht t) (fun k s g ks ih => ?_) t
  intro h
  have hz := ht_sz (.node k s g ks)
  rw [sz] at h
  rw [ht] at hz ⊢
  rw [sz] at hz
  have := htws_eq ks (fun t ht => ih t ht (by have := sz_mem ht; omega)) 0
  rw [htw]
  rw [show htws 0 ks = htws ((0 : Nat) : Int) ks from rfl, this, wrap_in _ (by omega) (by omega)]
  omega

/- ### The reference's limits -/
/-- Beyond a limit, seen from a level. -/
def Bad (l : Nat) (t : Tr) : Prop := 4000 < sz t ∨ 61 < ht t + l ∨ crowd t = true
def Bads (l a : Nat) (ks : List Tr) : Prop := 4000 < a + szs ks ∨ 61 < hts ks + l ∨ crowds ks = true
theorem rszs_eq (l : Nat) (hl : l ≤ 61) (ks : List Tr) (h : ∀ t ∈ ks, (Bad l t → rsz l t = 4001) ∧ (¬ Bad l t → rsz l t = sz t)) :
    ∀ a, (Bads l a ks → 4000 < rszs l a ks) ∧ (¬ Bads l a ks → rszs l a ks = a + szs ks) := by
  induction ks with
  | nil =>
    intro a
    unfold Bads
    rw [rszs, szs, hts, crowds]
    constructor
    · rintro (h | h | h)
      · omega
      · omega
      · cases h
    · intro _; rfl
  | cons t ts ih =>
    intro a
    obtain ⟨h1, h2⟩ := h t (by simp)
    have ih1 := ih (fun u hu => h u (by simp [hu])) (a + rsz l t)
    rw [rszs]
    have hp := sz_pos t
    unfold Bads at ih1 ⊢
    unfold Bad at h1 h2
    rw [szs, hts, crowds, Bool.or_eq_true]
    by_cases ha : a ≤ 4000
    · rw [if_pos ha]
      by_cases hb : 4000 < sz t ∨ 61 < ht t + l ∨ crowd t = true
      · have e := h1 hb
        rw [e] at ih1 ⊢
        refine ⟨fun _ => ih1.1 (.inl (by omega)), fun hn => absurd ?_ hn⟩
        rcases hb with hb | hb | hb
        · left; omega
        · right; left; omega
        · right; right; left; exact hb
      · have e := h2 hb
        rw [e] at ih1 ⊢
        constructor
        · rintro (hq | hq | hq)
          · exact ih1.1 (.inl (by omega))
          · refine ih1.1 (.inr (.inl ?_))
            have : ¬ 61 < ht t + l := fun h => hb (.inr (.inl h))
            omega
          · refine ih1.1 (.inr (.inr ?_))
            rcases hq with hq | hq
            · exact absurd (.inr (.inr hq)) hb
            · exact hq
        · intro hn
          rw [ih1.2 (fun hq => hn ?_)]
          · omega
          · rcases hq with hq | hq | hq
            · left; omega
            · right; left; omega
            · right; right; right; exact hq
    · rw [if_neg ha]
      exact ⟨fun _ => by omega, fun hn => absurd (.inl (by omega)) hn⟩
theorem rsz_eq (t : Tr) : ∀ l, l ≤ 61 → (Bad l t → rsz l t = 4001) ∧ (¬ Bad l t → rsz l t = sz t) := by
  refine Tr.ind (M := fun t => ∀ l, l ≤ 61 → (Bad l t → rsz l t = 4001) ∧ (¬ Bad l t → rsz l t = sz t)) (fun k s g ks ih => ?_) t
  intro l hl
  unfold Bad
  rw [rsz, sz, ht, crowd, Bool.or_eq_true, decide_eq_true_eq]
  by_cases h1 : 60 < l ∨ mostK k < ks.length
  · rw [if_pos h1]
    refine ⟨fun _ => rfl, fun hn => absurd ?_ hn⟩
    rcases h1 with h1 | h1
    · right; left; omega
    · right; right; left; exact h1
  · rw [if_neg h1]
    have hl1 : l + 1 ≤ 61 := by omega
    obtain ⟨q1, q2⟩ := rszs_eq (l + 1) hl1 ks (fun t ht => ih t ht (l + 1) hl1) 1
    unfold Bads at q1 q2
    constructor
    · rintro (hq | hq | hq)
      · have := q1 (.inl (by omega)); omega
      · have := q1 (.inr (.inl (by omega))); omega
      · rcases hq with hq | hq
        · exact absurd (.inr hq) h1
        · have := q1 (.inr (.inr hq)); omega
    · intro hn
      have hb : ¬ (4000 < 1 + szs ks ∨ 61 < hts ks + (l + 1) ∨ crowds ks = true) := by
        rintro (hq | hq | hq)
        · exact hn (.inl (by omega))
        · exact hn (.inr (.inl (by omega)))
        · exact hn (.inr (.inr (.inr hq)))
      have := q2 hb
      have : ¬ 4000 < 1 + szs ks := fun h => hb (.inl h)
      omega
theorem chk_rchk (t : Tr) (h : sz t ≤ 1048576) : chk t = rchk t := by
  unfold chk rchk
  rw [szw_eq t (by omega), htw_eq t (by omega)]
  obtain ⟨q1, q2⟩ := rsz_eq t 1 (by decide)
  unfold Bad at q1 q2
  by_cases hb : 4000 < sz t ∨ 61 < ht t + 1 ∨ crowd t = true
  · have : (4000 : Int) < sz t ∨ (60 : Int) < ht t ∨ crowd t = true := by
      rcases hb with hb | hb | hb
      · left; omega
      · right; left; omega
      · right; right; exact hb
    have e := q1 hb
    rw [if_pos this, if_pos (by omega)]
  · have hs := q2 hb
    have hn : ¬ 4000 < sz t := fun h => hb (.inl h)
    have : ¬ ((4000 : Int) < sz t ∨ (60 : Int) < ht t ∨ crowd t = true) := by
      rintro (hq | hq | hq)
      · exact hb (.inl (by omega))
      · exact hb (.inr (.inl (by omega)))
      · exact hb (.inr (.inr hq))
    rw [if_neg this, if_neg (by omega)]

/- ### What is well-formed -/
theorem chk_zero (t : Tr) (h : chk t = 0) : ¬ 4000 < szw t ∧ ¬ 60 < htw t ∧ crowd t = false ∧ firstE t = 0 := by
  unfold chk at h
  by_cases hb : 4000 < szw t ∨ 60 < htw t ∨ crowd t = true
  · rw [if_pos hb] at h; cases h
  · rw [if_neg hb] at h
    refine ⟨fun e => hb (.inl e), fun e => hb (.inr (.inl e)), ?_, h⟩
    cases hc : crowd t
    · rfl
    · exact absurd (.inr (.inr hc)) hb
theorem chk_of (t : Tr) (h1 : ¬ 4000 < szw t) (h2 : ¬ 60 < htw t) (h3 : crowd t = false) : chk t = firstE t := by
  unfold chk
  rw [if_neg]
  rintro (h | h | h)
  · exact h1 h
  · exact h2 h
  · rw [h3] at h; cases h
theorem first_zero (k : Int) (s : ByteArray) (g : List ByteArray) (ks : List Tr) (h : firstE (.node k s g ks) = 0) : nodeE k s g ks = 0 ∧ firstsE ks = 0 := by
  rw [firstE] at h
  by_cases h0 : nodeE k s g ks = 0
  · rw [if_neg (by simpa using h0)] at h
    exact ⟨h0, h⟩
  · rw [if_pos h0] at h; exact absurd h h0
theorem first_node (k : Int) (s : ByteArray) (g : List ByteArray) (ks : List Tr) (h0 : nodeE k s g ks = 0) (h : firstsE ks = 0) : firstE (.node k s g ks) = 0 := by
  rw [firstE, if_neg (by simpa using h0), h]
theorem first_bad (k : Int) (s : ByteArray) (g : List ByteArray) (ks : List Tr) (v : Int) (h0 : nodeE k s g ks = v) (hv : v ≠ 0) : firstE (.node k s g ks) = v := by
  rw [firstE, if_pos (by rw [h0]; exact hv), h0]
theorem firsts_mem (ks : List Tr) (h : firstsE ks = 0) : ∀ t ∈ ks, firstE t = 0 := by
  induction ks with
  | nil => intro t ht; cases ht
  | cons a ks ih =>
    rw [firstsE] at h
    by_cases h0 : firstE a = 0
    · rw [if_neg (by simpa using h0)] at h
      intro t ht
      rcases List.mem_cons.1 ht with rfl | ht
      · exact h0
      · exact ih h t ht
    · rw [if_pos h0] at h; exact absurd h h0
theorem firsts_of (ks : List Tr) (h : ∀ t ∈ ks, firstE t = 0) : firstsE ks = 0 := by
  induction ks with
  | nil => rw [firstsE]
  | cons a ks ih =>
    rw [firstsE, if_neg (by simpa using h a (by simp)), ih (fun t ht => h t (by simp [ht]))]
theorem nodeE_zero (k : Int) (s : ByteArray) (g : List ByteArray) (ks : List Tr) (h : nodeE k s g ks = 0) : shape k s ks = true ∧ nameOK k s = true ∧ gapsOK k s g ks.length = true := by
  unfold nodeE at h
  cases h1 : shape k s ks
  · rw [h1, if_pos rfl] at h; cases h
  cases h2 : nameOK k s
  · rw [h1, h2, if_neg (by decide), if_pos rfl] at h; cases h
  cases h3 : gapsOK k s g ks.length
  · rw [h1, h2, h3, if_neg (by decide), if_neg (by decide), if_pos rfl] at h; cases h
  exact ⟨rfl, rfl, rfl⟩
theorem nodeE_of (k : Int) (s : ByteArray) (g : List ByteArray) (ks : List Tr) (h1 : shape k s ks = true) (h2 : nameOK k s = true) (h3 : gapsOK k s g ks.length = true) : nodeE k s g ks = 0 := by
  unfold nodeE
  rw [h1, h2, h3, if_neg (by decide), if_neg (by decide), if_neg (by decide)]
theorem shape_parts (k : Int) (s : ByteArray) (ks : List Tr) (h : shape k s ks = true) : (1 ≤ k ∧ k ≤ 26) ∧ least k ≤ ks.length ∧ fitA k 0 ks = true ∧ wordOK k s = true ∧ lvls k s ks = true := by
  unfold shape at h
  simp only [Bool.and_eq_true, decide_eq_true_eq] at h
  exact ⟨h.1.1.1.1, h.1.1.1.2, h.1.1.2, h.1.2, h.2⟩
theorem shape_of (k : Int) (s : ByteArray) (ks : List Tr) (h1 : 1 ≤ k ∧ k ≤ 26) (h2 : least k ≤ ks.length) (h3 : fitA k 0 ks = true) (h4 : wordOK k s = true) (h5 : lvls k s ks = true) : shape k s ks = true := by
  unfold shape
  simp only [Bool.and_eq_true, decide_eq_true_eq]
  exact ⟨⟨⟨⟨h1, h2⟩, h3⟩, h4⟩, h5⟩
theorem fitA_get (k : Int) (ks : List Tr) : ∀ i, fitA k i ks = true → ∀ (j : Nat) u, ks[j]? = some u → fits k ((i + j : Nat) : Int) u.kind = true := by
  induction ks with
  | nil => intro i _ j u hu; cases hu
  | cons a ks ih =>
    intro i h j u hu
    rw [fitA, Bool.and_eq_true] at h
    match j, hu with
    | 0, hu => obtain rfl : a = u := by simpa using hu
               exact h.1
    | j + 1, hu =>
      have := ih (i + 1) h.2 j u (by simpa using hu)
      rw [show i + (j + 1) = i + 1 + j by omega]; exact this
theorem fitA_of (k : Int) (ks : List Tr) : ∀ i, (∀ (j : Nat) u, ks[j]? = some u → fits k ((i + j : Nat) : Int) u.kind = true) → fitA k i ks = true := by
  induction ks with
  | nil => intro i _; rfl
  | cons a ks ih =>
    intro i h
    rw [fitA, Bool.and_eq_true]
    refine ⟨h 0 a rfl, ih (i + 1) fun j u hu => ?_⟩
    have := h (j + 1) u (by simpa using hu)
    rw [show i + 1 + j = i + (j + 1) by omega]; exact this
theorem mostK_le (k : Int) : mostK k ≤ 200 := by unfold mostK; omega
theorem crowd_node (k : Int) (s : ByteArray) (g : List ByteArray) (ks : List Tr) (h : crowd (.node k s g ks) = false) : (ks.length : Int) ≤ mostK k ∧ crowds ks = false := by
  rw [crowd, Bool.or_eq_false_iff, decide_eq_false_iff_not] at h
  exact ⟨by omega, h.2⟩
theorem crowds_mem (ks : List Tr) (h : crowds ks = false) : ∀ t ∈ ks, crowd t = false := by
  induction ks with
  | nil => intro t ht; cases ht
  | cons a ks ih =>
    rw [crowds, Bool.or_eq_false_iff] at h
    intro t ht
    rcases List.mem_cons.1 ht with rfl | ht
    · exact h.1
    · exact ih h.2 t ht
theorem hts_mem {ks : List Tr} {t : Tr} (h : t ∈ ks) : ht t ≤ hts ks := by
  induction ks with
  | nil => cases h
  | cons a ks ih =>
    rw [hts]
    rcases List.mem_cons.1 h with rfl | h
    · omega
    · have := ih h; omega
/-- The kids of what is well-formed. -/
theorem chk_parts (k : Int) (s : ByteArray) (g : List ByteArray) (ks : List Tr) (hz : sz (.node k s g ks) ≤ 1048576) (h : chk (.node k s g ks) = 0) :
    ks.length ≤ 200 ∧ (g = [] ∨ (g.length : Int) = own k s ks.length) ∧ ∀ (j : Nat) u, ks[j]? = some u → chk u = 0 ∧ fits k j u.kind = true := by
  obtain ⟨h1, h2, h3, h4⟩ := chk_zero _ h
  obtain ⟨h5, h6⟩ := first_zero k s g ks h4
  obtain ⟨h7, h8, h9⟩ := nodeE_zero k s g ks h5
  obtain ⟨_, _, h10, _, _⟩ := shape_parts k s ks h7
  obtain ⟨h11, h12⟩ := crowd_node k s g ks h3
  have := mostK_le k
  rw [szw_eq _ (by omega)] at h1
  rw [htw_eq _ (by omega)] at h2
  rw [sz] at hz h1
  rw [ht] at h2
  refine ⟨by omega, ?_, fun j u hu => ?_⟩
  · unfold gapsOK at h9
    simp only [Bool.or_eq_true, Bool.and_eq_true, decide_eq_true_eq] at h9
    rcases h9 with h9 | h9
    · exact .inl h9
    · exact .inr h9.1
  · have hm := List.mem_of_getElem? hu
    have e1 := sz_mem hm
    have e2 := hts_mem hm
    refine ⟨?_, ?_⟩
    · rw [chk_of u (by rw [szw_eq u (by omega)]; omega) (by rw [htw_eq u (by omega)]; omega) (crowds_mem ks h12 u hm)]
      exact firsts_mem ks h6 u hm
    · have := fitA_get k ks 0 h10 j u hu
      rwa [Nat.zero_add] at this
end Go.Proofs.YtmfmlkdojgbhfaaDoor.Pl
