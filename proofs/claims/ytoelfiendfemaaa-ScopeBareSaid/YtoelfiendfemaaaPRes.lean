/- What is true of a use that is bound. -/
import Derived.Test.YtoelfiendfemaaaUse
namespace Go.Proofs.Ytoelfiendfemaaa.Pl
set_option linter.unusedVariables false
set_option linter.unusedSimpArgs false

/- ### Kids know their parent -/
theorem kf_mem : ∀ (l : List Rw) (a : Nat) (q c : Int), c ∈ kf l a q → ∃ (j : Nat) (r : Rw), l[j]? = some r ∧ r.parent = q ∧ c = ((a + j : Nat) : Int) := by
  intro l
  induction l with
  | nil => intro a q c h; simp [kf] at h
  | cons r l ih =>
    intro a q c h
    rw [kf] at h
    by_cases hp : r.parent = q
    · rw [if_pos hp] at h
      rcases List.mem_cons.1 h with rfl | h
      · exact ⟨0, r, rfl, hp, by simp⟩
      · obtain ⟨j, s, h1, h2, h3⟩ := ih _ _ _ h
        exact ⟨j + 1, s, by simpa using h1, h2, by rw [h3]; congr 1; omega⟩
    · rw [if_neg hp] at h
      obtain ⟨j, s, h1, h2, h3⟩ := ih _ _ _ h
      exact ⟨j + 1, s, by simpa using h1, h2, by rw [h3]; congr 1; omega⟩
theorem kid_par (t : Tr) (i : Nat) (r : Rw) (h : (tab t 0 (-1))[i]? = some r) (c : Int) (hc : c ∈ r.kids) : (rw (tab t 0 (-1)) c).parent = i := by
  rw [tab_kids t 0 (-1) i r h] at hc
  obtain ⟨j, s, h1, h2, h3⟩ := kf_mem _ _ _ _ hc
  rw [List.getElem?_drop] at h1
  rw [h3, show 0 + i + 1 + j = i + 1 + j by omega, rw_get h1, h2]
  simp
theorem kid_nest (t : Tr) (i : Nat) (r : Rw) (h : (tab t 0 (-1))[i]? = some r) (c : Int) (hc : c ∈ r.kids) (j : Nat) (hj : i < j) (hjc : (j : Int) < c) : (i : Int) ≤ (rw (tab t 0 (-1)) j).parent := by
  obtain ⟨u, q, hu, rfl⟩ := tab_row t 0 (-1) i r h
  obtain ⟨q2, s, hs⟩ := tab_sub t 0 (-1) i u hu
  have hb := kidx_mem _ _ _ hc
  have hlen := tabs_len u.kids (0 + i + 1) ((0 + i : Nat) : Int)
  have hlt : j - i - 1 < (tabs u.kids (0 + i + 1) ((0 + i : Nat) : Int)).length := by rw [hlen]; omega
  have hg : (tab t 0 (-1))[j]? = some ((tabs u.kids (0 + i + 1) ((0 + i : Nat) : Int))[j - i - 1]) := by
    have h1 := congrArg (fun m => m[j - i]?) hs
    simp only [List.getElem?_drop] at h1
    rw [show i + (j - i) = j by omega] at h1
    rw [h1, ← List.getElem?_eq_getElem hlt, tab_head, List.cons_append, ← List.getElem?_append_left (l₂ := s) hlt]
    have e : j - i = (j - i - 1) + 1 := by omega
    generalize j - i - 1 = m at e ⊢
    rw [e, List.getElem?_cons_succ]
  rw [rw_get hg]
  rcases pars_bound u.kids (0 + i + 1) ((0 + i : Nat) : Int) _ (List.getElem_mem hlt) with h | ⟨h, _⟩ <;> omega
/-- Kids know their parent, and what lies between lies inside. -/
def Kp (l : List Rw) : Prop := ∀ (i : Nat) r, l[i]? = some r → ∀ c ∈ r.kids, (rw l c).parent = i ∧ ∀ j : Nat, i < j → (j : Int) < c → (i : Int) ≤ (rw l j).parent
theorem kp_tbl (x : Un) : Kp (tbl x) := by
  intro i r h c hc
  unfold tbl at h ⊢
  by_cases hb : x.broken = true
  · rw [if_pos hb] at h; cases i <;> cases h
  · rw [if_neg hb] at h ⊢
    exact ⟨kid_par _ _ _ h c hc, fun j h1 h2 => kid_nest _ _ _ h c hc j h1 h2⟩

/- ### Rows around a row -/
def arF (l : List Rw) (o : Int) : Nat → Int → Bool
  | 0, _ => false
  | n + 1, p => if p < 0 then false else if p = o then true else arF l o n (rw l p).parent
theorem arF_any {l : List Rw} (h : Ok l) (o : Int) : ∀ (n m : Nat) (p : Int), p < l.length → (p + 1).toNat < n → (p + 1).toNat < m → arF l o n p = arF l o m p := by
  intro n
  induction n with
  | zero => intro m p _ h1; omega
  | succ n ih =>
    intro m p hp h1 h2
    match m, h2 with
    | m + 1, h2 =>
      rw [arF, arF]
      by_cases h0 : p < 0
      · rw [if_pos h0, if_pos h0]
      · rw [if_neg h0, if_neg h0]
        by_cases ho : p = o
        · rw [if_pos ho, if_pos ho]
        · rw [if_neg ho, if_neg ho]
          obtain ⟨_, _, _, hge, hlt⟩ := h.row (k := p) (by omega) hp
          exact ih m _ (by omega) (by omega) (by omega)
/-- Is p the row o, or is o around p? -/
def ar (l : List Rw) (o p : Int) : Bool := arF l o ((p + 1).toNat + 1) p
theorem ar_step {l : List Rw} (h : Ok l) (o p : Int) (hp : p < l.length) : ar l o p = if p < 0 then false else if p = o then true else ar l o (rw l p).parent := by
  conv => lhs; unfold ar; rw [arF]
  by_cases h0 : p < 0
  · rw [if_pos h0, if_pos h0]
  · rw [if_neg h0, if_neg h0]
    by_cases ho : p = o
    · rw [if_pos ho, if_pos ho]
    · rw [if_neg ho, if_neg ho]
      obtain ⟨_, _, _, hge, hlt⟩ := h.row (k := p) (by omega) hp
      exact arF_any h o _ _ _ (by omega) (by omega) (by omega)
/-- Is the row o properly around k? -/
def around (l : List Rw) (o k : Int) : Bool := ar l o (rw l k).parent

/- ### The visible variables -/
theorem declared_mem {l : List Rw} (h : Ok l) (hk : Kp l) {p k d : Int} (hp : 0 ≤ p) (hl : p < l.length) (hkp : (rw l k).parent = p) (hd : d ∈ declared l p k) :
    0 ≤ d ∧ d < k ∧ d < l.length ∧ ((rw l d).kind = 4 ∨ ((rw l d).kind = 10 ∧ (rw l d).parent = p)) := by
  obtain ⟨i, rfl, hi, _, _⟩ := h.row hp hl
  unfold declared at hd
  rcases List.mem_append.1 hd with hd | hd
  · by_cases h6 : (rw l i).kind = 6
    · rw [if_pos h6] at hd
      unfold blockVars at hd
      obtain ⟨h1, h2⟩ := List.mem_filter.1 hd
      have h2 := of_decide_eq_true h2
      obtain ⟨_, _, _, hc⟩ := h.2 i _ hi
      obtain ⟨h3, h4⟩ := hc d h1
      exact ⟨by omega, h2.1, h4, .inr ⟨h2.2, (hk i _ hi d h1).1⟩⟩
    · rw [if_neg h6] at hd; cases hd
  · by_cases h6 : (rw l i).kind = 2 ∧ (rw l k).kind = 6
    · rw [if_pos h6] at hd
      unfold funcVars at hd
      obtain ⟨c, hc, hd⟩ := List.mem_flatMap.1 hd
      unfold parKids at hd
      obtain ⟨h1, h2⟩ := List.mem_filter.1 hd
      have h2 := of_decide_eq_true h2
      obtain ⟨_, _, _, hcc⟩ := h.2 i _ hi
      obtain ⟨h3, h4⟩ := hcc c hc
      obtain ⟨j, rfl, hj, _, _⟩ := h.row (k := c) (by omega) h4
      obtain ⟨_, _, _, hdd⟩ := h.2 j _ hj
      obtain ⟨h5, h7⟩ := hdd d h1
      obtain ⟨h8, h9, h10⟩ := h2
      obtain ⟨g1, g2⟩ := hk j _ hj d h1
      have hdk : d < k := by
        rcases Int.lt_trichotomy d k with e | e | e
        · exact e
        · rw [e] at g1; omega
        · obtain ⟨m, rfl⟩ : ∃ m : Nat, k = m := ⟨k.toNat, by omega⟩
          have := g2 m (by omega) e
          omega
      exact ⟨by omega, hdk, h7, .inl h10⟩
    · rw [if_neg h6] at hd; cases hd
theorem visF_mem {l : List Rw} (h : Ok l) (hk : Kp l) (d : Int) : ∀ (n : Nat) (k : Int), 0 ≤ k → k < l.length → d ∈ visF l n k →
    0 ≤ d ∧ d < k ∧ d < l.length ∧ ((rw l d).kind = 4 ∨ ((rw l d).kind = 10 ∧ around l (rw l d).parent k = true)) := by
  intro n
  induction n with
  | zero => intro k _ _ hd; cases hd
  | succ n ih =>
    intro k h0 h1 hd
    rw [visF] at hd
    by_cases hp : (rw l k).parent < 0
    · rw [if_pos hp] at hd; cases hd
    · rw [if_neg hp] at hd
      obtain ⟨_, _, _, _, hlt⟩ := h.row h0 h1
      rcases List.mem_append.1 hd with hd | hd
      · obtain ⟨a1, a2, a3, a4⟩ := declared_mem h hk (by omega) (by omega) rfl hd
        refine ⟨a1, a2, a3, a4.imp_right fun a5 => ⟨a5.1, ?_⟩⟩
        unfold around
        rw [ar_step h _ _ (by omega), if_neg hp, a5.2, if_pos rfl]
      · by_cases h2 : (rw l (rw l k).parent).kind = 2
        · rw [if_pos h2] at hd; cases hd
        · rw [if_neg h2] at hd
          obtain ⟨a1, a2, a3, a4⟩ := ih _ (by omega) (by omega) hd
          refine ⟨a1, by omega, a3, a4.imp_right fun a5 => ⟨a5.1, ?_⟩⟩
          have a6 := a5.2
          unfold around at a6 ⊢
          rw [ar_step h _ _ (by omega), if_neg hp]
          by_cases ho : (rw l k).parent = (rw l d).parent
          · rw [if_pos ho]
          · rw [if_neg ho]; exact a6
/-- What a variable is to which a name refers. -/
theorem var_some {l : List Rw} (h : Ok l) (hk : Kp l) {k d : Int} {s : ByteArray} (h0 : 0 ≤ k) (h1 : k < l.length) (hv : var l k s = some d) :
    0 ≤ d ∧ d < k ∧ d < l.length ∧ (rw l d).text = s ∧ ((rw l d).kind = 4 ∨ ((rw l d).kind = 10 ∧ around l (rw l d).parent k = true)) := by
  unfold var at hv
  have h2 := of_decide_eq_true (List.find?_some (p := fun d => decide ((rw l d).text = s)) hv)
  obtain ⟨a, b, c, e⟩ := visF_mem h hk d _ k h0 h1 (List.mem_of_find?_eq_some hv)
  exact ⟨a, b, c, h2, e⟩

/- ### Declarations -/
/-- The kind of node of a kind of declaration. -/
def nodeK (k : Int) : Int := if k = 1 ∨ k = 4 then 2 else if k = 2 then 7 else if k = 3 then 9 else if k = 5 then 4 else 10
theorem decl1_some {k : Int} {s : ByteArray} {u i : Int} {fn cl : ByteArray} {m : Bool} {d : Dc} (h : decl1 k s u i fn cl m = some d) : d.name = s ∧ d.unit = u ∧ d.node = i ∧ k = nodeK d.kind := by
  unfold decl1 at h
  by_cases h2 : k = 2
  · rw [if_pos h2] at h
    cases m <;> (obtain rfl := Option.some.inj h; exact ⟨rfl, rfl, rfl, by rw [h2]; rfl⟩)
  rw [if_neg h2] at h
  by_cases h7 : k = 7
  · rw [if_pos h7] at h
    obtain rfl := Option.some.inj h; exact ⟨rfl, rfl, rfl, by rw [h7]; rfl⟩
  rw [if_neg h7] at h
  by_cases h9 : k = 9
  · rw [if_pos h9] at h
    obtain rfl := Option.some.inj h; exact ⟨rfl, rfl, rfl, by rw [h9]; rfl⟩
  rw [if_neg h9] at h
  by_cases h4 : k = 4
  · rw [if_pos h4] at h
    obtain rfl := Option.some.inj h; exact ⟨rfl, rfl, rfl, by rw [h4]; rfl⟩
  rw [if_neg h4] at h
  by_cases h10 : k = 10
  · rw [if_pos h10] at h
    obtain rfl := Option.some.inj h; exact ⟨rfl, rfl, rfl, by rw [h10]; rfl⟩
  rw [if_neg h10] at h; cases h
/-- A declaration lies at a node of its kind, with its name. -/
theorem decls_mem (us : List Un) (hz : ∀ x ∈ us, sz x.tree ≤ 1000000) (d : Dc) (h : d ∈ decls us) :
    ∃ (j : Nat) (x : Un) (i : Nat), us[j]? = some x ∧ d.unit = j ∧ d.node = i ∧ i < (tbl x).length ∧ (rw (tbl x) i).text = d.name ∧ (rw (tbl x) i).kind = nodeK d.kind := by
  unfold decls declsTo at h
  obtain ⟨j, hj, h⟩ := List.mem_flatMap.1 h
  have hj := List.mem_range.1 hj
  rw [List.getElem?_eq_getElem hj] at h
  simp only at h
  rw [declsOf_rows _ (hz _ (List.getElem_mem hj))] at h
  unfold drows at h
  obtain ⟨i, hi, h⟩ := List.mem_filterMap.1 h
  have hi := List.mem_range.1 hi
  unfold drow at h
  obtain ⟨h1, h2, h3, h4⟩ := decl1_some h
  rw [Nat.zero_add] at h1 h3 h4
  exact ⟨j, us[j], i, List.getElem?_eq_getElem hj, h2, h3, hi, h1.symm, h4⟩
theorem look_some {D : List Dc} {k : Int} {s : ByteArray} {r : Rf} (h : look D k s = some r) : ∃ d ∈ D, d.kind = k ∧ d.name = s ∧ r = (d.unit, d.node) := by
  unfold look at h
  obtain ⟨d, h1, h2⟩ := Option.map_eq_some_iff.1 h
  have h3 := of_decide_eq_true (List.find?_some (p := fun (d : Dc) => decide (d.kind = k ∧ d.name = s)) h1)
  exact ⟨d, List.mem_of_find?_eq_some h1, h3.1, h3.2, h2.symm⟩

/- ### A use that is bound -/
/-- May a node of a kind be the declaration of a use of a kind? -/
def declares (k d : Int) : Bool :=
  if k = 19 ∨ k = 11 then decide (d = 4 ∨ d = 10 ∨ d = 9) else if k = 20 then decide (d = 2) else if k = 22 ∨ k = 5 ∨ k = 8 then decide (d = 7) else false
/-- What is asked of a use: its node is one, and if it is bound, so is its declaration's, with what the document says of both. -/
def goodU (T : List (List Rw)) (x : Us) : Bool :=
  exs T x.au x.an && (!x.bound || (exs T x.du x.dn &&
    (let l := (T[x.au.toNat]?).getD []
     let m := (T[x.du.toNat]?).getD []
     decide ((rw l x.an).text = (rw m x.dn).text) && declares (rw l x.an).kind (rw m x.dn).kind &&
      (!decide ((rw m x.dn).kind = 4 ∨ (rw m x.dn).kind = 10) || (decide (x.au = x.du ∧ x.dn < x.an) && (!decide ((rw m x.dn).kind = 10) || around l (rw m x.dn).parent x.an))))))
theorem exs_of {T : List (List Rw)} {j i : Nat} {l : List Rw} (h : T[j]? = some l) (hi : i < l.length) : exs T j i = true := by
  unfold exs
  have hj := (List.getElem?_eq_some_iff.1 h).1
  rw [Int.toNat_natCast, h]
  exact decide_eq_true ⟨by omega, by omega, by omega, by simpa using hi⟩
theorem space_kinds (k : Int) (s : ByteArray) : (space k s = 6 → k = 19 ∨ k = 11) ∧ (space k s = 1 → k = 20) ∧ (space k s = 2 → k = 22 ∨ k = 5 ∨ k = 8) ∧ (space k s = 0 ∨ space k s = 1 ∨ space k s = 2 ∨ space k s = 6) := by
  unfold space
  by_cases h1 : k = 19 ∨ k = 11
  · rw [if_pos h1]; exact ⟨fun _ => h1, (fun h => absurd h (by decide)), (fun h => absurd h (by decide)), by decide⟩
  rw [if_neg h1]
  by_cases h2 : k = 20
  · rw [if_pos h2]; exact ⟨(fun h => absurd h (by decide)), fun _ => h2, (fun h => absurd h (by decide)), by decide⟩
  rw [if_neg h2]
  by_cases h3 : k = 22
  · rw [if_pos h3]; exact ⟨(fun h => absurd h (by decide)), (fun h => absurd h (by decide)), fun _ => .inl h3, by decide⟩
  rw [if_neg h3]
  by_cases h5 : k = 5
  · rw [if_pos h5]
    by_cases hs : s = sInt ∨ s = sBool
    · rw [if_pos hs]; exact ⟨(fun h => absurd h (by decide)), (fun h => absurd h (by decide)), (fun h => absurd h (by decide)), by decide⟩
    · rw [if_neg hs]; exact ⟨(fun h => absurd h (by decide)), (fun h => absurd h (by decide)), fun _ => .inr (.inl h5), by decide⟩
  rw [if_neg h5]
  by_cases h8 : k = 8
  · rw [if_pos h8]
    by_cases hs : s = sNo
    · rw [if_pos hs]; exact ⟨(fun h => absurd h (by decide)), (fun h => absurd h (by decide)), (fun h => absurd h (by decide)), by decide⟩
    · rw [if_neg hs]; exact ⟨(fun h => absurd h (by decide)), (fun h => absurd h (by decide)), fun _ => .inr (.inr h8), by decide⟩
  rw [if_neg h8]; exact ⟨(fun h => absurd h (by decide)), (fun h => absurd h (by decide)), (fun h => absurd h (by decide)), by decide⟩
theorem tbls_get (us : List Un) (j : Nat) (x : Un) (h : us[j]? = some x) : (tbls us)[j]? = some (tbl x) := by
  unfold tbls
  rw [List.getElem?_map, h]; rfl
/-- A declaration that is looked up fits. -/
theorem look_good (us : List Un) (hz : ∀ x ∈ us, sz x.tree ≤ 1000000) {k : Int} {s : ByteArray} {r : Rf} (h : look (decls us) k s = some r) :
    ∃ (j : Nat) (i : Nat) (x : Un), us[j]? = some x ∧ r = ((j : Int), (i : Int)) ∧ i < (tbl x).length ∧ (rw (tbl x) i).text = s ∧ (rw (tbl x) i).kind = nodeK k := by
  obtain ⟨d, hd, h1, h2, h3⟩ := look_some h
  obtain ⟨j, x, i, a1, a2, a3, a4, a5, a6⟩ := decls_mem us hz d hd
  exact ⟨j, i, x, a1, by rw [h3, a2, a3], a4, by rw [a5, h2], by rw [a6, h1]⟩
theorem use_good (us : List Un) (hz : ∀ x ∈ us, sz x.tree ≤ 1000000) (j : Nat) (x : Un) (hx : us[j]? = some x) (i : Nat) (hi : i < (tbl x).length) (y : Us) (hy : use1 (decls us) (tbl x) j i = some y) : goodU (tbls us) y = true := by
  have hok : Ok (tbl x) := ok_tbl x (hz x (List.mem_of_getElem? hx))
  have hkp := kp_tbl x
  have ht := tbls_get us j x hx
  unfold use1 at hy
  by_cases h0 : spc (rw (tbl x) i) = 0
  · rw [if_pos h0] at hy; cases hy
  rw [if_neg h0] at hy
  obtain rfl := Option.some.inj hy
  obtain ⟨k6, k1, k2, kk⟩ := space_kinds (rw (tbl x) i).kind (rw (tbl x) i).text
  have glook : ∀ (k : Int) (r : Rf), look (decls us) k (rw (tbl x) i).text = some r → nodeK k ≠ 4 → nodeK k ≠ 10 → declares (rw (tbl x) i).kind (nodeK k) = true → goodU (tbls us) (mkUse j i (some r)) = true := by
    intro k r hr n4 n10 hde
    obtain ⟨j2, i2, x2, a1, rfl, a3, a4, a5⟩ := look_good us hz hr
    have ht2 := tbls_get us j2 x2 a1
    unfold goodU mkUse
    simp only [exs_of ht hi, exs_of ht2 a3, Int.toNat_natCast, ht, ht2, Option.getD_some, a4, a5, hde, n4, n10, decide_true, decide_false, or_self, Bool.not_false, Bool.not_true, Bool.and_self, Bool.true_or, Bool.or_true]
  unfold found
  rw [if_neg h0]
  by_cases h6 : spc (rw (tbl x) i) = 6
  · rw [if_pos h6]
    have hk := k6 h6
    cases hv : var (tbl x) i (rw (tbl x) i).text with
    | some d =>
      obtain ⟨b1, b2, b3, b4, b5⟩ := var_some hok hkp (by omega) (by omega) hv
      obtain ⟨i2, rfl⟩ : ∃ i2 : Nat, d = i2 := ⟨d.toNat, by omega⟩
      have hde : declares (rw (tbl x) i).kind (rw (tbl x) i2).kind = true := by
        unfold declares
        rw [if_pos hk]
        exact decide_eq_true (by rcases b5 with h | h <;> omega)
      have hex := exs_of ht (i := i2) (by omega)
      unfold goodU mkUse
      simp only [exs_of ht hi, hex, Int.toNat_natCast, ht, Option.getD_some, b4, hde, decide_true, Bool.and_self, Bool.true_and, Bool.not_true, Bool.false_or, b2, and_self]
      rcases b5 with h | h
      · simp [h]
      · simp [h.1, h.2]
    | none =>
      simp only
      cases hl : look (decls us) 3 (rw (tbl x) i).text with
      | some r =>
        refine glook 3 r hl (by decide) (by decide) ?_
        unfold declares
        rw [if_pos hk]; rfl
      | none =>
        unfold goodU mkUse
        simp [exs_of ht hi]
  · rw [if_neg h6]
    cases hl : look (decls us) (spc (rw (tbl x) i)) (rw (tbl x) i).text with
    | some r =>
      unfold spc at hl h0 h6
      rcases kk with h | h | h | h
      · exact absurd h h0
      · rw [h] at hl
        refine glook 1 r hl (by decide) (by decide) ?_
        rw [k1 h]; decide
      · rw [h] at hl
        refine glook 2 r hl (by decide) (by decide) ?_
        rcases k2 h with e | e | e <;> rw [e] <;> decide
      · exact absurd h h6
    | none =>
      unfold goodU mkUse
      simp [exs_of ht hi]
/-- Every use is a good one. -/
theorem uses_good (us : List Un) (hz : ∀ x ∈ us, sz x.tree ≤ 1000000) : ∀ y ∈ uses us, goodU (tbls us) y = true := by
  intro y hy
  unfold uses usesUp at hy
  obtain ⟨j, hj, hy⟩ := List.mem_flatMap.1 hy
  have hj := List.mem_range.1 hj
  rw [tbls_get us j us[j] (List.getElem?_eq_getElem hj)] at hy
  simp only at hy
  unfold usesTo at hy
  obtain ⟨i, hi, hy⟩ := List.mem_filterMap.1 hy
  exact use_good us hz j us[j] (List.getElem?_eq_getElem hj) i (List.mem_range.1 hi) y hy
end Go.Proofs.Ytoelfiendfemaaa.Pl
