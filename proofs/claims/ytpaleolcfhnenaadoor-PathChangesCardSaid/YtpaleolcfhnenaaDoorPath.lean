/- Paths in trees, as plain data. -/
import Derived.Test.YtpaleolcfhnenaaDoorTab
namespace Go.Proofs.YtpaleolcfhnenaaDoor.Pl
open Go
set_option linter.unusedVariables false
set_option linter.unusedSimpArgs false

/-- The kid with an index. -/
def kidA (t : Tr) (i : Int) : Option Tr := if i < 0 then none else t.kids[i.toNat]?
/-- The node at a path. -/
def getP : List Int → Tr → Option Tr
  | [], t => some t
  | i :: p, t => (kidA t i).bind (getP p)
/-- The index in preorder of the node at a path. -/
def idxP : List Int → Tr → Option Nat
  | [], _ => some 0
  | i :: p, t => (kidA t i).bind fun u => (idxP p u).map fun x => x + 1 + szs (t.kids.take i.toNat)
theorem kidA_some {t u : Tr} {i : Int} (h : kidA t i = some u) : ∃ k : Nat, i = k ∧ k < t.kids.length ∧ t.kids[k]? = some u := by
  unfold kidA at h
  split at h
  · cases h
  · exact ⟨i.toNat, by omega, (List.getElem?_eq_some_iff.1 h).1, h⟩
theorem kidA_nat (t : Tr) (k : Nat) : kidA t (k : Int) = t.kids[k]? := by
  unfold kidA; rw [if_neg (by omega), Int.toNat_natCast]
theorem kidA_none {t : Tr} {i : Int} (h : i < 0 ∨ (t.kids.length : Int) ≤ i) : kidA t i = none := by
  unfold kidA
  split
  · rfl
  · exact List.getElem?_eq_none (by omega)
theorem kidA_in {t : Tr} {i : Int} (h0 : 0 ≤ i) (h1 : i < t.kids.length) : ∃ u, kidA t i = some u ∧ t.kids[i.toNat]? = some u := by
  have h : i.toNat < t.kids.length := by omega
  refine ⟨t.kids[i.toNat], ?_, List.getElem?_eq_getElem h⟩
  unfold kidA
  rw [if_neg (by omega), List.getElem?_eq_getElem h]
theorem getP_cons (i : Int) (p : List Int) (t u : Tr) (h : kidA t i = some u) : getP (i :: p) t = getP p u := by rw [getP, h]; rfl
theorem getP_stop (i : Int) (p : List Int) (t : Tr) (h : kidA t i = none) : getP (i :: p) t = none := by rw [getP, h]; rfl
theorem idxP_cons (i : Int) (p : List Int) (t u : Tr) (h : kidA t i = some u) : idxP (i :: p) t = (idxP p u).map fun x => x + 1 + szs (t.kids.take i.toNat) := by rw [idxP, h]; rfl
theorem idxP_stop (i : Int) (p : List Int) (t : Tr) (h : kidA t i = none) : idxP (i :: p) t = none := by rw [idxP, h]; rfl
theorem getP_append (p q : List Int) (t : Tr) : getP (p ++ q) t = (getP p t).bind (getP q) := by
  induction p generalizing t with
  | nil => rfl
  | cons i p ih =>
    rw [List.cons_append, getP, getP]
    cases kidA t i with
    | none => rfl
    | some u => exact ih u
theorem get_idx (p : List Int) (t : Tr) : (getP p t).isSome = (idxP p t).isSome := by
  induction p generalizing t with
  | nil => rfl
  | cons i p ih =>
    rw [getP, idxP]
    cases kidA t i with
    | none => rfl
    | some u =>
      show (getP p u).isSome = ((idxP p u).map _).isSome
      rw [ih u, Option.isSome_map]
/-- A node's own nodes lie among those of the tree. -/
theorem idx_get {p : List Int} {t u : Tr} {x : Nat} (h : getP p t = some u) (hx : idxP p t = some x) : x + sz u ≤ sz t ∧ (pre t)[x]? = some u := by
  induction p generalizing t x with
  | nil =>
    rw [getP, Option.some.injEq] at h
    rw [idxP, Option.some.injEq] at hx
    subst h; subst hx
    exact ⟨by omega, pre_root t⟩
  | cons i p ih =>
    cases hk : kidA t i with
    | none => rw [getP_stop i p t hk] at h; cases h
    | some v =>
      rw [getP_cons i p t v hk] at h
      rw [idxP_cons i p t v hk, Option.map_eq_some_iff] at hx
      obtain ⟨y, hy, rfl⟩ := hx
      obtain ⟨h1, h2⟩ := ih h hy
      obtain ⟨k, rfl, hl, hv⟩ := kidA_some hk
      rw [Int.toNat_natCast]
      have e : t.kids[k] = v := (List.getElem?_eq_some_iff.1 hv).2
      have hs := szs_step t.kids k hl
      rw [e] at hs
      have hz : sz t = szs t.kids + 1 := by cases t; rfl
      have hp := sz_pos u
      refine ⟨by omega, ?_⟩
      rw [show y + 1 + szs (t.kids.take k) = (szs (t.kids.take k) + y) + 1 from by omega, pre_succ, pres_kid t.kids k hl y (by rw [e]; omega), e]
      exact h2
theorem idx_lt {p : List Int} {t : Tr} {x : Nat} (hx : idxP p t = some x) : x < sz t := by
  have h := get_idx p t
  rw [hx] at h
  obtain ⟨u, hu⟩ := Option.isSome_iff_exists.1 h
  have := (idx_get hu hx).1
  have := sz_pos u
  omega
/-- Every node has a path. -/
theorem has_path (t : Tr) : ∀ x, x < sz t → ∃ p, idxP p t = some x := by
  refine Tr.ind (M := fun t => ∀ x, x < sz t → ∃ p, idxP p t = some x) (fun k s g ks ih x hx => ?_) t
  match x, hx with
  | 0, _ => exact ⟨[], rfl⟩
  | x + 1, hx =>
    rw [sz] at hx
    have go : ∀ l : List Tr, ∀ x, x < szs l → ∃ (j : Nat) (u : Tr), l[j]? = some u ∧ szs (l.take j) ≤ x ∧ x < szs (l.take j) + sz u := by
      intro l
      induction l with
      | nil => intro x h; simp [szs] at h
      | cons a l ihl =>
        intro x h
        rw [szs] at h
        by_cases hx : x < sz a
        · exact ⟨0, a, rfl, by simp [szs], by simp [szs]; exact hx⟩
        · obtain ⟨j, u, h1, h2, h3⟩ := ihl (x - sz a) (by omega)
          refine ⟨j + 1, u, by simpa using h1, ?_, ?_⟩
          · rw [List.take_succ_cons, szs]; omega
          · rw [List.take_succ_cons, szs]; omega
    obtain ⟨j, u, h1, h2, h3⟩ := go ks x (by omega)
    obtain ⟨p, hp⟩ := ih u (List.mem_of_getElem? h1) (x - szs (ks.take j)) (by omega)
    refine ⟨(j : Int) :: p, ?_⟩
    rw [idxP_cons _ _ _ u (by rw [kidA_nat]; exact h1), hp, Int.toNat_natCast]
    show some (x - szs (ks.take j) + 1 + szs (ks.take j)) = _
    congr 1; omega
/-- A path is no longer than its index. -/
theorem path_len {p : List Int} {t : Tr} {x : Nat} (hx : idxP p t = some x) : p.length ≤ x := by
  induction p generalizing t x with
  | nil => exact Nat.zero_le _
  | cons i p ih =>
    cases hk : kidA t i with
    | none => rw [idxP_stop i p t hk] at hx; cases hx
    | some v =>
      rw [idxP_cons i p t v hk, Option.map_eq_some_iff] at hx
      obtain ⟨y, hy, rfl⟩ := hx
      have := ih hy
      rw [List.length_cons]; omega
theorem get_of_idx {p : List Int} {t : Tr} {x : Nat} (hx : idxP p t = some x) : ∃ u, getP p t = some u := by
  have h := get_idx p t
  rw [hx] at h
  exact Option.isSome_iff_exists.1 h
theorem szs_mono {ks : List Tr} {c d : Nat} (h : c < d) (hd : d ≤ ks.length) : szs (ks.take c) < szs (ks.take d) := by
  have h1 := szs_take ks c (by omega)
  have h2 := szs_take_le (ks.take d) (c + 1)
  rw [List.take_take, Nat.min_eq_left (by omega)] at h2
  have := sz_pos (ks[c]'(by omega))
  omega
/-- A node has one path. -/
theorem idx_inj {p q : List Int} {t : Tr} {x : Nat} (hp : idxP p t = some x) (hq : idxP q t = some x) : p = q := by
  induction p generalizing q t x with
  | nil =>
    rw [idxP, Option.some.injEq] at hp
    subst hp
    cases q with
    | nil => rfl
    | cons j q =>
      cases hk : kidA t j with
      | none => rw [idxP_stop j q t hk] at hq; cases hq
      | some v =>
        rw [idxP_cons j q t v hk, Option.map_eq_some_iff] at hq
        obtain ⟨y, _, hy⟩ := hq
        omega
  | cons i p ih =>
    cases hk : kidA t i with
    | none => rw [idxP_stop i p t hk] at hp; cases hp
    | some u =>
      rw [idxP_cons i p t u hk, Option.map_eq_some_iff] at hp
      obtain ⟨y, hy, e⟩ := hp
      cases q with
      | nil => rw [idxP, Option.some.injEq] at hq; omega
      | cons j q =>
        cases hk2 : kidA t j with
        | none => rw [idxP_stop j q t hk2] at hq; cases hq
        | some v =>
          rw [idxP_cons j q t v hk2, Option.map_eq_some_iff] at hq
          obtain ⟨z, hz, e2⟩ := hq
          obtain ⟨a, rfl, ha, hu⟩ := kidA_some hk
          obtain ⟨b, rfl, hb, hv⟩ := kidA_some hk2
          rw [Int.toNat_natCast] at e e2
          have hy1 := idx_lt hy
          have hz1 := idx_lt hz
          have ua : t.kids[a] = u := (List.getElem?_eq_some_iff.1 hu).2
          have vb : t.kids[b] = v := (List.getElem?_eq_some_iff.1 hv).2
          have ta := szs_take t.kids a ha
          have tb := szs_take t.kids b hb
          rw [ua] at ta
          rw [vb] at tb
          have mono : ∀ c d : Nat, c ≤ d → szs (t.kids.take c) ≤ szs (t.kids.take d) := by
            intro c d hcd
            have := szs_take_le (t.kids.take d) c
            rwa [List.take_take, Nat.min_eq_left hcd] at this
          have hab : a = b := by
            rcases Nat.lt_trichotomy a b with h | h | h
            · have := mono (a + 1) b h; omega
            · exact h
            · have := mono (b + 1) a h; omega
          subst hab
          obtain rfl : u = v := Option.some.inj (hu.symm.trans hv)
          have hyz : y = z := by omega
          subst hyz
          rw [ih hy hz]

/- ### Paths and tables -/
theorem tabs_kid (ks : List Tr) (k : Nat) (h : k < ks.length) (b x : Nat) (p : Int) (hx : x < sz ks[k]) : (tabs ks b p)[szs (ks.take k) + x]? = (tab ks[k] (b + szs (ks.take k)) p)[x]? := by
  have e : ks = ks.take k ++ ks[k] :: ks.drop (k + 1) := by rw [List.getElem_cons_drop, List.take_append_drop]
  have e2 : tabs ks b p = tabs (ks.take k) b p ++ (tab ks[k] (b + szs (ks.take k)) p ++ tabs (ks.drop (k + 1)) (b + szs (ks.take k) + sz ks[k]) p) := by
    conv => lhs; rw [e]
    rw [tabs_append, tabs]
  rw [e2, List.getElem?_append_right (by rw [tabs_len]; omega), tabs_len, Nat.add_sub_cancel_left, List.getElem?_append_left (by rw [tab_len]; exact hx)]
/-- The row of the node at a path: its kids' indices, and that of its parent. -/
theorem row_path {p : List Int} {t u : Tr} {x : Nat} (h : getP p t = some u) (hx : idxP p t = some x) (a : Nat) (par : Int) :
    ∃ q, (tab t a par)[x]? = some (rowOf q u (a + x)) ∧ (p = [] ∧ q = par ∨ ∃ (p' : List Int) (k y : Nat), p = p' ++ [(k : Int)] ∧ idxP p' t = some y ∧ q = ((a + y : Nat) : Int)) := by
  induction p generalizing t x a par with
  | nil =>
    rw [getP, Option.some.injEq] at h
    rw [idxP, Option.some.injEq] at hx
    subst h; subst hx
    exact ⟨par, by rw [tab_head]; rfl, .inl ⟨rfl, rfl⟩⟩
  | cons i p ih =>
    cases hk : kidA t i with
    | none => rw [getP_stop i p t hk] at h; cases h
    | some v =>
      rw [getP_cons i p t v hk] at h
      rw [idxP_cons i p t v hk, Option.map_eq_some_iff] at hx
      obtain ⟨y, hy, rfl⟩ := hx
      obtain ⟨k, rfl, hl, hv⟩ := kidA_some hk
      rw [Int.toNat_natCast]
      have e : t.kids[k] = v := (List.getElem?_eq_some_iff.1 hv).2
      obtain ⟨q, h1, h2⟩ := ih h hy (a + 1 + szs (t.kids.take k)) a
      refine ⟨q, ?_, .inr ?_⟩
      · rw [show y + 1 + szs (t.kids.take k) = (szs (t.kids.take k) + y) + 1 from by omega, tab_head, List.getElem?_cons_succ, tabs_kid t.kids k hl (a + 1) y a (by rw [e]; exact idx_lt hy), e, h1]
        rw [show a + 1 + szs (t.kids.take k) + y = a + (szs (t.kids.take k) + y + 1) from by omega]
      · rcases h2 with ⟨rfl, rfl⟩ | ⟨p', j, z, rfl, hz, rfl⟩
        · exact ⟨[], k, 0, rfl, rfl, by simp⟩
        · refine ⟨(k : Int) :: p', j, z + 1 + szs (t.kids.take k), rfl, ?_, ?_⟩
          · rw [idxP_cons _ _ _ v hk, hz, Int.toNat_natCast]; rfl
          · congr 1; omega
/-- The index of a path with one step more. -/
theorem idx_snoc {p : List Int} {t u v : Tr} {x k : Nat} (h : getP p t = some u) (hx : idxP p t = some x) (hk : u.kids[k]? = some v) : idxP (p ++ [(k : Int)]) t = some (x + 1 + szs (u.kids.take k)) ∧ getP (p ++ [(k : Int)]) t = some v := by
  induction p generalizing t x with
  | nil =>
    rw [getP, Option.some.injEq] at h
    rw [idxP, Option.some.injEq] at hx
    subst h; subst hx
    have hk2 : kidA t (k : Int) = some v := by rw [kidA_nat]; exact hk
    refine ⟨?_, ?_⟩
    · rw [List.nil_append, idxP_cons _ _ _ v hk2, Int.toNat_natCast]; rfl
    · rw [List.nil_append, getP_cons _ _ _ v hk2]; rfl
  | cons i p ih =>
    cases hi : kidA t i with
    | none => rw [getP_stop i p t hi] at h; cases h
    | some w =>
      rw [getP_cons i p t w hi] at h
      rw [idxP_cons i p t w hi, Option.map_eq_some_iff] at hx
      obtain ⟨y, hy, rfl⟩ := hx
      obtain ⟨h1, h2⟩ := ih h hy
      refine ⟨?_, ?_⟩
      · rw [List.cons_append, idxP_cons _ _ _ w hi, h1]
        show some (y + 1 + szs (u.kids.take k) + 1 + szs (t.kids.take i.toNat)) = _
        congr 1; omega
      · rw [List.cons_append, getP_cons _ _ _ w hi]; exact h2
theorem snoc_none {p : List Int} {t u : Tr} {i : Int} (h : getP p t = some u) (hk : kidA u i = none) : getP (p ++ [i]) t = none := by
  rw [getP_append, h]
  exact getP_stop i [] u hk
/-- A path that ends: the node above, and the kid. -/
theorem get_snoc {p : List Int} {t v : Tr} {i : Int} (h : getP (p ++ [i]) t = some v) : ∃ u, getP p t = some u ∧ kidA u i = some v := by
  rw [getP_append] at h
  cases hu : getP p t with
  | none => rw [hu] at h; cases h
  | some u =>
    refine ⟨u, rfl, ?_⟩
    rw [hu] at h
    have h2 : getP [i] u = some v := h
    cases hk : kidA u i with
    | none => rw [getP_stop i [] u hk] at h2; cases h2
    | some w => rw [getP_cons i [] u w hk, getP] at h2; exact h2
end Go.Proofs.YtpaleolcfhnenaaDoor.Pl
