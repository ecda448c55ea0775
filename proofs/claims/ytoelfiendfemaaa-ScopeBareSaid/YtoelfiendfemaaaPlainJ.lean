/- Trees, their nodes in preorder and their tables, as plain lists. -/
namespace Go.Proofs.Ytoelfiendfemaaa.Pl
set_option linter.unusedVariables false
set_option linter.unusedSimpArgs false

inductive Tr where
  | node (kind : Int) (text : ByteArray) (gaps : List ByteArray) (kids : List Tr)
def Tr.kind : Tr → Int | .node k _ _ _ => k
def Tr.text : Tr → ByteArray | .node _ s _ _ => s
def Tr.gaps : Tr → List ByteArray | .node _ _ g _ => g
def Tr.kids : Tr → List Tr | .node _ _ _ ks => ks
theorem Tr.eta (t : Tr) : t = .node t.kind t.text t.gaps t.kids := by cases t; rfl
theorem Tr.ind {M : Tr → Prop} (h : ∀ k s g ks, (∀ t ∈ ks, M t) → M (.node k s g ks)) : ∀ t, M t
  | .node k s g ks => h k s g ks fun t ht => Tr.ind h t
termination_by t => sizeOf t
decreasing_by
  have := List.sizeOf_lt_of_mem ht
  simp only [Tr.node.sizeOf_spec]
  omega

mutual
def sz : Tr → Nat
  | .node _ _ _ ks => szs ks + 1
def szs : List Tr → Nat
  | [] => 0
  | t :: ts => sz t + szs ts
end
mutual
def ht : Tr → Nat
  | .node _ _ _ ks => hts ks + 1
def hts : List Tr → Nat
  | [] => 0
  | t :: ts => max (ht t) (hts ts)
end
mutual
def pre : Tr → List Tr
  | .node k s g ks => .node k s g ks :: pres ks
def pres : List Tr → List Tr
  | [] => []
  | t :: ts => pre t ++ pres ts
end
mutual
def bare : Tr → Tr
  | .node k s _ ks => .node k s [] (bares ks)
def bares : List Tr → List Tr
  | [] => []
  | t :: ts => bare t :: bares ts
end
theorem sz_pos (t : Tr) : 0 < sz t := by cases t; unfold sz; omega
theorem szs_append (a b : List Tr) : szs (a ++ b) = szs a + szs b := by
  induction a with
  | nil => simp [szs]
  | cons t ts ih => rw [List.cons_append, szs, szs, ih]; omega
theorem szs_take (ks : List Tr) (k : Nat) (h : k < ks.length) : szs (ks.take (k + 1)) = szs (ks.take k) + sz ks[k] := by
  rw [List.take_succ_eq_append_getElem h, szs_append]; simp [szs]
theorem szs_take_le (ks : List Tr) (k : Nat) : szs (ks.take k) ≤ szs ks := by
  have := szs_append (ks.take k) (ks.drop k)
  rw [List.take_append_drop] at this; omega
theorem szs_step (ks : List Tr) (k : Nat) (h : k < ks.length) : szs (ks.take k) + sz ks[k] ≤ szs ks := by
  rw [← szs_take ks k h]; exact szs_take_le _ _
theorem sz_mem {ks : List Tr} {t : Tr} (h : t ∈ ks) : sz t ≤ szs ks := by
  induction ks with
  | nil => cases h
  | cons a ks ih =>
    rw [szs]
    rcases List.mem_cons.1 h with rfl | h
    · omega
    · have := ih h; omega
theorem len_szs (ks : List Tr) : ks.length ≤ szs ks := by
  induction ks with
  | nil => exact Nat.le_refl _
  | cons t ks ih => rw [szs, List.length_cons]; have := sz_pos t; omega
theorem hts_append (a b : List Tr) : hts (a ++ b) = max (hts a) (hts b) := by
  induction a with
  | nil => simp [hts]
  | cons t ts ih => rw [List.cons_append, hts, hts, ih]; omega
theorem hts_take (ks : List Tr) (k : Nat) (h : k < ks.length) : hts (ks.take (k + 1)) = max (hts (ks.take k)) (ht ks[k]) := by
  rw [List.take_succ_eq_append_getElem h, hts_append]; simp [hts]
theorem hts_le (ks : List Tr) (h : ∀ t ∈ ks, ht t ≤ sz t) : hts ks ≤ szs ks := by
  induction ks with
  | nil => exact Nat.le_refl _
  | cons t ks ih =>
    rw [hts, szs]
    have h1 := h t (by simp)
    have h2 := ih (fun u hu => h u (by simp [hu]))
    omega
theorem ht_sz (t : Tr) : ht t ≤ sz t := by
  refine Tr.ind (M := fun t => ht t ≤ sz t) (fun k s g ks ih => ?_) t
  rw [ht, sz]
  have := hts_le ks ih
  omega
theorem bares_map (ks : List Tr) : bares ks = ks.map bare := by
  induction ks with
  | nil => rfl
  | cons t ks ih => rw [bares, ih]; rfl
theorem bare_szs (ks : List Tr) (h : ∀ t ∈ ks, sz (bare t) = sz t) : szs (bares ks) = szs ks := by
  induction ks with
  | nil => rfl
  | cons t ks ih => rw [bares, szs, szs, h t (by simp), ih (fun u hu => h u (by simp [hu]))]
theorem bare_sz (t : Tr) : sz (bare t) = sz t := by
  refine Tr.ind (M := fun t => sz (bare t) = sz t) (fun k s g ks ih => ?_) t
  rw [bare, sz, sz, bare_szs ks ih]
theorem bare_hts (ks : List Tr) (h : ∀ t ∈ ks, ht (bare t) = ht t) : hts (bares ks) = hts ks := by
  induction ks with
  | nil => rfl
  | cons t ks ih => rw [bares, hts, hts, h t (by simp), ih (fun u hu => h u (by simp [hu]))]
theorem bare_ht (t : Tr) : ht (bare t) = ht t := by
  refine Tr.ind (M := fun t => ht (bare t) = ht t) (fun k s g ks ih => ?_) t
  rw [bare, ht, ht, bare_hts ks ih]

/- ### Preorder -/
theorem pres_append (a b : List Tr) : pres (a ++ b) = pres a ++ pres b := by
  induction a with
  | nil => rfl
  | cons t ts ih => rw [List.cons_append, pres, pres, ih, List.append_assoc]
theorem pres_len (ks : List Tr) (h : ∀ t ∈ ks, (pre t).length = sz t) : (pres ks).length = szs ks := by
  induction ks with
  | nil => rfl
  | cons t ks ih => rw [pres, szs, List.length_append, h t (by simp), ih (fun u hu => h u (by simp [hu]))]
theorem pre_len (t : Tr) : (pre t).length = sz t := by
  refine Tr.ind (M := fun t => (pre t).length = sz t) (fun k s g ks ih => ?_) t
  rw [pre, sz, List.length_cons, pres_len ks ih]
theorem pres_len' (ks : List Tr) : (pres ks).length = szs ks := pres_len ks fun t _ => pre_len t
theorem pre_root (t : Tr) : (pre t)[0]? = some t := by cases t; rfl
/-- What follows the root. -/
theorem pre_succ (t : Tr) (i : Nat) : (pre t)[i + 1]? = (pres t.kids)[i]? := by cases t; rfl
/-- The trees of a kid, from the kid's index on. -/
theorem pres_kid (ks : List Tr) (k : Nat) (h : k < ks.length) (i : Nat) (hi : i < sz ks[k]) : (pres ks)[szs (ks.take k) + i]? = (pre ks[k])[i]? := by
  have e : ks = ks.take k ++ ks[k] :: ks.drop (k + 1) := by rw [List.getElem_cons_drop, List.take_append_drop]
  have e2 : pres ks = pres (ks.take k) ++ (pre ks[k] ++ pres (ks.drop (k + 1))) := by
    conv => lhs; rw [e]
    rw [pres_append, pres]
  rw [e2, List.getElem?_append_right (by rw [pres_len']; omega), pres_len', Nat.add_sub_cancel_left, List.getElem?_append_left (by rw [pre_len]; exact hi)]
theorem mem_pres {ks : List Tr} {t u : Tr} (h : t ∈ ks) (hu : u ∈ pre t) : u ∈ pres ks := by
  induction ks with
  | nil => cases h
  | cons a ks ih =>
    rw [pres]
    rcases List.mem_cons.1 h with rfl | h
    · exact List.mem_append_left _ hu
    · exact List.mem_append_right _ (ih h)
theorem pres_mem {ks : List Tr} {u : Tr} (h : u ∈ pres ks) : ∃ t ∈ ks, u ∈ pre t := by
  induction ks with
  | nil => cases h
  | cons a ks ih =>
    rw [pres] at h
    rcases List.mem_append.1 h with h | h
    · exact ⟨a, by simp, h⟩
    · obtain ⟨t, ht, hu⟩ := ih h
      exact ⟨t, by simp [ht], hu⟩
/-- A node's own nodes lie among the tree's, from the node's index on. -/
theorem pre_sub (t : Tr) : ∀ (i : Nat) u, (pre t)[i]? = some u → i + sz u ≤ sz t ∧ ∀ j, j < sz u → (pre t)[i + j]? = (pre u)[j]? := by
  refine Tr.ind (M := fun t => ∀ (i : Nat) u, (pre t)[i]? = some u → i + sz u ≤ sz t ∧ ∀ j, j < sz u → (pre t)[i + j]? = (pre u)[j]?) (fun k s g ks ih => ?_) t
  intro i u hu
  match i, hu with
  | 0, hu =>
    rw [pre_root] at hu
    obtain rfl := Option.some.inj hu
    exact ⟨by omega, fun j _ => by rw [Nat.zero_add]⟩
  | i + 1, hu =>
    rw [pre_succ] at hu
    have go : ∀ (l : List Tr), (∀ t ∈ l, ∀ (i : Nat) u, (pre t)[i]? = some u → i + sz u ≤ sz t ∧ ∀ j, j < sz u → (pre t)[i + j]? = (pre u)[j]?) → ∀ i, (pres l)[i]? = some u → i + sz u ≤ szs l ∧ ∀ j, j < sz u → (pres l)[i + j]? = (pre u)[j]? := by
      intro l
      induction l with
      | nil => intro _ i h; cases i <;> cases h
      | cons a l ihl =>
        intro hall i h
        rw [pres] at h
        by_cases hi : i < sz a
        · rw [List.getElem?_append_left (by rw [pre_len]; exact hi)] at h
          obtain ⟨h1, h2⟩ := hall a (by simp) i u h
          refine ⟨by rw [szs]; omega, fun j hj => ?_⟩
          rw [pres, List.getElem?_append_left (by rw [pre_len]; omega)]
          exact h2 j hj
        · rw [List.getElem?_append_right (by rw [pre_len]; omega), pre_len] at h
          obtain ⟨h1, h2⟩ := ihl (fun t ht => hall t (by simp [ht])) (i - sz a) h
          refine ⟨by rw [szs]; omega, fun j hj => ?_⟩
          rw [pres, List.getElem?_append_right (by rw [pre_len]; omega), pre_len, ← h2 j hj]
          congr 1; omega
    obtain ⟨h1, h2⟩ := go ks ih i hu
    refine ⟨by rw [sz]; omega, fun j hj => ?_⟩
    have e : i + 1 + j = (i + j) + 1 := by omega
    rw [e, pre_succ]
    exact h2 j hj
/-- A kid's index. -/
theorem pre_kid (t : Tr) (i : Nat) (u : Tr) (h : (pre t)[i]? = some u) (k : Nat) (hk : k < u.kids.length) : (pre t)[i + 1 + szs (u.kids.take k)]? = some u.kids[k] := by
  obtain ⟨h1, h2⟩ := pre_sub t i u h
  cases u with
  | node a b c ks =>
    simp only [Tr.kids] at *
    have hs := szs_step ks k hk
    have hp := sz_pos ks[k]
    rw [sz] at h1 h2
    have e : i + 1 + szs (ks.take k) = i + (szs (ks.take k) + 1) := by omega
    rw [e, h2 _ (by omega), pre_succ]
    have := pres_kid ks k hk 0 hp
    rw [Nat.add_zero, pre_root] at this
    exact this

/- ### Tables -/
structure Rw where
  parent : Int
  kind : Int
  text : ByteArray
  gaps : List ByteArray
  kids : List Int
/-- The indices of kids, the first of which is a. -/
def kidx : List Tr → Nat → List Int
  | [], _ => []
  | t :: ts, a => (a : Int) :: kidx ts (a + sz t)
mutual
def tab : Tr → Nat → Int → List Rw
  | .node k s g ks, a, p => ⟨p, k, s, g, kidx ks (a + 1)⟩ :: tabs ks (a + 1) a
def tabs : List Tr → Nat → Int → List Rw
  | [], _, _ => []
  | t :: ts, a, p => tab t a p ++ tabs ts (a + sz t) p
end
theorem kidx_len (ks : List Tr) (a : Nat) : (kidx ks a).length = ks.length := by
  induction ks generalizing a with
  | nil => rfl
  | cons t ks ih => rw [kidx, List.length_cons, ih, List.length_cons]
theorem kidx_get (ks : List Tr) (a k : Nat) (h : k < ks.length) : (kidx ks a)[k]? = some ((a + szs (ks.take k) : Nat) : Int) := by
  induction ks generalizing a k with
  | nil => simp at h
  | cons t ks ih =>
    rw [kidx]
    match k, h with
    | 0, _ => simp [szs]
    | k + 1, h =>
      rw [List.getElem?_cons_succ, ih (a + sz t) k (by simpa using h), List.take_succ_cons, szs]
      congr 2; omega
theorem kidx_append (a b : List Tr) (n : Nat) : kidx (a ++ b) n = kidx a n ++ kidx b (n + szs a) := by
  induction a generalizing n with
  | nil => simp [kidx, szs]
  | cons t a ih => rw [List.cons_append, kidx, kidx, ih, szs, List.cons_append, Nat.add_assoc]
theorem tabs_append (a b : List Tr) (n : Nat) (p : Int) : tabs (a ++ b) n p = tabs a n p ++ tabs b (n + szs a) p := by
  induction a generalizing n with
  | nil => simp [tabs, szs]
  | cons t a ih => rw [List.cons_append, tabs, tabs, ih, szs, List.append_assoc, Nat.add_assoc]
theorem tabs_take (ks : List Tr) (k : Nat) (h : k < ks.length) (n : Nat) (p : Int) : tabs (ks.take (k + 1)) n p = tabs (ks.take k) n p ++ tab ks[k] (n + szs (ks.take k)) p := by
  rw [List.take_succ_eq_append_getElem h, tabs_append, tabs, tabs, List.append_nil]
theorem kidx_take (ks : List Tr) (k : Nat) (h : k < ks.length) (n : Nat) : kidx (ks.take (k + 1)) n = kidx (ks.take k) n ++ [((n + szs (ks.take k) : Nat) : Int)] := by
  rw [List.take_succ_eq_append_getElem h, kidx_append, kidx, kidx]
theorem tabs_len_of (ks : List Tr) (h : ∀ t ∈ ks, ∀ a p, (tab t a p).length = sz t) (a : Nat) (p : Int) : (tabs ks a p).length = szs ks := by
  induction ks generalizing a with
  | nil => rfl
  | cons t ks ih => rw [tabs, szs, List.length_append, h t (by simp), ih (fun u hu => h u (by simp [hu]))]
theorem tab_len (t : Tr) : ∀ a p, (tab t a p).length = sz t := by
  refine Tr.ind (M := fun t => ∀ a p, (tab t a p).length = sz t) (fun k s g ks ih a p => ?_) t
  rw [tab, sz, List.length_cons, tabs_len_of ks ih]
theorem tabs_len (ks : List Tr) (a : Nat) (p : Int) : (tabs ks a p).length = szs ks := tabs_len_of ks (fun t _ => tab_len t) a p
/-- The row of a node. -/
def rowOf (p : Int) (u : Tr) (a : Nat) : Rw := ⟨p, u.kind, u.text, u.gaps, kidx u.kids (a + 1)⟩
theorem tab_head (t : Tr) (a : Nat) (p : Int) : tab t a p = rowOf p t a :: tabs t.kids (a + 1) a := by cases t; rfl

/-- A table determines its tree. -/
theorem tab_inj (t : Tr) : ∀ (u : Tr) (a : Nat) (p q : Int) (r s : List Rw), tab t a p ++ r = tab u a q ++ s → t = u ∧ r = s := by
  refine Tr.ind (M := fun t => ∀ (u : Tr) (a : Nat) (p q : Int) (r s : List Rw), tab t a p ++ r = tab u a q ++ s → t = u ∧ r = s) (fun k x g ks ih u a p q r s h => ?_) t
  cases u with
  | node k2 x2 g2 ks2 =>
    rw [tab, tab, List.cons_append, List.cons_append, List.cons.injEq, Rw.mk.injEq] at h
    obtain ⟨⟨_, rfl, rfl, rfl, hk⟩, hr⟩ := h
    have go : ∀ (l l2 : List Tr) (b : Nat), (∀ t ∈ l, ∀ (u : Tr) (a : Nat) (p q : Int) (r s : List Rw), tab t a p ++ r = tab u a q ++ s → t = u ∧ r = s) → l.length = l2.length → ∀ (p q : Int), tabs l b p ++ r = tabs l2 b q ++ s → l = l2 ∧ r = s := by
      intro l
      induction l with
      | nil =>
        intro l2 b _ hl p q h
        cases l2 with
        | nil => exact ⟨rfl, h⟩
        | cons _ _ => cases hl
      | cons t l ihl =>
        intro l2 b hall hl p q h
        cases l2 with
        | nil => cases hl
        | cons u l2 =>
          rw [tabs, tabs, List.append_assoc, List.append_assoc] at h
          obtain ⟨rfl, h2⟩ := hall t (by simp) u b p q _ _ h
          obtain ⟨rfl, h3⟩ := ihl l2 (b + sz t) (fun u hu => hall u (by simp [hu])) (by simpa using hl) p q h2
          exact ⟨rfl, h3⟩
    have hlen : ks.length = ks2.length := by rw [← kidx_len ks (a + 1), ← kidx_len ks2 (a + 1), hk]
    obtain ⟨rfl, h3⟩ := go ks ks2 (a + 1) ih hlen _ _ hr
    exact ⟨rfl, h3⟩
theorem tab_inj0 {t u : Tr} {a : Nat} {p q : Int} (h : tab t a p = tab u a q) : t = u := (tab_inj t u a p q [] [] (by rw [h])).1

/-- The table from a node's index on begins with the node's own table. -/
theorem tab_sub (t : Tr) : ∀ (a : Nat) (p : Int) (i : Nat) u, (pre t)[i]? = some u → ∃ q r, (tab t a p).drop i = tab u (a + i) q ++ r := by
  refine Tr.ind (M := fun t => ∀ (a : Nat) (p : Int) (i : Nat) u, (pre t)[i]? = some u → ∃ q r, (tab t a p).drop i = tab u (a + i) q ++ r) (fun k s g ks ih a p i u hu => ?_) t
  match i, hu with
  | 0, hu =>
    rw [pre_root] at hu
    obtain rfl := Option.some.inj hu
    exact ⟨p, [], by rw [List.drop_zero, List.append_nil, Nat.add_zero]⟩
  | i + 1, hu =>
    rw [pre_succ] at hu
    have go : ∀ (l : List Tr), (∀ t ∈ l, ∀ (a : Nat) (p : Int) (i : Nat) u, (pre t)[i]? = some u → ∃ q r, (tab t a p).drop i = tab u (a + i) q ++ r) → ∀ (b i : Nat) (p : Int), (pres l)[i]? = some u → ∃ q r, (tabs l b p).drop i = tab u (b + i) q ++ r := by
      intro l
      induction l with
      | nil => intro _ b i p h; cases i <;> cases h
      | cons c l ihl =>
        intro hall b i p h
        rw [pres] at h
        by_cases hi : i < sz c
        · rw [List.getElem?_append_left (by rw [pre_len]; exact hi)] at h
          obtain ⟨q, r, hr⟩ := hall c (by simp) b p i u h
          refine ⟨q, r ++ tabs l (b + sz c) p, ?_⟩
          rw [tabs, List.drop_append_of_le_length (by rw [tab_len]; omega), hr, List.append_assoc]
        · rw [List.getElem?_append_right (by rw [pre_len]; omega), pre_len] at h
          obtain ⟨q, r, hr⟩ := ihl (fun t ht => hall t (by simp [ht])) (b + sz c) (i - sz c) p h
          refine ⟨q, r, ?_⟩
          rw [tabs, List.drop_append, List.drop_of_length_le (by rw [tab_len]; omega), List.nil_append, tab_len, hr]
          congr 2; omega
    obtain ⟨q, r, hr⟩ := go ks ih (a + 1) i a hu
    refine ⟨q, r, ?_⟩
    rw [tab, List.drop_succ_cons, hr]
    congr 2; omega

/- ### The rows that name a row as their parent -/
def kf : List Rw → Nat → Int → List Int
  | [], _, _ => []
  | r :: rs, a, q => if r.parent = q then (a : Int) :: kf rs (a + 1) q else kf rs (a + 1) q
theorem kf_append (l m : List Rw) (a : Nat) (q : Int) : kf (l ++ m) a q = kf l a q ++ kf m (a + l.length) q := by
  induction l generalizing a with
  | nil => simp [kf]
  | cons r l ih =>
    rw [List.cons_append, kf, kf, ih, List.length_cons]
    have e : a + 1 + l.length = a + (l.length + 1) := by omega
    rw [e]
    split <;> rfl
theorem kf_none (l : List Rw) (a : Nat) (q : Int) (h : ∀ r ∈ l, r.parent ≠ q) : kf l a q = [] := by
  induction l generalizing a with
  | nil => rfl
  | cons r l ih => rw [kf, if_neg (h r (by simp)), ih _ (fun s hs => h s (by simp [hs]))]
theorem par_bound (t : Tr) : ∀ (a : Nat) (p : Int), ∀ r ∈ tab t a p, r.parent = p ∨ ((a : Int) ≤ r.parent ∧ r.parent < ((a + sz t : Nat) : Int)) := by
  refine Tr.ind (M := fun t => ∀ (a : Nat) (p : Int), ∀ r ∈ tab t a p, r.parent = p ∨ ((a : Int) ≤ r.parent ∧ r.parent < ((a + sz t : Nat) : Int))) (fun k s g ks ih a p r hr => ?_) t
  rw [tab] at hr
  rcases List.mem_cons.1 hr with rfl | hr
  · exact .inl rfl
  · right
    have go : ∀ (l : List Tr) (b : Nat), (∀ t ∈ l, ∀ (a : Nat) (p : Int), ∀ r ∈ tab t a p, r.parent = p ∨ ((a : Int) ≤ r.parent ∧ r.parent < ((a + sz t : Nat) : Int))) → ∀ (p : Int), ∀ r ∈ tabs l b p, r.parent = p ∨ ((b : Int) ≤ r.parent ∧ r.parent < ((b + szs l : Nat) : Int)) := by
      intro l
      induction l with
      | nil => intro b _ p r h; cases h
      | cons c l ihl =>
        intro b hall p r h
        rw [tabs] at h
        rcases List.mem_append.1 h with h | h
        · rcases hall c (by simp) b p r h with h | ⟨h1, h2⟩
          · exact .inl h
          · right; rw [szs]; omega
        · rcases ihl (b + sz c) (fun t ht => hall t (by simp [ht])) p r h with h | ⟨h1, h2⟩
          · exact .inl h
          · right; rw [szs]; omega
    rcases go ks (a + 1) ih a r hr with h | ⟨h1, h2⟩
    · rw [sz]; omega
    · rw [sz]; omega
theorem pars_bound (l : List Tr) (b : Nat) (p : Int) : ∀ r ∈ tabs l b p, r.parent = p ∨ ((b : Int) ≤ r.parent ∧ r.parent < ((b + szs l : Nat) : Int)) := by
  induction l generalizing b with
  | nil => intro r h; cases h
  | cons c l ihl =>
    intro r h
    rw [tabs] at h
    rcases List.mem_append.1 h with h | h
    · rcases par_bound c b p r h with h | ⟨h1, h2⟩
      · exact .inl h
      · right; rw [szs]; omega
    · rcases ihl (b + sz c) r h with h | ⟨h1, h2⟩
      · exact .inl h
      · right; rw [szs]; omega
theorem kf_tab (t : Tr) (a : Nat) (p : Int) (h : p < a) : kf (tab t a p) a p = [(a : Int)] := by
  rw [tab_head, kf, if_pos (show (rowOf p t a).parent = p from rfl), kf_none]
  intro r hr
  rcases pars_bound _ _ _ r hr with h1 | ⟨h1, _⟩ <;> omega
theorem kf_tabs (ks : List Tr) (a : Nat) (p : Int) (h : p < a) : kf (tabs ks a p) a p = kidx ks a := by
  induction ks generalizing a with
  | nil => rfl
  | cons t ks ih =>
    rw [tabs, kf_append, tab_len, kf_tab t a p h, ih (a + sz t) (by omega), kidx]; rfl
/-- The kids of a row of a table are the rows behind it that name it. -/
theorem tab_kids (t : Tr) : ∀ (a : Nat) (p : Int) (i : Nat) r, (tab t a p)[i]? = some r → r.kids = kf ((tab t a p).drop (i + 1)) (a + i + 1) ((a + i : Nat) : Int) := by
  refine Tr.ind (M := fun t => ∀ (a : Nat) (p : Int) (i : Nat) r, (tab t a p)[i]? = some r → r.kids = kf ((tab t a p).drop (i + 1)) (a + i + 1) ((a + i : Nat) : Int)) (fun k s g ks ih a p i r hr => ?_) t
  rw [tab] at hr ⊢
  match i, hr with
  | 0, hr =>
    obtain rfl : _ = r := Option.some.inj hr
    show kidx ks (a + 1) = _
    have e : ((a + 0 : Nat) : Int) = a := by omega
    rw [List.drop_succ_cons, List.drop_zero, e]
    exact (kf_tabs ks (a + 1) a (by omega)).symm
  | i + 1, hr =>
    rw [List.getElem?_cons_succ] at hr
    rw [List.drop_succ_cons]
    have go : ∀ (l : List Tr) (b : Nat), (∀ t ∈ l, ∀ (a : Nat) (p : Int) (i : Nat) r, (tab t a p)[i]? = some r → r.kids = kf ((tab t a p).drop (i + 1)) (a + i + 1) ((a + i : Nat) : Int)) → ∀ (p : Int) (i : Nat), p < b → (tabs l b p)[i]? = some r → r.kids = kf ((tabs l b p).drop (i + 1)) (b + i + 1) ((b + i : Nat) : Int) := by
      intro l
      induction l with
      | nil => intro b _ p i _ h; cases i <;> cases h
      | cons c l ihl =>
        intro b hall p i hp h
        rw [tabs] at h ⊢
        by_cases hi : i < sz c
        · rw [List.getElem?_append_left (by rw [tab_len]; exact hi)] at h
          have := hall c (by simp) b p i r h
          rw [List.drop_append_of_le_length (by rw [tab_len]; omega), kf_append, ← this, kf_none (tabs l (b + sz c) p), List.append_nil]
          intro x hx
          rcases pars_bound _ _ _ x hx with h1 | ⟨h1, _⟩ <;> omega
        · rw [List.getElem?_append_right (by rw [tab_len]; omega), tab_len] at h
          have := ihl (b + sz c) (fun t ht => hall t (by simp [ht])) p (i - sz c) (by omega) h
          rw [List.drop_append, List.drop_of_length_le (by rw [tab_len]; omega), List.nil_append, tab_len, this]
          have e1 : b + sz c + (i - sz c) = b + i := by omega
          have e2 : i - sz c + 1 = i + 1 - sz c := by omega
          rw [e1, e2]
    have := go ks (a + 1) ih a i (by omega) hr
    rw [this]
    have e1 : a + 1 + i = a + (i + 1) := by omega
    rw [e1]

/- ### The stack of a table -/
/-- The parents are pushed and popped; the head is the top. -/
def scan : List Int → Nat → List Int → Bool
  | _, _, [] => true
  | st, i, p :: ps => match st.dropWhile (fun x => x != p) with
    | [] => false
    | r => scan ((i : Int) :: r) (i + 1) ps
theorem scan_cons (st : List Int) (i : Nat) (p : Int) (ps : List Int) (x : Int) (r : List Int) (h : st.dropWhile (fun x => x != p) = x :: r) : scan st i (p :: ps) = scan ((i : Int) :: x :: r) (i + 1) ps := by
  rw [scan, h]
theorem scan_fail (st : List Int) (i : Nat) (p : Int) (ps : List Int) (h : st.dropWhile (fun x => x != p) = []) : scan st i (p :: ps) = false := by
  rw [scan, h]
theorem drop_path (path : List Int) (q : Int) (r : List Int) (h : ∀ x ∈ path, x ≠ q) : (path ++ q :: r).dropWhile (fun x => x != q) = q :: r := by
  induction path with
  | nil => simp
  | cons a path ih =>
    rw [List.cons_append, List.dropWhile_cons_of_pos (by simpa using h a (by simp)), ih (fun x hx => h x (by simp [hx]))]
theorem drop_none (st : List Int) (q : Int) (h : ∀ x ∈ st, x ≠ q) : st.dropWhile (fun x => x != q) = [] := by
  induction st with
  | nil => rfl
  | cons a st ih => rw [List.dropWhile_cons_of_pos (by simpa using h a (by simp)), ih (fun x hx => h x (by simp [hx]))]
theorem scan_tab (t : Tr) : ∀ (a : Nat) (p : Int) (st r0 : List Int) (rest : List Int), p < a → st.dropWhile (fun x => x != p) = p :: r0 → ∃ path : List Int, (∀ x ∈ path, (a : Int) ≤ x) ∧ scan st a ((tab t a p).map Rw.parent ++ rest) = scan (path ++ p :: r0) (a + sz t) rest := by
  refine Tr.ind (M := fun t => ∀ (a : Nat) (p : Int) (st r0 : List Int) (rest : List Int), p < a → st.dropWhile (fun x => x != p) = p :: r0 → ∃ path : List Int, (∀ x ∈ path, (a : Int) ≤ x) ∧ scan st a ((tab t a p).map Rw.parent ++ rest) = scan (path ++ p :: r0) (a + sz t) rest) (fun k s g ks ih a p st r0 rest hp hst => ?_) t
  rw [tab, List.map_cons, List.cons_append, scan_cons st a p _ p r0 hst]
  have go : ∀ (l : List Tr), (∀ t ∈ l, ∀ (a : Nat) (p : Int) (st r0 : List Int) (rest : List Int), p < a → st.dropWhile (fun x => x != p) = p :: r0 → ∃ path : List Int, (∀ x ∈ path, (a : Int) ≤ x) ∧ scan st a ((tab t a p).map Rw.parent ++ rest) = scan (path ++ p :: r0) (a + sz t) rest) →
      ∀ (b : Nat) (q : Int) (path0 r1 : List Int), q < b → (∀ x ∈ path0, q < x) → ∃ path : List Int, (∀ x ∈ path, q < x) ∧ scan (path0 ++ q :: r1) b ((tabs l b q).map Rw.parent ++ rest) = scan (path ++ q :: r1) (b + szs l) rest := by
    intro l
    induction l with
    | nil => intro _ b q path0 r1 _ h; exact ⟨path0, h, by rw [tabs, szs]; rfl⟩
    | cons c l ihl =>
      intro hall b q path0 r1 hq h
      have hd : (path0 ++ q :: r1).dropWhile (fun x => x != q) = q :: r1 := drop_path path0 q r1 (fun x hx e => by have := h x hx; omega)
      obtain ⟨path1, h1, h2⟩ := hall c (by simp) b q _ r1 ((tabs l (b + sz c) q).map Rw.parent ++ rest) hq hd
      obtain ⟨path2, h3, h4⟩ := ihl (fun t ht => hall t (by simp [ht])) (b + sz c) q path1 r1 (by omega) (fun x hx => by have := h1 x hx; omega)
      refine ⟨path2, h3, ?_⟩
      rw [tabs, List.map_append, List.append_assoc, h2, h4, szs, Nat.add_assoc]
  obtain ⟨path, h1, h2⟩ := go ks ih (a + 1) a [] (p :: r0) (by omega) (fun x hx => by cases hx)
  rw [List.nil_append] at h2
  rw [h2]
  refine ⟨path ++ [(a : Int)], fun x hx => ?_, ?_⟩
  · rcases List.mem_append.1 hx with hx | hx
    · have := h1 x hx; omega
    · simp at hx; omega
  · rw [List.append_assoc, sz, Nat.add_assoc, Nat.add_comm 1]; rfl
theorem scan_tabs (ks : List Tr) (b : Nat) (q : Int) (path0 r1 rest : List Int) (hq : q < b) (h : ∀ x ∈ path0, q < x) : ∃ path : List Int, (∀ x ∈ path, q < x) ∧ scan (path0 ++ q :: r1) b ((tabs ks b q).map Rw.parent ++ rest) = scan (path ++ q :: r1) (b + szs ks) rest := by
  induction ks generalizing b path0 with
  | nil => exact ⟨path0, h, by rw [tabs, szs]; rfl⟩
  | cons c l ihl =>
    have hd : (path0 ++ q :: r1).dropWhile (fun x => x != q) = q :: r1 := drop_path path0 q r1 (fun x hx e => by have := h x hx; omega)
    obtain ⟨path1, h1, h2⟩ := scan_tab c b q _ r1 ((tabs l (b + sz c) q).map Rw.parent ++ rest) hq hd
    obtain ⟨path2, h3, h4⟩ := ihl (b + sz c) path1 (by omega) (fun x hx => by have := h1 x hx; omega)
    refine ⟨path2, h3, ?_⟩
    rw [tabs, List.map_append, List.append_assoc, h2, h4, szs, Nat.add_assoc]
def core (r : Rw) : Int × Int × ByteArray × List ByteArray := (r.parent, r.kind, r.text, r.gaps)
/-- What the stack lets by from a node on are the node's kids. -/
theorem scan_back : ∀ (n : Nat) (R : List Rw) (a : Nat) (q : Int) (r0 : List Int), R.length ≤ n → q < a → (∀ x ∈ r0, x ≠ q ∧ x < a) → scan (q :: r0) a (R.map Rw.parent) = true →
    ∃ ks R1 R2, R = R1 ++ R2 ∧ R1.map core = (tabs ks a q).map core ∧ (∀ r ∈ R2.head?, r.parent ∈ r0) ∧ scan (q :: r0) (a + szs ks) (R2.map Rw.parent) = true := by
  intro n
  induction n with
  | zero =>
    intro R a q r0 hn _ _ h
    obtain rfl : R = [] := List.eq_nil_of_length_eq_zero (by omega)
    exact ⟨[], [], [], rfl, rfl, (fun r hr => by cases hr), by simp [scan]⟩
  | succ n ih =>
    intro R a q r0 hn hq hr0 h
    cases R with
    | nil => exact ⟨[], [], [], rfl, rfl, (fun r hr => by cases hr), by simp [scan]⟩
    | cons x R =>
      by_cases hx : x.parent = q
      · rw [List.map_cons, scan_cons _ _ _ _ q r0 (by rw [hx]; simp)] at h
        obtain ⟨ks1, A1, A2, rfl, hA, hhead, hscan⟩ := ih R (a + 1) a (q :: r0) (by simp at hn; omega) (by omega) (fun y hy => by
          rcases List.mem_cons.1 hy with rfl | hy
          · omega
          · have := hr0 y hy; omega) h
        have hscan2 : scan (q :: r0) (a + 1 + szs ks1) (A2.map Rw.parent) = true := by
          cases A2 with
          | nil => simp [scan]
          | cons y A2 =>
            have hy : y.parent ∈ q :: r0 := hhead y (by simp)
            have hne : (a : Int) ≠ y.parent := by
              rcases List.mem_cons.1 hy with hy | hy
              · omega
              · have := hr0 _ hy; omega
            rw [List.map_cons, scan, List.dropWhile_cons_of_pos (by simpa using hne)] at hscan
            rw [List.map_cons, scan]
            exact hscan
        obtain ⟨ks2, B1, B2, rfl, hB, hhead2, hscan3⟩ := ih A2 (a + 1 + szs ks1) q r0 (by simp at hn; omega) (by omega) (fun y hy => by have := hr0 y hy; omega) hscan2
        refine ⟨.node x.kind x.text x.gaps ks1 :: ks2, x :: (A1 ++ B1), B2, by simp, ?_, hhead2, ?_⟩
        · rw [tabs, tab, sz, List.map_cons, List.map_append, List.map_append, List.map_cons, hA, hB]
          have e : a + (szs ks1 + 1) = a + 1 + szs ks1 := by omega
          rw [e, List.cons_append]
          congr 1
          show (x.parent, _, _, _) = _
          rw [hx]; rfl
        · rw [szs, sz]
          have e : a + (szs ks1 + 1 + szs ks2) = a + 1 + szs ks1 + szs ks2 := by omega
          rw [e]; exact hscan3
      · refine ⟨[], [], x :: R, rfl, rfl, fun r hr => ?_, by rw [szs]; exact h⟩
        obtain rfl : x = r := by simpa using hr
        rw [List.map_cons, scan] at h
        by_cases hm : x.parent ∈ r0
        · exact hm
        · rw [drop_none _ _ (fun y hy => ?_)] at h
          · cases h
          · rcases List.mem_cons.1 hy with rfl | hy
            · exact fun e => hx e.symm
            · intro e; subst e; exact hm hy
/-- A list of rows is a table: what the reference asks. -/
def IsTab (l : List Rw) : Prop := (∃ r, l[0]? = some r ∧ r.parent = -1) ∧ scan [0] 1 ((l.drop 1).map Rw.parent) = true ∧ ∀ (i : Nat) r, l[i]? = some r → r.kids = kf (l.drop (i + 1)) (i + 1) i
theorem kf_core (l m : List Rw) (a : Nat) (q : Int) (h : l.map core = m.map core) : kf l a q = kf m a q := by
  induction l generalizing m a with
  | nil =>
    cases m with
    | nil => rfl
    | cons _ _ => cases h
  | cons r l ih =>
    cases m with
    | nil => cases h
    | cons s m =>
      rw [List.map_cons, List.map_cons, List.cons.injEq] at h
      have e : r.parent = s.parent := congrArg Prod.fst h.1
      rw [kf, kf, e, ih m (a + 1) h.2]
theorem isTab_iff (l : List Rw) : IsTab l ↔ ∃ t, l = tab t 0 (-1) := by
  constructor
  · rintro ⟨⟨r, hr, hp⟩, hs, hk⟩
    cases l with
    | nil => cases hr
    | cons x R =>
      obtain rfl : x = r := by simpa using hr
      rw [List.drop_succ_cons, List.drop_zero] at hs
      obtain ⟨ks, R1, R2, rfl, hc, hh, _⟩ := scan_back _ R 1 0 [] (Nat.le_refl _) (by omega) (fun y hy => by cases hy) hs
      have h2 : R2 = [] := by
        cases R2 with
        | nil => rfl
        | cons y R2 => have := hh y (by simp); cases this
      subst h2
      rw [List.append_nil] at hk ⊢
      refine ⟨.node x.kind x.text x.gaps ks, ?_⟩
      have hcore : (x :: R1).map core = (tab (.node x.kind x.text x.gaps ks) 0 (-1)).map core := by
        rw [tab, List.map_cons, List.map_cons]
        show core x :: R1.map core = _ :: (tabs ks 1 ((0 : Nat) : Int)).map core
        rw [hc]
        congr 1
        show (x.parent, _, _, _) = _
        rw [hp]; rfl
      have hl : (x :: R1).length = (tab (.node x.kind x.text x.gaps ks) 0 (-1)).length := by have := congrArg List.length hcore; simpa using this
      refine List.ext_getElem hl fun i h1 h2 => ?_
      have c1 := List.getElem?_eq_getElem h1
      have c2 := List.getElem?_eq_getElem h2
      have k1 := hk i _ c1
      have k2 := tab_kids _ _ _ i _ c2
      have hcc : core (x :: R1)[i] = core (tab (.node x.kind x.text x.gaps ks) 0 (-1))[i] := by
        have e : ((x :: R1).map core)[i]? = ((tab (.node x.kind x.text x.gaps ks) 0 (-1)).map core)[i]? := by rw [hcore]
        rw [List.getElem?_map, List.getElem?_map, c1, c2] at e
        simpa using e
      have hkids : (x :: R1)[i].kids = (tab (.node x.kind x.text x.gaps ks) 0 (-1))[i].kids := by
        rw [k1, k2, Nat.zero_add]
        exact kf_core _ _ _ _ (by rw [List.map_drop, List.map_drop, hcore])
      generalize (x :: R1)[i] = u at hcc hkids
      generalize (tab (.node x.kind x.text x.gaps ks) 0 (-1))[i] = v at hcc hkids
      cases u; cases v
      simp only [core, Prod.mk.injEq] at hcc
      simp only at hkids
      obtain ⟨rfl, rfl, rfl, rfl⟩ := hcc
      subst hkids
      rfl
  · rintro ⟨t, rfl⟩
    refine ⟨⟨_, by rw [tab_head]; rfl, rfl⟩, ?_, fun i r hr => by have := tab_kids t 0 (-1) i r hr; rw [Nat.zero_add] at this; exact this⟩
    rw [tab_head, List.drop_succ_cons, List.drop_zero]
    obtain ⟨path, _, h⟩ := scan_tabs t.kids 1 0 [] [] [] (by omega) (fun x hx => by cases hx)
    rw [List.append_nil, List.nil_append] at h
    show scan [0] 1 ((tabs t.kids 1 0).map Rw.parent) = true
    rw [h]
    simp [scan]
end Go.Proofs.Ytoelfiendfemaaa.Pl

namespace Go.Proofs.Ytoelfiendfemaaa.Pl
set_option linter.unusedVariables false
set_option linter.unusedSimpArgs false

/-- The end of a row's tree, by the ends of the rows behind it. -/
def endf (l : List Rw) (i : Nat) (E : Nat → Nat) : List Int → Nat → Option Nat
  | [], e => some e
  | k :: ks, e => match l[e]? with
    | some x => if k = e ∧ x.parent = i then endf l i E ks (E e) else none
    | none => none
/-- From index j on the table begins with the table of s. -/
def Sub (l : List Rw) (j : Nat) (s : Tr) : Prop := ∃ p r, l.drop j = tab s j p ++ r
theorem drop_get {α : Type} {l : List α} {j : Nat} {x : α} {r : List α} (h : l.drop j = x :: r) : l[j]? = some x ∧ l.drop (j + 1) = r := by
  constructor
  · have := congrArg (fun m => m[0]?) h
    simpa using this
  · rw [← List.drop_drop, h]; rfl
theorem endf_some (l : List Rw) (i : Nat) (T : Nat → Tr) (hT : ∀ j, i < j → j < l.length → Sub l j (T j)) : ∀ (ks : List Int) (e e' : Nat), i < e → endf l i (fun j => j + sz (T j)) ks e = some e' →
    ∃ ts r, ks = kidx ts e ∧ l.drop e = tabs ts e i ++ r ∧ e' = e + szs ts ∧ ∀ (j : Nat) k, ks[j]? = some k → ∃ q : Nat, k = q ∧ i < q ∧ q < l.length ∧ ts[j]? = some (T q) := by
  intro ks
  induction ks with
  | nil =>
    intro e e' _ h
    obtain rfl : e = e' := Option.some.inj h
    exact ⟨[], l.drop e, rfl, rfl, rfl, fun j k h => by cases j <;> cases h⟩
  | cons k ks ih =>
    intro e e' he h
    rw [endf] at h
    cases hx : l[e]? with
    | none => rw [hx] at h; cases h
    | some x =>
      rw [hx] at h
      simp only at h
      by_cases hc : k = e ∧ x.parent = i
      · rw [if_pos hc] at h
        obtain ⟨rfl, hp⟩ := hc
        have hel : e < l.length := (List.getElem?_eq_some_iff.1 hx).1
        obtain ⟨p, r, hs⟩ := hT e he hel
        have hhead := hs
        rw [tab_head, List.cons_append] at hhead
        have h0 := (drop_get hhead).1
        rw [hx] at h0
        obtain rfl : x = _ := Option.some.inj h0
        have hpi : p = i := hp
        subst hpi
        have hdrop : l.drop (e + sz (T e)) = r := by
          rw [← List.drop_drop, hs, List.drop_append, tab_len, Nat.sub_self, List.drop_zero, List.drop_of_length_le (by rw [tab_len]; exact Nat.le_refl _), List.nil_append]
        obtain ⟨ts, r2, h1, h2, h3, h4⟩ := ih (e + sz (T e)) e' (by omega) h
        refine ⟨T e :: ts, r2, by rw [kidx, h1], by rw [tabs, hs, List.append_assoc, ← h2, hdrop], by rw [szs]; omega, fun j k hk => ?_⟩
        match j, hk with
        | 0, hk =>
          obtain rfl : (e : Int) = k := by simpa using hk
          exact ⟨e, rfl, he, hel, rfl⟩
        | j + 1, hk => exact h4 j k (by simpa using hk)
      · rw [if_neg hc] at h; cases h
theorem endf_tab (l : List Rw) (i : Nat) (T : Nat → Tr) (hT : ∀ j, i < j → j < l.length → Sub l j (T j)) : ∀ (us : List Tr) (e : Nat) (r : List Rw), i < e → l.drop e = tabs us e i ++ r → endf l i (fun j => j + sz (T j)) (kidx us e) e = some (e + szs us) := by
  intro us
  induction us with
  | nil => intro e r _ _; rfl
  | cons u us ih =>
    intro e r he h
    rw [tabs, List.append_assoc] at h
    have hhead := h
    rw [tab_head, List.cons_append] at hhead
    have h0 := (drop_get hhead).1
    have hel : e < l.length := (List.getElem?_eq_some_iff.1 h0).1
    obtain ⟨p, r', hs⟩ := hT e he hel
    have hTu : T e = u := (tab_inj (T e) u e p i r' _ (by rw [← hs, h])).1
    rw [kidx, endf, h0]
    simp only
    rw [if_pos (by simp [rowOf]), hTu]
    have hdrop : l.drop (e + sz u) = tabs us (e + sz u) i ++ r := by
      rw [← List.drop_drop, h, List.drop_append, tab_len, Nat.sub_self, List.drop_zero, List.drop_of_length_le (by rw [tab_len]; exact Nat.le_refl _), List.nil_append]
    rw [ih (e + sz u) r (by omega) hdrop, szs, Nat.add_assoc]
/-- The tree of a row, behind that of its kids. -/
theorem sub_step (l : List Rw) (i : Nat) (x : Rw) (hx : l[i]? = some x) (ts : List Tr) (r : List Rw) (hk : x.kids = kidx ts (i + 1)) (hd : l.drop (i + 1) = tabs ts (i + 1) i ++ r) : Sub l i (.node x.kind x.text x.gaps ts) := by
  refine ⟨x.parent, r, ?_⟩
  have hl : i < l.length := (List.getElem?_eq_some_iff.1 hx).1
  have hxe : l[i] = x := by rw [List.getElem?_eq_getElem hl] at hx; exact Option.some.inj hx
  rw [tab, List.cons_append, List.drop_eq_getElem_cons hl, hxe, hd, ← hk]
theorem sub_no (l : List Rw) (i : Nat) (x : Rw) (hx : l[i]? = some x) (T : Nat → Tr) (hT : ∀ j, i < j → j < l.length → Sub l j (T j)) (hn : endf l i (fun j => j + sz (T j)) x.kids (i + 1) = none) : ∀ t, l ≠ tab t 0 (-1) := by
  intro t ht
  have hl : i < l.length := (List.getElem?_eq_some_iff.1 hx).1
  have hlt : i < (pre t).length := by rw [pre_len, ← tab_len t 0 (-1), ← ht]; exact hl
  obtain ⟨q, r, hr⟩ := tab_sub t 0 (-1) i _ (List.getElem?_eq_getElem hlt)
  rw [← ht, Nat.zero_add] at hr
  generalize (pre t)[i] = s at hr
  rw [tab_head, List.cons_append] at hr
  obtain ⟨h1, h2⟩ := drop_get hr
  rw [hx] at h1
  obtain rfl : x = _ := Option.some.inj h1
  have := endf_tab l i T hT s.kids (i + 1) r (by omega) h2
  rw [show (rowOf q s i).kids = kidx s.kids (i + 1) from rfl, this] at hn
  cases hn
theorem sub_all (l : List Rw) (s : Tr) (x : Rw) (hx : l[0]? = some x) (hp : x.parent = -1) (h : Sub l 0 s) : (sz s = l.length → l = tab s 0 (-1)) ∧ (sz s ≠ l.length → ∀ t, l ≠ tab t 0 (-1)) := by
  obtain ⟨p, r, hr⟩ := h
  rw [List.drop_zero] at hr
  have hp1 : p = -1 := by
    rw [hr, tab_head] at hx
    obtain rfl := Option.some.inj hx
    exact hp
  subst hp1
  constructor
  · intro hs
    have h1 := congrArg List.length hr
    rw [List.length_append, tab_len] at h1
    have : r = [] := List.eq_nil_of_length_eq_zero (by omega)
    rw [hr, this, List.append_nil]
  · intro hs t ht
    have h1 := (tab_inj s t 0 (-1) (-1) r [] (by rw [← hr, ht, List.append_nil])).1
    subst h1
    exact hs (by rw [ht, tab_len])
end Go.Proofs.Ytoelfiendfemaaa.Pl

namespace Go.Proofs.Ytoelfiendfemaaa.Pl
set_option linter.unusedVariables false
set_option linter.unusedSimpArgs false

/-- A unit. -/
structure Un where
  path : ByteArray
  text : ByteArray
  tree : Tr
  broken : Bool
/-- A declaration. -/
structure Dc where
  kind : Int
  owner : ByteArray
  name : ByteArray
  unit : Int
  node : Int
deriving DecidableEq
def noRow : Rw := ⟨0, 0, ⟨#[]⟩, [], []⟩
def rw (l : List Rw) (i : Int) : Rw := (l[i.toNat]?).getD noRow
/-- The table of a unit: none of a broken one. -/
def tbl (x : Un) : List Rw := if x.broken then [] else tab x.tree 0 (-1)

/- ### Uses -/
def sInt : ByteArray := ⟨#[105, 110, 116]⟩
def sBool : ByteArray := ⟨#[98, 111, 111, 108]⟩
def sNo : ByteArray := ⟨#[]⟩
/-- Which kind of declaration a node wants; 0 if it is no use. -/
def space (k : Int) (s : ByteArray) : Int :=
  if k = 19 ∨ k = 11 then 6 else if k = 20 then 1 else if k = 22 then 2 else if k = 5 then (if s = sInt ∨ s = sBool then 0 else 2) else if k = 8 then (if s = sNo then 0 else 2) else 0
def spc (r : Rw) : Int := space r.kind r.text

/- ### The variables that are visible -/
def blockVars (l : List Rw) (k : Int) (ks : List Int) : List Int := ks.filter fun c => decide (c < k ∧ (rw l c).kind = 10)
def parKids (l : List Rw) (k : Int) (c : Int) : List Int := (rw l c).kids.filter fun d => decide (c < k ∧ (rw l c).kind = 3 ∧ (rw l d).kind = 4)
def funcVars (l : List Rw) (k : Int) (ks : List Int) : List Int := ks.flatMap (parKids l k)
def declared (l : List Rw) (p k : Int) : List Int :=
  (if (rw l p).kind = 6 then blockVars l k (rw l p).kids else []) ++ (if (rw l p).kind = 2 ∧ (rw l k).kind = 6 then funcVars l k (rw l p).kids else [])
/-- The variables that are visible at a node, the nearest ones first; n bounds the steps. -/
def visF (l : List Rw) : Nat → Int → List Int
  | 0, _ => []
  | n + 1, k => if (rw l k).parent < 0 then [] else declared l (rw l k).parent k ++ (if (rw l (rw l k).parent).kind = 2 then [] else visF l n (rw l k).parent)
def vis (l : List Rw) (k : Int) : List Int := visF l (k.toNat + 1) k
/-- What a table of a tree has: parents lie ahead, kids lie inside. -/
def Ok (l : List Rw) : Prop := l.length ≤ 1000000 ∧ ∀ (i : Nat) r, l[i]? = some r → -1 ≤ r.parent ∧ r.parent < i ∧ r.kids.length ≤ 1000000 ∧ ∀ c ∈ r.kids, (i : Int) < c ∧ c < l.length
theorem rw_get {l : List Rw} {i : Nat} {r : Rw} (h : l[i]? = some r) : rw l i = r := by unfold rw; rw [Int.toNat_natCast, h]; rfl
theorem Ok.row {l : List Rw} (h : Ok l) {k : Int} (h0 : 0 ≤ k) (h1 : k < l.length) : ∃ (i : Nat), k = i ∧ l[i]? = some (rw l k) ∧ -1 ≤ (rw l k).parent ∧ (rw l k).parent < k := by
  obtain ⟨i, rfl⟩ : ∃ i : Nat, k = i := ⟨k.toNat, by omega⟩
  have hi : i < l.length := by omega
  have hg := List.getElem?_eq_getElem hi
  have hr := rw_get hg
  obtain ⟨a, b, _⟩ := h.2 i _ hg
  rw [hr]
  exact ⟨i, rfl, hg, a, b⟩
theorem visF_any {l : List Rw} (h : Ok l) : ∀ (n m : Nat) (k : Int), 0 ≤ k → k < l.length → k.toNat < n → k.toNat < m → visF l n k = visF l m k := by
  intro n
  induction n with
  | zero => intro m k _ _ h1; omega
  | succ n ih =>
    intro m k h0 hk h1 h2
    match m, h2 with
    | m + 1, h2 =>
      rw [visF, visF]
      by_cases hp : (rw l k).parent < 0
      · rw [if_pos hp, if_pos hp]
      · rw [if_neg hp, if_neg hp]
        obtain ⟨_, _, _, _, hlt⟩ := h.row h0 hk
        by_cases h2 : (rw l (rw l k).parent).kind = 2
        · rw [if_pos h2, if_pos h2]
        · rw [if_neg h2, if_neg h2, ih m (rw l k).parent (by omega) (by omega) (by omega) (by omega)]
theorem vis_step {l : List Rw} (h : Ok l) {k : Int} (h0 : 0 ≤ k) (h1 : k < l.length) :
    vis l k = if (rw l k).parent < 0 then [] else declared l (rw l k).parent k ++ (if (rw l (rw l k).parent).kind = 2 then [] else vis l (rw l k).parent) := by
  conv => lhs; unfold vis; rw [visF]
  by_cases hp : (rw l k).parent < 0
  · rw [if_pos hp, if_pos hp]
  · rw [if_neg hp, if_neg hp]
    obtain ⟨_, _, _, _, hlt⟩ := h.row h0 h1
    by_cases h2 : (rw l (rw l k).parent).kind = 2
    · rw [if_pos h2, if_pos h2]
    · rw [if_neg h2, if_neg h2]
      congr 1
      exact visF_any h _ _ _ (by omega) (by omega) (by omega) (by omega)
/-- The variable with a name. -/
def var (l : List Rw) (k : Int) (s : ByteArray) : Option Int := (vis l k).find? fun d => decide ((rw l d).text = s)
end Go.Proofs.Ytoelfiendfemaaa.Pl

namespace Go.Proofs.Ytoelfiendfemaaa.Pl
set_option linter.unusedVariables false
set_option linter.unusedSimpArgs false

/- ### The table of a tree -/
theorem par_lt (t : Tr) : ∀ (a : Nat) (p : Int), p < a → ∀ (i : Nat) r, (tab t a p)[i]? = some r → p ≤ r.parent ∧ r.parent < ((a + i : Nat) : Int) := by
  refine Tr.ind (M := fun t => ∀ (a : Nat) (p : Int), p < a → ∀ (i : Nat) r, (tab t a p)[i]? = some r → p ≤ r.parent ∧ r.parent < ((a + i : Nat) : Int)) (fun k s g ks ih a p hp i r hr => ?_) t
  have go : ∀ (l : List Tr) (b : Nat) (q : Int), (∀ t ∈ l, ∀ (a : Nat) (p : Int), p < a → ∀ (i : Nat) r, (tab t a p)[i]? = some r → p ≤ r.parent ∧ r.parent < ((a + i : Nat) : Int)) → q < b → ∀ (i : Nat) r, (tabs l b q)[i]? = some r → q ≤ r.parent ∧ r.parent < ((b + i : Nat) : Int) := by
    intro l
    induction l with
    | nil => intro b q _ _ i r h; cases i <;> cases h
    | cons c l ihl =>
      intro b q hall hq i r h
      rw [tabs] at h
      by_cases hi : i < sz c
      · rw [List.getElem?_append_left (by rw [tab_len]; exact hi)] at h
        exact hall c (by simp) b q hq i r h
      · rw [List.getElem?_append_right (by rw [tab_len]; omega), tab_len] at h
        obtain ⟨h1, h2⟩ := ihl (b + sz c) q (fun t ht => hall t (by simp [ht])) (by omega) (i - sz c) r h
        exact ⟨h1, by omega⟩
  rw [tab] at hr
  match i, hr with
  | 0, hr =>
    obtain rfl : _ = r := Option.some.inj hr
    exact ⟨Int.le_refl _, by simpa using hp⟩
  | i + 1, hr =>
    rw [List.getElem?_cons_succ] at hr
    obtain ⟨h1, h2⟩ := go ks (a + 1) a ih (by omega) i r hr
    exact ⟨by omega, by omega⟩
/-- The row of a node of a tree. -/
theorem tab_row (t : Tr) (a : Nat) (p : Int) (i : Nat) (r : Rw) (h : (tab t a p)[i]? = some r) : ∃ u q, (pre t)[i]? = some u ∧ r = rowOf q u (a + i) := by
  have hi : i < (pre t).length := by rw [pre_len, ← tab_len t a p]; exact (List.getElem?_eq_some_iff.1 h).1
  have hu := List.getElem?_eq_getElem hi
  obtain ⟨q, s, hs⟩ := tab_sub t a p i _ hu
  rw [tab_head (pre t)[i], List.cons_append] at hs
  have h0 : (tab t a p)[i]? = some (rowOf q (pre t)[i] (a + i)) := by
    have := congrArg (fun m => m[0]?) hs
    simpa using this
  rw [h] at h0
  exact ⟨_, q, hu, Option.some.inj h0⟩
theorem kidx_mem (ks : List Tr) (a : Nat) (c : Int) (h : c ∈ kidx ks a) : (a : Int) ≤ c ∧ c < ((a + szs ks : Nat) : Int) := by
  induction ks generalizing a with
  | nil => cases h
  | cons t ks ih =>
    rw [kidx] at h
    have hp := sz_pos t
    rcases List.mem_cons.1 h with rfl | h
    · rw [szs]; omega
    · have := ih _ h
      rw [szs]; omega
theorem ok_tab (t : Tr) (h : sz t ≤ 1000000) : Ok (tab t 0 (-1)) := by
  refine ⟨by rw [tab_len]; exact h, fun i r hr => ?_⟩
  obtain ⟨h1, h2⟩ := par_lt t 0 (-1) (by decide) i r hr
  obtain ⟨u, q, hu, rfl⟩ := tab_row t 0 (-1) i r hr
  obtain ⟨h3, _⟩ := pre_sub t i u hu
  have hz : sz u = szs u.kids + 1 := by cases u; rw [sz]; rfl
  refine ⟨h1, by omega, ?_, fun c hc => ?_⟩
  · show (kidx u.kids _).length ≤ _
    rw [kidx_len]
    have := len_szs u.kids
    omega
  · have := kidx_mem _ _ _ hc
    rw [tab_len]
    omega
theorem ok_tbl (x : Un) (h : sz x.tree ≤ 1000000) : Ok (tbl x) := by
  unfold tbl
  by_cases hb : x.broken = true
  · rw [if_pos hb]
    exact ⟨by decide, fun i r hr => by cases i <;> cases hr⟩
  · rw [if_neg hb]
    exact ok_tab _ h

/- ### Declarations -/
def dot : ByteArray := ⟨#[46]⟩
def decl1 (k : Int) (s : ByteArray) (u i : Int) (fn cl : ByteArray) (m : Bool) : Option Dc :=
  if k = 2 then some (if m then ⟨4, cl, s, u, i⟩ else ⟨1, sNo, s, u, i⟩) else if k = 7 then some ⟨2, sNo, s, u, i⟩ else if k = 9 then some ⟨3, sNo, s, u, i⟩
  else if k = 4 then some ⟨5, fn, s, u, i⟩ else if k = 10 then some ⟨6, fn, s, u, i⟩ else none
def fn1 (k : Int) (s fn cl : ByteArray) (m : Bool) : ByteArray := if k = 2 then (if m then cl ++ dot ++ s else s) else fn
mutual
def dcs : Tr → Int → Nat → ByteArray → ByteArray → Bool → List Dc
  | .node k s g ks, u, i, fn, cl, m => (decl1 k s u i fn cl m).toList ++ dcss ks u (i + 1) (fn1 k s fn cl m) s (decide (k = 7))
def dcss : List Tr → Int → Nat → ByteArray → ByteArray → Bool → List Dc
  | [], _, _, _, _, _ => []
  | t :: ts, u, i, fn, cl, m => dcs t u i fn cl m ++ dcss ts u (i + sz t) fn cl m
end
theorem dcss_append (a b : List Tr) (u : Int) (i : Nat) (fn cl : ByteArray) (m : Bool) : dcss (a ++ b) u i fn cl m = dcss a u i fn cl m ++ dcss b u (i + szs a) fn cl m := by
  induction a generalizing i with
  | nil => simp [dcss, szs]
  | cons t a ih => rw [List.cons_append, dcss, dcss, ih, szs, List.append_assoc, Nat.add_assoc]
theorem dcss_take (ks : List Tr) (k : Nat) (h : k < ks.length) (u : Int) (i : Nat) (fn cl : ByteArray) (m : Bool) : dcss (ks.take (k + 1)) u i fn cl m = dcss (ks.take k) u i fn cl m ++ dcs ks[k] u (i + szs (ks.take k)) fn cl m := by
  rw [List.take_succ_eq_append_getElem h, dcss_append, dcss, dcss, List.append_nil]
/-- The declarations of units. -/
def declsOf (x : Un) (u : Int) : List Dc := if x.broken then [] else dcs x.tree u 0 sNo sNo false
def declsTo (us : List Un) (m : Nat) : List Dc := (List.range m).flatMap fun (j : Nat) => match us[j]? with | some x => declsOf x j | none => []
def decls (us : List Un) : List Dc := declsTo us us.length
theorem declsTo_succ (us : List Un) (m : Nat) (x : Un) (h : us[m]? = some x) : declsTo us (m + 1) = declsTo us m ++ declsOf x m := by
  unfold declsTo
  rw [List.range_succ, List.flatMap_append, List.flatMap_cons, List.flatMap_nil, List.append_nil, h]
/-- The name of the nearest function that a node is, or that is around it. -/
def fnF (l : List Rw) : Nat → Int → ByteArray
  | 0, _ => sNo
  | n + 1, i => fn1 (rw l i).kind (rw l i).text (if (rw l i).parent < 0 then sNo else fnF l n (rw l i).parent) (rw l (rw l i).parent).text (decide (0 ≤ (rw l i).parent ∧ (rw l (rw l i).parent).kind = 7))
def fnm (l : List Rw) (i : Int) : ByteArray := fnF l (i.toNat + 1) i
def up (l : List Rw) (i : Int) : ByteArray := if (rw l i).parent < 0 then sNo else fnm l (rw l i).parent
def cls (l : List Rw) (i : Int) : ByteArray := (rw l (rw l i).parent).text
def mth (l : List Rw) (i : Int) : Bool := decide (0 ≤ (rw l i).parent ∧ (rw l (rw l i).parent).kind = 7)
theorem fnF_any {l : List Rw} (h : Ok l) : ∀ (n m : Nat) (k : Int), 0 ≤ k → k < l.length → k.toNat < n → k.toNat < m → fnF l n k = fnF l m k := by
  intro n
  induction n with
  | zero => intro m k _ _ h1; omega
  | succ n ih =>
    intro m k h0 hk h1 h2
    match m, h2 with
    | m + 1, h2 =>
      rw [fnF, fnF]
      by_cases hp : (rw l k).parent < 0
      · rw [if_pos hp, if_pos hp]
      · rw [if_neg hp, if_neg hp]
        obtain ⟨_, _, _, _, hlt⟩ := h.row h0 hk
        rw [ih m (rw l k).parent (by omega) (by omega) (by omega) (by omega)]
theorem fnm_step {l : List Rw} (h : Ok l) {k : Int} (h0 : 0 ≤ k) (h1 : k < l.length) : fnm l k = fn1 (rw l k).kind (rw l k).text (up l k) (cls l k) (mth l k) := by
  conv => lhs; unfold fnm; rw [fnF]
  unfold up cls mth
  by_cases hp : (rw l k).parent < 0
  · rw [if_pos hp, if_pos hp]
  · rw [if_neg hp, if_neg hp]
    obtain ⟨_, _, _, _, hlt⟩ := h.row h0 h1
    congr 1
    exact fnF_any h _ _ _ (by omega) (by omega) (by omega) (by omega)
/-- The declaration of a row. -/
def drow (l : List Rw) (u i : Int) : Option Dc := decl1 (rw l i).kind (rw l i).text u i (up l i) (cls l i) (mth l i)
theorem fm_congr {α β : Type} {f g : α → Option β} : ∀ (l : List α), (∀ x ∈ l, f x = g x) → l.filterMap f = l.filterMap g
  | [], _ => rfl
  | x :: l, h => by rw [List.filterMap_cons, List.filterMap_cons, h x (by simp), fm_congr l (fun y hy => h y (by simp [hy]))]
def drows (l : List Rw) (u : Int) (b n : Nat) : List Dc := (List.range n).filterMap fun j => drow l u ((b + j : Nat) : Int)
theorem drows_zero (l : List Rw) (u : Int) (b : Nat) : drows l u b 0 = [] := rfl
theorem drows_add (l : List Rw) (u : Int) (b n m : Nat) : drows l u b (n + m) = drows l u b n ++ drows l u (b + n) m := by
  unfold drows
  rw [List.range_add, List.filterMap_append, List.filterMap_map]
  congr 1
  refine fm_congr _ fun j _ => ?_
  show drow l u ((b + (n + j) : Nat) : Int) = _
  rw [Nat.add_assoc]
theorem drows_one (l : List Rw) (u : Int) (b : Nat) : drows l u b 1 = (drow l u b).toList := by
  unfold drows
  simp only [List.range_one, List.filterMap_cons, List.filterMap_nil, Nat.add_zero]
  cases drow l u b <;> rfl
theorem rw_drop {l : List Rw} {i : Nat} {r : Rw} {m : List Rw} (h : l.drop i = r :: m) : l[i]? = some r ∧ l.drop (i + 1) = m := drop_get h
/-- The declarations by the tree are those by the rows. -/
theorem dcs_rows (l : List Rw) (hl : Ok l) (u : Int) (t : Tr) : ∀ (i : Nat) (q : Int) (m : List Rw), l.drop i = tab t i q ++ m → dcs t u i (up l i) (cls l i) (mth l i) = drows l u i (sz t) := by
  refine Tr.ind (M := fun t => ∀ (i : Nat) (q : Int) (m : List Rw), l.drop i = tab t i q ++ m → dcs t u i (up l i) (cls l i) (mth l i) = drows l u i (sz t)) (fun k s g ks ih i q m h => ?_) t
  rw [tab, List.cons_append] at h
  obtain ⟨h0, h1⟩ := rw_drop h
  have hr := rw_get h0
  have hi : i < l.length := (List.getElem?_eq_some_iff.1 h0).1
  have hf := fnm_step hl (k := i) (by omega) (by omega)
  have go : ∀ (ts : List Tr), (∀ t ∈ ts, ∀ (i : Nat) (q : Int) (m : List Rw), l.drop i = tab t i q ++ m → dcs t u i (up l i) (cls l i) (mth l i) = drows l u i (sz t)) → ∀ (b : Nat) (m : List Rw), l.drop b = tabs ts b i ++ m → dcss ts u b (fnm l i) s (decide (k = 7)) = drows l u b (szs ts) := by
    intro ts
    induction ts with
    | nil => intro _ b m _; rfl
    | cons t ts iht =>
      intro hall b m hb
      rw [tabs, List.append_assoc] at hb
      have hh := hb
      rw [tab_head, List.cons_append] at hh
      obtain ⟨g0, _⟩ := rw_drop hh
      have gr := rw_get g0
      have hpar : (rw l b).parent = i := by rw [gr]; rfl
      have e1 : up l b = fnm l i := by unfold up; rw [hpar, if_neg (by omega)]
      have e2 : cls l b = s := by unfold cls; rw [hpar, hr]
      have e3 : mth l b = decide (k = 7) := by unfold mth; rw [hpar, hr]; simp
      have hd : l.drop (b + sz t) = tabs ts (b + sz t) i ++ m := by
        rw [← List.drop_drop, hb, List.drop_append, tab_len, Nat.sub_self, List.drop_zero, List.drop_of_length_le (by rw [tab_len]; exact Nat.le_refl _), List.nil_append]
      have h1 := hall t (by simp) b i _ hb
      rw [e1, e2, e3] at h1
      rw [dcss, szs, drows_add, h1, iht (fun u hu => hall u (by simp [hu])) (b + sz t) m hd]
  rw [dcs, sz, Nat.add_comm (szs ks) 1, drows_add, drows_one, ← go ks ih (i + 1) m h1, hf]
  unfold drow
  rw [hr]
theorem declsOf_rows (x : Un) (h : sz x.tree ≤ 1000000) (u : Int) : declsOf x u = drows (tbl x) u 0 (tbl x).length := by
  unfold declsOf tbl
  by_cases hb : x.broken = true
  · rw [if_pos hb, if_pos hb]; rfl
  · rw [if_neg hb, if_neg hb, tab_len]
    have hok := ok_tab x.tree h
    have h0 := dcs_rows _ hok u x.tree 0 (-1) [] (by rw [List.drop_zero, List.append_nil])
    have hr : (rw (tab x.tree 0 (-1)) (0 : Nat)).parent = -1 := by rw [rw_get (i := 0) (by rw [tab_head]; rfl)]; rfl
    have hr2 : rw (tab x.tree 0 (-1)) (-1) = rw (tab x.tree 0 (-1)) (0 : Nat) := rfl
    have e1 : up (tab x.tree 0 (-1)) (0 : Nat) = sNo := by unfold up; rw [hr, if_pos (by decide)]
    have e3 : mth (tab x.tree 0 (-1)) (0 : Nat) = false := by unfold mth; rw [hr]; simp
    rw [e1, e3] at h0
    rw [← h0]
    have any : ∀ (t : Tr) (a b : ByteArray) (i : Nat) (fn : ByteArray), dcs t u i fn a false = dcs t u i fn b false := by
      intro t a b i fn
      cases t
      rw [dcs, dcs]
      unfold decl1 fn1
      rfl
    exact any _ _ _ _ _
end Go.Proofs.Ytoelfiendfemaaa.Pl
