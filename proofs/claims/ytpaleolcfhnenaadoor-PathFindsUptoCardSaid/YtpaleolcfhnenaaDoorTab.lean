/- Preorder and tables of trees, as plain lists. -/
import Derived.Test.YtpaleolcfhnenaaDoorBPlain
namespace Go.Proofs.YtpaleolcfhnenaaDoor.Pl
set_option linter.unusedVariables false
set_option linter.unusedSimpArgs false

/- ### Preorder -/
theorem pres_append (a b : List Tr) : pres (a ++ b) = pres a ++ pres b := by
  induction a with
  | nil => rfl
  | cons t ts ih => rw [List.cons_append, pres, pres, ih, List.append_assoc]
theorem pres_len (ks : List Tr) (h : ∀ t ∈ ks, (pre t).length = sz t) : (pres ks).length = szs ks := by
  induction ks with
  | nil => rfl
  | cons t ks ih => rw [pres, szs, List.length_append, h t (by simp), ih (fun u hu => h u (by simp [hu]))]
theorem pre_len (t : Tr) : (pre t).length = sz t := by
  refine Tr.ind (M := fun t => (pre t).length = sz t) (fun k s g ks ih => ?_) t
  rw [pre, sz, List.length_cons, pres_len ks ih]
theorem pres_len' (ks : List Tr) : (pres ks).length = szs ks := pres_len ks fun t _ => pre_len t
theorem pre_root (t : Tr) : (pre t)[0]? = some t := by cases t; rfl
/-- What follows the root. -/
theorem pre_succ (t : Tr) (i : Nat) : (pre t)[i + 1]? = (pres t.kids)[i]? := by cases t; rfl
/-- The trees of a kid, from the kid's index on. -/
theorem pres_kid (ks : List Tr) (k : Nat) (h : k < ks.length) (i : Nat) (hi : i < sz ks[k]) : (pres ks)[szs (ks.take k) + i]? = (pre ks[k])[i]? := by
  have e : ks = ks.take k ++ ks[k] :: ks.drop (k + 1) := by rw [List.getElem_cons_drop, List.take_append_drop]
  have e2 : pres ks = pres (ks.take k) ++ (pre ks[k] ++ pres (ks.drop (k + 1))) := by
    conv => lhs; rw [e]
    rw [pres_append, pres]
  rw [e2, List.getElem?_append_right (by rw [pres_len']; omega), pres_len', Nat.add_sub_cancel_left, List.getElem?_append_left (by rw [pre_len]; exact hi)]
theorem mem_pres {ks : List Tr} {t u : Tr} (h : t ∈ ks) (hu : u ∈ pre t) : u ∈ pres ks := by
  induction ks with
  | nil => cases h
  | cons a ks ih =>
    rw [pres]
    rcases List.mem_cons.1 h with rfl | h
    · exact List.mem_append_left _ hu
    · exact List.mem_append_right _ (ih h)
theorem pres_mem {ks : List Tr} {u : Tr} (h : u ∈ pres ks) : ∃ t ∈ ks, u ∈ pre t := by
  induction ks with
  | nil => cases h
  | cons a ks ih =>
    rw [pres] at h
    rcases List.mem_append.1 h with h | h
    · exact ⟨a, by simp, h⟩
    · obtain ⟨t, ht, hu⟩ := ih h
      exact ⟨t, by simp [ht], hu⟩
/-- A node's own nodes lie among the tree's, from the node's index on. -/
theorem pre_sub (t : Tr) : ∀ (i : Nat) u, (pre t)[i]? = some u → i + sz u ≤ sz t ∧ ∀ j, j < sz u → (pre t)[i + j]? = (pre u)[j]? := by
  refine Tr.ind (M := fun t => ∀ (i : Nat) u, (pre t)[i]? = some u → i + sz u ≤ sz t ∧ ∀ j, j < sz u → (pre t)[i + j]? = (pre u)[j]?) (fun k s g ks ih => ?_) t
  intro i u hu
  match i, hu with
  | 0, hu =>
    rw [pre_root] at hu
    obtain rfl := Option.some.inj hu
    exact ⟨by omega, fun j _ => by rw [Nat.zero_add]⟩
  | i + 1, hu =>
    rw [pre_succ] at hu
    have go : ∀ (l : List Tr), (∀ t ∈ l, ∀ (i : Nat) u, (pre t)[i]? = some u → i + sz u ≤ sz t ∧ ∀ j, j < sz u → (pre t)[i + j]? = (pre u)[j]?) → ∀ i, (pres l)[i]? = some u → i + sz u ≤ szs l ∧ ∀ j, j < sz u → (pres l)[i + j]? = (pre u)[j]? := by
      intro l
      induction l with
      | nil => intro _ i h; cases i <;> cases h
      | cons a l ihl =>
        intro hall i h
        rw [pres] at h
        by_cases hi : i < sz a
        · rw [List.getElem?_append_left (by rw [pre_len]; exact hi)] at h
          obtain ⟨h1, h2⟩ := hall a (by simp) i u h
          refine ⟨by rw [szs]; omega, fun j hj => ?_⟩
          rw [pres, List.getElem?_append_left (by rw [pre_len]; omega)]
          exact h2 j hj
        · rw [List.getElem?_append_right (by rw [pre_len]; omega), pre_len] at h
          obtain ⟨h1, h2⟩ := ihl (fun t ht => hall t (by simp [ht])) (i - sz a) h
          refine ⟨by rw [szs]; omega, fun j hj => ?_⟩
          rw [pres, List.getElem?_append_right (by rw [pre_len]; omega), pre_len, ← h2 j hj]
          congr 1; omega
    obtain ⟨h1, h2⟩ := go ks ih i hu
    refine ⟨by rw [sz]; omega, fun j hj => ?_⟩
    have e : i + 1 + j = (i + j) + 1 := by omega
    rw [e, pre_succ]
    exact h2 j hj
/-- A kid's index. -/
theorem pre_kid (t : Tr) (i : Nat) (u : Tr) (h : (pre t)[i]? = some u) (k : Nat) (hk : k < u.kids.length) : (pre t)[i + 1 + szs (u.kids.take k)]? = some u.kids[k] := by
  obtain ⟨h1, h2⟩ := pre_sub t i u h
  cases u with
  | node a b c ks =>
    simp only [Tr.kids] at *
    have hs := szs_step ks k hk
    have hp := sz_pos ks[k]
    rw [sz] at h1 h2
    have e : i + 1 + szs (ks.take k) = i + (szs (ks.take k) + 1) := by omega
    rw [e, h2 _ (by omega), pre_succ]
    have := pres_kid ks k hk 0 hp
    rw [Nat.add_zero, pre_root] at this
    exact this

/- ### Tables -/
structure Rw where
  parent : Int
  kind : Int
  text : ByteArray
  gaps : List ByteArray
  kids : List Int
/-- The indices of kids, the first of which is a. -/
def kidx : List Tr → Nat → List Int
  | [], _ => []
  | t :: ts, a => (a : Int) :: kidx ts (a + sz t)
mutual
def tab : Tr → Nat → Int → List Rw
  | .node k s g ks, a, p => ⟨p, k, s, g, kidx ks (a + 1)⟩ :: tabs ks (a + 1) a
def tabs : List Tr → Nat → Int → List Rw
  | [], _, _ => []
  | t :: ts, a, p => tab t a p ++ tabs ts (a + sz t) p
end
theorem kidx_len (ks : List Tr) (a : Nat) : (kidx ks a).length = ks.length := by
  induction ks generalizing a with
  | nil => rfl
  | cons t ks ih => rw [kidx, List.length_cons, ih, List.length_cons]
theorem kidx_get (ks : List Tr) (a k : Nat) (h : k < ks.length) : (kidx ks a)[k]? = some ((a + szs (ks.take k) : Nat) : Int) := by
  induction ks generalizing a k with
  | nil => simp at h
  | cons t ks ih =>
    rw [kidx]
    match k, h with
    | 0, _ => simp [szs]
    | k + 1, h =>
      rw [List.getElem?_cons_succ, ih (a + sz t) k (by simpa using h), List.take_succ_cons, szs]
      congr 2; omega
theorem kidx_append (a b : List Tr) (n : Nat) : kidx (a ++ b) n = kidx a n ++ kidx b (n + szs a) := by
  induction a generalizing n with
  | nil => simp [kidx, szs]
  | cons t a ih => rw [List.cons_append, kidx, kidx, ih, szs, List.cons_append, Nat.add_assoc]
theorem tabs_append (a b : List Tr) (n : Nat) (p : Int) : tabs (a ++ b) n p = tabs a n p ++ tabs b (n + szs a) p := by
  induction a generalizing n with
  | nil => simp [tabs, szs]
  | cons t a ih => rw [List.cons_append, tabs, tabs, ih, szs, List.append_assoc, Nat.add_assoc]
theorem tabs_take (ks : List Tr) (k : Nat) (h : k < ks.length) (n : Nat) (p : Int) : tabs (ks.take (k + 1)) n p = tabs (ks.take k) n p ++ tab ks[k] (n + szs (ks.take k)) p := by
  rw [List.take_succ_eq_append_getElem h, tabs_append, tabs, tabs, List.append_nil]
theorem kidx_take (ks : List Tr) (k : Nat) (h : k < ks.length) (n : Nat) : kidx (ks.take (k + 1)) n = kidx (ks.take k) n ++ [((n + szs (ks.take k) : Nat) : Int)] := by
  rw [List.take_succ_eq_append_getElem h, kidx_append, kidx, kidx]
theorem tabs_len_of (ks : List Tr) (h : ∀ t ∈ ks, ∀ a p, (tab t a p).length = sz t) (a : Nat) (p : Int) : (tabs ks a p).length = szs ks := by
  induction ks generalizing a with
  | nil => rfl
  | cons t ks ih => rw [tabs, szs, List.length_append, h t (by simp), ih (fun u hu => h u (by simp [hu]))]
theorem tab_len (t : Tr) : ∀ a p, (tab t a p).length = sz t := by
  refine Tr.ind (M := fun t => ∀ a p, (tab t a p).length = sz t) (fun k s g ks ih a p => ?_) t
  rw [tab, sz, List.length_cons, tabs_len_of ks ih]
theorem tabs_len (ks : List Tr) (a : Nat) (p : Int) : (tabs ks a p).length = szs ks := tabs_len_of ks (fun t _ => tab_len t) a p
/-- The row of a node. -/
def rowOf (p : Int) (u : Tr) (a : Nat) : Rw := ⟨p, u.kind, u.text, u.gaps, kidx u.kids (a + 1)⟩
theorem tab_head (t : Tr) (a : Nat) (p : Int) : tab t a p = rowOf p t a :: tabs t.kids (a + 1) a := by cases t; rfl

/-- A table determines its tree. -/
theorem tab_inj (t : Tr) : ∀ (u : Tr) (a : Nat) (p q : Int) (r s : List Rw), tab t a p ++ r = tab u a q ++ s → t = u ∧ r = s := by
  refine Tr.ind (M := fun t => ∀ (u : Tr) (a : Nat) (p q : Int) (r s : List Rw), tab t a p ++ r = tab u a q ++ s → t = u ∧ r = s) (fun k x g ks ih u a p q r s h => ?_) t
  cases u with
  | node k2 x2 g2 ks2 =>
    rw [tab, tab, List.cons_append, List.cons_append, List.cons.injEq, Rw.mk.injEq] at h
    obtain ⟨⟨_, rfl, rfl, rfl, hk⟩, hr⟩ := h
    have go : ∀ (l l2 : List Tr) (b : Nat), (∀ t ∈ l, ∀ (u : Tr) (a : Nat) (p q : Int) (r s : List Rw), tab t a p ++ r = tab u a q ++ s → t = u ∧ r = s) → l.length = l2.length → ∀ (p q : Int), tabs l b p ++ r = tabs l2 b q ++ s → l = l2 ∧ r = s := by
      intro l
      induction l with
      | nil =>
        intro l2 b _ hl p q h
        cases l2 with
        | nil => exact ⟨rfl, h⟩
        | cons _ _ => cases hl
      | cons t l ihl =>
        intro l2 b hall hl p q h
        cases l2 with
        | nil => cases hl
        | cons u l2 =>
          rw [tabs, tabs, List.append_assoc, List.append_assoc] at h
          obtain ⟨rfl, h2⟩ := hall t (by simp) u b p q _ _ h
          obtain ⟨rfl, h3⟩ := ihl l2 (b + sz t) (fun u hu => hall u (by simp [hu])) (by simpa using hl) p q h2
          exact ⟨rfl, h3⟩
    have hlen : ks.length = ks2.length := by rw [← kidx_len ks (a + 1), ← kidx_len ks2 (a + 1), hk]
    obtain ⟨rfl, h3⟩ := go ks ks2 (a + 1) ih hlen _ _ hr
    exact ⟨rfl, h3⟩
theorem tab_inj0 {t u : Tr} {a : Nat} {p q : Int} (h : tab t a p = tab u a q) : t = u := (tab_inj t u a p q [] [] (by rw [h])).1

/-- The table from a node's index on begins with the node's own table. -/
theorem tab_sub (t : Tr) : ∀ (a : Nat) (p : Int) (i : Nat) u, (pre t)[i]? = some u → ∃ q r, (tab t a p).drop i = tab u (a + i) q ++ r := by
  refine Tr.ind (M := fun t => ∀ (a : Nat) (p : Int) (i : Nat) u, (pre t)[i]? = some u → ∃ q r, (tab t a p).drop i = tab u (a + i) q ++ r) (fun k s g ks ih a p i u hu => ?_) t
  match i, hu with
  | 0, hu =>
    rw [pre_root] at hu
    obtain rfl := Option.some.inj hu
    exact ⟨p, [], by rw [List.drop_zero, List.append_nil, Nat.add_zero]⟩
  | i + 1, hu =>
    rw [pre_succ] at hu
    have go : ∀ (l : List Tr), (∀ t ∈ l, ∀ (a : Nat) (p : Int) (i : Nat) u, (pre t)[i]? = some u → ∃ q r, (tab t a p).drop i = tab u (a + i) q ++ r) → ∀ (b i : Nat) (p : Int), (pres l)[i]? = some u → ∃ q r, (tabs l b p).drop i = tab u (b + i) q ++ r := by
      intro l
      induction l with
      | nil => intro _ b i p h; cases i <;> cases h
      | cons c l ihl =>
        intro hall b i p h
        rw [pres] at h
        by_cases hi : i < sz c
        · rw [List.getElem?_append_left (by rw [pre_len]; exact hi)] at h
          obtain ⟨q, r, hr⟩ := hall c (by simp) b p i u h
          refine ⟨q, r ++ tabs l (b + sz c) p, ?_⟩
          rw [tabs, List.drop_append_of_le_length (by rw [tab_len]; omega), hr, List.append_assoc]
        · rw [List.getElem?_append_right (by rw [pre_len]; omega), pre_len] at h
          obtain ⟨q, r, hr⟩ := ihl (fun t ht => hall t (by simp [ht])) (b + sz c) (i - sz c) p h
          refine ⟨q, r, ?_⟩
          rw [tabs, List.drop_append, List.drop_of_length_le (by rw [tab_len]; omega), List.nil_append, tab_len, hr]
          congr 2; omega
    obtain ⟨q, r, hr⟩ := go ks ih (a + 1) i a hu
    refine ⟨q, r, ?_⟩
    rw [tab, List.drop_succ_cons, hr]
    congr 2; omega

/- ### The rows that name a row as their parent -/
def kf : List Rw → Nat → Int → List Int
  | [], _, _ => []
  | r :: rs, a, q => if r.parent = q then (a : Int) :: kf rs (a + 1) q else kf rs (a + 1) q
theorem kf_append (l m : List Rw) (a : Nat) (q : Int) : kf (l ++ m) a q = kf l a q ++ kf m (a + l.length) q := by
  induction l generalizing a with
  | nil => simp [kf]
  | cons r l ih =>
    rw [List.cons_append, kf, kf, ih, List.length_cons]
    have e : a + 1 + l.length = a + (l.length + 1) := by omega
    rw [e]
    split <;> rfl
theorem kf_none (l : List Rw) (a : Nat) (q : Int) (h : ∀ r ∈ l, r.parent ≠ q) : kf l a q = [] := by
  induction l generalizing a with
  | nil => rfl
  | cons r l ih => rw [kf, if_neg (h r (by simp)), ih _ (fun s hs => h s (by simp [hs]))]
theorem par_bound (t : Tr) : ∀ (a : Nat) (p : Int), ∀ r ∈ tab t a p, r.parent = p ∨ ((a : Int) ≤ r.parent ∧ r.parent < ((a + sz t : Nat) : Int)) := by
  refine Tr.ind (M := fun t => ∀ (a : Nat) (p : Int), ∀ r ∈ tab t a p, r.parent = p ∨ ((a : Int) ≤ r.parent ∧ r.parent < ((a + sz t : Nat) : Int))) (fun k s g ks ih a p r hr => ?_) t
  rw [tab] at hr
  rcases List.mem_cons.1 hr with rfl | hr
  · exact .inl rfl
  · right
    have go : ∀ (l : List Tr) (b : Nat), (∀ t ∈ l, ∀ (a : Nat) (p : Int), ∀ r ∈ tab t a p, r.parent = p ∨ ((a : Int) ≤ r.parent ∧ r.parent < ((a + sz t : Nat) : Int))) → ∀ (p : Int), ∀ r ∈ tabs l b p, r.parent = p ∨ ((b : Int) ≤ r.parent ∧ r.parent < ((b + szs l : Nat) : Int)) := by
      intro l
      induction l with
      | nil => intro b _ p r h; cases h
      | cons c l ihl =>
        intro b hall p r h
        rw [tabs] at h
        rcases List.mem_append.1 h with h | h
        · rcases hall c (by simp) b p r h with h | ⟨h1, h2⟩
          · exact .inl h
          · right; rw [szs]; omega
        · rcases ihl (b + sz c) (fun t ht => hall t (by simp [ht])) p r h with h | ⟨h1, h2⟩
          · exact .inl h
          · right; rw [szs]; omega
    rcases go ks (a + 1) ih a r hr with h | ⟨h1, h2⟩
    · rw [sz]; omega
    · rw [sz]; omega
theorem pars_bound (l : List Tr) (b : Nat) (p : Int) : ∀ r ∈ tabs l b p, r.parent = p ∨ ((b : Int) ≤ r.parent ∧ r.parent < ((b + szs l : Nat) : Int)) := by
  induction l generalizing b with
  | nil => intro r h; cases h
  | cons c l ihl =>
    intro r h
    rw [tabs] at h
    rcases List.mem_append.1 h with h | h
    · rcases par_bound c b p r h with h | ⟨h1, h2⟩
      · exact .inl h
      · right; rw [szs]; omega
    · rcases ihl (b + sz c) r h with h | ⟨h1, h2⟩
      · exact .inl h
      · right; rw [szs]; omega
theorem kf_tab (t : Tr) (a : Nat) (p : Int) (h : p < a) : kf (tab t a p) a p = [(a : Int)] := by
  rw [tab_head, kf, if_pos (show (rowOf p t a).parent = p from rfl), kf_none]
  intro r hr
  rcases pars_bound _ _ _ r hr with h1 | ⟨h1, _⟩ <;> omega
theorem kf_tabs (ks : List Tr) (a : Nat) (p : Int) (h : p < a) : kf (tabs ks a p) a p = kidx ks a := by
  induction ks generalizing a with
  | nil => rfl
  | cons t ks ih =>
    rw [tabs, kf_append, tab_len, kf_tab t a p h, ih (a + sz t) (by omega), kidx]; rfl
/-- The kids of a row of a table are the rows behind it that name it. -/
theorem tab_kids (t : Tr) : ∀ (a : Nat) (p : Int) (i : Nat) r, (tab t a p)[i]? = some r → r.kids = kf ((tab t a p).drop (i + 1)) (a + i + 1) ((a + i : Nat) : Int) := by
  refine Tr.ind (M := fun t => ∀ (a : Nat) (p : Int) (i : Nat) r, (tab t a p)[i]? = some r → r.kids = kf ((tab t a p).drop (i + 1)) (a + i + 1) ((a + i : Nat) : Int)) (fun k s g ks ih a p i r hr => ?_) t
  rw [tab] at hr ⊢
  match i, hr with
  | 0, hr =>
    obtain rfl : _ = r := Option.some.inj hr
    show kidx ks (a + 1) = _
    have e : ((a + 0 : Nat) : Int) = a := by omega
    rw [List.drop_succ_cons, List.drop_zero, e]
    exact (kf_tabs ks (a + 1) a (by omega)).symm
  | i + 1, hr =>
    rw [List.getElem?_cons_succ] at hr
    rw [List.drop_succ_cons]
    have go : ∀ (l : List Tr) (b : Nat), (∀ t ∈ l, ∀ (a : Nat) (p : Int) (i : Nat) r, (tab t a p)[i]? = some r → r.kids = kf ((tab t a p).drop (i + 1)) (a + i + 1) ((a + i : Nat) : Int)) → ∀ (p : Int) (i : Nat), p < b → (tabs l b p)[i]? = some r → r.kids = kf ((tabs l b p).drop (i + 1)) (b + i + 1) ((b + i : Nat) : Int) := by
      intro l
      induction l with
      | nil => intro b _ p i _ h; cases i <;> cases h
      | cons c l ihl =>
        intro b hall p i hp h
        rw [tabs] at h ⊢
        by_cases hi : i < sz c
        · rw [List.getElem?_append_left (by rw [tab_len]; exact hi)] at h
          have := hall c (by simp) b p i r h
          rw [List.drop_append_of_le_length (by rw [tab_len]; omega), kf_append, ← this, kf_none (tabs l (b + sz c) p), List.append_nil]
          intro x hx
          rcases pars_bound _ _ _ x hx with h1 | ⟨h1, _⟩ <;> omega
        · rw [List.getElem?_append_right (by rw [tab_len]; omega), tab_len] at h
          have := ihl (b + sz c) (fun t ht => hall t (by simp [ht])) p (i - sz c) (by omega) h
          rw [List.drop_append, List.drop_of_length_le (by rw [tab_len]; omega), List.nil_append, tab_len, this]
          have e1 : b + sz c + (i - sz c) = b + i := by omega
          have e2 : i - sz c + 1 = i + 1 - sz c := by omega
          rw [e1, e2]
    have := go ks (a + 1) ih a i (by omega) hr
    rw [this]
    have e1 : a + 1 + i = a + (i + 1) := by omega
    rw [e1]
end Go.Proofs.YtpaleolcfhnenaaDoor.Pl
