/- Trees changed at a path, as plain data. -/
import Derived.Test.YtpaleolcfhnenaaDoorPath
namespace Go.Proofs.YtpaleolcfhnenaaDoor.Pl
open Go
set_option linter.unusedVariables false
set_option linter.unusedSimpArgs false

/-- A node with other kids: its gaps stay while the number of its own tokens does. -/
def wth (t : Tr) (ks : List Tr) : Tr := .node t.kind t.text (if own t.kind t.text ks.length = own t.kind t.text t.kids.length then t.gaps else []) ks
/-- A tree in which the node at a path is another one. -/
def putP (x : Tr) : List Int → Tr → Tr
  | [], _ => x
  | i :: p, t => match kidA t i with
    | none => t
    | some u => wth t (t.kids.set i.toNat (putP x p u))
/-- The kids with one more at an index. -/
def insK (ks : List Tr) (k : Nat) (x : Tr) : List Tr := ks.take k ++ x :: ks.drop k
theorem wth_kids (t : Tr) (ks : List Tr) : (wth t ks).kids = ks := rfl
theorem wth_kind (t : Tr) (ks : List Tr) : (wth t ks).kind = t.kind := rfl
theorem wth_text (t : Tr) (ks : List Tr) : (wth t ks).text = t.text := rfl
theorem wth_len (t : Tr) (ks : List Tr) (h : ks.length = t.kids.length) : wth t ks = .node t.kind t.text t.gaps ks := by
  unfold wth; rw [h, if_pos rfl]
theorem wth_same (t : Tr) : wth t t.kids = t := by rw [wth_len t _ rfl]; cases t; rfl
theorem put_cons (x : Tr) (i : Int) (p : List Int) (t u : Tr) (h : kidA t i = some u) : putP x (i :: p) t = .node t.kind t.text t.gaps (t.kids.set i.toNat (putP x p u)) := by
  rw [putP, h]
  exact wth_len t _ (List.length_set)
theorem put_stop (x : Tr) (i : Int) (p : List Int) (t : Tr) (h : kidA t i = none) : putP x (i :: p) t = t := by rw [putP, h]
theorem kidA_set {t u : Tr} {i : Int} (h : kidA t i = some u) (k : Int) (s : ByteArray) (g : List ByteArray) (v : Tr) : kidA (.node k s g (t.kids.set i.toNat v)) i = some v := by
  obtain ⟨a, rfl, ha, hu⟩ := kidA_some h
  rw [kidA_nat]
  show (t.kids.set a v)[a]? = some v
  rw [List.getElem?_set_self ha]
theorem kidA_other {t : Tr} {i j : Int} (h : i ≠ j) (hi : 0 ≤ i) (k : Int) (s : ByteArray) (g : List ByteArray) (v : Tr) : kidA (.node k s g (t.kids.set i.toNat v)) j = kidA t j := by
  unfold kidA
  split
  · rfl
  · show (t.kids.set i.toNat v)[j.toNat]? = _
    rw [List.getElem?_set_ne (by omega)]
theorem get_put {p : List Int} {t u : Tr} (x : Tr) (h : getP p t = some u) : getP p (putP x p t) = some x := by
  induction p generalizing t with
  | nil => rfl
  | cons i p ih =>
    cases hk : kidA t i with
    | none => rw [getP_stop i p t hk] at h; cases h
    | some v =>
      rw [getP_cons i p t v hk] at h
      rw [put_cons x i p t v hk, getP_cons i p _ _ (kidA_set hk _ _ _ _)]
      exact ih h
theorem get_put_other {p q : List Int} {t u : Tr} (x : Tr) (h : getP p t = some u) (h1 : ¬ p <+: q) (h2 : ¬ q <+: p) : getP q (putP x p t) = getP q t := by
  induction p generalizing t q with
  | nil => exact absurd (List.nil_prefix) h1
  | cons i p ih =>
    cases q with
    | nil => exact absurd (List.nil_prefix) h2
    | cons j q =>
      cases hk : kidA t i with
      | none => rw [getP_stop i p t hk] at h; cases h
      | some v =>
        rw [getP_cons i p t v hk] at h
        rw [put_cons x i p t v hk]
        by_cases e : i = j
        · subst e
          rw [getP_cons i q _ _ (kidA_set hk _ _ _ _), getP_cons i q t v hk]
          exact ih h (fun hp => h1 ((List.prefix_cons_inj i).2 hp)) (fun hp => h2 ((List.prefix_cons_inj i).2 hp))
        · have h0 : 0 ≤ i := by obtain ⟨a, rfl, _⟩ := kidA_some hk; omega
          rw [getP, getP, kidA_other e h0]
theorem put_put {p : List Int} {t u : Tr} (y z : Tr) (h : getP p t = some u) : putP z p (putP y p t) = putP z p t := by
  induction p generalizing t with
  | nil => rfl
  | cons i p ih =>
    cases hk : kidA t i with
    | none => rw [getP_stop i p t hk] at h; cases h
    | some v =>
      rw [getP_cons i p t v hk] at h
      rw [put_cons y i p t v hk, put_cons z i p _ _ (kidA_set hk _ _ _ _), put_cons z i p t v hk, ih h]
      show Tr.node t.kind t.text t.gaps ((t.kids.set i.toNat _).set i.toNat _) = _
      rw [List.set_set]
theorem put_get {p : List Int} {t u : Tr} (h : getP p t = some u) : putP u p t = t := by
  induction p generalizing t with
  | nil => rw [getP, Option.some.injEq] at h; exact h.symm
  | cons i p ih =>
    cases hk : kidA t i with
    | none => rw [getP_stop i p t hk] at h; cases h
    | some v =>
      rw [getP_cons i p t v hk] at h
      rw [put_cons u i p t v hk, ih h]
      obtain ⟨a, rfl, ha, hv⟩ := kidA_some hk
      rw [Int.toNat_natCast]
      have e : t.kids[a] = v := (List.getElem?_eq_some_iff.1 hv).2
      rw [← e, List.set_getElem_self]
      exact (Tr.eta t).symm
/-- The node above the changed one. -/
theorem get_above {p : List Int} {i : Int} {t u v : Tr} (x : Tr) (h : getP p t = some u) (hk : kidA u i = some v) : getP p (putP x (p ++ [i]) t) = some (.node u.kind u.text u.gaps (u.kids.set i.toNat x)) := by
  induction p generalizing t with
  | nil =>
    rw [getP, Option.some.injEq] at h
    subst h
    rw [List.nil_append, put_cons x i [] t v hk]
    rfl
  | cons j p ih =>
    cases hj : kidA t j with
    | none => rw [getP_stop j p t hj] at h; cases h
    | some w =>
      rw [getP_cons j p t w hj] at h
      rw [List.cons_append, put_cons x j _ t w hj, getP_cons j p _ _ (kidA_set hj _ _ _ _)]
      exact ih h
/-- One step more: the node above with another kid. -/
theorem put_snoc {p : List Int} {i : Int} {t u v : Tr} (x : Tr) (h : getP p t = some u) (hk : kidA u i = some v) : putP x (p ++ [i]) t = putP (.node u.kind u.text u.gaps (u.kids.set i.toNat x)) p t := by
  induction p generalizing t with
  | nil =>
    rw [getP, Option.some.injEq] at h
    subst h
    rw [List.nil_append, put_cons x i [] t v hk]
    rfl
  | cons j p ih =>
    cases hj : kidA t j with
    | none => rw [getP_stop j p t hj] at h; cases h
    | some w =>
      rw [getP_cons j p t w hj] at h
      rw [List.cons_append, put_cons x j _ t w hj, put_cons _ j p t w hj, ih h]

/-- The kids of a tree that is changed below. -/
def putKids (x : Tr) (i : Int) (p : List Int) (t : Tr) : List Tr := match kidA t i with
  | none => t.kids
  | some u => t.kids.set i.toNat (putP x p u)
theorem put_kids (x : Tr) (i : Int) (p : List Int) (t : Tr) : putP x (i :: p) t = wth t (putKids x i p t) := by
  rw [putP]
  unfold putKids
  cases kidA t i with
  | none => exact (wth_same t).symm
  | some u => rfl
theorem putKids_len (x : Tr) (i : Int) (p : List Int) (t : Tr) : (putKids x i p t).length = t.kids.length := by
  unfold putKids
  cases kidA t i with
  | none => rfl
  | some u => exact List.length_set
theorem putKids_at (x : Tr) (p : List Int) (t u : Tr) (j : Nat) (h : t.kids[j]? = some u) : (putKids x (j : Int) p t)[j]? = some (putP x p u) := by
  have hj := (List.getElem?_eq_some_iff.1 h).1
  unfold putKids
  rw [kidA_nat, h]
  show (t.kids.set j _)[j]? = _
  rw [List.getElem?_set_self hj]
theorem putKids_other (x : Tr) (i : Int) (p : List Int) (t u : Tr) (j : Nat) (h : t.kids[j]? = some u) (hne : (j : Int) ≠ i) : (putKids x i p t)[j]? = some u := by
  unfold putKids
  cases hk : kidA t i with
  | none => exact h
  | some v =>
    obtain ⟨a, rfl, _⟩ := kidA_some hk
    show (t.kids.set a _)[j]? = _
    rw [List.getElem?_set_ne (by omega)]
    exact h

/-- A kind fits a place in a tree. -/
def fitP (t : Tr) (p : List Int) (k : Int) : Bool := match p.getLast? with
  | none => true
  | some i => match getP p.dropLast t with
    | none => false
    | some u => fits u.kind i k
theorem fitP_nil (t : Tr) (k : Int) : fitP t [] k = true := rfl
theorem fitP_snoc {t u : Tr} {p : List Int} (i k : Int) (h : getP p t = some u) : fitP t (p ++ [i]) k = fits u.kind i k := by
  unfold fitP
  rw [List.getLast?_concat, List.dropLast_concat, h]

/-- A tree with one node more, and one with one node less. -/
def insT (t : Tr) (p : List Int) (x : Tr) : Tr := match p.getLast? with
  | none => t
  | some i => match getP p.dropLast t with
    | none => t
    | some u => putP (wth u (insK u.kids i.toNat x)) p.dropLast t
def remT (t : Tr) (p : List Int) : Tr := match p.getLast? with
  | none => t
  | some i => match getP p.dropLast t with
    | none => t
    | some u => putP (wth u (u.kids.eraseIdx i.toNat)) p.dropLast t
/-- What Replace, Insert and Remove answer beside the tree. -/
def replE (t : Tr) (p : List Int) (x : Tr) : Int := match getP p t with
  | none => 5
  | some _ => if fitP t p x.kind = false then 7 else if rchk (putP x p t) = 0 then 0 else 7
def insE (t : Tr) (p : List Int) (x : Tr) : Int := match p.getLast? with
  | none => 5
  | some i => match getP p.dropLast t with
    | none => 5
    | some u => if i < 0 ∨ (u.kids.length : Int) < i then 5 else if fits u.kind i x.kind = false then 7 else if rchk (insT t p x) = 0 then 0 else 7
def remE (t : Tr) (p : List Int) : Int := match p with
  | [] => 5
  | _ => match getP p t with
    | none => 5
    | some _ => if rchk (remT t p) = 0 then 0 else 7
theorem replE_none {t : Tr} {p : List Int} {x : Tr} (h : getP p t = none) : replE t p x = 5 := by unfold replE; rw [h]
theorem replE_some {t u : Tr} {p : List Int} {x : Tr} (h : getP p t = some u) : replE t p x = if fitP t p x.kind = false then 7 else if rchk (putP x p t) = 0 then 0 else 7 := by unfold replE; rw [h]
theorem insT_snoc {t u : Tr} {p : List Int} (i : Int) (x : Tr) (h : getP p t = some u) : insT t (p ++ [i]) x = putP (wth u (insK u.kids i.toNat x)) p t := by
  unfold insT; rw [List.getLast?_concat, List.dropLast_concat, h]
theorem remT_snoc {t u : Tr} {p : List Int} (i : Int) (h : getP p t = some u) : remT t (p ++ [i]) = putP (wth u (u.kids.eraseIdx i.toNat)) p t := by
  unfold remT; rw [List.getLast?_concat, List.dropLast_concat, h]
theorem insE_nil (t x : Tr) : insE t [] x = 5 := rfl
theorem insE_none {t : Tr} {p : List Int} (i : Int) (x : Tr) (h : getP p t = none) : insE t (p ++ [i]) x = 5 := by
  unfold insE; rw [List.getLast?_concat, List.dropLast_concat, h]
theorem insE_some {t u : Tr} {p : List Int} (i : Int) (x : Tr) (h : getP p t = some u) : insE t (p ++ [i]) x = if i < 0 ∨ (u.kids.length : Int) < i then 5 else if fits u.kind i x.kind = false then 7 else if rchk (insT t (p ++ [i]) x) = 0 then 0 else 7 := by
  unfold insE; rw [List.getLast?_concat, List.dropLast_concat, h]
theorem remE_nil (t : Tr) : remE t [] = 5 := rfl
theorem remE_none {t : Tr} {p : List Int} (h : getP p t = none) : remE t p = 5 := by
  unfold remE
  cases p with
  | nil => rfl
  | cons i p => rw [h]
theorem remE_some {t u : Tr} {p : List Int} (hp : p ≠ []) (h : getP p t = some u) : remE t p = if rchk (remT t p) = 0 then 0 else 7 := by
  unfold remE
  cases p with
  | nil => exact absurd rfl hp
  | cons i p => rw [h]

/- ### Sizes -/
theorem szs_set (ks : List Tr) (k : Nat) (h : k < ks.length) (v : Tr) : szs (ks.set k v) + sz ks[k] = szs ks + sz v := by
  have e : ks = ks.take k ++ ks[k] :: ks.drop (k + 1) := by rw [List.getElem_cons_drop, List.take_append_drop]
  have e2 : szs ks = szs (ks.take k) + (sz ks[k] + szs (ks.drop (k + 1))) := by
    conv => lhs; rw [e]
    rw [szs_append, szs]
  rw [List.set_eq_take_append_cons_drop, if_pos h, szs_append, szs, e2]
  omega
theorem sz_node (k : Int) (s : ByteArray) (g : List ByteArray) (ks : List Tr) : sz (.node k s g ks) = szs ks + 1 := by rw [sz]
theorem sz_eq (t : Tr) : sz t = szs t.kids + 1 := by cases t; rw [sz]; rfl
theorem sz_put {p : List Int} {t u : Tr} (x : Tr) (h : getP p t = some u) : sz (putP x p t) + sz u = sz t + sz x := by
  induction p generalizing t with
  | nil => rw [getP, Option.some.injEq] at h; subst h; show sz x + sz t = _; omega
  | cons i p ih =>
    cases hk : kidA t i with
    | none => rw [getP_stop i p t hk] at h; cases h
    | some v =>
      rw [getP_cons i p t v hk] at h
      have h1 := ih h
      obtain ⟨a, rfl, ha, hv⟩ := kidA_some hk
      have e : t.kids[a] = v := (List.getElem?_eq_some_iff.1 hv).2
      have h2 := szs_set t.kids a ha (putP x p v)
      rw [e] at h2
      rw [put_cons x _ p t v hk, sz_node, Int.toNat_natCast, sz_eq t]
      omega
theorem szs_ins (ks : List Tr) (k : Nat) (x : Tr) : szs (insK ks k x) = szs ks + sz x := by
  have := szs_append (ks.take k) (ks.drop k)
  rw [List.take_append_drop] at this
  unfold insK
  rw [szs_append, szs]
  omega
theorem szs_erase (ks : List Tr) (k : Nat) : szs (ks.eraseIdx k) ≤ szs ks := by
  induction ks generalizing k with
  | nil => exact Nat.le_refl _
  | cons t ks ih =>
    cases k with
    | zero => rw [List.eraseIdx_cons_zero, szs]; omega
    | succ k => rw [List.eraseIdx_cons_succ, szs, szs]; have := ih k; omega
theorem ins_erase (ks : List Tr) (k : Nat) (x : Tr) (h : k ≤ ks.length) : (insK ks k x).eraseIdx k = ks := by
  unfold insK
  rw [List.eraseIdx_append_of_length_le (by rw [List.length_take]; omega)]
  rw [show k - (ks.take k).length = 0 by rw [List.length_take]; omega, List.eraseIdx_cons_zero, List.take_append_drop]
theorem ins_len (ks : List Tr) (k : Nat) (x : Tr) (h : k ≤ ks.length) : (insK ks k x).length = ks.length + 1 := by
  unfold insK
  rw [List.length_append, List.length_cons, List.length_take, List.length_drop]
  omega
theorem ins_lt (ks : List Tr) (k : Nat) (x : Tr) (h : k ≤ ks.length) (j : Nat) (hj : j < k) : (insK ks k x)[j]? = ks[j]? := by
  unfold insK
  rw [List.getElem?_append_left (by rw [List.length_take]; omega), List.getElem?_take, if_pos hj]
theorem ins_gt (ks : List Tr) (k : Nat) (x : Tr) (h : k ≤ ks.length) (j : Nat) (hj : k ≤ j) : (insK ks k x)[j + 1]? = ks[j]? := by
  unfold insK
  rw [List.getElem?_append_right (by rw [List.length_take]; omega)]
  rw [show j + 1 - (ks.take k).length = (j - k) + 1 by rw [List.length_take]; omega, List.getElem?_cons_succ, List.getElem?_drop]
  congr 1; omega
theorem ins_get (ks : List Tr) (k : Nat) (x : Tr) (h : k ≤ ks.length) : (insK ks k x)[k]? = some x := by
  unfold insK
  rw [List.getElem?_append_right (by rw [List.length_take]; omega)]
  rw [show k - (ks.take k).length = 0 by rw [List.length_take]; omega]
  rfl

/- ### Trees that part in gaps alone -/
/-- What a node and one that parts from it in gaps alone have in common. -/
structure Like (u v : Tr) : Prop where
  kind : u.kind = v.kind
  text : u.text = v.text
  sz : sz u = sz v
  ht : ht u = ht v
  crowd : crowd u = crowd v
  bare : bare u = bare v
  first : firstE v = 0 → firstE u = 0
theorem Like.refl (u : Tr) : Like u u := ⟨rfl, rfl, rfl, rfl, rfl, rfl, fun h => h⟩
theorem hts_set (ks : List Tr) (k : Nat) (v : Tr) (h : ∀ u, ks[k]? = some u → ht v = ht u) : hts (ks.set k v) = hts ks := by
  induction ks generalizing k with
  | nil => rfl
  | cons t ks ih =>
    cases k with
    | zero => rw [List.set_cons_zero, hts, hts, h t rfl]
    | succ k => rw [List.set_cons_succ, hts, hts, ih k (fun u hu => h u (by simpa using hu))]
theorem crowds_set (ks : List Tr) (k : Nat) (v : Tr) (h : ∀ u, ks[k]? = some u → crowd v = crowd u) : crowds (ks.set k v) = crowds ks := by
  induction ks generalizing k with
  | nil => rfl
  | cons t ks ih =>
    cases k with
    | zero => rw [List.set_cons_zero, crowds, crowds, h t rfl]
    | succ k => rw [List.set_cons_succ, crowds, crowds, ih k (fun u hu => h u (by simpa using hu))]
theorem bares_set (ks : List Tr) (k : Nat) (v : Tr) (h : ∀ u, ks[k]? = some u → bare v = bare u) : bares (ks.set k v) = bares ks := by
  induction ks generalizing k with
  | nil => rfl
  | cons t ks ih =>
    cases k with
    | zero => rw [List.set_cons_zero, bares, bares, h t rfl]
    | succ k => rw [List.set_cons_succ, bares, bares, ih k (fun u hu => h u (by simpa using hu))]
theorem map_set_same {α : Type} (f : Tr → α) (ks : List Tr) (k : Nat) (v : Tr) (h : ∀ u, ks[k]? = some u → f v = f u) : (ks.set k v).map f = ks.map f := by
  induction ks generalizing k with
  | nil => rfl
  | cons t ks ih =>
    cases k with
    | zero => rw [List.set_cons_zero, List.map_cons, List.map_cons, h t rfl]
    | succ k => rw [List.set_cons_succ, List.map_cons, List.map_cons, ih k (fun u hu => h u (by simpa using hu))]
theorem fitA_map (k : Int) (a b : List Tr) : ∀ i, a.map Tr.kind = b.map Tr.kind → fitA k i a = fitA k i b := by
  induction a generalizing b with
  | nil => intro i h; cases b with | nil => rfl | cons _ _ => cases h
  | cons x a ih =>
    intro i h
    cases b with
    | nil => cases h
    | cons y b =>
      rw [List.map_cons, List.map_cons, List.cons.injEq] at h
      rw [fitA, fitA, h.1, ih b (i + 1) h.2]
theorem lvls_map (k : Int) (s : ByteArray) (a b : List Tr) (h : a.map Tr.lev = b.map Tr.lev) : lvls k s a = lvls k s b := by
  unfold lvls
  match a, b, h with
  | [], [], _ => rfl
  | [], _ :: _, h => cases h
  | _ :: _, [], h => cases h
  | [x], [y], h => rw [List.map_cons, List.map_cons, List.cons.injEq] at h; simp only [h.1]
  | [x], y :: y2 :: b, h => exact absurd (congrArg List.length h) (by simp)
  | x :: x2 :: a, [y], h => exact absurd (congrArg List.length h) (by simp)
  | x :: x2 :: a, y :: y2 :: b, h =>
    rw [List.map_cons, List.map_cons, List.map_cons, List.map_cons, List.cons.injEq, List.cons.injEq] at h
    simp only [h.1, h.2.1]
theorem Like.node {t v : Tr} {k : Nat} {w : Tr} (hv : t.kids[k]? = some v) (h : Like w v) : Like (.node t.kind t.text t.gaps (t.kids.set k w)) t := by
  have one : ∀ u, t.kids[k]? = some u → u = v := fun u hu => Option.some.inj (hu.symm.trans hv)
  have hk := (List.getElem?_eq_some_iff.1 hv).1
  have e : t.kids[k] = v := (List.getElem?_eq_some_iff.1 hv).2
  obtain ⟨k0, s0, g0, ks⟩ := t
  simp only [Tr.kids, Tr.kind, Tr.text, Tr.gaps] at *
  refine ⟨rfl, rfl, ?_, ?_, ?_, ?_, ?_⟩
  · have := szs_set ks k (List.getElem?_eq_some_iff.1 hv).1 w
    rw [show ks[k]'(List.getElem?_eq_some_iff.1 hv).1 = v from (List.getElem?_eq_some_iff.1 hv).2, h.sz] at this
    rw [Pl.sz, Pl.sz]; omega
  · rw [Pl.ht, Pl.ht, hts_set ks k w (fun u hu => by rw [one u hu]; exact h.ht)]
  · rw [Pl.crowd, Pl.crowd, crowds_set ks k w (fun u hu => by rw [one u hu]; exact h.crowd), List.length_set]
  · rw [Pl.bare, Pl.bare, bares_set ks k w (fun u hu => by rw [one u hu]; exact h.bare)]
  · intro h0
    obtain ⟨h1, h2⟩ := first_zero _ _ _ _ h0
    obtain ⟨a1, a2, a3⟩ := nodeE_zero _ _ _ _ h1
    obtain ⟨b1, b2, b3, b4, b5⟩ := shape_parts _ _ _ a1
    refine first_node _ _ _ _ (nodeE_of _ _ _ _ (shape_of _ _ _ b1 (by rw [List.length_set]; exact b2) ?_ b4 ?_) a2 (by rw [List.length_set]; exact a3)) ?_
    · rw [fitA_map k0 (ks.set k w) ks 0 (map_set_same Tr.kind ks k w fun u hu => by rw [one u hu]; exact h.kind)]; exact b3
    · rw [lvls_map k0 s0 (ks.set k w) ks (map_set_same Tr.lev ks k w fun u hu => by rw [one u hu]; unfold Tr.lev; rw [h.kind, h.text])]; exact b5
    · refine firsts_of _ fun u hu => ?_
      rcases List.mem_or_eq_of_mem_set hu with hu | rfl
      · exact firsts_mem _ h2 u hu
      · exact h.first (firsts_mem _ h2 v (List.mem_of_getElem? hv))
theorem Like.put {p : List Int} {t u x : Tr} (h : getP p t = some u) (hx : Like x u) : Like (putP x p t) t := by
  induction p generalizing t with
  | nil => rw [getP, Option.some.injEq] at h; subst h; exact hx
  | cons i p ih =>
    cases hk : kidA t i with
    | none => rw [getP_stop i p t hk] at h; cases h
    | some v =>
      rw [getP_cons i p t v hk] at h
      obtain ⟨a, rfl, ha, hv⟩ := kidA_some hk
      rw [put_cons x _ p t v hk, Int.toNat_natCast]
      exact Like.node hv (ih h)
/-- A node without its gaps. -/
theorem like_thin (u : Tr) (g : List ByteArray) (hg : g = u.gaps ∨ g = []) : Like (.node u.kind u.text g u.kids) u := by
  obtain ⟨k, s, g0, ks⟩ := u
  simp only [Tr.kids, Tr.kind, Tr.text, Tr.gaps] at *
  rcases hg with rfl | rfl
  · exact Like.refl _
  refine ⟨rfl, rfl, by rw [Pl.sz, Pl.sz], by rw [Pl.ht, Pl.ht], by rw [Pl.crowd, Pl.crowd], by rw [Pl.bare, Pl.bare], fun h0 => ?_⟩
  obtain ⟨h1, h2⟩ := first_zero _ _ _ _ h0
  obtain ⟨a1, a2, a3⟩ := nodeE_zero _ _ _ _ h1
  exact first_node _ _ _ _ (nodeE_of _ _ _ _ a1 a2 (by unfold gapsOK; simp)) h2
theorem Like.chk {u v : Tr} (h : Like u v) (hz : Pl.sz v ≤ 1048576) (hc : chk v = 0) : chk u = 0 := by
  obtain ⟨h1, h2, h3, h4⟩ := chk_zero v hc
  have hu : Pl.sz u ≤ 1048576 := by rw [h.sz]; exact hz
  rw [szw_eq v (by omega)] at h1
  rw [htw_eq v (by omega)] at h2
  rw [chk_of u (by rw [szw_eq u (by omega), h.sz]; exact h1) (by rw [htw_eq u (by omega), h.ht]; exact h2) (by rw [h.crowd]; exact h3)]
  exact h.first h4

/- ### Parts of well-formed trees -/
theorem first_get {p : List Int} {t u : Tr} (h : firstE t = 0) (hp : getP p t = some u) : firstE u = 0 := by
  induction p generalizing t with
  | nil => rw [getP, Option.some.injEq] at hp; subst hp; exact h
  | cons i p ih =>
    cases hk : kidA t i with
    | none => rw [getP_stop i p t hk] at hp; cases hp
    | some v =>
      rw [getP_cons i p t v hk] at hp
      obtain ⟨a, rfl, ha, hv⟩ := kidA_some hk
      refine ih ?_ hp
      cases t with
      | node k s g ks => exact firsts_mem ks (first_zero _ _ _ _ h).2 v (List.mem_of_getElem? hv)
/-- A kid of a well-formed tree fits its place. -/
theorem first_fits {p : List Int} {i : Int} {t u v : Tr} (h : firstE t = 0) (hp : getP p t = some u) (hk : kidA u i = some v) : fits u.kind i v.kind = true := by
  have h1 := first_get h hp
  obtain ⟨a, rfl, ha, hv⟩ := kidA_some hk
  cases u with
  | node k s g ks =>
    have h2 := (shape_parts _ _ _ (nodeE_zero _ _ _ _ (first_zero _ _ _ _ h1).1).1).2.2.1
    have := fitA_get k ks 0 h2 a v hv
    rwa [Nat.zero_add] at this
/-- A node that is inserted and removed again leaves a tree that parts in gaps alone. -/
theorem ins_back {p : List Int} {k : Nat} {t u : Tr} (x : Tr) (h : getP p t = some u) (hk : k ≤ u.kids.length) :
    ∃ v, Like (putP v p t) t ∧ getP p (putP (wth u (insK u.kids k x)) p t) = some (wth u (insK u.kids k x)) ∧ kidA (wth u (insK u.kids k x)) (k : Int) = some x ∧ putP (wth (wth u (insK u.kids k x)) ((insK u.kids k x).eraseIdx k)) p (putP (wth u (insK u.kids k x)) p t) = putP v p t := by
  refine ⟨wth (wth u (insK u.kids k x)) u.kids, Like.put h ?_, get_put _ h, ?_, ?_⟩
  · refine like_thin u _ ?_
    show (if _ then (if _ then u.gaps else []) else []) = u.gaps ∨ (if _ then (if _ then u.gaps else []) else []) = []
    split
    · split
      · exact .inl rfl
      · exact .inr rfl
    · exact .inr rfl
  · rw [kidA_nat]; exact ins_get _ _ _ hk
  · rw [ins_erase _ _ _ hk, put_put _ _ h]
end Go.Proofs.YtpaleolcfhnenaaDoor.Pl
