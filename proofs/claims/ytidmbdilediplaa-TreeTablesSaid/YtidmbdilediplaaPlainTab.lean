/- Tables, read from the last row to the first one. -/
import Derived.Test.YtidmbdilediplaaPlain
namespace Go.Proofs.Ytidmbdilediplaa.Pl
set_option linter.unusedVariables false
set_option linter.unusedSimpArgs false

/-- The end of a row's tree, by the ends of the rows behind it. -/
def endf (l : List Rw) (i : Nat) (E : Nat → Nat) : List Int → Nat → Option Nat
  | [], e => some e
  | k :: ks, e => match l[e]? with
    | some x => if k = e ∧ x.parent = i then endf l i E ks (E e) else none
    | none => none
/-- From index j on the table begins with the table of s. -/
def Sub (l : List Rw) (j : Nat) (s : Tr) : Prop := ∃ p r, l.drop j = tab s j p ++ r
theorem drop_get {α : Type} {l : List α} {j : Nat} {x : α} {r : List α} (h : l.drop j = x :: r) : l[j]? = some x ∧ l.drop (j + 1) = r := by
  constructor
  · have := congrArg (fun m => m[0]?) h
    simpa using this
  · rw [← List.drop_drop, h]; rfl
theorem endf_some (l : List Rw) (i : Nat) (T : Nat → Tr) (hT : ∀ j, i < j → j < l.length → Sub l j (T j)) : ∀ (ks : List Int) (e e' : Nat), i < e → endf l i (fun j => j + sz (T j)) ks e = some e' →
    ∃ ts r, ks = kidx ts e ∧ l.drop e = tabs ts e i ++ r ∧ e' = e + szs ts ∧ ∀ (j : Nat) k, ks[j]? = some k → ∃ q : Nat, k = q ∧ i < q ∧ q < l.length ∧ ts[j]? = some (T q) := by
  intro ks
  induction ks with
  | nil =>
    intro e e' _ h
    obtain rfl : e = e' := Option.some.inj h
    exact ⟨[], l.drop e, rfl, rfl, rfl, fun j k h => by cases j <;> cases h⟩
  | cons k ks ih =>
    intro e e' he h
    rw [endf] at h
    cases hx : l[e]? with
    | none => rw [hx] at h; cases h
    | some x =>
      rw [hx] at h
      simp only at h
      by_cases hc : k = e ∧ x.parent = i
      · rw [if_pos hc] at h
        obtain ⟨rfl, hp⟩ := hc
        have hel : e < l.length := (List.getElem?_eq_some_iff.1 hx).1
        obtain ⟨p, r, hs⟩ := hT e he hel
        have hhead := hs
        rw [tab_head, List.cons_append] at hhead
        have h0 := (drop_get hhead).1
        rw [hx] at h0
        obtain rfl : x = _ := Option.some.inj h0
        have hpi : p = i := hp
        subst hpi
        have hdrop : l.drop (e + sz (T e)) = r := by
          rw [← List.drop_drop, hs, List.drop_append, tab_len, Nat.sub_self, List.drop_zero, List.drop_of_length_le (by rw [tab_len]; exact Nat.le_refl _), List.nil_append]
        obtain ⟨ts, r2, h1, h2, h3, h4⟩ := ih (e + sz (T e)) e' (by omega) h
        refine ⟨T e :: ts, r2, by rw [kidx, h1], by rw [tabs, hs, List.append_assoc, ← h2, hdrop], by rw [szs]; omega, fun j k hk => ?_⟩
        match j, hk with
        | 0, hk =>
          obtain rfl : (e : Int) = k := by simpa using hk
          exact ⟨e, rfl, he, hel, rfl⟩
        | j + 1, hk => exact h4 j k (by simpa using hk)
      · rw [if_neg hc] at h; cases h
theorem endf_tab (l : List Rw) (i : Nat) (T : Nat → Tr) (hT : ∀ j, i < j → j < l.length → Sub l j (T j)) : ∀ (us : List Tr) (e : Nat) (r : List Rw), i < e → l.drop e = tabs us e i ++ r → endf l i (fun j => j + sz (T j)) (kidx us e) e = some (e + szs us) := by
  intro us
  induction us with
  | nil => intro e r _ _; rfl
  | cons u us ih =>
    intro e r he h
    rw [tabs, List.append_assoc] at h
    have hhead := h
    rw [tab_head, List.cons_append] at hhead
    have h0 := (drop_get hhead).1
    have hel : e < l.length := (List.getElem?_eq_some_iff.1 h0).1
    obtain ⟨p, r', hs⟩ := hT e he hel
    have hTu : T e = u := (tab_inj (T e) u e p i r' _ (by rw [← hs, h])).1
    rw [kidx, endf, h0]
    simp only
    rw [if_pos (by simp [rowOf]), hTu]
    have hdrop : l.drop (e + sz u) = tabs us (e + sz u) i ++ r := by
      rw [← List.drop_drop, h, List.drop_append, tab_len, Nat.sub_self, List.drop_zero, List.drop_of_length_le (by rw [tab_len]; exact Nat.le_refl _), List.nil_append]
    rw [ih (e + sz u) r (by omega) hdrop, szs, Nat.add_assoc]
/-- The tree of a row, behind that of its kids. -/
theorem sub_step (l : List Rw) (i : Nat) (x : Rw) (hx : l[i]? = some x) (ts : List Tr) (r : List Rw) (hk : x.kids = kidx ts (i + 1)) (hd : l.drop (i + 1) = tabs ts (i + 1) i ++ r) : Sub l i (.node x.kind x.text x.gaps ts) := by
  refine ⟨x.parent, r, ?_⟩
  have hl : i < l.length := (List.getElem?_eq_some_iff.1 hx).1
  have hxe : l[i] = x := by rw [List.getElem?_eq_getElem hl] at hx; exact Option.some.inj hx
  rw [tab, List.cons_append, List.drop_eq_getElem_cons hl, hxe, hd, ← hk]
theorem sub_no (l : List Rw) (i : Nat) (x : Rw) (hx : l[i]? = some x) (T : Nat → Tr) (hT : ∀ j, i < j → j < l.length → Sub l j (T j)) (hn : endf l i (fun j => j + sz (T j)) x.kids (i + 1) = none) : ∀ t, l ≠ tab t 0 (-1) := by
  intro t ht
  have hl : i < l.length := (List.getElem?_eq_some_iff.1 hx).1
  have hlt : i < (pre t).length := by rw [pre_len, ← tab_len t 0 (-1), ← ht]; exact hl
  obtain ⟨q, r, hr⟩ := tab_sub t 0 (-1) i _ (List.getElem?_eq_getElem hlt)
  rw [← ht, Nat.zero_add] at hr
  generalize (pre t)[i] = s at hr
  rw [tab_head, List.cons_append] at hr
  obtain ⟨h1, h2⟩ := drop_get hr
  rw [hx] at h1
  obtain rfl : x = _ := Option.some.inj h1
  have := endf_tab l i T hT s.kids (i + 1) r (by omega) h2
  rw [show (rowOf q s i).kids = kidx s.kids (i + 1) from rfl, this] at hn
  cases hn
theorem sub_all (l : List Rw) (s : Tr) (x : Rw) (hx : l[0]? = some x) (hp : x.parent = -1) (h : Sub l 0 s) : (sz s = l.length → l = tab s 0 (-1)) ∧ (sz s ≠ l.length → ∀ t, l ≠ tab t 0 (-1)) := by
  obtain ⟨p, r, hr⟩ := h
  rw [List.drop_zero] at hr
  have hp1 : p = -1 := by
    rw [hr, tab_head] at hx
    obtain rfl := Option.some.inj hx
    exact hp
  subst hp1
  constructor
  · intro hs
    have h1 := congrArg List.length hr
    rw [List.length_append, tab_len] at h1
    have : r = [] := List.eq_nil_of_length_eq_zero (by omega)
    rw [hr, this, List.append_nil]
  · intro hs t ht
    have h1 := (tab_inj s t 0 (-1) (-1) r [] (by rw [← hr, ht, List.append_nil])).1
    subst h1
    exact hs (by rw [ht, tab_len])
end Go.Proofs.Ytidmbdilediplaa.Pl
