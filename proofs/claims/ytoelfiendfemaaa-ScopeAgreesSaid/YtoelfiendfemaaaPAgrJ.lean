/- Resolve, Unbound and Visible agree with the uses. -/
import Derived.Test.YtoelfiendfemaaaPRes
import Derived.Test.YtoelfiendfemaaaUses
namespace Go.Proofs.Ytoelfiendfemaaa.Pl
set_option linter.unusedVariables false
set_option linter.unusedSimpArgs false

/-- What a use of a project is. -/
theorem uses_is (us : List Un) (y : Us) (hy : y ∈ uses us) : ∃ (u i : Nat) (x : Un), us[u]? = some x ∧ i < (tbl x).length ∧ spc (rw (tbl x) i) ≠ 0 ∧ y = mkUse u i (found (decls us) (tbl x) u i) := by
  unfold uses usesUp at hy
  obtain ⟨j, hj, hy⟩ := List.mem_flatMap.1 hy
  have hj := List.mem_range.1 hj
  have hx := List.getElem?_eq_getElem hj
  rw [tbls_get us j us[j] hx] at hy
  simp only at hy
  unfold usesTo at hy
  obtain ⟨i, hi, hy⟩ := List.mem_filterMap.1 hy
  unfold use1 at hy
  by_cases h0 : spc (rw (tbl us[j]) i) = 0
  · rw [if_pos h0] at hy; cases hy
  · rw [if_neg h0] at hy
    exact ⟨j, i, us[j], hx, List.mem_range.1 hi, h0, (Option.some.inj hy).symm⟩
theorem uses_mem (us : List Un) (u i : Nat) (x : Un) (hx : us[u]? = some x) (hi : i < (tbl x).length) (h0 : spc (rw (tbl x) i) ≠ 0) : mkUse u i (found (decls us) (tbl x) u i) ∈ uses us := by
  unfold uses usesUp
  have hu := (List.getElem?_eq_some_iff.1 hx).1
  refine List.mem_flatMap.2 ⟨u, List.mem_range.2 hu, ?_⟩
  rw [tbls_get us u x hx]
  simp only
  unfold usesTo
  refine List.mem_filterMap.2 ⟨i, List.mem_range.2 hi, ?_⟩
  unfold use1
  rw [if_neg h0]
theorem mkUse_at (u i : Int) (o : Option Rf) : (mkUse u i o).au = u ∧ (mkUse u i o).an = i ∧ (mkUse u i o).bound = o.isSome ∧ (o = if (mkUse u i o).bound then some ((mkUse u i o).du, (mkUse u i o).dn) else none) ∧ (o = none → (mkUse u i o).du = 0 ∧ (mkUse u i o).dn = 0) := by
  cases o with
  | none => exact ⟨rfl, rfl, rfl, rfl, fun _ => ⟨rfl, rfl⟩⟩
  | some r => exact ⟨rfl, rfl, rfl, rfl, fun h => by cases h⟩
theorem tblAt_get (us : List Un) (u : Nat) (x : Un) (hx : us[u]? = some x) : tblAt us u = tbl x := by
  unfold tblAt
  rw [Int.toNat_natCast, tbls_get us u x hx]; rfl
theorem resolve_at (us : List Un) (u i : Nat) (x : Un) (hx : us[u]? = some x) (hi : i < (tbl x).length) : resolve us u i = found (decls us) (tbl x) u i := by
  unfold resolve
  rw [exs_of (tbls_get us u x hx) hi, if_pos rfl, tblAt_get us u x hx]
/-- Resolve answers at a use what the use says. -/
theorem agr_resolve (us : List Un) (y : Us) (hy : y ∈ uses us) : resolve us y.au y.an = if y.bound then some (y.du, y.dn) else none := by
  obtain ⟨u, i, x, hx, hi, _, rfl⟩ := uses_is us y hy
  obtain ⟨h1, h2, _, h4, _⟩ := mkUse_at u i (found (decls us) (tbl x) u i)
  rw [← h4, h1, h2]
  exact resolve_at us u i x hx hi
/-- At a node that is no use Resolve finds nothing. -/
theorem agr_none (us : List Un) (p q : Int) (h : ∀ y ∈ uses us, ¬ (y.au = p ∧ y.an = q)) : resolve us p q = none := by
  unfold resolve
  by_cases he : exs (tbls us) p q = true
  · rw [if_pos he]
    unfold exs at he
    obtain ⟨h1, h2, h3, h4⟩ := of_decide_eq_true he
    obtain ⟨u, rfl⟩ : ∃ u : Nat, p = u := ⟨p.toNat, by omega⟩
    obtain ⟨i, rfl⟩ : ∃ i : Nat, q = i := ⟨q.toNat, by omega⟩
    have hu : u < us.length := by unfold tbls at h2; rw [List.length_map] at h2; omega
    have hx := List.getElem?_eq_getElem hu
    rw [Int.toNat_natCast, tbls_get us u us[u] hx] at h4
    have hi : i < (tbl us[u]).length := by simpa using h4
    rw [tblAt_get us u us[u] hx]
    by_cases h0 : spc (rw (tbl us[u]) i) = 0
    · unfold found; rw [if_pos h0]
    · have hm := uses_mem us u i us[u] hx hi h0
      obtain ⟨e1, e2, _⟩ := mkUse_at u i (found (decls us) (tbl us[u]) u i)
      exact absurd ⟨e1, e2⟩ (h _ hm)
  · rw [if_neg he]
theorem mem_consts (D : List Dc) (s : ByteArray) : s ∈ consts D ↔ (look D 3 s).isSome = true := by
  unfold consts look
  rw [Option.isSome_map, List.find?_isSome]
  constructor
  · intro h
    obtain ⟨d, hd, rfl⟩ := List.mem_map.1 h
    obtain ⟨h1, h2⟩ := List.mem_filter.1 hd
    exact ⟨d, h1, decide_eq_true ⟨of_decide_eq_true h2, rfl⟩⟩
  · rintro ⟨d, hd, h⟩
    obtain ⟨h1, h2⟩ := of_decide_eq_true h
    exact List.mem_map.2 ⟨d, List.mem_filter.2 ⟨hd, decide_eq_true h1⟩, h2⟩
theorem var_isSome (l : List Rw) (k : Int) (s : ByteArray) : (var l k s).isSome = true ↔ ∃ d ∈ vis l k, (rw l d).text = s := by
  unfold var
  rw [List.find?_isSome]
  constructor
  · rintro ⟨d, hd, h⟩; exact ⟨d, hd, of_decide_eq_true h⟩
  · rintro ⟨d, hd, h⟩; exact ⟨d, hd, decide_eq_true h⟩
/-- A use of a variable or a constant is bound exactly if its text is visible at it. -/
theorem agr_visible (us : List Un) (y : Us) (hy : y ∈ uses us) : ∃ (u i : Nat) (l : List Rw), y.au = u ∧ y.an = i ∧ (tbls us)[u]? = some l ∧ i < l.length ∧ ((rw l i).kind = 19 ∨ (rw l i).kind = 11 → ((rw l i).text ∈ visible us y.au y.an ↔ y.bound = true)) := by
  obtain ⟨u, i, x, hx, hi, _, rfl⟩ := uses_is us y hy
  obtain ⟨h1, h2, h3, _, _⟩ := mkUse_at u i (found (decls us) (tbl x) u i)
  refine ⟨u, i, tbl x, h1, h2, tbls_get us u x hx, hi, fun hk => ?_⟩
  have h6 : spc (rw (tbl x) i) = 6 := by unfold spc space; rw [if_pos hk]
  rw [h1, h2, h3]
  unfold visible
  rw [exs_of (tbls_get us u x hx) hi, if_pos rfl, tblAt_get us u x hx, refB_mem]
  unfold names found
  rw [if_neg (by omega), if_pos h6, List.mem_append, mem_consts]
  have hv := var_isSome (tbl x) i (rw (tbl x) i).text
  constructor
  · intro h
    cases hvv : var (tbl x) i (rw (tbl x) i).text with
    | some v => rfl
    | none =>
      simp only
      rcases h with h | h
      · exact h
      · obtain ⟨d, hd, e⟩ := List.mem_map.1 h
        have := hv.2 ⟨d, hd, e⟩
        rw [hvv] at this; cases this
  · intro h
    cases hvv : var (tbl x) i (rw (tbl x) i).text with
    | some v =>
      obtain ⟨d, hd, e⟩ := hv.1 (by rw [hvv]; rfl)
      exact .inr (List.mem_map.2 ⟨d, hd, e⟩)
    | none =>
      rw [hvv] at h
      exact .inl h
end Go.Proofs.Ytoelfiendfemaaa.Pl

namespace Go.Proofs.Ytoelfiendfemaaa.Pl
set_option linter.unusedVariables false
set_option linter.unusedSimpArgs false
theorem unb_snoc (L : List Us) (k : Nat) (x : Us) (h : L[k]? = some x) : unb (L.take (k + 1)) = unb (L.take k) ++ (if x.bound then [] else [(x.au, x.an)]) := by
  unfold unb
  rw [List.take_add_one, h, List.filterMap_append]
  congr 1
  cases hb : x.bound <;> simp [hb]
theorem unb_len (L : List Us) (k : Nat) : (unb (L.take k)).length ≤ (unb L).length := by
  have e := List.take_append_drop k L
  have : unb L = unb (L.take k) ++ unb (L.drop k) := by
    unfold unb
    rw [← List.filterMap_append, e]
  rw [this, List.length_append]; omega
/-- The next reference that is not bound. -/
theorem unb_next (L : List Us) (k : Nat) (x : Us) (h : L[k]? = some x) (hb : x.bound = false) : (unb L)[(unb (L.take k)).length]? = some (x.au, x.an) := by
  have e := List.take_append_drop (k + 1) L
  have h1 : unb L = unb (L.take (k + 1)) ++ unb (L.drop (k + 1)) := by
    unfold unb
    rw [← List.filterMap_append, e]
  rw [h1, unb_snoc L k x h, hb, List.append_assoc, List.getElem?_append_right (Nat.le_refl _), Nat.sub_self]
  rfl
/-- Does one of the uses lie at a place? -/
def metAt (p q : Int) (L : List Us) : Bool := L.any fun y => decide (y.au = p ∧ y.an = q)
theorem met_snoc (p q : Int) (L : List Us) (k : Nat) (x : Us) (h : L[k]? = some x) : metAt p q (L.take (k + 1)) = (metAt p q (L.take k) || decide (x.au = p ∧ x.an = q)) := by
  unfold metAt
  rw [List.take_add_one, h, List.any_append]
  simp
theorem met_none (us : List Un) (p q : Int) (h : metAt p q (uses us) = false) : resolve us p q = none := by
  refine agr_none us p q fun y hy hh => ?_
  unfold metAt at h
  rw [List.any_eq_false] at h
  exact h y hy (decide_eq_true hh)
theorem agr_inL (us : List Un) (y : Us) (hy : y ∈ uses us) : ∃ (u i : Nat) (l : List Rw), y.au = u ∧ y.an = i ∧ (tbls us)[u]? = some l ∧ i < l.length ∧ ((rw l i).kind = 19 ∨ (rw l i).kind = 11 → inL (visible us y.au y.an) (rw l i).text = y.bound) := by
  obtain ⟨u, i, l, h1, h2, h3, h4, h5⟩ := agr_visible us y hy
  refine ⟨u, i, l, h1, h2, h3, h4, fun hk => ?_⟩
  rw [Bool.eq_iff_iff, inL_iff]
  exact h5 hk
theorem agr_zero (us : List Un) (y : Us) (hy : y ∈ uses us) (hb : y.bound = false) : y.du = 0 ∧ y.dn = 0 := by
  obtain ⟨u, i, x, hx, hi, _, rfl⟩ := uses_is us y hy
  obtain ⟨_, _, h3, _, h5⟩ := mkUse_at u i (found (decls us) (tbl x) u i)
  rw [h3] at hb
  exact h5 (by cases h : found (decls us) (tbl x) u i with | none => rfl | some v => rw [h] at hb; cases hb)
end Go.Proofs.Ytoelfiendfemaaa.Pl
namespace Go.Proofs.Ytoelfiendfemaaa
open Go.RowKit Go.Deep
theorem agr_fv (us : List Pl.Un) (y : Pl.Us) (hy : y ∈ Pl.uses us) : (fv (Pl.resolve us y.au y.an)).1 = y.du ∧ (fv (Pl.resolve us y.au y.an)).2 = y.dn ∧ (Pl.resolve us y.au y.an).isSome = y.bound := by
  rw [Pl.agr_resolve us y hy]
  cases hb : y.bound with
  | true => exact ⟨rfl, rfl, rfl⟩
  | false =>
    obtain ⟨h1, h2⟩ := Pl.agr_zero us y hy hb
    rw [h1, h2]; exact ⟨rfl, rfl, rfl⟩
end Go.Proofs.Ytoelfiendfemaaa
