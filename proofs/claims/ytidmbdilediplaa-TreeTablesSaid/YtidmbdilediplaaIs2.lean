/- Rows against nodes, and the calls of the laws with their answers named. -/
import Derived.Test.YtidmbdilediplaaIs
import Derived.Test.YtidmbdilediplaaLawBuilds
namespace Go.Proofs.Ytidmbdilediplaa
open Go.RowKit Go.Deep
set_option linter.unusedVariables false
set_option linter.unusedSimpArgs false

theorem tab_row {t u : Pl.Tr} {i : Nat} (hu : (Pl.pre t)[i]? = some u) : ∃ q a, (Pl.tab t 0 (-1))[i]? = some (Pl.rowOf q u a) := by
  obtain ⟨q, r, h⟩ := Pl.tab_sub t 0 (-1) i u hu
  refine ⟨q, 0 + i, ?_⟩
  have h2 : ((Pl.tab t 0 (-1)).drop i)[0]? = some (Pl.rowOf q u (0 + i)) := by rw [h, Pl.tab_head]; rfl
  rw [List.getElem?_drop] at h2
  exact h2
theorem lit_rows {t : Pl.Tr} (h : Lit t) : ∀ x ∈ Pl.tab t 0 (-1), x.gaps.length ≤ 1000000 ∧ x.kids.length ≤ 1000000 := by
  intro x hx
  obtain ⟨i, hi, rfl⟩ := List.getElem_of_mem hx
  rw [Pl.tab_len] at hi
  obtain ⟨u, hu⟩ : ∃ u, (Pl.pre t)[i]? = some u := ⟨_, List.getElem?_eq_getElem (by rw [Pl.pre_len]; exact hi)⟩
  obtain ⟨q, a, hq⟩ := tab_row hu
  rw [List.getElem?_eq_getElem (by rw [Pl.tab_len]; exact hi)] at hq
  obtain hq := Option.some.inj hq
  rw [hq]
  have h1 := h.gap u (List.mem_of_getElem? hu)
  have h2 := (Pl.pre_sub t i u hu).1
  have h3 := h.1
  have h4 : u.kids.length ≤ Pl.sz u := by
    cases u with
    | node k s g ks => have := Pl.len_szs ks; rw [Pl.sz]; show ks.length ≤ _; omega
  refine ⟨h1, ?_⟩
  show (Pl.kidx u.kids (a + 1)).length ≤ _
  rw [Pl.kidx_len]
  omega
/-- A tree whose table is short is light enough. -/
theorem sht_lit {t : Pl.Tr} (h : Sht (Pl.tab t 0 (-1))) : Lit t := by
  refine ⟨by have := h.1; rw [Pl.tab_len] at this; omega, fun u hu => ?_⟩
  obtain ⟨i, hi, rfl⟩ := List.getElem_of_mem hu
  obtain ⟨q, a, hq⟩ := tab_row (List.getElem?_eq_getElem hi)
  have := (h.2 _ (List.mem_of_getElem? hq)).2
  have e : (Pl.rowOf q (Pl.pre t)[i] a).gaps = ((Pl.pre t)[i]).gaps := rfl
  rw [e] at this
  omega
theorem build_tab {w : World} {t : Pl.Tr} {a : Option Addr} {c : Nat} {R : Nat → Sl} (hl : Lit t) (hx : IsTab w a (Pl.tab t 0 (-1)) R) :
    Calls Try.prog 23 #[.slice a (Pl.tab t 0 (-1)).length c] w fun e w' => Below w.heap.size w w' ∧ ∃ r : Sl, IsT w' t r ∧
    e = .returned (.tuple #[.agg #[.int .i64 t.kind, .string t.text, .slice r.ga t.gaps.length r.gc, .slice r.da t.kids.length r.dc], .int .i64 0]) := by
  refine (build_is hx (by rw [Pl.tab_len]; have := hl.1; omega) (lit_rows hl)).mono ?_
  rintro e w' ⟨hb, ⟨u, r, ht, hr, rfl⟩ | ⟨hno, _⟩⟩
  · obtain rfl := Pl.tab_inj0 ht
    exact ⟨hb, r, hr, rfl⟩
  · exact absurd rfl (hno t)
theorem samerows_self {w : World} {a b : Option Addr} {c d : Nat} {xs : List Pl.Rw} {R S : Nat → Sl} (hx : IsTab w a xs R) (hy : IsTab w b xs S) :
    Calls Try.prog 19 #[.slice a xs.length c, .slice b xs.length d] w fun e w' => e = .returned (.bool true) ∧ Below w.heap.size w w' :=
  (samerows_is hx hy).mono fun e w' ⟨he, hb⟩ => ⟨by rw [he, show eqR xs xs = true from eqR_iff.2 rfl], hb⟩
theorem same_z {w : World} {t u : Pl.Tr} {r q : Sl} {z : Bool} (hz : sameT t u = z) (h : IsT w t r) (k : IsT w u q) : Calls Try.prog 25 #[.agg #[.int .i64 t.kind, .string t.text, .slice r.ga t.gaps.length r.gc, .slice r.da t.kids.length r.dc], .agg #[.int .i64 u.kind, .string u.text, .slice q.ga u.gaps.length q.gc, .slice q.da u.kids.length q.dc]] w fun e w' => e = .returned (.bool z) ∧ Below w.heap.size w w' :=
  (same_is h k).mono fun e w' ⟨he, hb⟩ => ⟨by rw [he, hz], hb⟩
theorem equal_z {w : World} {t u : Pl.Tr} {r q : Sl} {z : Bool} (hz : eqT t u = z) (h : IsT w t r) (k : IsT w u q) : Calls Try.prog 27 #[.agg #[.int .i64 t.kind, .string t.text, .slice r.ga t.gaps.length r.gc, .slice r.da t.kids.length r.dc], .agg #[.int .i64 u.kind, .string u.text, .slice q.ga u.gaps.length q.gc, .slice q.da u.kids.length q.dc]] w fun e w' => e = .returned (.bool z) ∧ Below w.heap.size w w' :=
  (equal_is h k).mono fun e w' ⟨he, hb⟩ => ⟨by rw [he, hz], hb⟩
theorem same_comm {t u : Pl.Tr} : sameT u t = sameT t u := by
  cases h : sameT t u with
  | true => exact sameT_iff.2 (sameT_iff.1 h).symm
  | false =>
    refine sameT_no (fun e => ?_)
    have := sameT_iff.2 e.symm
    rw [this] at h; cases h
theorem eqT_comm {t u : Pl.Tr} : eqT u t = eqT t u := by
  cases h : eqT t u with
  | true => exact eqT_iff.2 (eqT_iff.1 h).symm
  | false =>
    refine eqT_no (fun e => ?_)
    have := eqT_iff.2 e.symm
    rw [this] at h; cases h
theorem eqT_bare {t u : Pl.Tr} : eqT (Pl.bare t) (Pl.bare u) = sameT t u := by
  cases h : sameT t u with
  | true => exact eqT_iff.2 (sameT_iff.1 h)
  | false =>
    refine eqT_no (fun e => ?_)
    have := sameT_iff.2 e
    rw [this] at h; cases h
theorem eq_same {t u : Pl.Tr} (h : eqT t u = true) : sameT t u = true := by rw [eqT_iff.1 h]; exact sameT_iff.2 rfl
end Go.Proofs.Ytidmbdilediplaa
