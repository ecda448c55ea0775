/- What every function answers at trees that lie in the world as it is. -/
import Derived.Test.YtidmbdilediplaaWalkAwake
namespace Go.Proofs.Ytidmbdilediplaa
open Go.RowKit Go.Deep
set_option linter.unusedVariables false
set_option linter.unusedSimpArgs false

theorem Lit.sz {t : Pl.Tr} (h : Lit t) : Pl.sz t ≤ 1000000 := by have := h.1; omega
theorem Lit.gap {t : Pl.Tr} (h : Lit t) : ∀ x ∈ Pl.pre t, x.gaps.length ≤ 1000000 := fun x hx => by have := h.2 x hx; omega
theorem box_world (W : World) (o : Obj) : ∃ w0, w0 = W.alloc o ∧ w0.heap[W.heap.size]? = some o ∧ W.heap.size < w0.heap.size ∧ Below W.heap.size W w0 :=
  ⟨_, rfl, heap_alloc_new W o, by simp, (Below.refl _ _).alloc (Nat.le_refl _) _⟩
theorem keep_box {w w' : World} {b : Nat} {o : Obj} (h : w.heap[b]? = some o) (hl : b < w.heap.size) (hb : Below w.heap.size w w') : w'.heap[b]? = some o ∧ b < w'.heap.size := ⟨(hb.block b hl).trans h, Nat.lt_of_lt_of_le hl hb.size⟩
theorem IsT.box {w : World} {t : Pl.Tr} {r : Sl} (h : IsT w t r) (o : Obj) : IsT (w.alloc o) t r := h.later ((Below.refl _ _).alloc (Nat.le_refl _) _)
theorem size_bare {w : World} {t : Pl.Tr} {r : Sl} (h : IsT w (Pl.bare t) r) (hl : Pl.sz t ≤ 1000000) : Calls Try.prog 14 #[.agg #[.int .i64 (Pl.bare t).kind, .string (Pl.bare t).text, .slice r.ga (Pl.bare t).gaps.length r.gc, .slice r.da (Pl.bare t).kids.length r.dc]] w fun e w' => e = .returned (.int .i64 (Pl.sz t)) ∧ Below w.heap.size w w' := by
  have := size_at h (fun _ h => h) w (Same.refl _ _) (Nat.le_refl _) (by rw [Pl.bare_sz]; exact hl)
  rw [Pl.bare_sz] at this
  exact this
theorem height_bare {w : World} {t : Pl.Tr} {r : Sl} (h : IsT w (Pl.bare t) r) (hl : Pl.sz t ≤ 1000000) : Calls Try.prog 16 #[.agg #[.int .i64 (Pl.bare t).kind, .string (Pl.bare t).text, .slice r.ga (Pl.bare t).gaps.length r.gc, .slice r.da (Pl.bare t).kids.length r.dc]] w fun e w' => e = .returned (.int .i64 (Pl.ht t)) ∧ Below w.heap.size w w' := by
  have := height_at h (fun _ h => h) w (Same.refl _ _) (Nat.le_refl _) (by rw [Pl.bare_sz]; exact hl)
  rw [Pl.bare_ht] at this
  exact this
theorem isT_after {w w' : World} {t : Pl.Tr} {r : Sl} {o : Obj} (h : IsT w t r) (hb : Below (w.alloc o).heap.size (w.alloc o) w') : IsT w' t r := h.later (after_call hb).2.2.2

theorem size_is {w : World} {t : Pl.Tr} {r : Sl} (h : IsT w t r) (hl : Pl.sz t ≤ 1000000) : Calls Try.prog 14 #[.agg #[.int .i64 t.kind, .string t.text, .slice r.ga t.gaps.length r.gc, .slice r.da t.kids.length r.dc]] w fun e w' => e = .returned (.int .i64 (Pl.sz t)) ∧ Below w.heap.size w w' :=
  size_at h (fun _ h => h) w (Same.refl _ _) (Nat.le_refl _) hl
theorem rsize_is {w : World} {t : Pl.Tr} {r : Sl} (h : IsT w t r) (hl : Pl.sz t ≤ 1000000) : Calls Try.prog 15 #[.agg #[.int .i64 t.kind, .string t.text, .slice r.ga t.gaps.length r.gc, .slice r.da t.kids.length r.dc]] w fun e w' => e = .returned (.int .i64 (Pl.sz t)) ∧ Below w.heap.size w w' :=
  rsize_at h (fun _ h => h) w (Same.refl _ _) (Nat.le_refl _) hl
theorem height_is {w : World} {t : Pl.Tr} {r : Sl} (h : IsT w t r) (hl : Pl.sz t ≤ 1000000) : Calls Try.prog 16 #[.agg #[.int .i64 t.kind, .string t.text, .slice r.ga t.gaps.length r.gc, .slice r.da t.kids.length r.dc]] w fun e w' => e = .returned (.int .i64 (Pl.ht t)) ∧ Below w.heap.size w w' :=
  height_at h (fun _ h => h) w (Same.refl _ _) (Nat.le_refl _) hl
theorem rheight_is {w : World} {t : Pl.Tr} {r : Sl} (h : IsT w t r) (hl : Pl.sz t ≤ 1000000) : Calls Try.prog 17 #[.agg #[.int .i64 t.kind, .string t.text, .slice r.ga t.gaps.length r.gc, .slice r.da t.kids.length r.dc]] w fun e w' => e = .returned (.int .i64 (Pl.ht t)) ∧ Below w.heap.size w w' :=
  rheight_at h (fun _ h => h) w (Same.refl _ _) (Nat.le_refl _) hl
theorem same_is {w : World} {t u : Pl.Tr} {r q : Sl} (h : IsT w t r) (k : IsT w u q) : Calls Try.prog 25 #[.agg #[.int .i64 t.kind, .string t.text, .slice r.ga t.gaps.length r.gc, .slice r.da t.kids.length r.dc], .agg #[.int .i64 u.kind, .string u.text, .slice q.ga u.gaps.length q.gc, .slice q.da u.kids.length q.dc]] w fun e w' => e = .returned (.bool (sameT t u)) ∧ Below w.heap.size w w' :=
  same_at h (fun _ h => h) u q k w (Same.refl _ _) (Nat.le_refl _)
theorem rsame_is {w : World} {t u : Pl.Tr} {r q : Sl} (h : IsT w t r) (k : IsT w u q) : Calls Try.prog 26 #[.agg #[.int .i64 t.kind, .string t.text, .slice r.ga t.gaps.length r.gc, .slice r.da t.kids.length r.dc], .agg #[.int .i64 u.kind, .string u.text, .slice q.ga u.gaps.length q.gc, .slice q.da u.kids.length q.dc]] w fun e w' => e = .returned (.bool (sameT t u)) ∧ Below w.heap.size w w' :=
  rsame_at h (fun _ h => h) u q k w (Same.refl _ _) (Nat.le_refl _)
theorem equal_is {w : World} {t u : Pl.Tr} {r q : Sl} (h : IsT w t r) (k : IsT w u q) : Calls Try.prog 27 #[.agg #[.int .i64 t.kind, .string t.text, .slice r.ga t.gaps.length r.gc, .slice r.da t.kids.length r.dc], .agg #[.int .i64 u.kind, .string u.text, .slice q.ga u.gaps.length q.gc, .slice q.da u.kids.length q.dc]] w fun e w' => e = .returned (.bool (eqT t u)) ∧ Below w.heap.size w w' :=
  equal_at h (fun _ h => h) u q k w (Same.refl _ _) (Nat.le_refl _)
theorem requal_is {w : World} {t u : Pl.Tr} {r q : Sl} (h : IsT w t r) (k : IsT w u q) : Calls Try.prog 18 #[.agg #[.int .i64 t.kind, .string t.text, .slice r.ga t.gaps.length r.gc, .slice r.da t.kids.length r.dc], .agg #[.int .i64 u.kind, .string u.text, .slice q.ga u.gaps.length q.gc, .slice q.da u.kids.length q.dc]] w fun e w' => e = .returned (.bool (eqT t u)) ∧ Below w.heap.size w w' :=
  requal_at h (fun _ h => h) u q k w (Same.refl _ _) (Nat.le_refl _)
theorem equal_self {w : World} {t : Pl.Tr} {r q : Sl} (h : IsT w t r) (k : IsT w t q) : Calls Try.prog 27 #[.agg #[.int .i64 t.kind, .string t.text, .slice r.ga t.gaps.length r.gc, .slice r.da t.kids.length r.dc], .agg #[.int .i64 t.kind, .string t.text, .slice q.ga t.gaps.length q.gc, .slice q.da t.kids.length q.dc]] w fun e w' => e = .returned (.bool true) ∧ Below w.heap.size w w' :=
  (equal_is h k).mono fun e w' ⟨he, hb⟩ => ⟨by rw [he, show eqT t t = true from eqT_iff.2 rfl], hb⟩
theorem requal_self {w : World} {t : Pl.Tr} {r q : Sl} (h : IsT w t r) (k : IsT w t q) : Calls Try.prog 18 #[.agg #[.int .i64 t.kind, .string t.text, .slice r.ga t.gaps.length r.gc, .slice r.da t.kids.length r.dc], .agg #[.int .i64 t.kind, .string t.text, .slice q.ga t.gaps.length q.gc, .slice q.da t.kids.length q.dc]] w fun e w' => e = .returned (.bool true) ∧ Below w.heap.size w w' :=
  (requal_is h k).mono fun e w' ⟨he, hb⟩ => ⟨by rw [he, show eqT t t = true from eqT_iff.2 rfl], hb⟩
theorem same_self {w : World} {t : Pl.Tr} {r q : Sl} (h : IsT w t r) (k : IsT w t q) : Calls Try.prog 25 #[.agg #[.int .i64 t.kind, .string t.text, .slice r.ga t.gaps.length r.gc, .slice r.da t.kids.length r.dc], .agg #[.int .i64 t.kind, .string t.text, .slice q.ga t.gaps.length q.gc, .slice q.da t.kids.length q.dc]] w fun e w' => e = .returned (.bool true) ∧ Below w.heap.size w w' :=
  (same_is h k).mono fun e w' ⟨he, hb⟩ => ⟨by rw [he, show sameT t t = true from sameT_iff.2 rfl], hb⟩
theorem bare_is {w : World} {t : Pl.Tr} {r : Sl} (h : IsT w t r) (hl : Pl.sz t ≤ 1000000) : Calls Try.prog 28 #[.agg #[.int .i64 t.kind, .string t.text, .slice r.ga t.gaps.length r.gc, .slice r.da t.kids.length r.dc]] w fun e w' => ∃ q : Sl, e = .returned (.agg #[.int .i64 (Pl.bare t).kind, .string (Pl.bare t).text, .slice q.ga (Pl.bare t).gaps.length q.gc, .slice q.da (Pl.bare t).kids.length q.dc]) ∧ IsT w' (Pl.bare t) q ∧ Below w.heap.size w w' :=
  (bare_at h (fun _ h => h) w (Same.refl _ _) (Nat.le_refl _) hl).mono fun e w' ⟨q, he, ht, hb⟩ => ⟨q, he, ht.keep (Same.refl _ _) (fun b hb => hb.2), hb⟩
theorem rbare_is {w : World} {t : Pl.Tr} {r : Sl} (h : IsT w t r) (hl : Pl.sz t ≤ 1000000) : Calls Try.prog 29 #[.agg #[.int .i64 t.kind, .string t.text, .slice r.ga t.gaps.length r.gc, .slice r.da t.kids.length r.dc]] w fun e w' => ∃ q : Sl, e = .returned (.agg #[.int .i64 (Pl.bare t).kind, .string (Pl.bare t).text, .slice q.ga (Pl.bare t).gaps.length q.gc, .slice q.da (Pl.bare t).kids.length q.dc]) ∧ IsT w' (Pl.bare t) q ∧ Below w.heap.size w w' :=
  (rbare_at h (fun _ h => h) w (Same.refl _ _) (Nat.le_refl _) hl).mono fun e w' ⟨q, he, ht, hb⟩ => ⟨q, he, ht.keep (Same.refl _ _) (fun b hb => hb.2), hb⟩
theorem light_is {w : World} {t : Pl.Tr} {r : Sl} (h : IsT w t r) (o : Obj) : Calls Try.prog 10 #[.agg #[.int .i64 t.kind, .string t.text, .slice r.ga t.gaps.length r.gc, .slice r.da t.kids.length r.dc]] (w.alloc o) (LitP t (w.alloc o)) :=
  light_at h (fun _ h => h) _ (same_box (Same.refl _ _) (fun _ h => h) (Nat.le_refl _)) (by simp)
theorem light_now {w : World} {t : Pl.Tr} {r : Sl} (h : IsT w t r) : Calls Try.prog 10 #[.agg #[.int .i64 t.kind, .string t.text, .slice r.ga t.gaps.length r.gc, .slice r.da t.kids.length r.dc]] w (LitP t w) :=
  light_at h (fun _ h => h) _ (Same.refl _ _) (Nat.le_refl _)
/-- What At answers, in one word for an index that is there and for any other. -/
theorem at_one (t : Pl.Tr) (i : Int) : ∃ (u : Pl.Tr) (b : Bool), ((b = true ∧ ∃ n : Nat, i = n ∧ (Pl.pre t)[n]? = some u) ∨ (b = false ∧ (i < 0 ∨ (Pl.sz t : Int) ≤ i) ∧ u = zeroT)) ∧ ∀ w1 e w', AtP t i w1 e w' → Below w1.heap.size w1 w' ∧ ∃ q : Sl, IsT w' u q ∧
    e = .returned (.tuple #[.agg #[.int .i64 u.kind, .string u.text, .slice q.ga u.gaps.length q.gc, .slice q.da u.kids.length q.dc], .bool b]) := by
  by_cases h : i < 0 ∨ (Pl.sz t : Int) ≤ i
  · refine ⟨zeroT, false, .inr ⟨rfl, h, rfl⟩, ?_⟩
    rintro w1 e w' ⟨hb, ⟨n, u, q, rfl, hu, hq, rfl⟩ | ⟨_, rfl⟩⟩
    · have := (List.getElem?_eq_some_iff.1 hu).1
      rw [Pl.pre_len] at this
      omega
    · exact ⟨hb, ⟨none, 0, none, 0⟩, isT_zero _, rfl⟩
  · obtain ⟨n, rfl⟩ : ∃ n : Nat, i = n := ⟨i.toNat, by omega⟩
    obtain ⟨u, hu⟩ : ∃ u, (Pl.pre t)[n]? = some u := ⟨_, List.getElem?_eq_getElem (by rw [Pl.pre_len]; omega)⟩
    refine ⟨u, true, .inl ⟨rfl, n, rfl, hu⟩, ?_⟩
    rintro w1 e w' ⟨hb, ⟨m, v, q, hm, hv, hq, rfl⟩ | ⟨hno, _⟩⟩
    · obtain rfl : n = m := by omega
      rw [hu] at hv
      cases hv
      exact ⟨hb, q, hq, rfl⟩
    · exact absurd hno h
theorem at_is {w : World} {t : Pl.Tr} {r : Sl} (h : IsT w t r) (hl : Lit t) (i : Int) (hi : i ≤ 9223372036854775807) : Calls Try.prog 12 #[.agg #[.int .i64 t.kind, .string t.text, .slice r.ga t.gaps.length r.gc, .slice r.da t.kids.length r.dc], .int .i64 i] w (AtP t i w) :=
  at_at h (fun _ h => h) w (Same.refl _ _) (Nat.le_refl _) hl.gap hl.sz i hi
theorem rat_is {w : World} {t : Pl.Tr} {r : Sl} (h : IsT w t r) (hl : Lit t) (i : Int) (hi : i ≤ 9223372036854775807) : Calls Try.prog 13 #[.agg #[.int .i64 t.kind, .string t.text, .slice r.ga t.gaps.length r.gc, .slice r.da t.kids.length r.dc], .int .i64 i] w (AtP t i w) :=
  rat_at h (fun _ h => h) w (Same.refl _ _) (Nat.le_refl _) hl.sz i hi
theorem rows_is {w : World} {t : Pl.Tr} {r : Sl} (h : IsT w t r) (hl : Lit t) : Calls Try.prog 20 #[.agg #[.int .i64 t.kind, .string t.text, .slice r.ga t.gaps.length r.gc, .slice r.da t.kids.length r.dc]] w (TabP t w) :=
  rows_at h (fun _ h => h) w (Same.refl _ _) (Nat.le_refl _) hl.gap hl.sz
theorem rrows_is {w : World} {t : Pl.Tr} {r : Sl} (h : IsT w t r) (hl : Lit t) : Calls Try.prog 21 #[.agg #[.int .i64 t.kind, .string t.text, .slice r.ga t.gaps.length r.gc, .slice r.da t.kids.length r.dc]] w (TabP t w) :=
  rrowsR_at h (fun _ h => h) w (Same.refl _ _) (Nat.le_refl _) hl.sz
/-- Tables that lie somewhere in a world. -/
def IsTab (w : World) (a : Option Addr) (l : List Pl.Rw) (R : Nat → Sl) : Prop := TabIn (fun b => b < w.heap.size) w a l R
theorem IsTab.later {w w' : World} {a : Option Addr} {l : List Pl.Rw} {R : Nat → Sl} (h : IsTab w a l R) (hb : Below w.heap.size w w') : IsTab w' a l R :=
  h.keep (Same.below hb fun _ h => h) fun b h => Nat.lt_of_lt_of_le h hb.size
theorem samerows_is {w : World} {a b : Option Addr} {c d : Nat} {xs ys : List Pl.Rw} {R S : Nat → Sl} (hx : IsTab w a xs R) (hy : IsTab w b ys S) :
    Calls Try.prog 19 #[.slice a xs.length c, .slice b ys.length d] w fun e w' => e = .returned (.bool (eqR xs ys)) ∧ Below w.heap.size w w' :=
  samerows_any a b c d xs ys R S hx hy (fun _ h => h) (fun _ h => h)
theorem build_is {w : World} {a : Option Addr} {c : Nat} {l : List Pl.Rw} {R : Nat → Sl} (hx : IsTab w a l R) (hl : l.length ≤ 100000) (hg : ∀ x ∈ l, x.gaps.length ≤ 1000000 ∧ x.kids.length ≤ 1000000) :
    Calls Try.prog 23 #[.slice a l.length c] w (BuildP l w) := build_any a c l R hx (fun _ h => h) hl hg
theorem rbuild_is {w : World} {a : Option Addr} {c : Nat} {l : List Pl.Rw} {R : Nat → Sl} (hx : IsTab w a l R) (hl : l.length ≤ 100000) :
    Calls Try.prog 24 #[.slice a l.length c] w (BuildP l w) := rbuild_any a c l R hx (fun _ h => h) hl
theorem short_is {w : World} {a : Option Addr} {c : Nat} {l : List Pl.Rw} {R : Nat → Sl} (hx : IsTab w a l R) :
    Calls Try.prog 22 #[.slice a l.length c] w (ShortP l w) := short_any a c l R hx
end Go.Proofs.Ytidmbdilediplaa
