/- What the functions answer at the laws' sample. -/
import Derived.Test.YtidmbdilediplaaWalkSample
namespace Go.Proofs.Ytidmbdilediplaa
open Go.RowKit Go.Deep
set_option linter.unusedVariables false
set_option linter.unusedSimpArgs false

/-- The sample's value, as its slices lie. -/
def sampV (r : Sl) : Value := .agg #[.int .i64 26, .string ⟨#[]⟩, .slice r.ga 2 r.gc, .slice r.da 1 r.dc]
theorem samp_val (w1 : World) :
    Calls Try.prog 31 #[] w1 fun e w' => ∃ r : Sl, e = .returned (.agg #[.int .i64 26, .string ⟨#[]⟩, .slice r.ga 2 r.gc, .slice r.da 1 r.dc]) ∧ Tin (fun b => w1.heap.size ≤ b ∧ b < w'.heap.size) w' Pl.samp r ∧ Below w1.heap.size w1 w' :=
  (sample_any w1).mono fun e w' ⟨r, he, ht, hb⟩ => ⟨r, he, ht, hb⟩
theorem samp_gap : ∀ x ∈ Pl.pre Pl.samp, x.gaps.length ≤ 1000000 := by
  intro x hx
  have : Pl.pre Pl.samp = [Pl.samp, Pl.summ, Pl.leaf1, Pl.leaf2] := rfl
  rw [this] at hx
  simp only [List.mem_cons, List.not_mem_nil, or_false] at hx
  rcases hx with rfl | rfl | rfl | rfl <;> decide
section
variable {P : Nat → Prop} {w : World} {r : Sl} (h : Tin P w Pl.samp r) (hP : ∀ b, P b → b < w.heap.size)
include h hP
theorem samp_size (w1 : World) (hs : Same P w w1) (hg : w.heap.size ≤ w1.heap.size) :
    Calls Try.prog 14 #[.agg #[.int .i64 26, .string ⟨#[]⟩, .slice r.ga 2 r.gc, .slice r.da 1 r.dc]] w1 fun e w' => e = .returned (.int .i64 4) ∧ Below w1.heap.size w1 w' :=
  size_at h hP w1 hs hg (by decide)
theorem samp_height (w1 : World) (hs : Same P w w1) (hg : w.heap.size ≤ w1.heap.size) :
    Calls Try.prog 16 #[.agg #[.int .i64 26, .string ⟨#[]⟩, .slice r.ga 2 r.gc, .slice r.da 1 r.dc]] w1 fun e w' => e = .returned (.int .i64 3) ∧ Below w1.heap.size w1 w' :=
  height_at h hP w1 hs hg (by decide)
theorem samp_at3 (w1 : World) (hs : Same P w w1) (hg : w.heap.size ≤ w1.heap.size) :
    Calls Try.prog 12 #[.agg #[.int .i64 26, .string ⟨#[]⟩, .slice r.ga 2 r.gc, .slice r.da 1 r.dc], .int .i64 3] w1 fun e w' => Below w1.heap.size w1 w' ∧ ∃ q : Sl, e = .returned (.tuple #[.agg #[.int .i64 17, .string ⟨#[50]⟩, .slice q.ga 1 q.gc, .slice q.da 0 q.dc], .bool true]) := by
  refine Calls.mono (at_at h hP w1 hs hg samp_gap (by decide) 3 (by decide)) ?_
  rintro e w' ⟨hb, ⟨n, u, q, hn, hu, _, rfl⟩ | ⟨hn, _⟩⟩
  · obtain rfl : n = 3 := by omega
    cases hu
    exact ⟨hb, q, rfl⟩
  · have : Pl.sz Pl.samp = 4 := rfl
    omega
theorem samp_at4 (w1 : World) (hs : Same P w w1) (hg : w.heap.size ≤ w1.heap.size) :
    Calls Try.prog 12 #[.agg #[.int .i64 26, .string ⟨#[]⟩, .slice r.ga 2 r.gc, .slice r.da 1 r.dc], .int .i64 4] w1 fun e w' => Below w1.heap.size w1 w' ∧ e = .returned (.tuple #[.agg #[.int .i64 0, .string ⟨#[]⟩, .slice none 0 0, .slice none 0 0], .bool false]) := by
  refine Calls.mono (at_at h hP w1 hs hg samp_gap (by decide) 4 (by decide)) ?_
  rintro e w' ⟨hb, ⟨n, u, q, hn, hu, _, rfl⟩ | ⟨hn, rfl⟩⟩
  · obtain rfl : n = 4 := by omega
    cases hu
  · exact ⟨hb, rfl⟩
theorem samp_rows (w1 : World) (hs : Same P w w1) (hg : w.heap.size ≤ w1.heap.size) :
    Calls Try.prog 20 #[.agg #[.int .i64 26, .string ⟨#[]⟩, .slice r.ga 2 r.gc, .slice r.da 1 r.dc]] w1 fun e w' => Below w1.heap.size w1 w' ∧ ∃ (b o c b2 o2 c2 : Nat) (R : Nat → Sl), e = .returned (.slice (some ⟨b, o, none⟩) 4 c) ∧ b < w'.heap.size ∧ b2 < w'.heap.size ∧
      TabIn (fun b => b < w'.heap.size) w' (some ⟨b, o, none⟩) (Pl.tab Pl.samp 0 (-1)) R ∧ w'.cell? ⟨b, o, none⟩ = some (.int .i64 (-1)) ∧ w'.cell? ⟨b, o + 15, none⟩ = some (.int .i64 1) ∧ w'.cell? ⟨b, o + 5 + 4, none⟩ = some (.slice (some ⟨b2, o2, none⟩) 2 c2) ∧ w'.cell? ⟨b2, o2 + 1, none⟩ = some (.int .i64 3) := by
  refine Calls.mono (rows_at h hP w1 hs hg samp_gap (by decide)) ?_
  rintro e w' ⟨a, c, R, rfl, ht, hb⟩
  rcases ht.2.1 with h0 | ⟨b, o, rfl, hb1, hat⟩
  · cases h0
  · have h1 := hat 0 _ rfl
    have h2 := hat 1 _ rfl
    have h3 := hat 3 _ rfl
    have i1 := (ht.2.2 1 _ rfl).2.2.2
    rcases i1 with h0 | ⟨b2, o2, he, hb2, hi⟩
    · cases h0
    · refine ⟨hb, b, o, c, b2, o2, (R 1).dc, R, rfl, hb1, hb2, ht, ?_, ?_, ?_, hi 1 _ rfl⟩
      · exact h1.cells.1
      · exact h3.cells.1
      · have := h2.cells.2.2.2.2
        rw [he] at this
        exact this
theorem samp_bare (w1 : World) (hs : Same P w w1) (hg : w.heap.size ≤ w1.heap.size) :
    Calls Try.prog 28 #[.agg #[.int .i64 26, .string ⟨#[]⟩, .slice r.ga 2 r.gc, .slice r.da 1 r.dc]] w1 fun e w' => ∃ q : Sl, e = .returned (.agg #[.int .i64 26, .string ⟨#[]⟩, .slice q.ga 0 q.gc, .slice q.da 1 q.dc]) ∧ Tin (fun b => w1.heap.size ≤ b ∧ b < w'.heap.size) w' (Pl.bare Pl.samp) q ∧ Below w1.heap.size w1 w' :=
  (bare_at h hP w1 hs hg (by decide)).mono fun e w' ⟨q, he, ht, hb⟩ => ⟨q, he, ht, hb⟩
theorem samp_eq (q : Sl) (hq : Tin P w Pl.samp q) (w1 : World) (hs : Same P w w1) (hg : w.heap.size ≤ w1.heap.size) :
    Calls Try.prog 27 #[.agg #[.int .i64 26, .string ⟨#[]⟩, .slice r.ga 2 r.gc, .slice r.da 1 r.dc], .agg #[.int .i64 26, .string ⟨#[]⟩, .slice q.ga 2 q.gc, .slice q.da 1 q.dc]] w1 fun e w' => e = .returned (.bool true) ∧ Below w1.heap.size w1 w' :=
  (equal_at h hP Pl.samp q hq w1 hs hg).mono fun e w' ⟨he, hb⟩ => ⟨by rw [he, show eqT Pl.samp Pl.samp = true from by simp [eqT]], hb⟩
theorem samp_neq (q : Sl) (hq : Tin P w (Pl.bare Pl.samp) q) (w1 : World) (hs : Same P w w1) (hg : w.heap.size ≤ w1.heap.size) :
    Calls Try.prog 27 #[.agg #[.int .i64 26, .string ⟨#[]⟩, .slice r.ga 2 r.gc, .slice r.da 1 r.dc], .agg #[.int .i64 26, .string ⟨#[]⟩, .slice q.ga 0 q.gc, .slice q.da 1 q.dc]] w1 fun e w' => e = .returned (.bool false) ∧ Below w1.heap.size w1 w' :=
  (equal_at h hP (Pl.bare Pl.samp) q hq w1 hs hg).mono fun e w' ⟨he, hb⟩ => ⟨by rw [he, show eqT Pl.samp (Pl.bare Pl.samp) = false from by simp [eqT, Pl.samp, Pl.bare]], hb⟩
theorem samp_same (q : Sl) (hq : Tin P w (Pl.bare Pl.samp) q) (w1 : World) (hs : Same P w w1) (hg : w.heap.size ≤ w1.heap.size) :
    Calls Try.prog 25 #[.agg #[.int .i64 26, .string ⟨#[]⟩, .slice r.ga 2 r.gc, .slice r.da 1 r.dc], .agg #[.int .i64 26, .string ⟨#[]⟩, .slice q.ga 0 q.gc, .slice q.da 1 q.dc]] w1 fun e w' => e = .returned (.bool true) ∧ Below w1.heap.size w1 w' :=
  (same_at h hP (Pl.bare Pl.samp) q hq w1 hs hg).mono fun e w' ⟨he, hb⟩ => ⟨by rw [he, show sameT Pl.samp (Pl.bare Pl.samp) = true from sameT_iff.2 (by simp [Pl.samp, Pl.summ, Pl.leaf1, Pl.leaf2, Pl.bare, Pl.bares])], hb⟩
end
theorem samp_build {P : Nat → Prop} {w1 : World} (a : Option Addr) (c : Nat) (R : Nat → Sl) (hx : TabIn P w1 a (Pl.tab Pl.samp 0 (-1)) R) (hP : ∀ b, P b → b < w1.heap.size) :
    Calls Try.prog 23 #[.slice a 4 c] w1 fun e w' => ∃ r : Sl, e = .returned (.tuple #[.agg #[.int .i64 26, .string ⟨#[]⟩, .slice r.ga 2 r.gc, .slice r.da 1 r.dc], .int .i64 0]) ∧ IsT w' Pl.samp r ∧ Below w1.heap.size w1 w' := by
  refine Calls.mono (build_any a c (Pl.tab Pl.samp 0 (-1)) R hx hP (by decide) ?_) ?_
  · intro x hx
    have : Pl.tab Pl.samp 0 (-1) = [⟨-1, 26, ⟨#[]⟩, [⟨#[]⟩, ⟨#[32]⟩], [1]⟩, ⟨0, 24, ⟨#[43]⟩, [⟨#[32]⟩], [2, 3]⟩, ⟨1, 17, ⟨#[49]⟩, [⟨#[]⟩], []⟩, ⟨1, 17, ⟨#[50]⟩, [⟨#[]⟩], []⟩] := rfl
    rw [this] at hx
    simp only [List.mem_cons, List.not_mem_nil, or_false] at hx
    rcases hx with rfl | rfl | rfl | rfl <;> decide
  · rintro e w' ⟨hb, ⟨t, r, ht, hr, rfl⟩ | ⟨hn, _⟩⟩
    · obtain rfl := Pl.tab_inj0 ht
      exact ⟨r, rfl, hr, hb⟩
    · exact absurd rfl (hn Pl.samp)
theorem samp_nil (w1 : World) :
    Calls Try.prog 23 #[.slice none 0 0] w1 fun e w' => e = .returned (.tuple #[.agg #[.int .i64 0, .string ⟨#[]⟩, .slice none 0 0, .slice none 0 0], .int .i64 7]) ∧ Below w1.heap.size w1 w' := by
  refine Calls.mono (build_any (P := fun _ => False) none 0 [] (fun _ => ⟨none, 0, none, 0⟩) ⟨by decide, .inl rfl, fun j x hx => by cases hx⟩ (fun b hb => hb.elim) (by decide) (fun x hx => by cases hx)) ?_
  rintro e w' ⟨hb, ⟨t, r, ht, hr, rfl⟩ | ⟨hn, rfl⟩⟩
  · have := congrArg List.length ht
    rw [Pl.tab_len] at this
    cases t
    rw [Pl.sz] at this
    simp at this
  · exact ⟨rfl, hb⟩
end Go.Proofs.Ytidmbdilediplaa
