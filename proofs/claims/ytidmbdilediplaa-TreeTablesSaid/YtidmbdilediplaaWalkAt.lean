/- The walks of At and of the reference's At. -/
import Derived.Test.YtidmbdilediplaaWalkBare
namespace Go.Proofs.Ytidmbdilediplaa
open Go.RowKit Go.Deep
set_option linter.unusedVariables false
set_option linter.unusedSimpArgs false

theorem pre_mem_trans {t u x : Pl.Tr} {i : Nat} (h : (Pl.pre t)[i]? = some u) (hx : x ∈ Pl.pre u) : x ∈ Pl.pre t := by
  obtain ⟨h1, h2⟩ := Pl.pre_sub t i u h
  obtain ⟨j, hj⟩ := List.getElem?_of_mem hx
  have hjl : j < Pl.sz u := by rw [← Pl.pre_len]; exact (List.getElem?_eq_some_iff.1 hj).1
  exact List.mem_of_getElem? ((h2 j hjl).trans hj)
theorem cell_past (b : Nat) : ∀ (wx : World) (ob : Obj) (f : Nat), b < wx.heap.size → (wx.alloc ob).cell? ⟨b, f, none⟩ = wx.cell? ⟨b, f, none⟩ :=
  fun wx ob f h => World.cell?_of_block (w := wx) (a := ⟨b, f, none⟩) (Below.heap_alloc _ _ _ h)
theorem frozen_past (b : Nat) : ∀ (wx : World) (ob : Obj) (f : Nat), b < wx.heap.size → (wx.alloc ob).frozen? ⟨b, f, none⟩ = wx.frozen? ⟨b, f, none⟩ :=
  fun wx ob f h => World.frozen?_of_block (w := wx) (a := ⟨b, f, none⟩) (Below.heap_alloc _ _ _ h)
/-- A node's tree, or none. -/
def AtP (t : Pl.Tr) (i : Int) (w1 : World) (e : Ending) (w' : World) : Prop :=
  Below w1.heap.size w1 w' ∧ ((∃ (n : Nat) (u : Pl.Tr) (r : Sl), i = n ∧ (Pl.pre t)[n]? = some u ∧ IsT w' u r ∧ e = .returned (.tuple #[.agg #[.int .i64 u.kind, .string u.text, .slice r.ga u.gaps.length r.gc, .slice r.da u.kids.length r.dc], .bool true])) ∨
    ((i < 0 ∨ (Pl.sz t : Int) ≤ i) ∧ e = .returned (.tuple #[.agg #[.int .i64 0, .string ⟨#[]⟩, .slice none 0 0, .slice none 0 0], .bool false])))
set_option maxHeartbeats 800000 in
theorem at_at {P : Nat → Prop} {w : World} {t : Pl.Tr} {r : Sl} (h : Tin P w t r) (hP : ∀ b, P b → b < w.heap.size) (w1 : World) (hsame : Same P w w1) (hge : w.heap.size ≤ w1.heap.size) (hgap : ∀ x ∈ Pl.pre t, x.gaps.length ≤ 1000000) (hsz : Pl.sz t ≤ 1000000) (i : Int) (hi : i ≤ 9223372036854775807) :
    Calls Try.prog 12 #[.agg #[.int .i64 t.kind, .string t.text, .slice r.ga t.gaps.length r.gc, .slice r.da t.kids.length r.dc], .int .i64 i] w1 (AtP t i w1) := by
  have HF := Lib.hid (fun w1 hs hge i hi => find_at h hP w1 hs hge hsz i hi)
  have HG := Lib.hid hgap
  have HS := Lib.hid hsame
  obtain ⟨ga, gc, a, c⟩ := r
  clear h hsame hgap
  by_cases hneg : i < 0
  · go_enter Try.func12, Try.ntmps12
    go_wp2_with fail
    exact bodyPost_ret (v := .tuple #[.agg #[.int .i64 0, .string ⟨#[]⟩, .slice none 0 0, .slice none 0 0], .bool false]) (by simp [results, Try.results12, go_sem]) rfl
      ⟨((Below.refl _ _).alloc (Nat.le_refl _) _).alloc (by simp) _, .inr ⟨.inl hneg, rfl⟩⟩
  obtain ⟨n, rfl⟩ : ∃ n : Nat, i = n := ⟨i.toNat, by omega⟩
  go_enter Try.func12, Try.ntmps12
  go_wp2_with (go_at_call 32; refine (HF.out _ (same_box2 HS.out hP hge) (by simp; omega) n (by omega)).mono ?_; rintro e w2 ⟨hb2, ⟨u, r2, hv, hr2, rfl⟩ | ⟨q, hq, rfl⟩⟩ <;> (obtain ⟨_, hb8, hb5, hz2⟩ := two_after hb2; have HB2 := Lib.hid hb5; obtain ⟨⟨p0, p1, p2, p3⟩, z0, z1, z2, z3⟩ := blk_cells hb8; have pa := cell_past (w1.heap.size + 1); have fa := frozen_past (w1.heap.size + 1); have HB8 := Lib.hid hb8; clear hb8 hb2 hb5))
  · have hsu : Pl.sz u ≤ 1000000 := by have := (Pl.pre_sub t n u hv).1; omega
    have HC := Lib.hid (fun w1 hs hge => copy_at hr2 hP w1 hs hge (fun x hx => HG.out x (pre_mem_trans hv hx)) hsu)
    have HV := Lib.hid hv
    have HSW : Hid (Same P w w2) := Lib.hid (HS.out.trans (Same.below HB2.out fun b hb => Nat.lt_of_lt_of_le (hP b hb) hge))
    clear hv
    go_wp2_with (go_at_call 33; refine (HC.out _ (same_box HSW.out hP (by omega)) (by simp; omega)).mono ?_; rintro e w3 ⟨⟨ga3, gc3, da3, dc3⟩, rfl, ht3, hb3⟩; have hz3 := hb3.size; simp at hz3; have hblk := (hb3.block (w1.heap.size + 1) (by simp; omega)).trans ((Below.heap_alloc _ _ _ hz2).trans HB8.out); obtain ⟨⟨s0, s1, s2, s3⟩, y0, y1, y2, y3⟩ := blk_cells hblk; have HT3 := Lib.hid ht3; have HB3 := Lib.hid hb3; clear ht3 hb3 hblk)
    refine bodyPost_ret (v := .tuple #[.agg #[.int .i64 u.kind, .string u.text, .slice ga3 u.gaps.length gc3, .slice da3 u.kids.length dc3], .bool true]) (by simp [results, Try.results12, go_sem, s0, s1, s2, s3]) rfl
      ⟨below_set4 ((HB2.out.alloc (by omega) _).trans (HB3.out.mono (by simp; omega))) (by omega), .inl ⟨n, u, ⟨ga3, gc3, da3, dc3⟩, rfl, HV.out, ?_, rfl⟩⟩
    exact HT3.out.keep (fun x hx => heap_set4 (by simp at hx; omega)) (fun x hx => by simp at hx ⊢; omega)
  · have hQ := Lib.hid hq
    clear hq
    exact bodyPost_ret (v := .tuple #[.agg #[.int .i64 0, .string ⟨#[]⟩, .slice none 0 0, .slice none 0 0], .bool false]) (by simp [results, Try.results12, go_sem, p0, p1, p2, p3, pa, hz2]) rfl
      ⟨(below_set4 HB2.out (by omega)).alloc (by simp; omega) _, .inr ⟨.inr (by have := hQ.out; omega), rfl⟩⟩
set_option maxHeartbeats 800000 in
theorem rat_at {P : Nat → Prop} {w : World} {t : Pl.Tr} {r : Sl} (h : Tin P w t r) (hP : ∀ b, P b → b < w.heap.size) (w1 : World) (hsame : Same P w w1) (hge : w.heap.size ≤ w1.heap.size) (hsz : Pl.sz t ≤ 1000000) (i : Int) (hi : i ≤ 9223372036854775807) :
    Calls Try.prog 13 #[.agg #[.int .i64 t.kind, .string t.text, .slice r.ga t.gaps.length r.gc, .slice r.da t.kids.length r.dc], .int .i64 i] w1 (AtP t i w1) := by
  have HF := Lib.hid (fun w1 hs hge i hi => rfind_at h hP w1 hs hge hsz i hi)
  have HS := Lib.hid hsame
  obtain ⟨ga, gc, a, c⟩ := r
  clear h hsame
  by_cases hneg : i < 0
  · go_enter Try.func13, Try.ntmps13
    go_wp2_with fail
    exact bodyPost_ret (v := .tuple #[.agg #[.int .i64 0, .string ⟨#[]⟩, .slice none 0 0, .slice none 0 0], .bool false]) (by simp [results, Try.results13, go_sem]) rfl
      ⟨((Below.refl _ _).alloc (Nat.le_refl _) _).alloc (by simp) _, .inr ⟨.inl hneg, rfl⟩⟩
  obtain ⟨n, rfl⟩ : ∃ n : Nat, i = n := ⟨i.toNat, by omega⟩
  go_enter Try.func13, Try.ntmps13
  go_wp2_with (go_at_call 34; refine (HF.out _ (same_box2 HS.out hP hge) (by simp; omega) n (by omega)).mono ?_; rintro e w2 ⟨hb2, ⟨u, r2, hv, hr2, rfl⟩ | ⟨q, hq, rfl⟩⟩ <;> (obtain ⟨_, hb8, hb5, hz2⟩ := two_after hb2; have HB2 := Lib.hid hb5; obtain ⟨⟨p0, p1, p2, p3⟩, z0, z1, z2, z3⟩ := blk_cells hb8; have pa := cell_past (w1.heap.size + 1); have fa := frozen_past (w1.heap.size + 1); have HB8 := Lib.hid hb8; clear hb8 hb2 hb5))
  · have HV := Lib.hid hv
    have HSW : Hid (Same P w w2) := Lib.hid (HS.out.trans (Same.below HB2.out fun b hb => Nat.lt_of_lt_of_le (hP b hb) hge))
    refine bodyPost_ret (v := .tuple #[.agg #[.int .i64 u.kind, .string u.text, .slice r2.ga u.gaps.length r2.gc, .slice r2.da u.kids.length r2.dc], .bool true]) (by simp [results, Try.results13, go_sem, p0, p1, p2, p3, pa, hz2]) rfl
      ⟨(below_set4 HB2.out (by omega)).alloc (by simp; omega) _, .inl ⟨n, u, r2, rfl, HV.out, ?_, rfl⟩⟩
    refine hr2.keep (HSW.out.trans fun x hx => ?_) (fun x hx => ?_)
    · have := hP x hx
      exact (Below.heap_alloc _ _ _ (by simp; omega)).trans (heap_set4 (by omega))
    · have := hP x hx
      simp; omega
  · have hQ := Lib.hid hq
    clear hq
    exact bodyPost_ret (v := .tuple #[.agg #[.int .i64 0, .string ⟨#[]⟩, .slice none 0 0, .slice none 0 0], .bool false]) (by simp [results, Try.results13, go_sem, p0, p1, p2, p3, pa, hz2]) rfl
      ⟨(below_set4 HB2.out (by omega)).alloc (by simp; omega) _, .inr ⟨.inr (by have := hQ.out; omega), rfl⟩⟩
end Go.Proofs.Ytidmbdilediplaa
