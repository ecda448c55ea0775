/- The walk of the reference's Replace. -/
import Derived.Test.YtpaleolcfhnenaaDoorRFit
namespace Go.Proofs.YtpaleolcfhnenaaDoor.Rt
open Go.RowKit
set_option linter.unusedVariables false
set_option linter.unusedSimpArgs false

/-- A tree and no error, or an error. -/
def ResP (E : Int) (T : Pl.Tr) (w1 : World) (e : Ending) (w' : World) : Prop :=
  Below w1.heap.size w1 w' ∧ ((E = 0 ∧ ∃ r : Sl, IsT w' T r ∧ e = .returned (.tuple #[.agg #[.int .i64 T.kind, .string T.text, .slice r.ga T.gaps.length r.gc, .slice r.da T.kids.length r.dc], .int .i64 0])) ∨
    (E ≠ 0 ∧ e = .returned (.tuple #[.agg #[.int .i64 0, .string ⟨#[]⟩, .slice none 0 0, .slice none 0 0], .int .i64 E])))
theorem rfit_nil (t : Pl.Tr) (r : Sl) (pa : Option Addr) (pc : Nat) (k : Int) (w1 : World) :
    Calls Tryd.prog 43 #[nv t r, .slice pa 0 pc, .int .i64 k] w1 fun e w' => e = .returned (.bool true) ∧ Below w1.heap.size w1 w' := by
  obtain ⟨ga, gc, da, dc⟩ := r
  unfold nv
  simp only
  go_enter Tryd.func43, Tryd.ntmps43
  go_wp2_with fail
  go_ret
  exact ⟨rfl, box_below _ _⟩
theorem rfitP_at {P Q : Nat → Prop} {w : World} {t v : Pl.Tr} {r : Sl} (h : Tin P w t r) (hP : ∀ b, P b → b < w.heap.size) (p : List Int) (pa : Option Addr) (pc : Nat) (hp : Ints Q w pa p) (hQ : ∀ b, Q b → b < w.heap.size) (hpc : p.length ≤ pc) (k : Int) (hv : Pl.getP p t = some v) (b : Bool) (hb : Pl.fitP t p k = b)
    (w1 : World) (hsame : Same P w w1) (hsq : Same Q w w1) (hge : w.heap.size ≤ w1.heap.size) :
    Calls Tryd.prog 43 #[nv t r, .slice pa p.length pc, .int .i64 k] w1 fun e w' => e = .returned (.bool b) ∧ Below w1.heap.size w1 w' := by
  subst hb
  rcases List.eq_nil_or_concat p with rfl | ⟨q, i, rfl⟩
  · exact rfit_nil t r pa pc k w1
  · rw [List.concat_eq_append] at *
    obtain ⟨u, hu, _⟩ := Pl.get_snoc hv
    rw [Pl.fitP_snoc i k hu, List.length_append]
    exact rfit_at h hP q i pa pc hp hQ (by rw [List.length_append] at hpc; simp at hpc; omega) k hu w1 hsame hsq hge
set_option maxHeartbeats 3200000 in
set_option maxRecDepth 100000 in
theorem rreplace_at (t x : Pl.Tr) (w : World) (r rx : Sl) (ht : IsT w t r) (hx : IsT w x rx) (p : List Int) (pa : Option Addr) (pc : Nat) (hp : Ints (fun b => b < w.heap.size) w pa p) (hpc : p.length ≤ pc) (hsz : Pl.sz t ≤ 1000000) :
    Calls Tryd.prog 20 #[nv t r, .slice pa p.length pc, nv x rx] w (ResP (Pl.replE t p x) (Pl.putP x p t) w) := by
  have hP : ∀ b, (fun b => b < w.heap.size) b → b < w.heap.size := fun _ h => h
  have HLT : ∀ W, Below w.heap.size w W → Same (fun b => b < w.heap.size) w W := fun W hb => Same.below hb hP
  have HGet := Lib.hid (fun W (hb : Below w.heap.size w W) => rget_at ht hP p pa pc hp hP W (HLT W hb) (HLT W hb) hb.size)
  have HFit := Lib.hid (fun v hv b hb W (hw : Below w.heap.size w W) => rfitP_at ht hP p pa pc hp hP hpc x.kind (v := v) hv b hb W (HLT W hw) (HLT W hw) hw.size)
  have HPut := Lib.hid (fun W (hb : Below w.heap.size w W) => rput_at x rx hP hP hx p t r pa pc ht hp hpc hsz W (HLT W hb) (HLT W hb) hb.size)
  have HIs := Lib.hid (fun v (hv : Pl.getP p t = some v) => Pl.replE_some (x := x) hv)
  have HNo := Lib.hid (fun (hv : Pl.getP p t = none) => Pl.replE_none (x := x) hv)
  obtain ⟨y, hy⟩ : ∃ y, y = Pl.putP x p t := ⟨_, rfl⟩
  obtain ⟨E, hE⟩ : ∃ E, E = Pl.replE t p x := ⟨_, rfl⟩
  obtain ⟨fb, hfb⟩ : ∃ fb, fb = Pl.fitP t p x.kind := ⟨_, rfl⟩
  rw [← hy] at HPut HIs ⊢
  rw [← hE] at HIs HNo ⊢
  rw [← hfb] at HIs
  have HFb := Lib.hid hfb
  obtain ⟨m, hm⟩ : ∃ m, m = p.length := ⟨_, rfl⟩
  obtain ⟨kx, sx, gx, ksx⟩ := x
  obtain ⟨gax, gcx, dax, dcx⟩ := rx
  obtain ⟨k0, s0, g0, ks0⟩ := t
  obtain ⟨ga, gc, da, dc⟩ := r
  obtain ⟨h1, h2, h3, h4, h5⟩ := three_new w (.cells #[.int .i64 k0, .string s0, .slice ga g0.length gc, .slice da ks0.length dc] 25) (.cells #[.int .i64 kx, .string sx, .slice gax gx.length gcx, .slice dax ksx.length dcx] 25) (.cells #[.int .i64 0, .string ⟨#[]⟩, .slice none 0 0, .slice none 0 0] 25)
  unfold nv at HGet HFit HPut ⊢
  simp only [Pl.Tr.kids, Pl.Tr.gaps, Pl.Tr.text, Pl.Tr.kind] at HGet HFit HPut HFb ⊢
  rw [← hm] at HGet HFit HPut ⊢
  generalize hT : Pl.Tr.node k0 s0 g0 ks0 = T at *
  have H1 := Lib.hid h1
  have H2 := Lib.hid h2
  have H3 := Lib.hid h3
  have H4 := Lib.hid h4
  have H5 := Lib.hid h5
  clear ht hx hp hpc hm h1 h2 h3 h4 h5 hy hE hfb hT hsz
  cases hg : Pl.getP p T with
  | none =>
    have HE : Hid (E = 5) := Lib.hid (HNo.out hg)
    have HG2 := Lib.hid hg
    clear hg HIs HNo HPut HFit
    go_enter Tryd.func20, Tryd.ntmps20
    go_wp2_with (go_at_call 16; refine (HGet.out _ H4.out).mono ?_; rintro e w2 ⟨hb2, ⟨u, r2, hu, _⟩ | ⟨_, rfl⟩⟩; (exfalso; have := HG2.out; rw [this] at hu; cases hu); have hz2 : w.heap.size + 1 + 1 < w2.heap.size := (by have := hb2.size; rw [H5.out] at this; omega); have g3 := (hb2.block (w.heap.size + 1 + 1) (by rw [H5.out]; omega)).trans H3.out; obtain ⟨⟨e0, e1, e2, e3⟩, y0, y1, y2, y3⟩ := blk_cells g3; have pa := cell_past (w.heap.size + 1 + 1); have fa := frozen_past (w.heap.size + 1 + 1); have HB2 := Lib.hid (H4.out.trans (hb2.mono H4.out.size)); clear hb2 g3)
    have hlow := (below_set4 (v0 := .int .i64 0) (v1 := .string ⟨#[]⟩) (v2 := .slice none 0 0) (v3 := .slice none 0 0) HB2.out (show w.heap.size ≤ w.heap.size + 1 + 1 by omega)).alloc (by rw [size_set4]; omega) (.cells #[.int .i64 0, .string ⟨#[]⟩, .slice none 0 0, .slice none 0 0] 25)
    exact bodyPost_ret (v := .tuple #[.agg #[.int .i64 0, .string ⟨#[]⟩, .slice none 0 0, .slice none 0 0], .int .i64 5]) (by simp [results, Tryd.results20, go_sem, pa, e0, e1, e2, e3, hz2]) rfl ⟨hlow, .inr ⟨by rw [HE.out]; decide, by rw [HE.out]⟩⟩
  | some v =>
    have HIS := Lib.hid (HIs.out v hg)
    have HG2 := Lib.hid hg
    have HGot := Lib.hid (fun W hb => (HGet.out W hb).mono fun e w' he => got_of he hg)
    clear hg HIs HNo HGet
    cases fb with
    | false =>
      have HE : Hid (E = 7) := Lib.hid (by rw [HIS.out]; rfl)
      clear HPut
      go_enter Tryd.func20, Tryd.ntmps20
      go_wp2_with (first
        | (go_at_call 16; refine (HGot.out _ H4.out).mono ?_; rintro e w2 ⟨hb2, ⟨gu, gcu, du, dcu⟩, _, rfl⟩; have hz2 : w.heap.size + 1 + 1 < w2.heap.size := (by have := hb2.size; rw [H5.out] at this; omega); have g1 := (hb2.block w.heap.size (by rw [H5.out]; omega)).trans H1.out; have g2 := (hb2.block (w.heap.size + 1) (by rw [H5.out]; omega)).trans H2.out; have g3 := (hb2.block (w.heap.size + 1 + 1) (by rw [H5.out]; omega)).trans H3.out;
            obtain ⟨⟨c0, c1, c2, c3⟩, _⟩ := blk_cells g1; obtain ⟨⟨x0, x1, x2, x3⟩, _⟩ := blk_cells g2; have G3 := Lib.hid g3; have pa0 := cell_past w.heap.size; have pa1 := cell_past (w.heap.size + 1); have hz0 : w.heap.size < w2.heap.size := (by omega); have hz1 : w.heap.size + 1 < w2.heap.size := (by omega); have HB2 := Lib.hid (H4.out.trans (hb2.mono H4.out.size)); clear hb2 g1 g2 g3)
        | (go_at_call 43; refine (HFit.out v HG2.out false HFb.out.symm _ (HB2.out.alloc (by omega) _)).mono ?_; rintro e w3 ⟨rfl, hb3⟩; have g4 := (hb3.block (w.heap.size + 1 + 1) (by simp; omega)).trans ((Below.heap_alloc _ _ _ hz2).trans G3.out); obtain ⟨⟨e0, e1, e2, e3⟩, y0, y1, y2, y3⟩ := blk_cells g4; have HB3 := Lib.hid ((HB2.out.alloc (by omega) _).trans (hb3.mono (by simp; omega))); clear hb3 g4))
      have hlow := below_set4 (v0 := .int .i64 0) (v1 := .string ⟨#[]⟩) (v2 := .slice none 0 0) (v3 := .slice none 0 0) HB3.out (show w.heap.size ≤ w.heap.size + 1 + 1 by omega)
      exact bodyPost_ret (v := .tuple #[.agg #[.int .i64 0, .string ⟨#[]⟩, .slice none 0 0, .slice none 0 0], .int .i64 7]) (by simp [results, Tryd.results20, go_sem, e0, e1, e2, e3]) rfl ⟨hlow, .inr ⟨by rw [HE.out]; decide, by rw [HE.out]⟩⟩
    | true =>
      go_enter Tryd.func20, Tryd.ntmps20
      go_wp2_with (first
        | (go_at_call 16; refine (HGot.out _ H4.out).mono ?_; rintro e w2 ⟨hb2, ⟨gu, gcu, du, dcu⟩, _, rfl⟩; have hz2 : w.heap.size + 1 + 1 < w2.heap.size := (by have := hb2.size; rw [H5.out] at this; omega); have g1 := (hb2.block w.heap.size (by rw [H5.out]; omega)).trans H1.out; have g2 := (hb2.block (w.heap.size + 1) (by rw [H5.out]; omega)).trans H2.out; have g3 := (hb2.block (w.heap.size + 1 + 1) (by rw [H5.out]; omega)).trans H3.out;
            obtain ⟨⟨c0, c1, c2, c3⟩, _⟩ := blk_cells g1; obtain ⟨⟨x0, x1, x2, x3⟩, _⟩ := blk_cells g2; have G1 := Lib.hid g1; have G2 := Lib.hid g2; have G3 := Lib.hid g3; have pa0 := cell_past w.heap.size; have pa1 := cell_past (w.heap.size + 1); have hz0 : w.heap.size < w2.heap.size := (by omega); have hz1 : w.heap.size + 1 < w2.heap.size := (by omega); have HB2 := Lib.hid (H4.out.trans (hb2.mono H4.out.size)); clear hb2 g1 g2 g3)
        | (go_at_call 43; refine (HFit.out v HG2.out true HFb.out.symm _ (HB2.out.alloc (by omega) _)).mono ?_; rintro e w3 ⟨rfl, hb3⟩; have g4 := (hb3.block (w.heap.size + 1 + 1) (by simp; omega)).trans ((Below.heap_alloc _ _ _ hz2).trans G3.out); have g5 := (hb3.block w.heap.size (by simp; omega)).trans ((Below.heap_alloc _ _ _ hz0).trans G1.out); have g6 := (hb3.block (w.heap.size + 1) (by simp; omega)).trans ((Below.heap_alloc _ _ _ hz1).trans G2.out); clear c0 c1 c2 c3 x0 x1 x2 x3; obtain ⟨⟨c0, c1, c2, c3⟩, _⟩ := blk_cells g5; obtain ⟨⟨x0, x1, x2, x3⟩, _⟩ := blk_cells g6; have G4 := Lib.hid g4; have hz3 : w.heap.size + 1 + 1 < w3.heap.size := (by have := hb3.size; simp at this; omega); have HB3 := Lib.hid ((HB2.out.alloc (by omega) _).trans (hb3.mono (by simp; omega))); clear hb3 g4 g5 g6)
        | (go_at_call 45; refine (HPut.out _ HB3.out).mono ?_; rintro e w4 ⟨⟨gy, gcy, dy, dcy⟩, rfl, hty, hb4⟩; have HB4 := Lib.hid (HB3.out.trans (hb4.mono HB3.out.size)); have hzz := HB3.out.size; have HTY := Lib.hid hty; have HPY : Hid (∀ b, (b < w.heap.size ∨ w3.heap.size ≤ b ∧ b < w4.heap.size) → b < w4.heap.size) := Lib.hid (fun b hb => by have := hb4.size; rcases hb with hb | hb; omega; exact hb.2); have hz4 : w.heap.size + 1 + 1 < w4.heap.size := (by have := hb4.size; omega); have G5 := Lib.hid ((hb4.block (w.heap.size + 1 + 1) hz3).trans G4.out); clear hb4 hty)
        | (go_at_call 44; refine (rchecked_at y w4 ⟨gy, gcy, dy, dcy⟩ HPY.out HTY.out).mono ?_; rintro e w5 ⟨hb5, ⟨hc, ⟨gz, gcz, dz, dcz⟩, htz, rfl⟩ | ⟨hc, rfl⟩⟩ <;> (have hz5 := hb5.size; have g7 := (hb5.block (w.heap.size + 1 + 1) hz4).trans G5.out; obtain ⟨⟨e0, e1, e2, e3⟩, y0, y1, y2, y3⟩ := blk_cells g7; have HB5 := Lib.hid (HB4.out.trans (hb5.mono HB4.out.size)); have HCk := Lib.hid hc; clear hb5 g7 hc)))
      · have hlow := below_set4 (v0 := .int .i64 y.kind) (v1 := .string y.text) (v2 := .slice gz y.gaps.length gcz) (v3 := .slice dz y.kids.length dcz) HB5.out (show w.heap.size ≤ w.heap.size + 1 + 1 by omega)
        refine bodyPost_ret (v := .tuple #[.agg #[.int .i64 y.kind, .string y.text, .slice gz y.gaps.length gcz, .slice dz y.kids.length dcz], .int .i64 0]) (by simp [results, Tryd.results20, go_sem, e0, e1, e2, e3]) rfl ⟨hlow, .inl ⟨by rw [HIS.out, if_neg (by decide), if_pos HCk.out], ⟨gz, gcz, dz, dcz⟩, ?_, rfl⟩⟩
        have hz3' := HB3.out.size
        exact htz.keep (fun b hb => heap_set4 (by rcases hb with hb | hb <;> omega)) (fun b hb => by rw [size_set4]; have := HPY.out b hb; omega)
      · have HE : Hid (E = 7) := Lib.hid (by rw [HIS.out, if_neg (by decide), if_neg HCk.out])
        have hlow := below_set4 (v0 := .int .i64 0) (v1 := .string ⟨#[]⟩) (v2 := .slice none 0 0) (v3 := .slice none 0 0) HB5.out (show w.heap.size ≤ w.heap.size + 1 + 1 by omega)
        exact bodyPost_ret (v := .tuple #[.agg #[.int .i64 0, .string ⟨#[]⟩, .slice none 0 0, .slice none 0 0], .int .i64 7]) (by simp [results, Tryd.results20, go_sem, e0, e1, e2, e3]) rfl ⟨hlow, .inr ⟨by rw [HE.out]; decide, by rw [HE.out]⟩⟩
end Go.Proofs.YtpaleolcfhnenaaDoor.Rt
