/- The walk of the reference's Insert. -/
import Derived.Test.YtpaleolcfhnenaaDoorRRep
namespace Go.Proofs.YtpaleolcfhnenaaDoor.Rt
open Go.RowKit
set_option linter.unusedVariables false
set_option linter.unusedSimpArgs false

/-- A box that holds a node or nothing: what Get's error was. -/
def NoneP (w1 : World) (e : Ending) (w' : World) : Prop :=
  Below w1.heap.size w1 w' ∧ e = .returned (.tuple #[.agg #[.int .i64 0, .string ⟨#[]⟩, .slice none 0 0, .slice none 0 0], .int .i64 5])
theorem none_of {P : Nat → Prop} {w w1 w' : World} {t : Pl.Tr} {p : List Int} {e : Ending} (h : GetP P w t p w1 e w') (hu : Pl.getP p t = none) : NoneP w1 e w' := by
  obtain ⟨h1, ⟨v, r, hv, _⟩ | ⟨_, he⟩⟩ := h
  · rw [hu] at hv; cases hv
  · exact ⟨h1, he⟩
theorem below_of_dN {w w' : World} {n : Nat} (h : Below (w.drewN n).heap.size (w.drewN n) w') : Below w.heap.size w w' := ⟨h.os, h.tape, h.output, h.size, h.block⟩
/-- Well-formed, or not: the error E. -/
def ChkV (P : Nat → Prop) (T : Pl.Tr) (E : Int) (w1 : World) (e : Ending) (w' : World) : Prop :=
  Below w1.heap.size w1 w' ∧ ∃ (U : Pl.Tr) (r : Sl), Tin P w' U r ∧ (E = 0 → U = T) ∧ (E ≠ 0 → U = zeroT ∧ r = ⟨none, 0, none, 0⟩) ∧ e = .returned (.tuple #[.agg #[.int .i64 U.kind, .string U.text, .slice r.ga U.gaps.length r.gc, .slice r.da U.kids.length r.dc], .int .i64 E])
theorem tin_zero (P : Nat → Prop) (w : World) : Tin P w zeroT ⟨none, 0, none, 0⟩ := .mk zeroT _ (fun _ => ⟨none, 0, none, 0⟩) (by decide) (strs_nil _ _ _) (by decide) (.inl rfl) (fun j t h => by cases j <;> cases h) (Nat.zero_le _)
theorem chkv_of {P : Nat → Prop} {T : Pl.Tr} {E : Int} {w1 w' : World} {e : Ending} (h : ChkP P T w1 e w') (hE : E = if Pl.rchk T = 0 then 0 else 7) : ChkV P T E w1 e w' := by
  obtain ⟨h1, ⟨hc, r, ht, he⟩ | ⟨hc, he⟩⟩ := h
  · rw [if_pos hc] at hE
    exact ⟨h1, T, r, ht, fun _ => rfl, fun h => absurd hE h, by rw [he, hE]⟩
  · rw [if_neg hc] at hE
    exact ⟨h1, zeroT, ⟨none, 0, none, 0⟩, tin_zero _ _, (fun h => by omega), fun _ => ⟨rfl, rfl⟩, by rw [he, hE]; rfl⟩
/-- The answer, stored and handed back. -/
theorem res_of {P : Nat → Prop} {T U : Pl.Tr} {E : Int} {r : Sl} {w w8 wz : World} (hb : Below w.heap.size w wz) (h1 : E = 0 → U = T) (h2 : E ≠ 0 → U = zeroT ∧ r = ⟨none, 0, none, 0⟩) (ht : IsT wz U r) :
    ResP E T w (.returned (.tuple #[.agg #[.int .i64 U.kind, .string U.text, .slice r.ga U.gaps.length r.gc, .slice r.da U.kids.length r.dc], .int .i64 E])) wz := by
  refine ⟨hb, ?_⟩
  by_cases hE : E = 0
  · obtain rfl := h1 hE
    exact .inl ⟨hE, r, ht, by rw [hE]⟩
  · obtain ⟨rfl, rfl⟩ := h2 hE
    exact .inr ⟨hE, rfl⟩
/-- All but one block. -/
def Off (rb : Nat) (w : World) (b : Nat) : Prop := b ≠ rb ∧ b < w.heap.size
theorem off_lt (rb : Nat) (w : World) : ∀ b, Off rb w b → b < w.heap.size := fun b h => h.2
theorem rinsert_nil (t x : Pl.Tr) (w : World) (r rx : Sl) (pa : Option Addr) (pc : Nat) :
    Calls Tryd.prog 22 #[nv t r, .slice pa 0 pc, nv x rx] w (ResP (Pl.insE t [] x) (Pl.insT t [] x) w) := by
  obtain ⟨ga, gc, da, dc⟩ := r
  obtain ⟨gax, gcx, dax, dcx⟩ := rx
  unfold nv
  simp only
  rw [Pl.insE_nil]
  go_enter Tryd.func22, Tryd.ntmps22
  go_wp2_with fail
  exact bodyPost_ret (v := .tuple #[.agg #[.int .i64 0, .string ⟨#[]⟩, .slice none 0 0, .slice none 0 0], .int .i64 5]) (by simp [results, Tryd.results22, go_sem]) rfl ⟨(three_new w _ _ _).2.2.2.1, .inr ⟨by decide, rfl⟩⟩
/-- How many kids there are behind a round. -/
def cnt (a j n : Nat) : Nat := if a < j then min (j + 1) (n + 1) else j
set_option maxHeartbeats 6400000 in
set_option maxRecDepth 100000 in
theorem rinsert_at (t x : Pl.Tr) (w : World) (r rx : Sl) (ht : IsT w t r) (hx : IsT w x rx) (p : List Int) (i : Int) (pa : Option Addr) (pc : Nat) (hp : Ints (fun b => b < w.heap.size) w pa (p ++ [i])) (hpc : p.length < pc) (hsz : Pl.sz t ≤ 900000) :
    Calls Tryd.prog 22 #[nv t r, .slice pa (p.length + 1) pc, nv x rx] w (ResP (Pl.insE t (p ++ [i]) x) (Pl.insT t (p ++ [i]) x) w) := by
  obtain ⟨i0, hi0, hz0, hz1, hz2⟩ := info_parts infoN
  have hP : ∀ b, (fun b => b < w.heap.size) b → b < w.heap.size := fun _ h => h
  have HLT : ∀ W, Below w.heap.size w W → Same (fun b => b < w.heap.size) w W := fun W hb => Same.below hb hP
  obtain ⟨b1, o1, rfl, hb1, ci⟩ := ints_last hp
  have hpl := hp.1
  rw [List.length_append] at hpl
  unfold maxLen at hpl
  simp only [List.length_cons, List.length_nil] at hpl
  have hpi := ints_init hp
  have HPI := Lib.hid hpi
  have HX := Lib.hid hx
  have HT := Lib.hid ht
  have HGet := Lib.hid (fun W (hb : Below w.heap.size w W) => rget_at ht hP p (some ⟨b1, o1, none⟩) pc hpi hP W (HLT W hb) (HLT W hb) hb.size)
  have HFit := Lib.hid (fun u hu W (hw : Below w.heap.size w W) => rfit_at (u := u) ht hP p i (some ⟨b1, o1, none⟩) pc hp hP hpc x.kind hu W (HLT W hw) (HLT W hw) hw.size)
  have HIs := Lib.hid (fun u (hu : Pl.getP p t = some u) => Pl.insE_some i x hu)
  have HIt := Lib.hid (fun u (hu : Pl.getP p t = some u) => Pl.insT_snoc i x hu)
  have HNo := Lib.hid (fun (hu : Pl.getP p t = none) => Pl.insE_none i x hu)
  obtain ⟨y, hy⟩ : ∃ y, y = Pl.insT t (p ++ [i]) x := ⟨_, rfl⟩
  obtain ⟨E, hE⟩ : ∃ E, E = Pl.insE t (p ++ [i]) x := ⟨_, rfl⟩
  rw [← hy] at HIs HIt ⊢
  rw [← hE] at HIs HNo ⊢
  obtain ⟨m, hm⟩ : ∃ m, m = p.length := ⟨_, rfl⟩
  have HM := Lib.hid hm
  have HZ := Lib.hid hsz
  obtain ⟨kx, sx, gx, ksx⟩ := x
  obtain ⟨gax, gcx, dax, dcx⟩ := rx
  obtain ⟨k0, s0, g0, ks0⟩ := t
  obtain ⟨ga, gc, da, dc⟩ := r
  unfold nv at HGet HFit ⊢
  simp only [kids_node, gaps_node, text_node, kind_node] at HGet HFit HIs ⊢
  rw [← hm] at HGet HFit hpl hpc ci ⊢
  generalize hTT : Pl.Tr.node k0 s0 g0 ks0 = T at *
  obtain ⟨W, hW⟩ : ∃ W, W = ((w.alloc (.cells #[.int .i64 k0, .string s0, .slice ga g0.length gc, .slice da ks0.length dc] 25)).alloc (.cells #[.int .i64 kx, .string sx, .slice gax gx.length gcx, .slice dax ksx.length dcx] 25)).alloc (.cells #[.int .i64 0, .string ⟨#[]⟩, .slice none 0 0, .slice none 0 0] 25) := ⟨_, rfl⟩
  obtain ⟨h1, h2, h3, h4, h5⟩ := three_new w (.cells #[.int .i64 k0, .string s0, .slice ga g0.length gc, .slice da ks0.length dc] 25) (.cells #[.int .i64 kx, .string sx, .slice gax gx.length gcx, .slice dax ksx.length dcx] 25) (.cells #[.int .i64 0, .string ⟨#[]⟩, .slice none 0 0, .slice none 0 0] 25)
  rw [← hW] at h1 h2 h3 h4 h5
  have H1 := Lib.hid h1
  have H2 := Lib.hid h2
  have H3 := Lib.hid h3
  have H4 := Lib.hid h4
  have H5 := Lib.hid h5
  have HW := Lib.hid hW
  have hm1 : ((m : Int) + 1 == 0) = false := by simp; omega
  have hm0 : (0 : Int) ≤ (m : Int) := Int.natCast_nonneg _
  have hm2 : (m : Int) ≤ (pc : Int) := by omega
  have hm3 : (m : Int) < (m : Int) + 1 := by omega
  have hmn : decide ((m : Int) < 0) = false := by simp
  have ciW := (h4.cell (p := ⟨b1, o1 + m, none⟩) hb1).trans ci
  obtain ⟨⟨c0, c1, c2, c3⟩, _⟩ := blk_cells h1
  have hbW : w.heap.size < W.heap.size := by omega
  have HDR : Hid (∀ (wx : World) (f : Nat), wx.drew.cell? ⟨w.heap.size, f, none⟩ = wx.cell? ⟨w.heap.size, f, none⟩) := Lib.hid fun _ _ => rfl
  have HPA := Lib.hid (cell_past w.heap.size)
  have HTE := Lib.hid hTT
  clear ht hx hp hpi hm h1 h2 h3 h4 h5 hy hE hsz hTT ci
  cases hg : Pl.getP p T with
  | none =>
    have HE : Hid (E = 5) := Lib.hid (HNo.out hg)
    have HGot := Lib.hid (fun W hb => (HGet.out W hb).mono fun e w' he => none_of he hg)
    clear hg HIs HNo HGet HFit HIt
    go_enter Tryd.func22, Tryd.ntmps22
    go_upto_region 4 with fail
    rw [← HW.out]
    clear hW HW
    go_cut [9, 10] (fun s9 s10 X => s10 = .int .i64 5 ∧ Below W.heap.size W X)
    case first =>
      go_region_held3 (fun w' => ∀ f : Nat, w'.cell? ⟨w.heap.size, f, none⟩ = W.cell? ⟨w.heap.size, f, none⟩)
        ((intro f
          iterate 6 (first
            | (with_reducible exact rfl)
            | (with_reducible exact HQ.out f)
            | (with_reducible refine (HDR.out _ _).trans ?_)
            | (with_reducible refine (HPA.out _ _ _ ?_).trans ?_; focus (first | omega | (simp; done) | (simp; omega)))
            | (with_reducible refine (cell_set4 ?_).trans ?_; focus omega)
            | skip)))
        ((first
          | (go_at_call 16; refine (HGot.out W.drew H4.out.drew).mono ?_; rintro e w2 ⟨hb2', rfl⟩;
             have hb2 : Below W.heap.size W w2 := ((Below.refl W.heap.size W).drew).trans hb2';
             have HQ : Hid (∀ f : Nat, w2.cell? ⟨w.heap.size, f, none⟩ = W.cell? ⟨w.heap.size, f, none⟩) := Lib.hid (fun f => hb2.cell (p := ⟨w.heap.size, f, none⟩) hbW);
             have hs2 := hb2.size; have HB2 := Lib.hid hb2; clear hb2' hb2)
          | (go_at_call 16; refine (HGot.out (W.alloc (.cells #[.int .i64 0, .string ⟨#[]⟩, .slice none 0 0, .slice none 0 0] 25)).drew ((H4.out.alloc (by omega) _).drew)).mono ?_; rintro e w2 ⟨hb2', rfl⟩;
             have hb2 : Below W.heap.size W w2 := (box_below W (.cells #[.int .i64 0, .string ⟨#[]⟩, .slice none 0 0, .slice none 0 0] 25)).drew.trans (hb2'.mono (by show W.heap.size ≤ (W.alloc _).heap.size; simp));
             have HQ : Hid (∀ f : Nat, w2.cell? ⟨w.heap.size, f, none⟩ = W.cell? ⟨w.heap.size, f, none⟩) := Lib.hid (fun f => hb2.cell (p := ⟨w.heap.size, f, none⟩) hbW);
             have hnb2 := (hb2'.block W.heap.size (by show W.heap.size < (W.alloc _).heap.size; simp)).trans (heap_alloc_new W (.cells #[.int .i64 0, .string ⟨#[]⟩, .slice none 0 0, .slice none 0 0] 25));
             obtain ⟨⟨p0, p1, p2, p3⟩, z0, z1, z2, z3⟩ := blk_cells hnb2;
             have NB2 := Lib.hid hnb2; have hs2 := hb2.size; have HB2 := Lib.hid hb2; clear hb2' hb2 hnb2)))
      all_goals go_wp2_with fail
      all_goals go_meet
      all_goals first
        | (have g9 := NB2.out; clear g9; exact ⟨rfl, below_set4 HB2.out (Nat.le_refl _)⟩)
        | exact ⟨rfl, HB2.out.alloc (by omega) _⟩
    case rest =>
      obtain ⟨rfl, hl⟩ := hcut
      have g3 := (hl.block (w.heap.size + 2) (by rw [H5.out]; omega)).trans H3.out
      obtain ⟨⟨e0, e1, e2, e3⟩, y0, y1, y2, y3⟩ := blk_cells g3
      have HL := Lib.hid (H4.out.trans (hl.mono H4.out.size))
      clear c0 c1 c2 c3 HDR HPA hl g3 ciW
      go_wp2_with fail
      go_quiet (fail)
      go_wp2_with fail
      have dd : ∀ a, (wc.drewN nq).cell? a = wc.cell? a := fun _ => rfl
      have hlow := below_set4 (v0 := .int .i64 0) (v1 := .string ⟨#[]⟩) (v2 := .slice none 0 0) (v3 := .slice none 0 0) (below_dN HL.out nq) (show w.heap.size ≤ w.heap.size + 1 + 1 by omega)
      exact bodyPost_ret (v := .tuple #[.agg #[.int .i64 0, .string ⟨#[]⟩, .slice none 0 0, .slice none 0 0], .int .i64 5]) (by simp [results, Tryd.results22, go_sem, dd, e0, e1, e2, e3]) rfl ⟨hlow, .inr ⟨by rw [HE.out]; decide, by rw [HE.out]⟩⟩
  | some u =>
    have HIS := Lib.hid (HIs.out u hg)
    have HIT := Lib.hid (HIt.out u hg)
    have HG2 := Lib.hid hg
    have HGot := Lib.hid (fun W hb => (HGet.out W hb).mono fun e w' he => got_of he hg)
    clear hg HIs HNo HGet HIt
    go_enter Tryd.func22, Tryd.ntmps22
    go_upto_region 4 with fail
    rw [← HW.out]
    clear hW HW
    go_cut [9, 10] (fun s9 s10 X => ∃ NB : Nat, s9 = .pointer (some ⟨NB, 0, none⟩) ∧ s10 = .int .i64 0 ∧ Got (fun b => b < w.heap.size) w W X NB u)
    case first =>
      go_region_held3 (fun w' => ∀ f : Nat, w'.cell? ⟨w.heap.size, f, none⟩ = W.cell? ⟨w.heap.size, f, none⟩)
        ((intro f
          iterate 6 (first
            | (with_reducible exact rfl)
            | (with_reducible exact HQ.out f)
            | (with_reducible refine (HDR.out _ _).trans ?_)
            | (with_reducible refine (HPA.out _ _ _ ?_).trans ?_; focus (first | omega | (simp; done) | (simp; omega)))
            | (with_reducible refine (cell_set4 ?_).trans ?_; focus omega)
            | skip)))
        ((first
          | (go_at_call 16; refine (HGot.out W.drew H4.out.drew).mono ?_; rintro e w2 ⟨hb2', ⟨ga2, gc2, da2, dc2⟩, ht2, rfl⟩;
             have hb2 : Below W.heap.size W w2 := ((Below.refl W.heap.size W).drew).trans hb2';
             have HQ : Hid (∀ f : Nat, w2.cell? ⟨w.heap.size, f, none⟩ = W.cell? ⟨w.heap.size, f, none⟩) := Lib.hid (fun f => hb2.cell (p := ⟨w.heap.size, f, none⟩) hbW);
             have hs2 := hb2.size; have HB2 := Lib.hid hb2; have HT2 := Lib.hid ht2; clear hb2' hb2 ht2)
          | (go_at_call 16; refine (HGot.out (W.alloc (.cells #[.int .i64 0, .string ⟨#[]⟩, .slice none 0 0, .slice none 0 0] 25)).drew ((H4.out.alloc (by omega) _).drew)).mono ?_; rintro e w2 ⟨hb2', ⟨ga2, gc2, da2, dc2⟩, ht2, rfl⟩;
             have hb2 : Below W.heap.size W w2 := (box_below W (.cells #[.int .i64 0, .string ⟨#[]⟩, .slice none 0 0, .slice none 0 0] 25)).drew.trans (hb2'.mono (by show W.heap.size ≤ (W.alloc _).heap.size; simp));
             have HQ : Hid (∀ f : Nat, w2.cell? ⟨w.heap.size, f, none⟩ = W.cell? ⟨w.heap.size, f, none⟩) := Lib.hid (fun f => hb2.cell (p := ⟨w.heap.size, f, none⟩) hbW);
             have hnb2 := (hb2'.block W.heap.size (by show W.heap.size < (W.alloc _).heap.size; simp)).trans (heap_alloc_new W (.cells #[.int .i64 0, .string ⟨#[]⟩, .slice none 0 0, .slice none 0 0] 25));
             obtain ⟨⟨p0, p1, p2, p3⟩, z0, z1, z2, z3⟩ := blk_cells hnb2;
             have NB2 := Lib.hid hnb2; have hs2 := hb2.size; have HB2 := Lib.hid hb2; have HT2 := Lib.hid ht2; clear hb2' hb2 ht2 hnb2)))
      all_goals go_wp2_with fail
      all_goals go_meet
      all_goals first
        | (have g9 := NB2.out; clear g9; exact ⟨W.heap.size, rfl, rfl, got_set HB2.out HT2.out NB2.out⟩)
        | exact ⟨w2.heap.size, rfl, rfl, got_new HB2.out HT2.out⟩
    case rest =>
      obtain ⟨NB, rfl, rfl, hgot⟩ := hcut
      obtain ⟨hl, hnbge, ru, htu, hbox⟩ := hgot
      obtain ⟨gu, gcu, du, dcu⟩ := ru
      have hwz : W.heap.size = w.heap.size + 3 := H5.out
      have g1 := (hl.block w.heap.size (by omega)).trans H1.out
      have g2 := (hl.block (w.heap.size + 1) (by omega)).trans H2.out
      have g3 := (hl.block (w.heap.size + 1 + 1) (by omega)).trans H3.out
      obtain ⟨⟨n0, n1, n2, n3⟩, _⟩ := blk_cells hbox
      obtain ⟨⟨e0, e1, e2, e3⟩, y0, y1, y2, y3⟩ := blk_cells g3
      have ciX := (hl.cell (p := ⟨b1, o1 + m, none⟩) (show b1 < W.heap.size by have hb1' : b1 < w.heap.size := hb1; omega)).trans ciW
      have HL := Lib.hid (H4.out.trans (hl.mono H4.out.size))
      have HLW := Lib.hid hl
      have G1 := Lib.hid g1
      have G2 := Lib.hid g2
      have G3 := Lib.hid g3
      have GN := Lib.hid hbox
      have HTU := Lib.hid htu
      have hul : u.kids.length ≤ maxLen := by cases htu with | mk _ _ R _ _ hl _ _ => exact hl
      unfold maxLen at hul
      have hnbl : NB < wc.heap.size := lt_blk hbox
      clear c0 c1 c2 c3 HDR HPA hl g1 g2 g3 ciW htu hbox HGot
      by_cases hneg : i < 0
      · have HE : Hid (E = 5) := Lib.hid (by rw [HIS.out, if_pos (.inl hneg)])
        go_wp2_with fail
        go_quiet (fail)
        go_wp2_with fail
        have dd : ∀ a, (wc.drewN nq).cell? a = wc.cell? a := fun _ => rfl
        have hlow := below_set4 (v0 := .int .i64 0) (v1 := .string ⟨#[]⟩) (v2 := .slice none 0 0) (v3 := .slice none 0 0) (below_dN HL.out nq) (show w.heap.size ≤ w.heap.size + 1 + 1 by omega)
        exact bodyPost_ret (v := .tuple #[.agg #[.int .i64 0, .string ⟨#[]⟩, .slice none 0 0, .slice none 0 0], .int .i64 5]) (by simp [results, Tryd.results22, go_sem, dd, e0, e1, e2, e3]) rfl ⟨hlow, .inr ⟨by rw [HE.out]; decide, by rw [HE.out]⟩⟩
      by_cases hbig : (u.kids.length : Int) < i
      · have HE : Hid (E = 5) := Lib.hid (by rw [HIS.out, if_pos (.inr hbig)])
        go_wp2_with fail
        go_quiet (fail)
        go_wp2_with fail
        have dd : ∀ a, (wc.drewN nq).cell? a = wc.cell? a := fun _ => rfl
        have hlow := below_set4 (v0 := .int .i64 0) (v1 := .string ⟨#[]⟩) (v2 := .slice none 0 0) (v3 := .slice none 0 0) (below_dN HL.out nq) (show w.heap.size ≤ w.heap.size + 1 + 1 by omega)
        exact bodyPost_ret (v := .tuple #[.agg #[.int .i64 0, .string ⟨#[]⟩, .slice none 0 0, .slice none 0 0], .int .i64 5]) (by simp [results, Tryd.results22, go_sem, dd, e0, e1, e2, e3]) rfl ⟨hlow, .inr ⟨by rw [HE.out]; decide, by rw [HE.out]⟩⟩
      obtain ⟨a, rfl⟩ : ∃ a : Nat, i = a := ⟨i.toNat, by omega⟩
      have hal : a ≤ u.kids.length := by omega
      have HIS2 : Hid (E = if Pl.fits u.kind a kx = false then 7 else if Pl.rchk y = 0 then 0 else 7) := Lib.hid (by rw [HIS.out]; exact if_neg (by omega))
      have HIT2 : Hid (y = Pl.putP (Pl.wth u (Pl.insK u.kids a (.node kx sx gx ksx))) p T) := Lib.hid (by rw [HIT.out, Int.toNat_natCast])
      clear HIS HIT
      obtain ⟨fb, hfb⟩ : ∃ fb, fb = Pl.fits u.kind a kx := ⟨_, rfl⟩
      have HF2 := Lib.hid (HFit.out u HG2.out)
      rw [← hfb] at HIS2 HF2
      have ha0 : (0 : Int) ≤ (a : Int) := Int.natCast_nonneg _
      have hng : decide ((a : Int) < 0) = false := by simp
      clear hfb HFit hneg hbig
      obtain ⟨f0, f1, f2, f3⟩ := (blk_cells G1.out).1
      obtain ⟨x0, x1, x2, x3⟩ := (blk_cells G2.out).1
      go_wp2_with fail
      go_quiet (fail)
      have dq : ∀ a, (wc.drewN nq).cell? a = wc.cell? a := fun _ => rfl
      have HL' := Lib.hid (below_dN HL.out nq)
      cases fb with
      | false =>
        have HE : Hid (E = 7) := Lib.hid (by rw [HIS2.out]; rfl)
        go_wp2_with (go_at_call 43; refine (HF2.out _ HL'.out).mono ?_; rintro e w3 ⟨rfl, hb3⟩; have hb3' := below_of_dN hb3; have hz3 := hb3'.size; have hwl := HLW.out.size; have g4 := (hb3'.block (w.heap.size + 1 + 1) (by omega)).trans G3.out; clear e0 e1 e2 e3 y0 y1 y2 y3; obtain ⟨⟨e0, e1, e2, e3⟩, y0, y1, y2, y3⟩ := blk_cells g4; have HB3 := Lib.hid (HL'.out.trans (hb3.mono HL'.out.size)); clear hb3 hb3' g4)
        have hlow := below_set4 (v0 := .int .i64 0) (v1 := .string ⟨#[]⟩) (v2 := .slice none 0 0) (v3 := .slice none 0 0) HB3.out (show w.heap.size ≤ w.heap.size + 1 + 1 by omega)
        exact bodyPost_ret (v := .tuple #[.agg #[.int .i64 0, .string ⟨#[]⟩, .slice none 0 0, .slice none 0 0], .int .i64 7]) (by simp [results, Tryd.results22, go_sem, e0, e1, e2, e3]) rfl ⟨hlow, .inr ⟨by rw [HE.out]; decide, by rw [HE.out]⟩⟩
      | true =>
        have HE : Hid (E = if Pl.rchk y = 0 then 0 else 7) := Lib.hid (by rw [HIS2.out, if_neg (by decide)])
        clear HIS2
        go_wp2_with (go_at_call 43; refine (HF2.out _ HL'.out).mono ?_; rintro e w3 ⟨rfl, hb3⟩; have hb3' := below_of_dN hb3; have hz3 := hb3'.size; have hwl := HLW.out.size; have q1 := (hb3'.block w.heap.size (by omega)).trans G1.out; have q2 := (hb3'.block (w.heap.size + 1) (by omega)).trans G2.out; have q3 := (hb3'.block (w.heap.size + 1 + 1) (by omega)).trans G3.out; have qn := (hb3'.block NB hnbl).trans GN.out; have qi := (hb3'.cell (p := ⟨b1, o1 + m, none⟩) (show b1 < wc.heap.size by have hb1' : b1 < w.heap.size := hb1; omega)).trans ciX; have Q1 := Lib.hid q1; have Q2 := Lib.hid q2; have Q3 := Lib.hid q3; have QN := Lib.hid qn; have QI := Lib.hid qi; have HB3 := Lib.hid (HL'.out.trans (hb3.mono HL'.out.size)); clear hb3 hb3' q1 q2 q3 qn qi)
        clear e0 e1 e2 e3 y0 y1 y2 y3 n0 n1 n2 n3 f0 f1 f2 f3 x0 x1 x2 x3
        obtain ⟨n, hn⟩ : ∃ n, n = u.kids.length := ⟨_, rfl⟩
        have HN := Lib.hid hn
        have hns : n ≤ 900000 := by
          have := (Pl.idx_get (x := (Pl.idxP p T).get (by rw [← Pl.get_idx, HG2.out]; rfl)) HG2.out (by simp)).1
          have h2 := Pl.len_szs u.kids
          rw [Pl.sz_eq u] at this
          have := HZ.out
          omega
        have qn := QN.out
        rw [← hn] at hal hul qn ⊢
        clear hn
        have QM := Lib.hid qn
        clear qn
        obtain ⟨w3s, hw3s⟩ : ∃ z, z = w3.heap.size := ⟨_, rfl⟩
        have HWS := Lib.hid hw3s
        have hwl := HLW.out.size
        have h33 : w.heap.size + 3 ≤ w3s := by rw [hw3s]; omega
        have hnb3 : NB < w3s := by rw [hw3s]; exact lt_blk QN.out
        obtain ⟨X, hX⟩ : ∃ X, X = Pl.insK u.kids a (.node kx sx gx ksx) := ⟨_, rfl⟩
        have HXL : Hid (X.length = n + 1) := Lib.hid (by rw [hX, Pl.ins_len _ _ _ (by rw [← HN.out]; exact hal), ← HN.out])
        have HX1 := Lib.hid (fun j (hj : j < a) => (show X[j]? = u.kids[j]? by rw [hX]; exact Pl.ins_lt _ _ _ (by rw [← HN.out]; exact hal) j hj))
        have HX2 : Hid (X[a]? = some (.node kx sx gx ksx)) := Lib.hid (by rw [hX]; exact Pl.ins_get _ _ _ (by rw [← HN.out]; exact hal))
        have HX3 := Lib.hid (fun j (hj : a ≤ j) => (show X[j + 1]? = u.kids[j]? by rw [hX]; exact Pl.ins_gt _ _ _ (by rw [← HN.out]; exact hal) j hj))
        rw [← hX] at HIT2
        clear hX hw3s
        go_loopw [11, 12] (fun kv iv wr => ∃ (j c vc : Nat) (va : Option Addr) (L : List (Pl.Tr × Sl)), j ≤ n + 1 ∧ iv = .int .i64 j ∧ kv = .slice va c vc ∧ L.map Prod.fst = X.take c ∧ (j ≤ a ∧ c = j ∨ a < j ∧ j ≤ n ∧ c = j + 1 ∨ j = n + 1 ∧ c = n + 1) ∧ Below w3.heap.size w3 wr ∧ MadeP (fun b => b < w.heap.size) w3.heap.size wr va c vc L) (fun _ iv _ => n + 1 - (intOf iv).toNat)
        case atStart => exact ⟨0, 0, 0, none, [], Nat.zero_le _, rfl, rfl, rfl, .inl ⟨Nat.zero_le _, rfl⟩, Below.refl _ _, madeP_nil _ _ _⟩
        case round =>
          obtain ⟨j, c, vc, va, L, hj, rfl, rfl, hL, hjc, hbel, hmade⟩ := hrel
          have HLL := Lib.hid hL
          have HBe := Lib.hid hbel
          have HMd := Lib.hid hmade
          have hgr := hbel.size
          have hown3 : ∀ k, (Value.slice va c vc).ownBlock = some k → w3.heap.size ≤ k := fun k hk => (hmade.2.1.lt k hk).1
          obtain ⟨⟨n0, n1, n2, n3⟩, _⟩ := blk_cells ((hbel.block NB (by rw [← HWS.out]; exact hnb3)).trans QM.out)
          have qi := (hbel.cell (p := ⟨b1, o1 + m, none⟩) (show b1 < w3.heap.size by rw [← HWS.out]; have hb1' : b1 < w.heap.size := hb1; omega)).trans QI.out
          obtain ⟨⟨x0, x1, x2, x3⟩, _⟩ := blk_cells ((hbel.block (w.heap.size + 1) (by rw [← HWS.out]; omega)).trans Q2.out)
          clear hL hmade
          by_cases hlt : j ≤ n
          · have hle : (j : Int) ≤ (n : Int) := by omega
            have hcn : c ≤ n + 1 := by omega
            have hPB : ∀ b, (fun b => b < w.heap.size) b → b < w3.heap.size := fun b hb => by have hb' : b < w.heap.size := hb; rw [← HWS.out]; omega
            by_cases hja : j = a
            · subst hja
              have HCJ : Hid (c = j) := Lib.hid (by omega)
              clear hjc
              have hjb : ((j : Int) == (j : Int)) = true := by simp
              have HSX : Hid (Same (fun b => b < w.heap.size) w wr) := Lib.hid (HLT wr (HB3.out.trans (hbel.mono HB3.out.size)))
              by_cases hjn : j < n
              · have hjk : j < u.kids.length := by rw [← HN.out]; exact hjn
                have hv := List.getElem?_eq_getElem hjk
                have htu := HTU.out
                cases htu with
                | mk _ _ R hs0 hg0 hl0 hkL hr0 =>
                rcases hkL with h0 | ⟨b, o, hda, hb, hat⟩
                · rw [h0] at hjk; simp at hjk
                simp only at hda
                subst hda
                have hb' : b < w.heap.size := hb
                have hsr : Same (fun b => b < w.heap.size) w wr := HLT wr (HB3.out.trans (hbel.mono HB3.out.size))
                obtain ⟨d0, d1, d2, d3⟩ := At4.keep (hat j _ hv) hsr hb
                have HV := Lib.hid hv
                have HTV := Lib.hid (hr0 j _ hv)
                generalize u.kids[j] = v at *
                generalize R j = rv at *
                obtain ⟨gv, gcv, dv, dcv⟩ := rv
                simp only at d0 d1 d2 d3
                have hj0 : (0 : Int) ≤ (j : Int) := Int.natCast_nonneg _
                have hj1 : (j : Int) < (n : Int) := by omega
                have HSR := Lib.hid hsr
                clear hat hv hs0 hg0 hl0 hr0 hsr
                clear hbel
                go_upto_region 14 with fail
                go_upto_region 15 with (at_builtin; refine wpList_append_lies _ rfl (.tmp 67) (.tmp 69) 23 rfl w3.heap.size 25 i0 _ 4 72 Tryd.underlying23 hi0 hz0 hz1 hz2 rfl (by omega) (.slice va (c) vc) (c) (row4 L) rfl (HMd.out.2.1.alloc _) ⟨wr.heap.size, 0, none⟩ 1 1 [.int .i64 kx, .string sx, .slice gax gx.length gcx, .slice dax ksx.length dcx] rfl rfl (World.news_of_block (cs := #[.int .i64 kx, .string sx, .slice gax gx.length gcx, .slice dax ksx.length dcx]) (t := 25) (fr := (0, 0)) (heap_alloc_new wr _)) (by simp [Value.oneCell']) (by omega) (by unfold maxLen; omega) (by omega) (by simp; omega) (wr.heap.size + 1) (by simp) ?_; intro g4 cap4 w4 hown hgrow hat3 hlt3; have HO4 := Lib.hid hown; have HG4 := Lib.hid hgrow; have HA4 := Lib.hid hat3; clear hown hgrow hat3)
                have hsz4 := HG4.out.size
                simp at hsz4
                have hkeep4 : ∀ x, x < w3.heap.size → w4.heap[x]? = wr.heap[x]? := fun x hx =>
                  (HG4.out.block x (by simp; omega) (fun e => by have := hown3 x e.symm; omega)).trans (Below.heap_alloc _ _ _ (by omega))
                have hb4 : Below w3.heap.size w3 w4 := (HBe.out.alloc hgr _).grown HG4.out (by simp; omega) hown3
                have hM4 := madeP_snoc (t := .node kx sx gx ksx) (r := ⟨gax, gcx, dax, dcx⟩) hPB HMd.out hgr (Below.refl _ _) (HX.out.keep HSX.out fun b hb => .inl hb) HO4.out HG4.out HA4.out
                have HM4 := Lib.hid hM4
                obtain ⟨⟨m0, m1, m2, m3⟩, _⟩ := blk_cells ((hkeep4 NB (by rw [← HWS.out]; exact hnb3)).trans ((HBe.out.block NB (by rw [← HWS.out]; exact hnb3)).trans QM.out))
                have hbk : w4.heap[b]? = wr.heap[b]? := hkeep4 b (by rw [← HWS.out]; omega)
                have t0 := (World.cell?_of_block (w := wr) (a := ⟨b, o + j * 4, none⟩) hbk).trans d0
                have t1 := (World.cell?_of_block (w := wr) (a := ⟨b, o + j * 4 + 1, none⟩) hbk).trans d1
                have t2 := (World.cell?_of_block (w := wr) (a := ⟨b, o + j * 4 + 2, none⟩) hbk).trans d2
                have t3 := (World.cell?_of_block (w := wr) (a := ⟨b, o + j * 4 + 3, none⟩) hbk).trans d3
                have hown4 : ∀ k, (Value.slice (some (⟨g4, 0, none⟩ : Addr)) (c + 1) cap4).ownBlock = some k → w3.heap.size ≤ k := fun k hk => (hM4.2.1.lt k hk).1
                have hgr4 := hb4.size
                have HB4 := Lib.hid hb4
                have HK4 := Lib.hid hkeep4
                clear n0 n1 n2 n3 d0 d1 d2 d3 x0 x1 x2 x3 hkeep4 hM4 hb4 hbk
                go_upto_region 16 with fail
                go_wp2_with (at_builtin; refine wpList_append_lies _ rfl (.tmp 76) (.tmp 82) 23 rfl w3.heap.size 25 i0 _ 4 72 Tryd.underlying23 hi0 hz0 hz1 hz2 rfl (by omega) (.slice (some ⟨g4, 0, none⟩) (c + 1) cap4) (c + 1) (row4 (L ++ [(Pl.Tr.node kx sx gx ksx, ⟨gax, gcx, dax, dcx⟩)])) rfl (HM4.out.2.1.alloc _) ⟨w4.heap.size, 0, none⟩ 1 1 [.int .i64 v.kind, .string v.text, .slice gv v.gaps.length gcv, .slice dv v.kids.length dcv] rfl rfl (World.news_of_block (cs := #[.int .i64 v.kind, .string v.text, .slice gv v.gaps.length gcv, .slice dv v.kids.length dcv]) (t := 25) (fr := (0, 0)) (heap_alloc_new w4 _)) (by simp [Value.oneCell']) (by omega) (by unfold maxLen; omega) (by omega) (by simp; omega) (w4.heap.size + 1) (by simp) ?_; intro g5 cap5 w5 hown hgrow hat3 hlt3; have HO5 := Lib.hid hown; have HG5 := Lib.hid hgrow; have HA5 := Lib.hid hat3; clear hown hgrow hat3)
                have hsz5 := HG5.out.size
                simp at hsz5
                have hb5 : Below w3.heap.size w3 w5 := (HB4.out.alloc hgr4 _).grown HG5.out (by simp; omega) hown4
                have hsw : Same (fun b => b < w.heap.size) w w4 := HLT w4 (HB3.out.trans (HB4.out.mono HB3.out.size))
                exact ⟨⟨j + 1, c + 2, cap5, some ⟨g5, 0, none⟩, (L ++ [(Pl.Tr.node kx sx gx ksx, ⟨gax, gcx, dax, dcx⟩)]) ++ [(v, ⟨gv, gcv, dv, dcv⟩)], by omega, by go_num, rfl, made_fst (made_fst HLL.out (by rw [HCJ.out]; exact HX2.out)) (by rw [HCJ.out]; exact (HX3.out j (Nat.le_refl _)).trans HV.out), .inr (.inl ⟨by omega, by omega, by have := HCJ.out; omega⟩), hb5, madeP_snoc (t := v) (r := ⟨gv, gcv, dv, dcv⟩) hPB HM4.out hgr4 (Below.refl _ _) (HTV.out.keep hsw fun b hb => .inl hb) HO5.out HG5.out HA5.out⟩, by simp [intOf]; omega⟩
              · have HJN : Hid (j = n) := Lib.hid (by omega)
                have hjf : decide ((j : Int) < (n : Int)) = false := by simp; omega
                clear hbel
                go_upto_region 14 with fail
                go_upto_region 15 with (at_builtin; refine wpList_append_lies _ rfl (.tmp 67) (.tmp 69) 23 rfl w3.heap.size 25 i0 _ 4 72 Tryd.underlying23 hi0 hz0 hz1 hz2 rfl (by omega) (.slice va (c) vc) (c) (row4 L) rfl (HMd.out.2.1.alloc _) ⟨wr.heap.size, 0, none⟩ 1 1 [.int .i64 kx, .string sx, .slice gax gx.length gcx, .slice dax ksx.length dcx] rfl rfl (World.news_of_block (cs := #[.int .i64 kx, .string sx, .slice gax gx.length gcx, .slice dax ksx.length dcx]) (t := 25) (fr := (0, 0)) (heap_alloc_new wr _)) (by simp [Value.oneCell']) (by omega) (by unfold maxLen; omega) (by omega) (by simp; omega) (wr.heap.size + 1) (by simp) ?_; intro g4 cap4 w4 hown hgrow hat3 hlt3; have HO4 := Lib.hid hown; have HG4 := Lib.hid hgrow; have HA4 := Lib.hid hat3; clear hown hgrow hat3)
                have hsz4 := HG4.out.size
                simp at hsz4
                have hkeep4 : ∀ x, x < w3.heap.size → w4.heap[x]? = wr.heap[x]? := fun x hx =>
                  (HG4.out.block x (by simp; omega) (fun e => by have := hown3 x e.symm; omega)).trans (Below.heap_alloc _ _ _ (by omega))
                have hb4 : Below w3.heap.size w3 w4 := (HBe.out.alloc hgr _).grown HG4.out (by simp; omega) hown3
                obtain ⟨⟨m0, m1, m2, m3⟩, _⟩ := blk_cells ((hkeep4 NB (by rw [← HWS.out]; exact hnb3)).trans ((HBe.out.block NB (by rw [← HWS.out]; exact hnb3)).trans QM.out))
                clear n0 n1 n2 n3 x0 x1 x2 x3
                have HB4 := Lib.hid hb4
                clear hkeep4 hb4
                go_wp2_with fail
                exact ⟨⟨j + 1, c + 1, cap4, some ⟨g4, 0, none⟩, L ++ [(Pl.Tr.node kx sx gx ksx, ⟨gax, gcx, dax, dcx⟩)], by omega, by go_num, rfl, made_fst HLL.out (by rw [HCJ.out]; exact HX2.out), .inr (.inr ⟨by have := HJN.out; omega, by have := HCJ.out; have := HJN.out; omega⟩), HB4.out, madeP_snoc (t := .node kx sx gx ksx) (r := ⟨gax, gcx, dax, dcx⟩) hPB HMd.out hgr (Below.refl _ _) (HX.out.keep HSX.out fun b hb => .inl hb) HO4.out HG4.out HA4.out⟩, by simp [intOf]; omega⟩
            · have hjb : ((j : Int) == (a : Int)) = false := by simp; omega
              have HJC := Lib.hid hjc
              by_cases hjn : j < n
              · have hjk : j < u.kids.length := by rw [← HN.out]; exact hjn
                have hv := List.getElem?_eq_getElem hjk
                have htu := HTU.out
                cases htu with
                | mk _ _ R hs0 hg0 hl0 hkL hr0 =>
                rcases hkL with h0 | ⟨b, o, hda, hb, hat⟩
                · rw [h0] at hjk; simp at hjk
                simp only at hda
                subst hda
                have hb' : b < w.heap.size := hb
                have hsr : Same (fun b => b < w.heap.size) w wr := HLT wr (HB3.out.trans (hbel.mono HB3.out.size))
                obtain ⟨d0, d1, d2, d3⟩ := At4.keep (hat j _ hv) hsr hb
                have HV := Lib.hid hv
                have HTV := Lib.hid (hr0 j _ hv)
                generalize u.kids[j] = v at *
                generalize R j = rv at *
                obtain ⟨gv, gcv, dv, dcv⟩ := rv
                simp only at d0 d1 d2 d3
                have hj0 : (0 : Int) ≤ (j : Int) := Int.natCast_nonneg _
                have hj1 : (j : Int) < (n : Int) := by omega
                have HSR := Lib.hid hsr
                clear hat hv hs0 hg0 hl0 hr0 hsr
                have HXJ : Hid (X[c]? = some v) := Lib.hid (by
                  rcases hjc with ⟨h1, h2⟩ | ⟨h1, h2, h3⟩ | ⟨h1, h2⟩
                  · rw [h2]; exact (HX1.out j (by omega)).trans HV.out
                  · rw [h3]; exact (HX3.out j (by omega)).trans HV.out
                  · omega)
                clear hbel hjc
                go_upto_region 16 with fail
                go_wp2_with (at_builtin; refine wpList_append_lies _ rfl (.tmp 76) (.tmp 82) 23 rfl w3.heap.size 25 i0 _ 4 72 Tryd.underlying23 hi0 hz0 hz1 hz2 rfl (by omega) (.slice va (c) vc) (c) (row4 L) rfl (HMd.out.2.1.alloc _) ⟨wr.heap.size, 0, none⟩ 1 1 [.int .i64 v.kind, .string v.text, .slice gv v.gaps.length gcv, .slice dv v.kids.length dcv] rfl rfl (World.news_of_block (cs := #[.int .i64 v.kind, .string v.text, .slice gv v.gaps.length gcv, .slice dv v.kids.length dcv]) (t := 25) (fr := (0, 0)) (heap_alloc_new wr _)) (by simp [Value.oneCell']) (by omega) (by unfold maxLen; omega) (by omega) (by simp; omega) (wr.heap.size + 1) (by simp) ?_; intro g4 cap4 w4 hown hgrow hat3 hlt3; have HO4 := Lib.hid hown; have HG4 := Lib.hid hgrow; have HA4 := Lib.hid hat3; clear hown hgrow hat3)
                have hsz4 := HG4.out.size
                simp at hsz4
                have hkeep4 : ∀ x, x < w3.heap.size → w4.heap[x]? = wr.heap[x]? := fun x hx =>
                  (HG4.out.block x (by simp; omega) (fun e => by have := hown3 x e.symm; omega)).trans (Below.heap_alloc _ _ _ (by omega))
                have hb4 : Below w3.heap.size w3 w4 := (HBe.out.alloc hgr _).grown HG4.out (by simp; omega) hown3
                exact ⟨⟨j + 1, c + 1, cap4, some ⟨g4, 0, none⟩, L ++ [(v, ⟨gv, gcv, dv, dcv⟩)], by omega, by go_num, rfl, made_fst HLL.out HXJ.out, by have := HJC.out; omega, hb4, madeP_snoc (t := v) (r := ⟨gv, gcv, dv, dcv⟩) hPB HMd.out hgr (Below.refl _ _) (HTV.out.keep HSR.out fun b hb => .inl hb) HO4.out HG4.out HA4.out⟩, by simp [intOf]; omega⟩
              · have hjf : decide ((j : Int) < (n : Int)) = false := by simp; omega
                clear hbel hjc
                go_wp2_with fail
                exact ⟨⟨j + 1, c, vc, va, L, by omega, by go_num, rfl, HLL.out, .inr (.inr ⟨by omega, by have := HJC.out; omega⟩), HBe.out, HMd.out⟩, by simp [intOf]; omega⟩
          · have HJN : Hid (c = n + 1) := Lib.hid (by omega)
            have hLX : L.map Prod.fst = X := by rw [HLL.out, HJN.out, ← HXL.out, List.take_length]
            have hc9 : c ≤ 1000000 := by have := HJN.out; omega
            have hki := madeP_kids HMd.out hc9
            rw [hLX] at hki
            obtain ⟨wn, hwn⟩ : ∃ wn, wn = wr := ⟨_, rfl⟩
            have hsn : Same (fun b => b < w.heap.size) w wr := HLT wr (HB3.out.trans (hbel.mono HB3.out.size))
            have hBn : Below w.heap.size w wr := HB3.out.trans (hbel.mono HB3.out.size)
            have q1 := (hbel.block w.heap.size (by rw [← HWS.out]; omega)).trans Q1.out
            have q3 := (hbel.block (w.heap.size + 1 + 1) (by rw [← HWS.out]; omega)).trans Q3.out
            have qn := (hbel.block NB (by rw [← HWS.out]; exact hnb3)).trans QM.out
            have HQ1 := Lib.hid q1
            have HQ3 := Lib.hid q3
            have HQN := Lib.hid qn
            have HBn := Lib.hid hBn
            have HSn := Lib.hid hsn
            have hszn := hBn.size
            have hlt0 : w.heap.size < wr.heap.size := lt_blk q1
            have hlt3 : w.heap.size + 1 + 1 < wr.heap.size := lt_blk q3
            have hltN : NB < wr.heap.size := lt_blk qn
            have hKIO : KidsIn (Off (w.heap.size + 1 + 1) wr) wr va X := hki.keep (Same.refl _ _) (fun b hb => by
              rcases hb with hb | hb
              · have hb' : b < w.heap.size := hb
                exact ⟨by omega, by omega⟩
              · have := HWS.out; exact ⟨by omega, hb.2⟩)
            have hTU := HTU.out.keep hsn (Q := Off (w.heap.size + 1 + 1) wr) (fun b hb => by have hb' : b < w.heap.size := hb; exact ⟨by omega, by omega⟩)
            have hTT := HT.out.keep hsn (Q := Off (w.heap.size + 1 + 1) wr) (fun b hb => by have hb' : b < w.heap.size := hb; exact ⟨by omega, by omega⟩)
            have hPI2 := HPI.out.keep hsn (Q := Off (w.heap.size + 1 + 1) wr) (fun b hb => by have hb' : b < w.heap.size := hb; exact ⟨by omega, by omega⟩)
            have HW1 := Lib.hid (fun z (hz : Below wr.heap.size wr z) => with_at (P := Off (w.heap.size + 1 + 1) wr) u z ⟨gu, gcu, du, dcu⟩ (fun b hb => Nat.lt_of_lt_of_le hb.2 hz.size) (hTU.keep (Same.below hz (off_lt _ _)) fun b h => h) X va vc (hKIO.keep (Same.below hz (off_lt _ _)) fun b h => h) (by have := own_cap HMd.out.2.1; have := HXL.out; have := HJN.out; omega))
            have HPu := Lib.hid (fun z (rz : Sl) (hz : Below wr.heap.size wr z) (hx : Tin (Off (w.heap.size + 1 + 1) wr) z (Pl.wth u X) rz) => rput_at (P := Off (w.heap.size + 1 + 1) wr) (Q := Off (w.heap.size + 1 + 1) wr) (w := z) (Pl.wth u X) rz (fun b hb => Nat.lt_of_lt_of_le hb.2 hz.size) (fun b hb => Nat.lt_of_lt_of_le hb.2 hz.size) hx p T ⟨ga, gc, da, dc⟩ (some ⟨b1, o1, none⟩) pc (hTT.keep (Same.below hz (off_lt _ _)) fun b h => h) (hPI2.keep (Same.below hz (off_lt _ _)) fun b h => h) (by rw [← HM.out]; omega) (by have := HZ.out; omega) z (Same.refl _ _) (Same.refl _ _) (Nat.le_refl _))
            rw [← HIT2.out, ← HM.out, ← HTE.out] at HPu
            rw [HXL.out, ← HJN.out] at HW1
            unfold nv at HW1 HPu
            simp only [kids_node, gaps_node, text_node, kind_node] at HW1 HPu
            rw [← HN.out] at HW1
            generalize Pl.wth u X = V at HW1 HPu
            have hcle : decide ((j : Int) ≤ (n : Int)) = false := by simp; omega
            clear hki hsn hBn hKIO hTU hTT hPI2 hbel q3 qn x0 x1 x2 x3 qi hjc
            go_upto_region 17 with fail
            obtain ⟨⟨c0, c1, c2, c3⟩, _⟩ := blk_cells q1
            have k0' : wr.drew.cell? ⟨NB, 0, none⟩ = some (.int .i64 u.kind) := n0
            have k1' : wr.drew.cell? ⟨NB, 1, none⟩ = some (.string u.text) := n1
            have k2' : wr.drew.cell? ⟨NB, 2, none⟩ = some (.slice gu u.gaps.length gcu) := n2
            have k3' : wr.drew.cell? ⟨NB, 3, none⟩ = some (.slice du n dcu) := n3
            have hNBne : NB ≠ w.heap.size + 1 + 1 := by omega
            clear q1
            have a0 : wr.drew.cell? ⟨w.heap.size, 0, none⟩ = some (.int .i64 k0) := c0
            have a1 : wr.drew.cell? ⟨w.heap.size, 1, none⟩ = some (.string s0) := c1
            have a2 : wr.drew.cell? ⟨w.heap.size, 2, none⟩ = some (.slice ga g0.length gc) := c2
            have a3 : wr.drew.cell? ⟨w.heap.size, 3, none⟩ = some (.slice da ks0.length dc) := c3
            clear c0 c1 c2 c3 n0 n1 n2 n3
            go_region_held3 (fun w' => w'.cell? ⟨w.heap.size, 0, none⟩ = some (.int .i64 k0) ∧ w'.cell? ⟨w.heap.size, 1, none⟩ = some (.string s0) ∧ w'.cell? ⟨w.heap.size, 2, none⟩ = some (.slice ga g0.length gc) ∧ w'.cell? ⟨w.heap.size, 3, none⟩ = some (.slice da ks0.length dc) ∧ w'.cell? ⟨NB, 0, none⟩ = some (.int .i64 u.kind) ∧ w'.cell? ⟨NB, 1, none⟩ = some (.string u.text) ∧ w'.cell? ⟨NB, 2, none⟩ = some (.slice gu u.gaps.length gcu) ∧ w'.cell? ⟨NB, 3, none⟩ = some (.slice du n dcu))
              (first
                | with_reducible exact ⟨a0, a1, a2, a3, k0', k1', k2', k3'⟩
                | exact ⟨(cell_set4 (by omega)).trans a0, (cell_set4 (by omega)).trans a1, (cell_set4 (by omega)).trans a2, (cell_set4 (by omega)).trans a3, (cell_set4 (by omega)).trans k0', (cell_set4 (by omega)).trans k1', (cell_set4 (by omega)).trans k2', (cell_set4 (by omega)).trans k3'⟩)
              ((first
                | (go_at_call 46; refine (HW1.out wr.drew (Below.refl wr.heap.size wr).drew).mono ?_; rintro e w6 ⟨⟨gV, gcV, dV, dcV⟩, rfl, htV, hb6'⟩;
                   have hb6 : Below wr.heap.size wr w6 := ((Below.refl wr.heap.size wr).drew).trans hb6';
                   clear a0 a1 a2 a3 k0' k1' k2' k3'; obtain ⟨⟨a0, a1, a2, a3⟩, _⟩ := blk_cells ((hb6.block _ hlt0).trans HQ1.out); obtain ⟨⟨k0', k1', k2', k3'⟩, _⟩ := blk_cells ((hb6.block _ hltN).trans HQN.out);
                   have hs6 := hb6.size; have HB6 := Lib.hid hb6; have HTV := Lib.hid htV; clear hb6' hb6 htV)
                | (go_at_call 45; refine (HPu.out w6 ⟨gV, gcV, dV, dcV⟩ HB6.out HTV.out).mono ?_; rintro e w7 ⟨⟨gy, gcy, dy, dcy⟩, rfl, hty, hb7'⟩;
                   have hb7 : Below wr.heap.size wr w7 := HB6.out.trans (hb7'.mono hs6);
                   clear a0 a1 a2 a3 k0' k1' k2' k3'; obtain ⟨⟨a0, a1, a2, a3⟩, _⟩ := blk_cells ((hb7.block _ hlt0).trans HQ1.out); obtain ⟨⟨k0', k1', k2', k3'⟩, _⟩ := blk_cells ((hb7.block _ hltN).trans HQN.out);
                   have hs7 := hb7'.size; have HB7 := Lib.hid hb7; have HTY := Lib.hid hty; clear hb7' hb7 hty)
                | (go_at_call 44; refine ((rchecked_at y w7 ⟨gy, gcy, dy, dcy⟩ (fun b hb => by rcases hb with hb | hb; (have := hb.2; omega); exact hb.2) HTY.out).mono (fun e w' he => chkv_of he HE.out)).mono ?_; rintro e w8 ⟨hb8', U, ⟨gz, gcz, dz, dcz⟩, htz, hU1, hU2, rfl⟩;
                   have hb8 : Below wr.heap.size wr w8 := HB7.out.trans (hb8'.mono (by omega));
                   clear a0 a1 a2 a3 k0' k1' k2' k3'; obtain ⟨⟨a0, a1, a2, a3⟩, _⟩ := blk_cells ((hb8.block _ hlt0).trans HQ1.out); obtain ⟨⟨k0', k1', k2', k3'⟩, _⟩ := blk_cells ((hb8.block _ hltN).trans HQN.out);
                   have g8 := (hb8.block (w.heap.size + 1 + 1) hlt3).trans HQ3.out;
                   obtain ⟨⟨e0, e1, e2, e3⟩, y0, y1, y2, y3⟩ := blk_cells g8;
                   have hs8 := hb8'.size; have HB8 := Lib.hid hb8; have HTZ := Lib.hid htz; have HU1 := Lib.hid hU1; have HU2 := Lib.hid hU2; clear hb8' hb8 htz hU1 hU2 g8)))
            go_wp2_with fail
            have hlow := below_set4 (v0 := .int .i64 U.kind) (v1 := .string U.text) (v2 := .slice gz U.gaps.length gcz) (v3 := .slice dz U.kids.length dcz) (HBn.out.trans (HB8.out.mono hszn)) (show w.heap.size ≤ w.heap.size + 1 + 1 by omega)
            refine bodyPost_ret (v := .tuple #[.agg #[.int .i64 U.kind, .string U.text, .slice gz U.gaps.length gcz, .slice dz U.kids.length dcz], .int .i64 E]) (by simp [results, Tryd.results22, go_sem, e0, e1, e2, e3]) rfl (res_of (r := ⟨gz, gcz, dz, dcz⟩) (w8 := w8) (P := fun _ => True) hlow HU1.out HU2.out ?_)
            refine HTZ.out.keep (fun b hb => heap_set4 ?_) (fun b hb => ?_)
            · rcases hb with hb | hb
              · exact hb.1
              · omega
            · rw [size_set4]
              rcases hb with hb | hb
              · have := hb.2; omega
              · omega
end Go.Proofs.YtpaleolcfhnenaaDoor.Rt
