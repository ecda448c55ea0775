/- The walks of the package's inNewMemory, wellFormed and Get. -/
import Derived.Test.YtpaleolcfhnenaaDoorKid
import Derived.Test.YtpaleolcfhnenaaDoorLaw
namespace Go.Proofs.YtpaleolcfhnenaaDoor.Rt
open Go.RowKit
set_option linter.unusedVariables false
set_option linter.unusedSimpArgs false
set_option maxRecDepth 100000

/-- A tree in new memory. -/
def CopR (t : Pl.Tr) (w1 : World) (e : Ending) (w' : World) : Prop :=
  Below w1.heap.size w1 w' ∧ ∃ r : Sl, Tin (fun b => w1.heap.size ≤ b ∧ b < w'.heap.size) w' t r ∧ e = .returned (.agg #[.int .i64 t.kind, .string t.text, .slice r.ga t.gaps.length r.gc, .slice r.da t.kids.length r.dc])
set_option maxHeartbeats 800000 in
theorem inNew_at (t : Pl.Tr) (w1 : World) (r : Sl) (h : IsT w1 t r) (hg : Pl.GB t) (hz : Pl.sz t ≤ 1000000) : Calls Tryd.prog 39 #[nv t r] w1 (CopR t w1) := by
  have HAt := Lib.hid (fun W (hb : Below w1.heap.size w1 W) => (Ta.at_at h (fun _ h => h) W (Same.below hb fun _ h => h) hb.size hg hz 0 (by omega)).mono fun e w' (he : Ta.AtP t 0 W e w') => (show Below W.heap.size W w' ∧ ∃ r : Sl, Tin (fun b => W.heap.size ≤ b ∧ b < w'.heap.size) w' t r ∧ e = .returned (.tuple #[.agg #[.int .i64 t.kind, .string t.text, .slice r.ga t.gaps.length r.gc, .slice r.da t.kids.length r.dc], .bool true]) from by
    obtain ⟨h1, ⟨n, u, r2, hn, hu, hr, he⟩ | ⟨hn, _⟩⟩ := he
    · obtain rfl : n = 0 := by omega
      rw [Pl.pre_root] at hu
      obtain rfl := Option.some.inj hu
      exact ⟨h1, r2, hr, he⟩
    · have := Pl.sz_pos t; omega))
  obtain ⟨k0, s0, g0, ks0⟩ := t
  obtain ⟨ga0, gc0, da0, dc0⟩ := r
  unfold nv
  simp only [Pl.Tr.kids, Pl.Tr.gaps, Pl.Tr.text, Pl.Tr.kind] at HAt ⊢
  clear h hg hz
  obtain ⟨W, hW⟩ : ∃ W, W = (w1.alloc (.cells #[.int .i64 k0, .string s0, .slice ga0 g0.length gc0, .slice da0 ks0.length dc0] 25)).alloc (.cells #[.int .i64 0, .string ⟨#[]⟩, .slice none 0 0, .slice none 0 0] 25) := ⟨_, rfl⟩
  obtain ⟨h1, h2, h3, h4⟩ := two_after (w := w1) (w2 := W) (by rw [← hW]; exact Below.refl _ _)
  obtain ⟨⟨c0, c1, c2, c3⟩, _⟩ := blk_cells h1
  have H2 := Lib.hid h2
  have HB := Lib.hid h3
  have HW := Lib.hid hW
  clear hW h1 h2 h3
  go_enter Tryd.func39, Tryd.ntmps39
  go_upto_region 1 with fail
  rw [← HW.out]
  go_wp2_with (go_at_call 52; refine (HAt.out _ HB.out).mono ?_; rintro e w2 ⟨hb2, ⟨gv, gcv, dv, dcv⟩, htv, rfl⟩; have g2 := blk_keep H2.out hb2; obtain ⟨⟨e0, e1, e2, e3⟩, y0, y1, y2, y3⟩ := blk_cells g2; have hz2 : w1.heap.size + 1 < w2.heap.size := lt_blk g2; have pa2 := cell_past (w1.heap.size + 1); have fa2 := frozen_past (w1.heap.size + 1); have HB2 := Lib.hid (HB.out.trans (hb2.mono HB.out.size)); have HT2 := Lib.hid htv; clear hb2 g2 htv)
  have hlow := (below_set4 (v0 := .int .i64 k0) (v1 := .string s0) (v2 := .slice gv g0.length gcv) (v3 := .slice dv ks0.length dcv) HB2.out (show w1.heap.size ≤ w1.heap.size + 1 by omega)).alloc (by rw [size_set4]; omega) (.cells #[.int .i64 k0, .string s0, .slice gv g0.length gcv, .slice dv ks0.length dcv] 25)
  refine bodyPost_ret (v := .agg #[.int .i64 k0, .string s0, .slice gv g0.length gcv, .slice dv ks0.length dcv]) (by simp [results, Tryd.results39, go_sem, e0, e1, e2, e3, pa2, hz2]) rfl ⟨hlow, ⟨gv, gcv, dv, dcv⟩, ?_, rfl⟩
  refine HT2.out.keep (fun x hx => (Below.heap_alloc _ _ _ (by rw [size_set4]; exact hx.2)).trans (heap_set4 ?_)) (fun x hx => ⟨?_, ?_⟩)
  · have := hx.1; omega
  · have := hx.1; omega
  · have := hx.2; simp; omega
/-- A tree in new memory and no error, or the zero node and an error. -/
def WelP (E : Int) (T : Pl.Tr) (w1 : World) (e : Ending) (w' : World) : Prop :=
  Below w1.heap.size w1 w' ∧ ∃ (U : Pl.Tr) (r : Sl), Tin (fun b => w1.heap.size ≤ b ∧ b < w'.heap.size) w' U r ∧ (E = 0 → U = T) ∧ (E ≠ 0 → U = zeroT) ∧ e = .returned (.tuple #[.agg #[.int .i64 U.kind, .string U.text, .slice r.ga U.gaps.length r.gc, .slice r.da U.kids.length r.dc], .int .i64 E])
theorem wel_ok {T : Pl.Tr} {w1 w' : World} {e : Ending} (r : Sl) (hb : Below w1.heap.size w1 w') (h : Tin (fun b => w1.heap.size ≤ b ∧ b < w'.heap.size) w' T r) (he : e = .returned (.tuple #[.agg #[.int .i64 T.kind, .string T.text, .slice r.ga T.gaps.length r.gc, .slice r.da T.kids.length r.dc], .int .i64 0])) : WelP 0 T w1 e w' :=
  ⟨hb, T, r, h, fun _ => rfl, fun h => absurd rfl h, he⟩
theorem wel_no {T : Pl.Tr} {E : Int} {w1 w' : World} {e : Ending} (hE : E ≠ 0) (hb : Below w1.heap.size w1 w') (he : e = .returned (.tuple #[.agg #[.int .i64 0, .string ⟨#[]⟩, .slice none 0 0, .slice none 0 0], .int .i64 E])) : WelP E T w1 e w' :=
  ⟨hb, zeroT, ⟨none, 0, none, 0⟩, tin_zero _ _, fun h => absurd h hE, fun _ => rfl, he⟩
set_option maxHeartbeats 800000 in
theorem well_at (t : Pl.Tr) (w1 : World) (r : Sl) (hT : Tabs w1) (h : IsT w1 t r) (hz : Pl.sz t ≤ 1000000) (E : Int) (hE : E = if Pl.chk t = 0 then 0 else 7) : Calls Tryd.prog 41 #[nv t r] w1 (WelP E t w1) := by
  have HC := Lib.hid (fun (v : Int) (hv : Pl.chk t = v) W (hb : Below w1.heap.size w1 W) => check_is t W r v hv (hT.later hb) (h.later hb))
  have HI := Lib.hid (fun (hv : Pl.chk t = 0) W (hb : Below w1.heap.size w1 W) => inNew_at t W r (h.later hb) (Pl.gb_chk hv hz) hz)
  obtain ⟨v, hv⟩ : ∃ v, Pl.chk t = v := ⟨_, rfl⟩
  rw [hv] at hE
  have HV := Lib.hid hv
  obtain ⟨k0, s0, g0, ks0⟩ := t
  obtain ⟨ga0, gc0, da0, dc0⟩ := r
  unfold nv at HI ⊢
  simp only [Pl.Tr.kids, Pl.Tr.gaps, Pl.Tr.text, Pl.Tr.kind] at HC HI ⊢
  clear h hT hz hv
  obtain ⟨W, hW⟩ : ∃ W, W = (w1.alloc (.cells #[.int .i64 k0, .string s0, .slice ga0 g0.length gc0, .slice da0 ks0.length dc0] 25)).alloc (.cells #[.int .i64 0, .string ⟨#[]⟩, .slice none 0 0, .slice none 0 0] 25) := ⟨_, rfl⟩
  obtain ⟨h1, h2, h3, h4⟩ := two_after (w := w1) (w2 := W) (by rw [← hW]; exact Below.refl _ _)
  obtain ⟨⟨c0, c1, c2, c3⟩, _⟩ := blk_cells h1
  have H1 := Lib.hid h1
  have H2 := Lib.hid h2
  have HB := Lib.hid h3
  have HW := Lib.hid hW
  clear hW h1 h2 h3
  by_cases h0 : v = 0
  · subst h0
    rw [if_pos rfl] at hE
    subst hE
    go_enter Tryd.func41, Tryd.ntmps41
    go_upto_region 1 with fail
    rw [← HW.out]
    go_wp2_with (first
      | (go_at_call 53; refine (HC.out 0 HV.out _ HB.out).mono ?_; rintro e w2 ⟨rfl, hb2⟩; have g1 := blk_keep H1.out hb2; have g2 := blk_keep H2.out hb2; clear c0 c1 c2 c3; obtain ⟨⟨c0, c1, c2, c3⟩, _⟩ := blk_cells g1; have G2 := Lib.hid g2; have HB2 := Lib.hid (HB.out.trans (hb2.mono HB.out.size)); clear hb2 g1 g2)
      | (go_at_call 39; refine (HI.out HV.out _ HB2.out).mono ?_; rintro e w3 ⟨hb3, ⟨gv, gcv, dv, dcv⟩, htv, rfl⟩; have g3 := blk_keep G2.out hb3; obtain ⟨⟨e0, e1, e2, e3⟩, y0, y1, y2, y3⟩ := blk_cells g3; have hz2 : w1.heap.size + 1 < w2.heap.size := lt_blk G2.out; have HB3 := Lib.hid (HB2.out.trans (hb3.mono HB2.out.size)); have HT3 := Lib.hid htv; clear hb3 g3 htv))
    have hlow := below_set4 (v0 := .int .i64 k0) (v1 := .string s0) (v2 := .slice gv g0.length gcv) (v3 := .slice dv ks0.length dcv) HB3.out (show w1.heap.size ≤ w1.heap.size + 1 by omega)
    refine bodyPost_ret (v := .tuple #[.agg #[.int .i64 k0, .string s0, .slice gv g0.length gcv, .slice dv ks0.length dcv], .int .i64 0]) (by simp [results, Tryd.results41, go_sem, e0, e1, e2, e3, kids_node, gaps_node, text_node, kind_node]) rfl (wel_ok ⟨gv, gcv, dv, dcv⟩ hlow ?_ rfl)
    refine HT3.out.keep (fun x hx => heap_set4 ?_) (fun x hx => ⟨?_, ?_⟩)
    · have := hx.1; omega
    · have := hx.1; omega
    · have := hx.2; rw [size_set4]; omega
  · rw [if_neg h0] at hE
    subst hE
    obtain ⟨hn1, hn2⟩ := int_neq2 h0
    clear h0
    go_enter Tryd.func41, Tryd.ntmps41
    go_upto_region 1 with fail
    rw [← HW.out]
    go_wp2_with (go_at_call 53; refine (HC.out v HV.out _ HB.out).mono ?_; rintro e w2 ⟨rfl, hb2⟩; have g2 := blk_keep H2.out hb2; obtain ⟨⟨e0, e1, e2, e3⟩, y0, y1, y2, y3⟩ := blk_cells g2; have HB2 := Lib.hid (HB.out.trans (hb2.mono HB.out.size)); clear hb2 g2)
    exact bodyPost_ret (v := .tuple #[.agg #[.int .i64 0, .string ⟨#[]⟩, .slice none 0 0, .slice none 0 0], .int .i64 7]) (by simp [results, Tryd.results41, go_sem, e0, e1, e2, e3]) rfl (wel_no (by decide) (below_set4 HB2.out (by omega)) rfl)
set_option maxHeartbeats 1600000 in
theorem get_at (t : Pl.Tr) (r : Sl) (p : List Int) (pa : Option Addr) (pc : Nat) (w1 : World) (h : IsT w1 t r) (hp : IsI w1 pa p) (hz : Pl.sz t ≤ 1000000) (hg : ∀ u, Pl.getP p t = some u → Pl.GB u) :
    Calls Tryd.prog 15 #[nv t r, .slice pa p.length pc] w1 (GetR t p w1) := by
  have HF := Lib.hid (fun W (hb : Below w1.heap.size w1 W) => follow_at h (fun _ h => h) p pa pc hp (fun _ h => h) W (Same.below hb fun _ h => h) (Same.below hb fun _ h => h) hb.size)
  have HG := Lib.hid hg
  have HZ := Lib.hid (fun u (hu : Pl.getP p t = some u) => (show Pl.sz u ≤ 1000000 by
    have h1 := Pl.get_idx p t
    rw [hu] at h1
    obtain ⟨x, hx⟩ := Option.isSome_iff_exists.1 h1.symm
    have := (Pl.idx_get hu hx).1; omega))
  obtain ⟨n, hn⟩ : ∃ n, n = p.length := ⟨_, rfl⟩
  rw [← hn] at HF ⊢
  obtain ⟨k0, s0, g0, ks0⟩ := t
  obtain ⟨ga0, gc0, da0, dc0⟩ := r
  unfold nv at HF ⊢
  simp only [Pl.Tr.kids, Pl.Tr.gaps, Pl.Tr.text, Pl.Tr.kind] at HF ⊢
  clear h hp hg hz hn
  obtain ⟨W, hW⟩ : ∃ W, W = (w1.alloc (.cells #[.int .i64 k0, .string s0, .slice ga0 g0.length gc0, .slice da0 ks0.length dc0] 25)).alloc (.cells #[.int .i64 0, .string ⟨#[]⟩, .slice none 0 0, .slice none 0 0] 25) := ⟨_, rfl⟩
  obtain ⟨h1, h2, h3, h4⟩ := two_after (w := w1) (w2 := W) (by rw [← hW]; exact Below.refl _ _)
  obtain ⟨⟨c0, c1, c2, c3⟩, _⟩ := blk_cells h1
  have H2 := Lib.hid h2
  have HB := Lib.hid h3
  have HW := Lib.hid hW
  clear hW h1 h2 h3
  go_enter Tryd.func15, Tryd.ntmps15
  go_upto_region 1 with fail
  rw [← HW.out]
  go_wp2_with (first
    | (go_at_call 39; refine (inNew_at v _ ⟨gv, gcv, dv, dcv⟩ (((htv.out.isT fun _ h => h).later (HB2.out.mono (Nat.le_refl _))).later (box_below _ _)) (HG.out v hv.out) (HZ.out v hv.out)).mono ?_; rintro e w3 ⟨hb3, ⟨gu, gcu, du, dcu⟩, htu, rfl⟩; have g3 := blk_keep ((Below.heap_alloc _ _ _ hz2).trans G2.out) hb3; obtain ⟨⟨e0, e1, e2, e3⟩, y0, y1, y2, y3⟩ := blk_cells g3; have HB3 := Lib.hid ((HB2.out.alloc (by omega) _).trans (hb3.mono (by simp; omega))); have HT3 := Lib.hid htu; clear hb3 g3 htu)
    | (go_at_call 38; refine (HF.out _ HB.out).mono ?_; rintro e w2 ⟨hb2, ⟨v, ⟨gv, gcv, dv, dcv⟩, hv, htv, rfl⟩ | ⟨hv, rfl⟩⟩ <;> (have g2 := blk_keep H2.out hb2; obtain ⟨⟨e0, e1, e2, e3⟩, y0, y1, y2, y3⟩ := blk_cells g2; have hz2 : w1.heap.size + 1 < w2.heap.size := lt_blk g2; have pa2 := cell_past (w1.heap.size + 1); have fa2 := frozen_past (w1.heap.size + 1); have HB2 := Lib.hid (HB.out.trans (hb2.mono HB.out.size)); have G2 := Lib.hid g2; have hv := Lib.hid hv; clear hb2 g2); try (have htv := Lib.hid htv)))
  · have hlow := below_set4 (v0 := .int .i64 v.kind) (v1 := .string v.text) (v2 := .slice gu v.gaps.length gcu) (v3 := .slice du v.kids.length dcu) HB3.out (show w1.heap.size ≤ w1.heap.size + 1 by omega)
    refine bodyPost_ret (v := .tuple #[.agg #[.int .i64 v.kind, .string v.text, .slice gu v.gaps.length gcu, .slice du v.kids.length dcu], .int .i64 0]) (by simp [results, Tryd.results15, go_sem, e0, e1, e2, e3]) rfl ⟨hlow, 0, v, ⟨gu, gcu, du, dcu⟩, ?_, .inl ⟨rfl, hv.out⟩, rfl⟩
    refine HT3.out.keep (fun x hx => heap_set4 ?_) (fun x hx => ?_)
    · have := hx.1; simp at this; omega
    · have := hx.2; rw [size_set4]; omega
  · have hlow := (below_set4 (v0 := .int .i64 0) (v1 := .string ⟨#[]⟩) (v2 := .slice none 0 0) (v3 := .slice none 0 0) HB2.out (show w1.heap.size ≤ w1.heap.size + 1 by omega)).alloc (by rw [size_set4]; omega) (.cells #[.int .i64 0, .string ⟨#[]⟩, .slice none 0 0, .slice none 0 0] 25)
    exact bodyPost_ret (v := .tuple #[.agg #[.int .i64 0, .string ⟨#[]⟩, .slice none 0 0, .slice none 0 0], .int .i64 5]) (by simp [results, Tryd.results15, go_sem, e0, e1, e2, e3, pa2, hz2]) rfl ⟨hlow, 5, zeroT, ⟨none, 0, none, 0⟩, isT_zero _, .inr ⟨rfl, hv.out, rfl⟩, rfl⟩
end Go.Proofs.YtpaleolcfhnenaaDoor.Rt
