/- The walks of the reference's checked and fits. -/
import Derived.Test.YtpaleolcfhnenaaDoorRPut
namespace Go.Proofs.YtpaleolcfhnenaaDoor.Rt
open Go.RowKit
set_option linter.unusedVariables false
set_option linter.unusedSimpArgs false

/-- A tree if it is well-formed, or an error. -/
def ChkP (P : Nat → Prop) (T : Pl.Tr) (w1 : World) (e : Ending) (w' : World) : Prop :=
  Below w1.heap.size w1 w' ∧ ((Pl.rchk T = 0 ∧ ∃ r : Sl, Tin P w' T r ∧ e = .returned (.tuple #[.agg #[.int .i64 T.kind, .string T.text, .slice r.ga T.gaps.length r.gc, .slice r.da T.kids.length r.dc], .int .i64 0])) ∨
    (Pl.rchk T ≠ 0 ∧ e = .returned (.tuple #[.agg #[.int .i64 0, .string ⟨#[]⟩, .slice none 0 0, .slice none 0 0], .int .i64 7])))
set_option maxHeartbeats 1600000 in
theorem rchecked_at {P : Nat → Prop} (t : Pl.Tr) (w : World) (r : Sl) (hP : ∀ b, P b → b < w.heap.size) (h : Tin P w t r) :
    Calls Tryd.prog 44 #[nv t r] w (ChkP P t w) := by
  obtain ⟨v, hv⟩ : ∃ v, v = Pl.rchk t := ⟨_, rfl⟩
  have HV := Lib.hid hv
  have HT := Lib.hid h
  obtain ⟨ga, gc, da, dc⟩ := r
  obtain ⟨h1, h2, hb, hz⟩ := two_after (w := w) (o1 := .cells #[.int .i64 t.kind, .string t.text, .slice ga t.gaps.length gc, .slice da t.kids.length dc] 25) (o2 := .cells #[.int .i64 0, .string ⟨#[]⟩, .slice none 0 0, .slice none 0 0] 25) (Below.refl _ _)
  have HC := Lib.hid (rcheck_at t _ ⟨ga, gc, da, dc⟩ ((h.keep (Same.below hb hP) fun b hb => hb).isT fun b hx => Nat.lt_of_lt_of_le (hP b hx) hb.size))
  rw [← hv] at HC
  have H2 := Lib.hid h2
  have HB := Lib.hid hb
  have hvv : (v = 0 ∧ ((v : Int) != 0) = false) ∨ (v ≠ 0 ∧ ((v : Int) != 0) = true) := by
    by_cases e : v = 0
    · exact .inl ⟨e, by simp [e]⟩
    · exact .inr ⟨e, by simpa using e⟩
  unfold nv
  simp only
  clear h hv h1 h2 hb
  rcases hvv with ⟨he, hb⟩ | ⟨he, hb⟩
  · have HE := Lib.hid he
    clear he
    go_enter Tryd.func44, Tryd.ntmps44
    go_wp2_with (go_at_call 25; refine (HC.out).mono ?_; rintro e w2 ⟨rfl, hb2⟩; have hb3 := HB.out.trans (hb2.mono HB.out.size); have g1 := (hb2.block w.heap.size (by simp; omega)); have g2 := (hb2.block (w.heap.size + 1) (by simp)).trans H2.out; obtain ⟨⟨e0, e1, e2, e3⟩, y0, y1, y2, y3⟩ := blk_cells g2; have g3 := g1.trans (two_after (w := w) (o1 := .cells #[.int .i64 t.kind, .string t.text, .slice ga t.gaps.length gc, .slice da t.kids.length dc] 25) (o2 := .cells #[.int .i64 0, .string ⟨#[]⟩, .slice none 0 0, .slice none 0 0] 25) (Below.refl _ _)).1; obtain ⟨⟨c0, c1, c2, c3⟩, z0, z1, z2, z3⟩ := blk_cells g3; have HB3 := Lib.hid hb3; clear hb2 hb3 g1 g2 g3)
    have hlow := below_set4 (v0 := .int .i64 t.kind) (v1 := .string t.text) (v2 := .slice ga t.gaps.length gc) (v3 := .slice da t.kids.length dc) HB3.out (show w.heap.size ≤ w.heap.size + 1 by omega)
    exact bodyPost_ret (v := .tuple #[.agg #[.int .i64 t.kind, .string t.text, .slice ga t.gaps.length gc, .slice da t.kids.length dc], .int .i64 0]) (by simp [results, Tryd.results44, go_sem, e0, e1, e2, e3]) rfl ⟨hlow, .inl ⟨by rw [← HV.out]; exact HE.out, ⟨ga, gc, da, dc⟩, HT.out.keep (Same.below hlow hP) (fun b hb => hb), rfl⟩⟩
  · have HE := Lib.hid he
    clear he
    go_enter Tryd.func44, Tryd.ntmps44
    go_wp2_with (go_at_call 25; refine (HC.out).mono ?_; rintro e w2 ⟨rfl, hb2⟩; have hb3 := HB.out.trans (hb2.mono HB.out.size); have g2 := (hb2.block (w.heap.size + 1) (by simp)).trans H2.out; obtain ⟨⟨e0, e1, e2, e3⟩, y0, y1, y2, y3⟩ := blk_cells g2; have HB3 := Lib.hid hb3; clear hb2 hb3 g2)
    have hlow := below_set4 (v0 := .int .i64 0) (v1 := .string ⟨#[]⟩) (v2 := .slice none 0 0) (v3 := .slice none 0 0) HB3.out (show w.heap.size ≤ w.heap.size + 1 by omega)
    exact bodyPost_ret (v := .tuple #[.agg #[.int .i64 0, .string ⟨#[]⟩, .slice none 0 0, .slice none 0 0], .int .i64 7]) (by simp [results, Tryd.results44, go_sem, e0, e1, e2, e3]) rfl ⟨hlow, .inr ⟨by rw [← HV.out]; exact HE.out, rfl⟩⟩
/-- The node at a path that leads to one. -/
def GotP (P : Nat → Prop) (w : World) (u : Pl.Tr) (w1 : World) (e : Ending) (w' : World) : Prop :=
  Below w1.heap.size w1 w' ∧ ∃ r : Sl, Tin P w u r ∧ e = .returned (.tuple #[.agg #[.int .i64 u.kind, .string u.text, .slice r.ga u.gaps.length r.gc, .slice r.da u.kids.length r.dc], .int .i64 0])
theorem got_of {P : Nat → Prop} {w w1 w' : World} {t u : Pl.Tr} {p : List Int} {e : Ending} (h : GetP P w t p w1 e w') (hu : Pl.getP p t = some u) : GotP P w u w1 e w' := by
  obtain ⟨h1, ⟨v, r, hv, ht, he⟩ | ⟨hn, _⟩⟩ := h
  · obtain rfl := Option.some.inj (hv.symm.trans hu)
    exact ⟨h1, r, ht, he⟩
  · rw [hu] at hn; cases hn
/-- A box that holds a node, behind a call. -/
structure Got (P : Nat → Prop) (w W X : World) (NB : Nat) (u : Pl.Tr) : Prop where
  low : Below W.heap.size W X
  ge : W.heap.size ≤ NB
  box : ∃ r : Sl, Tin P w u r ∧ X.heap[NB]? = some (.cells #[.int .i64 u.kind, .string u.text, .slice r.ga u.gaps.length r.gc, .slice r.da u.kids.length r.dc] 25 (0, 0))
theorem got_new {P : Nat → Prop} {w W X : World} {u : Pl.Tr} {r : Sl} (hb : Below W.heap.size W X) (ht : Tin P w u r) : Got P w W (X.alloc (.cells #[.int .i64 u.kind, .string u.text, .slice r.ga u.gaps.length r.gc, .slice r.da u.kids.length r.dc] 25)) X.heap.size u :=
  ⟨hb.alloc hb.size _, hb.size, r, ht, heap_alloc_new X _⟩
theorem got_set {P : Nat → Prop} {w W X : World} {u : Pl.Tr} {r : Sl} {v0 v1 v2 v3 : Value} (hb : Below W.heap.size W X) (ht : Tin P w u r) (hn : X.heap[W.heap.size]? = some (.cells #[v0, v1, v2, v3] 25 (0, 0))) :
    Got P w W ((((X.setCell ⟨W.heap.size, 0, none⟩ (.int .i64 u.kind)).setCell ⟨W.heap.size, 1, none⟩ (.string u.text)).setCell ⟨W.heap.size, 2, none⟩ (.slice r.ga u.gaps.length r.gc)).setCell ⟨W.heap.size, 3, none⟩ (.slice r.da u.kids.length r.dc)) W.heap.size u :=
  ⟨below_set4 hb (Nat.le_refl _), Nat.le_refl _, r, ht, set4_blk hn⟩
theorem rfits_q (p q k : Int) (b : Bool) (h : Pl.fits p q k = b) (w : World) (n : Nat) :
    Calls Tryd.prog 57 #[.int .i64 p, .int .i64 q, .int .i64 k] (w.drewN n) fun e w' => e = .returned (.bool b) ∧ ∃ m, w' = w.drewN m :=
  Calls.quiet_of_same ((rfits_is p q k b h (w.drewN n)).mono fun e w' ⟨h1, h2⟩ => ⟨h1, h2.symm⟩)
theorem cell_set4 {b x f : Nat} {w2 : World} {v0 v1 v2 v3 : Value} (hb : x ≠ b) : ((((w2.setCell ⟨b, 0, none⟩ v0).setCell ⟨b, 1, none⟩ v1).setCell ⟨b, 2, none⟩ v2).setCell ⟨b, 3, none⟩ v3).cell? ⟨x, f, none⟩ = w2.cell? ⟨x, f, none⟩ :=
  World.cell?_of_block (w := w2) (a := ⟨x, f, none⟩) (heap_set4 hb)
theorem ints_init {Q : Nat → Prop} {w : World} {a : Option Addr} {p : List Int} {i : Int} (h : Ints Q w a (p ++ [i])) : Ints Q w a p := by
  obtain ⟨h1, h2⟩ := h
  refine ⟨by rw [List.length_append] at h1; omega, ?_⟩
  rcases h2 with h0 | ⟨b, o, e, hb, hat⟩
  · exact absurd h0 (by simp)
  · exact .inr ⟨b, o, e, hb, fun j x hx => hat j x (by rw [List.getElem?_append_left (List.getElem?_eq_some_iff.1 hx).1]; exact hx)⟩
theorem ints_last {Q : Nat → Prop} {w : World} {a : Option Addr} {p : List Int} {i : Int} (h : Ints Q w a (p ++ [i])) : ∃ b o, a = some ⟨b, o, none⟩ ∧ Q b ∧ w.cell? ⟨b, o + p.length, none⟩ = some (.int .i64 i) := by
  rcases h.2 with h0 | ⟨b, o, e, hb, hat⟩
  · exact absurd h0 (by simp)
  · exact ⟨b, o, e, hb, hat p.length i (by rw [List.getElem?_append_right (Nat.le_refl _), Nat.sub_self]; rfl)⟩
set_option maxHeartbeats 3200000 in
set_option maxRecDepth 100000 in
theorem rfit_at {P Q : Nat → Prop} {w : World} {t u : Pl.Tr} {r : Sl} (h : Tin P w t r) (hP : ∀ b, P b → b < w.heap.size) (p : List Int) (i : Int) (pa : Option Addr) (pc : Nat) (hp : Ints Q w pa (p ++ [i])) (hQ : ∀ b, Q b → b < w.heap.size) (hpc : p.length < pc) (k : Int) (hu : Pl.getP p t = some u)
    (w1 : World) (hsame : Same P w w1) (hsq : Same Q w w1) (hge : w.heap.size ≤ w1.heap.size) :
    Calls Tryd.prog 43 #[nv t r, .slice pa (p.length + 1) pc, .int .i64 k] w1 fun e w' => e = .returned (.bool (Pl.fits u.kind i k)) ∧ Below w1.heap.size w1 w' := by
  obtain ⟨b1, o1, rfl, hb1, ci⟩ := ints_last hp
  have ci1 := (hsq.cell hb1).trans ci
  have hb1l := hQ b1 hb1
  have hpl := hp.1
  rw [List.length_append] at hpl
  unfold maxLen at hpl
  simp only [List.length_cons, List.length_nil] at hpl
  have HG := Lib.hid (fun wx h1 h2 h3 => (rget_at h hP p (some ⟨b1, o1, none⟩) pc (ints_init hp) hQ wx h1 h2 h3).mono fun e w' he => got_of he hu)
  have HS := Lib.hid hsame
  have HSQ := Lib.hid hsq
  obtain ⟨m, hm⟩ : ∃ m, m = p.length := ⟨_, rfl⟩
  rw [← hm] at hpl hpc ci1 HG ⊢
  obtain ⟨v, hv⟩ : ∃ v, v = Pl.fits u.kind i k := ⟨_, rfl⟩
  rw [← hv]
  have HF := Lib.hid (fun wx n => rfits_q u.kind i k v hv.symm wx n)
  obtain ⟨ga, gc, da, dc⟩ := r
  unfold nv at HG ⊢
  simp only at HG ⊢
  have hm1 : ((m : Int) + 1 == 0) = false := by simp; omega
  have hm0 : (0 : Int) ≤ (m : Int) := Int.natCast_nonneg _
  have hm2 : (m : Int) ≤ (pc : Int) := by omega
  have hm3 : (m : Int) < (m : Int) + 1 := by omega
  clear h hsame hsq hp hu hm hv ci
  go_enter Tryd.func43, Tryd.ntmps43
  go_upto_region 4 with fail
  obtain ⟨W, hW⟩ : ∃ W, W = w1.alloc (.cells #[.int .i64 t.kind, .string t.text, .slice ga t.gaps.length gc, .slice da t.kids.length dc] 25) := ⟨_, rfl⟩
  rw [← hW]
  have hlow : Below w1.heap.size w1 W := by rw [hW]; exact box_below _ _
  have hn : W.heap[w1.heap.size]? = some (.cells #[.int .i64 t.kind, .string t.text, .slice ga t.gaps.length gc, .slice da t.kids.length dc] 25 (0, 0)) := by rw [hW]; exact heap_alloc_new _ _
  have hbW : w1.heap.size < W.heap.size := by rw [hW]; simp
  have hsW : Same P w W := HS.out.trans (Same.below hlow fun b hb => Nat.lt_of_lt_of_le (hP b hb) hge)
  have hqW : Same Q w W := HSQ.out.trans (Same.below hlow fun b hb => Nat.lt_of_lt_of_le (hQ b hb) hge)
  have HSW := Lib.hid hsW
  have HQW := Lib.hid hqW
  have HLow := Lib.hid hlow
  obtain ⟨⟨c0, c1, c2, c3⟩, _⟩ := blk_cells hn
  have ciW := (hlow.cell (p := ⟨b1, o1 + m, none⟩) (show b1 < w1.heap.size by omega)).trans ci1
  have hgW : w.heap.size ≤ W.heap.size := by omega
  have HDR : Hid (∀ (wx : World) (f : Nat), wx.drew.cell? ⟨w1.heap.size, f, none⟩ = wx.cell? ⟨w1.heap.size, f, none⟩) := Lib.hid fun _ _ => rfl
  have HPA := Lib.hid (cell_past w1.heap.size)
  clear hW hlow hn hsW hqW ci1
  go_cut [8, 9] (fun s8 s9 X => ∃ NB : Nat, s8 = .pointer (some ⟨NB, 0, none⟩) ∧ s9 = .int .i64 0 ∧ Got P w W X NB u)
  case first =>
    go_region_held3 (fun w' => ∀ f : Nat, w'.cell? ⟨w1.heap.size, f, none⟩ = W.cell? ⟨w1.heap.size, f, none⟩)
      ((intro f
        iterate 6 (first
          | (with_reducible exact rfl)
          | (with_reducible exact HQ.out f)
          | (with_reducible refine (HDR.out _ _).trans ?_)
          | (with_reducible refine (HPA.out _ _ _ ?_).trans ?_; focus (first | omega | (simp; done) | (simp; omega)))
          | (with_reducible refine (cell_set4 ?_).trans ?_; focus omega)
          | skip)))
      ((first
        | (go_at_call 16; refine (HG.out W.drew HSW.out HQW.out hgW).mono ?_; rintro e w2 ⟨hb2', ⟨ga2, gc2, da2, dc2⟩, ht2, rfl⟩;
           have hb2 : Below W.heap.size W w2 := ((Below.refl W.heap.size W).drew).trans hb2';
           have HQ : Hid (∀ f : Nat, w2.cell? ⟨w1.heap.size, f, none⟩ = W.cell? ⟨w1.heap.size, f, none⟩) := Lib.hid (fun f => hb2.cell (p := ⟨w1.heap.size, f, none⟩) hbW);
           have hs2 := hb2.size; have HB2 := Lib.hid hb2; have HT2 := Lib.hid ht2; clear hb2' hb2 ht2)
        | (go_at_call 16; refine (HG.out (W.alloc (.cells #[.int .i64 0, .string ⟨#[]⟩, .slice none 0 0, .slice none 0 0] 25)).drew (same_box HSW.out hP hgW) (same_box HQW.out hQ hgW) (by show w.heap.size ≤ (W.alloc _).heap.size; simp; omega)).mono ?_; rintro e w2 ⟨hb2', ⟨ga2, gc2, da2, dc2⟩, ht2, rfl⟩;
           have hb2 : Below W.heap.size W w2 := (box_below W (.cells #[.int .i64 0, .string ⟨#[]⟩, .slice none 0 0, .slice none 0 0] 25)).drew.trans (hb2'.mono (by show W.heap.size ≤ (W.alloc _).heap.size; simp));
           have HQ : Hid (∀ f : Nat, w2.cell? ⟨w1.heap.size, f, none⟩ = W.cell? ⟨w1.heap.size, f, none⟩) := Lib.hid (fun f => hb2.cell (p := ⟨w1.heap.size, f, none⟩) hbW);
           have hnb2 := (hb2'.block W.heap.size (by show W.heap.size < (W.alloc _).heap.size; simp)).trans (heap_alloc_new W (.cells #[.int .i64 0, .string ⟨#[]⟩, .slice none 0 0, .slice none 0 0] 25));
           obtain ⟨⟨p0, p1, p2, p3⟩, z0, z1, z2, z3⟩ := blk_cells hnb2;
           have NB2 := Lib.hid hnb2; have hs2 := hb2.size; have HB2 := Lib.hid hb2; have HT2 := Lib.hid ht2; clear hb2' hb2 ht2 hnb2)))
    all_goals go_wp2_with fail
    all_goals go_meet
    all_goals first
      | (have g9 := NB2.out; clear g9; exact ⟨W.heap.size, rfl, rfl, got_set HB2.out HT2.out NB2.out⟩)
      | exact ⟨w2.heap.size, rfl, rfl, got_new HB2.out HT2.out⟩
  case rest =>
    obtain ⟨NB, rfl, rfl, hgot⟩ := hcut
    obtain ⟨hl, hge2, ru, htu, hbox⟩ := hgot
    obtain ⟨gu, gcu, du, dcu⟩ := ru
    obtain ⟨⟨e0, e1, e2, e3⟩, _⟩ := blk_cells hbox
    have ciX := (hl.cell (p := ⟨b1, o1 + m, none⟩) (show b1 < W.heap.size by omega)).trans ciW
    have HL := Lib.hid (HLow.out.trans (hl.mono HLow.out.size))
    clear c0 c1 c2 c3 HDR HPA hl hge2 htu hbox ciW
    go_wp2_with fail
    go_quiet ((go_at_call 57; exact HF.out _ _))
    go_wp2_with fail
    go_ret
    exact ⟨rfl, below_dN HL.out _⟩
end Go.Proofs.YtpaleolcfhnenaaDoor.Rt
