/- The walks of the package's kidAt and follow. -/
import Derived.Test.YtpaleolcfhnenaaDoorTa
import Derived.Test.YtpaleolcfhnenaaDoorApp
namespace Go.Proofs.YtpaleolcfhnenaaDoor.Rt
open Go.RowKit
set_option linter.unusedVariables false
set_option linter.unusedSimpArgs false
set_option maxRecDepth 100000

/-- The kid with an index, or none. -/
def KidP (P : Nat → Prop) (w : World) (t : Pl.Tr) (x : Int) (w1 : World) (e : Ending) (w' : World) : Prop :=
  Below w1.heap.size w1 w' ∧ ((∃ (u : Pl.Tr) (r : Sl), Pl.kidA t x = some u ∧ Tin P w u r ∧ e = .returned (.tuple #[.agg #[.int .i64 u.kind, .string u.text, .slice r.ga u.gaps.length r.gc, .slice r.da u.kids.length r.dc], .bool true])) ∨
    (Pl.kidA t x = none ∧ e = .returned (.tuple #[.agg #[.int .i64 0, .string ⟨#[]⟩, .slice none 0 0, .slice none 0 0], .bool false])))
set_option maxHeartbeats 1600000 in
theorem kidAt_at {P : Nat → Prop} {w : World} {t : Pl.Tr} {r : Sl} (h : Tin P w t r) (hP : ∀ b, P b → b < w.heap.size) (x : Int) (w1 : World) (hsame : Same P w w1) (hge : w.heap.size ≤ w1.heap.size) :
    Calls Tryd.prog 36 #[nv t r, .int .i64 x] w1 (KidP P w t x w1) := by
  obtain ⟨k0, s0, g0, ks0⟩ := t
  obtain ⟨ga0, gc0, da0, dc0⟩ := r
  cases h with
  | mk _ _ R hs hg hl hk hr _ =>
  simp only [Pl.Tr.kids, Pl.Tr.gaps, Pl.Tr.text, Pl.Tr.kind] at hl hk hr
  unfold nv
  simp only [Pl.Tr.kids, Pl.Tr.gaps, Pl.Tr.text, Pl.Tr.kind]
  unfold maxLen at hl
  obtain ⟨n, hn⟩ : ∃ n, n = ks0.length := ⟨_, rfl⟩
  rw [← hn] at hl ⊢
  have HN := Lib.hid hn
  have HK := Lib.hid hk
  have HR := Lib.hid hr
  have HS := Lib.hid hsame
  obtain ⟨W, hW⟩ : ∃ W, W = (w1.alloc (.cells #[.int .i64 k0, .string s0, .slice ga0 g0.length gc0, .slice da0 n dc0] 25)).alloc (.cells #[.int .i64 0, .string ⟨#[]⟩, .slice none 0 0, .slice none 0 0] 25) := ⟨_, rfl⟩
  obtain ⟨h1, h2, h3, h4⟩ := two_after (w := w1) (w2 := W) (by rw [← hW]; exact Below.refl _ _)
  obtain ⟨⟨c0, c1, c2, c3⟩, _⟩ := blk_cells h1
  obtain ⟨⟨e0, e1, e2, e3⟩, y0, y1, y2, y3⟩ := blk_cells h2
  have HW := Lib.hid hW
  have HB := Lib.hid h3
  clear hn hk hr hsame hW h1 h2 h3 hg hs
  by_cases hneg : x < 0
  · have HNo : Hid (Pl.kidA (.node k0 s0 g0 ks0) x = none) := Lib.hid (Pl.kidA_none (.inl hneg))
    go_enter Tryd.func36, Tryd.ntmps36
    go_upto_region 1 with fail
    rw [← HW.out]
    go_wp2_with fail
    exact bodyPost_ret (v := .tuple #[.agg #[.int .i64 0, .string ⟨#[]⟩, .slice none 0 0, .slice none 0 0], .bool false]) (by simp [results, Tryd.results36, go_sem, e0, e1, e2, e3]) rfl ⟨below_set4 HB.out (by omega), .inr ⟨HNo.out, rfl⟩⟩
  by_cases hbig : (n : Int) ≤ x
  · have HNo : Hid (Pl.kidA (.node k0 s0 g0 ks0) x = none) := Lib.hid (Pl.kidA_none (.inr (by show (ks0.length : Int) ≤ x; rw [← HN.out]; exact hbig)))
    go_enter Tryd.func36, Tryd.ntmps36
    go_upto_region 1 with fail
    rw [← HW.out]
    go_wp2_with fail
    exact bodyPost_ret (v := .tuple #[.agg #[.int .i64 0, .string ⟨#[]⟩, .slice none 0 0, .slice none 0 0], .bool false]) (by simp [results, Tryd.results36, go_sem, e0, e1, e2, e3]) rfl ⟨below_set4 HB.out (by omega), .inr ⟨HNo.out, rfl⟩⟩
  obtain ⟨a, rfl⟩ : ∃ a : Nat, x = a := ⟨x.toNat, by omega⟩
  have hal : a < ks0.length := by rw [← HN.out]; omega
  have hv := List.getElem?_eq_getElem hal
  rcases HK.out with h0 | ⟨b, o, rfl, hb, hat⟩
  · rw [h0] at hal; simp at hal
  have hsw : Same P w W := HS.out.trans (Same.below HB.out fun b hb => Nat.lt_of_lt_of_le (hP b hb) hge)
  obtain ⟨d0, d1, d2, d3⟩ := At4.keep (hat a _ hv) hsw hb
  have HT := Lib.hid (HR.out a _ hv)
  have HV : Hid (Pl.kidA (.node k0 s0 g0 ks0) (a : Int) = some ks0[a]) := Lib.hid (by rw [Pl.kidA_nat]; exact hv)
  generalize ks0[a] = u at *
  generalize R a = ru at *
  obtain ⟨gu, gcu, du, dcu⟩ := ru
  simp only at d0 d1 d2 d3
  have ha0 : (0 : Int) ≤ (a : Int) := Int.natCast_nonneg _
  have ha1 : (a : Int) < (n : Int) := by omega
  clear hat hv hsw hbig hneg
  go_enter Tryd.func36, Tryd.ntmps36
  go_upto_region 1 with fail
  rw [← HW.out]
  go_wp2_with fail
  exact bodyPost_ret (v := .tuple #[.agg #[.int .i64 u.kind, .string u.text, .slice gu u.gaps.length gcu, .slice du u.kids.length dcu], .bool true]) (by simp [results, Tryd.results36, go_sem, e0, e1, e2, e3]) rfl ⟨below_set4 HB.out (by omega), .inl ⟨u, ⟨gu, gcu, du, dcu⟩, HV.out, HT.out, rfl⟩⟩
/-- The node at a path, or none. -/
def FollowP (P : Nat → Prop) (w : World) (t : Pl.Tr) (p : List Int) (w1 : World) (e : Ending) (w' : World) : Prop :=
  Below w1.heap.size w1 w' ∧ ((∃ (u : Pl.Tr) (r : Sl), Pl.getP p t = some u ∧ Tin P w u r ∧ e = .returned (.tuple #[.agg #[.int .i64 u.kind, .string u.text, .slice r.ga u.gaps.length r.gc, .slice r.da u.kids.length r.dc], .bool true])) ∨
    (Pl.getP p t = none ∧ e = .returned (.tuple #[.agg #[.int .i64 0, .string ⟨#[]⟩, .slice none 0 0, .slice none 0 0], .bool false])))
theorem blk_keep {w w' : World} {b : Nat} {o : Obj} (h : w.heap[b]? = some o) (hb : Below w.heap.size w w') : w'.heap[b]? = some o := (hb.block b (lt_blk h)).trans h
set_option maxHeartbeats 1600000 in
theorem follow_at {P Q : Nat → Prop} {w : World} {t : Pl.Tr} {r : Sl} (h : Tin P w t r) (hP : ∀ b, P b → b < w.heap.size) (p : List Int) (pa : Option Addr) (pc : Nat) (hp : Ints Q w pa p) (hQ : ∀ b, Q b → b < w.heap.size)
    (w1 : World) (hsame : Same P w w1) (hsq : Same Q w w1) (hge : w.heap.size ≤ w1.heap.size) :
    Calls Tryd.prog 38 #[nv t r, .slice pa p.length pc] w1 (FollowP P w t p w1) := by
  have hpl := hp.1
  unfold maxLen at hpl
  obtain ⟨n, hn⟩ : ∃ n, n = p.length := ⟨_, rfl⟩
  rw [← hn] at hpl ⊢
  have HN := Lib.hid hn
  have HT := Lib.hid h
  have HPI := Lib.hid hp
  have HS := Lib.hid hsame
  have HSQ := Lib.hid hsq
  obtain ⟨k0, s0, g0, ks0⟩ := t
  obtain ⟨ga0, gc0, da0, dc0⟩ := r
  unfold nv
  simp only [Pl.Tr.kids, Pl.Tr.gaps, Pl.Tr.text, Pl.Tr.kind]
  clear h hp hsame hsq hn
  go_enter Tryd.func38, Tryd.ntmps38
  go_wp2_with fail
  go_loopw [12] (fun i wr => ∃ (k : Nat) (u : Pl.Tr) (ru : Sl), k ≤ n ∧ i = .int .i64 k ∧ Pl.getP (p.take k) (.node k0 s0 g0 ks0) = some u ∧ Tin P w u ru ∧ Below w1.heap.size w1 wr ∧ w1.heap.size + 1 < wr.heap.size ∧
      wr.heap[w1.heap.size]? = some (.cells #[.int .i64 u.kind, .string u.text, .slice ru.ga u.gaps.length ru.gc, .slice ru.da u.kids.length ru.dc] 25 (0, 0)) ∧
      wr.heap[w1.heap.size + 1]? = some (.cells #[.int .i64 0, .string ⟨#[]⟩, .slice none 0 0, .slice none 0 0] 25 (0, 0))) (fun i _ => n - (intOf i).toNat)
  case atStart =>
    obtain ⟨h1, h2, h3, h4⟩ := two_after (w := w1) (o1 := .cells #[.int .i64 k0, .string s0, .slice ga0 g0.length gc0, .slice da0 ks0.length dc0] 25) (o2 := .cells #[.int .i64 0, .string ⟨#[]⟩, .slice none 0 0, .slice none 0 0] 25) (Below.refl _ _)
    exact ⟨0, .node k0 s0 g0 ks0, ⟨ga0, gc0, da0, dc0⟩, Nat.zero_le _, rfl, rfl, HT.out, h3, h4, h1, h2⟩
  case round =>
    obtain ⟨k, u, ru, hk, rfl, hu, htu, hbel, hgt, hbox, hres⟩ := hrel
    have HB := Lib.hid hbel
    have HU := Lib.hid hu
    have HBX := Lib.hid hbox
    have HRS := Lib.hid hres
    have hgr := hbel.size
    have hsr : Same P w wr := HS.out.trans (Same.below hbel fun b hb => Nat.lt_of_lt_of_le (hP b hb) hge)
    have HKid := Lib.hid (fun x => kidAt_at htu hP x wr hsr (by omega))
    have HTU := Lib.hid htu
    obtain ⟨gu, gcu, du, dcu⟩ := ru
    unfold nv at HKid
    simp only at HKid hbox
    obtain ⟨⟨c0, c1, c2, c3⟩, z0, z1, z2, z3⟩ := blk_cells hbox
    obtain ⟨⟨e0, e1, e2, e3⟩, y0, y1, y2, y3⟩ := blk_cells hres
    clear hu hbel hbox hres htu hsr
    by_cases hlt : k < n
    · have hkp : k < p.length := by rw [← HN.out]; exact hlt
      have hx := List.getElem?_eq_getElem hkp
      have hi0 : (0 : Int) ≤ (k : Int) := Int.natCast_nonneg _
      have hi1 : (k : Int) < (n : Int) := by omega
      rcases HPI.out.2 with h0 | ⟨b1, o1, rfl, hb1, hat1⟩
      · rw [h0] at hkp; simp at hkp
      have cp := ((HSQ.out.trans (Same.below HB.out fun b hb => Nat.lt_of_lt_of_le (hQ b hb) hge)).cell hb1).trans (hat1 k _ hx)
      have HX := Lib.hid hx
      generalize p[k] = x at *
      clear hat1 hx
      go_wp2_with (go_at_call 36; refine (HKid.out x).mono ?_; rintro e w2 ⟨hb2, ⟨v, ⟨gv, gcv, dv, dcv⟩, hv, htv, rfl⟩ | ⟨hv, rfl⟩⟩ <;> (have g1 := blk_keep HBX.out hb2; have g2 := blk_keep HRS.out hb2; have pa1 := cell_past w1.heap.size; have pa2 := cell_past (w1.heap.size + 1); have fa1 := frozen_past w1.heap.size; have fa2 := frozen_past (w1.heap.size + 1); have hz1 : w1.heap.size < w2.heap.size := lt_blk g1; have hz2 : w1.heap.size + 1 < w2.heap.size := lt_blk g2; clear c0 c1 c2 c3 z0 z1 z2 z3 e0 e1 e2 e3 y0 y1 y2 y3; obtain ⟨⟨c0, c1, c2, c3⟩, z0, z1, z2, z3⟩ := blk_cells g1; obtain ⟨⟨e0, e1, e2, e3⟩, y0, y1, y2, y3⟩ := blk_cells g2; have HB2 := Lib.hid (HB.out.trans (hb2.mono hgr)); have HV := Lib.hid hv; have G1 := Lib.hid g1; have G2 := Lib.hid g2; clear hb2 g1 g2 hv))
      · have HG : Hid (Pl.getP (p.take (k + 1)) (.node k0 s0 g0 ks0) = some v) := Lib.hid (by rw [get_take p _ u k x HU.out HX.out]; exact HV.out)
        refine ⟨⟨k + 1, v, ⟨gv, gcv, dv, dcv⟩, by omega, by go_num, HG.out, htv, (below_set4 HB2.out (Nat.le_refl _)).alloc (by rw [size_set4]; omega) _, by simp; omega, ?_, ?_⟩, by simp [intOf]; omega⟩
        · exact (Below.heap_alloc _ _ _ (by rw [size_set4]; exact hz1)).trans (set4_blk G1.out)
        · exact (Below.heap_alloc _ _ _ (by rw [size_set4]; exact hz2)).trans ((heap_set4 (by omega)).trans G2.out)
      · have HNo : Hid (Pl.getP p (.node k0 s0 g0 ks0) = none) := Lib.hid (get_bad p _ u k x HU.out HX.out HV.out)
        refine bodyPost_ret (v := .tuple #[.agg #[.int .i64 0, .string ⟨#[]⟩, .slice none 0 0, .slice none 0 0], .bool false]) (by simp [results, Tryd.results38, go_sem, e0, e1, e2, e3, pa2, hz2]) rfl ⟨?_, .inr ⟨HNo.out, rfl⟩⟩
        exact (below_set4 HB2.out (by omega)).alloc (by rw [size_set4]; omega) _
    · have hkn : k = n := by omega
      subst hkn
      have HRes : Hid (Pl.getP p (.node k0 s0 g0 ks0) = some u) := Lib.hid (by have := HU.out; rw [HN.out, List.take_length] at this; exact this)
      go_wp2_with fail
      exact bodyPost_ret (v := .tuple #[.agg #[.int .i64 u.kind, .string u.text, .slice gu u.gaps.length gcu, .slice du u.kids.length dcu], .bool true]) (by simp [results, Tryd.results38, go_sem, e0, e1, e2, e3]) rfl ⟨below_set4 HB.out (by omega), .inl ⟨u, ⟨gu, gcu, du, dcu⟩, HRes.out, HTU.out, rfl⟩⟩
end Go.Proofs.YtpaleolcfhnenaaDoor.Rt
