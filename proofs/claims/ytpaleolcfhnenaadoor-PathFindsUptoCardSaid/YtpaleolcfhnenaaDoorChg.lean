/- The walk of the package's change. -/
import Derived.Test.YtpaleolcfhnenaaDoorPPut
namespace Go.Proofs.YtpaleolcfhnenaaDoor.Rt
open Go.RowKit
set_option linter.unusedVariables false
set_option linter.unusedSimpArgs false
set_option maxRecDepth 100000

set_option maxHeartbeats 800000 in
theorem change_nil (t : Pl.Tr) (r : Sl) (pa : Option Addr) (pc : Nat) (cut : Int) (av : Value) (T : Pl.Tr) (w1 : World) :
    Calls Tryd.prog 42 #[nv t r, .slice pa 0 pc, .int .i64 cut, av] w1 (WelP 5 T w1) := by
  obtain ⟨k0, s0, g0, ks0⟩ := t
  obtain ⟨ga0, gc0, da0, dc0⟩ := r
  unfold nv
  simp only [Pl.Tr.kids, Pl.Tr.gaps, Pl.Tr.text, Pl.Tr.kind]
  go_enter Tryd.func42, Tryd.ntmps42
  go_wp2_with fail
  exact bodyPost_ret (v := .tuple #[.agg #[.int .i64 0, .string ⟨#[]⟩, .slice none 0 0, .slice none 0 0], .int .i64 5]) (by simp [results, Tryd.results42, go_sem]) rfl (wel_no (by decide) (((Below.refl _ _).alloc (Nat.le_refl _) _).alloc (by simp) _) rfl)
theorem follow_got {P : Nat → Prop} {w : World} {t u : Pl.Tr} {p : List Int} {w1 w' : World} {e : Ending} (h : FollowP P w t p w1 e w') (hu : Pl.getP p t = some u) :
    Below w1.heap.size w1 w' ∧ ∃ r : Sl, Tin P w u r ∧ e = .returned (.tuple #[.agg #[.int .i64 u.kind, .string u.text, .slice r.ga u.gaps.length r.gc, .slice r.da u.kids.length r.dc], .bool true]) := by
  obtain ⟨h1, ⟨v, r, hv, ht, he⟩ | ⟨hv, _⟩⟩ := h
  · obtain rfl := Option.some.inj (hu.symm.trans hv)
    exact ⟨h1, r, ht, he⟩
  · rw [hu] at hv; cases hv
theorem follow_non {P : Nat → Prop} {w : World} {t : Pl.Tr} {p : List Int} {w1 w' : World} {e : Ending} (h : FollowP P w t p w1 e w') (hu : Pl.getP p t = none) :
    Below w1.heap.size w1 w' ∧ e = .returned (.tuple #[.agg #[.int .i64 0, .string ⟨#[]⟩, .slice none 0 0, .slice none 0 0], .bool false]) := by
  obtain ⟨h1, ⟨v, r, hv, _⟩ | ⟨_, he⟩⟩ := h
  · rw [hu] at hv; cases hv
  · exact ⟨h1, he⟩
theorem kids_le {t u : Pl.Tr} {q : List Int} (h : Pl.getP q t = some u) : Pl.sz u ≤ Pl.sz t ∧ u.kids.length ≤ Pl.sz t := by
  have h1 := Pl.get_idx q t
  rw [h] at h1
  obtain ⟨x, hx⟩ := Option.isSome_iff_exists.1 h1.symm
  have := (Pl.idx_get h hx).1
  have h3 := Pl.sz_eq u
  have := Pl.len_szs u.kids
  omega
theorem szs_parts (ks add : List Pl.Tr) (k c : Nat) : Pl.szs (ks.take k ++ add ++ ks.drop (k + c)) ≤ Pl.szs ks + Pl.szs add := by
  rw [Pl.szs_append, Pl.szs_append]
  have h1 : Pl.szs (ks.take k) + Pl.szs (ks.drop k) = Pl.szs ks := by rw [← Pl.szs_append, List.take_append_drop]
  have h2 : Pl.szs ((ks.drop k).take c) + Pl.szs ((ks.drop k).drop c) = Pl.szs (ks.drop k) := by rw [← Pl.szs_append, List.take_append_drop]
  rw [List.drop_drop] at h2
  omega
set_option maxHeartbeats 1600000 in
theorem change_at (t : Pl.Tr) (r : Sl) (q : List Int) (i : Int) (pa : Option Addr) (pc : Nat) (cut : Nat) (add : List Pl.Tr) (aa : Option Addr) (ac : Nat) (w1 : World) (hT : Tabs w1) (h : IsT w1 t r) (hp : IsI w1 pa (q ++ [i])) (hpc : q.length + 1 ≤ pc) (ha : KidsIn (fun b => b < w1.heap.size) w1 aa add) (hcut : cut ≤ 1) (hadd : add.length ≤ 1) (haz : Pl.szs add ≤ 10000) (hz : Pl.sz t ≤ 10000) (E : Int) (T : Pl.Tr)
    (hE : (E = 5 ∧ (Pl.getP q t = none ∨ ∃ u, Pl.getP q t = some u ∧ (i < 0 ∨ (u.kids.length : Int) - cut < i))) ∨ (∃ (u : Pl.Tr) (k : Nat), Pl.getP q t = some u ∧ i = k ∧ k + cut ≤ u.kids.length ∧ T = Pl.putP (Pl.wth u (u.kids.take k ++ add ++ u.kids.drop (k + cut))) q t ∧ E = if Pl.chk T = 0 then 0 else 7)) :
    Calls Tryd.prog 42 #[nv t r, .slice pa (q.length + 1) pc, .int .i64 cut, .slice aa add.length ac] w1 (WelP E T w1) := by
  rcases hp.2 with h0 | ⟨pb, po, rfl, hpb, hatp⟩
  · exact absurd h0 (by simp)
  obtain ⟨m, hm⟩ : ∃ m, m = q.length := ⟨_, rfl⟩
  have ci : w1.cell? ⟨pb, po + m, none⟩ = some (.int .i64 i) := hatp m i (by rw [hm]; simp)
  have hpl := hp.1
  rw [List.length_append] at hpl
  unfold maxLen at hpl
  simp only [List.length_cons, List.length_nil] at hpl
  have hq : IsI w1 (some ⟨pb, po, none⟩) q := ⟨by unfold maxLen; omega, .inr ⟨pb, po, rfl, hpb, fun j x hx => hatp j x (by rw [List.getElem?_append_left (List.getElem?_eq_some_iff.1 hx).1]; exact hx)⟩⟩
  have HF := Lib.hid (fun W (hb : Below w1.heap.size w1 W) => follow_at h (fun _ h => h) q (some ⟨pb, po, none⟩) m hq (fun _ h => h) W (Same.below hb fun _ h => h) (Same.below hb fun _ h => h) hb.size)
  have HTB := Lib.hid hT
  have HTT := Lib.hid h
  have HQ := Lib.hid hq
  have HA := Lib.hid ha
  have HE := Lib.hid hE
  have HZ := Lib.hid hz
  have HAZ := Lib.hid haz
  have HMq := Lib.hid hm
  rw [← hm] at HF hpc hpl ⊢
  have hm0 : ((m : Int) + 1 == 0) = false := by simp; omega
  have hm1 : (0 : Int) ≤ (m : Int) := Int.natCast_nonneg _
  have hm2 : (m : Int) ≤ (pc : Int) := by omega
  have hm3 : (m : Int) < (m : Int) + 1 := by omega
  obtain ⟨k0, s0, g0, ks0⟩ := t
  obtain ⟨ga0, gc0, da0, dc0⟩ := r
  unfold nv at HF ⊢
  simp only [Pl.Tr.kids, Pl.Tr.gaps, Pl.Tr.text, Pl.Tr.kind] at HF ⊢
  obtain ⟨W, hW⟩ : ∃ W, W = (w1.alloc (.cells #[.int .i64 k0, .string s0, .slice ga0 g0.length gc0, .slice da0 ks0.length dc0] 25)).alloc (.cells #[.int .i64 0, .string ⟨#[]⟩, .slice none 0 0, .slice none 0 0] 25) := ⟨_, rfl⟩
  obtain ⟨h1, h2, h3, h4⟩ := two_after (w := w1) (w2 := W) (by rw [← hW]; exact Below.refl _ _)
  obtain ⟨⟨c0, c1, c2, c3⟩, _⟩ := blk_cells h1
  have ci2 := (h3.cell (p := ⟨pb, po + m, none⟩) hpb).trans ci
  have H1 := Lib.hid h1
  have H2 := Lib.hid h2
  have HB := Lib.hid h3
  have HW := Lib.hid hW
  clear hT h hp hq ha hE hatp hm hW h1 h2 h3 ci hz haz
  generalize hT0 : Pl.Tr.node k0 s0 g0 ks0 = T0 at *
  cases hg : Pl.getP q T0 with
  | none =>
    have HU := Lib.hid hg
    obtain rfl : E = 5 := by
      rcases HE.out with ⟨h, _⟩ | ⟨u, k, h, _⟩
      · exact h
      · rw [hg] at h; cases h
    clear hg hT0
    go_enter Tryd.func42, Tryd.ntmps42
    go_upto_region 1 with fail
    rw [← HW.out]
    go_upto_region 4 with fail
    go_quiet (fail)
    go_wp2_with (go_at_call 38; refine ((HF.out (W.drewN nq) (HB.out.trans ((below_drewN W nq).mono HB.out.size))).mono fun e w' h => follow_non h HU.out).mono ?_; rintro e w2 ⟨hb2, rfl⟩; have g2 := blk_keep (show (W.drewN nq).heap[w1.heap.size + 1]? = _ from H2.out) hb2; obtain ⟨⟨e0, e1, e2, e3⟩, y0, y1, y2, y3⟩ := blk_cells g2; have hz2 : w1.heap.size + 1 < w2.heap.size := lt_blk g2; have pa2 := cell_past (w1.heap.size + 1); have fa2 := frozen_past (w1.heap.size + 1); have HB2 := Lib.hid (HB.out.trans (((below_drewN W nq).mono HB.out.size).trans (hb2.mono (show w1.heap.size ≤ (W.drewN nq).heap.size from HB.out.size)))); clear hb2 g2)
    have hlow := (below_set4 (v0 := .int .i64 0) (v1 := .string ⟨#[]⟩) (v2 := .slice none 0 0) (v3 := .slice none 0 0) HB2.out (show w1.heap.size ≤ w1.heap.size + 1 by omega)).alloc (by rw [size_set4]; omega)
    exact bodyPost_ret (v := .tuple #[.agg #[.int .i64 0, .string ⟨#[]⟩, .slice none 0 0, .slice none 0 0], .int .i64 5]) (by simp [results, Tryd.results42, go_sem, e0, e1, e2, e3, pa2, hz2]) rfl (wel_no (by decide) (hlow _) rfl)
  | some u =>
    have HU := Lib.hid hg
    have hul : u.kids.length ≤ 10000 := by have := (kids_le hg).2; have := HZ.out; omega
    have HUZ : Hid (Pl.szs u.kids ≤ 10000) := Lib.hid (by have := (kids_le hg).1; have := HZ.out; have := Pl.sz_eq u; omega)
    obtain ⟨n, hn⟩ : ∃ n, n = u.kids.length := ⟨_, rfl⟩
    have HN := Lib.hid hn
    by_cases hneg : i < 0
    · have HE5 : Hid (E = 5) := Lib.hid (by
        rcases HE.out with ⟨h, _⟩ | ⟨v, k, h, hk, _⟩
        · exact h
        · omega)
      obtain rfl := HE5.out
      clear hg hT0 hn
      go_enter Tryd.func42, Tryd.ntmps42
      go_upto_region 1 with fail
      rw [← HW.out]
      go_upto_region 4 with fail
      go_quiet (fail)
      go_wp2_with (go_at_call 38; refine ((HF.out (W.drewN nq) (HB.out.trans ((below_drewN W nq).mono HB.out.size))).mono fun e w' h => follow_got h HU.out).mono ?_; rintro e w2 ⟨hb2, ⟨gu, gcu, du, dcu⟩, htu, rfl⟩; have g1 := blk_keep (show (W.drewN nq).heap[w1.heap.size]? = _ from H1.out) hb2; have g2 := blk_keep (show (W.drewN nq).heap[w1.heap.size + 1]? = _ from H2.out) hb2; obtain ⟨⟨e0, e1, e2, e3⟩, y0, y1, y2, y3⟩ := blk_cells g2; have hz1 : w1.heap.size < w2.heap.size := lt_blk g1; have hz2 : w1.heap.size + 1 < w2.heap.size := lt_blk g2; have pa2 := cell_past (w1.heap.size + 1); have fa2 := frozen_past (w1.heap.size + 1); have HB2 := Lib.hid (HB.out.trans (((below_drewN W nq).mono HB.out.size).trans (hb2.mono (show w1.heap.size ≤ (W.drewN nq).heap.size from HB.out.size)))); have HTU := Lib.hid htu; have G1 := Lib.hid g1; have G2 := Lib.hid g2; clear hb2 htu g1 g2 c0 c1 c2 c3)
      have hlow := (below_set4 (v0 := .int .i64 0) (v1 := .string ⟨#[]⟩) (v2 := .slice none 0 0) (v3 := .slice none 0 0) HB2.out (show w1.heap.size ≤ w1.heap.size + 1 by omega)).alloc (by rw [size_set4]; omega)
      exact bodyPost_ret (v := .tuple #[.agg #[.int .i64 0, .string ⟨#[]⟩, .slice none 0 0, .slice none 0 0], .int .i64 5]) (by simp [results, Tryd.results42, go_sem, e0, e1, e2, e3, pa2, hz2]) rfl (wel_no (by decide) (hlow _) rfl)
    by_cases hbig : (u.kids.length : Int) - cut < i
    · have HE5 : Hid (E = 5) := Lib.hid (by
        rcases HE.out with ⟨h, _⟩ | ⟨v, k, h, hk, hk2, _⟩
        · exact h
        · rw [hg] at h; obtain rfl := Option.some.inj h; omega)
      obtain rfl := HE5.out
      clear hg hT0 hn
      go_enter Tryd.func42, Tryd.ntmps42
      go_upto_region 1 with fail
      rw [← HW.out]
      go_upto_region 4 with fail
      go_quiet (fail)
      go_wp2_with (go_at_call 38; refine ((HF.out (W.drewN nq) (HB.out.trans ((below_drewN W nq).mono HB.out.size))).mono fun e w' h => follow_got h HU.out).mono ?_; rintro e w2 ⟨hb2, ⟨gu, gcu, du, dcu⟩, htu, rfl⟩; have g1 := blk_keep (show (W.drewN nq).heap[w1.heap.size]? = _ from H1.out) hb2; have g2 := blk_keep (show (W.drewN nq).heap[w1.heap.size + 1]? = _ from H2.out) hb2; obtain ⟨⟨e0, e1, e2, e3⟩, y0, y1, y2, y3⟩ := blk_cells g2; have hz1 : w1.heap.size < w2.heap.size := lt_blk g1; have hz2 : w1.heap.size + 1 < w2.heap.size := lt_blk g2; have pa2 := cell_past (w1.heap.size + 1); have fa2 := frozen_past (w1.heap.size + 1); have HB2 := Lib.hid (HB.out.trans (((below_drewN W nq).mono HB.out.size).trans (hb2.mono (show w1.heap.size ≤ (W.drewN nq).heap.size from HB.out.size)))); have HTU := Lib.hid htu; have G1 := Lib.hid g1; have G2 := Lib.hid g2; clear hb2 htu g1 g2 c0 c1 c2 c3)
      have hlow := (below_set4 (v0 := .int .i64 0) (v1 := .string ⟨#[]⟩) (v2 := .slice none 0 0) (v3 := .slice none 0 0) HB2.out (show w1.heap.size ≤ w1.heap.size + 1 by omega)).alloc (by rw [size_set4]; omega)
      exact bodyPost_ret (v := .tuple #[.agg #[.int .i64 0, .string ⟨#[]⟩, .slice none 0 0, .slice none 0 0], .int .i64 5]) (by simp [results, Tryd.results42, go_sem, e0, e1, e2, e3, pa2, hz2]) rfl (wel_no (by decide) (hlow _) rfl)
    obtain ⟨k, rfl⟩ : ∃ k : Nat, i = k := ⟨i.toNat, by omega⟩
    have hkc : k + cut ≤ u.kids.length := by omega
    have HEC : Hid (T = Pl.putP (Pl.wth u (u.kids.take k ++ add ++ u.kids.drop (k + cut))) q T0 ∧ E = if Pl.chk T = 0 then 0 else 7) := Lib.hid (by
      rcases HE.out with ⟨_, h | ⟨v, h, h2⟩⟩ | ⟨v, j, h, hj, _, h2⟩
      · rw [hg] at h; cases h
      · rw [hg] at h; obtain rfl := Option.some.inj h; omega
      · rw [hg] at h; obtain rfl := Option.some.inj h
        obtain rfl : k = j := by omega
        exact h2)
    clear hg hn HE
    go_enter Tryd.func42, Tryd.ntmps42
    go_upto_region 1 with fail
    rw [← HW.out]
    go_upto_region 4 with fail
    go_quiet (fail)
    go_upto_region 8 with (go_at_call 38; refine ((HF.out (W.drewN nq) (HB.out.trans ((below_drewN W nq).mono HB.out.size))).mono fun e w' h => follow_got h HU.out).mono ?_; rintro e w2 ⟨hb2, ⟨gu, gcu, du, dcu⟩, htu, rfl⟩; have g1 := blk_keep (show (W.drewN nq).heap[w1.heap.size]? = _ from H1.out) hb2; have g2 := blk_keep (show (W.drewN nq).heap[w1.heap.size + 1]? = _ from H2.out) hb2; obtain ⟨⟨e0, e1, e2, e3⟩, y0, y1, y2, y3⟩ := blk_cells g2; have hz1 : w1.heap.size < w2.heap.size := lt_blk g1; have hz2 : w1.heap.size + 1 < w2.heap.size := lt_blk g2; have pa2 := cell_past (w1.heap.size + 1); have fa2 := frozen_past (w1.heap.size + 1); have HB2 := Lib.hid (HB.out.trans (((below_drewN W nq).mono HB.out.size).trans (hb2.mono (show w1.heap.size ≤ (W.drewN nq).heap.size from HB.out.size)))); have HTU := Lib.hid htu; have G1 := Lib.hid g1; have G2 := Lib.hid g2; clear hb2 htu g1 g2 c0 c1 c2 c3)
    obtain ⟨V, hV⟩ : ∃ V, V = w2.alloc (.cells #[.int .i64 u.kind, .string u.text, .slice gu u.gaps.length gcu, .slice du u.kids.length dcu] 25) := ⟨_, rfl⟩
    obtain ⟨NB, hNB⟩ : ∃ b, b = w2.heap.size := ⟨_, rfl⟩
    rw [← hV, ← hNB]
    have hbV : Below w2.heap.size w2 V := by rw [hV]; exact box_below _ _
    have hBV : Below w1.heap.size w1 V := HB2.out.trans (hbV.mono HB2.out.size)
    have v1 := blk_keep G1.out hbV
    have v2 := blk_keep G2.out hbV
    have vn : V.heap[NB]? = some (.cells #[.int .i64 u.kind, .string u.text, .slice gu u.gaps.length gcu, .slice du u.kids.length dcu] 25 (0, 0)) := by rw [hV, hNB]; exact heap_alloc_new _ _
    have hNBne : w1.heap.size + 1 ≠ NB := by omega
    have hNBn2 : NB ≠ w1.heap.size + 1 := by omega
    have hNB3 : NB ≠ w1.heap.size := by omega
    have hzV := hBV.size
    obtain ⟨X, hX⟩ : ∃ X, X = u.kids.take k ++ add ++ u.kids.drop (k + cut) := ⟨_, rfl⟩
    obtain ⟨M, hM⟩ : ∃ M, M = k + add.length + (u.kids.length - (k + cut)) := ⟨_, rfl⟩
    have hXM : X.length = M := by rw [hX, hM, List.length_append, List.length_append, List.length_take, List.length_drop]; omega
    have hXz : Pl.szs X ≤ 20000 := by rw [hX]; have := szs_parts u.kids add k cut; have := HUZ.out; have := HAZ.out; omega
    have hTz : Pl.sz T ≤ 1000000 := by
      have h1 := Pl.sz_put (Pl.wth u X) HU.out
      have h2 : Pl.sz (Pl.wth u X) = Pl.szs X + 1 := by unfold Pl.wth; rw [Pl.sz]
      have h3 := HEC.out.1
      rw [← hX] at h3
      rw [h3]; have := HZ.out; omega
    have HTX : Hid (T = Pl.putP (Pl.wth u X) q T0) := Lib.hid (by rw [hX]; exact HEC.out.1)
    have hUI : IsT V u ⟨gu, gcu, du, dcu⟩ := (show IsT w1 u ⟨gu, gcu, du, dcu⟩ from HTU.out).later hBV
    have hcapu : u.kids.length ≤ dcu ∧ KidsIn (fun b => b < V.heap.size) V du u.kids := by
      cases hUI with
      | mk _ _ R a1 a2 a3 a4 a5 a6 => exact ⟨a6, a3, R, a4, a5⟩
    have HSp := Lib.hid (splice_at (P := fun b => b < V.heap.size) (w1 := V.drew) (fun _ h => h) u.kids add du aa dcu ac (hcapu.2.keep (fun b _ => rfl) fun b h => h) (HA.out.keep ((Same.below hBV fun _ h => h).trans fun b _ => rfl) (fun b h => Nat.lt_of_lt_of_le h hzV)) hcapu.1 k cut hkc (by omega) (by omega))
    rw [← hX, ← hM] at HSp
    have HWk := Lib.hid (fun (z : World) (a : Option Addr) (c : Nat) (hz : Below V.heap.size V z) (hk : KidsIn (fun b => b < z.heap.size) z a X) (hc : M ≤ c) => wkids_at u z ⟨gu, gcu, du, dcu⟩ ((HTB.out.later hBV).later hz) (fun _ h => h) (hUI.later hz) X a c hk (by rw [hXM]; exact hc))
    rw [hXM] at HWk
    have HPu := Lib.hid (fun (z : World) (rz : Sl) (hz : Below V.heap.size V z) (hx : IsT z (Pl.wth u X) rz) => put_at (P := fun b => b < z.heap.size) (Q := fun b => b < z.heap.size) (Pl.wth u X) rz (fun _ h => h) (fun _ h => h) hx q T0 u ⟨ga0, gc0, da0, dc0⟩ (some ⟨pb, po, none⟩) m ((HTT.out.later hBV).later hz) ((HQ.out.later hBV).later hz) (by rw [← HMq.out]; exact Nat.le_refl _) HU.out (by have := HZ.out; omega) z (Same.refl _ _) (Same.refl _ _) (Nat.le_refl _))
    rw [← HTX.out, ← HMq.out, ← hT0] at HPu
    have HWe := Lib.hid (fun (z : World) (rz : Sl) (hz : Below V.heap.size V z) (hx : IsT z T rz) => well_at T z rz ((HTB.out.later hBV).later hz) hx hTz E HEC.out.2)
    unfold nv at HWk HPu HWe
    simp only [kids_node, gaps_node, text_node, kind_node] at HWk HPu HWe
    generalize Pl.wth u X = Y at HWk HPu
    have HV1 := Lib.hid v1
    have HV2 := Lib.hid v2
    have HVN := Lib.hid vn
    have HBV := Lib.hid hBV
    have hl1 : w1.heap.size < V.heap.size := lt_blk v1
    have hl2 : w1.heap.size + 1 < V.heap.size := lt_blk v2
    have hlN : NB < V.heap.size := lt_blk vn
    obtain ⟨⟨a0, a1, a2, a3⟩, _⟩ := blk_cells (show V.drew.heap[w1.heap.size]? = _ from v1)
    obtain ⟨⟨k0', k1', k2', k3'⟩, _⟩ := blk_cells (show V.drew.heap[NB]? = _ from vn)
    clear hV hNB hbV hBV v1 v2 vn hX hM hXM hXz hTz HTX hUI hcapu e0 e1 e2 e3 y0 y1 y2 y3 pa2 fa2 ci2 hneg hbig h4
    go_region_held3 (fun w' => w'.cell? ⟨w1.heap.size, 0, none⟩ = some (.int .i64 k0) ∧ w'.cell? ⟨w1.heap.size, 1, none⟩ = some (.string s0) ∧ w'.cell? ⟨w1.heap.size, 2, none⟩ = some (.slice ga0 g0.length gc0) ∧ w'.cell? ⟨w1.heap.size, 3, none⟩ = some (.slice da0 ks0.length dc0) ∧ w'.cell? ⟨NB, 0, none⟩ = some (.int .i64 u.kind) ∧ w'.cell? ⟨NB, 1, none⟩ = some (.string u.text) ∧ w'.cell? ⟨NB, 2, none⟩ = some (.slice gu u.gaps.length gcu) ∧ w'.cell? ⟨NB, 3, none⟩ = some (.slice du u.kids.length dcu))
      (first
        | with_reducible exact ⟨a0, a1, a2, a3, k0', k1', k2', k3'⟩
        | exact ⟨(cell_set4 (by omega)).trans a0, (cell_set4 (by omega)).trans a1, (cell_set4 (by omega)).trans a2, (cell_set4 (by omega)).trans a3, (cell_set4 (by omega)).trans k0', (cell_set4 (by omega)).trans k1', (cell_set4 (by omega)).trans k2', (cell_set4 (by omega)).trans k3'⟩)
      ((first
        | (go_at_call 56; refine HSp.out.mono ?_; rintro e w3 ⟨hb3', ka, kc3, rfl, hm3', hki3⟩;
           have hb3 : Below V.heap.size V w3 := ((Below.refl V.heap.size V).drew).trans hb3';
           clear a0 a1 a2 a3 k0' k1' k2' k3'; obtain ⟨⟨a0, a1, a2, a3⟩, _⟩ := blk_cells (blk_keep HV1.out hb3); obtain ⟨⟨k0', k1', k2', k3'⟩, _⟩ := blk_cells (blk_keep HVN.out hb3);
           have hs3 := hb3.size; have HB3 := Lib.hid hb3; have HM3 := Lib.hid hm3'; have HKI3 := Lib.hid (hki3.keep (Same.refl _ _) (Q := fun b => b < w3.heap.size) fun b hb => by rcases hb with hb | hb; (have hb' : b < V.heap.size := hb; omega); exact hb.2); clear hb3' hb3 hki3 hm3')
        | (go_at_call 55; refine (HWk.out w3 ka kc3 HB3.out HKI3.out HM3.out).mono ?_; rintro e w4 ⟨⟨gY, gcY, dY, dcY⟩, rfl, htY, hb4'⟩;
           have hb4 : Below V.heap.size V w4 := HB3.out.trans (hb4'.mono hs3);
           clear a0 a1 a2 a3 k0' k1' k2' k3'; obtain ⟨⟨a0, a1, a2, a3⟩, _⟩ := blk_cells (blk_keep HV1.out hb4); obtain ⟨⟨k0', k1', k2', k3'⟩, _⟩ := blk_cells (blk_keep HVN.out hb4);
           have hs4 := hb4.size; have HB4 := Lib.hid hb4; have HTY := Lib.hid (show IsT w4 Y ⟨gY, gcY, dY, dcY⟩ from htY.keep (Same.refl _ _) fun b hb => Nat.lt_of_lt_of_le hb hb4'.size); clear hb4' hb4 htY)
        | (go_at_call 54; refine (HPu.out w4 ⟨gY, gcY, dY, dcY⟩ HB4.out HTY.out).mono ?_; rintro e w5 ⟨⟨gy, gcy, dy, dcy⟩, rfl, hty, hb5'⟩;
           have hb5 : Below V.heap.size V w5 := HB4.out.trans (hb5'.mono hs4);
           clear a0 a1 a2 a3 k0' k1' k2' k3'; obtain ⟨⟨a0, a1, a2, a3⟩, _⟩ := blk_cells (blk_keep HV1.out hb5); obtain ⟨⟨k0', k1', k2', k3'⟩, _⟩ := blk_cells (blk_keep HVN.out hb5);
           have hs5 := hb5.size; have HB5 := Lib.hid hb5; have HTy := Lib.hid (show IsT w5 T ⟨gy, gcy, dy, dcy⟩ from hty.keep (Same.refl _ _) fun b hb => by have := hb5'.size; rcases hb with hb | hb; (have hb' : b < w4.heap.size := hb; omega); exact hb.2); clear hb5' hb5 hty)
        | (go_at_call 41; refine (HWe.out w5 ⟨gy, gcy, dy, dcy⟩ HB5.out HTy.out).mono ?_; rintro e w6 ⟨hb6', U, ⟨gz, gcz, dz, dcz⟩, htz, hU1, hU2, rfl⟩;
           have hb6 : Below V.heap.size V w6 := HB5.out.trans (hb6'.mono hs5);
           clear a0 a1 a2 a3 k0' k1' k2' k3'; obtain ⟨⟨a0, a1, a2, a3⟩, _⟩ := blk_cells (blk_keep HV1.out hb6); obtain ⟨⟨k0', k1', k2', k3'⟩, _⟩ := blk_cells (blk_keep HVN.out hb6);
           obtain ⟨⟨e0, e1, e2, e3⟩, y0, y1, y2, y3⟩ := blk_cells (blk_keep HV2.out hb6);
           have hs6 := hb6.size; have HB6 := Lib.hid hb6; have HTZ := Lib.hid htz; have HU1 := Lib.hid hU1; have HU2 := Lib.hid hU2; clear hb6' hb6 htz hU1 hU2)))
    go_wp2_with fail
    have hlow := below_set4 (v0 := .int .i64 U.kind) (v1 := .string U.text) (v2 := .slice gz U.gaps.length gcz) (v3 := .slice dz U.kids.length dcz) (HBV.out.trans (HB6.out.mono HBV.out.size)) (show w1.heap.size ≤ w1.heap.size + 1 by omega)
    refine bodyPost_ret (v := .tuple #[.agg #[.int .i64 U.kind, .string U.text, .slice gz U.gaps.length gcz, .slice dz U.kids.length dcz], .int .i64 E]) (by simp [results, Tryd.results42, go_sem, e0, e1, e2, e3]) rfl ⟨hlow, U, ⟨gz, gcz, dz, dcz⟩, ?_, HU1.out, HU2.out, rfl⟩
    refine HTZ.out.keep (fun y hy => heap_set4 ?_) (fun y hy => ⟨?_, ?_⟩)
    · have := hy.1; omega
    · have := hy.1; omega
    · have := hy.2; rw [size_set4]; omega
end Go.Proofs.YtpaleolcfhnenaaDoor.Rt
