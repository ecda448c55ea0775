/- The walk of the reference's Remove. -/
import Derived.Test.YtpaleolcfhnenaaDoorRIns
namespace Go.Proofs.YtpaleolcfhnenaaDoor.Rt
open Go.RowKit
set_option linter.unusedVariables false
set_option linter.unusedSimpArgs false

theorem rremove_none (t : Pl.Tr) (w : World) (r : Sl) (ht : IsT w t r) (p : List Int) (pa : Option Addr) (pc : Nat) (hp : Ints (fun b => b < w.heap.size) w pa p) (h0 : p ≠ []) (hg : Pl.getP p t = none) :
    Calls Tryd.prog 24 #[nv t r, .slice pa p.length pc] w (ResP (Pl.remE t p) (Pl.remT t p) w) := by
  have hP : ∀ b, (fun b => b < w.heap.size) b → b < w.heap.size := fun _ h => h
  have HLT : ∀ W, Below w.heap.size w W → Same (fun b => b < w.heap.size) w W := fun W hb => Same.below hb hP
  have HGot := Lib.hid (fun W (hb : Below w.heap.size w W) => (rget_at ht hP p pa pc hp hP W (HLT W hb) (HLT W hb) hb.size).mono fun e w' he => none_of he hg)
  have HE := Lib.hid (Pl.remE_none hg)
  have hpl := hp.1
  unfold maxLen at hpl
  obtain ⟨m, hm⟩ : ∃ m, m = p.length := ⟨_, rfl⟩
  have hm0 : 0 < m := by rw [hm]; exact List.length_pos_iff.2 h0
  obtain ⟨y, hy⟩ : ∃ y, y = Pl.remT t p := ⟨_, rfl⟩
  rw [← hm] at hpl HGot ⊢
  rw [← hy, HE.out]
  obtain ⟨k0, s0, g0, ks0⟩ := t
  obtain ⟨ga, gc, da, dc⟩ := r
  unfold nv at HGot ⊢
  simp only [kids_node, gaps_node, text_node, kind_node] at HGot ⊢
  obtain ⟨h1, h2, h3, h4⟩ := two_after (w := w) (o1 := .cells #[.int .i64 k0, .string s0, .slice ga g0.length gc, .slice da ks0.length dc] 25) (o2 := .cells #[.int .i64 0, .string ⟨#[]⟩, .slice none 0 0, .slice none 0 0] 25) (Below.refl _ _)
  have H2 := Lib.hid h2
  have H3 := Lib.hid h3
  have hmn : decide ((m : Int) - 1 < 0) = false := by simp; omega
  clear ht hp hg h0 hm hy h1 h2 h3 HE
  go_enter Tryd.func24, Tryd.ntmps24
  go_wp2_with (go_at_call 16; refine (HGot.out _ H3.out).mono ?_; rintro e w2 ⟨hb2, rfl⟩; have hz2 : w.heap.size + 1 < w2.heap.size := (by have := hb2.size; simp at this; omega); have g3 := (hb2.block (w.heap.size + 1) (by simp)).trans H2.out; obtain ⟨⟨e0, e1, e2, e3⟩, y0, y1, y2, y3⟩ := blk_cells g3; have pa := cell_past (w.heap.size + 1); have fa := frozen_past (w.heap.size + 1); have HB2 := Lib.hid (H3.out.trans (hb2.mono (by simp; omega))); clear hb2 g3)
  all_goals
    have hlow := (below_set4 (v0 := .int .i64 0) (v1 := .string ⟨#[]⟩) (v2 := .slice none 0 0) (v3 := .slice none 0 0) HB2.out (show w.heap.size ≤ w.heap.size + 1 by omega)).alloc (by rw [size_set4]; omega) (.cells #[.int .i64 0, .string ⟨#[]⟩, .slice none 0 0, .slice none 0 0] 25)
    exact bodyPost_ret (v := .tuple #[.agg #[.int .i64 0, .string ⟨#[]⟩, .slice none 0 0, .slice none 0 0], .int .i64 5]) (by simp [results, Tryd.results24, go_sem, pa, e0, e1, e2, e3, hz2]) rfl ⟨hlow, .inr ⟨by decide, rfl⟩⟩
theorem rremove_nil (t : Pl.Tr) (w : World) (r : Sl) (ht : IsT w t r) (pa : Option Addr) (pc : Nat) :
    Calls Tryd.prog 24 #[nv t r, .slice pa 0 pc] w (ResP (Pl.remE t []) (Pl.remT t []) w) := by
  have hP : ∀ b, (fun b => b < w.heap.size) b → b < w.heap.size := fun _ h => h
  have HLT : ∀ W, Below w.heap.size w W → Same (fun b => b < w.heap.size) w W := fun W hb => Same.below hb hP
  have HGot := Lib.hid (fun W (hb : Below w.heap.size w W) => (rget_at ht hP [] pa pc (ints_nil _ _ _) hP W (HLT W hb) (HLT W hb) hb.size).mono fun e w' he => got_of he (u := t) rfl)
  rw [Pl.remE_nil]
  obtain ⟨y, hy⟩ : ∃ y, y = Pl.remT t [] := ⟨_, rfl⟩
  rw [← hy]
  obtain ⟨k0, s0, g0, ks0⟩ := t
  obtain ⟨ga, gc, da, dc⟩ := r
  unfold nv at HGot ⊢
  simp only [kids_node, gaps_node, text_node, kind_node, List.length_nil] at HGot ⊢
  obtain ⟨h1, h2, h3, h4⟩ := two_after (w := w) (o1 := .cells #[.int .i64 k0, .string s0, .slice ga g0.length gc, .slice da ks0.length dc] 25) (o2 := .cells #[.int .i64 0, .string ⟨#[]⟩, .slice none 0 0, .slice none 0 0] 25) (Below.refl _ _)
  have H2 := Lib.hid h2
  have H3 := Lib.hid h3
  clear ht hy h1 h2 h3
  go_enter Tryd.func24, Tryd.ntmps24
  go_wp2_with (go_at_call 16; refine (HGot.out _ H3.out).mono ?_; rintro e w2 ⟨hb2, ⟨gu, gcu, du, dcu⟩, _, rfl⟩; have hz2 : w.heap.size + 1 < w2.heap.size := (by have := hb2.size; simp at this; omega); have g3 := (hb2.block (w.heap.size + 1) (by simp)).trans H2.out; obtain ⟨⟨e0, e1, e2, e3⟩, y0, y1, y2, y3⟩ := blk_cells g3; have pa := cell_past (w.heap.size + 1); have fa := frozen_past (w.heap.size + 1); have HB2 := Lib.hid (H3.out.trans (hb2.mono (by simp; omega))); clear hb2 g3)
  all_goals
    have hlow := (below_set4 (v0 := .int .i64 0) (v1 := .string ⟨#[]⟩) (v2 := .slice none 0 0) (v3 := .slice none 0 0) HB2.out (show w.heap.size ≤ w.heap.size + 1 by omega)).alloc (by rw [size_set4]; omega) (.cells #[.int .i64 k0, .string s0, .slice gu g0.length gcu, .slice du ks0.length dcu] 25)
    exact bodyPost_ret (v := .tuple #[.agg #[.int .i64 0, .string ⟨#[]⟩, .slice none 0 0, .slice none 0 0], .int .i64 5]) (by simp [results, Tryd.results24, go_sem, pa, e0, e1, e2, e3, hz2]) rfl ⟨hlow, .inr ⟨by decide, rfl⟩⟩
set_option maxHeartbeats 6400000 in
set_option maxRecDepth 100000 in
theorem rremove_at (t v0 : Pl.Tr) (w : World) (r : Sl) (ht : IsT w t r) (p : List Int) (i : Int) (pa : Option Addr) (pc : Nat) (hp : Ints (fun b => b < w.heap.size) w pa (p ++ [i])) (hpc : p.length < pc) (hsz : Pl.sz t ≤ 900000) (hg0 : Pl.getP (p ++ [i]) t = some v0) :
    Calls Tryd.prog 24 #[nv t r, .slice pa (p.length + 1) pc] w (ResP (Pl.remE t (p ++ [i])) (Pl.remT t (p ++ [i])) w) := by
  obtain ⟨i0, hi0, hz0, hz1, hz2⟩ := info_parts infoN
  have hP : ∀ b, (fun b => b < w.heap.size) b → b < w.heap.size := fun _ h => h
  have HLT : ∀ W, Below w.heap.size w W → Same (fun b => b < w.heap.size) w W := fun W hb => Same.below hb hP
  obtain ⟨b1, o1, rfl, hb1, ci⟩ := ints_last hp
  have hpl := hp.1
  rw [List.length_append] at hpl
  unfold maxLen at hpl
  simp only [List.length_cons, List.length_nil] at hpl
  have hpi := ints_init hp
  have HPI := Lib.hid hpi
  have HT := Lib.hid ht
  obtain ⟨u, hg, hka⟩ := Pl.get_snoc hg0
  obtain ⟨a, rfl, hal, _⟩ := Pl.kidA_some hka
  have HGot0 := Lib.hid (fun W (hb : Below w.heap.size w W) => (rget_at ht hP (p ++ [(a : Int)]) (some ⟨b1, o1, none⟩) pc hp hP W (HLT W hb) (HLT W hb) hb.size).mono fun e w' he => got_of he hg0)
  have HGot := Lib.hid (fun W (hb : Below w.heap.size w W) => (rget_at ht hP p (some ⟨b1, o1, none⟩) pc hpi hP W (HLT W hb) (HLT W hb) hb.size).mono fun e w' he => got_of he hg)
  have HE := Lib.hid (Pl.remE_some (t := t) (p := p ++ [(a : Int)]) (by simp) hg0)
  have HIT2 := Lib.hid (Pl.remT_snoc (t := t) (a : Int) hg)
  rw [Int.toNat_natCast] at HIT2
  have hns : u.kids.length ≤ 900000 := by
    have := (Pl.idx_get (x := (Pl.idxP p t).get (by rw [← Pl.get_idx, hg]; rfl)) hg (by simp)).1
    have h2 := Pl.len_szs u.kids
    rw [Pl.sz_eq u] at this
    omega
  obtain ⟨y, hy⟩ : ∃ y, y = Pl.remT t (p ++ [(a : Int)]) := ⟨_, rfl⟩
  obtain ⟨E, hE⟩ : ∃ E, E = Pl.remE t (p ++ [(a : Int)]) := ⟨_, rfl⟩
  rw [← hy] at HE HIT2 ⊢
  rw [← hE] at HE ⊢
  obtain ⟨m, hm⟩ : ∃ m, m = p.length := ⟨_, rfl⟩
  have HM := Lib.hid hm
  have HZ := Lib.hid hsz
  obtain ⟨k0, s0, g0, ks0⟩ := t
  obtain ⟨ga, gc, da, dc⟩ := r
  rw [List.length_append] at HGot0
  unfold nv at HGot0 HGot ⊢
  simp only [kids_node, gaps_node, text_node, kind_node, List.length_cons, List.length_nil] at HGot0 HGot ⊢
  rw [← hm] at HGot0 HGot hpl hpc ci ⊢
  generalize hTT : Pl.Tr.node k0 s0 g0 ks0 = T at *
  have HTE := Lib.hid hTT
  obtain ⟨h1, h2, h3, h4⟩ := two_after (w := w) (o1 := .cells #[.int .i64 k0, .string s0, .slice ga g0.length gc, .slice da ks0.length dc] 25) (o2 := .cells #[.int .i64 0, .string ⟨#[]⟩, .slice none 0 0, .slice none 0 0] 25) (Below.refl _ _)
  have H1 := Lib.hid h1
  have H2 := Lib.hid h2
  have H3 := Lib.hid h3
  have hmn : decide ((m : Int) < 0) = false := by simp
  have hm1 : ((m : Int) + 1 == 0) = false := by simp; omega
  have hm0 : (0 : Int) ≤ (m : Int) := Int.natCast_nonneg _
  have hm2 : (m : Int) ≤ (pc : Int) := by omega
  have hm3 : (m : Int) < (m : Int) + 1 := by omega
  clear ht hp hpi hg hg0 hka hm hy hE hsz hTT h1 h2 h3
  go_enter Tryd.func24, Tryd.ntmps24
  go_upto_region 5 with (go_at_call 16; refine (HGot0.out _ H3.out).mono ?_; rintro e w2 ⟨hb2, ⟨gq, gcq, dq, dcq⟩, _, rfl⟩; have hz2' : w.heap.size + 1 < w2.heap.size := (by have := hb2.size; simp at this; omega); have q1 := (hb2.block w.heap.size (by simp; omega)).trans H1.out; have q3 := (hb2.block (w.heap.size + 1) (by simp)).trans H2.out; have HQ1 := Lib.hid q1; have HQ3 := Lib.hid q3; have HB2 := Lib.hid (H3.out.trans (hb2.mono (by simp; omega))); clear hb2 q1 q3)
  generalize hW : World.alloc w2 _ = W
  have h1 : W.heap[w.heap.size]? = some (.cells #[.int .i64 k0, .string s0, .slice ga g0.length gc, .slice da ks0.length dc] 25 (0, 0)) := by rw [← hW]; exact (Below.heap_alloc _ _ _ (by omega)).trans HQ1.out
  have h3 : W.heap[w.heap.size + 1]? = some (.cells #[.int .i64 0, .string ⟨#[]⟩, .slice none 0 0, .slice none 0 0] 25 (0, 0)) := by rw [← hW]; exact (Below.heap_alloc _ _ _ (by omega)).trans HQ3.out
  have h4' : Below w.heap.size w W := by rw [← hW]; exact HB2.out.alloc (by omega) _
  have hwz : w.heap.size + 2 ≤ W.heap.size := by rw [← hW]; simp; omega
  have H1' := Lib.hid h1
  have H3' := Lib.hid h3
  have H4 := Lib.hid h4'
  have ciW := (h4'.cell (p := ⟨b1, o1 + m, none⟩) hb1).trans ci
  obtain ⟨⟨c0, c1, c2, c3⟩, _⟩ := blk_cells h1
  have hbW : w.heap.size < W.heap.size := by omega
  have HDR : Hid (∀ (wx : World) (f : Nat), wx.drew.cell? ⟨w.heap.size, f, none⟩ = wx.cell? ⟨w.heap.size, f, none⟩) := Lib.hid fun _ _ => rfl
  have HPA := Lib.hid (cell_past w.heap.size)
  clear hW h1 h3 h4' ci HGot0 H1 H2 H3 HQ1 HQ3 HB2 hz2'
  go_cut [9, 10] (fun s9 s10 X => ∃ NB : Nat, s9 = .pointer (some ⟨NB, 0, none⟩) ∧ s10 = .int .i64 0 ∧ Got (fun b => b < w.heap.size) w W X NB u)
  case first =>
    go_region_held3 (fun w' => ∀ f : Nat, w'.cell? ⟨w.heap.size, f, none⟩ = W.cell? ⟨w.heap.size, f, none⟩)
      ((intro f
        iterate 6 (first
          | (with_reducible exact rfl)
          | (with_reducible exact HQ.out f)
          | (with_reducible refine (HDR.out _ _).trans ?_)
          | (with_reducible refine (HPA.out _ _ _ ?_).trans ?_; focus (first | omega | (simp; done) | (simp; omega)))
          | (with_reducible refine (cell_set4 ?_).trans ?_; focus omega)
          | skip)))
      ((first
        | (go_at_call 16; refine (HGot.out W.drew H4.out.drew).mono ?_; rintro e w2 ⟨hb2', ⟨ga2, gc2, da2, dc2⟩, ht2, rfl⟩;
           have hb2 : Below W.heap.size W w2 := ((Below.refl W.heap.size W).drew).trans hb2';
           have HQ : Hid (∀ f : Nat, w2.cell? ⟨w.heap.size, f, none⟩ = W.cell? ⟨w.heap.size, f, none⟩) := Lib.hid (fun f => hb2.cell (p := ⟨w.heap.size, f, none⟩) hbW);
           have hs2 := hb2.size; have HB2 := Lib.hid hb2; have HT2 := Lib.hid ht2; clear hb2' hb2 ht2)
        | (go_at_call 16; refine (HGot.out (W.alloc (.cells #[.int .i64 0, .string ⟨#[]⟩, .slice none 0 0, .slice none 0 0] 25)).drew ((H4.out.alloc (by omega) _).drew)).mono ?_; rintro e w2 ⟨hb2', ⟨ga2, gc2, da2, dc2⟩, ht2, rfl⟩;
           have hb2 : Below W.heap.size W w2 := (box_below W (.cells #[.int .i64 0, .string ⟨#[]⟩, .slice none 0 0, .slice none 0 0] 25)).drew.trans (hb2'.mono (by show W.heap.size ≤ (W.alloc _).heap.size; simp));
           have HQ : Hid (∀ f : Nat, w2.cell? ⟨w.heap.size, f, none⟩ = W.cell? ⟨w.heap.size, f, none⟩) := Lib.hid (fun f => hb2.cell (p := ⟨w.heap.size, f, none⟩) hbW);
           have hnb2 := (hb2'.block W.heap.size (by show W.heap.size < (W.alloc _).heap.size; simp)).trans (heap_alloc_new W (.cells #[.int .i64 0, .string ⟨#[]⟩, .slice none 0 0, .slice none 0 0] 25));
           obtain ⟨⟨p0, p1, p2, p3⟩, z0, z1, z2, z3⟩ := blk_cells hnb2;
           have NB2 := Lib.hid hnb2; have hs2 := hb2.size; have HB2 := Lib.hid hb2; have HT2 := Lib.hid ht2; clear hb2' hb2 ht2 hnb2)))
    all_goals go_wp2_with fail
    all_goals go_meet
    all_goals first
      | (have g9 := NB2.out; clear g9; exact ⟨W.heap.size, rfl, rfl, got_set HB2.out HT2.out NB2.out⟩)
      | exact ⟨w2.heap.size, rfl, rfl, got_new HB2.out HT2.out⟩
  case rest =>
    obtain ⟨NB, rfl, rfl, hgot⟩ := hcut
    obtain ⟨hl, hnbge, ru, htu, hbox⟩ := hgot
    obtain ⟨gu, gcu, du, dcu⟩ := ru
    have g1 := (hl.block w.heap.size (by omega)).trans H1'.out
    have g3 := (hl.block (w.heap.size + 1) (by omega)).trans H3'.out
    have ciX := (hl.cell (p := ⟨b1, o1 + m, none⟩) (show b1 < W.heap.size by have hb1' : b1 < w.heap.size := hb1; omega)).trans ciW
    have HB3 := Lib.hid (H4.out.trans (hl.mono H4.out.size))
    have hlz := hl.size
    have Q1 := Lib.hid g1
    have Q3 := Lib.hid g3
    have QI := Lib.hid ciX
    have HTU := Lib.hid htu
    have hul : u.kids.length ≤ maxLen := by cases htu with | mk _ _ R _ _ hl _ _ => exact hl
    unfold maxLen at hul
    have hnbl : NB < wc.heap.size := lt_blk hbox
    generalize wc = w3 at *
    obtain ⟨w3s, hw3s⟩ : ∃ z, z = w3.heap.size := ⟨_, rfl⟩
    have HWS := Lib.hid hw3s
    have h33 : w.heap.size + 2 ≤ w3s := by rw [hw3s]; omega
    have hnb3 : NB < w3s := by rw [hw3s]; exact hnbl
    obtain ⟨n, hn⟩ : ∃ n, n = u.kids.length := ⟨_, rfl⟩
    have HN := Lib.hid hn
    obtain ⟨X, hX⟩ : ∃ X, X = u.kids.eraseIdx a := ⟨_, rfl⟩
    have HXL : Hid (X.length + 1 = n) := Lib.hid (by rw [hX, List.length_eraseIdx, if_pos hal, hn]; omega)
    have HX1 := Lib.hid (fun j (hj : j < a) => (show X[j]? = u.kids[j]? by rw [hX, List.getElem?_eraseIdx, if_pos hj]))
    have HX3 := Lib.hid (fun j (hj : a ≤ j) => (show X[j]? = u.kids[j + 1]? by rw [hX, List.getElem?_eraseIdx, if_neg (by omega)]))
    rw [← hX] at HIT2
    rw [← hn] at hal hul hns hbox
    have QM := Lib.hid hbox
    clear c0 c1 c2 c3 HDR HPA hl g1 g3 ciW ciX htu hbox HGot hX hw3s hn
    go_wp2_with fail
    go_loopw [11, 12] (fun kv iv wr => ∃ (j c vc : Nat) (va : Option Addr) (L : List (Pl.Tr × Sl)), j ≤ n ∧ iv = .int .i64 j ∧ kv = .slice va c vc ∧ L.map Prod.fst = X.take c ∧ (j ≤ a ∧ c = j ∨ a < j ∧ c + 1 = j) ∧ Below w3.heap.size w3 wr ∧ MadeP (fun b => b < w.heap.size) w3.heap.size wr va c vc L) (fun _ iv _ => n - (intOf iv).toNat)
    case atStart => exact ⟨0, 0, 0, none, [], Nat.zero_le _, rfl, rfl, rfl, .inl ⟨Nat.zero_le _, rfl⟩, Below.refl _ _, madeP_nil _ _ _⟩
    case round =>
      obtain ⟨j, c, vc, va, L, hj, rfl, rfl, hL, hjc, hbel, hmade⟩ := hrel
      have HLL := Lib.hid hL
      have HBe := Lib.hid hbel
      have HMd := Lib.hid hmade
      have HJC := Lib.hid hjc
      have hgr := hbel.size
      have hcn : c ≤ n := by omega
      have hown3 : ∀ k, (Value.slice va c vc).ownBlock = some k → w3.heap.size ≤ k := fun k hk => (hmade.2.1.lt k hk).1
      obtain ⟨⟨n0, n1, n2, n3⟩, _⟩ := blk_cells ((hbel.block NB (by rw [← HWS.out]; exact hnb3)).trans QM.out)
      have qi := (hbel.cell (p := ⟨b1, o1 + m, none⟩) (show b1 < w3.heap.size by rw [← HWS.out]; have hb1' : b1 < w.heap.size := hb1; omega)).trans QI.out
      clear hL hmade hjc
      by_cases hlt : j < n
      · have hPB : ∀ b, (fun b => b < w.heap.size) b → b < w3.heap.size := fun b hb => by have hb' : b < w.heap.size := hb; rw [← HWS.out]; omega
        have hle : (j : Int) < (n : Int) := by omega
        by_cases hja : j = a
        · have hjb : ((j : Int) != (a : Int)) = false := by simp [hja]
          have HJA := Lib.hid hja
          clear hja hbel
          go_wp2_with fail
          exact ⟨⟨j + 1, c, vc, va, L, by omega, by go_num, rfl, HLL.out, by have := HJC.out; have := HJA.out; omega, HBe.out, HMd.out⟩, by simp [intOf]; omega⟩
        · have hjb : ((j : Int) != (a : Int)) = true := by simp; omega
          have HJA := Lib.hid hja
          have hjk : j < u.kids.length := by rw [← HN.out]; exact hlt
          have hv := List.getElem?_eq_getElem hjk
          have htu := HTU.out
          cases htu with
          | mk _ _ R hs0 hg0 hl0 hkL hr0 =>
          rcases hkL with h0 | ⟨b, o, hda, hb, hat⟩
          · rw [h0] at hjk; simp at hjk
          simp only at hda
          subst hda
          have hb' : b < w.heap.size := hb
          have hsr : Same (fun b => b < w.heap.size) w wr := HLT wr (HB3.out.trans (hbel.mono HB3.out.size))
          obtain ⟨d0, d1, d2, d3⟩ := At4.keep (hat j _ hv) hsr hb
          have HV := Lib.hid hv
          have HTV := Lib.hid (hr0 j _ hv)
          generalize u.kids[j] = v at *
          generalize R j = rv at *
          obtain ⟨gv, gcv, dv, dcv⟩ := rv
          simp only at d0 d1 d2 d3
          have hj0 : (0 : Int) ≤ (j : Int) := Int.natCast_nonneg _
          have hj1 : (j : Int) < (n : Int) := by omega
          have HSR := Lib.hid hsr
          clear hat hv hs0 hg0 hl0 hr0 hsr
          have HXJ : Hid (X[c]? = some v) := Lib.hid (by
            have := HJA.out
            rcases HJC.out with ⟨h1, h2⟩ | ⟨h1, h2⟩
            · rw [h2]; exact (HX1.out j (by omega)).trans HV.out
            · have e := HX3.out c (by omega)
              rw [h2] at e
              exact e.trans HV.out)
          clear hbel hja
          go_upto_region 11 with fail
          go_wp2_with (at_builtin; refine wpList_append_lies _ rfl (.tmp 50) (.tmp 56) 23 rfl w3.heap.size 25 i0 _ 4 72 Tryd.underlying23 hi0 hz0 hz1 hz2 rfl (by omega) (.slice va (c) vc) (c) (row4 L) rfl (HMd.out.2.1.alloc _) ⟨wr.heap.size, 0, none⟩ 1 1 [.int .i64 v.kind, .string v.text, .slice gv v.gaps.length gcv, .slice dv v.kids.length dcv] rfl rfl (World.news_of_block (cs := #[.int .i64 v.kind, .string v.text, .slice gv v.gaps.length gcv, .slice dv v.kids.length dcv]) (t := 25) (fr := (0, 0)) (heap_alloc_new wr _)) (by simp [Value.oneCell']) (by omega) (by unfold maxLen; omega) (by omega) (by simp; omega) (wr.heap.size + 1) (by simp) ?_; intro g4 cap4 w4 hown hgrow hat3 hlt3; have HO4 := Lib.hid hown; have HG4 := Lib.hid hgrow; have HA4 := Lib.hid hat3; clear hown hgrow hat3)
          have hsz4 := HG4.out.size
          simp at hsz4
          have hb4 : Below w3.heap.size w3 w4 := (HBe.out.alloc hgr _).grown HG4.out (by simp; omega) hown3
          exact ⟨⟨j + 1, c + 1, cap4, some ⟨g4, 0, none⟩, L ++ [(v, ⟨gv, gcv, dv, dcv⟩)], by omega, by go_num, rfl, made_fst HLL.out HXJ.out, by have := HJC.out; have := HJA.out; omega, hb4, madeP_snoc (t := v) (r := ⟨gv, gcv, dv, dcv⟩) hPB HMd.out hgr (Below.refl _ _) (HTV.out.keep HSR.out fun b hb => .inl hb) HO4.out HG4.out HA4.out⟩, by simp [intOf]; omega⟩
      · have HJN : Hid (c + 1 = n) := Lib.hid (by have := HJC.out; omega)
        have hLX : L.map Prod.fst = X := by rw [HLL.out, show c = X.length by have := HXL.out; have := HJN.out; omega, List.take_length]
        have hc9 : c ≤ 1000000 := by have := HJN.out; omega
        have hki := madeP_kids HMd.out hc9
        rw [hLX] at hki
        obtain ⟨wn, hwn⟩ : ∃ wn, wn = wr := ⟨_, rfl⟩
        have hsn : Same (fun b => b < w.heap.size) w wr := HLT wr (HB3.out.trans (hbel.mono HB3.out.size))
        have hBn : Below w.heap.size w wr := HB3.out.trans (hbel.mono HB3.out.size)
        have q1 := (hbel.block w.heap.size (by rw [← HWS.out]; omega)).trans Q1.out
        have q3 := (hbel.block (w.heap.size + 1) (by rw [← HWS.out]; omega)).trans Q3.out
        have qn := (hbel.block NB (by rw [← HWS.out]; exact hnb3)).trans QM.out
        have HQ1 := Lib.hid q1
        have HQ3 := Lib.hid q3
        have HQN := Lib.hid qn
        have HBn := Lib.hid hBn
        have HSn := Lib.hid hsn
        have hszn := hBn.size
        have hlt0 : w.heap.size < wr.heap.size := lt_blk q1
        have hlt3 : w.heap.size + 1 < wr.heap.size := lt_blk q3
        have hltN : NB < wr.heap.size := lt_blk qn
        have hKIO : KidsIn (Off (w.heap.size + 1) wr) wr va X := hki.keep (Same.refl _ _) (fun b hb => by
          rcases hb with hb | hb
          · have hb' : b < w.heap.size := hb
            exact ⟨by omega, by omega⟩
          · have := HWS.out; exact ⟨by omega, hb.2⟩)
        have hTU := HTU.out.keep hsn (Q := Off (w.heap.size + 1) wr) (fun b hb => by have hb' : b < w.heap.size := hb; exact ⟨by omega, by omega⟩)
        have hTT := HT.out.keep hsn (Q := Off (w.heap.size + 1) wr) (fun b hb => by have hb' : b < w.heap.size := hb; exact ⟨by omega, by omega⟩)
        have hPI2 := HPI.out.keep hsn (Q := Off (w.heap.size + 1) wr) (fun b hb => by have hb' : b < w.heap.size := hb; exact ⟨by omega, by omega⟩)
        have HW1 := Lib.hid (fun z (hz : Below wr.heap.size wr z) => with_at (P := Off (w.heap.size + 1) wr) u z ⟨gu, gcu, du, dcu⟩ (fun b hb => Nat.lt_of_lt_of_le hb.2 hz.size) (hTU.keep (Same.below hz (off_lt _ _)) fun b h => h) X va vc (hKIO.keep (Same.below hz (off_lt _ _)) fun b h => h) (by have := own_cap HMd.out.2.1; have := HXL.out; have := HJN.out; omega))
        have HPu := Lib.hid (fun z (rz : Sl) (hz : Below wr.heap.size wr z) (hx : Tin (Off (w.heap.size + 1) wr) z (Pl.wth u X) rz) => rput_at (P := Off (w.heap.size + 1) wr) (Q := Off (w.heap.size + 1) wr) (w := z) (Pl.wth u X) rz (fun b hb => Nat.lt_of_lt_of_le hb.2 hz.size) (fun b hb => Nat.lt_of_lt_of_le hb.2 hz.size) hx p T ⟨ga, gc, da, dc⟩ (some ⟨b1, o1, none⟩) pc (hTT.keep (Same.below hz (off_lt _ _)) fun b h => h) (hPI2.keep (Same.below hz (off_lt _ _)) fun b h => h) (by rw [← HM.out]; omega) (by have := HZ.out; omega) z (Same.refl _ _) (Same.refl _ _) (Nat.le_refl _))
        rw [← HIT2.out, ← HM.out, ← HTE.out] at HPu
        rw [show X.length = c by have := HXL.out; have := HJN.out; omega] at HW1
        unfold nv at HW1 HPu
        simp only [kids_node, gaps_node, text_node, kind_node] at HW1 HPu
        rw [← HN.out] at HW1
        generalize Pl.wth u X = V at HW1 HPu
        have hcle : decide ((j : Int) < (n : Int)) = false := by simp; omega
        clear hki hsn hBn hKIO hTU hTT hPI2 hbel q3 qn qi
        go_upto_region 12 with fail
        obtain ⟨⟨c0, c1, c2, c3⟩, _⟩ := blk_cells q1
        have k0' : wr.drew.cell? ⟨NB, 0, none⟩ = some (.int .i64 u.kind) := n0
        have k1' : wr.drew.cell? ⟨NB, 1, none⟩ = some (.string u.text) := n1
        have k2' : wr.drew.cell? ⟨NB, 2, none⟩ = some (.slice gu u.gaps.length gcu) := n2
        have k3' : wr.drew.cell? ⟨NB, 3, none⟩ = some (.slice du n dcu) := n3
        have hNBne : NB ≠ w.heap.size + 1 := by omega
        clear q1
        have a0 : wr.drew.cell? ⟨w.heap.size, 0, none⟩ = some (.int .i64 k0) := c0
        have a1 : wr.drew.cell? ⟨w.heap.size, 1, none⟩ = some (.string s0) := c1
        have a2 : wr.drew.cell? ⟨w.heap.size, 2, none⟩ = some (.slice ga g0.length gc) := c2
        have a3 : wr.drew.cell? ⟨w.heap.size, 3, none⟩ = some (.slice da ks0.length dc) := c3
        clear c0 c1 c2 c3 n0 n1 n2 n3
        go_region_held3 (fun w' => w'.cell? ⟨w.heap.size, 0, none⟩ = some (.int .i64 k0) ∧ w'.cell? ⟨w.heap.size, 1, none⟩ = some (.string s0) ∧ w'.cell? ⟨w.heap.size, 2, none⟩ = some (.slice ga g0.length gc) ∧ w'.cell? ⟨w.heap.size, 3, none⟩ = some (.slice da ks0.length dc) ∧ w'.cell? ⟨NB, 0, none⟩ = some (.int .i64 u.kind) ∧ w'.cell? ⟨NB, 1, none⟩ = some (.string u.text) ∧ w'.cell? ⟨NB, 2, none⟩ = some (.slice gu u.gaps.length gcu) ∧ w'.cell? ⟨NB, 3, none⟩ = some (.slice du n dcu))
          (first
            | with_reducible exact ⟨a0, a1, a2, a3, k0', k1', k2', k3'⟩
            | exact ⟨(cell_set4 (by omega)).trans a0, (cell_set4 (by omega)).trans a1, (cell_set4 (by omega)).trans a2, (cell_set4 (by omega)).trans a3, (cell_set4 (by omega)).trans k0', (cell_set4 (by omega)).trans k1', (cell_set4 (by omega)).trans k2', (cell_set4 (by omega)).trans k3'⟩)
          ((first
            | (go_at_call 46; refine (HW1.out wr.drew (Below.refl wr.heap.size wr).drew).mono ?_; rintro e w6 ⟨⟨gV, gcV, dV, dcV⟩, rfl, htV, hb6'⟩;
               have hb6 : Below wr.heap.size wr w6 := ((Below.refl wr.heap.size wr).drew).trans hb6';
               clear a0 a1 a2 a3 k0' k1' k2' k3'; obtain ⟨⟨a0, a1, a2, a3⟩, _⟩ := blk_cells ((hb6.block _ hlt0).trans HQ1.out); obtain ⟨⟨k0', k1', k2', k3'⟩, _⟩ := blk_cells ((hb6.block _ hltN).trans HQN.out);
               have hs6 := hb6.size; have HB6 := Lib.hid hb6; have HTV := Lib.hid htV; clear hb6' hb6 htV)
            | (go_at_call 45; refine (HPu.out w6 ⟨gV, gcV, dV, dcV⟩ HB6.out HTV.out).mono ?_; rintro e w7 ⟨⟨gy, gcy, dy, dcy⟩, rfl, hty, hb7'⟩;
               have hb7 : Below wr.heap.size wr w7 := HB6.out.trans (hb7'.mono hs6);
               clear a0 a1 a2 a3 k0' k1' k2' k3'; obtain ⟨⟨a0, a1, a2, a3⟩, _⟩ := blk_cells ((hb7.block _ hlt0).trans HQ1.out); obtain ⟨⟨k0', k1', k2', k3'⟩, _⟩ := blk_cells ((hb7.block _ hltN).trans HQN.out);
               have hs7 := hb7'.size; have HB7 := Lib.hid hb7; have HTY := Lib.hid hty; clear hb7' hb7 hty)
            | (go_at_call 44; refine ((rchecked_at y w7 ⟨gy, gcy, dy, dcy⟩ (fun b hb => by rcases hb with hb | hb; (have := hb.2; omega); exact hb.2) HTY.out).mono (fun e w' he => chkv_of he HE.out)).mono ?_; rintro e w8 ⟨hb8', U, ⟨gz, gcz, dz, dcz⟩, htz, hU1, hU2, rfl⟩;
               have hb8 : Below wr.heap.size wr w8 := HB7.out.trans (hb8'.mono (by omega));
               clear a0 a1 a2 a3 k0' k1' k2' k3'; obtain ⟨⟨a0, a1, a2, a3⟩, _⟩ := blk_cells ((hb8.block _ hlt0).trans HQ1.out); obtain ⟨⟨k0', k1', k2', k3'⟩, _⟩ := blk_cells ((hb8.block _ hltN).trans HQN.out);
               have g8 := (hb8.block (w.heap.size + 1) hlt3).trans HQ3.out;
               obtain ⟨⟨e0, e1, e2, e3⟩, y0, y1, y2, y3⟩ := blk_cells g8;
               have hs8 := hb8'.size; have HB8 := Lib.hid hb8; have HTZ := Lib.hid htz; have HU1 := Lib.hid hU1; have HU2 := Lib.hid hU2; clear hb8' hb8 htz hU1 hU2 g8)))
        go_wp2_with fail
        have hlow := below_set4 (v0 := .int .i64 U.kind) (v1 := .string U.text) (v2 := .slice gz U.gaps.length gcz) (v3 := .slice dz U.kids.length dcz) (HBn.out.trans (HB8.out.mono hszn)) (show w.heap.size ≤ w.heap.size + 1 by omega)
        refine bodyPost_ret (v := .tuple #[.agg #[.int .i64 U.kind, .string U.text, .slice gz U.gaps.length gcz, .slice dz U.kids.length dcz], .int .i64 E]) (by simp [results, Tryd.results24, go_sem, e0, e1, e2, e3]) rfl (res_of (r := ⟨gz, gcz, dz, dcz⟩) (w8 := w8) (P := fun _ => True) hlow HU1.out HU2.out ?_)
        refine HTZ.out.keep (fun b hb => heap_set4 ?_) (fun b hb => ?_)
        · rcases hb with hb | hb
          · exact hb.1
          · omega
        · rw [size_set4]
          rcases hb with hb | hb
          · have := hb.2; omega
          · omega
end Go.Proofs.YtpaleolcfhnenaaDoor.Rt
