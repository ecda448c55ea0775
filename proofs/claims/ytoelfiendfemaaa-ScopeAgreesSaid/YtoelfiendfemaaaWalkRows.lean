/- The walk of appendRows. -/
import Derived.Test.YtoelfiendfemaaaRow
namespace Go.Proofs.Ytoelfiendfemaaa
open Go.RowKit Go.Deep
set_option linter.unusedVariables false
set_option linter.unusedSimpArgs false

set_option maxHeartbeats 1600000 in
set_option maxRecDepth 100000 in
theorem append_at {P : Nat → Prop} {w : World} {t : Pl.Tr} {r : Sl} (h : Tin P w t r) (hP : ∀ b, P b → b < w.heap.size) (B : Nat) (hwB : w.heap.size ≤ B) : ∀ w1, Same P w w1 → B ≤ w1.heap.size → (∀ x ∈ Pl.pre t, x.gaps.length ≤ 1000000) → ∀ (a : Option Addr) (n c : Nat) (L : List (Pl.Rw × Sl)) (p : Int),
    n + Pl.sz t ≤ 1000000 → n = L.length → w1.ownsRow B 47 5 (.slice a n c) n (row5 L) →
    Calls Try.prog 61 #[.slice a n c, .agg #[.int .i64 t.kind, .string t.text, .slice r.ga t.gaps.length r.gc, .slice r.da t.kids.length r.dc], .int .i64 p] w1 (RowsP B P t p a n c L w1) := by
  obtain ⟨i0, hi0, hz0, hz1, hz2⟩ := info_parts infoR
  induction h with
  | mk t r R hs hg hl hk hr ih =>
    intro w1 hsame hBw hgap a n c L p hsz hnL hown
    cases t with
    | node k s g ks =>
      obtain ⟨ga, gc, da, dc⟩ := r
      simp only [kids_node, gaps_node, text_node, kind_node] at *
      have hszn : Pl.sz (.node k s g ks) = Pl.szs ks + 1 := by rw [Pl.sz]
      have HSZ := Lib.hid hszn
      rw [hszn] at hsz
      have hlen := Pl.len_szs ks
      have hg1 : g.length ≤ 1000000 := hgap (.node k s g ks) (by rw [Pl.pre]; exact List.mem_cons_self ..)
      obtain ⟨m, hm⟩ : ∃ m, m = ks.length := ⟨_, rfl⟩
      rw [← hm] at hlen ⊢
      have hlm : m ≤ 1000000 := by omega
      have hmk := run_make_row' (P := Try.prog) 45 3 (.int .i64 0) 8 Try.underlying45 infoI rfl .i64 .i64 m (by omega) (by omega)
      have HT := Lib.hid (fun (w1 : World) (hs : Same P w w1) => texts_any (w1 := w1) ga gc g (hg.keep hs (fun _ h => h)) (by omega))
      have HGap := Lib.hid hgap
      have HG := Lib.hid hg
      have HM := Lib.hid hm
      have HK := Lib.hid hk
      have HI := Lib.hid ih
      have HS := Lib.hid hsame
      have HO := Lib.hid hown
      have HnL := Lib.hid hnL
      have hownlt := hown.lt
      have HLT := Lib.hid hownlt
      clear hm hk hg hr ih hsame hgap hown hszn hnL hownlt
      go_enter Try.func61, Try.ntmps61
      go_wp2_with fail
      obtain ⟨W, hW⟩ : ∃ W, W = (w1.alloc (.cells #[.int .i64 k, .string s, .slice ga g.length gc, .slice da m dc] 54)).alloc (.cells (madeCells #[.int .i64 0] m) 3) := ⟨_, rfl⟩
      rw [← hW]
      obtain ⟨hb1, hb2, hlow, hz⟩ := two_after (w := w1) (w2 := W) (by rw [← hW]; exact Below.refl _ _)
      have hWs : W.heap.size = w1.heap.size + 1 + 1 := by rw [hW]; simp
      obtain ⟨⟨c0, c1, c2, c3⟩, _⟩ := blk_cells hb1
      have HKB := Lib.hid hb2
      have HLow := Lib.hid hlow
      have HWs := Lib.hid hWs
      have hBW : B ≤ W.heap.size := by omega
      clear hW hb1 hb2 hlow hWs hmk
      have d0 : W.drew.cell? ⟨w1.heap.size, 0, none⟩ = some (.int .i64 k) := c0
      have d1 : W.drew.cell? ⟨w1.heap.size, 1, none⟩ = some (.string s) := c1
      have d2 : W.drew.cell? ⟨w1.heap.size, 2, none⟩ = some (.slice ga g.length gc) := c2
      have d3 : W.drew.cell? ⟨w1.heap.size, 3, none⟩ = some (.slice da m dc) := c3
      go_region_held3 (fun w' => w'.cell? ⟨w1.heap.size, 0, none⟩ = some (.int .i64 k) ∧ w'.cell? ⟨w1.heap.size, 1, none⟩ = some (.string s) ∧ w'.cell? ⟨w1.heap.size, 2, none⟩ = some (.slice ga g.length gc) ∧ w'.cell? ⟨w1.heap.size, 3, none⟩ = some (.slice da m dc))
        (first
          | with_reducible exact ⟨d0, d1, d2, d3⟩
          | with_reducible exact ⟨q0, q1, q2, q3⟩
          | with_reducible exact ⟨r0, r1, r2, r3⟩
          | go_keep)
        ((first
          | (refine step_append_lies _ (by rfl) _ _ _ (by rfl) B 47 i0 _ 5 80 Try.underlying44 hi0 hz0 hz1 hz2 rfl (by omega) (.slice a n c) n (row5 L) (by rfl) ((owns_later HO.out (HLow.out.trans (HBel.out.mono (by omega)))).alloc _)
                   ⟨w2.heap.size, 0, none⟩ 1 1 [.int .i64 p, .int .i64 k, .string s, .slice (some ⟨b2, 0, none⟩) g.length g.length, .slice (some ⟨w1.heap.size + 1, 0, none⟩) m m] (by rfl) (by rfl) (World.news_of_block (cs := #[.int .i64 p, .int .i64 k, .string s, .slice (some ⟨b2, 0, none⟩) g.length g.length, .slice (some ⟨w1.heap.size + 1, 0, none⟩) m m]) (t := 47) (fr := (0, 0)) (heap_alloc_new w2 _)) (by simp [Value.oneCell'])
                   (by omega) (by unfold maxLen; omega) (by omega) (by simp; omega) (w2.heap.size + 1) (by simp) ?_; intro gg cap w3 hown hgrow hat3 hlt3;
             have hlow3 : ∀ x, x < w2.heap.size → some x ≠ (Value.slice a n c).ownBlock → w3.heap[x]? = w2.heap[x]? := fun x hx hx2 => (hgrow.block x (by simp; omega) hx2).trans (Below.heap_alloc w2 (.cells #[.int .i64 p, .int .i64 k, .string s, .slice (some ⟨b2, 0, none⟩) g.length g.length, .slice (some ⟨w1.heap.size + 1, 0, none⟩) m m] 47) x hx);
             have hob : ∀ x, w1.heap.size ≤ x → some x ≠ (Value.slice a n c).ownBlock := fun x hx e => by have := (HLT.out x e.symm).2; omega;
             have r0 := (World.cell?_of_block (w := w2) (a := ⟨w1.heap.size, 0, none⟩) (hlow3 w1.heap.size (by omega) (hob w1.heap.size (Nat.le_refl _)))).trans q0;
             have r1 := (World.cell?_of_block (w := w2) (a := ⟨w1.heap.size, 1, none⟩) (hlow3 w1.heap.size (by omega) (hob w1.heap.size (Nat.le_refl _)))).trans q1;
             have r2 := (World.cell?_of_block (w := w2) (a := ⟨w1.heap.size, 2, none⟩) (hlow3 w1.heap.size (by omega) (hob w1.heap.size (Nat.le_refl _)))).trans q2;
             have r3 := (World.cell?_of_block (w := w2) (a := ⟨w1.heap.size, 3, none⟩) (hlow3 w1.heap.size (by omega) (hob w1.heap.size (Nat.le_refl _)))).trans q3;
             have HOwn := Lib.hid hown;
             have HGrow := Lib.hid hgrow;
             have HAt3 := Lib.hid hat3;
             have hsz3 := hgrow.size;
             clear hown hgrow hat3 hlow3 hob)
          | (go_at_call 76; refine (HT.out W.drew (HS.out.trans (Same.below HLow.out.drew fun b hb => by have := hP b hb; omega))).mono ?_; rintro e w2 ⟨b2, rfl, hb, hst, hbel', hlt⟩;
             have hbel : Below W.heap.size W w2 := (Below.refl _ W).drew.trans hbel';
             have q0 := (hbel.cell (p := ⟨w1.heap.size, 0, none⟩) (by show w1.heap.size < _; omega)).trans c0;
             have q1 := (hbel.cell (p := ⟨w1.heap.size, 1, none⟩) (by show w1.heap.size < _; omega)).trans c1;
             have q2 := (hbel.cell (p := ⟨w1.heap.size, 2, none⟩) (by show w1.heap.size < _; omega)).trans c2;
             have q3 := (hbel.cell (p := ⟨w1.heap.size, 3, none⟩) (by show w1.heap.size < _; omega)).trans c3;
             have hsz2 := hbel.size;
             have HBel := Lib.hid hbel;
             have HST := Lib.hid hst;
             have HBe := Lib.hid hb;
             clear hbel hbel' hst hb)))
      have e2 : b2 = w1.heap.size + 1 + 1 := by have h1 := HBe.out; have h2 := HWs.out; rw [h1]; exact h2
      have E2 := Lib.hid e2
      have hgrow0 : w1.grownBy w3 (Value.slice a n c).ownBlock := by
        have h1 := below_grown' (row := (Value.slice a n c).ownBlock) (HLow.out.trans (HBel.out.mono (by omega))) (Nat.le_refl _)
        exact (h1.trans (World.grownBy_alloc w2 _ _)).trans HGrow.out
      have hg3 : (Value.slice a n c).ownBlock = some gg ∨ w1.heap.size + 1 + 1 < gg := by
        rcases HAt3.out with h1 | h1
        · exact .inl h1
        · right; have := HWs.out; omega
      have hgg : gg ≠ w1.heap.size + 1 ∧ gg ≠ w1.heap.size + 1 + 1 ∧ B ≤ gg := by
        rcases hg3 with h1 | h1
        · have := HLT.out gg h1; omega
        · omega
      have hob : ∀ x, w1.heap.size ≤ x → some x ≠ (Value.slice a n c).ownBlock := fun x hx e => by have := (HLT.out x e.symm).2; omega
      have hsz3' : w2.heap.size < w3.heap.size := by simp at hsz3; omega
      have hlow3 : ∀ x, x < w2.heap.size → w1.heap.size ≤ x → w3.heap[x]? = w2.heap[x]? := fun x hx hx2 => (HGrow.out.block x (by simp; omega) (hob x hx2)).trans (Below.heap_alloc _ _ _ hx)
      have hkb3 : w3.heap[w1.heap.size + 1]? = some (.cells (madeCells #[.int .i64 0] m) 3 (0, 0)) :=
        (hlow3 _ (by omega) (by omega)).trans ((HBel.out.block _ (by omega)).trans HKB.out)
      have hst3 : Strs (fun x => x = b2) w3 (some ⟨b2, 0, none⟩) g := HST.out.keep (fun x hx => hlow3 x (by omega) (by omega)) (fun x hx => hx)
      have hrow0 : w3.ownsRow B 47 5 (.slice (some ⟨gg, 0, none⟩) (n + 1) cap) (n + 1) (row5 (L ++ [(Pl.rowOf p (.node k s g ks) n, ⟨some ⟨b2, 0, none⟩, g.length, some ⟨w1.heap.size + 1, 0, none⟩, m⟩)])) := by
        have h1 := HOwn.out
        rw [row5_snoc]
        have e : cells5 (Pl.rowOf p (.node k s g ks) n, ⟨some ⟨b2, 0, none⟩, g.length, some ⟨w1.heap.size + 1, 0, none⟩, m⟩) = [.int .i64 p, .int .i64 k, .string s, .slice (some ⟨b2, 0, none⟩) g.length g.length, .slice (some ⟨w1.heap.size + 1, 0, none⟩) m m] := by
          show [Value.int .i64 p, .int .i64 k, .string s, .slice (some ⟨b2, 0, none⟩) g.length g.length, .slice (some ⟨w1.heap.size + 1, 0, none⟩) (Pl.kidx ks (n + 1)).length m] = _
          rw [Pl.kidx_len, ← HM.out]
        rw [e]; exact h1
      have HG0 := Lib.hid hgrow0
      have HG3 := Lib.hid hg3
      have HKB3 := Lib.hid hkb3
      have HST3 := Lib.hid hst3
      have HR0 := Lib.hid hrow0
      have hs3 : w1.heap.size + 1 + 1 < w3.heap.size := by omega
      clear hgrow0 hg3 hlow3 hkb3 hst3 hrow0 hob e2
      obtain ⟨rr, hrr⟩ : ∃ rr : Pl.Rw × Sl, rr = (Pl.rowOf p (.node k s g ks) n, ⟨some ⟨b2, 0, none⟩, g.length, some ⟨w1.heap.size + 1, 0, none⟩, m⟩) := ⟨_, rfl⟩
      have HRR := Lib.hid hrr
      rw [← hrr] at HR0
      clear hrr
      go_wp2_with fail
      go_loopw [0, 33] (fun l i wr => ∃ (j gq cp : Nat) (L2 : List (Pl.Rw × Sl)) (cs : Array Value), j ≤ m ∧ i = .int .i64 j ∧ l = .slice (some ⟨gq, 0, none⟩) (n + 1 + Pl.szs (ks.take j)) cp ∧ L2.map Prod.fst = Pl.tabs (ks.take j) (n + 1) n ∧
        wr.ownsRow B 47 5 (.slice (some ⟨gq, 0, none⟩) (n + 1 + Pl.szs (ks.take j)) cp) (n + 1 + Pl.szs (ks.take j)) (row5 (L ++ rr :: L2)) ∧ w1.grownBy wr (Value.slice a n c).ownBlock ∧ ((Value.slice a n c).ownBlock = some gq ∨ w1.heap.size + 1 + 1 < gq) ∧ gq < wr.heap.size ∧
        w1.heap.size + 1 + 1 < wr.heap.size ∧ wr.heap[w1.heap.size + 1]? = some (.cells cs 3 (0, 0)) ∧ cs.size = m ∧ (∀ q : Nat, q < j → cs[q]? = ((Pl.kidx ks (n + 1))[q]?).map (Value.int .i64)) ∧ Strs (fun x => x = b2) wr (some ⟨b2, 0, none⟩) g ∧
        (∀ (q : Nat) x, L2[q]? = some x → RowIn (fun b => (P b ∨ w1.heap.size + 1 + 1 < b) ∧ b < wr.heap.size ∧ b ≠ gq) wr x.1 x.2)) (fun _ i _ => m - (intOf i).toNat)
      case atStart =>
        refine ⟨0, gg, cap, [], madeCells #[.int .i64 0] m, Nat.zero_le _, rfl, by simp [Pl.szs], by simp [Pl.tabs], ?_, HG0.out, HG3.out, hlt3, hs3, HKB3.out, by simp [size_madeCells], fun q hq => by omega, HST3.out, fun q x hx => by cases q <;> cases hx⟩
        have := HR0.out
        simpa [Pl.szs] using this
      case round =>
        obtain ⟨j, gq, cp, L2, cs, hj, rfl, rfl, hL2, hown, hgr, hgq, hgql, hszr, hkb, hcs, hcsq, hst, hrows⟩ := hrel
        have HL2 := Lib.hid hL2
        have HOwn2 := Lib.hid hown
        have HGr := Lib.hid hgr
        have HGq := Lib.hid hgq
        have HKB2 := Lib.hid hkb
        have HCS := Lib.hid hcs
        have HCSq := Lib.hid hcsq
        have HST2 := Lib.hid hst
        have HRows := Lib.hid hrows
        clear hL2 hown hgr hgq hkb hcsq hst hrows
        by_cases hlt : j < m
        · have hjk : j < ks.length := by rw [← HM.out]; exact hlt
          have hu := List.getElem?_eq_getElem hjk
          have hstep := Pl.szs_step ks j hjk
          have hsr : Same P w wr := HS.out.trans (fun x hx => HGr.out.block x (by have := hP x hx; omega) (fun e => by have := (HLT.out x e.symm).1; have := hP x hx; omega))
          rcases HK.out with h0 | ⟨b, o, rfl, hb, hat⟩
          · rw [h0] at hjk; simp at hjk
          have l1 := Lib.hid (At4.keep (hat j _ hu) hsr hb).range
          have HI1 := Lib.hid (HI.out j _ hu)
          have HU := Lib.hid hu
          have HGk := Lib.hid (fun x (hx : x ∈ Pl.pre ks[j]) => HGap.out x (by rw [Pl.pre]; exact List.mem_cons_of_mem _ (Pl.mem_pres (List.getElem_mem hjk) hx)))
          have HTk := Lib.hid (Pl.szs_take ks j hjk)
          have HTab := Lib.hid (Pl.tabs_take ks j hjk (n + 1) n)
          have HKi := Lib.hid (Pl.kidx_get ks (n + 1) j hjk)
          have hszj := Pl.szs_take_le ks j
          generalize ks[j] = u at *
          generalize R j = r1 at *
          obtain ⟨ga1, gc1, da1, dc1⟩ := r1
          obtain ⟨sj, hsj⟩ : ∃ sj, sj = Pl.szs (ks.take j) := ⟨_, rfl⟩
          have HSJ := Lib.hid hsj
          have HSR := Lib.hid hsr
          have hcj : cs[j]? = some cs[j] := Array.getElem?_eq_getElem (by omega)
          have hcell := (cell_of_row wr (w1.heap.size + 1) j cs _ _ HKB2.out).trans hcj
          have hfroz : wr.frozen? ⟨w1.heap.size + 1, j, none⟩ = false := by simp [World.frozen?, HKB2.out]
          have pa := cell_past (w1.heap.size + 1)
          have fa := frozen_past (w1.heap.size + 1)
          have hkl : w1.heap.size + 1 < wr.heap.size := by omega
          have hj0 : (0 : Int) ≤ (j : Int) := Int.natCast_nonneg _
          have hj1 : (j : Int) < (m : Int) := by omega
          generalize cs[j] = old at hcj hcell
          rw [← hsj] at hstep hszj ⊢
          clear hat hu hsr hcj hsj
          have hgqn : gq ≠ w1.heap.size + 1 ∧ gq ≠ w1.heap.size + 1 + 1 := by
            rcases HGq.out with h1 | h1
            · have := HLT.out gq h1; omega
            · omega
          have HX := Lib.hid (fun (v : Value) (ob : Obj) x (hx : x < wr.heap.size) (hne : x ≠ w1.heap.size + 1) => show ((wr.setCell ⟨w1.heap.size + 1, j, none⟩ v).alloc ob).heap[x]? = wr.heap[x]? from
            (Below.heap_alloc _ _ _ (by simp; exact hx)).trans (Below.heap_setCell _ _ _ _ hne))
          have hL2len : L2.length = sj := by
            have h1 := congrArg List.length HL2.out
            rw [List.length_map, Pl.tabs_len, ← HSJ.out] at h1
            exact h1
          have HLen : Hid (n + 1 + sj = (L ++ rr :: L2).length) := Lib.hid (by rw [List.length_append, List.length_cons, hL2len, ← HnL.out]; omega)
          have HOwn4 : Hid (wr.ownsRow B 47 5 (.slice (some ⟨gq, 0, none⟩) (n + 1 + sj) cp) (n + 1 + sj) (row5 (L ++ rr :: L2))) := Lib.hid (by rw [HSJ.out]; exact HOwn2.out)
          clear hL2len
          go_wp2_with (first
            | (refine wpList_load_mid rfl 54 _ rfl b (o + j * 4) rfl [.int .i64 u.kind, .string u.text, .slice ga1 u.gaps.length gc1, .slice da1 u.kids.length dc1] _ l1.out Try.underlying54 rfl sizeN ?_)
            | (go_at_call 61; refine (HI1.out _ (HSR.out.trans (fun x hx => HX.out _ _ x (by have := hP x hx; omega) (by have := hP x hx; omega))) (by simp; omega) HGk.out _ (n + 1 + sj) cp (L ++ rr :: L2) n (by omega) HLen.out
                (owns_keep HOwn4.out (fun x hx => by simp [Value.ownBlock] at hx; subst hx; exact HX.out _ _ gq hgql hgqn.1))).mono ?_; rintro e w5 ⟨g5, c5, L3, rfl, h5m, h5o, h5g, h5q, h5l, h5r⟩; have h5s := h5g.size; simp at h5s; have H5m := Lib.hid h5m; have H5o := Lib.hid h5o; have H5g := Lib.hid h5g; have H5q := Lib.hid h5q; have H5r := Lib.hid h5r; clear h5m h5o h5g h5q h5r l1))
          have h5q := H5q.out
          have hgq5 : (Value.slice a n c).ownBlock = some g5 ∨ w1.heap.size + 1 + 1 < g5 := by
            rcases h5q with h1 | h1
            · simp [Value.ownBlock] at h1; subst h1; exact HGq.out
            · right; simp at h1; omega
          have hxw : ∀ x, x < wr.heap.size → x ≠ w1.heap.size + 1 → x ≠ gq → w5.heap[x]? = wr.heap[x]? := fun x hx h1 h2 =>
            (H5g.out.block x (by simp; omega) (by simp [Value.ownBlock]; exact h2)).trans (HX.out _ _ x hx h1)
          have hkb5 : w5.heap[w1.heap.size + 1]? = some (.cells (cs.setIfInBounds j (.int .i64 (n + 1 + sj))) 3 (0, 0)) := by
            refine (H5g.out.block _ (by simp; omega) (by simp [Value.ownBlock]; exact fun e => hgqn.1 e.symm)).trans ((Below.heap_alloc _ _ _ (by simp; omega)).trans ?_)
            have := HKB2.out
            simp [World.setCell, Array.getElem?_modify, this]
          have e5 : n + 1 + sj + Pl.sz u = n + 1 + Pl.szs (ks.take (j + 1)) := by rw [HTk.out, ← HSJ.out]; omega
          refine ⟨⟨j + 1, g5, c5, L2 ++ L3, cs.setIfInBounds j (.int .i64 (n + 1 + sj)), by omega, by go_num, by rw [← e5], ?_, ?_, ?_, hgq5, h5l, by omega, hkb5, by simp; exact HCS.out, ?_, ?_, ?_⟩, by simp [intOf]; omega⟩
          · rw [List.map_append, HL2.out, H5m.out, HTab.out, ← HSJ.out]
          · rw [← e5]
            have h1 := H5o.out
            rw [List.append_assoc, List.cons_append] at h1
            exact h1
          · refine ⟨H5g.out.os.trans HGr.out.os, H5g.out.tape.trans HGr.out.tape, H5g.out.output.trans HGr.out.output, by omega, fun x hx hne => ?_⟩
            refine (hxw x (by omega) (by omega) (fun e => ?_)).trans (HGr.out.block x hx hne)
            rcases HGq.out with h1 | h1
            · exact hne (by rw [h1, e])
            · omega
          · intro q hq
            rw [Array.getElem?_setIfInBounds]
            by_cases hqj : j = q
            · subst hqj
              have hjc := HCS.out
              rw [if_pos rfl, if_pos (by omega), HKi.out, ← HSJ.out]
              rfl
            · rw [if_neg hqj]
              exact HCSq.out q (by omega)
          · exact HST2.out.keep (fun x hx => hxw x (by have := E2.out; omega) (by have := E2.out; omega) (by have := E2.out; omega)) (fun x hx => hx)
          · intro q x hx
            have hq5 : g5 = gq ∨ wr.heap.size ≤ g5 := by
              rcases h5q with h1 | h1
              · left; simp [Value.ownBlock] at h1; exact h1.symm
              · right; simp at h1; omega
            have hPK : ∀ y, (P y ∨ w1.heap.size + 1 + 1 < y) → y ≠ w1.heap.size + 1 := by
              rintro y (h | h)
              · have := hP y h; omega
              · omega
            by_cases hq : q < L2.length
            · rw [List.getElem?_append_left hq] at hx
              exact (HRows.out q x hx).keep (P := fun y => ((P y ∨ w1.heap.size + 1 + 1 < y) ∧ y < wr.heap.size ∧ y ≠ gq)) (fun y hy => hxw y hy.2.1 (hPK y hy.1) hy.2.2) (fun y hy => ⟨hy.1, by omega, by omega⟩)
            · rw [List.getElem?_append_right (by omega)] at hx
              refine (H5r.out _ x hx).keep (Same.refl _ _) (fun y hy => ⟨hy.1.imp id (fun h => by simp at h; omega), hy.2.1, hy.2.2⟩)
        · have hjm : j = m := by omega
          subst hjm
          have htk : ks.take j = ks := by rw [HM.out, List.take_length]
          have HTK := Lib.hid htk
          rw [htk]
          have e1 : n + Pl.sz (.node k s g ks) = n + 1 + Pl.szs ks := by rw [HSZ.out]; omega
          have E1 := Lib.hid e1
          clear htk e1
          go_wp2_with fail
          go_ret
          have hown := HOwn2.out
          rw [HTK.out] at hown
          refine ⟨gq, cp, rr :: L2, by rw [E1.out]; rfl, ?_, by rw [E1.out]; exact hown, HGr.out, ?_, hgql, fun q x hx => ?_⟩
          · have h2 := HL2.out
            rw [HTK.out] at h2
            rw [List.map_cons, h2, HRR.out, Pl.tab_head]; rfl
          · rcases HGq.out with h1 | h1
            · exact .inl h1
            · right; omega
          · have hgqn : gq ≠ w1.heap.size + 1 ∧ gq ≠ w1.heap.size + 1 + 1 := by
              rcases HGq.out with h1 | h1
              · have := HLT.out gq h1; omega
              · omega
            match q, hx with
            | 0, hx =>
              obtain rfl : rr = x := by simpa using hx
              rw [HRR.out]
              refine ⟨hs, ?_, ?_⟩
              · exact HST2.out.keep (Same.refl _ _) (fun b hb => by have := E2.out; exact ⟨.inr (by omega), by omega, by omega⟩)
              · refine ⟨by show (Pl.kidx ks (n + 1)).length ≤ _; rw [Pl.kidx_len, ← HM.out]; unfold maxLen; omega, .inr ⟨w1.heap.size + 1, 0, rfl, ⟨.inr (by omega), by omega, fun e => hgqn.1 e.symm⟩, fun q x hx => ?_⟩⟩
                have hq : q < j := by
                  have := (List.getElem?_eq_some_iff.1 hx).1
                  rw [show (Pl.rowOf p (Pl.Tr.node k s g ks) n).kids = Pl.kidx ks (n + 1) from rfl, Pl.kidx_len, ← HM.out] at this
                  exact this
                rw [Nat.zero_add, cell_of_row _ _ _ _ _ _ HKB2.out, HCSq.out q hq]
                have hx2 : (Pl.kidx ks (n + 1))[q]? = some x := hx
                rw [hx2]; rfl
            | q + 1, hx =>
              exact (HRows.out q x (by simpa using hx)).keep (Same.refl _ _) (fun b hb => ⟨hb.1.imp id (fun h => by omega), hb.2.1, hb.2.2⟩)
end Go.Proofs.Ytoelfiendfemaaa
