/- The walks of the reference's rows and Rows. -/
import Derived.Test.YtoelfiendfemaaaWalkTable
namespace Go.Proofs.Ytoelfiendfemaaa
open Go.RowKit Go.Deep
set_option linter.unusedVariables false
set_option linter.unusedSimpArgs false

theorem news_int (w : World) (x : Int) : ∀ (j : Nat) (u : Value), ([.int .i64 x] : List Value)[j]? = some u → (w.alloc (.cells #[.int .i64 x] 3)).cell? ((⟨w.heap.size, 0, none⟩ : Addr).add j) = some u :=
  World.news_of_block (cs := #[.int .i64 x]) (t := 3) (fr := (0, 0)) (heap_alloc_new w _)
/-- The last cell of one row is stored. -/
theorem row5_set (L L2 : List (Pl.Rw × Sl)) (rr : Pl.Rw × Sl) (n : Nat) (hn : n = L.length) (u : Value) :
    (row5 (L ++ rr :: L2)).set (n * 5 + 4) u = row5 L ++ ([.int .i64 rr.1.parent, .int .i64 rr.1.kind, .string rr.1.text, .slice rr.2.ga rr.1.gaps.length rr.2.gc, u] ++ row5 L2) := by
  rw [row5_append, List.set_append_right _ _ (by rw [row5_len]; omega), row5_len, show n * 5 + 4 - L.length * 5 = 4 from by omega]
  rfl
/-- The kids' indices so far. -/
def ints (l : List Int) : List Value := l.map (Value.int .i64)
set_option maxHeartbeats 1600000 in
set_option maxRecDepth 100000 in
theorem rrows_at {P : Nat → Prop} {w : World} {t : Pl.Tr} {r : Sl} (h : Tin P w t r) (hP : ∀ b, P b → b < w.heap.size) (B : Nat) (hwB : w.heap.size ≤ B) : ∀ w1, Same P w w1 → B ≤ w1.heap.size → ∀ (a : Option Addr) (n c : Nat) (L : List (Pl.Rw × Sl)) (p : Int),
    n + Pl.sz t ≤ 1000000 → n = L.length → w1.ownsRow B 47 5 (.slice a n c) n (row5 L) →
    Calls Try.prog 60 #[.slice a n c, .agg #[.int .i64 t.kind, .string t.text, .slice r.ga t.gaps.length r.gc, .slice r.da t.kids.length r.dc], .int .i64 p] w1 (RowsP B P t p a n c L w1) := by
  obtain ⟨i0, hi0, hz0, hz1, hz2⟩ := info_parts infoR
  obtain ⟨j0, hj0, hy0, hy1, hy2⟩ := info_parts infoI
  induction h with
  | mk t r R hs hg hl hk hr ih =>
    intro w1 hsame hBw a n c L p hsz hnL hown
    cases t with
    | node k s g ks =>
      obtain ⟨ga, gc, da, dc⟩ := r
      simp only [kids_node, gaps_node, text_node, kind_node] at *
      have hszn : Pl.sz (.node k s g ks) = Pl.szs ks + 1 := by rw [Pl.sz]
      have HSZ := Lib.hid hszn
      rw [hszn] at hsz
      have hlen := Pl.len_szs ks
      obtain ⟨m, hm⟩ : ∃ m, m = ks.length := ⟨_, rfl⟩
      rw [← hm] at hlen ⊢
      have hlm : m ≤ 1000000 := by omega
      have HG := Lib.hid hg
      have HM := Lib.hid hm
      have HK := Lib.hid hk
      have HI := Lib.hid ih
      have HS := Lib.hid hsame
      have HO := Lib.hid hown
      have HnL := Lib.hid hnL
      have hownlt := hown.lt
      have HLT := Lib.hid hownlt
      clear hm hk hg hr ih hsame hown hszn hnL hownlt
      go_enter Try.func60, Try.ntmps60
      go_wp2_with (refine wpList_append_lies _ rfl (.tmp 12) (.tmp 21) 44 rfl B 47 i0 _ 5 80 Try.underlying44 hi0 hz0 hz1 hz2 rfl (by omega) (.slice a n c) n (row5 L) rfl ((HO.out.alloc _).alloc _) ⟨w1.heap.size + 1, 0, none⟩ 1 1 [.int .i64 p, .int .i64 k, .string s, .slice ga g.length gc, .slice none 0 0] rfl rfl (World.news_of_block (cs := #[.int .i64 p, .int .i64 k, .string s, .slice ga g.length gc, .slice none 0 0]) (t := 47) (fr := (0, 0)) (heap_at2 w1 _ _)) (by simp [Value.oneCell']) (by omega) (by unfold maxLen; omega) (by omega) (by simp; omega) (w1.heap.size + 1 + 1) (by simp) ?_; intro gg cap w3 hown hgrow hat3 hlt3)
      have hg3 : (Value.slice a n c).ownBlock = some gg ∨ w1.heap.size + 1 < gg := by
        rcases hat3 with h1 | h1
        · exact .inl h1
        · right; omega
      have hsz3 := hgrow.size
      simp at hsz3
      have hgrow0 : w1.grownBy w3 (Value.slice a n c).ownBlock := ((World.grownBy_alloc w1 _ _).trans (World.grownBy_alloc _ _ _)).trans hgrow
      have hob : ∀ x, w1.heap.size ≤ x → some x ≠ (Value.slice a n c).ownBlock := fun x hx e => by have := (HLT.out x e.symm).2; omega
      have hbox3 : w3.cell? ⟨w1.heap.size, 3, none⟩ = some (.slice da m dc) := by
        have h1 := (box_new w1 k s (.slice ga g.length gc) (.slice da m dc)).2.2.2
        refine (World.cell?_of_block (w := w1.alloc (.cells #[.int .i64 k, .string s, .slice ga g.length gc, .slice da m dc] 54)) (a := ⟨w1.heap.size, 3, none⟩) ?_).trans h1
        exact (hgrow.block _ (by simp; omega) (hob _ (Nat.le_refl _))).trans (Below.heap_alloc _ _ _ (by simp))
      have hrow0 : w3.ownsRow B 47 5 (.slice (some ⟨gg, 0, none⟩) (n + 1) cap) (n + 1) (row5 (L ++ [(⟨p, k, s, g, []⟩, ⟨ga, gc, none, 0⟩)])) := by
        rw [row5_snoc]; exact hown
      have HG0 := Lib.hid hgrow0
      have HG3 := Lib.hid hg3
      have HR0 := Lib.hid hrow0
      have HB3 := Lib.hid hbox3
      have hs3 : w1.heap.size + 1 < w3.heap.size := by omega
      clear hgrow0 hg3 hob hbox3 hrow0 hgrow hat3 hown hsz3
      obtain ⟨rr, hrr⟩ : ∃ rr : Pl.Rw × Sl, rr = (⟨p, k, s, g, []⟩, ⟨ga, gc, none, 0⟩) := ⟨_, rfl⟩
      have HRR := Lib.hid hrr
      rw [← hrr] at HR0
      clear hrr
      go_loopw [0, 8, 9] (fun l kv i wr => ∃ (j gq cp : Nat) (ka : Option Addr) (kc : Nat) (L2 : List (Pl.Rw × Sl)), j ≤ m ∧ i = .int .i64 j ∧ l = .slice (some ⟨gq, 0, none⟩) (n + 1 + Pl.szs (ks.take j)) cp ∧ kv = .slice ka j kc ∧ L2.map Prod.fst = Pl.tabs (ks.take j) (n + 1) n ∧
        wr.ownsRow B 47 5 (.slice (some ⟨gq, 0, none⟩) (n + 1 + Pl.szs (ks.take j)) cp) (n + 1 + Pl.szs (ks.take j)) (row5 (L ++ rr :: L2)) ∧ w1.grownBy wr (Value.slice a n c).ownBlock ∧ ((Value.slice a n c).ownBlock = some gq ∨ w1.heap.size + 1 < gq) ∧ gq < wr.heap.size ∧
        w1.heap.size + 1 < wr.heap.size ∧ wr.cell? ⟨w1.heap.size, 3, none⟩ = some (.slice da m dc) ∧ wr.ownsRow (w1.heap.size + 1) 3 1 (.slice ka j kc) j (ints ((Pl.kidx ks (n + 1)).take j)) ∧ (∀ kb, (Value.slice ka j kc).ownBlock = some kb → kb ≠ gq) ∧
        (∀ (q : Nat) x, L2[q]? = some x → RowIn (fun b => (P b ∨ w1.heap.size + 1 ≤ b) ∧ b < wr.heap.size ∧ b ≠ gq ∧ (Value.slice ka j kc).ownBlock ≠ some b) wr x.1 x.2)) (fun _ _ i _ => m - (intOf i).toNat)
      case atStart =>
        refine ⟨0, gg, cap, none, 0, [], Nat.zero_le _, rfl, by simp [Pl.szs], rfl, by simp [Pl.tabs], ?_, HG0.out, HG3.out, hlt3, hs3, HB3.out, by simpa [ints] using World.ownsRow_nil _ _ _ _, (fun kb h => by simp [Value.ownBlock] at h), fun q x hx => by cases q <;> cases hx⟩
        have := HR0.out
        simpa [Pl.szs] using this
      case round =>
        obtain ⟨j, gq, cp, ka, kc, L2, hj, rfl, rfl, rfl, hL2, hown, hgr, hgq, hgql, hszr, hbox, hkown, hkne, hrows⟩ := hrel
        have HL2 := Lib.hid hL2
        have HOwn2 := Lib.hid hown
        have HGr := Lib.hid hgr
        have HGq := Lib.hid hgq
        have HKO := Lib.hid hkown
        have HKN := Lib.hid hkne
        have HBox := Lib.hid hbox
        have HRows := Lib.hid hrows
        clear hL2 hown hgr hgq hkown hkne hrows
        by_cases hlt : j < m
        · have hjk : j < ks.length := by rw [← HM.out]; exact hlt
          have hu := List.getElem?_eq_getElem hjk
          have hstep := Pl.szs_step ks j hjk
          have hsr : Same P w wr := HS.out.trans (fun x hx => HGr.out.block x (by have := hP x hx; omega) (fun e => by have := (HLT.out x e.symm).1; have := hP x hx; omega))
          rcases HK.out with h0 | ⟨b, o, rfl, hb, hat⟩
          · rw [h0] at hjk; simp at hjk
          have A1 := Lib.hid (At4.keep (hat j _ hu) hsr hb)
          have hbw := hP b hb
          have HI1 := Lib.hid (HI.out j _ hu)
          have HU := Lib.hid hu
          have HTk := Lib.hid (Pl.szs_take ks j hjk)
          have HTab := Lib.hid (Pl.tabs_take ks j hjk (n + 1) n)
          have HKi := Lib.hid (Pl.kidx_get ks (n + 1) j hjk)
          have hszj := Pl.szs_take_le ks j
          generalize ks[j] = u at *
          generalize R j = r1 at *
          obtain ⟨ga1, gc1, da1, dc1⟩ := r1
          obtain ⟨sj, hsj⟩ : ∃ sj, sj = Pl.szs (ks.take j) := ⟨_, rfl⟩
          have HSJ := Lib.hid hsj
          have HSR := Lib.hid hsr
          rw [← hsj] at hstep hszj ⊢
          clear hat hu hsr hsj
          have hL2len : L2.length = sj := by
            have h1 := congrArg List.length HL2.out
            rw [List.length_map, Pl.tabs_len, ← HSJ.out] at h1
            exact h1
          have HLen : Hid (n + 1 + sj = (L ++ rr :: L2).length) := Lib.hid (by rw [List.length_append, List.length_cons, hL2len, ← HnL.out]; omega)
          have HOwn4 : Hid (wr.ownsRow B 47 5 (.slice (some ⟨gq, 0, none⟩) (n + 1 + sj) cp) (n + 1 + sj) (row5 (L ++ rr :: L2))) := Lib.hid (by rw [HSJ.out]; exact HOwn2.out)
          clear hL2len
          have hgqB : B ≤ gq := by
            rcases HGq.out with h1 | h1
            · exact (HLT.out gq h1).1
            · omega
          have hgqn : gq ≠ w1.heap.size := by
            rcases HGq.out with h1 | h1
            · have := HLT.out gq h1; omega
            · omega
          go_wp2_with (first
            | (refine wpList_append_lies _ rfl (.tmp 30) (.tmp 33) 45 rfl (w1.heap.size + 1) 3 j0 _ 1 8 Try.underlying45 hj0 hy0 hy1 hy2 rfl (by omega) (.slice ka j kc) j (ints ((Pl.kidx ks (n + 1)).take j)) rfl (HKO.out.alloc _) ⟨wr.heap.size, 0, none⟩ 1 1 [.int .i64 (n + 1 + sj)] rfl rfl (news_int wr _) (by simp [Value.oneCell']) (by omega) (by unfold maxLen; omega) (by omega) (by simp; omega) (wr.heap.size + 1) (by simp) ?_; intro g4 cap4 w4 hown4 hgrow4 hat4 hlt4;
               have hkb : ∀ kb, (Value.slice ka j kc).ownBlock = some kb → w1.heap.size + 1 ≤ kb ∧ kb < wr.heap.size := HKO.out.lt;
               have hx4 : ∀ x, x < wr.heap.size → (Value.slice ka j kc).ownBlock ≠ some x → w4.heap[x]? = wr.heap[x]? := fun x hx hne => (hgrow4.block x (by simp; omega) (fun e => hne e.symm)).trans (Below.heap_alloc _ _ _ hx);
               have x4 := (World.cell?_of_block (w := wr) (a := ⟨w1.heap.size, 3, none⟩) (hx4 w1.heap.size (by omega) (fun e => by have := hkb _ e; omega))).trans HBox.out;
               have hs4 := hgrow4.size;
               simp at hs4;
               have l1 := Lib.hid (At4.keep (P := fun x => x = b) A1.out (fun x hx => hx4 x (by omega) (fun e => by have := hkb _ e; omega)) rfl).range;
               have HX4 := Lib.hid hx4;
               have HOwn5 := Lib.hid hown4;
               have HGr4 := Lib.hid hgrow4;
               have HAt4 := Lib.hid hat4;
               have HKB := Lib.hid hkb;
               clear hown4 hgrow4 hat4 hx4 hkb)
            | (refine wpList_load_mid rfl 54 _ rfl b (o + j * 4) rfl [.int .i64 u.kind, .string u.text, .slice ga1 u.gaps.length gc1, .slice da1 u.kids.length dc1] _ l1.out Try.underlying54 rfl sizeN ?_)
            | (go_at_call 60; refine (HI1.out w4 (HSR.out.trans (fun x hx => HX4.out x (by have := hP x hx; omega) (fun e => by have := HKB.out _ e; have := hP x hx; omega))) (by omega) _ (n + 1 + sj) cp (L ++ rr :: L2) n (by omega) HLen.out
                (owns_keep HOwn4.out (fun x hx => by simp [Value.ownBlock] at hx; subst hx; exact HX4.out gq hgql (fun e => HKN.out gq e rfl)))).mono ?_; rintro e w5 ⟨g5, c5, L3, rfl, h5m, h5o, h5g, h5q, h5l, h5r⟩; have h5s := h5g.size; have H5m := Lib.hid h5m; have H5o := Lib.hid h5o; have H5g := Lib.hid h5g; have H5q := Lib.hid h5q; have H5r := Lib.hid h5r; clear h5m h5o h5g h5q h5r l1))
          have hown4 : ∀ kb, (Value.slice ka j kc).ownBlock = some kb → w1.heap.size + 1 ≤ kb ∧ kb < wr.heap.size := HKB.out
          have h5q : gq = g5 ∨ w4.heap.size ≤ g5 := by
            rcases H5q.out with h1 | h1
            · left; simpa [Value.ownBlock] using h1
            · exact .inr h1
          have hg4 : (Value.slice ka j kc).ownBlock = some g4 ∨ g4 = wr.heap.size + 1 := HAt4.out
          have hg4q : g4 ≠ gq := by
            rcases hg4 with h1 | h1
            · exact HKN.out g4 h1
            · omega
          have hg4l : w1.heap.size + 1 ≤ g4 := (HOwn5.out.lt g4 rfl).1
          have hgq5 : (Value.slice a n c).ownBlock = some g5 ∨ w1.heap.size + 1 < g5 := by
            rcases h5q with h1 | h1
            · rw [← h1]; exact HGq.out
            · right; omega
          have hx5 : ∀ x, x < wr.heap.size → (Value.slice ka j kc).ownBlock ≠ some x → x ≠ gq → w5.heap[x]? = wr.heap[x]? := fun x hx h1 h2 =>
            (H5g.out.block x (by omega) (by simp [Value.ownBlock]; exact h2)).trans (HX4.out x hx h1)
          have e5 : n + 1 + sj + Pl.sz u = n + 1 + Pl.szs (ks.take (j + 1)) := by rw [HTk.out, ← HSJ.out]; omega
          refine ⟨⟨j + 1, g5, c5, some ⟨g4, 0, none⟩, cap4, L2 ++ L3, by omega, by go_num, by rw [← e5], rfl, ?_, ?_, ?_, hgq5, h5l, by omega, ?_, ?_, ?_, ?_⟩, by simp [intOf]; omega⟩
          · rw [List.map_append, HL2.out, H5m.out, HTab.out, ← HSJ.out]
          · rw [← e5]
            have h1 := H5o.out
            rw [List.append_assoc, List.cons_append] at h1
            exact h1
          · refine ⟨H5g.out.os.trans (HGr4.out.os.trans HGr.out.os), H5g.out.tape.trans (HGr4.out.tape.trans HGr.out.tape), H5g.out.output.trans (HGr4.out.output.trans HGr.out.output), by omega, fun x hx hne => ?_⟩
            refine (hx5 x (by omega) (fun e => by have := hown4 x e; omega) (fun e => ?_)).trans (HGr.out.block x hx hne)
            rcases HGq.out with h1 | h1
            · exact hne (by rw [h1, e])
            · omega
          · exact (World.cell?_of_block (w := wr) (a := ⟨w1.heap.size, 3, none⟩) (hx5 w1.heap.size (by omega) (fun e => by have := hown4 _ e; omega) (fun e => hgqn e.symm))).trans HBox.out
          · have h1 : ints ((Pl.kidx ks (n + 1)).take (j + 1)) = ints ((Pl.kidx ks (n + 1)).take j) ++ [.int .i64 (n + 1 + sj)] := by
              rw [List.take_add_one, HKi.out, ← HSJ.out]; simp [ints]
            rw [h1]
            exact owns_keep HOwn5.out (fun x hx => by simp [Value.ownBlock] at hx; subst hx; exact H5g.out.block g4 hlt4 (by simp [Value.ownBlock]; exact hg4q))
          · intro kb hkb
            simp [Value.ownBlock] at hkb
            subst hkb
            rcases h5q with h1 | h1 <;> omega
          · intro q x hx
            by_cases hq : q < L2.length
            · rw [List.getElem?_append_left hq] at hx
              refine (HRows.out q x hx).keep (P := fun y => (P y ∨ w1.heap.size + 1 ≤ y) ∧ y < wr.heap.size ∧ y ≠ gq ∧ (Value.slice ka j kc).ownBlock ≠ some y) (fun y hy => hx5 y hy.2.1 hy.2.2.2 hy.2.2.1) (fun y hy => ⟨hy.1, by omega, by omega, ?_⟩)
              simp only [Value.ownBlock, ne_eq, Option.some.injEq]
              rcases hg4 with h1 | h1
              · intro e; exact hy.2.2.2 (by rw [h1, e])
              · omega
            · rw [List.getElem?_append_right (by omega)] at hx
              refine (H5r.out _ x hx).keep (Same.refl _ _) (fun y hy => ⟨hy.1.imp id (fun h => by omega), hy.2.1, hy.2.2, ?_⟩)
              simp only [Value.ownBlock, ne_eq, Option.some.injEq]
              rcases hy.1 with h1 | h1
              · have := hP y h1; omega
              · omega
        · have hjm : j = m := by omega
          subst hjm
          have htk : ks.take j = ks := by rw [HM.out, List.take_length]
          have HTK := Lib.hid htk
          have hown2 := HOwn2.out
          rw [htk] at hown2 ⊢
          have e1 : n + Pl.sz (.node k s g ks) = n + 1 + Pl.szs ks := by rw [HSZ.out]; omega
          have E1 := Lib.hid e1
          have hrl : (row5 (L ++ rr :: L2)).length = (n + 1 + Pl.szs ks) * 5 := hown2.1
          have hcell : wr.cell? ⟨gq, n * 5 + 4, none⟩ = some (.slice none 0 0) := by
            rw [hown2.cellAt (n * 5 + 4) (by omega), row5_get _ n rr (by rw [HnL.out]; simp) 4 (by decide), HRR.out]; rfl
          have hfro : wr.frozen? ⟨gq, n * 5 + 4, none⟩ = false := hown2.frozenAt _
          have hstored := hown2.stored (n * 5 + 4) (.slice ka j kc)
          rw [row5_set L L2 rr n HnL.out] at hstored
          have HST := Lib.hid hstored
          have hn0 : (0 : Int) ≤ (n : Int) := Int.natCast_nonneg _
          have hn1 : (n : Int) < ((n + 1 + Pl.szs ks : Nat) : Int) := by omega
          have hn2 : (n : Int) < (n : Int) + 1 + (Pl.szs ks : Int) := by omega
          clear htk e1 hrl hstored hown2
          go_wp2_with fail
          go_ret
          have hgqn : gq ≠ w1.heap.size := by
            rcases HGq.out with h1 | h1
            · have := HLT.out gq h1; omega
            · omega
          have hset : ∀ x, x ≠ gq → (wr.setCell ⟨gq, n * 5 + 4, none⟩ (.slice ka j kc)).heap[x]? = wr.heap[x]? := fun x hx => Below.heap_setCell _ ⟨gq, n * 5 + 4, none⟩ _ x hx
          refine ⟨gq, cp, (Pl.rowOf p (.node k s g ks) n, ⟨ga, gc, ka, kc⟩) :: L2, by rw [E1.out]; rfl, ?_, ?_, ?_, ?_, by simp; exact hgql, fun q x hx => ?_⟩
          · have h2 := HL2.out
            rw [HTK.out] at h2
            rw [List.map_cons, h2, Pl.tab_head]; rfl
          · rw [E1.out]
            have h1 := HST.out.1
            rw [HRR.out] at h1
            have e : cells5 (Pl.rowOf p (.node k s g ks) n, ⟨ga, gc, ka, kc⟩) = [.int .i64 p, .int .i64 k, .string s, .slice ga g.length gc, .slice ka j kc] := by
              show [Value.int .i64 p, .int .i64 k, .string s, .slice ga g.length gc, .slice ka (Pl.kidx ks (n + 1)).length kc] = _
              rw [Pl.kidx_len, ← HM.out]
            rw [row5_append]
            rw [show row5 ((Pl.rowOf p (Pl.Tr.node k s g ks) n, (⟨ga, gc, ka, kc⟩ : Sl)) :: L2) = cells5 (Pl.rowOf p (.node k s g ks) n, ⟨ga, gc, ka, kc⟩) ++ row5 L2 from by unfold row5; rw [List.flatMap_cons], e]
            exact h1
          · refine ⟨HGr.out.os, HGr.out.tape, HGr.out.output, by have := HGr.out.size; simp; exact this, fun x hx hne => ?_⟩
            refine (hset x (fun e => ?_)).trans (HGr.out.block x hx hne)
            rcases HGq.out with h1 | h1
            · exact hne (by rw [h1, e])
            · omega
          · rcases HGq.out with h1 | h1
            · exact .inl h1
            · right; omega
          · match q, hx with
            | 0, hx =>
              obtain rfl : _ = x := by simpa using hx
              refine ⟨hs, ?_, ?_⟩
              · refine HG.out.keep (HS.out.trans fun y hy => ?_) (fun y hy => ⟨.inl hy, by have := hP y hy; simp; omega, ?_⟩)
                · refine (hset y ?_).trans (HGr.out.block y (by have := hP y hy; omega) (fun e => by have := (HLT.out y e.symm).1; have := hP y hy; omega))
                  rintro rfl
                  have := hP y hy
                  rcases HGq.out with h1 | h1
                  · have := HLT.out y h1; omega
                  · omega
                · rintro rfl
                  have := hP y hy
                  rcases HGq.out with h1 | h1
                  · have := HLT.out y h1; omega
                  · omega
              · refine ⟨by show (Pl.kidx ks (n + 1)).length ≤ _; rw [Pl.kidx_len, ← HM.out]; unfold maxLen; omega, ?_⟩
                rcases Nat.eq_zero_or_pos j with h0 | h0
                · left
                  exact List.eq_nil_of_length_eq_zero (by show (Pl.kidx ks (n + 1)).length = 0; rw [Pl.kidx_len, ← HM.out]; exact h0)
                · obtain ⟨g2, cap2, he, hge2, hlt2⟩ := HKO.out.form h0
                  injection he with he1 he2 he3
                  subst he1
                  have hne2 : g2 ≠ gq := HKN.out g2 rfl
                  refine .inr ⟨g2, 0, rfl, ⟨.inr (by omega), by simp; exact hlt2, hne2⟩, fun q x hx => ?_⟩
                  have hx2 : (Pl.kidx ks (n + 1))[q]? = some x := hx
                  have hql := (List.getElem?_eq_some_iff.1 hx2).1
                  rw [Pl.kidx_len, ← HM.out] at hql
                  have hc2 := HKO.out
                  rw [he3] at hc2
                  rw [World.cell?_of_block (w := wr) (a := ⟨g2, 0 + q, none⟩) (hset g2 hne2), Nat.zero_add, hc2.cellAt q (by omega)]
                  rw [List.take_of_length_le (by rw [Pl.kidx_len, ← HM.out]; exact Nat.le_refl _)]
                  unfold ints
                  rw [List.getElem?_map, hx2]; rfl
            | q + 1, hx =>
              exact (HRows.out q x (by simpa using hx)).keep (P := fun y => (P y ∨ w1.heap.size + 1 ≤ y) ∧ y < wr.heap.size ∧ y ≠ gq ∧ (Value.slice ka j kc).ownBlock ≠ some y) (fun y hy => hset y hy.2.2.1) (fun y hy => ⟨hy.1.imp id (fun h => by omega), by simp; exact hy.2.1, hy.2.2.1⟩)
set_option maxHeartbeats 800000 in
theorem rrowsR_at {P : Nat → Prop} {w : World} {t : Pl.Tr} {r : Sl} (h : Tin P w t r) (hP : ∀ b, P b → b < w.heap.size) (w1 : World) (hsame : Same P w w1) (hge : w.heap.size ≤ w1.heap.size) (hsz : Pl.sz t ≤ 1000000) :
    Calls Try.prog 41 #[.agg #[.int .i64 t.kind, .string t.text, .slice r.ga t.gaps.length r.gc, .slice r.da t.kids.length r.dc]] w1 (TabP t w1) := by
  have HA := Lib.hid (fun w1 hs (hge : w.heap.size ≤ w1.heap.size) a c ho => rrows_at h hP w.heap.size (Nat.le_refl _) w1 hs hge a 0 c [] (-1) (by omega) rfl ho)
  have HS := Lib.hid (fun o => same_box (o := o) hsame hP hge)
  obtain ⟨ga, gc, a, c⟩ := r
  clear h hsame
  go_enter Try.func41, Try.ntmps41
  go_wp2_with (go_at_call 60; refine (HA.out _ (HS.out _) (by simp; omega) _ _ (World.ownsRow_nil _ _ _ _)).mono ?_; intro e w3 hr; have r4 := tabP_of hr hsz ((Below.refl _ _).alloc (Nat.le_refl _) _) (fun k hk => by simp [Value.ownBlock] at hk); obtain ⟨ra, rc, RR, rfl, ht, hb3⟩ := r4; have HT := Lib.hid ht; have HB3 := Lib.hid hb3; clear hr ht hb3)
  go_ret
  exact ⟨ra, rc, RR, rfl, HT.out, HB3.out⟩
end Go.Proofs.Ytoelfiendfemaaa
