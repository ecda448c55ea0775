/- The walk of the law's bare. -/
import Derived.Test.YtmfmlkdojgbhfaaDoorOwn
import Derived.Test.YtmfmlkdojgbhfaaDoorWalkSize
namespace Go.Proofs.YtmfmlkdojgbhfaaDoor
open Go.RowKit
set_option linter.unusedVariables false
set_option linter.unusedSimpArgs false

theorem heap_at2' (w : World) (o1 o2 : Obj) : ((w.alloc o1).alloc o2).heap[w.heap.size + 1]? = some o2 := by
  have h := heap_alloc_new (w.alloc o1) o2
  rw [show (w.alloc o1).heap.size = w.heap.size + 1 from by simp] at h
  exact h
theorem two_after {w w2 : World} {o1 o2 : Obj} (hb : Below ((w.alloc o1).alloc o2).heap.size ((w.alloc o1).alloc o2) w2) :
    w2.heap[w.heap.size]? = some o1 ∧ w2.heap[w.heap.size + 1]? = some o2 ∧ Below w.heap.size w w2 ∧ w.heap.size + 1 < w2.heap.size := by
  have hz := hb.size
  simp at hz
  have e1 : w2.heap[w.heap.size]? = (w.alloc o1).heap[w.heap.size]? := (hb.block _ (by simp <;> omega)).trans (Below.heap_alloc _ _ _ (by simp))
  have e2 := hb.block (w.heap.size + 1) (by simp)
  exact ⟨e1.trans (heap_alloc_new _ _), e2.trans (heap_at2' _ _ _), (((Below.refl _ _).alloc (Nat.le_refl _) _).alloc (by simp) _).trans (hb.mono (by simp <;> omega)), by omega⟩
/-- The slice that holds the kids made so far: its value, and what it reads as. -/
def MadeB (B : Nat) (w : World) (a : Option Addr) (n c : Nat) (L : List (Pl.Tr × Sl)) : Prop :=
  n = L.length ∧ w.ownsRow B 25 4 (.slice a n c) n (row4 L) ∧ ∀ (q : Nat) x, L[q]? = some x → Tin (fun b => B ≤ b ∧ b < w.heap.size ∧ (Value.slice a n c).ownBlock ≠ some b) w x.1 x.2
theorem madeb_nil (B : Nat) (w : World) : MadeB B w none 0 0 [] := ⟨rfl, World.ownsRow_nil _ _ _ _, fun q x h => by cases q <;> cases h⟩
/-- One kid more, behind the call that made it and the append. -/
theorem madeb_snoc {B n c cap g : Nat} {a : Option Addr} {w w2 w3 : World} {o : Obj} {L : List (Pl.Tr × Sl)} {t : Pl.Tr} {r : Sl} (h : MadeB B w a n c L) (hB : B ≤ w.heap.size) (hb : Below w.heap.size w w2) (ht : Tin (fun x => w.heap.size ≤ x ∧ x < w2.heap.size) w2 t r)
    (hown : w3.ownsRow B 25 4 (.slice (some ⟨g, 0, none⟩) (n + 1) cap) (n + 1) (row4 L ++ cells4 (t, r))) (hgrow : (w2.alloc o).grownBy w3 (Value.slice a n c).ownBlock) (hat : (Value.slice a n c).ownBlock = some g ∨ g = w2.heap.size + 1) :
    MadeB B w3 (some ⟨g, 0, none⟩) (n + 1) cap (L ++ [(t, r)]) := by
  obtain ⟨h1, h2, h3⟩ := h
  have hob : ∀ k, (Value.slice a n c).ownBlock = some k → k < w.heap.size := fun k hk => (h2.lt k hk).2
  have hz := hb.size
  have hz3 := hgrow.size
  simp at hz3
  refine ⟨by rw [List.length_append, h1]; rfl, by rw [row4_snoc]; exact hown, fun q x hx => ?_⟩
  have hgo : (Value.slice (some (⟨g, 0, none⟩ : Addr)) (n + 1) cap).ownBlock = some g := rfl
  by_cases hq : q < L.length
  · rw [List.getElem?_append_left hq] at hx
    refine (h3 q x hx).keep (fun y hy => ?_) (fun y hy => ?_)
    · exact (hgrow.block y (by simp; omega) (fun e => hy.2.2 e.symm)).trans ((Below.heap_alloc _ _ _ (by omega)).trans (hb.block y hy.2.1))
    · refine ⟨hy.1, by omega, fun e => ?_⟩
      rw [hgo, Option.some.injEq] at e
      rcases hat with hat | hat
      · exact hy.2.2 (by rw [hat, e])
      · omega
  · rw [List.getElem?_append_right (by omega)] at hx
    obtain rfl : (t, r) = x := by
      match hq2 : q - L.length, hx with
      | 0, hx => simpa using hx
      | k + 1, hx => simp at hx
    refine ht.keep (fun y hy => ?_) (fun y hy => ?_)
    · exact (hgrow.block y (by simp; omega) (fun e => by have := hob y e.symm; omega)).trans (Below.heap_alloc _ _ _ hy.2)
    · refine ⟨by omega, by omega, fun e => ?_⟩
      rw [hgo, Option.some.injEq] at e
      rcases hat with hat | hat
      · have := hob g hat; omega
      · omega
theorem madeb_keep {B n c : Nat} {a : Option Addr} {w w' : World} {L : List (Pl.Tr × Sl)} (h : MadeB B w a n c L) (hb : ∀ x, B ≤ x → x < w.heap.size → w'.heap[x]? = w.heap[x]?) (hs : w.heap.size ≤ w'.heap.size) : MadeB B w' a n c L := by
  obtain ⟨h1, h2, h3⟩ := h
  refine ⟨h1, ⟨h2.1, ?_⟩, fun q x hx => (h3 q x hx).keep (fun y hy => hb y hy.1 hy.2.1) fun y hy => ⟨hy.1, by omega, hy.2.2⟩⟩
  rcases h2.2 with h | ⟨g, cap, cur, k1, k2, k3, k4⟩
  · exact .inl h
  · exact .inr ⟨g, cap, cur, k1, k2, by rw [hb g k2 (lt_blk k3)]; exact k3, k4⟩
theorem three_new (w : World) (o1 o2 o3 : Obj) : (((w.alloc o1).alloc o2).alloc o3).heap[w.heap.size]? = some o1 ∧ (((w.alloc o1).alloc o2).alloc o3).heap[w.heap.size + 1]? = some o2 ∧ (((w.alloc o1).alloc o2).alloc o3).heap[w.heap.size + 2]? = some o3 ∧
    Below w.heap.size w (((w.alloc o1).alloc o2).alloc o3) ∧ (((w.alloc o1).alloc o2).alloc o3).heap.size = w.heap.size + 3 := by
  obtain ⟨h1, h2, h3, h4⟩ := two_after (w := w) (o1 := o1) (o2 := o2) (Below.refl _ _)
  refine ⟨(Below.heap_alloc _ _ _ (by simp; omega)).trans h1, (Below.heap_alloc _ _ _ (by simp)).trans h2, ?_, h3.alloc (by simp; omega) _, by simp⟩
  have h := heap_alloc_new ((w.alloc o1).alloc o2) o3
  rw [show ((w.alloc o1).alloc o2).heap.size = w.heap.size + 2 from by simp] at h
  exact h
/-- What the law's bare answers. -/
def BareP (t : Pl.Tr) (w : World) (e : Ending) (w' : World) : Prop := ∃ r2 : Sl, e = .returned (.tuple #[.agg #[.int .i64 (Pl.bare t).kind, .string (Pl.bare t).text, .slice r2.ga (Pl.bare t).gaps.length r2.gc, .slice r2.da (Pl.bare t).kids.length r2.dc], .int .i64 (Pl.szw t)]) ∧
  Tin (fun x => w.heap.size ≤ x ∧ x < w'.heap.size) w' (Pl.bare t) r2 ∧ Below w.heap.size w w' ∧ r2.ga = none ∧ r2.gc = 0
set_option maxHeartbeats 1600000 in
set_option maxRecDepth 100000 in
theorem bare_at (t : Pl.Tr) : ∀ w r, IsT w t r → Pl.crowd t = false → Calls Tryd.prog 23 #[.agg #[.int .i64 t.kind, .string t.text, .slice r.ga t.gaps.length r.gc, .slice r.da t.kids.length r.dc]] w (BareP t w) := by
  obtain ⟨i0, hi0, hz0, hz1, hz2⟩ := info_parts infoN
  refine Pl.Tr.ind (M := fun t => ∀ w r, IsT w t r → Pl.crowd t = false → Calls Tryd.prog 23 #[.agg #[.int .i64 t.kind, .string t.text, .slice r.ga t.gaps.length r.gc, .slice r.da t.kids.length r.dc]] w (BareP t w)) ?_ t
  intro k s g ks ih w r h hcr
  obtain ⟨hs, hg, hl, R, hks, hr⟩ := h.parts
  obtain ⟨hmk, hcs⟩ := Pl.crowd_node k s g ks hcr
  have hmk2 := Pl.mostK_le k
  have hlen : ks.length ≤ 200 := by omega
  have HI : Hid (∀ (j : Nat) u, ks[j]? = some u → ∀ w2, ∀ r, IsT w2 u r → Calls Tryd.prog 23 #[.agg #[.int .i64 u.kind, .string u.text, .slice r.ga u.gaps.length r.gc, .slice r.da u.kids.length r.dc]] w2 (BareP u w2)) :=
    Lib.hid fun j u hu w2 r2 h2 => ih u (List.mem_of_getElem? hu) w2 r2 h2 (Pl.crowds_mem ks hcs u (List.mem_of_getElem? hu))
  obtain ⟨ga, gc, da, dc⟩ := r
  simp only [Pl.Tr.kind, Pl.Tr.text, Pl.Tr.gaps, Pl.Tr.kids] at *
  obtain ⟨n, hn⟩ : ∃ n, n = ks.length := ⟨_, rfl⟩
  obtain ⟨q, hq⟩ : ∃ q, q = g.length := ⟨_, rfl⟩
  rw [← hn] at hlen ⊢
  rw [← hq]
  have HSS := Lib.hid hs
  have HLM := Lib.hid hl
  have HN := Lib.hid hn
  have HK := Lib.hid hks
  have HR := Lib.hid hr
  clear hn hks hr hg h hcr hcs ih hs hl hmk hmk2 hq
  go_enter Tryd.func23, Tryd.ntmps23
  go_wp2_with fail
  go_loopw [5, 6] (fun v i wr => ∃ (j : Nat) (x : Int) (va : Option Addr) (vc : Nat) (L : List (Pl.Tr × Sl)), j ≤ n ∧ i = .int .i64 j ∧ v = .int .i64 x ∧ Hid (Pl.szws x (ks.drop j) = Pl.szws 1 ks) ∧ L.map Prod.fst = (ks.take j).map Pl.bare ∧ Hid (Below w.heap.size w wr) ∧ w.heap.size + 1 + 1 < wr.heap.size ∧
    wr.cell? ⟨w.heap.size, 3, none⟩ = some (.slice da n dc) ∧ wr.heap[w.heap.size + 1]? = some (.cells #[.int .i64 0, .string ⟨#[]⟩, .slice none 0 0, .slice none 0 0] 25 (0, 0)) ∧
    wr.heap[w.heap.size + 1 + 1]? = some (.cells #[.int .i64 k, .string s, .slice none 0 0, .slice va j vc] 25 (0, 0)) ∧ MadeB (w.heap.size + 1 + 1 + 1) wr va j vc L) (fun _ i _ => n - (intOf i).toNat)
  case atStart =>
    obtain ⟨h1, h2, h3, h4, h5⟩ := three_new w (.cells #[.int .i64 k, .string s, .slice ga q gc, .slice da n dc] 25) (.cells #[.int .i64 0, .string ⟨#[]⟩, .slice none 0 0, .slice none 0 0] 25) (.cells #[.int .i64 k, .string s, .slice none 0 0, .slice none 0 0] 25)
    exact ⟨0, 1, none, 0, [], Nat.zero_le _, rfl, rfl, Lib.hid rfl, rfl, Lib.hid h4, by rw [h5]; omega, (blk_cells h1).1.2.2.2, h2, h3, madeb_nil _ _⟩
  case round =>
    obtain ⟨j, x, va, vc, L, hj, rfl, rfl, HSZ, hL, HB, hgt, hcell, hzero, hout, hmade⟩ := hrel
    have HL := Lib.hid hL
    have HM := Lib.hid hmade
    have HZ := Lib.hid hzero
    have HO := Lib.hid hout
    have HC := Lib.hid hcell
    clear hL hmade
    by_cases hlt : j < n
    · have hjk : j < ks.length := by rw [← HN.out]; exact hlt
      have hu := List.getElem?_eq_getElem hjk
      have HD := Lib.hid (szws_drop x ks j hjk)
      rcases HK.out with h0 | ⟨b, o, rfl, hb, hat⟩
      · rw [h0] at hjk; simp at hjk
      have l1 := Lib.hid (At4.keep (hat j _ hu) (Same.below HB.out fun _ h => h) hb).range
      have HI1 := Lib.hid (HI.out j _ hu)
      have HR1 := Lib.hid ((HR.out j _ hu).later HB.out)
      have HU := Lib.hid hu
      generalize ks[j] = u at *
      generalize R j = r1 at *
      obtain ⟨ga1, gc1, da1, dc1⟩ := r1
      obtain ⟨y, hy⟩ : ∃ y, y = Pl.szw u := ⟨_, rfl⟩
      have HY : Hid (Pl.szws (wrap64 (x + y)) (ks.drop (j + 1)) = Pl.szws 1 ks) := Lib.hid (by rw [← HSZ.out, HD.out, hy])
      have HYE := Lib.hid hy
      have hgr := HB.out.size
      have hblt : b < wr.heap.size := by omega
      have x3 := (blk_cells hout).1.2.2.2
      clear hat hu hzero hout hy
      go_wp2_with (first
        | (refine wpList_load_mid rfl 25 _ rfl b (o + j * 4) rfl [.int .i64 u.kind, .string u.text, .slice ga1 u.gaps.length gc1, .slice da1 u.kids.length dc1] _ l1.out Tryd.underlying25 rfl sizeN ?_)
        | (go_at_call 23; refine (HI1.out wr ⟨ga1, gc1, da1, dc1⟩ HR1.out).mono ?_; rintro e w2 ⟨⟨ga2, gc2, da2, dc2⟩, rfl, ht2, hb2, -, -⟩; rw [← HYE.out];
           have hsz2 := hb2.size;
           have hgt2 : w.heap.size + 1 + 1 < w2.heap.size := by omega;
           have hgt3 : w.heap.size < w2.heap.size := by omega;
           have q5 := (cell_past (w.heap.size + 1 + 1) w2 (.cells #[.int .i64 (Pl.bare u).kind, .string (Pl.bare u).text, .slice ga2 (Pl.bare u).gaps.length gc2, .slice da2 (Pl.bare u).kids.length dc2] 25) 3 hgt2).trans ((hb2.cell (p := ⟨w.heap.size + 1 + 1, 3, none⟩) hgt).trans x3);
           obtain ⟨z0, z1, z2, z3⟩ := at4_new w2 (Pl.bare u).kind (Pl.bare u).text (.slice ga2 (Pl.bare u).gaps.length gc2) (.slice da2 (Pl.bare u).kids.length dc2);
           have HT2 := Lib.hid ht2;
           have HB2 := Lib.hid hb2;
           clear ht2 hb2)
        | (at_builtin; refine wpList_append_lies _ rfl _ _ 23 rfl (w.heap.size + 1 + 1 + 1) 25 i0 _ 4 72 Tryd.underlying23 hi0 hz0 hz1 hz2 rfl (by omega) (.slice va j vc) j (row4 L) rfl (((owns_later HM.out.2.1 HB2.out).alloc _).alloc _)
             ⟨w2.heap.size + 1, 0, none⟩ 1 1 [.int .i64 (Pl.bare u).kind, .string (Pl.bare u).text, .slice ga2 (Pl.bare u).gaps.length gc2, .slice da2 (Pl.bare u).kids.length dc2] rfl rfl (World.news_of_block (cs := #[.int .i64 (Pl.bare u).kind, .string (Pl.bare u).text, .slice ga2 (Pl.bare u).gaps.length gc2, .slice da2 (Pl.bare u).kids.length dc2]) (t := 25) (fr := (0, 0)) (heap_at2' w2 _ _)) (by simp [Value.oneCell'])
             (by omega) (by unfold maxLen; omega) (by omega) (by simp; omega) (w2.heap.size + 1 + 1) (by simp) ?_; intro gg cap w3 hown hgrow hat3 hlt3;
           have hgrow0 : w2.grownBy w3 (Value.slice va j vc).ownBlock := ((World.grownBy_alloc w2 _ _).trans (World.grownBy_alloc _ _ _)).trans hgrow;
           have hblk3 := (hgrow0.block (w.heap.size + 1 + 1) (by omega) (fun e => by have := (HM.out.2.1.lt _ e.symm).1; omega)).trans ((HB2.out.block _ hgt).trans HO.out);
           obtain ⟨⟨t0, t1, t2, t3⟩, y0, y1, y2, y3⟩ := blk_cells hblk3;
           have HB3 := Lib.hid hblk3;
           have HOwn := Lib.hid hown;
           have HGrow := Lib.hid hgrow;
           have HGrow0 := Lib.hid hgrow0;
           have HAt3 := Lib.hid hat3;
           have hsz3 := hgrow.size;
           clear hblk3 hown hgrow hgrow0 hat3))
      have hown3 : ∀ k, (Value.slice va j vc).ownBlock = some k → w.heap.size + 1 + 1 + 1 ≤ k := fun k hk => (HM.out.2.1.lt k hk).1
      have hsz30 := HGrow0.out.size
      have hlow : ∀ x, x < w.heap.size + 1 + 1 + 1 → w3.heap[x]? = wr.heap[x]? := fun x hx => (HGrow0.out.block x (by omega) (fun e => by have := hown3 x e.symm; omega)).trans (HB2.out.block x (by omega))
      refine ⟨⟨j + 1, wrap64 (x + y), some ⟨gg, 0, none⟩, cap, L ++ [(Pl.bare u, ⟨ga2, gc2, da2, dc2⟩)], by omega, by go_num, rfl, HY, ?_, ?_, by simp; omega, ?_, ?_, ?_, ?_⟩, by simp [intOf]; omega⟩
      · rw [List.map_append, HL.out, List.take_add_one, HU.out]; simp
      · exact Lib.hid (((HB.out.trans (HB2.out.mono hgr)).grown HGrow0.out (by omega) (fun k hk => by have := hown3 k hk; omega)).setCell (by show w.heap.size ≤ w.heap.size + 1 + 1; omega) _)
      · exact (World.cell?_of_block (w := wr) (a := ⟨w.heap.size, 3, none⟩) ((Below.heap_setCell _ _ _ _ (by show w.heap.size ≠ w.heap.size + 1 + 1; omega)).trans (hlow _ (by show w.heap.size < _; omega)))).trans HC.out
      · exact (Below.heap_setCell _ _ _ _ (by show w.heap.size + 1 ≠ w.heap.size + 1 + 1; omega)).trans ((hlow _ (by omega)).trans HZ.out)
      · have := HB3.out
        simp [World.setCell, Array.getElem?_modify, this]
      · refine madeb_keep (madeb_snoc HM.out (by omega) (HB2.out.alloc hsz2 _) (HT2.out.keep (Same.below (box_below w2 _) fun b hb => hb.2) (fun b hb => ⟨hb.1, by simp; omega⟩)) HOwn.out HGrow.out ?_) (fun x hx _ => Below.heap_setCell _ _ _ _ (by show x ≠ w.heap.size + 1 + 1; omega)) (by simp)
        rcases HAt3.out with h | h
        · exact .inl h
        · right; simp; exact h
    · have hjn : j = n := by omega
      subst hjn
      have hL2 : L.map Prod.fst = Pl.bares ks := by have := HL.out; rw [HN.out, List.take_length] at this; rw [this, Pl.bares_map]
      have HL2 := Lib.hid hL2
      have HX : Hid (x = Pl.szws 1 ks) := Lib.hid (by
        have e := HSZ.out
        rw [List.drop_of_length_le (by rw [HN.out]; exact Nat.le_refl _)] at e
        exact e)
      have hgr := HB.out.size
      obtain ⟨⟨p0, p1, p2, p3⟩, z0, z1, z2, z3⟩ := blk_cells hzero
      obtain ⟨⟨t0, t1, t2, t3⟩, _⟩ := blk_cells hout
      clear hzero hout hL2
      go_wp2_with fail
      refine bodyPost_ret (v := .tuple #[.agg #[.int .i64 k, .string s, .slice none 0 0, .slice va j vc], .int .i64 x]) (by simp [results, Tryd.results23, go_sem, p0, p1, p2, p3]) rfl ?_
      have hm := HM.out
      refine ⟨⟨none, 0, va, vc⟩, ?_, .mk _ _ (fun q => match L[q]? with | some x => x.2 | none => ⟨none, 0, none, 0⟩) ?_ ?_ ?_ ?_ (fun q v hv => ?_), below_set4 HB.out (by omega), rfl, rfl⟩
      · rw [HX.out, Pl.bare, Pl.szw, Pl.bares_map]
        simp only [Pl.Tr.kind, Pl.Tr.text, Pl.Tr.gaps, Pl.Tr.kids, List.length_map, ← HN.out]; rfl
      · rw [Pl.bare]; exact HSS.out
      · rw [Pl.bare]; exact strs_nil _ _ _
      · rw [Pl.bare]; show (Pl.bares ks).length ≤ maxLen; rw [Pl.bares_map, List.length_map]; exact HLM.out
      · rw [Pl.bare]
        show Lies _ _ (Pl.bares ks) _ _
        rcases Nat.eq_zero_or_pos j with h0 | h0
        · left
          rw [← HL2.out, List.map_eq_nil_iff]
          exact List.eq_nil_of_length_eq_zero (by rw [← hm.1]; exact h0)
        · obtain ⟨g2, cap2, he, hge2, hlt2, _, hat⟩ := owns_at hm.2.1 hm.1 h0
          injection he with he1 he2 he3
          refine .inr ⟨g2, 0, he1, ⟨by omega, by simp; omega⟩, fun q v hv => ?_⟩
          rw [← HL2.out, List.getElem?_map] at hv
          obtain ⟨x, hx, rfl⟩ := Option.map_eq_some_iff.1 hv
          simp only [hx]
          exact At4.keep (P := fun y => y = g2) (hat q x hx) (fun y hy => heap_set4 (by omega)) rfl
      · rw [Pl.bare] at hv
        change (Pl.bares ks)[q]? = some v at hv
        rw [← HL2.out, List.getElem?_map] at hv
        obtain ⟨x, hx, rfl⟩ := Option.map_eq_some_iff.1 hv
        simp only [hx]
        exact (hm.2.2 q x hx).keep (fun y hy => heap_set4 (by omega)) (fun y hy => ⟨by omega, by simp; omega⟩)
end Go.Proofs.YtmfmlkdojgbhfaaDoor
