/- The walk of the reference's Bare. -/
import Derived.Test.YtoelfiendfemaaaOwn
import Derived.Deep.RegionLaw
namespace Go.Proofs.Ytoelfiendfemaaa
open Go.RowKit Go.Deep
set_option linter.unusedVariables false
set_option linter.unusedSimpArgs false

/-- The slice that holds the kids made so far: its value, and what it reads as. -/
def Made (B : Nat) (w : World) (a : Option Addr) (n c : Nat) (L : List (Pl.Tr × Sl)) : Prop :=
  n = L.length ∧ w.ownsRow B 54 4 (.slice a n c) n (row4 L) ∧ ∀ (q : Nat) x, L[q]? = some x → Tin (fun b => B ≤ b ∧ b < w.heap.size ∧ (Value.slice a n c).ownBlock ≠ some b) w x.1 x.2
theorem made_nil (B : Nat) (w : World) : Made B w none 0 0 [] := ⟨rfl, World.ownsRow_nil _ _ _ _, fun q x h => by cases q <;> cases h⟩
/-- One kid more, behind the call that made it and the append. -/
theorem made_snoc {B n c cap g : Nat} {a : Option Addr} {w w2 w3 : World} {o : Obj} {L : List (Pl.Tr × Sl)} {t : Pl.Tr} {r : Sl} (h : Made B w a n c L) (hB : B ≤ w.heap.size) (hb : Below w.heap.size w w2) (ht : Tin (fun x => w.heap.size ≤ x ∧ x < w2.heap.size) w2 t r)
    (hown : w3.ownsRow B 54 4 (.slice (some ⟨g, 0, none⟩) (n + 1) cap) (n + 1) (row4 L ++ cells4 (t, r))) (hgrow : (w2.alloc o).grownBy w3 (Value.slice a n c).ownBlock) (hat : (Value.slice a n c).ownBlock = some g ∨ g = w2.heap.size + 1) :
    Made B w3 (some ⟨g, 0, none⟩) (n + 1) cap (L ++ [(t, r)]) := by
  obtain ⟨h1, h2, h3⟩ := h
  have hob : ∀ k, (Value.slice a n c).ownBlock = some k → k < w.heap.size := fun k hk => (h2.lt k hk).2
  have hz := hb.size
  have hz3 := hgrow.size
  simp at hz3
  refine ⟨by rw [List.length_append, h1]; rfl, by rw [row4_snoc]; exact hown, fun q x hx => ?_⟩
  have hgo : (Value.slice (some (⟨g, 0, none⟩ : Addr)) (n + 1) cap).ownBlock = some g := rfl
  by_cases hq : q < L.length
  · rw [List.getElem?_append_left hq] at hx
    refine (h3 q x hx).keep (fun y hy => ?_) (fun y hy => ?_)
    · exact (hgrow.block y (by simp; omega) (fun e => hy.2.2 e.symm)).trans ((Below.heap_alloc _ _ _ (by omega)).trans (hb.block y hy.2.1))
    · refine ⟨hy.1, by omega, fun e => ?_⟩
      rw [hgo, Option.some.injEq] at e
      rcases hat with hat | hat
      · exact hy.2.2 (by rw [hat, e])
      · omega
  · rw [List.getElem?_append_right (by omega)] at hx
    obtain rfl : (t, r) = x := by
      match hq2 : q - L.length, hx with
      | 0, hx => simpa using hx
      | k + 1, hx => simp at hx
    refine ht.keep (fun y hy => ?_) (fun y hy => ?_)
    · exact (hgrow.block y (by simp; omega) (fun e => by have := hob y e.symm; omega)).trans (Below.heap_alloc _ _ _ hy.2)
    · refine ⟨by omega, by omega, fun e => ?_⟩
      rw [hgo, Option.some.injEq] at e
      rcases hat with hat | hat
      · have := hob g hat; omega
      · omega
theorem made_keep {B n c : Nat} {a : Option Addr} {w w' : World} {L : List (Pl.Tr × Sl)} (h : Made B w a n c L) (hb : ∀ x, B ≤ x → x < w.heap.size → w'.heap[x]? = w.heap[x]?) (hs : w.heap.size ≤ w'.heap.size) : Made B w' a n c L := by
  obtain ⟨h1, h2, h3⟩ := h
  refine ⟨h1, ⟨h2.1, ?_⟩, fun q x hx => (h3 q x hx).keep (fun y hy => hb y hy.1 hy.2.1) fun y hy => ⟨hy.1, by omega, hy.2.2⟩⟩
  rcases h2.2 with h | ⟨g, cap, cur, k1, k2, k3, k4⟩
  · exact .inl h
  · exact .inr ⟨g, cap, cur, k1, k2, by rw [hb g k2 (lt_of_block k3)]; exact k3, k4⟩
theorem three_new (w : World) (o1 o2 o3 : Obj) : (((w.alloc o1).alloc o2).alloc o3).heap[w.heap.size]? = some o1 ∧ (((w.alloc o1).alloc o2).alloc o3).heap[w.heap.size + 1]? = some o2 ∧ (((w.alloc o1).alloc o2).alloc o3).heap[w.heap.size + 2]? = some o3 ∧
    Below w.heap.size w (((w.alloc o1).alloc o2).alloc o3) ∧ (((w.alloc o1).alloc o2).alloc o3).heap.size = w.heap.size + 3 := by
  obtain ⟨h1, h2, h3, h4⟩ := two_after (w := w) (o1 := o1) (o2 := o2) (Below.refl _ _)
  refine ⟨(Below.heap_alloc _ _ _ (by simp; omega)).trans h1, (Below.heap_alloc _ _ _ (by simp)).trans h2, ?_, h3.alloc (by simp; omega) _, by simp⟩
  have h := heap_alloc_new ((w.alloc o1).alloc o2) o3
  rw [show ((w.alloc o1).alloc o2).heap.size = w.heap.size + 2 from by simp] at h
  exact h
set_option maxHeartbeats 1600000 in
set_option maxRecDepth 100000 in
theorem rbare_at {P : Nat → Prop} {w : World} {t : Pl.Tr} {r : Sl} (h : Tin P w t r) (hP : ∀ b, P b → b < w.heap.size) : ∀ w1, Same P w w1 → w.heap.size ≤ w1.heap.size → Pl.sz t ≤ 1000000 →
    Calls Try.prog 30 #[.agg #[.int .i64 t.kind, .string t.text, .slice r.ga t.gaps.length r.gc, .slice r.da t.kids.length r.dc]] w1 (CopyP (Pl.bare t) w1) := by
  obtain ⟨i0, hi0, hz0, hz1, hz2⟩ := info_parts infoN
  induction h with
  | mk t r R hs hg hl hk hr ih =>
    intro w1 hsame hge hsz
    cases t with
    | node k s g ks =>
      obtain ⟨ga, gc, a, c⟩ := r
      simp only [kids_node, gaps_node, text_node, kind_node] at *
      rw [Pl.sz] at hsz
      have hlen := Pl.len_szs ks
      obtain ⟨n, hn⟩ : ∃ n, n = ks.length := ⟨_, rfl⟩
      rw [← hn] at hlen ⊢
      have hln : n ≤ 1000000 := by omega
      have HLM := Lib.hid hl
      have HN := Lib.hid hn
      have HK := Lib.hid hk
      have HI := Lib.hid ih
      have HS := Lib.hid hsame
      clear hn hk hg hr ih hsame hl
      go_enter Try.func30, Try.ntmps30
      go_wp2_with fail
      go_loopw [4] (fun i wr => ∃ (j : Nat) (va : Option Addr) (vc : Nat) (L : List (Pl.Tr × Sl)), j ≤ n ∧ i = .int .i64 j ∧ L.map Prod.fst = (ks.take j).map Pl.bare ∧ Below w1.heap.size w1 wr ∧ w1.heap.size + 1 + 1 < wr.heap.size ∧
        wr.cell? ⟨w1.heap.size, 3, none⟩ = some (.slice a n c) ∧ wr.heap[w1.heap.size + 1]? = some (.cells #[.int .i64 0, .string ⟨#[]⟩, .slice none 0 0, .slice none 0 0] 54 (0, 0)) ∧
        wr.heap[w1.heap.size + 1 + 1]? = some (.cells #[.int .i64 k, .string s, .slice none 0 0, .slice va j vc] 54 (0, 0)) ∧ Made (w1.heap.size + 1 + 1 + 1) wr va j vc L) (fun i _ => n - (intOf i).toNat)
      case atStart =>
        obtain ⟨h1, h2, h3, h4, h5⟩ := three_new w1 (.cells #[.int .i64 k, .string s, .slice ga g.length gc, .slice a n c] 54) (.cells #[.int .i64 0, .string ⟨#[]⟩, .slice none 0 0, .slice none 0 0] 54) (.cells #[.int .i64 k, .string s, .slice none 0 0, .slice none 0 0] 54)
        exact ⟨0, none, 0, [], Nat.zero_le _, rfl, rfl, h4, by rw [h5]; omega, (blk_cells h1).1.2.2.2, h2, h3, made_nil _ _⟩
      case round =>
        obtain ⟨j, va, vc, L, hj, rfl, hL, hbel, hgt, hcell, hzero, hout, hmade⟩ := hrel
        have HB := Lib.hid hbel
        have HL := Lib.hid hL
        have HM := Lib.hid hmade
        have HZ := Lib.hid hzero
        have HO := Lib.hid hout
        have HC := Lib.hid hcell
        clear hL hmade
        by_cases hlt : j < n
        · have hjk : j < ks.length := by rw [← HN.out]; exact hlt
          have hu := List.getElem?_eq_getElem hjk
          have hstep := Pl.szs_step ks j hjk
          have hi0' : (0 : Int) ≤ (j : Int) := Int.natCast_nonneg _
          have hi1 : (j : Int) < (n : Int) := by omega
          have hsr : Same P w wr := HS.out.trans (Same.below hbel fun b hb => Nat.lt_of_lt_of_le (hP b hb) hge)
          rcases HK.out with h0 | ⟨b, o, rfl, hb, hat⟩
          · rw [h0] at hjk; simp at hjk
          obtain ⟨c0, c1, c2, c3⟩ := At4.keep (hat j _ hu) hsr hb
          have HI1 := Lib.hid (HI.out j _ hu)
          have HU := Lib.hid hu
          generalize ks[j] = u at *
          generalize R j = r1 at *
          obtain ⟨ga1, gc1, da1, dc1⟩ := r1
          have hms : Pl.sz u ≤ 1000000 := by omega
          have hblt : b < wr.heap.size := World.block_lt_of_cell? wr _ c0
          have HSR := Lib.hid hsr
          have hgr := hbel.size
          have x3 := (blk_cells hout).1.2.2.2
          have d0 : wr.drew.cell? ⟨b, o + j * 4, none⟩ = some (.int .i64 u.kind) := c0
          have d1 : wr.drew.cell? ⟨b, o + j * 4 + 1, none⟩ = some (.string u.text) := c1
          have d2 : wr.drew.cell? ⟨b, o + j * 4 + 2, none⟩ = some (.slice ga1 u.gaps.length gc1) := c2
          have d3 : wr.drew.cell? ⟨b, o + j * 4 + 3, none⟩ = some (.slice da1 u.kids.length dc1) := c3
          have d4 : wr.drew.cell? ⟨w1.heap.size, 3, none⟩ = some (.slice (some ⟨b, o, none⟩) n c) := hcell
          have d5 : wr.drew.cell? ⟨w1.heap.size + 1 + 1, 3, none⟩ = some (.slice va j vc) := x3
          clear hat hu hsr hbel hstep hzero hout
          go_wp2_with fail
          clear hcell
          go_region_law
            ((first
              | (refine step_append_lies _ (by rfl) _ _ _ (by rfl) (w1.heap.size + 1 + 1 + 1) 54 i0 _ 4 72 Try.underlying52 hi0 hz0 hz1 hz2 rfl (by omega) (.slice va j vc) j (row4 L) (by rfl) ((owns_later HM.out.2.1 HB2.out).alloc _)
                   ⟨w2.heap.size, 0, none⟩ 1 1 [.int .i64 (Pl.bare u).kind, .string (Pl.bare u).text, .slice ga2 (Pl.bare u).gaps.length gc2, .slice da2 (Pl.bare u).kids.length dc2] (by rfl) (by rfl) (World.news_of_block (cs := #[.int .i64 (Pl.bare u).kind, .string (Pl.bare u).text, .slice ga2 (Pl.bare u).gaps.length gc2, .slice da2 (Pl.bare u).kids.length dc2]) (t := 54) (fr := (0, 0)) (heap_alloc_new w2 _)) (by simp [Value.oneCell'])
                   (by omega) (by unfold maxLen; omega) (by omega) (by simp; omega) (w2.heap.size + 1) (by simp) ?_; intro gg cap w3 hown hgrow hat3 hlt3;
                 have hblk3 := (hgrow.block (w1.heap.size + 1 + 1) (by simp; omega) (fun e => by have := (HM.out.2.1.lt _ e.symm).1; omega)).trans ((Below.heap_alloc _ _ _ (by omega)).trans ((HB2.out.block _ hgt).trans HO.out));
                 obtain ⟨⟨t0, t1, t2, t3⟩, y0, y1, y2, y3⟩ := blk_cells hblk3;
                 have HB3 := Lib.hid hblk3;
                 have HOwn := Lib.hid hown;
                 have HGrow := Lib.hid hgrow;
                 have HAt3 := Lib.hid hat3;
                 have hsz3 := hgrow.size;
                 clear hblk3 hown hgrow hat3)
              | (go_simp; go_at_call 30; refine (HI1.out wr.drew (HSR.out.trans (Same.below (Below.refl wr.heap.size wr).drew fun b hb => by have := hP b hb; omega)) (by show w.heap.size ≤ wr.heap.size; omega) hms).mono ?_; rintro e w2 ⟨⟨ga2, gc2, da2, dc2⟩, rfl, ht2, hb2'⟩;
                 have hb2 : Below wr.heap.size wr w2 := (Below.refl _ wr).drew.trans hb2';
                 have q0 := (hb2.cell (p := ⟨b, o + j * 4, none⟩) hblt).trans c0;
                 have q1 := (hb2.cell (p := ⟨b, o + j * 4 + 1, none⟩) hblt).trans c1;
                 have q2 := (hb2.cell (p := ⟨b, o + j * 4 + 2, none⟩) hblt).trans c2;
                 have q3 := (hb2.cell (p := ⟨b, o + j * 4 + 3, none⟩) hblt).trans c3;
                 have q4 := (hb2.cell (p := ⟨w1.heap.size, 3, none⟩) (by show w1.heap.size < _; omega)).trans HC.out;
                 have q5 := (hb2.cell (p := ⟨w1.heap.size + 1 + 1, 3, none⟩) hgt).trans x3;
                 have pa := cell_past b;
                 have pb := cell_past w1.heap.size;
                 have pc := cell_past (w1.heap.size + 1 + 1);
                 have hsz2 := hb2.size;
                 have hbl2 : b < w2.heap.size := by omega;
                 have hgt2 : w1.heap.size + 1 + 1 < w2.heap.size := by omega;
                 have hgt3 : w1.heap.size < w2.heap.size := by omega;
                 have HT2 := Lib.hid ht2;
                 have HB2 := Lib.hid hb2;
                 clear ht2 hb2 hb2')))
          all_goals
            go_wp2_with fail
            have hown3 : ∀ k, (Value.slice va j vc).ownBlock = some k → w1.heap.size + 1 + 1 + 1 ≤ k := fun k hk => (HM.out.2.1.lt k hk).1
            have hlow : ∀ x, x < w1.heap.size + 1 + 1 + 1 → w3.heap[x]? = wr.heap[x]? := fun x hx =>
              (HGrow.out.block x (by simp; omega) (fun e => by have := hown3 x e.symm; omega)).trans ((Below.heap_alloc _ _ _ (by omega)).trans (HB2.out.block x (by omega)))
            simp at hsz3
            refine ⟨⟨j + 1, some ⟨gg, 0, none⟩, cap, L ++ [(Pl.bare u, ⟨ga2, gc2, da2, dc2⟩)], by omega, by go_num, ?_, ?_, by simp; omega, ?_, ?_, ?_, ?_⟩, by simp [intOf]; omega⟩
            · rw [List.map_append, HL.out, List.take_add_one, HU.out]; simp
            · exact (((HB.out.trans (HB2.out.mono hgr)).alloc (by omega) _).grown HGrow.out (by simp; omega) (fun k hk => by have := hown3 k hk; omega)).setCell (by show w1.heap.size ≤ w1.heap.size + 1 + 1; omega) _
            · exact (World.cell?_of_block (w := wr) (a := ⟨w1.heap.size, 3, none⟩) ((Below.heap_setCell _ _ _ _ (by show w1.heap.size ≠ w1.heap.size + 1 + 1; omega)).trans (hlow _ (by show w1.heap.size < _; omega)))).trans HC.out
            · exact (Below.heap_setCell _ _ _ _ (by show w1.heap.size + 1 ≠ w1.heap.size + 1 + 1; omega)).trans ((hlow _ (by omega)).trans HZ.out)
            · have := HB3.out
              simp [World.setCell, Array.getElem?_modify, this]
            · exact made_keep (made_snoc HM.out (by omega) HB2.out HT2.out HOwn.out HGrow.out HAt3.out) (fun x hx _ => Below.heap_setCell _ _ _ _ (by show x ≠ w1.heap.size + 1 + 1; omega)) (by simp)
        · have hjn : j = n := by omega
          subst hjn
          have hL2 : L.map Prod.fst = Pl.bares ks := by have := HL.out; rw [HN.out, List.take_length] at this; rw [this, Pl.bares_map]
          have HL2 := Lib.hid hL2
          obtain ⟨⟨p0, p1, p2, p3⟩, z0, z1, z2, z3⟩ := blk_cells hzero
          obtain ⟨⟨t0, t1, t2, t3⟩, _⟩ := blk_cells hout
          clear hbel hzero hout hL2
          go_wp2_with fail
          refine bodyPost_ret (v := .agg #[.int .i64 k, .string s, .slice none 0 0, .slice va j vc]) (by simp [results, Try.results30, go_sem, p0, p1, p2, p3]) rfl ?_
          have hm := HM.out
          refine ⟨⟨none, 0, va, vc⟩, ?_, .mk _ _ (fun q => match L[q]? with | some x => x.2 | none => ⟨none, 0, none, 0⟩) hs (strs_nil _ _ _) ?_ ?_ (fun q v hv => ?_), below_set4 HB.out (by omega)⟩
          · rw [Pl.bare, kids_node, gaps_node, text_node, kind_node, Pl.bares_map, List.length_map, ← HN.out]; rfl
          · rw [Pl.bare, kids_node, Pl.bares_map, List.length_map]; exact HLM.out
          · rw [Pl.bare, kids_node]
            rcases Nat.eq_zero_or_pos j with h0 | h0
            · left
              rw [← HL2.out, List.map_eq_nil_iff]
              exact List.eq_nil_of_length_eq_zero (by rw [← hm.1]; exact h0)
            · obtain ⟨g2, cap2, he, hge2, hlt2, _, hat⟩ := owns_at hm.2.1 hm.1 h0
              injection he with he1 he2 he3
              refine .inr ⟨g2, 0, he1, ⟨by omega, by simp; omega⟩, fun q v hv => ?_⟩
              rw [← HL2.out, List.getElem?_map] at hv
              obtain ⟨x, hx, rfl⟩ := Option.map_eq_some_iff.1 hv
              simp only [hx]
              exact At4.keep (P := fun y => y = g2) (hat q x hx) (fun y hy => heap_set4 (by omega)) rfl
          · rw [Pl.bare, kids_node, ← HL2.out, List.getElem?_map] at hv
            obtain ⟨x, hx, rfl⟩ := Option.map_eq_some_iff.1 hv
            simp only [hx]
            exact (hm.2.2 q x hx).keep (fun y hy => heap_set4 (by omega)) (fun y hy => ⟨by omega, by simp; omega⟩)
end Go.Proofs.Ytoelfiendfemaaa
