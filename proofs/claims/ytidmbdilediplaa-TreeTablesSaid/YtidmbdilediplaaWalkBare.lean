/- The walk of Bare. -/
import Derived.Test.YtidmbdilediplaaWalkCopy
import Derived.Deep.RegionHeld3
namespace Go.Proofs.Ytidmbdilediplaa
open Go.RowKit Go.Deep
set_option linter.unusedVariables false
set_option linter.unusedSimpArgs false

set_option maxHeartbeats 800000 in
set_option maxRecDepth 100000 in
theorem bare_at {P : Nat → Prop} {w : World} {t : Pl.Tr} {r : Sl} (h : Tin P w t r) (hP : ∀ b, P b → b < w.heap.size) : ∀ w1, Same P w w1 → w.heap.size ≤ w1.heap.size → Pl.sz t ≤ 1000000 →
    Calls Try.prog 28 #[.agg #[.int .i64 t.kind, .string t.text, .slice r.ga t.gaps.length r.gc, .slice r.da t.kids.length r.dc]] w1 (CopyP (Pl.bare t) w1) := by
  induction h with
  | mk t r R hs hg hl hk hr ih =>
    intro w1 hsame hge hsz
    cases t with
    | node k s g ks =>
      obtain ⟨ga, gc, a, c⟩ := r
      simp only [kids_node, gaps_node, text_node, kind_node] at *
      rw [Pl.sz] at hsz
      have hlen := Pl.len_szs ks
      have HE := Lib.hid (fun w1 hs hge => each_bare hP ks a c R (by omega) hk (fun j u hu w1 hs hge => ih j u hu w1 hs hge (by have := Pl.sz_mem (List.mem_of_getElem? hu); omega)) w1 hs hge)
      have HS := Lib.hid hsame
      clear hg hk hr ih hsame hlen
      go_enter Try.func28, Try.ntmps28
      go_wp2_with fail
      obtain ⟨W, hW⟩ : ∃ W, W = (w1.alloc (.cells #[.int .i64 k, .string s, .slice ga g.length gc, .slice a ks.length c] 25)).alloc (.cells #[.int .i64 0, .string ⟨#[]⟩, .slice none 0 0, .slice none 0 0] 25) := ⟨_, rfl⟩
      rw [← hW]
      obtain ⟨hb1, hb2, hlow, hz⟩ := two_after (w := w1) (w2 := W) (by rw [← hW]; exact Below.refl _ _)
      obtain ⟨⟨c0, c1, c2, c3⟩, _⟩ := blk_cells hb1
      have HB2 := Lib.hid hb2
      have HLow := Lib.hid hlow
      clear hW hb1 hb2 hlow
      have d0 : W.drew.cell? ⟨w1.heap.size, 0, none⟩ = some (.int .i64 k) := c0
      have d1 : W.drew.cell? ⟨w1.heap.size, 1, none⟩ = some (.string s) := c1
      have d2 : W.drew.cell? ⟨w1.heap.size, 2, none⟩ = some (.slice ga g.length gc) := c2
      have d3 : W.drew.cell? ⟨w1.heap.size, 3, none⟩ = some (.slice a ks.length c) := c3
      go_region_held3 (fun w' => w'.cell? ⟨w1.heap.size, 0, none⟩ = some (.int .i64 k) ∧ w'.cell? ⟨w1.heap.size, 1, none⟩ = some (.string s) ∧ w'.cell? ⟨w1.heap.size, 2, none⟩ = some (.slice ga g.length gc) ∧ w'.cell? ⟨w1.heap.size, 3, none⟩ = some (.slice a ks.length c))
        (first
          | with_reducible exact ⟨d0, d1, d2, d3⟩
          | with_reducible exact ⟨r0, r1, r2, r3⟩
          | go_keep)
        ((first
          | (go_at_call 45; refine (HE.out W.drew (HS.out.trans (Same.below HLow.out.drew fun b hb => Nat.lt_of_lt_of_le (hP b hb) hge)) (by show w.heap.size ≤ W.heap.size; omega)).mono ?_; rintro e w3 ⟨b3, R3, rfl, hb, hall, hbel', hlt3⟩;
             have hbel : Below W.heap.size W w3 := (Below.refl _ W).drew.trans hbel';
             have r0 := (hbel.cell (p := ⟨w1.heap.size, 0, none⟩) (by show w1.heap.size < _; omega)).trans c0;
             have r1 := (hbel.cell (p := ⟨w1.heap.size, 1, none⟩) (by show w1.heap.size < _; omega)).trans c1;
             have r2 := (hbel.cell (p := ⟨w1.heap.size, 2, none⟩) (by show w1.heap.size < _; omega)).trans c2;
             have r3 := (hbel.cell (p := ⟨w1.heap.size, 3, none⟩) (by show w1.heap.size < _; omega)).trans c3;
             have hz3 := hbel.size;
             have hblk := (hbel.block (w1.heap.size + 1) (by omega)).trans HB2.out;
             obtain ⟨⟨p0, p1, p2, p3⟩, z0, z1, z2, z3⟩ := blk_cells hblk;
             have HBel3 := Lib.hid hbel;
             have HALL := Lib.hid hall;
             have HBe3 := Lib.hid hb;
             clear hbel hbel' hall hblk hb)))
      have hbe3 : b3 = W.heap.size := HBe3.out
      have HS3 : Hid (Same (fun x => x ≠ w1.heap.size + 1) w3 ((((w3.setCell ⟨w1.heap.size + 1, 0, none⟩ (.int .i64 k)).setCell ⟨w1.heap.size + 1, 1, none⟩ (.string s)).setCell ⟨w1.heap.size + 1, 2, none⟩ (.slice none 0 0)).setCell ⟨w1.heap.size + 1, 3, none⟩ (.slice (some ⟨b3, 0, none⟩) ks.length ks.length))) :=
        Lib.hid fun x hx => heap_set4 hx
      have E3 := Lib.hid hbe3
      clear hbe3
      go_wp2_with fail
      refine bodyPost_ret (v := .agg #[.int .i64 k, .string s, .slice none 0 0, .slice (some ⟨b3, 0, none⟩) ks.length ks.length]) (by simp [results, Try.results28, go_sem, p0, p1, p2, p3]) rfl ?_
      have e3 := E3.out
      refine ⟨⟨none, 0, some ⟨b3, 0, none⟩, ks.length⟩, ?_, .mk _ _ R3 hs (strs_nil _ _ _) ?_ (.inr ⟨b3, 0, rfl, ⟨by omega, by simp; omega⟩, fun j u hu => ?_⟩) (fun j u hu => ?_), ?_⟩
      · rw [Pl.bare, kids_node, gaps_node, text_node, kind_node, Pl.bares_map, List.length_map]; rfl
      · rw [Pl.bare, kids_node, Pl.bares_map, List.length_map]; unfold maxLen at *; exact hl
      · rw [Pl.bare, kids_node, Pl.bares_map, List.getElem?_map] at hu
        obtain ⟨v, hv, rfl⟩ := Option.map_eq_some_iff.1 hu
        rw [Nat.zero_add]
        exact At4.keep (P := fun x => x = b3) (HALL.out j v hv).1 (fun x hx => HS3.out x (by omega)) rfl
      · rw [Pl.bare, kids_node, Pl.bares_map, List.getElem?_map] at hu
        obtain ⟨v, hv, rfl⟩ := Option.map_eq_some_iff.1 hu
        exact (HALL.out j v hv).2.keep (fun x hx => HS3.out x (by have := hx.1; have hW : W.drew.heap.size = W.heap.size := rfl; omega)) (fun x hx => ⟨by have := hx.1; have hW : W.drew.heap.size = W.heap.size := rfl; omega, by have := hx.2; simp; omega⟩)
      · exact below_set4 (HLow.out.trans (HBel3.out.mono (by omega))) (by omega)
end Go.Proofs.Ytidmbdilediplaa
