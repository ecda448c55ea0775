/- The walk of the law TreeSizes. -/
import Derived.Test.YtidmbdilediplaaIs
namespace Go.Proofs.Ytidmbdilediplaa
open Go.RowKit Go.Deep
set_option linter.unusedVariables false
set_option linter.unusedSimpArgs false

set_option maxHeartbeats 1600000 in
set_option maxRecDepth 100000 in

theorem sizes_law (i : Int) (W : World) {t : Pl.Tr} {r : Sl} (ht : IsT W t r) (hi : i ≤ 9223372036854775807 ∧ -9223372036854775808 ≤ i) :
    Calls Try.prog 3 #[.agg #[.int .i64 t.kind, .string t.text, .slice r.ga t.gaps.length r.gc, .slice r.da t.kids.length r.dc], .int .i64 i] W fun e w' => e = .returned (.bool true) ∧ Below W.heap.size W w' := by
  obtain ⟨w0, hw0, nt, lt, bt⟩ := box_world W (.cells #[.int .i64 t.kind, .string t.text, .slice r.ga t.gaps.length r.gc, .slice r.da t.kids.length r.dc] 25)
  have Nt := Lib.hid nt
  have HB := Lib.hid bt
  have Ht := Lib.hid (ht.later bt)
  obtain ⟨⟨a0, a1, a2, a3⟩, _⟩ := blk_cells nt
  clear ht nt bt
  obtain ⟨u, ok, _, hone⟩ := at_one t i
  have HO := Lib.hid hone
  have hi1 := hi.1
  clear hone hi
  go_enter Try.func3, Try.ntmps3
  go_upto_region 1 with (fail)
  rw [← hw0]
  clear hw0
  have pa := cell_past W.heap.size
  go_wp2_with (first
    | (go_at_call 10; refine (light_now Ht.out).mono ?_; rintro e w1 ⟨b, hl, rfl, hb1⟩; have HL := Lib.hid hl; obtain ⟨n1, l1⟩ := keep_box Nt.out lt hb1; have N1 := Lib.hid n1; have H1 := Lib.hid (Ht.out.later hb1); have B1 := Lib.hid (HB.out.trans (hb1.mono HB.out.size)); clear a0 a1 a2 a3; obtain ⟨⟨a0, a1, a2, a3⟩, _⟩ := blk_cells n1; clear hb1 n1 hl; cases b)
    | (go_at_call 12; refine ((at_is H1.out (HL.out (by trivial)) i hi1).mono (HO.out _)).mono ?_; rintro e w2 ⟨hb2, q, hq, rfl⟩; obtain ⟨n2, l2⟩ := keep_box N1.out l1 hb2; have N2 := Lib.hid n2; have H2 := Lib.hid (H1.out.later hb2); have HQ2 := Lib.hid hq; have B2 := Lib.hid (B1.out.trans (hb2.mono B1.out.size)); clear a0 a1 a2 a3; obtain ⟨⟨a0, a1, a2, a3⟩, _⟩ := blk_cells n2; clear hb2 n2 hq)
    | (go_at_call 13; refine ((rat_is (H2.out.box _) (HL.out (by trivial)) i hi1).mono (HO.out _)).mono ?_; rintro e w3 ⟨hb3, q3, hq3, rfl⟩; obtain ⟨l3, n3, k3, b3⟩ := after_call hb3; have M3 := Lib.hid n3; have N3 := Lib.hid ((k3 _ l2).trans N2.out); have H3 := Lib.hid (H2.out.later b3); have HQ3 := Lib.hid (HQ2.out.later b3); have HR3 := Lib.hid hq3; have B3 := Lib.hid (B2.out.trans (b3.mono B2.out.size)); clear hb3 n3 k3 b3 hq3 a0 a1 a2 a3)
    | (go_at_call 11; refine (awake_any _).mono ?_; rintro e w2 ⟨rfl, hb2⟩; have B2 := Lib.hid (B1.out.trans (hb2.mono B1.out.size)); clear hb2))
  · exact bodyPost_ret (v := .bool true) (by simp [results, Try.results3, go_sem]) rfl ⟨rfl, B2.out⟩
  obtain ⟨w5, hw5, n5, l5, b5⟩ := box_world w3 (.cells #[.int .i64 u.kind, .string u.text, .slice q3.ga u.gaps.length q3.gc, .slice q3.da u.kids.length q3.dc] 25)
  rw [← hw5]
  clear hw5
  have HL1 := Lib.hid (HL.out (by trivial))
  obtain ⟨m1, la⟩ := keep_box N3.out (Nat.lt_trans l2 l3) b5
  obtain ⟨m2, lb⟩ := keep_box M3.out l3 b5
  have NA := Lib.hid m1
  have NB := Lib.hid m2
  have NC := Lib.hid n5
  have H5 := Lib.hid (H3.out.later b5)
  have HQ5 := Lib.hid (HQ3.out.later b5)
  have HR5 := Lib.hid (HR3.out.later b5)
  have B5 := Lib.hid (B3.out.trans (b5.mono B3.out.size))
  clear pa m1 m2 n5 b5 HL
  have hb0 : Below w5.heap.size w5 w5.drew := (Below.refl _ _).drew
  have hs0 := hb0.size
  have fa0 := blk_cells ((hb0.block _ la).trans NA.out)
  obtain ⟨⟨a0, a1, a2, a3⟩, _⟩ := fa0
  have fb0 := blk_cells ((hb0.block _ lb).trans NB.out)
  obtain ⟨⟨b0, b1, b2, b3⟩, _⟩ := fb0
  have fc0 := blk_cells ((hb0.block _ l5).trans NC.out)
  obtain ⟨⟨c0, c1, c2, c3⟩, _⟩ := fc0
  go_region_held3 (fun w' => w'.cell? ⟨W.heap.size, 0, none⟩ = some (.int .i64 t.kind) ∧ w'.cell? ⟨W.heap.size, 1, none⟩ = some (.string t.text) ∧ w'.cell? ⟨W.heap.size, 2, none⟩ = some (.slice r.ga t.gaps.length r.gc) ∧ w'.cell? ⟨W.heap.size, 3, none⟩ = some (.slice r.da t.kids.length r.dc) ∧ w'.cell? ⟨w2.heap.size, 0, none⟩ = some (.int .i64 u.kind) ∧ w'.cell? ⟨w2.heap.size, 1, none⟩ = some (.string u.text) ∧ w'.cell? ⟨w2.heap.size, 2, none⟩ = some (.slice q.ga u.gaps.length q.gc) ∧ w'.cell? ⟨w2.heap.size, 3, none⟩ = some (.slice q.da u.kids.length q.dc) ∧ w'.cell? ⟨w3.heap.size, 0, none⟩ = some (.int .i64 u.kind) ∧ w'.cell? ⟨w3.heap.size, 1, none⟩ = some (.string u.text) ∧ w'.cell? ⟨w3.heap.size, 2, none⟩ = some (.slice q3.ga u.gaps.length q3.gc) ∧ w'.cell? ⟨w3.heap.size, 3, none⟩ = some (.slice q3.da u.kids.length q3.dc))
    (with_reducible exact ⟨a0, a1, a2, a3, b0, b1, b2, b3, c0, c1, c2, c3⟩)
    ((first
      | (go_at_call 18; have g9 := hb5; clear g9; refine (requal_self (HQ5.out.later hb5) (HR5.out.later hb5)).mono ?_; rintro e v6 ⟨rfl, hbn⟩; have hb6 : Below w5.heap.size w5 v6 := hb5.trans (hbn.mono hs5); have hs6 := hb6.size; have fa6 := blk_cells ((hb6.block _ la).trans NA.out); obtain ⟨⟨a0, a1, a2, a3⟩, _⟩ := fa6; have fb6 := blk_cells ((hb6.block _ lb).trans NB.out); obtain ⟨⟨b0, b1, b2, b3⟩, _⟩ := fb6; have fc6 := blk_cells ((hb6.block _ l5).trans NC.out); obtain ⟨⟨c0, c1, c2, c3⟩, _⟩ := fc6; clear hbn)
      | (go_at_call 17; have g9 := hb4; clear g9; refine (rheight_is (H5.out.later hb4) HL1.out.sz).mono ?_; rintro e v5 ⟨rfl, hbn⟩; have hb5 : Below w5.heap.size w5 v5 := hb4.trans (hbn.mono hs4); have hs5 := hb5.size; have fa5 := blk_cells ((hb5.block _ la).trans NA.out); obtain ⟨⟨a0, a1, a2, a3⟩, _⟩ := fa5; have fb5 := blk_cells ((hb5.block _ lb).trans NB.out); obtain ⟨⟨b0, b1, b2, b3⟩, _⟩ := fb5; have fc5 := blk_cells ((hb5.block _ l5).trans NC.out); obtain ⟨⟨c0, c1, c2, c3⟩, _⟩ := fc5; clear hbn)
      | (go_at_call 16; have g9 := hb3; clear g9; refine (height_is (H5.out.later hb3) HL1.out.sz).mono ?_; rintro e v4 ⟨rfl, hbn⟩; have hb4 : Below w5.heap.size w5 v4 := hb3.trans (hbn.mono hs3); have hs4 := hb4.size; have fa4 := blk_cells ((hb4.block _ la).trans NA.out); obtain ⟨⟨a0, a1, a2, a3⟩, _⟩ := fa4; have fb4 := blk_cells ((hb4.block _ lb).trans NB.out); obtain ⟨⟨b0, b1, b2, b3⟩, _⟩ := fb4; have fc4 := blk_cells ((hb4.block _ l5).trans NC.out); obtain ⟨⟨c0, c1, c2, c3⟩, _⟩ := fc4; clear hbn)
      | (go_at_call 15; have g9 := hb2; clear g9; refine (rsize_is (H5.out.later hb2) HL1.out.sz).mono ?_; rintro e v3 ⟨rfl, hbn⟩; have hb3 : Below w5.heap.size w5 v3 := hb2.trans (hbn.mono hs2); have hs3 := hb3.size; have fa3 := blk_cells ((hb3.block _ la).trans NA.out); obtain ⟨⟨a0, a1, a2, a3⟩, _⟩ := fa3; have fb3 := blk_cells ((hb3.block _ lb).trans NB.out); obtain ⟨⟨b0, b1, b2, b3⟩, _⟩ := fb3; have fc3 := blk_cells ((hb3.block _ l5).trans NC.out); obtain ⟨⟨c0, c1, c2, c3⟩, _⟩ := fc3; clear hbn)
      | (go_at_call 14; have g9 := hb1; clear g9; refine (size_is (H5.out.later hb1) HL1.out.sz).mono ?_; rintro e v2 ⟨rfl, hbn⟩; have hb2 : Below w5.heap.size w5 v2 := hb1.trans (hbn.mono hs1); have hs2 := hb2.size; have fa2 := blk_cells ((hb2.block _ la).trans NA.out); obtain ⟨⟨a0, a1, a2, a3⟩, _⟩ := fa2; have fb2 := blk_cells ((hb2.block _ lb).trans NB.out); obtain ⟨⟨b0, b1, b2, b3⟩, _⟩ := fb2; have fc2 := blk_cells ((hb2.block _ l5).trans NC.out); obtain ⟨⟨c0, c1, c2, c3⟩, _⟩ := fc2; clear hbn)
      | (go_at_call 11; refine (awake_any w5.drew).mono ?_; rintro e v1 ⟨rfl, hbn⟩; have hb1 : Below w5.heap.size w5 v1 := hb0.trans (hbn.mono hs0); have hs1 := hb1.size; have fa1 := blk_cells ((hb1.block _ la).trans NA.out); obtain ⟨⟨a0, a1, a2, a3⟩, _⟩ := fa1; have fb1 := blk_cells ((hb1.block _ lb).trans NB.out); obtain ⟨⟨b0, b1, b2, b3⟩, _⟩ := fb1; have fc1 := blk_cells ((hb1.block _ l5).trans NC.out); obtain ⟨⟨c0, c1, c2, c3⟩, _⟩ := fc1; clear hbn)))
  all_goals
    go_wp2_with fail
  all_goals
    exact bodyPost_ret (v := .bool true) (by simp [results, Try.results3, go_sem]) rfl ⟨rfl, B5.out.trans (hb6.mono B5.out.size)⟩
end Go.Proofs.Ytidmbdilediplaa
