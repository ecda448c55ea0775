/- The walk of the law TreeCompares. -/
import Derived.Test.YtidmbdilediplaaIs
namespace Go.Proofs.Ytidmbdilediplaa
open Go.RowKit Go.Deep
set_option linter.unusedVariables false
set_option linter.unusedSimpArgs false

set_option maxHeartbeats 1600000 in
set_option maxRecDepth 100000 in

theorem compares_law (W : World) {t : Pl.Tr} {r : Sl} (ht : IsT W t r) {u : Pl.Tr} {q : Sl} (hu : IsT W u q) :
    Calls Try.prog 6 #[.agg #[.int .i64 t.kind, .string t.text, .slice r.ga t.gaps.length r.gc, .slice r.da t.kids.length r.dc], .agg #[.int .i64 u.kind, .string u.text, .slice q.ga u.gaps.length q.gc, .slice q.da u.kids.length q.dc]] W fun e w' => e = .returned (.bool true) ∧ Below W.heap.size W w' := by
  obtain ⟨wa, hwa, nt, lt, bt⟩ := box_world W (.cells #[.int .i64 t.kind, .string t.text, .slice r.ga t.gaps.length r.gc, .slice r.da t.kids.length r.dc] 25)
  obtain ⟨w0, hw0, nu, lu, bu⟩ := box_world wa (.cells #[.int .i64 u.kind, .string u.text, .slice q.ga u.gaps.length q.gc, .slice q.da u.kids.length q.dc] 25)
  obtain ⟨mt, lt⟩ := keep_box nt lt bu
  have hsa : wa.heap.size = W.heap.size + 1 := by rw [hwa]; simp
  rw [hsa] at nu lu
  have Nt := Lib.hid mt
  have Nu := Lib.hid nu
  have HB := Lib.hid (bt.trans (bu.mono bt.size))
  have Ht := Lib.hid ((ht.later bt).later bu)
  have Hu := Lib.hid ((hu.later bt).later bu)
  obtain ⟨⟨a0, a1, a2, a3⟩, _⟩ := blk_cells mt
  obtain ⟨⟨b0, b1, b2, b3⟩, _⟩ := blk_cells nu
  clear ht hu nt mt nu bt bu
  go_enter Try.func6, Try.ntmps6
  go_upto_region 1 with (fail)
  rw [← hwa, ← hw0]
  clear hwa hw0 hsa
  go_wp2_with (first
    | (go_at_call 10; have g9 := B1.out; clear g9; refine (light_now H1u.out).mono ?_; rintro e w2 ⟨b, hl, rfl, hb2⟩; have HK := Lib.hid hl; obtain ⟨n2, lt2⟩ := keep_box N1t.out lt1 hb2; obtain ⟨m2, lu2⟩ := keep_box N1u.out lu1 hb2; have N2t := Lib.hid n2; have N2u := Lib.hid m2; have H2t := Lib.hid (H1t.out.later hb2); have H2u := Lib.hid (H1u.out.later hb2); have B2 := Lib.hid (B1.out.trans (hb2.mono B1.out.size)); clear a0 a1 a2 a3 b0 b1 b2 b3; obtain ⟨⟨a0, a1, a2, a3⟩, _⟩ := blk_cells n2; obtain ⟨⟨b0, b1, b2, b3⟩, _⟩ := blk_cells m2; clear hb2 n2 m2 hl; cases b)
    | (go_at_call 10; refine (light_now Ht.out).mono ?_; rintro e w1 ⟨b, hl, rfl, hb1⟩; have HL := Lib.hid hl; obtain ⟨n1, lt1⟩ := keep_box Nt.out lt hb1; obtain ⟨m1, lu1⟩ := keep_box Nu.out lu hb1; have N1t := Lib.hid n1; have N1u := Lib.hid m1; have H1t := Lib.hid (Ht.out.later hb1); have H1u := Lib.hid (Hu.out.later hb1); have B1 := Lib.hid (HB.out.trans (hb1.mono HB.out.size)); clear a0 a1 a2 a3 b0 b1 b2 b3; obtain ⟨⟨a0, a1, a2, a3⟩, _⟩ := blk_cells n1; obtain ⟨⟨b0, b1, b2, b3⟩, _⟩ := blk_cells m1; clear hb1 n1 m1 hl; cases b)
    | (go_at_call 11; have g9 := B2.out; clear g9; refine (awake_any _).mono ?_; rintro e w3 ⟨rfl, hb3⟩; have B3 := Lib.hid (B2.out.trans (hb3.mono B2.out.size)); clear hb3)
    | (go_at_call 11; refine (awake_any _).mono ?_; rintro e w3 ⟨rfl, hb3⟩; have B3 := Lib.hid (B1.out.trans (hb3.mono B1.out.size)); clear hb3))
  · exact bodyPost_ret (v := .bool true) (by simp [results, Try.results6, go_sem]) rfl ⟨rfl, B3.out⟩
  · exact bodyPost_ret (v := .bool true) (by simp [results, Try.results6, go_sem]) rfl ⟨rfl, B3.out⟩
  have HL1 := Lib.hid (HL.out (by trivial))
  have HK1 := Lib.hid (HK.out (by trivial))
  clear HL HK a0 a1 a2 a3 b0 b1 b2 b3
  have hb0 : Below w2.heap.size w2 w2.drew := (Below.refl _ _).drew
  have hs0 := hb0.size
  have fa0 := blk_cells ((hb0.block _ lt2).trans N2t.out)
  obtain ⟨⟨a0, a1, a2, a3⟩, _⟩ := fa0
  have fb0 := blk_cells ((hb0.block _ lu2).trans N2u.out)
  obtain ⟨⟨b0, b1, b2, b3⟩, _⟩ := fb0
  go_region_held3 (fun w' => w'.cell? ⟨W.heap.size, 0, none⟩ = some (.int .i64 t.kind) ∧ w'.cell? ⟨W.heap.size, 1, none⟩ = some (.string t.text) ∧ w'.cell? ⟨W.heap.size, 2, none⟩ = some (.slice r.ga t.gaps.length r.gc) ∧ w'.cell? ⟨W.heap.size, 3, none⟩ = some (.slice r.da t.kids.length r.dc) ∧ w'.cell? ⟨W.heap.size + 1, 0, none⟩ = some (.int .i64 u.kind) ∧ w'.cell? ⟨W.heap.size + 1, 1, none⟩ = some (.string u.text) ∧ w'.cell? ⟨W.heap.size + 1, 2, none⟩ = some (.slice q.ga u.gaps.length q.gc) ∧ w'.cell? ⟨W.heap.size + 1, 3, none⟩ = some (.slice q.da u.kids.length q.dc))
    (with_reducible exact ⟨a0, a1, a2, a3, b0, b1, b2, b3⟩)
    ((first
      | (go_at_call 18; have g9 := hb7; clear g9; refine (requal_self HQ3.out HQ2.out).mono ?_; rintro e v8 ⟨rfl, hbn⟩; have hb8 : Below w2.heap.size w2 v8 := hb7.trans (hbn.mono hs7); have hs8 := hb8.size; have fa8 := blk_cells ((hb8.block _ lt2).trans N2t.out); obtain ⟨⟨a0, a1, a2, a3⟩, _⟩ := fa8; have fb8 := blk_cells ((hb8.block _ lu2).trans N2u.out); obtain ⟨⟨b0, b1, b2, b3⟩, _⟩ := fb8; clear hbn)
      | (go_at_call 29; have g9 := hb6; clear g9; refine (rbare_is (H2t.out.later hb6) HL1.out.sz).mono ?_; rintro e v7 ⟨q2, rfl, hq2, hbn⟩; have hb7 : Below w2.heap.size w2 v7 := hb6.trans (hbn.mono hs6); have hs7 := hb7.size; have fa7 := blk_cells ((hb7.block _ lt2).trans N2t.out); obtain ⟨⟨a0, a1, a2, a3⟩, _⟩ := fa7; have fb7 := blk_cells ((hb7.block _ lu2).trans N2u.out); obtain ⟨⟨b0, b1, b2, b3⟩, _⟩ := fb7; have HQ2 := Lib.hid hq2; have HQ3 := Lib.hid (HQ1.out.later hbn); clear hq2; clear hbn)
      | (go_at_call 28; have g9 := hb5; clear g9; refine (bare_is (H2t.out.later hb5) HL1.out.sz).mono ?_; rintro e v6 ⟨q1, rfl, hq1, hbn⟩; have hb6 : Below w2.heap.size w2 v6 := hb5.trans (hbn.mono hs5); have hs6 := hb6.size; have fa6 := blk_cells ((hb6.block _ lt2).trans N2t.out); obtain ⟨⟨a0, a1, a2, a3⟩, _⟩ := fa6; have fb6 := blk_cells ((hb6.block _ lu2).trans N2u.out); obtain ⟨⟨b0, b1, b2, b3⟩, _⟩ := fb6; have HQ1 := Lib.hid hq1; clear hq1; clear hbn)
      | (go_at_call 18; have g9 := hb4; clear g9; refine (requal_is (H2t.out.later hb4) (H2u.out.later hb4)).mono ?_; rintro e v5 ⟨rfl, hbn⟩; have hb5 : Below w2.heap.size w2 v5 := hb4.trans (hbn.mono hs4); have hs5 := hb5.size; have fa5 := blk_cells ((hb5.block _ lt2).trans N2t.out); obtain ⟨⟨a0, a1, a2, a3⟩, _⟩ := fa5; have fb5 := blk_cells ((hb5.block _ lu2).trans N2u.out); obtain ⟨⟨b0, b1, b2, b3⟩, _⟩ := fb5; clear hbn)
      | (go_at_call 27; have g9 := hb3; clear g9; refine (equal_is (H2t.out.later hb3) (H2u.out.later hb3)).mono ?_; rintro e v4 ⟨rfl, hbn⟩; have hb4 : Below w2.heap.size w2 v4 := hb3.trans (hbn.mono hs3); have hs4 := hb4.size; have fa4 := blk_cells ((hb4.block _ lt2).trans N2t.out); obtain ⟨⟨a0, a1, a2, a3⟩, _⟩ := fa4; have fb4 := blk_cells ((hb4.block _ lu2).trans N2u.out); obtain ⟨⟨b0, b1, b2, b3⟩, _⟩ := fb4; clear hbn)
      | (go_at_call 26; have g9 := hb2; clear g9; refine (rsame_is (H2t.out.later hb2) (H2u.out.later hb2)).mono ?_; rintro e v3 ⟨rfl, hbn⟩; have hb3 : Below w2.heap.size w2 v3 := hb2.trans (hbn.mono hs2); have hs3 := hb3.size; have fa3 := blk_cells ((hb3.block _ lt2).trans N2t.out); obtain ⟨⟨a0, a1, a2, a3⟩, _⟩ := fa3; have fb3 := blk_cells ((hb3.block _ lu2).trans N2u.out); obtain ⟨⟨b0, b1, b2, b3⟩, _⟩ := fb3; clear hbn)
      | (go_at_call 25; have g9 := hb1; clear g9; refine (same_is (H2t.out.later hb1) (H2u.out.later hb1)).mono ?_; rintro e v2 ⟨rfl, hbn⟩; have hb2 : Below w2.heap.size w2 v2 := hb1.trans (hbn.mono hs1); have hs2 := hb2.size; have fa2 := blk_cells ((hb2.block _ lt2).trans N2t.out); obtain ⟨⟨a0, a1, a2, a3⟩, _⟩ := fa2; have fb2 := blk_cells ((hb2.block _ lu2).trans N2u.out); obtain ⟨⟨b0, b1, b2, b3⟩, _⟩ := fb2; clear hbn)
      | (go_at_call 11; refine (awake_any w2.drew).mono ?_; rintro e v1 ⟨rfl, hbn⟩; have hb1 : Below w2.heap.size w2 v1 := hb0.trans (hbn.mono hs0); have hs1 := hb1.size; have fa1 := blk_cells ((hb1.block _ lt2).trans N2t.out); obtain ⟨⟨a0, a1, a2, a3⟩, _⟩ := fa1; have fb1 := blk_cells ((hb1.block _ lu2).trans N2u.out); obtain ⟨⟨b0, b1, b2, b3⟩, _⟩ := fb1; clear hbn)))
  all_goals
    go_wp2_with fail
  all_goals
    exact bodyPost_ret (v := .bool true) (by simp [results, Try.results6, go_sem]) rfl ⟨rfl, B2.out.trans (hb8.mono B2.out.size)⟩
end Go.Proofs.Ytidmbdilediplaa
