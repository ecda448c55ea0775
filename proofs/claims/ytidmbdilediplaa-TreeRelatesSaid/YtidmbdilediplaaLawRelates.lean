/- The walk of the law TreeRelates. -/
import Derived.Test.YtidmbdilediplaaIs2
namespace Go.Proofs.Ytidmbdilediplaa
open Go.RowKit Go.Deep
set_option linter.unusedVariables false
set_option linter.unusedSimpArgs false


set_option maxHeartbeats 1600000 in
set_option maxRecDepth 100000 in
theorem relates_ff (W : World) {t : Pl.Tr} {r : Sl} (ht : IsT W t r) {u : Pl.Tr} {q : Sl} (hu : IsT W u q) (hz1 : sameT t u = false) (hz2 : eqT t u = false) :
    Calls Try.prog 9 #[.agg #[.int .i64 t.kind, .string t.text, .slice r.ga t.gaps.length r.gc, .slice r.da t.kids.length r.dc], .agg #[.int .i64 u.kind, .string u.text, .slice q.ga u.gaps.length q.gc, .slice q.da u.kids.length q.dc]] W fun e w' => e = .returned (.bool true) ∧ Below W.heap.size W w' := by
  obtain ⟨wa, hwa, nt, lt, bt⟩ := box_world W (.cells #[.int .i64 t.kind, .string t.text, .slice r.ga t.gaps.length r.gc, .slice r.da t.kids.length r.dc] 25)
  obtain ⟨w0, hw0, nu, lu, bu⟩ := box_world wa (.cells #[.int .i64 u.kind, .string u.text, .slice q.ga u.gaps.length q.gc, .slice q.da u.kids.length q.dc] 25)
  obtain ⟨mt, lt⟩ := keep_box nt lt bu
  have hsa : wa.heap.size = W.heap.size + 1 := by rw [hwa]; simp
  rw [hsa] at nu lu
  have Nt := Lib.hid mt
  have Nu := Lib.hid nu
  have HB := Lib.hid (bt.trans (bu.mono bt.size))
  have Ht := Lib.hid ((ht.later bt).later bu)
  have Hu := Lib.hid ((hu.later bt).later bu)
  obtain ⟨⟨a0, a1, a2, a3⟩, _⟩ := blk_cells mt
  obtain ⟨⟨b0, b1, b2, b3⟩, _⟩ := blk_cells nu
  clear ht hu nt mt nu bt bu
  have Z1 := Lib.hid hz1
  have Z2 := Lib.hid hz2
  clear hz1 hz2
  go_enter Try.func9, Try.ntmps9
  go_upto_region 1 with (fail)
  rw [← hwa, ← hw0]
  clear hwa hw0 hsa
  go_wp2_with (first
    | (go_at_call 28; refine (bare_is H8t.out (HL.out (by trivial)).sz).mono ?_; rintro e w9 ⟨qx, rfl, hqx, hbn⟩; obtain ⟨n9, lt9⟩ := keep_box N8t.out lt8 hbn; obtain ⟨m9, lu9⟩ := keep_box N8u.out lu8 hbn; have N9t := Lib.hid n9; have N9u := Lib.hid m9; have H9t := Lib.hid (H8t.out.later hbn); have H9u := Lib.hid (H8u.out.later hbn); have HX9 := Lib.hid hqx; have B9 := Lib.hid (B8.out.trans (hbn.mono B8.out.size)); clear a0 a1 a2 a3 b0 b1 b2 b3 hbn n9 m9 hqx)
    | (go_at_call 27; have g9 := B7.out; clear g9; refine (equal_self H7u.out H7u.out).mono ?_; rintro e w8 ⟨rfl, hbn⟩; obtain ⟨n8, lt8⟩ := keep_box N7t.out lt7 hbn; obtain ⟨m8, lu8⟩ := keep_box N7u.out lu7 hbn; have N8t := Lib.hid n8; have N8u := Lib.hid m8; have H8t := Lib.hid (H7t.out.later hbn); have H8u := Lib.hid (H7u.out.later hbn); have B8 := Lib.hid (B7.out.trans (hbn.mono B7.out.size)); clear a0 a1 a2 a3 b0 b1 b2 b3; obtain ⟨⟨a0, a1, a2, a3⟩, _⟩ := blk_cells n8; obtain ⟨⟨b0, b1, b2, b3⟩, _⟩ := blk_cells m8; clear hbn n8 m8)
    | (go_at_call 25; have g9 := B6.out; clear g9; refine (same_self H6t.out H6t.out).mono ?_; rintro e w7 ⟨rfl, hbn⟩; obtain ⟨n7, lt7⟩ := keep_box N6t.out lt6 hbn; obtain ⟨m7, lu7⟩ := keep_box N6u.out lu6 hbn; have N7t := Lib.hid n7; have N7u := Lib.hid m7; have H7t := Lib.hid (H6t.out.later hbn); have H7u := Lib.hid (H6u.out.later hbn); have B7 := Lib.hid (B6.out.trans (hbn.mono B6.out.size)); clear a0 a1 a2 a3 b0 b1 b2 b3; obtain ⟨⟨a0, a1, a2, a3⟩, _⟩ := blk_cells n7; obtain ⟨⟨b0, b1, b2, b3⟩, _⟩ := blk_cells m7; clear hbn n7 m7)
    | (go_at_call 27; have g9 := B5.out; clear g9; refine (equal_z (eqT_comm.trans Z2.out) H5u.out H5t.out).mono ?_; rintro e w6 ⟨rfl, hbn⟩; obtain ⟨n6, lt6⟩ := keep_box N5t.out lt5 hbn; obtain ⟨m6, lu6⟩ := keep_box N5u.out lu5 hbn; have N6t := Lib.hid n6; have N6u := Lib.hid m6; have H6t := Lib.hid (H5t.out.later hbn); have H6u := Lib.hid (H5u.out.later hbn); have B6 := Lib.hid (B5.out.trans (hbn.mono B5.out.size)); clear a0 a1 a2 a3 b0 b1 b2 b3; obtain ⟨⟨a0, a1, a2, a3⟩, _⟩ := blk_cells n6; obtain ⟨⟨b0, b1, b2, b3⟩, _⟩ := blk_cells m6; clear hbn n6 m6)
    | (go_at_call 25; have g9 := B4.out; clear g9; refine (same_z (same_comm.trans Z1.out) H4u.out H4t.out).mono ?_; rintro e w5 ⟨rfl, hbn⟩; obtain ⟨n5, lt5⟩ := keep_box N4t.out lt4 hbn; obtain ⟨m5, lu5⟩ := keep_box N4u.out lu4 hbn; have N5t := Lib.hid n5; have N5u := Lib.hid m5; have H5t := Lib.hid (H4t.out.later hbn); have H5u := Lib.hid (H4u.out.later hbn); have B5 := Lib.hid (B4.out.trans (hbn.mono B4.out.size)); clear a0 a1 a2 a3 b0 b1 b2 b3; obtain ⟨⟨a0, a1, a2, a3⟩, _⟩ := blk_cells n5; obtain ⟨⟨b0, b1, b2, b3⟩, _⟩ := blk_cells m5; clear hbn n5 m5)
    | (go_at_call 27; have g9 := B3.out; clear g9; refine (equal_z Z2.out H3t.out H3u.out).mono ?_; rintro e w4 ⟨rfl, hbn⟩; obtain ⟨n4, lt4⟩ := keep_box N3t.out lt3 hbn; obtain ⟨m4, lu4⟩ := keep_box N3u.out lu3 hbn; have N4t := Lib.hid n4; have N4u := Lib.hid m4; have H4t := Lib.hid (H3t.out.later hbn); have H4u := Lib.hid (H3u.out.later hbn); have B4 := Lib.hid (B3.out.trans (hbn.mono B3.out.size)); clear a0 a1 a2 a3 b0 b1 b2 b3; obtain ⟨⟨a0, a1, a2, a3⟩, _⟩ := blk_cells n4; obtain ⟨⟨b0, b1, b2, b3⟩, _⟩ := blk_cells m4; clear hbn n4 m4)
    | (go_at_call 25; have g9 := B2.out; clear g9; refine (same_z Z1.out H2t.out H2u.out).mono ?_; rintro e w3 ⟨rfl, hbn⟩; obtain ⟨n3, lt3⟩ := keep_box N2t.out lt2 hbn; obtain ⟨m3, lu3⟩ := keep_box N2u.out lu2 hbn; have N3t := Lib.hid n3; have N3u := Lib.hid m3; have H3t := Lib.hid (H2t.out.later hbn); have H3u := Lib.hid (H2u.out.later hbn); have B3 := Lib.hid (B2.out.trans (hbn.mono B2.out.size)); clear a0 a1 a2 a3 b0 b1 b2 b3; obtain ⟨⟨a0, a1, a2, a3⟩, _⟩ := blk_cells n3; obtain ⟨⟨b0, b1, b2, b3⟩, _⟩ := blk_cells m3; clear hbn n3 m3)
    | (go_at_call 10; have g9 := B1.out; clear g9; refine (light_now H1u.out).mono ?_; rintro e w2 ⟨b, hl, rfl, hb2⟩; have HK := Lib.hid hl; obtain ⟨n2, lt2⟩ := keep_box N1t.out lt1 hb2; obtain ⟨m2, lu2⟩ := keep_box N1u.out lu1 hb2; have N2t := Lib.hid n2; have N2u := Lib.hid m2; have H2t := Lib.hid (H1t.out.later hb2); have H2u := Lib.hid (H1u.out.later hb2); have B2 := Lib.hid (B1.out.trans (hb2.mono B1.out.size)); clear a0 a1 a2 a3 b0 b1 b2 b3; obtain ⟨⟨a0, a1, a2, a3⟩, _⟩ := blk_cells n2; obtain ⟨⟨b0, b1, b2, b3⟩, _⟩ := blk_cells m2; clear hb2 n2 m2 hl; cases b)
    | (go_at_call 10; refine (light_now Ht.out).mono ?_; rintro e w1 ⟨b, hl, rfl, hb1⟩; have HL := Lib.hid hl; obtain ⟨n1, lt1⟩ := keep_box Nt.out lt hb1; obtain ⟨m1, lu1⟩ := keep_box Nu.out lu hb1; have N1t := Lib.hid n1; have N1u := Lib.hid m1; have H1t := Lib.hid (Ht.out.later hb1); have H1u := Lib.hid (Hu.out.later hb1); have B1 := Lib.hid (HB.out.trans (hb1.mono HB.out.size)); clear a0 a1 a2 a3 b0 b1 b2 b3; obtain ⟨⟨a0, a1, a2, a3⟩, _⟩ := blk_cells n1; obtain ⟨⟨b0, b1, b2, b3⟩, _⟩ := blk_cells m1; clear hb1 n1 m1 hl; cases b)
    | (go_at_call 11; have g9 := B2.out; clear g9; refine (awake_any _).mono ?_; rintro e w3 ⟨rfl, hb3⟩; have B3 := Lib.hid (B2.out.trans (hb3.mono B2.out.size)); clear hb3)
    | (go_at_call 11; refine (awake_any _).mono ?_; rintro e w3 ⟨rfl, hb3⟩; have B3 := Lib.hid (B1.out.trans (hb3.mono B1.out.size)); clear hb3))
  · exact bodyPost_ret (v := .bool true) (by simp [results, Try.results9, go_sem]) rfl ⟨rfl, B3.out⟩
  · exact bodyPost_ret (v := .bool true) (by simp [results, Try.results9, go_sem]) rfl ⟨rfl, B3.out⟩
  obtain ⟨wx, hwx, nx, lx, bx⟩ := box_world w9 (.cells #[.int .i64 (Pl.bare t).kind, .string (Pl.bare t).text, .slice qx.ga (Pl.bare t).gaps.length qx.gc, .slice qx.da (Pl.bare t).kids.length qx.dc] 25)
  rw [← hwx]
  clear hwx
  have HL1 := Lib.hid (HL.out (by trivial))
  have HK1 := Lib.hid (HK.out (by trivial))
  obtain ⟨m1, la⟩ := keep_box N9t.out lt9 bx
  obtain ⟨m2, lb⟩ := keep_box N9u.out lu9 bx
  have NA := Lib.hid m1
  have NB := Lib.hid m2
  have NX := Lib.hid nx
  have HT := Lib.hid (H9t.out.later bx)
  have HU := Lib.hid (H9u.out.later bx)
  have HX := Lib.hid (HX9.out.later bx)
  have BX := Lib.hid (B9.out.trans (bx.mono B9.out.size))
  have ZB := Lib.hid (eqT_bare.trans Z1.out)
  clear m1 m2 nx bx HL HK
  have hb0 : Below wx.heap.size wx wx.drew := (Below.refl _ _).drew
  have hs0 := hb0.size
  have fa0 := blk_cells ((hb0.block _ la).trans NA.out)
  obtain ⟨⟨a0, a1, a2, a3⟩, _⟩ := fa0
  have fb0 := blk_cells ((hb0.block _ lb).trans NB.out)
  obtain ⟨⟨b0, b1, b2, b3⟩, _⟩ := fb0
  have fc0 := blk_cells ((hb0.block _ lx).trans NX.out)
  obtain ⟨⟨c0, c1, c2, c3⟩, _⟩ := fc0
  go_region_held3 (fun w' => w'.cell? ⟨W.heap.size, 0, none⟩ = some (.int .i64 t.kind) ∧ w'.cell? ⟨W.heap.size, 1, none⟩ = some (.string t.text) ∧ w'.cell? ⟨W.heap.size, 2, none⟩ = some (.slice r.ga t.gaps.length r.gc) ∧ w'.cell? ⟨W.heap.size, 3, none⟩ = some (.slice r.da t.kids.length r.dc) ∧ w'.cell? ⟨W.heap.size + 1, 0, none⟩ = some (.int .i64 u.kind) ∧ w'.cell? ⟨W.heap.size + 1, 1, none⟩ = some (.string u.text) ∧ w'.cell? ⟨W.heap.size + 1, 2, none⟩ = some (.slice q.ga u.gaps.length q.gc) ∧ w'.cell? ⟨W.heap.size + 1, 3, none⟩ = some (.slice q.da u.kids.length q.dc) ∧ w'.cell? ⟨w9.heap.size, 0, none⟩ = some (.int .i64 (Pl.bare t).kind) ∧ w'.cell? ⟨w9.heap.size, 1, none⟩ = some (.string (Pl.bare t).text) ∧ w'.cell? ⟨w9.heap.size, 2, none⟩ = some (.slice qx.ga (Pl.bare t).gaps.length qx.gc) ∧ w'.cell? ⟨w9.heap.size, 3, none⟩ = some (.slice qx.da (Pl.bare t).kids.length qx.dc))
    (with_reducible exact ⟨a0, a1, a2, a3, b0, b1, b2, b3, c0, c1, c2, c3⟩)
    ((first
      | (go_at_call 16; have g9 := hb6; clear g9; refine (height_is (HT.out.later hb6) HL1.out.sz).mono ?_; rintro e v7 ⟨rfl, hbn⟩; have hb7 : Below wx.heap.size wx v7 := hb6.trans (hbn.mono hs6); have hs7 := hb7.size; have fa7 := blk_cells ((hb7.block _ la).trans NA.out); obtain ⟨⟨a0, a1, a2, a3⟩, _⟩ := fa7; have fb7 := blk_cells ((hb7.block _ lb).trans NB.out); obtain ⟨⟨b0, b1, b2, b3⟩, _⟩ := fb7; have fc7 := blk_cells ((hb7.block _ lx).trans NX.out); obtain ⟨⟨c0, c1, c2, c3⟩, _⟩ := fc7; clear hbn)
      | (go_at_call 16; have g9 := hb5; clear g9; refine (height_bare (HX.out.later hb5) HL1.out.sz).mono ?_; rintro e v6 ⟨rfl, hbn⟩; have hb6 : Below wx.heap.size wx v6 := hb5.trans (hbn.mono hs5); have hs6 := hb6.size; have fa6 := blk_cells ((hb6.block _ la).trans NA.out); obtain ⟨⟨a0, a1, a2, a3⟩, _⟩ := fa6; have fb6 := blk_cells ((hb6.block _ lb).trans NB.out); obtain ⟨⟨b0, b1, b2, b3⟩, _⟩ := fb6; have fc6 := blk_cells ((hb6.block _ lx).trans NX.out); obtain ⟨⟨c0, c1, c2, c3⟩, _⟩ := fc6; clear hbn)
      | (go_at_call 14; have g9 := hb4; clear g9; refine (size_is (HT.out.later hb4) HL1.out.sz).mono ?_; rintro e v5 ⟨rfl, hbn⟩; have hb5 : Below wx.heap.size wx v5 := hb4.trans (hbn.mono hs4); have hs5 := hb5.size; have fa5 := blk_cells ((hb5.block _ la).trans NA.out); obtain ⟨⟨a0, a1, a2, a3⟩, _⟩ := fa5; have fb5 := blk_cells ((hb5.block _ lb).trans NB.out); obtain ⟨⟨b0, b1, b2, b3⟩, _⟩ := fb5; have fc5 := blk_cells ((hb5.block _ lx).trans NX.out); obtain ⟨⟨c0, c1, c2, c3⟩, _⟩ := fc5; clear hbn)
      | (go_at_call 14; have g9 := hb3; clear g9; refine (size_bare (HX.out.later hb3) HL1.out.sz).mono ?_; rintro e v4 ⟨rfl, hbn⟩; have hb4 : Below wx.heap.size wx v4 := hb3.trans (hbn.mono hs3); have hs4 := hb4.size; have fa4 := blk_cells ((hb4.block _ la).trans NA.out); obtain ⟨⟨a0, a1, a2, a3⟩, _⟩ := fa4; have fb4 := blk_cells ((hb4.block _ lb).trans NB.out); obtain ⟨⟨b0, b1, b2, b3⟩, _⟩ := fb4; have fc4 := blk_cells ((hb4.block _ lx).trans NX.out); obtain ⟨⟨c0, c1, c2, c3⟩, _⟩ := fc4; clear hbn)
      | (go_at_call 27; have g9 := hb2; clear g9; refine (equal_z ZB.out HX2.out HY.out).mono ?_; rintro e v3 ⟨rfl, hbn⟩; have hb3 : Below wx.heap.size wx v3 := hb2.trans (hbn.mono hs2); have hs3 := hb3.size; have fa3 := blk_cells ((hb3.block _ la).trans NA.out); obtain ⟨⟨a0, a1, a2, a3⟩, _⟩ := fa3; have fb3 := blk_cells ((hb3.block _ lb).trans NB.out); obtain ⟨⟨b0, b1, b2, b3⟩, _⟩ := fb3; have fc3 := blk_cells ((hb3.block _ lx).trans NX.out); obtain ⟨⟨c0, c1, c2, c3⟩, _⟩ := fc3; clear hbn)
      | (go_at_call 28; have g9 := hb1; clear g9; refine (bare_is (HU.out.later hb1) HK1.out.sz).mono ?_; rintro e v2 ⟨qy, rfl, hqy, hbn⟩; have hb2 : Below wx.heap.size wx v2 := hb1.trans (hbn.mono hs1); have hs2 := hb2.size; have fa2 := blk_cells ((hb2.block _ la).trans NA.out); obtain ⟨⟨a0, a1, a2, a3⟩, _⟩ := fa2; have fb2 := blk_cells ((hb2.block _ lb).trans NB.out); obtain ⟨⟨b0, b1, b2, b3⟩, _⟩ := fb2; have fc2 := blk_cells ((hb2.block _ lx).trans NX.out); obtain ⟨⟨c0, c1, c2, c3⟩, _⟩ := fc2; have HY := Lib.hid hqy; have HX2 := Lib.hid ((HX.out.later hb1).later hbn); clear hqy; clear hbn)
      | (go_at_call 11; refine (awake_any wx.drew).mono ?_; rintro e v1 ⟨rfl, hbn⟩; have hb1 : Below wx.heap.size wx v1 := hb0.trans (hbn.mono hs0); have hs1 := hb1.size; have fa1 := blk_cells ((hb1.block _ la).trans NA.out); obtain ⟨⟨a0, a1, a2, a3⟩, _⟩ := fa1; have fb1 := blk_cells ((hb1.block _ lb).trans NB.out); obtain ⟨⟨b0, b1, b2, b3⟩, _⟩ := fb1; have fc1 := blk_cells ((hb1.block _ lx).trans NX.out); obtain ⟨⟨c0, c1, c2, c3⟩, _⟩ := fc1; clear hbn)))
  all_goals
    go_wp2_with fail
  all_goals
    exact bodyPost_ret (v := .bool true) (by simp [results, Try.results9, go_sem]) rfl ⟨rfl, BX.out.trans (hb7.mono BX.out.size)⟩
set_option maxHeartbeats 1600000 in
set_option maxRecDepth 100000 in
theorem relates_tf (W : World) {t : Pl.Tr} {r : Sl} (ht : IsT W t r) {u : Pl.Tr} {q : Sl} (hu : IsT W u q) (hz1 : sameT t u = true) (hz2 : eqT t u = false) :
    Calls Try.prog 9 #[.agg #[.int .i64 t.kind, .string t.text, .slice r.ga t.gaps.length r.gc, .slice r.da t.kids.length r.dc], .agg #[.int .i64 u.kind, .string u.text, .slice q.ga u.gaps.length q.gc, .slice q.da u.kids.length q.dc]] W fun e w' => e = .returned (.bool true) ∧ Below W.heap.size W w' := by
  obtain ⟨wa, hwa, nt, lt, bt⟩ := box_world W (.cells #[.int .i64 t.kind, .string t.text, .slice r.ga t.gaps.length r.gc, .slice r.da t.kids.length r.dc] 25)
  obtain ⟨w0, hw0, nu, lu, bu⟩ := box_world wa (.cells #[.int .i64 u.kind, .string u.text, .slice q.ga u.gaps.length q.gc, .slice q.da u.kids.length q.dc] 25)
  obtain ⟨mt, lt⟩ := keep_box nt lt bu
  have hsa : wa.heap.size = W.heap.size + 1 := by rw [hwa]; simp
  rw [hsa] at nu lu
  have Nt := Lib.hid mt
  have Nu := Lib.hid nu
  have HB := Lib.hid (bt.trans (bu.mono bt.size))
  have Ht := Lib.hid ((ht.later bt).later bu)
  have Hu := Lib.hid ((hu.later bt).later bu)
  obtain ⟨⟨a0, a1, a2, a3⟩, _⟩ := blk_cells mt
  obtain ⟨⟨b0, b1, b2, b3⟩, _⟩ := blk_cells nu
  clear ht hu nt mt nu bt bu
  have Z1 := Lib.hid hz1
  have Z2 := Lib.hid hz2
  clear hz1 hz2
  go_enter Try.func9, Try.ntmps9
  go_upto_region 1 with (fail)
  rw [← hwa, ← hw0]
  clear hwa hw0 hsa
  go_wp2_with (first
    | (go_at_call 28; refine (bare_is H8t.out (HL.out (by trivial)).sz).mono ?_; rintro e w9 ⟨qx, rfl, hqx, hbn⟩; obtain ⟨n9, lt9⟩ := keep_box N8t.out lt8 hbn; obtain ⟨m9, lu9⟩ := keep_box N8u.out lu8 hbn; have N9t := Lib.hid n9; have N9u := Lib.hid m9; have H9t := Lib.hid (H8t.out.later hbn); have H9u := Lib.hid (H8u.out.later hbn); have HX9 := Lib.hid hqx; have B9 := Lib.hid (B8.out.trans (hbn.mono B8.out.size)); clear a0 a1 a2 a3 b0 b1 b2 b3 hbn n9 m9 hqx)
    | (go_at_call 27; have g9 := B7.out; clear g9; refine (equal_self H7u.out H7u.out).mono ?_; rintro e w8 ⟨rfl, hbn⟩; obtain ⟨n8, lt8⟩ := keep_box N7t.out lt7 hbn; obtain ⟨m8, lu8⟩ := keep_box N7u.out lu7 hbn; have N8t := Lib.hid n8; have N8u := Lib.hid m8; have H8t := Lib.hid (H7t.out.later hbn); have H8u := Lib.hid (H7u.out.later hbn); have B8 := Lib.hid (B7.out.trans (hbn.mono B7.out.size)); clear a0 a1 a2 a3 b0 b1 b2 b3; obtain ⟨⟨a0, a1, a2, a3⟩, _⟩ := blk_cells n8; obtain ⟨⟨b0, b1, b2, b3⟩, _⟩ := blk_cells m8; clear hbn n8 m8)
    | (go_at_call 25; have g9 := B6.out; clear g9; refine (same_self H6t.out H6t.out).mono ?_; rintro e w7 ⟨rfl, hbn⟩; obtain ⟨n7, lt7⟩ := keep_box N6t.out lt6 hbn; obtain ⟨m7, lu7⟩ := keep_box N6u.out lu6 hbn; have N7t := Lib.hid n7; have N7u := Lib.hid m7; have H7t := Lib.hid (H6t.out.later hbn); have H7u := Lib.hid (H6u.out.later hbn); have B7 := Lib.hid (B6.out.trans (hbn.mono B6.out.size)); clear a0 a1 a2 a3 b0 b1 b2 b3; obtain ⟨⟨a0, a1, a2, a3⟩, _⟩ := blk_cells n7; obtain ⟨⟨b0, b1, b2, b3⟩, _⟩ := blk_cells m7; clear hbn n7 m7)
    | (go_at_call 27; have g9 := B5.out; clear g9; refine (equal_z (eqT_comm.trans Z2.out) H5u.out H5t.out).mono ?_; rintro e w6 ⟨rfl, hbn⟩; obtain ⟨n6, lt6⟩ := keep_box N5t.out lt5 hbn; obtain ⟨m6, lu6⟩ := keep_box N5u.out lu5 hbn; have N6t := Lib.hid n6; have N6u := Lib.hid m6; have H6t := Lib.hid (H5t.out.later hbn); have H6u := Lib.hid (H5u.out.later hbn); have B6 := Lib.hid (B5.out.trans (hbn.mono B5.out.size)); clear a0 a1 a2 a3 b0 b1 b2 b3; obtain ⟨⟨a0, a1, a2, a3⟩, _⟩ := blk_cells n6; obtain ⟨⟨b0, b1, b2, b3⟩, _⟩ := blk_cells m6; clear hbn n6 m6)
    | (go_at_call 25; have g9 := B4.out; clear g9; refine (same_z (same_comm.trans Z1.out) H4u.out H4t.out).mono ?_; rintro e w5 ⟨rfl, hbn⟩; obtain ⟨n5, lt5⟩ := keep_box N4t.out lt4 hbn; obtain ⟨m5, lu5⟩ := keep_box N4u.out lu4 hbn; have N5t := Lib.hid n5; have N5u := Lib.hid m5; have H5t := Lib.hid (H4t.out.later hbn); have H5u := Lib.hid (H4u.out.later hbn); have B5 := Lib.hid (B4.out.trans (hbn.mono B4.out.size)); clear a0 a1 a2 a3 b0 b1 b2 b3; obtain ⟨⟨a0, a1, a2, a3⟩, _⟩ := blk_cells n5; obtain ⟨⟨b0, b1, b2, b3⟩, _⟩ := blk_cells m5; clear hbn n5 m5)
    | (go_at_call 27; have g9 := B3.out; clear g9; refine (equal_z Z2.out H3t.out H3u.out).mono ?_; rintro e w4 ⟨rfl, hbn⟩; obtain ⟨n4, lt4⟩ := keep_box N3t.out lt3 hbn; obtain ⟨m4, lu4⟩ := keep_box N3u.out lu3 hbn; have N4t := Lib.hid n4; have N4u := Lib.hid m4; have H4t := Lib.hid (H3t.out.later hbn); have H4u := Lib.hid (H3u.out.later hbn); have B4 := Lib.hid (B3.out.trans (hbn.mono B3.out.size)); clear a0 a1 a2 a3 b0 b1 b2 b3; obtain ⟨⟨a0, a1, a2, a3⟩, _⟩ := blk_cells n4; obtain ⟨⟨b0, b1, b2, b3⟩, _⟩ := blk_cells m4; clear hbn n4 m4)
    | (go_at_call 25; have g9 := B2.out; clear g9; refine (same_z Z1.out H2t.out H2u.out).mono ?_; rintro e w3 ⟨rfl, hbn⟩; obtain ⟨n3, lt3⟩ := keep_box N2t.out lt2 hbn; obtain ⟨m3, lu3⟩ := keep_box N2u.out lu2 hbn; have N3t := Lib.hid n3; have N3u := Lib.hid m3; have H3t := Lib.hid (H2t.out.later hbn); have H3u := Lib.hid (H2u.out.later hbn); have B3 := Lib.hid (B2.out.trans (hbn.mono B2.out.size)); clear a0 a1 a2 a3 b0 b1 b2 b3; obtain ⟨⟨a0, a1, a2, a3⟩, _⟩ := blk_cells n3; obtain ⟨⟨b0, b1, b2, b3⟩, _⟩ := blk_cells m3; clear hbn n3 m3)
    | (go_at_call 10; have g9 := B1.out; clear g9; refine (light_now H1u.out).mono ?_; rintro e w2 ⟨b, hl, rfl, hb2⟩; have HK := Lib.hid hl; obtain ⟨n2, lt2⟩ := keep_box N1t.out lt1 hb2; obtain ⟨m2, lu2⟩ := keep_box N1u.out lu1 hb2; have N2t := Lib.hid n2; have N2u := Lib.hid m2; have H2t := Lib.hid (H1t.out.later hb2); have H2u := Lib.hid (H1u.out.later hb2); have B2 := Lib.hid (B1.out.trans (hb2.mono B1.out.size)); clear a0 a1 a2 a3 b0 b1 b2 b3; obtain ⟨⟨a0, a1, a2, a3⟩, _⟩ := blk_cells n2; obtain ⟨⟨b0, b1, b2, b3⟩, _⟩ := blk_cells m2; clear hb2 n2 m2 hl; cases b)
    | (go_at_call 10; refine (light_now Ht.out).mono ?_; rintro e w1 ⟨b, hl, rfl, hb1⟩; have HL := Lib.hid hl; obtain ⟨n1, lt1⟩ := keep_box Nt.out lt hb1; obtain ⟨m1, lu1⟩ := keep_box Nu.out lu hb1; have N1t := Lib.hid n1; have N1u := Lib.hid m1; have H1t := Lib.hid (Ht.out.later hb1); have H1u := Lib.hid (Hu.out.later hb1); have B1 := Lib.hid (HB.out.trans (hb1.mono HB.out.size)); clear a0 a1 a2 a3 b0 b1 b2 b3; obtain ⟨⟨a0, a1, a2, a3⟩, _⟩ := blk_cells n1; obtain ⟨⟨b0, b1, b2, b3⟩, _⟩ := blk_cells m1; clear hb1 n1 m1 hl; cases b)
    | (go_at_call 11; have g9 := B2.out; clear g9; refine (awake_any _).mono ?_; rintro e w3 ⟨rfl, hb3⟩; have B3 := Lib.hid (B2.out.trans (hb3.mono B2.out.size)); clear hb3)
    | (go_at_call 11; refine (awake_any _).mono ?_; rintro e w3 ⟨rfl, hb3⟩; have B3 := Lib.hid (B1.out.trans (hb3.mono B1.out.size)); clear hb3))
  · exact bodyPost_ret (v := .bool true) (by simp [results, Try.results9, go_sem]) rfl ⟨rfl, B3.out⟩
  · exact bodyPost_ret (v := .bool true) (by simp [results, Try.results9, go_sem]) rfl ⟨rfl, B3.out⟩
  obtain ⟨wx, hwx, nx, lx, bx⟩ := box_world w9 (.cells #[.int .i64 (Pl.bare t).kind, .string (Pl.bare t).text, .slice qx.ga (Pl.bare t).gaps.length qx.gc, .slice qx.da (Pl.bare t).kids.length qx.dc] 25)
  rw [← hwx]
  clear hwx
  have HL1 := Lib.hid (HL.out (by trivial))
  have HK1 := Lib.hid (HK.out (by trivial))
  obtain ⟨m1, la⟩ := keep_box N9t.out lt9 bx
  obtain ⟨m2, lb⟩ := keep_box N9u.out lu9 bx
  have NA := Lib.hid m1
  have NB := Lib.hid m2
  have NX := Lib.hid nx
  have HT := Lib.hid (H9t.out.later bx)
  have HU := Lib.hid (H9u.out.later bx)
  have HX := Lib.hid (HX9.out.later bx)
  have BX := Lib.hid (B9.out.trans (bx.mono B9.out.size))
  have ZB := Lib.hid (eqT_bare.trans Z1.out)
  clear m1 m2 nx bx HL HK
  have hb0 : Below wx.heap.size wx wx.drew := (Below.refl _ _).drew
  have hs0 := hb0.size
  have fa0 := blk_cells ((hb0.block _ la).trans NA.out)
  obtain ⟨⟨a0, a1, a2, a3⟩, _⟩ := fa0
  have fb0 := blk_cells ((hb0.block _ lb).trans NB.out)
  obtain ⟨⟨b0, b1, b2, b3⟩, _⟩ := fb0
  have fc0 := blk_cells ((hb0.block _ lx).trans NX.out)
  obtain ⟨⟨c0, c1, c2, c3⟩, _⟩ := fc0
  go_region_held3 (fun w' => w'.cell? ⟨W.heap.size, 0, none⟩ = some (.int .i64 t.kind) ∧ w'.cell? ⟨W.heap.size, 1, none⟩ = some (.string t.text) ∧ w'.cell? ⟨W.heap.size, 2, none⟩ = some (.slice r.ga t.gaps.length r.gc) ∧ w'.cell? ⟨W.heap.size, 3, none⟩ = some (.slice r.da t.kids.length r.dc) ∧ w'.cell? ⟨W.heap.size + 1, 0, none⟩ = some (.int .i64 u.kind) ∧ w'.cell? ⟨W.heap.size + 1, 1, none⟩ = some (.string u.text) ∧ w'.cell? ⟨W.heap.size + 1, 2, none⟩ = some (.slice q.ga u.gaps.length q.gc) ∧ w'.cell? ⟨W.heap.size + 1, 3, none⟩ = some (.slice q.da u.kids.length q.dc) ∧ w'.cell? ⟨w9.heap.size, 0, none⟩ = some (.int .i64 (Pl.bare t).kind) ∧ w'.cell? ⟨w9.heap.size, 1, none⟩ = some (.string (Pl.bare t).text) ∧ w'.cell? ⟨w9.heap.size, 2, none⟩ = some (.slice qx.ga (Pl.bare t).gaps.length qx.gc) ∧ w'.cell? ⟨w9.heap.size, 3, none⟩ = some (.slice qx.da (Pl.bare t).kids.length qx.dc))
    (with_reducible exact ⟨a0, a1, a2, a3, b0, b1, b2, b3, c0, c1, c2, c3⟩)
    ((first
      | (go_at_call 16; have g9 := hb6; clear g9; refine (height_is (HT.out.later hb6) HL1.out.sz).mono ?_; rintro e v7 ⟨rfl, hbn⟩; have hb7 : Below wx.heap.size wx v7 := hb6.trans (hbn.mono hs6); have hs7 := hb7.size; have fa7 := blk_cells ((hb7.block _ la).trans NA.out); obtain ⟨⟨a0, a1, a2, a3⟩, _⟩ := fa7; have fb7 := blk_cells ((hb7.block _ lb).trans NB.out); obtain ⟨⟨b0, b1, b2, b3⟩, _⟩ := fb7; have fc7 := blk_cells ((hb7.block _ lx).trans NX.out); obtain ⟨⟨c0, c1, c2, c3⟩, _⟩ := fc7; clear hbn)
      | (go_at_call 16; have g9 := hb5; clear g9; refine (height_bare (HX.out.later hb5) HL1.out.sz).mono ?_; rintro e v6 ⟨rfl, hbn⟩; have hb6 : Below wx.heap.size wx v6 := hb5.trans (hbn.mono hs5); have hs6 := hb6.size; have fa6 := blk_cells ((hb6.block _ la).trans NA.out); obtain ⟨⟨a0, a1, a2, a3⟩, _⟩ := fa6; have fb6 := blk_cells ((hb6.block _ lb).trans NB.out); obtain ⟨⟨b0, b1, b2, b3⟩, _⟩ := fb6; have fc6 := blk_cells ((hb6.block _ lx).trans NX.out); obtain ⟨⟨c0, c1, c2, c3⟩, _⟩ := fc6; clear hbn)
      | (go_at_call 14; have g9 := hb4; clear g9; refine (size_is (HT.out.later hb4) HL1.out.sz).mono ?_; rintro e v5 ⟨rfl, hbn⟩; have hb5 : Below wx.heap.size wx v5 := hb4.trans (hbn.mono hs4); have hs5 := hb5.size; have fa5 := blk_cells ((hb5.block _ la).trans NA.out); obtain ⟨⟨a0, a1, a2, a3⟩, _⟩ := fa5; have fb5 := blk_cells ((hb5.block _ lb).trans NB.out); obtain ⟨⟨b0, b1, b2, b3⟩, _⟩ := fb5; have fc5 := blk_cells ((hb5.block _ lx).trans NX.out); obtain ⟨⟨c0, c1, c2, c3⟩, _⟩ := fc5; clear hbn)
      | (go_at_call 14; have g9 := hb3; clear g9; refine (size_bare (HX.out.later hb3) HL1.out.sz).mono ?_; rintro e v4 ⟨rfl, hbn⟩; have hb4 : Below wx.heap.size wx v4 := hb3.trans (hbn.mono hs3); have hs4 := hb4.size; have fa4 := blk_cells ((hb4.block _ la).trans NA.out); obtain ⟨⟨a0, a1, a2, a3⟩, _⟩ := fa4; have fb4 := blk_cells ((hb4.block _ lb).trans NB.out); obtain ⟨⟨b0, b1, b2, b3⟩, _⟩ := fb4; have fc4 := blk_cells ((hb4.block _ lx).trans NX.out); obtain ⟨⟨c0, c1, c2, c3⟩, _⟩ := fc4; clear hbn)
      | (go_at_call 27; have g9 := hb2; clear g9; refine (equal_z ZB.out HX2.out HY.out).mono ?_; rintro e v3 ⟨rfl, hbn⟩; have hb3 : Below wx.heap.size wx v3 := hb2.trans (hbn.mono hs2); have hs3 := hb3.size; have fa3 := blk_cells ((hb3.block _ la).trans NA.out); obtain ⟨⟨a0, a1, a2, a3⟩, _⟩ := fa3; have fb3 := blk_cells ((hb3.block _ lb).trans NB.out); obtain ⟨⟨b0, b1, b2, b3⟩, _⟩ := fb3; have fc3 := blk_cells ((hb3.block _ lx).trans NX.out); obtain ⟨⟨c0, c1, c2, c3⟩, _⟩ := fc3; clear hbn)
      | (go_at_call 28; have g9 := hb1; clear g9; refine (bare_is (HU.out.later hb1) HK1.out.sz).mono ?_; rintro e v2 ⟨qy, rfl, hqy, hbn⟩; have hb2 : Below wx.heap.size wx v2 := hb1.trans (hbn.mono hs1); have hs2 := hb2.size; have fa2 := blk_cells ((hb2.block _ la).trans NA.out); obtain ⟨⟨a0, a1, a2, a3⟩, _⟩ := fa2; have fb2 := blk_cells ((hb2.block _ lb).trans NB.out); obtain ⟨⟨b0, b1, b2, b3⟩, _⟩ := fb2; have fc2 := blk_cells ((hb2.block _ lx).trans NX.out); obtain ⟨⟨c0, c1, c2, c3⟩, _⟩ := fc2; have HY := Lib.hid hqy; have HX2 := Lib.hid ((HX.out.later hb1).later hbn); clear hqy; clear hbn)
      | (go_at_call 11; refine (awake_any wx.drew).mono ?_; rintro e v1 ⟨rfl, hbn⟩; have hb1 : Below wx.heap.size wx v1 := hb0.trans (hbn.mono hs0); have hs1 := hb1.size; have fa1 := blk_cells ((hb1.block _ la).trans NA.out); obtain ⟨⟨a0, a1, a2, a3⟩, _⟩ := fa1; have fb1 := blk_cells ((hb1.block _ lb).trans NB.out); obtain ⟨⟨b0, b1, b2, b3⟩, _⟩ := fb1; have fc1 := blk_cells ((hb1.block _ lx).trans NX.out); obtain ⟨⟨c0, c1, c2, c3⟩, _⟩ := fc1; clear hbn)))
  all_goals
    go_wp2_with fail
  all_goals
    exact bodyPost_ret (v := .bool true) (by simp [results, Try.results9, go_sem]) rfl ⟨rfl, BX.out.trans (hb7.mono BX.out.size)⟩
set_option maxHeartbeats 1600000 in
set_option maxRecDepth 100000 in
theorem relates_tt (W : World) {t : Pl.Tr} {r : Sl} (ht : IsT W t r) {u : Pl.Tr} {q : Sl} (hu : IsT W u q) (hz1 : sameT t u = true) (hz2 : eqT t u = true) :
    Calls Try.prog 9 #[.agg #[.int .i64 t.kind, .string t.text, .slice r.ga t.gaps.length r.gc, .slice r.da t.kids.length r.dc], .agg #[.int .i64 u.kind, .string u.text, .slice q.ga u.gaps.length q.gc, .slice q.da u.kids.length q.dc]] W fun e w' => e = .returned (.bool true) ∧ Below W.heap.size W w' := by
  obtain ⟨wa, hwa, nt, lt, bt⟩ := box_world W (.cells #[.int .i64 t.kind, .string t.text, .slice r.ga t.gaps.length r.gc, .slice r.da t.kids.length r.dc] 25)
  obtain ⟨w0, hw0, nu, lu, bu⟩ := box_world wa (.cells #[.int .i64 u.kind, .string u.text, .slice q.ga u.gaps.length q.gc, .slice q.da u.kids.length q.dc] 25)
  obtain ⟨mt, lt⟩ := keep_box nt lt bu
  have hsa : wa.heap.size = W.heap.size + 1 := by rw [hwa]; simp
  rw [hsa] at nu lu
  have Nt := Lib.hid mt
  have Nu := Lib.hid nu
  have HB := Lib.hid (bt.trans (bu.mono bt.size))
  have Ht := Lib.hid ((ht.later bt).later bu)
  have Hu := Lib.hid ((hu.later bt).later bu)
  obtain ⟨⟨a0, a1, a2, a3⟩, _⟩ := blk_cells mt
  obtain ⟨⟨b0, b1, b2, b3⟩, _⟩ := blk_cells nu
  clear ht hu nt mt nu bt bu
  have Z1 := Lib.hid hz1
  have Z2 := Lib.hid hz2
  clear hz1 hz2
  go_enter Try.func9, Try.ntmps9
  go_upto_region 1 with (fail)
  rw [← hwa, ← hw0]
  clear hwa hw0 hsa
  go_wp2_with (first
    | (go_at_call 28; refine (bare_is H8t.out (HL.out (by trivial)).sz).mono ?_; rintro e w9 ⟨qx, rfl, hqx, hbn⟩; obtain ⟨n9, lt9⟩ := keep_box N8t.out lt8 hbn; obtain ⟨m9, lu9⟩ := keep_box N8u.out lu8 hbn; have N9t := Lib.hid n9; have N9u := Lib.hid m9; have H9t := Lib.hid (H8t.out.later hbn); have H9u := Lib.hid (H8u.out.later hbn); have HX9 := Lib.hid hqx; have B9 := Lib.hid (B8.out.trans (hbn.mono B8.out.size)); clear a0 a1 a2 a3 b0 b1 b2 b3 hbn n9 m9 hqx)
    | (go_at_call 27; have g9 := B7.out; clear g9; refine (equal_self H7u.out H7u.out).mono ?_; rintro e w8 ⟨rfl, hbn⟩; obtain ⟨n8, lt8⟩ := keep_box N7t.out lt7 hbn; obtain ⟨m8, lu8⟩ := keep_box N7u.out lu7 hbn; have N8t := Lib.hid n8; have N8u := Lib.hid m8; have H8t := Lib.hid (H7t.out.later hbn); have H8u := Lib.hid (H7u.out.later hbn); have B8 := Lib.hid (B7.out.trans (hbn.mono B7.out.size)); clear a0 a1 a2 a3 b0 b1 b2 b3; obtain ⟨⟨a0, a1, a2, a3⟩, _⟩ := blk_cells n8; obtain ⟨⟨b0, b1, b2, b3⟩, _⟩ := blk_cells m8; clear hbn n8 m8)
    | (go_at_call 25; have g9 := B6.out; clear g9; refine (same_self H6t.out H6t.out).mono ?_; rintro e w7 ⟨rfl, hbn⟩; obtain ⟨n7, lt7⟩ := keep_box N6t.out lt6 hbn; obtain ⟨m7, lu7⟩ := keep_box N6u.out lu6 hbn; have N7t := Lib.hid n7; have N7u := Lib.hid m7; have H7t := Lib.hid (H6t.out.later hbn); have H7u := Lib.hid (H6u.out.later hbn); have B7 := Lib.hid (B6.out.trans (hbn.mono B6.out.size)); clear a0 a1 a2 a3 b0 b1 b2 b3; obtain ⟨⟨a0, a1, a2, a3⟩, _⟩ := blk_cells n7; obtain ⟨⟨b0, b1, b2, b3⟩, _⟩ := blk_cells m7; clear hbn n7 m7)
    | (go_at_call 27; have g9 := B5.out; clear g9; refine (equal_z (eqT_comm.trans Z2.out) H5u.out H5t.out).mono ?_; rintro e w6 ⟨rfl, hbn⟩; obtain ⟨n6, lt6⟩ := keep_box N5t.out lt5 hbn; obtain ⟨m6, lu6⟩ := keep_box N5u.out lu5 hbn; have N6t := Lib.hid n6; have N6u := Lib.hid m6; have H6t := Lib.hid (H5t.out.later hbn); have H6u := Lib.hid (H5u.out.later hbn); have B6 := Lib.hid (B5.out.trans (hbn.mono B5.out.size)); clear a0 a1 a2 a3 b0 b1 b2 b3; obtain ⟨⟨a0, a1, a2, a3⟩, _⟩ := blk_cells n6; obtain ⟨⟨b0, b1, b2, b3⟩, _⟩ := blk_cells m6; clear hbn n6 m6)
    | (go_at_call 25; have g9 := B4.out; clear g9; refine (same_z (same_comm.trans Z1.out) H4u.out H4t.out).mono ?_; rintro e w5 ⟨rfl, hbn⟩; obtain ⟨n5, lt5⟩ := keep_box N4t.out lt4 hbn; obtain ⟨m5, lu5⟩ := keep_box N4u.out lu4 hbn; have N5t := Lib.hid n5; have N5u := Lib.hid m5; have H5t := Lib.hid (H4t.out.later hbn); have H5u := Lib.hid (H4u.out.later hbn); have B5 := Lib.hid (B4.out.trans (hbn.mono B4.out.size)); clear a0 a1 a2 a3 b0 b1 b2 b3; obtain ⟨⟨a0, a1, a2, a3⟩, _⟩ := blk_cells n5; obtain ⟨⟨b0, b1, b2, b3⟩, _⟩ := blk_cells m5; clear hbn n5 m5)
    | (go_at_call 27; have g9 := B3.out; clear g9; refine (equal_z Z2.out H3t.out H3u.out).mono ?_; rintro e w4 ⟨rfl, hbn⟩; obtain ⟨n4, lt4⟩ := keep_box N3t.out lt3 hbn; obtain ⟨m4, lu4⟩ := keep_box N3u.out lu3 hbn; have N4t := Lib.hid n4; have N4u := Lib.hid m4; have H4t := Lib.hid (H3t.out.later hbn); have H4u := Lib.hid (H3u.out.later hbn); have B4 := Lib.hid (B3.out.trans (hbn.mono B3.out.size)); clear a0 a1 a2 a3 b0 b1 b2 b3; obtain ⟨⟨a0, a1, a2, a3⟩, _⟩ := blk_cells n4; obtain ⟨⟨b0, b1, b2, b3⟩, _⟩ := blk_cells m4; clear hbn n4 m4)
    | (go_at_call 25; have g9 := B2.out; clear g9; refine (same_z Z1.out H2t.out H2u.out).mono ?_; rintro e w3 ⟨rfl, hbn⟩; obtain ⟨n3, lt3⟩ := keep_box N2t.out lt2 hbn; obtain ⟨m3, lu3⟩ := keep_box N2u.out lu2 hbn; have N3t := Lib.hid n3; have N3u := Lib.hid m3; have H3t := Lib.hid (H2t.out.later hbn); have H3u := Lib.hid (H2u.out.later hbn); have B3 := Lib.hid (B2.out.trans (hbn.mono B2.out.size)); clear a0 a1 a2 a3 b0 b1 b2 b3; obtain ⟨⟨a0, a1, a2, a3⟩, _⟩ := blk_cells n3; obtain ⟨⟨b0, b1, b2, b3⟩, _⟩ := blk_cells m3; clear hbn n3 m3)
    | (go_at_call 10; have g9 := B1.out; clear g9; refine (light_now H1u.out).mono ?_; rintro e w2 ⟨b, hl, rfl, hb2⟩; have HK := Lib.hid hl; obtain ⟨n2, lt2⟩ := keep_box N1t.out lt1 hb2; obtain ⟨m2, lu2⟩ := keep_box N1u.out lu1 hb2; have N2t := Lib.hid n2; have N2u := Lib.hid m2; have H2t := Lib.hid (H1t.out.later hb2); have H2u := Lib.hid (H1u.out.later hb2); have B2 := Lib.hid (B1.out.trans (hb2.mono B1.out.size)); clear a0 a1 a2 a3 b0 b1 b2 b3; obtain ⟨⟨a0, a1, a2, a3⟩, _⟩ := blk_cells n2; obtain ⟨⟨b0, b1, b2, b3⟩, _⟩ := blk_cells m2; clear hb2 n2 m2 hl; cases b)
    | (go_at_call 10; refine (light_now Ht.out).mono ?_; rintro e w1 ⟨b, hl, rfl, hb1⟩; have HL := Lib.hid hl; obtain ⟨n1, lt1⟩ := keep_box Nt.out lt hb1; obtain ⟨m1, lu1⟩ := keep_box Nu.out lu hb1; have N1t := Lib.hid n1; have N1u := Lib.hid m1; have H1t := Lib.hid (Ht.out.later hb1); have H1u := Lib.hid (Hu.out.later hb1); have B1 := Lib.hid (HB.out.trans (hb1.mono HB.out.size)); clear a0 a1 a2 a3 b0 b1 b2 b3; obtain ⟨⟨a0, a1, a2, a3⟩, _⟩ := blk_cells n1; obtain ⟨⟨b0, b1, b2, b3⟩, _⟩ := blk_cells m1; clear hb1 n1 m1 hl; cases b)
    | (go_at_call 11; have g9 := B2.out; clear g9; refine (awake_any _).mono ?_; rintro e w3 ⟨rfl, hb3⟩; have B3 := Lib.hid (B2.out.trans (hb3.mono B2.out.size)); clear hb3)
    | (go_at_call 11; refine (awake_any _).mono ?_; rintro e w3 ⟨rfl, hb3⟩; have B3 := Lib.hid (B1.out.trans (hb3.mono B1.out.size)); clear hb3))
  · exact bodyPost_ret (v := .bool true) (by simp [results, Try.results9, go_sem]) rfl ⟨rfl, B3.out⟩
  · exact bodyPost_ret (v := .bool true) (by simp [results, Try.results9, go_sem]) rfl ⟨rfl, B3.out⟩
  obtain ⟨wx, hwx, nx, lx, bx⟩ := box_world w9 (.cells #[.int .i64 (Pl.bare t).kind, .string (Pl.bare t).text, .slice qx.ga (Pl.bare t).gaps.length qx.gc, .slice qx.da (Pl.bare t).kids.length qx.dc] 25)
  rw [← hwx]
  clear hwx
  have HL1 := Lib.hid (HL.out (by trivial))
  have HK1 := Lib.hid (HK.out (by trivial))
  obtain ⟨m1, la⟩ := keep_box N9t.out lt9 bx
  obtain ⟨m2, lb⟩ := keep_box N9u.out lu9 bx
  have NA := Lib.hid m1
  have NB := Lib.hid m2
  have NX := Lib.hid nx
  have HT := Lib.hid (H9t.out.later bx)
  have HU := Lib.hid (H9u.out.later bx)
  have HX := Lib.hid (HX9.out.later bx)
  have BX := Lib.hid (B9.out.trans (bx.mono B9.out.size))
  have ZB := Lib.hid (eqT_bare.trans Z1.out)
  clear m1 m2 nx bx HL HK
  have hb0 : Below wx.heap.size wx wx.drew := (Below.refl _ _).drew
  have hs0 := hb0.size
  have fa0 := blk_cells ((hb0.block _ la).trans NA.out)
  obtain ⟨⟨a0, a1, a2, a3⟩, _⟩ := fa0
  have fb0 := blk_cells ((hb0.block _ lb).trans NB.out)
  obtain ⟨⟨b0, b1, b2, b3⟩, _⟩ := fb0
  have fc0 := blk_cells ((hb0.block _ lx).trans NX.out)
  obtain ⟨⟨c0, c1, c2, c3⟩, _⟩ := fc0
  go_region_held3 (fun w' => w'.cell? ⟨W.heap.size, 0, none⟩ = some (.int .i64 t.kind) ∧ w'.cell? ⟨W.heap.size, 1, none⟩ = some (.string t.text) ∧ w'.cell? ⟨W.heap.size, 2, none⟩ = some (.slice r.ga t.gaps.length r.gc) ∧ w'.cell? ⟨W.heap.size, 3, none⟩ = some (.slice r.da t.kids.length r.dc) ∧ w'.cell? ⟨W.heap.size + 1, 0, none⟩ = some (.int .i64 u.kind) ∧ w'.cell? ⟨W.heap.size + 1, 1, none⟩ = some (.string u.text) ∧ w'.cell? ⟨W.heap.size + 1, 2, none⟩ = some (.slice q.ga u.gaps.length q.gc) ∧ w'.cell? ⟨W.heap.size + 1, 3, none⟩ = some (.slice q.da u.kids.length q.dc) ∧ w'.cell? ⟨w9.heap.size, 0, none⟩ = some (.int .i64 (Pl.bare t).kind) ∧ w'.cell? ⟨w9.heap.size, 1, none⟩ = some (.string (Pl.bare t).text) ∧ w'.cell? ⟨w9.heap.size, 2, none⟩ = some (.slice qx.ga (Pl.bare t).gaps.length qx.gc) ∧ w'.cell? ⟨w9.heap.size, 3, none⟩ = some (.slice qx.da (Pl.bare t).kids.length qx.dc))
    (with_reducible exact ⟨a0, a1, a2, a3, b0, b1, b2, b3, c0, c1, c2, c3⟩)
    ((first
      | (go_at_call 16; have g9 := hb6; clear g9; refine (height_is (HT.out.later hb6) HL1.out.sz).mono ?_; rintro e v7 ⟨rfl, hbn⟩; have hb7 : Below wx.heap.size wx v7 := hb6.trans (hbn.mono hs6); have hs7 := hb7.size; have fa7 := blk_cells ((hb7.block _ la).trans NA.out); obtain ⟨⟨a0, a1, a2, a3⟩, _⟩ := fa7; have fb7 := blk_cells ((hb7.block _ lb).trans NB.out); obtain ⟨⟨b0, b1, b2, b3⟩, _⟩ := fb7; have fc7 := blk_cells ((hb7.block _ lx).trans NX.out); obtain ⟨⟨c0, c1, c2, c3⟩, _⟩ := fc7; clear hbn)
      | (go_at_call 16; have g9 := hb5; clear g9; refine (height_bare (HX.out.later hb5) HL1.out.sz).mono ?_; rintro e v6 ⟨rfl, hbn⟩; have hb6 : Below wx.heap.size wx v6 := hb5.trans (hbn.mono hs5); have hs6 := hb6.size; have fa6 := blk_cells ((hb6.block _ la).trans NA.out); obtain ⟨⟨a0, a1, a2, a3⟩, _⟩ := fa6; have fb6 := blk_cells ((hb6.block _ lb).trans NB.out); obtain ⟨⟨b0, b1, b2, b3⟩, _⟩ := fb6; have fc6 := blk_cells ((hb6.block _ lx).trans NX.out); obtain ⟨⟨c0, c1, c2, c3⟩, _⟩ := fc6; clear hbn)
      | (go_at_call 14; have g9 := hb4; clear g9; refine (size_is (HT.out.later hb4) HL1.out.sz).mono ?_; rintro e v5 ⟨rfl, hbn⟩; have hb5 : Below wx.heap.size wx v5 := hb4.trans (hbn.mono hs4); have hs5 := hb5.size; have fa5 := blk_cells ((hb5.block _ la).trans NA.out); obtain ⟨⟨a0, a1, a2, a3⟩, _⟩ := fa5; have fb5 := blk_cells ((hb5.block _ lb).trans NB.out); obtain ⟨⟨b0, b1, b2, b3⟩, _⟩ := fb5; have fc5 := blk_cells ((hb5.block _ lx).trans NX.out); obtain ⟨⟨c0, c1, c2, c3⟩, _⟩ := fc5; clear hbn)
      | (go_at_call 14; have g9 := hb3; clear g9; refine (size_bare (HX.out.later hb3) HL1.out.sz).mono ?_; rintro e v4 ⟨rfl, hbn⟩; have hb4 : Below wx.heap.size wx v4 := hb3.trans (hbn.mono hs3); have hs4 := hb4.size; have fa4 := blk_cells ((hb4.block _ la).trans NA.out); obtain ⟨⟨a0, a1, a2, a3⟩, _⟩ := fa4; have fb4 := blk_cells ((hb4.block _ lb).trans NB.out); obtain ⟨⟨b0, b1, b2, b3⟩, _⟩ := fb4; have fc4 := blk_cells ((hb4.block _ lx).trans NX.out); obtain ⟨⟨c0, c1, c2, c3⟩, _⟩ := fc4; clear hbn)
      | (go_at_call 27; have g9 := hb2; clear g9; refine (equal_z ZB.out HX2.out HY.out).mono ?_; rintro e v3 ⟨rfl, hbn⟩; have hb3 : Below wx.heap.size wx v3 := hb2.trans (hbn.mono hs2); have hs3 := hb3.size; have fa3 := blk_cells ((hb3.block _ la).trans NA.out); obtain ⟨⟨a0, a1, a2, a3⟩, _⟩ := fa3; have fb3 := blk_cells ((hb3.block _ lb).trans NB.out); obtain ⟨⟨b0, b1, b2, b3⟩, _⟩ := fb3; have fc3 := blk_cells ((hb3.block _ lx).trans NX.out); obtain ⟨⟨c0, c1, c2, c3⟩, _⟩ := fc3; clear hbn)
      | (go_at_call 28; have g9 := hb1; clear g9; refine (bare_is (HU.out.later hb1) HK1.out.sz).mono ?_; rintro e v2 ⟨qy, rfl, hqy, hbn⟩; have hb2 : Below wx.heap.size wx v2 := hb1.trans (hbn.mono hs1); have hs2 := hb2.size; have fa2 := blk_cells ((hb2.block _ la).trans NA.out); obtain ⟨⟨a0, a1, a2, a3⟩, _⟩ := fa2; have fb2 := blk_cells ((hb2.block _ lb).trans NB.out); obtain ⟨⟨b0, b1, b2, b3⟩, _⟩ := fb2; have fc2 := blk_cells ((hb2.block _ lx).trans NX.out); obtain ⟨⟨c0, c1, c2, c3⟩, _⟩ := fc2; have HY := Lib.hid hqy; have HX2 := Lib.hid ((HX.out.later hb1).later hbn); clear hqy; clear hbn)
      | (go_at_call 11; refine (awake_any wx.drew).mono ?_; rintro e v1 ⟨rfl, hbn⟩; have hb1 : Below wx.heap.size wx v1 := hb0.trans (hbn.mono hs0); have hs1 := hb1.size; have fa1 := blk_cells ((hb1.block _ la).trans NA.out); obtain ⟨⟨a0, a1, a2, a3⟩, _⟩ := fa1; have fb1 := blk_cells ((hb1.block _ lb).trans NB.out); obtain ⟨⟨b0, b1, b2, b3⟩, _⟩ := fb1; have fc1 := blk_cells ((hb1.block _ lx).trans NX.out); obtain ⟨⟨c0, c1, c2, c3⟩, _⟩ := fc1; clear hbn)))
  all_goals
    go_wp2_with fail
  all_goals
    exact bodyPost_ret (v := .bool true) (by simp [results, Try.results9, go_sem]) rfl ⟨rfl, BX.out.trans (hb7.mono BX.out.size)⟩
theorem relates_law (W : World) {t : Pl.Tr} {r : Sl} (ht : IsT W t r) {u : Pl.Tr} {q : Sl} (hu : IsT W u q) :
    Calls Try.prog 9 #[.agg #[.int .i64 t.kind, .string t.text, .slice r.ga t.gaps.length r.gc, .slice r.da t.kids.length r.dc], .agg #[.int .i64 u.kind, .string u.text, .slice q.ga u.gaps.length q.gc, .slice q.da u.kids.length q.dc]] W fun e w' => e = .returned (.bool true) ∧ Below W.heap.size W w' := by
  cases hz1 : sameT t u with
  | false =>
    cases hz2 : eqT t u with
    | false => exact relates_ff W ht hu hz1 hz2
    | true => rw [eq_same hz2] at hz1; cases hz1
  | true =>
    cases hz2 : eqT t u with
    | false => exact relates_tf W ht hu hz1 hz2
    | true => exact relates_tt W ht hu hz1 hz2
end Go.Proofs.Ytidmbdilediplaa
