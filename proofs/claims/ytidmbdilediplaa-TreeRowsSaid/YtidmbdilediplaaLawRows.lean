/- The walk of the law TreeRows. -/
import Derived.Test.YtidmbdilediplaaIs2
namespace Go.Proofs.Ytidmbdilediplaa
open Go.RowKit Go.Deep
set_option linter.unusedVariables false
set_option linter.unusedSimpArgs false

set_option maxHeartbeats 1600000 in
set_option maxRecDepth 100000 in

theorem rows_law (W : World) {t : Pl.Tr} {r : Sl} (ht : IsT W t r) {a : Option Addr} {c : Nat} {l : List Pl.Rw} {R : Nat → Sl} (hx : TabIn (fun b => b < W.heap.size) W a l R) :
    Calls Try.prog 7 #[.agg #[.int .i64 t.kind, .string t.text, .slice r.ga t.gaps.length r.gc, .slice r.da t.kids.length r.dc], .slice a l.length c] W fun e w' => e = .returned (.bool true) ∧ Below W.heap.size W w' := by
  have HXW : Hid (IsTab W a l R) := Lib.hid hx
  clear hx
  obtain ⟨w0, hw0, nt, lt, bt⟩ := box_world W (.cells #[.int .i64 t.kind, .string t.text, .slice r.ga t.gaps.length r.gc, .slice r.da t.kids.length r.dc] 25)
  have Nt := Lib.hid nt
  have HB := Lib.hid bt
  have Ht := Lib.hid (ht.later bt)
  obtain ⟨⟨a0, a1, a2, a3⟩, _⟩ := blk_cells nt
  clear ht nt bt
  obtain ⟨u, kd, hk, hone⟩ := build_one l
  have HK := Lib.hid hk
  have HShort := Lib.hid (fun (w : World) (h : IsTab w a l R) => short_is (c := c) h)
  have HBuild := Lib.hid (fun (w : World) (h : IsTab w a l R) (hs : Sht l) => (build_is (c := c) h (by have := hs.1; omega) (fun x hx => ⟨by have := (hs.2 x hx).2; omega, by have := (hs.2 x hx).1; omega⟩)).mono (hone _))
  have HSame := Lib.hid (fun (w : World) (a2 : Option Addr) (c2 : Nat) (R2 : Nat → Sl) (h : IsTab w a2 l R2) (k : IsTab w a l R) => samerows_self (c := c2) (d := c) h k)
  have HL0 := Lib.hid (fun (hs : Sht l) (e : l = Pl.tab u 0 (-1)) => sht_lit (t := u) (e ▸ hs))
  have HRows := Lib.hid (fun (w : World) (q : Sl) (h : IsT w u q) (hs : Sht l) (e : l = Pl.tab u 0 (-1)) => rows_is h (sht_lit (t := u) (e ▸ hs)))
  obtain ⟨n, hn⟩ : ∃ n, n = l.length := ⟨_, rfl⟩
  have HLen := Lib.hid hn
  rw [← hn] at HShort HBuild HSame ⊢
  clear hn hone hk
  have HX := Lib.hid (HXW.out.later HB.out)
  go_enter Try.func7, Try.ntmps7
  go_upto_region 1 with (fail)
  rw [← hw0]
  clear hw0
  have pa := cell_past W.heap.size
  go_wp2_with (first
    | (go_at_call 10; refine (light_now Ht.out).mono ?_; rintro e w1 ⟨b, hl, rfl, hb1⟩; have HL := Lib.hid hl; obtain ⟨n1, l1⟩ := keep_box Nt.out lt hb1; have N1 := Lib.hid n1; have H1 := Lib.hid (Ht.out.later hb1); have HX1 := Lib.hid (HX.out.later hb1); have B1 := Lib.hid (HB.out.trans (hb1.mono HB.out.size)); clear a0 a1 a2 a3; obtain ⟨⟨a0, a1, a2, a3⟩, _⟩ := blk_cells n1; clear hb1 n1 hl; cases b)
    | (go_at_call 20; refine (rows_is H1.out (HL.out (by trivial))).mono ?_; rintro e w2 ⟨x2, c2, R2, rfl, hx2, hb2⟩; obtain ⟨n2, l2⟩ := keep_box N1.out l1 hb2; have N2 := Lib.hid n2; have H2 := Lib.hid (H1.out.later hb2); have HX2 := Lib.hid (HX1.out.later hb2); have HY2 := Lib.hid (show IsTab w2 _ _ _ from hx2); have B2 := Lib.hid (B1.out.trans (hb2.mono B1.out.size)); clear a0 a1 a2 a3; obtain ⟨⟨a0, a1, a2, a3⟩, _⟩ := blk_cells n2; clear hb2 n2 hx2)
    | (go_at_call 23; have g9 := HY2.out; clear g9; refine (build_tab (HL.out (by trivial)) HY2.out).mono ?_; rintro e w3 ⟨hb3, q3, hq3, rfl⟩; obtain ⟨n3, l3⟩ := keep_box N2.out l2 hb3; have N3 := Lib.hid n3; have H3 := Lib.hid (H2.out.later hb3); have HX3 := Lib.hid (HX2.out.later hb3); have HQ3 := Lib.hid hq3; have B3 := Lib.hid (B2.out.trans (hb3.mono B2.out.size)); clear a0 a1 a2 a3; obtain ⟨⟨a0, a1, a2, a3⟩, _⟩ := blk_cells n3; clear HY2 hb3 n3 hq3)
    | (go_at_call 18; refine (requal_self (HQ3.out.box _) (H3.out.box _)).mono ?_; rintro e w4 ⟨rfl, hb4⟩; obtain ⟨l4, n4, k4, b4⟩ := after_call hb4; have HX4 := Lib.hid (HX3.out.later b4); have B4 := Lib.hid (B3.out.trans (b4.mono B3.out.size)); clear hb4 n4 k4 b4)
    | (go_at_call 22; have g9 := B4.out; clear g9; refine (HShort.out _ HX4.out).mono ?_; rintro e w5 ⟨b, hs, rfl, rfl⟩; have HS := Lib.hid hs; have HX5 := HX4; have B5 := B4; clear hs; cases b)
    | (go_at_call 22; refine (HShort.out _ HX1.out).mono ?_; rintro e w5 ⟨b, hs, rfl, rfl⟩; have HS := Lib.hid hs; have HX5 := HX1; have B5 := B1; clear hs; cases b)
    | (go_at_call 23; refine (HBuild.out _ HX5.out (HS.out (by trivial))).mono ?_; rintro e w6 ⟨hb6, q6, hq6, rfl⟩; have HX6 := Lib.hid (HX5.out.later hb6); have HQ6 := Lib.hid hq6; have B6 := Lib.hid (B5.out.trans (hb6.mono B5.out.size)); clear hb6 hq6; obtain ⟨hl, hk⟩ | hk := HK.out)
    | (go_at_call 20; have g9 := HQ6.out; clear g9; refine (HRows.out _ q6 (HQ6.out.box _) (HS.out (by trivial)) hl).mono ?_; rintro e w7 ⟨x7, c7, R7, rfl, hx7, hb7⟩; obtain ⟨l7, n7, k7, b7⟩ := after_call hb7; rw [← hl, ← HLen.out]; rw [← hl] at hx7; have HX7 := Lib.hid (HX6.out.later b7); have HY7 := Lib.hid (show IsTab w7 _ _ _ from hx7); have B7 := Lib.hid (B6.out.trans (b7.mono B6.out.size)); clear hb7 n7 k7 b7 hx7)
    | (go_at_call 19; refine (HSame.out _ _ _ _ HY7.out HX7.out).mono ?_; rintro e w8 ⟨rfl, hb8⟩; have B8 := Lib.hid (B7.out.trans (hb8.mono B7.out.size)); clear hb8)
    | (go_at_call 11; have g9 := B8.out; clear g9; refine (awake_any _).mono ?_; rintro e w9 ⟨rfl, hb9⟩; have B9 := Lib.hid (B8.out.trans (hb9.mono B8.out.size)); clear hb9)
    | (go_at_call 11; have g9 := B6.out; clear g9; refine (awake_any _).mono ?_; rintro e w9 ⟨rfl, hb9⟩; obtain ⟨_, _, _, b9⟩ := after_call hb9; have B9 := Lib.hid (B6.out.trans (b9.mono B6.out.size)); clear hb9 b9)
    | (go_at_call 11; refine (awake_any _).mono ?_; rintro e w9 ⟨rfl, hb9⟩; have B9 := Lib.hid (B5.out.trans (hb9.mono B5.out.size)); clear hb9))
  all_goals
    exact bodyPost_ret (v := .bool true) (by simp [results, Try.results7, go_sem]) rfl ⟨rfl, B9.out⟩
end Go.Proofs.Ytidmbdilediplaa
