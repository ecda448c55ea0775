/- The walk of the law TreeNumbers. -/
import Derived.Test.YtidmbdilediplaaIs2
namespace Go.Proofs.Ytidmbdilediplaa
open Go.RowKit Go.Deep
set_option linter.unusedVariables false
set_option linter.unusedSimpArgs false

theorem at_no {w : World} {t : Pl.Tr} {r : Sl} (h : IsT w t r) (hl : Lit t) (i : Int) (hi : i ≤ 9223372036854775807) (hno : i < 0 ∨ (Pl.sz t : Int) ≤ i) : Calls Try.prog 12 #[.agg #[.int .i64 t.kind, .string t.text, .slice r.ga t.gaps.length r.gc, .slice r.da t.kids.length r.dc], .int .i64 i] w fun e w' =>
    e = .returned (.tuple #[.agg #[.int .i64 0, .string ⟨#[]⟩, .slice none 0 0, .slice none 0 0], .bool false]) ∧ Below w.heap.size w w' := by
  refine (at_is h hl i hi).mono ?_
  rintro e w' ⟨hb, ⟨n, u, q, rfl, hu, _, _⟩ | ⟨_, rfl⟩⟩
  · have := (List.getElem?_eq_some_iff.1 hu).1
    rw [Pl.pre_len] at this
    omega
  · exact ⟨rfl, hb⟩
theorem at_yes {w : World} {t u : Pl.Tr} {r : Sl} (h : IsT w t r) (hl : Lit t) (i : Int) (n : Nat) (hin : i = n) (hu : (Pl.pre t)[n]? = some u) : Calls Try.prog 12 #[.agg #[.int .i64 t.kind, .string t.text, .slice r.ga t.gaps.length r.gc, .slice r.da t.kids.length r.dc], .int .i64 i] w fun e w' =>
    ∃ q : Sl, e = .returned (.tuple #[.agg #[.int .i64 u.kind, .string u.text, .slice q.ga u.gaps.length q.gc, .slice q.da u.kids.length q.dc], .bool true]) ∧ IsT w' u q ∧ Below w.heap.size w w' := by
  have hn := (List.getElem?_eq_some_iff.1 hu).1
  rw [Pl.pre_len] at hn
  have := hl.1
  refine (at_is h hl i (by omega)).mono ?_
  rintro e w' ⟨hb, ⟨m, v, q, hm, hv, hq, rfl⟩ | ⟨hno, _⟩⟩
  · obtain rfl : m = n := by omega
    rw [hu] at hv
    cases hv
    exact ⟨q, rfl, hq, hb⟩
  · omega
theorem requal_z {w : World} {t u : Pl.Tr} {r q : Sl} {z : Bool} (hz : eqT t u = z) (h : IsT w t r) (k : IsT w u q) : Calls Try.prog 18 #[.agg #[.int .i64 t.kind, .string t.text, .slice r.ga t.gaps.length r.gc, .slice r.da t.kids.length r.dc], .agg #[.int .i64 u.kind, .string u.text, .slice q.ga u.gaps.length q.gc, .slice q.da u.kids.length q.dc]] w fun e w' => e = .returned (.bool z) ∧ Below w.heap.size w w' :=
  (requal_is h k).mono fun e w' ⟨he, hb⟩ => ⟨by rw [he, hz], hb⟩
theorem isT_parts {w : World} {t : Pl.Tr} {r : Sl} (h : IsT w t r) : ∃ R : Nat → Sl, Lies (fun b => b < w.heap.size) w t.kids r.da R ∧ ∀ (j : Nat) u, t.kids[j]? = some u → IsT w u (R j) := by
  cases h with
  | mk _ _ R hs hg hl hk hr => exact ⟨R, hk, hr⟩
theorem sz_kids (u : Pl.Tr) : Pl.sz u = Pl.szs u.kids + 1 ∧ u.kids.length ≤ Pl.szs u.kids := by
  cases u with
  | node k s g ks => exact ⟨by show Pl.sz (.node k s g ks) = Pl.szs ks + 1; rw [Pl.sz], Pl.len_szs ks⟩

set_option maxHeartbeats 1600000 in
set_option maxRecDepth 100000 in
theorem numbers_neg (i : Int) (W : World) {t : Pl.Tr} {r : Sl} (ht : IsT W t r) (hi : i ≤ 9223372036854775807 ∧ -9223372036854775808 ≤ i) (hn : i < 0) :
    Calls Try.prog 8 #[.agg #[.int .i64 t.kind, .string t.text, .slice r.ga t.gaps.length r.gc, .slice r.da t.kids.length r.dc], .int .i64 i] W fun e w' => e = .returned (.bool true) ∧ Below W.heap.size W w' := by
  obtain ⟨w0, hw0, nt, lt, bt⟩ := box_world W (.cells #[.int .i64 t.kind, .string t.text, .slice r.ga t.gaps.length r.gc, .slice r.da t.kids.length r.dc] 25)
  have Nt := Lib.hid nt
  have HB := Lib.hid bt
  have Ht := Lib.hid (ht.later bt)
  obtain ⟨⟨a0, a1, a2, a3⟩, _⟩ := blk_cells nt
  clear ht nt bt
  have HNO := Lib.hid (show i < 0 ∨ (Pl.sz t : Int) ≤ i from .inl hn)
  have hi1 := hi.1
  clear hi
  go_enter Try.func8, Try.ntmps8
  go_upto_region 1 with (fail)
  rw [← hw0]
  clear hw0
  have pa := cell_past W.heap.size
  go_wp2_with (first
    | (go_at_call 10; refine (light_now Ht.out).mono ?_; rintro e w1 ⟨b, hl, rfl, hb1⟩; have HL := Lib.hid hl; obtain ⟨n1, l1⟩ := keep_box Nt.out lt hb1; have N1 := Lib.hid n1; have H1 := Lib.hid (Ht.out.later hb1); have B1 := Lib.hid (HB.out.trans (hb1.mono HB.out.size)); clear a0 a1 a2 a3; obtain ⟨⟨a0, a1, a2, a3⟩, _⟩ := blk_cells n1; clear hb1 n1 hl; cases b)
    | (go_at_call 12; refine (at_no H1.out (HL.out (by trivial)) i hi1 HNO.out).mono ?_; rintro e w2 ⟨rfl, hb2⟩; obtain ⟨n2, l2⟩ := keep_box N1.out l1 hb2; have N2 := Lib.hid n2; have H2 := Lib.hid (H1.out.later hb2); have B2 := Lib.hid (B1.out.trans (hb2.mono B1.out.size)); clear a0 a1 a2 a3; obtain ⟨⟨a0, a1, a2, a3⟩, _⟩ := blk_cells n2; clear hb2 n2)
    | (go_at_call 11; have g9 := B2.out; clear g9; refine (awake_any _).mono ?_; rintro e w3 ⟨rfl, hb3⟩; obtain ⟨l3, n3, k3, b3⟩ := after_call hb3; have BZ := Lib.hid (B2.out.trans (b3.mono B2.out.size)); obtain ⟨⟨c0, c1, c2, c3⟩, _⟩ := blk_cells n3; clear hb3 n3 k3 b3)
    | (go_at_call 11; refine (awake_any _).mono ?_; rintro e wz ⟨rfl, hbz⟩; have BZ := Lib.hid (B1.out.trans (hbz.mono B1.out.size)); clear hbz))
  all_goals
    exact bodyPost_ret (v := .bool true) (by simp [results, Try.results8, go_sem]) rfl ⟨rfl, BZ.out⟩
set_option maxHeartbeats 1600000 in
set_option maxRecDepth 100000 in
theorem numbers_big (i : Int) (W : World) {t : Pl.Tr} {r : Sl} (ht : IsT W t r) (hi : i ≤ 9223372036854775807 ∧ -9223372036854775808 ≤ i) (h0 : 0 ≤ i) (hn : (Pl.sz t : Int) ≤ i) :
    Calls Try.prog 8 #[.agg #[.int .i64 t.kind, .string t.text, .slice r.ga t.gaps.length r.gc, .slice r.da t.kids.length r.dc], .int .i64 i] W fun e w' => e = .returned (.bool true) ∧ Below W.heap.size W w' := by
  obtain ⟨w0, hw0, nt, lt, bt⟩ := box_world W (.cells #[.int .i64 t.kind, .string t.text, .slice r.ga t.gaps.length r.gc, .slice r.da t.kids.length r.dc] 25)
  have Nt := Lib.hid nt
  have HB := Lib.hid bt
  have Ht := Lib.hid (ht.later bt)
  obtain ⟨⟨a0, a1, a2, a3⟩, _⟩ := blk_cells nt
  clear ht nt bt
  have HNO := Lib.hid (show i < 0 ∨ (Pl.sz t : Int) ≤ i from .inr hn)
  have hi1 := hi.1
  clear hi
  go_enter Try.func8, Try.ntmps8
  go_upto_region 1 with (fail)
  rw [← hw0]
  clear hw0
  have pa := cell_past W.heap.size
  go_wp2_with (first
    | (go_at_call 10; refine (light_now Ht.out).mono ?_; rintro e w1 ⟨b, hl, rfl, hb1⟩; have HL := Lib.hid hl; obtain ⟨n1, l1⟩ := keep_box Nt.out lt hb1; have N1 := Lib.hid n1; have H1 := Lib.hid (Ht.out.later hb1); have B1 := Lib.hid (HB.out.trans (hb1.mono HB.out.size)); clear a0 a1 a2 a3; obtain ⟨⟨a0, a1, a2, a3⟩, _⟩ := blk_cells n1; clear hb1 n1 hl; cases b)
    | (go_at_call 12; refine (at_no H1.out (HL.out (by trivial)) i hi1 HNO.out).mono ?_; rintro e w2 ⟨rfl, hb2⟩; obtain ⟨n2, l2⟩ := keep_box N1.out l1 hb2; have N2 := Lib.hid n2; have H2 := Lib.hid (H1.out.later hb2); have B2 := Lib.hid (B1.out.trans (hb2.mono B1.out.size)); clear a0 a1 a2 a3; obtain ⟨⟨a0, a1, a2, a3⟩, _⟩ := blk_cells n2; clear hb2 n2)
    | (go_at_call 14; refine (size_is (H2.out.box _) (HL.out (by trivial)).sz).mono ?_; rintro e w3 ⟨rfl, hb3⟩; obtain ⟨l3, n3, k3, b3⟩ := after_call hb3; have N3 := Lib.hid n3; have B3 := Lib.hid (B2.out.trans (b3.mono B2.out.size)); clear hb3 n3 k3 b3)
    | (go_at_call 11; have g9 := B3.out; clear g9; refine (awake_any _).mono ?_; rintro e w4 ⟨rfl, hb4⟩; obtain ⟨n4, l4⟩ := keep_box N3.out l3 hb4; have BZ := Lib.hid (B3.out.trans (hb4.mono B3.out.size)); obtain ⟨⟨c0, c1, c2, c3⟩, _⟩ := blk_cells n4; clear hb4 n4)
    | (go_at_call 11; refine (awake_any _).mono ?_; rintro e wz ⟨rfl, hbz⟩; have BZ := Lib.hid (B1.out.trans (hbz.mono B1.out.size)); clear hbz))
  all_goals
    exact bodyPost_ret (v := .bool true) (by simp [results, Try.results8, go_sem]) rfl ⟨rfl, BZ.out⟩
set_option maxHeartbeats 1600000 in
set_option maxRecDepth 100000 in
theorem numbers_root (W : World) {t u : Pl.Tr} {r : Sl} (ht : IsT W t r) (hu : (Pl.pre t)[0]? = some u) (hut : eqT u t = true) :
    Calls Try.prog 8 #[.agg #[.int .i64 t.kind, .string t.text, .slice r.ga t.gaps.length r.gc, .slice r.da t.kids.length r.dc], .int .i64 0] W fun e w' => e = .returned (.bool true) ∧ Below W.heap.size W w' := by
  obtain ⟨w0, hw0, nt, lt, bt⟩ := box_world W (.cells #[.int .i64 t.kind, .string t.text, .slice r.ga t.gaps.length r.gc, .slice r.da t.kids.length r.dc] 25)
  have Nt := Lib.hid nt
  have HB := Lib.hid bt
  have Ht := Lib.hid (ht.later bt)
  obtain ⟨⟨a0, a1, a2, a3⟩, _⟩ := blk_cells nt
  clear ht nt bt
  have HPU := Lib.hid hu
  have hsub := (Pl.pre_sub t 0 u hu).1
  have hsk := sz_kids u
  have hlt0 : (0 : Int) < (Pl.sz t : Int) := by have := hsk.1; omega
  have hd0 : decide (0 < Pl.sz t) = true := decide_eq_true (by omega)
  have HUT := Lib.hid hut
  clear hut
  clear hu
  go_enter Try.func8, Try.ntmps8
  go_upto_region 1 with (fail)
  rw [← hw0]
  clear hw0
  have pa := cell_past W.heap.size
  go_wp2_with (first
    | (go_at_call 10; refine (light_now Ht.out).mono ?_; rintro e w1 ⟨b, hl, rfl, hb1⟩; have HL := Lib.hid hl; obtain ⟨n1, l1⟩ := keep_box Nt.out lt hb1; have N1 := Lib.hid n1; have H1 := Lib.hid (Ht.out.later hb1); have B1 := Lib.hid (HB.out.trans (hb1.mono HB.out.size)); clear a0 a1 a2 a3; obtain ⟨⟨a0, a1, a2, a3⟩, _⟩ := blk_cells n1; clear hb1 n1 hl; cases b)
    | (go_at_call 12; refine (at_yes H1.out (HL.out (by trivial)) _ 0 (by first | rfl | omega) HPU.out).mono ?_; rintro e w2 ⟨q, rfl, hq, hb2⟩; obtain ⟨n2, l2⟩ := keep_box N1.out l1 hb2; have N2 := Lib.hid n2; have H2 := Lib.hid (H1.out.later hb2); have HQ2 := Lib.hid hq; have hsz := (HL.out (by trivial)).1; have B2 := Lib.hid (B1.out.trans (hb2.mono B1.out.size)); clear a0 a1 a2 a3; obtain ⟨⟨a0, a1, a2, a3⟩, _⟩ := blk_cells n2; clear hb2 n2 hq)
    | (go_at_call 14; refine (size_is (H2.out.box _) (HL.out (by trivial)).sz).mono ?_; rintro e w3 ⟨rfl, hb3⟩; obtain ⟨l3, n3, k3, b3⟩ := after_call hb3; have NK3 := Lib.hid n3; have NT3 := Lib.hid ((k3 _ l2).trans N2.out); have lt3 := Nat.lt_trans l2 l3; have H3 := Lib.hid (H2.out.later b3); have HQ3 := Lib.hid (HQ2.out.later b3); have B3 := Lib.hid (B2.out.trans (b3.mono B2.out.size)); clear a0 a1 a2 a3; obtain ⟨⟨c0, c1, c2, c3⟩, _⟩ := blk_cells n3; obtain ⟨⟨a0, a1, a2, a3⟩, _⟩ := blk_cells NT3.out; clear hb3 n3 k3 b3)
    | (go_at_call 18; refine (requal_z HUT.out HQ3.out H3.out).mono ?_; rintro e wb ⟨rfl, hb4⟩; obtain ⟨n4, l4⟩ := keep_box NK3.out l3 hb4; obtain ⟨m4, lt4⟩ := keep_box NT3.out lt3 hb4; have NK4 := Lib.hid n4; have NT4 := Lib.hid m4; have H4 := Lib.hid (H3.out.later hb4); have HQ4 := Lib.hid (HQ3.out.later hb4); have B4 := Lib.hid (B3.out.trans (hb4.mono B3.out.size)); clear a0 a1 a2 a3 c0 c1 c2 c3; obtain ⟨⟨c0, c1, c2, c3⟩, _⟩ := blk_cells n4; obtain ⟨⟨a0, a1, a2, a3⟩, _⟩ := blk_cells m4; clear hb4 n4 m4)
    | (go_at_call 11; refine (awake_any _).mono ?_; rintro e wz ⟨rfl, hbz⟩; have BZ := Lib.hid (B1.out.trans (hbz.mono B1.out.size)); clear hbz))
  · exact bodyPost_ret (v := .bool true) (by simp [results, Try.results8, go_sem]) rfl ⟨rfl, BZ.out⟩
  have NK := NK4
  have NT := NT4
  have HT := H4
  have HQ := HQ4
  have BB := B4
  have lk := l4
  have lt9 := lt4
  have HLt := Lib.hid (HL.out (by trivial))
  obtain ⟨R, hlies, hkids⟩ := isT_parts HQ.out
  have HLies := Lib.hid hlies
  have HKids := Lib.hid hkids
  have hul : u.kids.length ≤ 400 := by omega
  have hsk1 := hsk.1
  clear hlies hkids HL pa a0 a1 a2 a3 hsk
  go_loopw [7, 8] (fun s jv wr => ∃ j : Nat, j ≤ u.kids.length ∧ jv = .int .i64 j ∧ s = .int .i64 ((0 + 1 + Pl.szs (u.kids.take j) : Nat) : Int) ∧ Below wb.heap.size wb wr) (fun _ jv _ => u.kids.length - (intOf jv).toNat)
  case atStart => exact ⟨0, Nat.zero_le _, rfl, by simp [Pl.szs], Below.refl _ _⟩
  case round =>
    obtain ⟨j, hj, rfl, rfl, hbel⟩ := hrel
    obtain ⟨nk, lkr⟩ := keep_box NK.out lk hbel
    obtain ⟨nt, ltr⟩ := keep_box NT.out lt9 hbel
    have NKr := Lib.hid nk
    have NTr := Lib.hid nt
    have HTr := Lib.hid (HT.out.later hbel)
    have HQr := Lib.hid (HQ.out.later hbel)
    have HB := Lib.hid hbel
    clear c0 c1 c2 c3
    obtain ⟨⟨c0, c1, c2, c3⟩, _⟩ := blk_cells nk
    obtain ⟨⟨a0, a1, a2, a3⟩, _⟩ := blk_cells nt
    have hsl := Pl.szs_take_le u.kids j
    clear nk nt hbel
    by_cases hlt : j < u.kids.length
    · have hv := List.getElem?_eq_getElem hlt
      have HP := Lib.hid (Pl.pre_kid t 0 u HPU.out j hlt)
      have HTk := Lib.hid (Pl.szs_take u.kids j hlt)
      have hst := Pl.szs_step u.kids j hlt
      have HKv := Lib.hid (HKids.out j _ hv)
      rcases HLies.out with h0 | ⟨b, ob, hda, hbb, hat⟩
      · rw [h0] at hlt; simp at hlt
      have A1 := Lib.hid (hat j _ hv)
      generalize u.kids[j] = v at *
      rw [hda] at c3
      have HDA := Lib.hid hda
      clear hda
      clear hv hat
      go_wp2_with (go_at_call 12; refine (at_yes HTr.out HLt.out _ (0 + 1 + Pl.szs (u.kids.take j)) (by first | rfl | omega) HP.out).mono ?_; rintro e w5 ⟨qx, rfl, hqx, hb5⟩; obtain ⟨n5, lk5⟩ := keep_box NKr.out lkr hb5; have NK5 := Lib.hid n5; have HX5 := Lib.hid hqx; have HB5 := Lib.hid (HB.out.trans (hb5.mono HB.out.size)); clear n5 hqx hb5)
      obtain ⟨wx, hwx, nx, lx, bx⟩ := box_world w5 (.cells #[.int .i64 v.kind, .string v.text, .slice qx.ga v.gaps.length qx.gc, .slice qx.da v.kids.length qx.dc] 25)
      rw [← hwx]
      clear hwx a0 a1 a2 a3 c0 c1 c2 c3
      obtain ⟨nkx, lkx⟩ := keep_box NK5.out lk5 bx
      have HBx := Lib.hid (HB5.out.trans (bx.mono HB5.out.size))
      have HX := Lib.hid (HX5.out.later bx)
      have HKx := Lib.hid (HKv.out.later HBx.out)
      have A2 := Lib.hid (At4.keep A1.out (Same.below HBx.out (fun _ h => h)) hbb)
      have X1 : Hid (At4 wx w5.heap.size 0 v.kind v.text (.slice qx.ga v.gaps.length qx.gc) (.slice qx.da v.kids.length qx.dc)) := Lib.hid (blk_cells nx).1
      have NX := Lib.hid nx
      have hvz : Pl.sz v ≤ 1000000 := by omega
      have hi0 : (0 : Int) ≤ (j : Int) := Int.natCast_nonneg _
      have hi1 : (j : Int) < (u.kids.length : Int) := by omega
      have k3 : ∀ n : Later wx, n.u.cell? ⟨w2.heap.size, 3, none⟩ = some (.slice (some ⟨b, ob, none⟩) u.kids.length q.dc) := fun n => by
        have h := (blk_cells (keep_box nkx lkx n.h).1).1.2.2.2
        rw [HDA.out] at h
        exact h
      have CALL : ∀ n : Later wx, Calls Try.prog 18 #[.agg #[.int .i64 v.kind, .string v.text, .slice qx.ga v.gaps.length qx.gc, .slice qx.da v.kids.length qx.dc], .agg #[.int .i64 v.kind, .string v.text, .slice (R j).ga v.gaps.length (R j).gc, .slice (R j).da v.kids.length (R j).dc]] n.u fun e w'' => e = .returned (.bool true) ∧ ∃ k : Later wx, w'' = k.u :=
        fun n => (requal_self (HX.out.later n.h) (HKx.out.later n.h)).mono fun e w'' ⟨he, hw⟩ => ⟨he, ⟨w'', n.h.trans (hw.mono n.h.size)⟩, rfl⟩
      clear nx nkx
      refine region_later (by kernel_rfl) (by kernel_rfl) ?_
      iterate 3 (go_big_quiet_step (fail))
      refine quiet_load (by rfl) 25 _ (by rfl) (.pointer (some ⟨w5.heap.size, 0, none⟩)) _ (by rfl) (fun x hx => by obtain ⟨n, rfl⟩ := hx; exact (at4_later X1.out n).load) ?_
      simp only [Act.put, List.setIfInBounds_toArray, List.set_cons_succ, List.set_cons_zero]
      iterate 4 (go_big_quiet_step (fail))
      refine quiet_load (by rfl) 25 _ (by rfl) (.pointer (some ⟨b, ob + j * 4, none⟩)) _ (by rfl) (fun x hx => by obtain ⟨n, rfl⟩ := hx; exact (at4_later A2.out n).load) ?_
      simp only [Act.put, List.setIfInBounds_toArray, List.set_cons_succ, List.set_cons_zero]
      go_big_quiet_step (exact CALL _)
      iterate 2 (go_big_quiet_step (fail))
      refine wpQuiet_nil ?_
      intro _ hw'
      obtain ⟨n1, rfl⟩ := hw'
      clear k3 CALL
      obtain ⟨⟨x0, x1, x2, x3⟩, _⟩ := blk_cells (keep_box NX.out lx n1.h).1
      have HB6 := Lib.hid (HBx.out.trans (n1.h.mono HBx.out.size))
      have HX6 := Lib.hid (HX.out.later n1.h)
      go_wp2_with (go_at_call 14; refine (size_is HX6.out hvz).mono ?_; rintro e w7 ⟨rfl, hb7⟩; have HB7 := Lib.hid (HB6.out.trans (hb7.mono HB6.out.size)); clear hb7)
      exact ⟨⟨j + 1, by omega, by go_num, by rw [HTk.out]; go_num, HB7.out⟩, by simp [intOf]; omega⟩
    · have hjn : j = u.kids.length := by omega
      have e9 : Pl.szs (u.kids.take j) = Pl.szs u.kids := by rw [hjn, List.take_length]
      have huz : Pl.sz u ≤ 1000000 := by omega
      rw [e9]
      clear e9 hsl
      go_wp2_with (first
        | (go_at_call 11; refine (awake_any _).mono ?_; rintro e w8 ⟨rfl, hb8⟩; obtain ⟨n8, l8⟩ := keep_box NKr.out lkr hb8; have HQ8 := Lib.hid (HQr.out.later hb8); have HB8 := Lib.hid (HB.out.trans (hb8.mono HB.out.size)); clear c0 c1 c2 c3; obtain ⟨⟨c0, c1, c2, c3⟩, _⟩ := blk_cells n8; clear hb8 n8)
        | (go_at_call 14; refine (size_is HQ8.out huz).mono ?_; rintro e w9 ⟨rfl, hb9⟩; have BZ := Lib.hid (BB.out.trans ((HB8.out.trans (hb9.mono HB8.out.size)).mono BB.out.size)); clear hb9))
      exact bodyPost_ret (v := .bool true) (by simp [results, Try.results8, go_sem]; omega) rfl ⟨rfl, BZ.out⟩

set_option maxHeartbeats 1600000 in
set_option maxRecDepth 100000 in
theorem numbers_kid (n0 : Nat) (W : World) {t u : Pl.Tr} {r : Sl} (ht : IsT W t r) (hu : (Pl.pre t)[n0]? = some u) (h00 : 0 < n0) :
    Calls Try.prog 8 #[.agg #[.int .i64 t.kind, .string t.text, .slice r.ga t.gaps.length r.gc, .slice r.da t.kids.length r.dc], .int .i64 (n0 : Int)] W fun e w' => e = .returned (.bool true) ∧ Below W.heap.size W w' := by
  obtain ⟨w0, hw0, nt, lt, bt⟩ := box_world W (.cells #[.int .i64 t.kind, .string t.text, .slice r.ga t.gaps.length r.gc, .slice r.da t.kids.length r.dc] 25)
  have Nt := Lib.hid nt
  have HB := Lib.hid bt
  have Ht := Lib.hid (ht.later bt)
  obtain ⟨⟨a0, a1, a2, a3⟩, _⟩ := blk_cells nt
  clear ht nt bt
  have HPU := Lib.hid hu
  have hsub := (Pl.pre_sub t n0 u hu).1
  have hsk := sz_kids u
  have hlt0 : (n0 : Int) < (Pl.sz t : Int) := by have := hsk.1; omega
  clear hu
  go_enter Try.func8, Try.ntmps8
  go_upto_region 1 with (fail)
  rw [← hw0]
  clear hw0
  have pa := cell_past W.heap.size
  go_wp2_with (first
    | (go_at_call 10; refine (light_now Ht.out).mono ?_; rintro e w1 ⟨b, hl, rfl, hb1⟩; have HL := Lib.hid hl; obtain ⟨n1, l1⟩ := keep_box Nt.out lt hb1; have N1 := Lib.hid n1; have H1 := Lib.hid (Ht.out.later hb1); have B1 := Lib.hid (HB.out.trans (hb1.mono HB.out.size)); clear a0 a1 a2 a3; obtain ⟨⟨a0, a1, a2, a3⟩, _⟩ := blk_cells n1; clear hb1 n1 hl; cases b)
    | (go_at_call 12; refine (at_yes H1.out (HL.out (by trivial)) _ n0 (by first | rfl | omega) HPU.out).mono ?_; rintro e w2 ⟨q, rfl, hq, hb2⟩; obtain ⟨n2, l2⟩ := keep_box N1.out l1 hb2; have N2 := Lib.hid n2; have H2 := Lib.hid (H1.out.later hb2); have HQ2 := Lib.hid hq; have hsz := (HL.out (by trivial)).1; have B2 := Lib.hid (B1.out.trans (hb2.mono B1.out.size)); clear a0 a1 a2 a3; obtain ⟨⟨a0, a1, a2, a3⟩, _⟩ := blk_cells n2; clear hb2 n2 hq)
    | (go_at_call 14; refine (size_is (H2.out.box _) (HL.out (by trivial)).sz).mono ?_; rintro e wb ⟨rfl, hb3⟩; obtain ⟨l3, n3, k3, b3⟩ := after_call hb3; have NK3 := Lib.hid n3; have NT3 := Lib.hid ((k3 _ l2).trans N2.out); have lt3 := Nat.lt_trans l2 l3; have H3 := Lib.hid (H2.out.later b3); have HQ3 := Lib.hid (HQ2.out.later b3); have B3 := Lib.hid (B2.out.trans (b3.mono B2.out.size)); clear a0 a1 a2 a3; obtain ⟨⟨c0, c1, c2, c3⟩, _⟩ := blk_cells n3; obtain ⟨⟨a0, a1, a2, a3⟩, _⟩ := blk_cells NT3.out; clear hb3 n3 k3 b3)
    | (go_at_call 11; refine (awake_any _).mono ?_; rintro e wz ⟨rfl, hbz⟩; have BZ := Lib.hid (B1.out.trans (hbz.mono B1.out.size)); clear hbz))
  · exact bodyPost_ret (v := .bool true) (by simp [results, Try.results8, go_sem]) rfl ⟨rfl, BZ.out⟩
  have NK := NK3
  have NT := NT3
  have HT := H3
  have HQ := HQ3
  have BB := B3
  have lk := l3
  have lt9 := lt3
  have HLt := Lib.hid (HL.out (by trivial))
  obtain ⟨R, hlies, hkids⟩ := isT_parts HQ.out
  have HLies := Lib.hid hlies
  have HKids := Lib.hid hkids
  have hul : u.kids.length ≤ 400 := by omega
  have hn4 : n0 ≤ 400 := by omega
  have hsk1 := hsk.1
  clear hlies hkids HL pa a0 a1 a2 a3 hsk
  go_loopw [7, 8] (fun s jv wr => ∃ j : Nat, j ≤ u.kids.length ∧ jv = .int .i64 j ∧ s = .int .i64 ((n0 + 1 + Pl.szs (u.kids.take j) : Nat) : Int) ∧ Below wb.heap.size wb wr) (fun _ jv _ => u.kids.length - (intOf jv).toNat)
  case atStart => exact ⟨0, Nat.zero_le _, rfl, by simp [Pl.szs], Below.refl _ _⟩
  case round =>
    obtain ⟨j, hj, rfl, rfl, hbel⟩ := hrel
    obtain ⟨nk, lkr⟩ := keep_box NK.out lk hbel
    obtain ⟨nt, ltr⟩ := keep_box NT.out lt9 hbel
    have NKr := Lib.hid nk
    have NTr := Lib.hid nt
    have HTr := Lib.hid (HT.out.later hbel)
    have HQr := Lib.hid (HQ.out.later hbel)
    have HB := Lib.hid hbel
    clear c0 c1 c2 c3
    obtain ⟨⟨c0, c1, c2, c3⟩, _⟩ := blk_cells nk
    obtain ⟨⟨a0, a1, a2, a3⟩, _⟩ := blk_cells nt
    have hsl := Pl.szs_take_le u.kids j
    clear nk nt hbel
    by_cases hlt : j < u.kids.length
    · have hv := List.getElem?_eq_getElem hlt
      have HP := Lib.hid (Pl.pre_kid t n0 u HPU.out j hlt)
      have HTk := Lib.hid (Pl.szs_take u.kids j hlt)
      have hst := Pl.szs_step u.kids j hlt
      have HKv := Lib.hid (HKids.out j _ hv)
      rcases HLies.out with h0 | ⟨b, ob, hda, hbb, hat⟩
      · rw [h0] at hlt; simp at hlt
      have A1 := Lib.hid (hat j _ hv)
      generalize u.kids[j] = v at *
      rw [hda] at c3
      have HDA := Lib.hid hda
      clear hda
      clear hv hat
      go_wp2_with (go_at_call 12; refine (at_yes HTr.out HLt.out _ (n0 + 1 + Pl.szs (u.kids.take j)) (by first | rfl | omega) HP.out).mono ?_; rintro e w5 ⟨qx, rfl, hqx, hb5⟩; obtain ⟨n5, lk5⟩ := keep_box NKr.out lkr hb5; have NK5 := Lib.hid n5; have HX5 := Lib.hid hqx; have HB5 := Lib.hid (HB.out.trans (hb5.mono HB.out.size)); clear n5 hqx hb5)
      obtain ⟨wx, hwx, nx, lx, bx⟩ := box_world w5 (.cells #[.int .i64 v.kind, .string v.text, .slice qx.ga v.gaps.length qx.gc, .slice qx.da v.kids.length qx.dc] 25)
      rw [← hwx]
      clear hwx a0 a1 a2 a3 c0 c1 c2 c3
      obtain ⟨nkx, lkx⟩ := keep_box NK5.out lk5 bx
      have HBx := Lib.hid (HB5.out.trans (bx.mono HB5.out.size))
      have HX := Lib.hid (HX5.out.later bx)
      have HKx := Lib.hid (HKv.out.later HBx.out)
      have A2 := Lib.hid (At4.keep A1.out (Same.below HBx.out (fun _ h => h)) hbb)
      have X1 : Hid (At4 wx w5.heap.size 0 v.kind v.text (.slice qx.ga v.gaps.length qx.gc) (.slice qx.da v.kids.length qx.dc)) := Lib.hid (blk_cells nx).1
      have NX := Lib.hid nx
      have hvz : Pl.sz v ≤ 1000000 := by omega
      have hi0 : (0 : Int) ≤ (j : Int) := Int.natCast_nonneg _
      have hi1 : (j : Int) < (u.kids.length : Int) := by omega
      have k3 : ∀ n : Later wx, n.u.cell? ⟨w2.heap.size, 3, none⟩ = some (.slice (some ⟨b, ob, none⟩) u.kids.length q.dc) := fun n => by
        have h := (blk_cells (keep_box nkx lkx n.h).1).1.2.2.2
        rw [HDA.out] at h
        exact h
      have CALL : ∀ n : Later wx, Calls Try.prog 18 #[.agg #[.int .i64 v.kind, .string v.text, .slice qx.ga v.gaps.length qx.gc, .slice qx.da v.kids.length qx.dc], .agg #[.int .i64 v.kind, .string v.text, .slice (R j).ga v.gaps.length (R j).gc, .slice (R j).da v.kids.length (R j).dc]] n.u fun e w'' => e = .returned (.bool true) ∧ ∃ k : Later wx, w'' = k.u :=
        fun n => (requal_self (HX.out.later n.h) (HKx.out.later n.h)).mono fun e w'' ⟨he, hw⟩ => ⟨he, ⟨w'', n.h.trans (hw.mono n.h.size)⟩, rfl⟩
      clear nx nkx
      refine region_later (by kernel_rfl) (by kernel_rfl) ?_
      iterate 3 (go_big_quiet_step (fail))
      refine quiet_load (by rfl) 25 _ (by rfl) (.pointer (some ⟨w5.heap.size, 0, none⟩)) _ (by rfl) (fun x hx => by obtain ⟨n, rfl⟩ := hx; exact (at4_later X1.out n).load) ?_
      simp only [Act.put, List.setIfInBounds_toArray, List.set_cons_succ, List.set_cons_zero]
      iterate 4 (go_big_quiet_step (fail))
      refine quiet_load (by rfl) 25 _ (by rfl) (.pointer (some ⟨b, ob + j * 4, none⟩)) _ (by rfl) (fun x hx => by obtain ⟨n, rfl⟩ := hx; exact (at4_later A2.out n).load) ?_
      simp only [Act.put, List.setIfInBounds_toArray, List.set_cons_succ, List.set_cons_zero]
      go_big_quiet_step (exact CALL _)
      iterate 2 (go_big_quiet_step (fail))
      refine wpQuiet_nil ?_
      intro _ hw'
      obtain ⟨n1, rfl⟩ := hw'
      clear k3 CALL
      obtain ⟨⟨x0, x1, x2, x3⟩, _⟩ := blk_cells (keep_box NX.out lx n1.h).1
      have HB6 := Lib.hid (HBx.out.trans (n1.h.mono HBx.out.size))
      have HX6 := Lib.hid (HX.out.later n1.h)
      go_wp2_with (go_at_call 14; refine (size_is HX6.out hvz).mono ?_; rintro e w7 ⟨rfl, hb7⟩; have HB7 := Lib.hid (HB6.out.trans (hb7.mono HB6.out.size)); clear hb7)
      exact ⟨⟨j + 1, by omega, by go_num, by rw [HTk.out]; go_num, HB7.out⟩, by simp [intOf]; omega⟩
    · have hjn : j = u.kids.length := by omega
      have e9 : Pl.szs (u.kids.take j) = Pl.szs u.kids := by rw [hjn, List.take_length]
      have huz : Pl.sz u ≤ 1000000 := by omega
      rw [e9]
      clear e9 hsl
      go_wp2_with (first
        | (go_at_call 11; refine (awake_any _).mono ?_; rintro e w8 ⟨rfl, hb8⟩; obtain ⟨n8, l8⟩ := keep_box NKr.out lkr hb8; have HQ8 := Lib.hid (HQr.out.later hb8); have HB8 := Lib.hid (HB.out.trans (hb8.mono HB.out.size)); clear c0 c1 c2 c3; obtain ⟨⟨c0, c1, c2, c3⟩, _⟩ := blk_cells n8; clear hb8 n8)
        | (go_at_call 14; refine (size_is HQ8.out huz).mono ?_; rintro e w9 ⟨rfl, hb9⟩; have BZ := Lib.hid (BB.out.trans ((HB8.out.trans (hb9.mono HB8.out.size)).mono BB.out.size)); clear hb9))
      exact bodyPost_ret (v := .bool true) (by simp [results, Try.results8, go_sem]; omega) rfl ⟨rfl, BZ.out⟩

theorem numbers_law (i : Int) (W : World) {t : Pl.Tr} {r : Sl} (ht : IsT W t r) (hi : i ≤ 9223372036854775807 ∧ -9223372036854775808 ≤ i) :
    Calls Try.prog 8 #[.agg #[.int .i64 t.kind, .string t.text, .slice r.ga t.gaps.length r.gc, .slice r.da t.kids.length r.dc], .int .i64 i] W fun e w' => e = .returned (.bool true) ∧ Below W.heap.size W w' := by
  by_cases hn : i < 0
  · exact numbers_neg i W ht hi hn
  by_cases hb : (Pl.sz t : Int) ≤ i
  · exact numbers_big i W ht hi (by omega) hb
  obtain ⟨n, rfl⟩ : ∃ n : Nat, i = n := ⟨i.toNat, by omega⟩
  rcases Nat.eq_zero_or_pos n with rfl | h0
  · exact numbers_root W ht (Pl.pre_root t) (eqT_iff.2 rfl)
  · exact numbers_kid n W ht (List.getElem?_eq_getElem (by rw [Pl.pre_len]; omega)) h0
end Go.Proofs.Ytidmbdilediplaa
