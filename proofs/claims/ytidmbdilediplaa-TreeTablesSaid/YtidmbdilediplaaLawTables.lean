/- The walk of the law TreeTables. -/
import Derived.Test.YtidmbdilediplaaIs2
import Derived.Test.YtidmbdilediplaaLitExact
import Derived.Deep.RegionWith
namespace Go.Proofs.Ytidmbdilediplaa
open Go.RowKit Go.Deep
set_option linter.unusedVariables false
set_option linter.unusedSimpArgs false

theorem light_z {w : World} {t : Pl.Tr} {r : Sl} {z : Bool} (hz : litF t = z) (h : IsT w t r) : Calls Try.prog 10 #[.agg #[.int .i64 t.kind, .string t.text, .slice r.ga t.gaps.length r.gc, .slice r.da t.kids.length r.dc]] w fun e w' => (z = true → Lit t) ∧ e = .returned (.bool z) ∧ Below w.heap.size w w' :=
  (lightE_at h (fun _ h => h) _ (Same.refl _ _) (Nat.le_refl _)).mono fun e w' ⟨b, hl, hb, he, hw⟩ => by
    obtain rfl : b = z := hb.trans hz
    exact ⟨hl, he, hw⟩
set_option maxHeartbeats 1600000 in
set_option maxRecDepth 100000 in
theorem tables_false (W : World) {t : Pl.Tr} {r : Sl} (ht : IsT W t r) (hz : litF t = false) :
    Calls Try.prog 4 #[.agg #[.int .i64 t.kind, .string t.text, .slice r.ga t.gaps.length r.gc, .slice r.da t.kids.length r.dc]] W fun e w' => e = .returned (.bool true) ∧ Below W.heap.size W w' := by
  obtain ⟨w0, hw0, nt, lt, bt⟩ := box_world W (.cells #[.int .i64 t.kind, .string t.text, .slice r.ga t.gaps.length r.gc, .slice r.da t.kids.length r.dc] 25)
  have Nt := Lib.hid nt
  have HB := Lib.hid bt
  have Ht := Lib.hid (ht.later bt)
  obtain ⟨⟨a0, a1, a2, a3⟩, _⟩ := blk_cells nt
  clear ht nt bt
  have HZ := Lib.hid hz
  clear hz
  go_enter Try.func4, Try.ntmps4
  go_wp2_with fail
  rw [← hw0]
  clear hw0 a0 a1 a2 a3
  have hb0 : Below w0.heap.size w0 w0.drew := (Below.refl _ _).drew
  have hs0 := hb0.size
  have fa0 := blk_cells ((hb0.block _ lt).trans Nt.out)
  obtain ⟨⟨a0, a1, a2, a3⟩, _⟩ := fa0
  go_region_with
    (first
      | (go_at_call 10; have g9 := hb1; clear g9; refine (light_z HZ.out (Ht.out.later hb1)).mono ?_; rintro e v2 ⟨hl, rfl, hbn⟩; have hb2 : Below w0.heap.size w0 v2 := hb1.trans (hbn.mono hs1); have hs2 := hb2.size; have fa2 := blk_cells ((hb2.block _ lt).trans Nt.out); obtain ⟨⟨a0, a1, a2, a3⟩, _⟩ := fa2; have HL := Lib.hid hl; clear hl; clear hbn)
      | (go_at_call 11; refine (awake_any w0.drew).mono ?_; rintro e v1 ⟨rfl, hbn⟩; have hb1 : Below w0.heap.size w0 v1 := hb0.trans (hbn.mono hs0); have hs1 := hb1.size; have fa1 := blk_cells ((hb1.block _ lt).trans Nt.out); obtain ⟨⟨a0, a1, a2, a3⟩, _⟩ := fa1; clear hbn))
  all_goals
    go_wp2_with fail
  all_goals
    exact bodyPost_ret (v := .bool true) (by simp [results, Try.results4, go_sem]) rfl ⟨rfl, HB.out.trans (hb2.mono HB.out.size)⟩
set_option maxHeartbeats 1600000 in
set_option maxRecDepth 100000 in
theorem tables_true (W : World) {t : Pl.Tr} {r : Sl} (ht : IsT W t r) (hz : litF t = true) :
    Calls Try.prog 4 #[.agg #[.int .i64 t.kind, .string t.text, .slice r.ga t.gaps.length r.gc, .slice r.da t.kids.length r.dc]] W fun e w' => e = .returned (.bool true) ∧ Below W.heap.size W w' := by
  obtain ⟨w0, hw0, nt, lt, bt⟩ := box_world W (.cells #[.int .i64 t.kind, .string t.text, .slice r.ga t.gaps.length r.gc, .slice r.da t.kids.length r.dc] 25)
  have Nt := Lib.hid nt
  have HB := Lib.hid bt
  have Ht := Lib.hid (ht.later bt)
  obtain ⟨⟨a0, a1, a2, a3⟩, _⟩ := blk_cells nt
  clear ht nt bt
  have HZ := Lib.hid hz
  clear hz
  go_enter Try.func4, Try.ntmps4
  go_wp2_with fail
  rw [← hw0]
  clear hw0 a0 a1 a2 a3
  have hb0 : Below w0.heap.size w0 w0.drew := (Below.refl _ _).drew
  have hs0 := hb0.size
  have fa0 := blk_cells ((hb0.block _ lt).trans Nt.out)
  obtain ⟨⟨a0, a1, a2, a3⟩, _⟩ := fa0
  go_region_held3 (fun w' => w'.cell? ⟨W.heap.size, 0, none⟩ = some (.int .i64 t.kind) ∧ w'.cell? ⟨W.heap.size, 1, none⟩ = some (.string t.text) ∧ w'.cell? ⟨W.heap.size, 2, none⟩ = some (.slice r.ga t.gaps.length r.gc) ∧ w'.cell? ⟨W.heap.size, 3, none⟩ = some (.slice r.da t.kids.length r.dc))
    (with_reducible exact ⟨a0, a1, a2, a3⟩)
    ((first
      | (go_at_call 19; have g9 := hb4; clear g9; refine (samerows_self HX3.out HX2.out).mono ?_; rintro e v5 ⟨rfl, hbn⟩; have hb5 : Below w0.heap.size w0 v5 := hb4.trans (hbn.mono hs4); have hs5 := hb5.size; have fa5 := blk_cells ((hb5.block _ lt).trans Nt.out); obtain ⟨⟨a0, a1, a2, a3⟩, _⟩ := fa5; clear hbn)
      | (go_at_call 21; have g9 := hb3; clear g9; refine (rrows_is (Ht.out.later hb3) (HL.out (by trivial))).mono ?_; rintro e v4 ⟨x2, c2, R2, rfl, hx2, hbn⟩; have hb4 : Below w0.heap.size w0 v4 := hb3.trans (hbn.mono hs3); have hs4 := hb4.size; have fa4 := blk_cells ((hb4.block _ lt).trans Nt.out); obtain ⟨⟨a0, a1, a2, a3⟩, _⟩ := fa4; have HX2 := Lib.hid (show IsTab v4 _ _ _ from hx2); have HX3 := Lib.hid (HX1.out.later hbn); clear hx2; clear hbn)
      | (go_at_call 20; have g9 := hb2; clear g9; refine (rows_is (Ht.out.later hb2) (HL.out (by trivial))).mono ?_; rintro e v3 ⟨x1, c1, R1, rfl, hx1, hbn⟩; have hb3 : Below w0.heap.size w0 v3 := hb2.trans (hbn.mono hs2); have hs3 := hb3.size; have fa3 := blk_cells ((hb3.block _ lt).trans Nt.out); obtain ⟨⟨a0, a1, a2, a3⟩, _⟩ := fa3; have HX1 := Lib.hid (show IsTab v3 _ _ _ from hx1); clear hx1; clear hbn)
      | (go_at_call 10; have g9 := hb1; clear g9; refine (light_z HZ.out (Ht.out.later hb1)).mono ?_; rintro e v2 ⟨hl, rfl, hbn⟩; have hb2 : Below w0.heap.size w0 v2 := hb1.trans (hbn.mono hs1); have hs2 := hb2.size; have fa2 := blk_cells ((hb2.block _ lt).trans Nt.out); obtain ⟨⟨a0, a1, a2, a3⟩, _⟩ := fa2; have HL := Lib.hid hl; clear hl; clear hbn)
      | (go_at_call 11; refine (awake_any w0.drew).mono ?_; rintro e v1 ⟨rfl, hbn⟩; have hb1 : Below w0.heap.size w0 v1 := hb0.trans (hbn.mono hs0); have hs1 := hb1.size; have fa1 := blk_cells ((hb1.block _ lt).trans Nt.out); obtain ⟨⟨a0, a1, a2, a3⟩, _⟩ := fa1; clear hbn)))
  all_goals
    go_wp2_with fail
  all_goals
    exact bodyPost_ret (v := .bool true) (by simp [results, Try.results4, go_sem]) rfl ⟨rfl, HB.out.trans (hb5.mono HB.out.size)⟩
theorem tables_law (W : World) {t : Pl.Tr} {r : Sl} (ht : IsT W t r) :
    Calls Try.prog 4 #[.agg #[.int .i64 t.kind, .string t.text, .slice r.ga t.gaps.length r.gc, .slice r.da t.kids.length r.dc]] W fun e w' => e = .returned (.bool true) ∧ Below W.heap.size W w' := by
  cases hz : litF t with
  | false => exact tables_false W ht hz
  | true => exact tables_true W ht hz
end Go.Proofs.Ytidmbdilediplaa
