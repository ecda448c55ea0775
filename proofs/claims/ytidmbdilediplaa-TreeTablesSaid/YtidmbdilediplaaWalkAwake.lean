/- The walk of the laws' awake. -/
import Derived.Test.YtidmbdilediplaaSamp
import Derived.Deep.RegionHeld3
namespace Go.Proofs.Ytidmbdilediplaa
open Go.RowKit Go.Deep
set_option linter.unusedVariables false
set_option linter.unusedSimpArgs false

theorem after_call {wp wn : World} {o : Obj} (hb : Below (wp.alloc o).heap.size (wp.alloc o) wn) : wp.heap.size < wn.heap.size ∧ wn.heap[wp.heap.size]? = some o ∧ (∀ k, k < wp.heap.size → wn.heap[k]? = wp.heap[k]?) ∧ Below wp.heap.size wp wn := by
  have hs := hb.size
  simp at hs
  exact ⟨by omega, (hb.block _ (by simp)).trans (heap_alloc_new wp o), fun k hk => (hb.block k (by simp; omega)).trans (Below.heap_alloc _ _ _ hk), ((Below.refl wp.heap.size wp).alloc (Nat.le_refl _) o).trans (hb.mono (by simp))⟩
set_option maxHeartbeats 1600000 in
set_option maxRecDepth 100000 in
theorem awake_any (w1 : World) : Calls Try.prog 11 #[] w1 fun e w' => e = .returned (.bool true) ∧ Below w1.heap.size w1 w' := by
  have hm : ¬ ((-1 : Int) != (-1 : Int)) = true := by decide
  go_enter Try.func11, Try.ntmps11
  go_wp2_with (first
    | (go_at_call 31; refine (samp_val w1).mono ?_; rintro e wS ⟨r, rfl, ht, hb⟩; have HT := Lib.hid ht; have HB := Lib.hid hb; have hn := heap_alloc_new wS (.cells #[.int .i64 26, .string ⟨#[]⟩, .slice r.ga 2 r.gc, .slice r.da 1 r.dc] 25);
       have hP : ∀ b, (w1.heap.size ≤ b ∧ b < wS.heap.size) → b < wS.heap.size := (fun _ h => h.2); have HN := Lib.hid hn; obtain ⟨⟨a0, a1, a2, a3⟩, _⟩ := blk_cells hn; clear ht hb hn)
    | (go_at_call 12; have g9 := B2.out; clear g9; refine (samp_at4 HT.out hP _ (Same.below (B2.out.trans (((Below.refl w2.heap.size w2).alloc (Nat.le_refl _) _).mono (by omega))) hP) (by simp; omega)).mono ?_; rintro e w3 ⟨hb3, rfl⟩; obtain ⟨l3, n3, k3, b3⟩ := after_call hb3; have N3 := Lib.hid n3; have t3 := (k3 _ l2).trans N2.out; have T3 := Lib.hid t3; have B3 := Lib.hid (B2.out.trans (b3.mono (Nat.le_of_lt l2))); clear a0 a1 a2 a3; obtain ⟨⟨a0, a1, a2, a3⟩, _⟩ := blk_cells t3; have l23 := Nat.lt_trans l2 l3; clear hb3 n3 k3 b3 t3)
    | (go_at_call 12; refine (samp_at3 HT.out hP _ (Same.below ((Below.refl wS.heap.size wS).alloc (Nat.le_refl _) _) hP) (by simp)).mono ?_; rintro e w2 ⟨hb2, q3, rfl⟩; obtain ⟨l2, n2, k2, b2⟩ := after_call hb2; have N2 := Lib.hid n2; have B2 := Lib.hid b2; obtain ⟨⟨a0, a1, a2, a3⟩, _⟩ := blk_cells n2; have pa := cell_past wS.heap.size; clear hb2 n2 k2 b2)
    | (go_at_call 20; refine (samp_rows HT.out hP _ (Same.below (B3.out.trans (((Below.refl w3.heap.size w3).alloc (Nat.le_refl _) _).mono (by omega))) hP) (by simp; omega)).mono ?_; rintro e w4 ⟨hb4, b, o, c, b2, o2, c2, R, rfl, hbl, hbl2, htab, r0, r3, r1, ri⟩; have HTab := Lib.hid htab; obtain ⟨l4, n4, k4, b4⟩ := after_call hb4; have T4 := Lib.hid ((k4 _ (Nat.lt_trans l2 l3)).trans T3.out); have X4 := Lib.hid ((k4 _ l3).trans N3.out); have B4 := Lib.hid (B3.out.trans (b4.mono (by omega))); clear hb4 n4 k4 b4 a0 a1 a2 a3 htab)
    | (go_at_call 23; have g9 := HRb.out; clear g9; refine (samp_nil _).mono ?_; rintro e w6 ⟨rfl, hb6⟩; obtain ⟨l6, n6, k6, b6⟩ := after_call hb6; have N6 := Lib.hid n6; have T6 := Lib.hid ((k6 wS.heap.size (by omega)).trans T5.out); have X6 := Lib.hid ((k6 w2.heap.size (by omega)).trans X5.out); have B6 := Lib.hid (B5.out.trans (b6.mono (by omega))); have HRb6 := Lib.hid (HRb.out.keep (w' := w6) (Q := fun y => y < w5.heap.size) (fun y hy => k6 y hy) (fun _ h => h)); clear hb6 n6 k6 b6)
    | (go_at_call 23; refine (samp_build (some ⟨b, o, none⟩) c R HTab.out (fun _ h => h)).mono ?_; rintro e w5 ⟨rb, rfl, hrb, hb5⟩; have HRb := Lib.hid hrb; have l5 := hb5.size; have T5 := Lib.hid ((hb5.block _ (Nat.lt_trans (Nat.lt_trans l2 l3) l4)).trans T4.out); have X5 := Lib.hid ((hb5.block _ (Nat.lt_trans l3 l4)).trans X4.out); have B5 := Lib.hid (B4.out.trans (hb5.mono (by omega))); clear hrb hb5))
  have l26 : wS.heap.size < w6.heap.size := by omega
  have l36 : w2.heap.size < w6.heap.size := by omega
  have l56 : w5.heap.size < w6.heap.size := l6
  have hb0 : Below w6.heap.size w6 (w6.alloc (.cells #[.int .i64 0, .string ⟨#[]⟩, .slice none 0 0, .slice none 0 0] 25)).drew := ((Below.refl w6.heap.size w6).alloc (Nat.le_refl _) _).drew
  have hs0 := hb0.size
  have HTs : Hid (Tin (fun y => y < w6.heap.size) w6 Pl.samp r) := Lib.hid (HT.out.keep (Same.below B6.out hP) (fun y hy => by have := hy.2; omega))
  have HRs : Hid (Tin (fun y => y < w6.heap.size) w6 Pl.samp rb) := Lib.hid (HRb6.out.keep (Same.refl _ _) (fun y hy => by omega))
  have hn2 : ∀ b : Bool, (b == true) = b := fun b => by cases b <;> rfl
  clear a0 a1 a2 a3 pa r0 r1 r3 ri hm l2 l23 l3 l4 l5 hbl hbl2
  have f0 := blk_cells ((hb0.block _ l26).trans T6.out)
  obtain ⟨⟨a0, a1, a2, a3⟩, _⟩ := f0
  have g0 := blk_cells ((hb0.block _ l36).trans X6.out)
  obtain ⟨⟨_, c1, _, _⟩, _⟩ := g0
  have h0 := blk_cells ((hb0.block _ l56).trans N6.out)
  obtain ⟨⟨d0, d1, d2, d3⟩, _⟩ := h0

  go_region_held3 (fun w' => w'.cell? ⟨wS.heap.size, 0, none⟩ = some (.int .i64 26) ∧ w'.cell? ⟨wS.heap.size, 1, none⟩ = some (.string ⟨#[]⟩) ∧ w'.cell? ⟨wS.heap.size, 2, none⟩ = some (.slice r.ga 2 r.gc) ∧ w'.cell? ⟨wS.heap.size, 3, none⟩ = some (.slice r.da 1 r.dc) ∧ w'.cell? ⟨w2.heap.size, 1, none⟩ = some (.string ⟨#[50]⟩) ∧
      w'.cell? ⟨w5.heap.size, 0, none⟩ = some (.int .i64 26) ∧ w'.cell? ⟨w5.heap.size, 1, none⟩ = some (.string ⟨#[]⟩) ∧ w'.cell? ⟨w5.heap.size, 2, none⟩ = some (.slice rb.ga 2 rb.gc) ∧ w'.cell? ⟨w5.heap.size, 3, none⟩ = some (.slice rb.da 1 rb.dc))
    (with_reducible exact ⟨a0, a1, a2, a3, c1, d0, d1, d2, d3⟩)
    ((first
      | (go_at_call 27; have g9 := HBb2.out; clear g9; refine (samp_neq (P := fun y => y < w12.heap.size) (w := w12) (HTs.out.keep (Same.below hb12 (fun _ h => h)) (fun y hy => Nat.lt_of_lt_of_le hy hs12)) (fun _ h => h) qb2 (HBb2.out.keep (Same.refl _ _) (fun y hy => hy.2)) _ (Same.refl _ _) (Nat.le_refl _)).mono ?_; rintro e w13 ⟨rfl, hbn⟩; have hb13 : Below w6.heap.size w6 w13 := hb12.trans (hbn.mono hs12); have hs13 := hb13.size; have f13 := blk_cells ((hb13.block _ l26).trans T6.out); obtain ⟨⟨a0, a1, a2, a3⟩, _⟩ := f13; have g13 := blk_cells ((hb13.block _ l36).trans X6.out); obtain ⟨⟨_, c1, _, _⟩, _⟩ := g13; have h13 := blk_cells ((hb13.block _ l56).trans N6.out); obtain ⟨⟨d0, d1, d2, d3⟩, _⟩ := h13; clear hbn)
      | (go_at_call 28; have g9 := hb11; clear g9; refine (samp_bare HTs.out (fun _ h => h) _ (Same.below hb11 (fun _ h => h)) hs11).mono ?_; rintro e w12 ⟨qb2, rfl, hq, hbn⟩; have hb12 : Below w6.heap.size w6 w12 := hb11.trans (hbn.mono hs11); have hs12 := hb12.size; have f12 := blk_cells ((hb12.block _ l26).trans T6.out); obtain ⟨⟨a0, a1, a2, a3⟩, _⟩ := f12; have g12 := blk_cells ((hb12.block _ l36).trans X6.out); obtain ⟨⟨_, c1, _, _⟩, _⟩ := g12; have h12 := blk_cells ((hb12.block _ l56).trans N6.out); obtain ⟨⟨d0, d1, d2, d3⟩, _⟩ := h12; have HBb2 := Lib.hid hq; clear hq; clear hbn)
      | (go_at_call 25; refine (samp_same (P := fun y => y < w10.heap.size) (w := w10) (HTs.out.keep (Same.below hb10 (fun _ h => h)) (fun y hy => Nat.lt_of_lt_of_le hy hs10)) (fun _ h => h) qb1 (HBb1.out.keep (Same.refl _ _) (fun y hy => hy.2)) _ (Same.refl _ _) (Nat.le_refl _)).mono ?_; rintro e w11 ⟨rfl, hbn⟩; have hb11 : Below w6.heap.size w6 w11 := hb10.trans (hbn.mono hs10); have hs11 := hb11.size; have f11 := blk_cells ((hb11.block _ l26).trans T6.out); obtain ⟨⟨a0, a1, a2, a3⟩, _⟩ := f11; have g11 := blk_cells ((hb11.block _ l36).trans X6.out); obtain ⟨⟨_, c1, _, _⟩, _⟩ := g11; have h11 := blk_cells ((hb11.block _ l56).trans N6.out); obtain ⟨⟨d0, d1, d2, d3⟩, _⟩ := h11; clear hbn)
      | (go_at_call 28; have g9 := hb9; clear g9; refine (samp_bare HTs.out (fun _ h => h) _ (Same.below hb9 (fun _ h => h)) hs9).mono ?_; rintro e w10 ⟨qb1, rfl, hq, hbn⟩; have hb10 : Below w6.heap.size w6 w10 := hb9.trans (hbn.mono hs9); have hs10 := hb10.size; have f10 := blk_cells ((hb10.block _ l26).trans T6.out); obtain ⟨⟨a0, a1, a2, a3⟩, _⟩ := f10; have g10 := blk_cells ((hb10.block _ l36).trans X6.out); obtain ⟨⟨_, c1, _, _⟩, _⟩ := g10; have h10 := blk_cells ((hb10.block _ l56).trans N6.out); obtain ⟨⟨d0, d1, d2, d3⟩, _⟩ := h10; have HBb1 := Lib.hid hq; clear hq; clear hbn)
      | (go_at_call 27; have g9 := hb8; clear g9; refine (samp_eq HRs.out (fun _ h => h) r HTs.out _ (Same.below hb8 (fun _ h => h)) hs8).mono ?_; rintro e w9 ⟨rfl, hbn⟩; have hb9 : Below w6.heap.size w6 w9 := hb8.trans (hbn.mono hs8); have hs9 := hb9.size; have f9 := blk_cells ((hb9.block _ l26).trans T6.out); obtain ⟨⟨a0, a1, a2, a3⟩, _⟩ := f9; have g9 := blk_cells ((hb9.block _ l36).trans X6.out); obtain ⟨⟨_, c1, _, _⟩, _⟩ := g9; have h9 := blk_cells ((hb9.block _ l56).trans N6.out); obtain ⟨⟨d0, d1, d2, d3⟩, _⟩ := h9; clear hbn)
      | (go_at_call 16; refine (samp_height HTs.out (fun _ h => h) _ (Same.below hb7 (fun _ h => h)) hs7).mono ?_; rintro e w8 ⟨rfl, hbn⟩; have hb8 : Below w6.heap.size w6 w8 := hb7.trans (hbn.mono hs7); have hs8 := hb8.size; have f8 := blk_cells ((hb8.block _ l26).trans T6.out); obtain ⟨⟨a0, a1, a2, a3⟩, _⟩ := f8; have g8 := blk_cells ((hb8.block _ l36).trans X6.out); obtain ⟨⟨_, c1, _, _⟩, _⟩ := g8; have h8 := blk_cells ((hb8.block _ l56).trans N6.out); obtain ⟨⟨d0, d1, d2, d3⟩, _⟩ := h8; clear hbn)
      | (go_at_call 14; refine (samp_size HTs.out (fun _ h => h) _ (Same.below hb0 (fun _ h => h)) hs0).mono ?_; rintro e w7 ⟨rfl, hbn⟩; have hb7 : Below w6.heap.size w6 w7 := hb0.trans (hbn.mono hs0); have hs7 := hb7.size; have f7 := blk_cells ((hb7.block _ l26).trans T6.out); obtain ⟨⟨a0, a1, a2, a3⟩, _⟩ := f7; have g7 := blk_cells ((hb7.block _ l36).trans X6.out); obtain ⟨⟨_, c1, _, _⟩, _⟩ := g7; have h7 := blk_cells ((hb7.block _ l56).trans N6.out); obtain ⟨⟨d0, d1, d2, d3⟩, _⟩ := h7; clear hbn)))
  all_goals
    go_wp2_with fail
  all_goals
    exact bodyPost_ret (v := .bool true) (by simp [results, Try.results11, go_sem]) rfl ⟨rfl, HB.out.trans ((B6.out.mono HB.out.size).trans (hb13.mono (Nat.le_trans HB.out.size B6.out.size)))⟩
end Go.Proofs.Ytidmbdilediplaa
