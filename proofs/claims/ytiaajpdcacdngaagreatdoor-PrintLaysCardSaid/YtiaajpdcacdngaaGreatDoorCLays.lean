/- The walks of the reference's Layout and of the law PrintLays. -/
import Derived.Test.YtiaajpdcacdngaaGreatDoorRLay
import Derived.Test.YtiaajpdcacdngaaGreatDoorClose
import Derived.Test.YtiaajpdcacdngaaGreatDoorCard
namespace Go.Proofs.YtiaajpdcacdngaaGreatDoor.Rf
open Go.RowKit Go.Proofs.YtiaajpdcacdngaaGreatDoor.Aw
set_option linter.unusedVariables false
set_option linter.unusedSimpArgs false
set_option maxRecDepth 100000

/- ### Layout -/
abbrev zN : Value := .agg #[.int .i64 0, .string ⟨#[]⟩, .slice none 0 0, .slice none 0 0]
set_option maxHeartbeats 800000 in
theorem rLayout_bad (t : Pl.Tr) (w : World) (r : Sl) (v : Int) (h : IsT w t r) (hc : Pl.chk t = v) (hv : v ≠ 0) (hl : Li.Lit t) :
    Calls Tryz.prog 19 #[nv t r] w fun e w' => e = .returned (.tuple #[.agg #[.int .i64 0, .string ⟨#[]⟩, .slice none 0 0, .slice none 0 0], .int .i64 v]) ∧ Below w.heap.size w w' := by
  have HC := Lib.hid (fun w2 (hb : Below w.heap.size w w2) => rcheck_is t v hc hl w2 r (h.later hb))
  obtain ⟨v1, v2⟩ := int_neq2 hv
  clear h hc hv hl
  obtain ⟨t1, t2, t3, t4⟩ := two_after (w := w) (o1 := nb t r) (o2 := .cells #[.int .i64 0, .string ⟨#[]⟩, .slice none 0 0, .slice none 0 0] 25) (Below.refl _ _)
  have T2 := Lib.hid t2
  have T3 := Lib.hid t3
  have T4 := Lib.hid t4
  clear t1 t2 t3 t4
  go_enter Tryz.func19, Tryz.ntmps19
  go_wp2_with (go_at_call 21; refine (HC.out _ T3.out).mono ?_; rintro e w1 ⟨rfl, hb1⟩; have hz1 := hb1.size; have hblk := (hb1.block (w.heap.size + 1) T4.out).trans T2.out; obtain ⟨⟨p0, p1, p2, p3⟩, z0, z1, z2, z3⟩ := blk_cells hblk; have HB1 := Lib.hid (T3.out.trans (hb1.mono (by have := T4.out; omega))); clear hb1 hblk)
  refine bodyPost_ret (v := .tuple #[.agg #[.int .i64 0, .string ⟨#[]⟩, .slice none 0 0, .slice none 0 0], .int .i64 v]) (by simp [results, Tryz.results19, go_sem, p0, p1, p2, p3]) rfl ⟨rfl, below_set4 HB1.out (Nat.le_succ _)⟩
set_option maxHeartbeats 1600000 in
theorem rLayout_ok (t : Pl.Tr) (w : World) (r : Sl) (h : IsT w t r) (hc : Pl.chk t = 0) (hl : Li.Lit t) :
    Calls Tryz.prog 19 #[nv t r] w (LayP (Pl.layout t) w) := by
  have hf := (Pl.chk_zero t hc).2.2.2
  have hz : Pl.sz t ≤ 100000 := by have := hl.1; omega
  have hht := Pl.chk_ht t hc (by omega)
  have HC := Lib.hid (fun w2 (hb : Below w.heap.size w w2) => rcheck_is t 0 hc hl w2 r (h.later hb))
  have HLy : Hid (∀ w2, Below w.heap.size w w2 → Calls Tryz.prog 37 #[nv t r, .string ⟨#[]⟩, .int .i64 0] w2 (CopyP (Pl.layout t) w2)) := Lib.hid (fun w2 hb => lay_at (h.later hb) (fun b hb => hb) 0 ⟨#[]⟩ w2 (Same.refl _ _) (Nat.le_refl _) hf hz (by omega) (by decide))
  clear h hc hf hz hht hl
  generalize Pl.layout t = T at *
  obtain ⟨t1, t2, t3, t4⟩ := two_after (w := w) (o1 := nb t r) (o2 := .cells #[.int .i64 0, .string ⟨#[]⟩, .slice none 0 0, .slice none 0 0] 25) (Below.refl _ _)
  have T1 := Lib.hid t1
  have T2 := Lib.hid t2
  have T3 := Lib.hid t3
  have T4 := Lib.hid t4
  clear t1 t2 t3 t4
  go_enter Tryz.func19, Tryz.ntmps19
  go_wp2_with (first
    | (go_at_call 21; refine (HC.out _ T3.out).mono ?_; rintro e w1 ⟨rfl, hb1⟩; have B1 := Lib.hid (T3.out.trans (hb1.mono (by have := T4.out; omega))); have T21 := Lib.hid ((hb1.block (w.heap.size + 1) T4.out).trans T2.out); have hs1 : w.heap.size + 1 < w1.heap.size := (by have := T4.out; have := hb1.size; omega); obtain ⟨⟨c0, c1, c2, c3⟩, _⟩ := blk_cells ((hb1.block w.heap.size (by have := T4.out; omega)).trans T1.out); clear hb1)
    | (go_at_call 37; refine (HLy.out _ B1.out).mono ?_; rintro e w2 ⟨⟨ga2, gc2, da2, dc2⟩, rfl, ht2, hb2⟩; have hs2 := hb2.size; have hblk := (hb2.block (w.heap.size + 1) hs1).trans T21.out; obtain ⟨⟨p0, p1, p2, p3⟩, z0, z1, z2, z3⟩ := blk_cells hblk; have HT2 := Lib.hid ht2; have HB2 := Lib.hid hb2; clear ht2 hb2 hblk))
  have hb1 := B1.out
  have hb1s := hb1.size
  refine bodyPost_ret (v := .tuple #[.agg #[.int .i64 T.kind, .string T.text, .slice ga2 T.gaps.length gc2, .slice da2 T.kids.length dc2], .int .i64 0]) (by simp [results, Tryz.results19, go_sem, p0, p1, p2, p3]) rfl ⟨⟨ga2, gc2, da2, dc2⟩, rfl, HT2.out.keep (fun x hx => heap_set4 (by omega)) (fun x hx => by have := hx.2; simp; omega), ?_⟩
  exact below_set4 (hb1.trans (HB2.out.mono hb1s)) (by omega)

/- ### PrintLays -/
set_option maxHeartbeats 3200000 in
theorem ll_bad (t : Pl.Tr) (r : Sl) (w : World) (hT : Tabs w) (h : IsT w t r) (hc : ¬ Pl.chk t = 0) :
    Calls Tryz.prog 5 #[nv t r] w fun e w' => e = .returned (.bool true) ∧ Below w.heap.size w w' := by
  obtain ⟨v, hv⟩ : ∃ v, v = Pl.chk t := ⟨_, rfl⟩
  rw [← hv] at hc
  obtain ⟨v1, v2⟩ := int_neq2 hc
  have v3 : (v == v) = true := by simp
  have L0 := Lib.hid (lo_new hT (nb t r))
  have N0 := Lib.hid (bx_new h)
  have CL := Lib.hid (fun V hV hI => layout_bad t V r v hV hI hv.symm hc)
  have CR := Lib.hid (fun hl V hI => rLayout_bad t V r v hI hv.symm hc hl)
  have DE : Hid (∀ V, Calls Tryz.prog 20 #[.agg #[.int .i64 0, .string ⟨#[]⟩, .slice none 0 0, .slice none 0 0], .agg #[.int .i64 0, .string ⟨#[]⟩, .slice none 0 0, .slice none 0 0]] V fun e w' => e = .returned (.bool true) ∧ Below V.heap.size V w') := Lib.hid (fun V => equal_is zeroT V ⟨none, 0, none, 0⟩ ⟨none, 0, none, 0⟩ (isT_zero V) (isT_zero V))
  clear hc hv hT h
  go_enter Tryz.func5, Tryz.ntmps5
  go_upto_region 3 with (go_at_call 9; refine (Li.small_at t _ r N0.out.tree).mono ?_; rintro e w1 ⟨b, hl, rfl, hb1⟩; have L1 := Lib.hid (L0.out.later hb1); have N1 := Lib.hid (N0.out.later hb1); obtain ⟨c0, c1, c2, c3⟩ := (N0.out.later hb1).box; clear hb1; rcases b with _ | _; (focus (clear hl; go_wp2_with (go_at_call 10; refine (awake_any _ L1.out.tabs).mono ?_; rintro e w3 ⟨rfl, hb3⟩; have L3 := Lib.hid (L1.out.later hb3); clear hb3); go_ret; exact ⟨rfl, L3.out.low⟩)); have HL := Lib.hid (hl rfl); clear hl)
  go_upto_region 4 with (go_at_call 18; refine (CL.out _ L1.out.tabs N1.out.tree).mono ?_; rintro e w2 ⟨rfl, hb2⟩; have L2 := Lib.hid ((L1.out.later hb2).later (box_below _ (.cells #[.int .i64 0, .string ⟨#[]⟩, .slice none 0 0, .slice none 0 0] 25))); have N2 := Lib.hid ((N1.out.later hb2).later (box_below _ (.cells #[.int .i64 0, .string ⟨#[]⟩, .slice none 0 0, .slice none 0 0] 25))); have A2 := Lib.hid (at4_new w2 0 ⟨#[]⟩ (.slice none 0 0) (.slice none 0 0)); clear hb2)
  clear c0 c1 c2 c3
  obtain ⟨W2, hW2⟩ : ∃ W, W = w2.alloc (.cells #[.int .i64 0, .string ⟨#[]⟩, .slice none 0 0, .slice none 0 0] 25) := ⟨_, rfl⟩
  rw [← hW2]
  have L3 : Hid (Lo w W2) := by rw [hW2]; exact L2
  have N3 : Hid (Bx w.heap.size t r W2) := by rw [hW2]; exact N2
  have A3 : Hid (At4 W2 w2.heap.size 0 0 ⟨#[]⟩ (.slice none 0 0) (.slice none 0 0)) := by rw [hW2]; exact A2
  generalize w2.heap.size = ba at *
  clear L2 N2 A2 hW2
  obtain ⟨c0, c1, c2, c3⟩ := N3.out.box
  go_upto_region 5 with (go_at_call 19; refine (CR.out HL.out _ N3.out.tree).mono ?_; rintro e w4 ⟨rfl, hb4⟩; have L4 := Lib.hid ((L3.out.later hb4).later (box_below _ (.cells #[.int .i64 0, .string ⟨#[]⟩, .slice none 0 0, .slice none 0 0] 25))); have A4 := Lib.hid (at4_below (at4_below A3.out hb4) (box_below _ (.cells #[.int .i64 0, .string ⟨#[]⟩, .slice none 0 0, .slice none 0 0] 25))); have B4 := Lib.hid (at4_new w4 0 ⟨#[]⟩ (.slice none 0 0) (.slice none 0 0)); clear hb4)
  clear c0 c1 c2 c3
  obtain ⟨W4, hW4⟩ : ∃ W, W = w4.alloc (.cells #[.int .i64 0, .string ⟨#[]⟩, .slice none 0 0, .slice none 0 0] 25) := ⟨_, rfl⟩
  rw [← hW4]
  have L5 : Hid (Lo w W4) := by rw [hW4]; exact L4
  have A5 : Hid (At4 W4 ba 0 0 ⟨#[]⟩ (.slice none 0 0) (.slice none 0 0)) := by rw [hW4]; exact A4
  have B5 : Hid (At4 W4 w4.heap.size 0 0 ⟨#[]⟩ (.slice none 0 0) (.slice none 0 0)) := by rw [hW4]; exact B4
  generalize w4.heap.size = bb at *
  clear L4 A4 B4 hW4
  obtain ⟨c0, c1, c2, c3⟩ := A5.out
  obtain ⟨d0, d1, d2, d3⟩ := B5.out
  go_wp2_with (first
    | (go_at_call 10; refine (awake_any _ L6.out.tabs).mono ?_; rintro e w7 ⟨rfl, hb7⟩; have L7 := Lib.hid (L6.out.later hb7); clear hb7)
    | (go_at_call 20; refine (DE.out _).mono ?_; rintro e w6 ⟨rfl, hb6⟩; have L6 := Lib.hid (L5.out.later hb6); clear hb6 c0 c1 c2 c3 d0 d1 d2 d3))
  go_ret
  exact ⟨rfl, L7.out.low⟩
set_option maxHeartbeats 3200000 in
theorem ll_ok (t : Pl.Tr) (r : Sl) (w : World) (hT : Tabs w) (h : IsT w t r) (hc : Pl.chk t = 0) :
    Calls Tryz.prog 5 #[nv t r] w fun e w' => e = .returned (.bool true) ∧ Below w.heap.size w w' := by
  have L0 := Lib.hid (lo_new hT (nb t r))
  have N0 := Lib.hid (bx_new h)
  have CL : Hid (Li.Lit t → ∀ V, Tabs V → IsT V t r → Calls Tryz.prog 18 #[nv t r] V (LayP (Pl.layout t) V)) := Lib.hid (fun hl V hV hI => layout_ok t V r hV hI hc (by have := hl.1; omega))
  have CR : Hid (Li.Lit t → ∀ V, IsT V t r → Calls Tryz.prog 19 #[nv t r] V (LayP (Pl.layout t) V)) := Lib.hid (fun hl V hI => rLayout_ok t V r hI hc hl)
  have DE := Lib.hid (fun V q q2 hV hV2 => equal_is (Pl.layout t) V q q2 hV hV2)
  clear hc hT h
  generalize Pl.layout t = T at *
  go_enter Tryz.func5, Tryz.ntmps5
  go_upto_region 3 with (go_at_call 9; refine (Li.small_at t _ r N0.out.tree).mono ?_; rintro e w1 ⟨b, hl, rfl, hb1⟩; have L1 := Lib.hid (L0.out.later hb1); have N1 := Lib.hid (N0.out.later hb1); obtain ⟨c0, c1, c2, c3⟩ := (N0.out.later hb1).box; clear hb1; rcases b with _ | _; (focus (clear hl; go_wp2_with (go_at_call 10; refine (awake_any _ L1.out.tabs).mono ?_; rintro e w3 ⟨rfl, hb3⟩; have L3 := Lib.hid (L1.out.later hb3); clear hb3); go_ret; exact ⟨rfl, L3.out.low⟩)); have HL := Lib.hid (hl rfl); clear hl)
  go_upto_region 4 with (go_at_call 18; refine (CL.out HL.out _ L1.out.tabs N1.out.tree).mono ?_; rintro e w2 ⟨⟨ga, gc, da, dc⟩, rfl, ht2, hb2⟩; have L2 := Lib.hid ((L1.out.later hb2).later (box_below _ (nb T ⟨ga, gc, da, dc⟩))); have N2 := Lib.hid ((N1.out.later hb2).later (box_below _ (nb T ⟨ga, gc, da, dc⟩))); have A2 := Lib.hid (bx_new ht2); clear hb2 ht2)
  clear c0 c1 c2 c3
  obtain ⟨W2, hW2⟩ : ∃ W, W = w2.alloc (.cells #[.int .i64 T.kind, .string T.text, .slice ga T.gaps.length gc, .slice da T.kids.length dc] 25) := ⟨_, rfl⟩
  rw [← hW2]
  have L3 : Hid (Lo w W2) := by rw [hW2]; exact L2
  have N3 : Hid (Bx w.heap.size t r W2) := by rw [hW2]; exact N2
  have A3 : Hid (Bx w2.heap.size T ⟨ga, gc, da, dc⟩ W2) := by rw [hW2]; exact A2
  generalize w2.heap.size = ba at *
  clear L2 N2 A2 hW2
  obtain ⟨c0, c1, c2, c3⟩ := N3.out.box
  go_upto_region 5 with (go_at_call 19; refine (CR.out HL.out _ N3.out.tree).mono ?_; rintro e w4 ⟨⟨ga', gc', da', dc'⟩, rfl, ht4, hb4⟩; have L4 := Lib.hid ((L3.out.later hb4).later (box_below _ (nb T ⟨ga', gc', da', dc'⟩))); have A4 := Lib.hid ((A3.out.later hb4).later (box_below _ (nb T ⟨ga', gc', da', dc'⟩))); have B4 := Lib.hid (bx_new ht4); clear hb4 ht4)
  clear c0 c1 c2 c3
  obtain ⟨W4, hW4⟩ : ∃ W, W = w4.alloc (.cells #[.int .i64 T.kind, .string T.text, .slice ga' T.gaps.length gc', .slice da' T.kids.length dc'] 25) := ⟨_, rfl⟩
  rw [← hW4]
  have L5 : Hid (Lo w W4) := by rw [hW4]; exact L4
  have A5 : Hid (Bx ba T ⟨ga, gc, da, dc⟩ W4) := by rw [hW4]; exact A4
  have B5 : Hid (Bx w4.heap.size T ⟨ga', gc', da', dc'⟩ W4) := by rw [hW4]; exact B4
  generalize w4.heap.size = bb at *
  clear L4 A4 B4 hW4
  obtain ⟨c0, c1, c2, c3⟩ := A5.out.box
  obtain ⟨d0, d1, d2, d3⟩ := B5.out.box
  go_wp2_with (first
    | (go_at_call 10; refine (awake_any _ L6.out.tabs).mono ?_; rintro e w7 ⟨rfl, hb7⟩; have L7 := Lib.hid (L6.out.later hb7); clear hb7)
    | (go_at_call 20; refine (DE.out _ ⟨ga, gc, da, dc⟩ ⟨ga', gc', da', dc'⟩ A5.out.tree B5.out.tree).mono ?_; rintro e w6 ⟨rfl, hb6⟩; have L6 := Lib.hid (L5.out.later hb6); clear hb6 c0 c1 c2 c3 d0 d1 d2 d3))
  go_ret
  exact ⟨rfl, L7.out.low⟩
end Go.Proofs.YtiaajpdcacdngaaGreatDoor.Rf

namespace Go.Proofs.YtiaajpdcacdngaaGreatDoor
open Go.RowKit
set_option linter.unusedVariables false
theorem lawLays (t : Pl.Tr) (r : Sl) (w : World) (hT : Tabs w) (h : IsT w t r) :
    Calls Tryz.prog 5 #[.agg #[.int .i64 t.kind, .string t.text, .slice r.ga t.gaps.length r.gc, .slice r.da t.kids.length r.dc]] w fun e w' => e = .returned (.bool true) ∧ Below w.heap.size w w' := by
  by_cases hc : Pl.chk t = 0
  · exact Rf.ll_ok t r w hT h hc
  · exact Rf.ll_bad t r w hT h hc
end Go.Proofs.YtiaajpdcacdngaaGreatDoor
