/- The walk of the law PrintLayout. -/
import Derived.Test.YtiaajpdcacdngaaGreatDoorLBase
import Derived.Test.YtiaajpdcacdngaaGreatDoorClose
import Derived.Test.YtiaajpdcacdngaaGreatDoorCard
namespace Go.Proofs.YtiaajpdcacdngaaGreatDoor.Aw
open Go.RowKit
set_option linter.unusedVariables false
set_option linter.unusedSimpArgs false
set_option maxRecDepth 100000

set_option maxHeartbeats 1600000 in
theorem playout_bad (t : Pl.Tr) (r : Sl) (w : World) (hT : Tabs w) (h : IsT w t r) (hc : ¬ Pl.chk t = 0) :
    Calls Tryz.prog 6 #[nv t r] w fun e w' => e = .returned (.bool true) ∧ Below w.heap.size w w' := by
  obtain ⟨v, hv⟩ : ∃ v, v = Pl.chk t := ⟨_, rfl⟩
  rw [← hv] at hc
  obtain ⟨v1, v2⟩ := int_neq2 hc
  have L0 := Lib.hid (lo_new hT (nb t r))
  have N0 := Lib.hid (bx_new h)
  have CK := Lib.hid (fun hl V hV => rcheck_is t v hv.symm hl V r hV)
  clear hc hv hT h
  go_enter Tryz.func6, Tryz.ntmps6
  go_wp2_with (first
    | (go_at_call 10; refine (awake_any _ L2.out.tabs).mono ?_; rintro e w3 ⟨rfl, hb3⟩; have L3 := Lib.hid (L2.out.later hb3); clear hb3)
    | (go_at_call 10; refine (awake_any _ L1.out.tabs).mono ?_; rintro e w3 ⟨rfl, hb3⟩; have L3 := Lib.hid (L1.out.later hb3); clear hb3)
    | (go_at_call 21; refine (CK.out (HL.out (by trivial)) _ N1.out.tree).mono ?_; rintro e w2 ⟨rfl, hb2⟩; have L2 := Lib.hid (L1.out.later hb2); clear hb2)
    | (go_at_call 9; refine (Li.small_at t _ r N0.out.tree).mono ?_; rintro e w1 ⟨b, hl, rfl, hb1⟩; have L1 := Lib.hid (L0.out.later hb1); have N1 := Lib.hid (N0.out.later hb1); obtain ⟨c0, c1, c2, c3⟩ := (N0.out.later hb1).box; clear hb1; have HL := Lib.hid hl; clear hl; cases b))
  all_goals go_ret
  all_goals exact ⟨rfl, L3.out.low⟩
set_option maxHeartbeats 3200000 in
theorem playout_ok (t : Pl.Tr) (r : Sl) (w : World) (hT : Tabs w) (h : IsT w t r) (hc : Pl.chk t = 0) :
    Calls Tryz.prog 6 #[nv t r] w fun e w' => e = .returned (.bool true) ∧ Below w.heap.size w w' := by
  have L0 := Lib.hid (lo_new hT (nb t r))
  have N0 := Lib.hid (bx_new h)
  have CK := Lib.hid (fun hl V hV => rcheck_is t 0 hc hl V r hV)
  have CL : Hid (Li.Lit t → ∀ V, Tabs V → IsT V t r → Calls Tryz.prog 18 #[nv t r] V (LayP (Pl.layout t) V)) := Lib.hid (fun hl V hV hI => layout_ok t V r hV hI hc (by have := hl.1; omega))
  obtain ⟨x, hx⟩ : ∃ x, x = Pl.mk (Pl.source (Pl.bare t)) := ⟨_, rfl⟩
  have CP : Hid (Li.Lit t → ∀ V, Tabs V → IsT V t r → Calls Tryz.prog 16 #[nv t r] V (StrP x V)) := Lib.hid (fun hl V hV hI => plain_ok t V r x hV hI hc (by have := hl.1; omega) (bare_len t hc hl) hx.symm)
  have hzl : ∀ hl : Li.Lit t, Pl.sz (Pl.layout t) ≤ 250 := fun hl => by unfold Pl.layout; rw [Pl.lay_sz]; exact hl.1
  have hcl : ∀ hl : Li.Lit t, Pl.chk (Pl.layout t) = 0 := fun hl => Pl.layout_chk t hc (by have := hl.1; omega)
  have DK : Hid (Li.Lit t → ∀ V q, IsT V (Pl.layout t) q → Calls Tryz.prog 21 #[nv (Pl.layout t) q] V fun e w' => e = .returned (.int .i64 0) ∧ Below V.heap.size V w') := Lib.hid (fun hl V q hV => by
    have := rcheck_at (Pl.layout t) V q hV
    rwa [← Pl.chk_rchk _ (by have := hzl hl; omega), hcl hl] at this)
  have DL : Hid (Li.Lit t → ∀ V q, Tabs V → IsT V (Pl.layout t) q → Calls Tryz.prog 18 #[nv (Pl.layout t) q] V (LayP (Pl.layout t) V)) := Lib.hid (fun hl V q hV hI => by
    have := layout_ok (Pl.layout t) V q hV hI (hcl hl) (by have := hzl hl; omega)
    unfold LayoutP at this
    rwa [Pl.layout_layout] at this)
  have hsl : ∀ hl : Li.Lit t, Pl.source (Pl.layout t) = Pl.source (Pl.bare t) := fun hl => Pl.source_layout t (Pl.chk_zero t hc).2.2.2 (by have := hl.1; omega)
  have DX : Hid (Li.Lit t → ∀ V q, Tabs V → IsT V (Pl.layout t) q → Calls Tryz.prog 14 #[nv (Pl.layout t) q] V (StrP x V)) := Lib.hid (fun hl V q hV hI =>
    text_ok (Pl.layout t) V q x hV hI (hcl hl) (by have := hzl hl; omega) (by rw [hsl hl]; exact bare_len t hc hl) (by rw [hsl hl]; exact hx.symm))
  have DS := Lib.hid (fun V q hV hV2 => same_is (Pl.layout t) t (Pl.lay_bare t 0 _) V q r hV hV2)
  have DE := Lib.hid (fun V q q2 hV hV2 => equal_is (Pl.layout t) V q q2 hV hV2)
  clear hzl hcl hsl hx hc hT h
  generalize Pl.layout t = T at *
  go_enter Tryz.func6, Tryz.ntmps6
  go_upto_region 3 with (first
    | (go_at_call 21; refine (CK.out HL.out _ N1.out.tree).mono ?_; rintro e w2 ⟨rfl, hb2⟩; have L2 := Lib.hid (L1.out.later hb2); have N2 := Lib.hid (N1.out.later hb2); clear hb2)
    | (go_at_call 9; refine (Li.small_at t _ r N0.out.tree).mono ?_; rintro e w1 ⟨b, hl, rfl, hb1⟩; have L1 := Lib.hid (L0.out.later hb1); have N1 := Lib.hid (N0.out.later hb1); obtain ⟨c0, c1, c2, c3⟩ := (N0.out.later hb1).box; clear hb1; rcases b with _ | _;
        (focus (clear hl; go_wp2_with (go_at_call 10; refine (awake_any _ L1.out.tabs).mono ?_; rintro e w3 ⟨rfl, hb3⟩; have L3 := Lib.hid (L1.out.later hb3); clear hb3); go_ret; exact ⟨rfl, L3.out.low⟩));
        have HL := Lib.hid (hl rfl); clear hl))
  clear c0 c1 c2 c3 L0 N0 L1 N1
  obtain ⟨c0, c1, c2, c3⟩ := N2.out.box
  go_upto_region 4 with (go_at_call 18; refine (CL.out HL.out _ L2.out.tabs N2.out.tree).mono ?_; rintro e w3 ⟨⟨ga, gc, da, dc⟩, rfl, ht3, hb3⟩; have L3 := Lib.hid ((L2.out.later hb3).later (box_below _ (nb T ⟨ga, gc, da, dc⟩))); have N3 := Lib.hid ((N2.out.later hb3).later (box_below _ (nb T ⟨ga, gc, da, dc⟩))); have A3 := Lib.hid (bx_new ht3); clear hb3 ht3)
  clear c0 c1 c2 c3 L2 N2
  obtain ⟨W3, hW3⟩ : ∃ W, W = w3.alloc (.cells #[.int .i64 T.kind, .string T.text, .slice ga T.gaps.length gc, .slice da T.kids.length dc] 25) := ⟨_, rfl⟩
  rw [← hW3]
  have L4 : Hid (Lo w W3) := by rw [hW3]; exact L3
  have N4 : Hid (Bx w.heap.size t r W3) := by rw [hW3]; exact N3
  have A4 : Hid (Bx w3.heap.size T ⟨ga, gc, da, dc⟩ W3) := by rw [hW3]; exact A3
  generalize w3.heap.size = ba at *
  clear L3 N3 A3 hW3
  obtain ⟨c0, c1, c2, c3⟩ := N4.out.box
  obtain ⟨d0, d1, d2, d3⟩ := A4.out.box
  go_upto_region 6 with (first
    | (go_at_call 21; refine (DK.out HL.out _ ⟨ga, gc, da, dc⟩ A5.out.tree).mono ?_; rintro e w6 ⟨rfl, hb6⟩; have L6 := Lib.hid (L5.out.later hb6); have N6 := Lib.hid (N5.out.later hb6); have A6 := Lib.hid (A5.out.later hb6); clear hb6)
    | (go_at_call 22; refine (DS.out _ ⟨ga, gc, da, dc⟩ A4.out.tree N4.out.tree).mono ?_; rintro e w5 ⟨rfl, hb5⟩; have L5 := Lib.hid (L4.out.later hb5); have N5 := Lib.hid (N4.out.later hb5); have A5 := Lib.hid (A4.out.later hb5); clear hb5 c0 c1 c2 c3 d0 d1 d2 d3; obtain ⟨d0, d1, d2, d3⟩ := A5.out.box))
  clear d0 d1 d2 d3 L4 N4 A4 L5 N5 A5
  obtain ⟨d0, d1, d2, d3⟩ := A6.out.box
  go_upto_region 7 with (go_at_call 18; refine (DL.out HL.out _ ⟨ga, gc, da, dc⟩ L6.out.tabs A6.out.tree).mono ?_; rintro e w7 ⟨⟨ga', gc', da', dc'⟩, rfl, ht7, hb7⟩; have L7 := Lib.hid ((L6.out.later hb7).later (box_below _ (nb T ⟨ga', gc', da', dc'⟩))); have N7 := Lib.hid ((N6.out.later hb7).later (box_below _ (nb T ⟨ga', gc', da', dc'⟩))); have A7 := Lib.hid ((A6.out.later hb7).later (box_below _ (nb T ⟨ga', gc', da', dc'⟩))); have B7 := Lib.hid (bx_new ht7); clear hb7 ht7)
  clear d0 d1 d2 d3 L6 N6 A6
  obtain ⟨W7, hW7⟩ : ∃ W, W = w7.alloc (.cells #[.int .i64 T.kind, .string T.text, .slice ga' T.gaps.length gc', .slice da' T.kids.length dc'] 25) := ⟨_, rfl⟩
  rw [← hW7]
  have L8 : Hid (Lo w W7) := by rw [hW7]; exact L7
  have N8 : Hid (Bx w.heap.size t r W7) := by rw [hW7]; exact N7
  have A8 : Hid (Bx ba T ⟨ga, gc, da, dc⟩ W7) := by rw [hW7]; exact A7
  have B8 : Hid (Bx w7.heap.size T ⟨ga', gc', da', dc'⟩ W7) := by rw [hW7]; exact B7
  generalize w7.heap.size = bb at *
  clear L7 N7 A7 B7 hW7
  obtain ⟨d0, d1, d2, d3⟩ := A8.out.box
  go_upto_region 8 with (go_at_call 14; refine (DX.out HL.out _ ⟨ga, gc, da, dc⟩ L8.out.tabs A8.out.tree).mono ?_; rintro e w9 ⟨rfl, hb9⟩; have L9 := Lib.hid (L8.out.later hb9); have N9 := Lib.hid (N8.out.later hb9); have A9 := Lib.hid (A8.out.later hb9); have B9 := Lib.hid (B8.out.later hb9); clear hb9)
  clear d0 d1 d2 d3 L8 N8 A8 B8
  obtain ⟨c0, c1, c2, c3⟩ := N9.out.box
  go_upto_region 9 with (go_at_call 16; refine (CP.out HL.out _ L9.out.tabs N9.out.tree).mono ?_; rintro e w10 ⟨rfl, hb10⟩; have L10 := Lib.hid (L9.out.later hb10); have A10 := Lib.hid (A9.out.later hb10); have B10 := Lib.hid (B9.out.later hb10); clear hb10)
  clear c0 c1 c2 c3 L9 N9 A9 B9
  obtain ⟨c0, c1, c2, c3⟩ := A10.out.box
  obtain ⟨d0, d1, d2, d3⟩ := B10.out.box
  go_wp2_with (first
    | (go_at_call 10; refine (awake_any _ L11.out.tabs).mono ?_; rintro e w12 ⟨rfl, hb12⟩; have L12 := Lib.hid (L11.out.later hb12); clear hb12)
    | (go_at_call 20; refine (DE.out _ ⟨ga, gc, da, dc⟩ ⟨ga', gc', da', dc'⟩ A10.out.tree B10.out.tree).mono ?_; rintro e w11 ⟨rfl, hb11⟩; have L11 := Lib.hid (L10.out.later hb11); clear hb11 c0 c1 c2 c3 d0 d1 d2 d3))
  go_ret
  exact ⟨rfl, L12.out.low⟩
theorem playout_any (t : Pl.Tr) (r : Sl) (w : World) (hT : Tabs w) (h : IsT w t r) :
    Calls Tryz.prog 6 #[nv t r] w fun e w' => e = .returned (.bool true) ∧ Below w.heap.size w w' := by
  by_cases hc : Pl.chk t = 0
  · exact playout_ok t r w hT h hc
  · exact playout_bad t r w hT h hc
end Go.Proofs.YtiaajpdcacdngaaGreatDoor.Aw

namespace Go.Proofs.YtiaajpdcacdngaaGreatDoor
open Go.RowKit
set_option linter.unusedVariables false
theorem lawLayout (t : Pl.Tr) (r : Sl) (w : World) (hT : Tabs w) (h : IsT w t r) :
    Calls Tryz.prog 6 #[.agg #[.int .i64 t.kind, .string t.text, .slice r.ga t.gaps.length r.gc, .slice r.da t.kids.length r.dc]] w fun e w' => e = .returned (.bool true) ∧ Below w.heap.size w w' := Aw.playout_any t r w hT h
end Go.Proofs.YtiaajpdcacdngaaGreatDoor
