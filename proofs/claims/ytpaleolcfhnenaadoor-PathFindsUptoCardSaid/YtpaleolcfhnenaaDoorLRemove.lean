/- The walk of the law PathRemoves. -/
import Derived.Test.YtpaleolcfhnenaaDoorLaw
import Derived.Test.YtpaleolcfhnenaaDoorUndo
namespace Go.Proofs.YtpaleolcfhnenaaDoor.Rt
open Go.RowKit
set_option linter.unusedVariables false
set_option linter.unusedSimpArgs false
set_option maxRecDepth 100000

set_option maxHeartbeats 6400000 in
theorem removes_chk (G : Prog) (t x : Pl.Tr) (r rx : Sl) (p : List Int) (a : Option Addr) (c : Nat) (w : World) (hT : Tabs w) (h : IsT w t r) (hx : IsT w x rx) (hp : IsI w a p) (hc : p.length ≤ c) (cv : Int) (hcv : (cv == 0) = false) (hck : Pl.rchk t = cv) :
    Calls Tryd.prog 7 #[nvx t r, .slice a p.length c, nvx x rx] w fun e w' => e = .returned (.bool true) ∧ Below w.heap.size w w' := by
  have L0 : Hid (Lo w ((w.alloc (nb t r)).alloc (nb x rx))) := Lib.hid ((lo_new hT (nb t r)).later (box_below _ _))
  have N0 : Hid (Bx w.heap.size t r ((w.alloc (nb t r)).alloc (nb x rx))) := Lib.hid ((bx_new h).later (box_below _ _))
  have X0 : Hid (Bx (w.heap.size + 1) x rx ((w.alloc (nb t r)).alloc (nb x rx))) := Lib.hid (by have := bx_new (hx.later (box_below w (nb t r))); rwa [show (w.alloc (nb t r)).heap.size = w.heap.size + 1 by simp] at this)
  have J0 : Hid (IsI ((w.alloc (nb t r)).alloc (nb x rx)) a p) := Lib.hid ((hp.later (box_below _ _)).later (box_below _ _))
  have HG := Lib.hid G
  have HCk := Lib.hid hck
  obtain ⟨m, hm⟩ : ∃ m, m = p.length := ⟨_, rfl⟩
  rw [← hm]
  clear hT h hx hp hc hm hck
  go_enter Tryd.func7, Tryd.ntmps7
  obtain ⟨c0, c1, c2, c3⟩ := N0.out.box
  obtain ⟨x0, x1, x2, x3⟩ := X0.out.box
  go_wp2_with (first
    | (go_at_call 10; refine (HG.out.awake _ L3.out.tabs).mono ?_; rintro e w93 ⟨rfl, hb93⟩; have L93 := Lib.hid (L3.out.later hb93); clear hb93)
    | (go_at_call 25; refine (rcheck_at t _ r N2.out.tree).mono ?_; rw [HCk.out]; rintro e w3 ⟨rfl, hb3⟩; have L3 := Lib.hid (L2.out.later hb3); have N3 := Lib.hid (N2.out.later hb3); have X3 := Lib.hid (X2.out.later hb3); have J3 := Lib.hid (J2.out.later hb3); clear c0 c1 c2 c3; obtain ⟨c0, c1, c2, c3⟩ := N3.out.box; clear x0 x1 x2 x3; obtain ⟨x0, x1, x2, x3⟩ := X3.out.box; clear hb3)
    | (go_at_call 9; have g9 := HL.out; clear g9; refine (small_is x rx _ X1.out.tree).mono ?_; rintro e w2 ⟨b, hl, rfl, hb2⟩; have L2 := Lib.hid (L1.out.later hb2); have N2 := Lib.hid (N1.out.later hb2); have X2 := Lib.hid (X1.out.later hb2); have J2 := Lib.hid (J1.out.later hb2); clear c0 c1 c2 c3; obtain ⟨c0, c1, c2, c3⟩ := N2.out.box; clear x0 x1 x2 x3; obtain ⟨x0, x1, x2, x3⟩ := X2.out.box; clear hb2; rcases b with _ | _; (focus (clear hl; go_wp2_with (go_at_call 10; refine (HG.out.awake _ L2.out.tabs).mono ?_; rintro e w92 ⟨rfl, hb92⟩; have L92 := Lib.hid (L2.out.later hb92); clear hb92); go_ret; exact ⟨rfl, L92.out.low⟩)); have HX2 : Hid (Pl.sz x ≤ 300) := Lib.hid (hl rfl); clear hl)
    | (go_at_call 9; refine (small_is t r _ N0.out.tree).mono ?_; rintro e w1 ⟨b, hl, rfl, hb1⟩; have L1 := Lib.hid (L0.out.later hb1); have N1 := Lib.hid (N0.out.later hb1); have X1 := Lib.hid (X0.out.later hb1); have J1 := Lib.hid (J0.out.later hb1); clear c0 c1 c2 c3; obtain ⟨c0, c1, c2, c3⟩ := N1.out.box; clear x0 x1 x2 x3; obtain ⟨x0, x1, x2, x3⟩ := X1.out.box; clear hb1; rcases b with _ | _; (focus (clear hl; go_wp2_with (go_at_call 10; refine (HG.out.awake _ L1.out.tabs).mono ?_; rintro e w91 ⟨rfl, hb91⟩; have L91 := Lib.hid (L1.out.later hb91); clear hb91); go_ret; exact ⟨rfl, L91.out.low⟩)); have HL : Hid (Pl.sz t ≤ 300) := Lib.hid (hl rfl); clear hl))
  go_ret
  exact ⟨rfl, L93.out.low⟩
set_option maxHeartbeats 6400000 in
theorem removes_err (G : Prog) (t x : Pl.Tr) (r rx : Sl) (p : List Int) (a : Option Addr) (c : Nat) (w : World) (hT : Tabs w) (h : IsT w t r) (hx : IsT w x rx) (hp : IsI w a p) (hc : p.length ≤ c) (hck : Pl.rchk t = 0) (E : Int) (hE : (E == 0) = false) (hE1 : E = Pl.insE t p x) :
    Calls Tryd.prog 7 #[nvx t r, .slice a p.length c, nvx x rx] w fun e w' => e = .returned (.bool true) ∧ Below w.heap.size w w' := by
  have L0 : Hid (Lo w ((w.alloc (nb t r)).alloc (nb x rx))) := Lib.hid ((lo_new hT (nb t r)).later (box_below _ _))
  have N0 : Hid (Bx w.heap.size t r ((w.alloc (nb t r)).alloc (nb x rx))) := Lib.hid ((bx_new h).later (box_below _ _))
  have X0 : Hid (Bx (w.heap.size + 1) x rx ((w.alloc (nb t r)).alloc (nb x rx))) := Lib.hid (by have := bx_new (hx.later (box_below w (nb t r))); rwa [show (w.alloc (nb t r)).heap.size = w.heap.size + 1 by simp] at this)
  have J0 : Hid (IsI ((w.alloc (nb t r)).alloc (nb x rx)) a p) := Lib.hid ((hp.later (box_below _ _)).later (box_below _ _))
  have HG := Lib.hid G
  have HCk := Lib.hid hck
  obtain ⟨u1, hu1⟩ : ∃ u, u = if E = 0 then Pl.insT t p x else zeroT := ⟨_, rfl⟩
  have C1 := Lib.hid (fun V hV hI hX hA hz hz2 => (G.insert t x r rx p a c V hV hI hX hA hc hz hz2).mono fun e w' hr => (by have hr := res_u hr; rw [← hE1, ← hu1] at hr; exact hr : GetU E u1 V e w'))
  unfold GetU at C1
  obtain ⟨m, hm⟩ : ∃ m, m = p.length := ⟨_, rfl⟩
  rw [← hm] at C1 ⊢
  clear hT h hx hp hc hm hck hE1 hu1
  go_enter Tryd.func7, Tryd.ntmps7
  obtain ⟨c0, c1, c2, c3⟩ := N0.out.box
  obtain ⟨x0, x1, x2, x3⟩ := X0.out.box
  go_upto_region 3 with (first
    | (go_at_call 25; refine (rcheck_at t _ r N2.out.tree).mono ?_; rw [HCk.out]; rintro e w3 ⟨rfl, hb3⟩; have L3 := Lib.hid (L2.out.later hb3); have N3 := Lib.hid (N2.out.later hb3); have X3 := Lib.hid (X2.out.later hb3); have J3 := Lib.hid (J2.out.later hb3); clear c0 c1 c2 c3; obtain ⟨c0, c1, c2, c3⟩ := N3.out.box; clear x0 x1 x2 x3; obtain ⟨x0, x1, x2, x3⟩ := X3.out.box; clear hb3)
    | (go_at_call 9; have g9 := HL.out; clear g9; refine (small_is x rx _ X1.out.tree).mono ?_; rintro e w2 ⟨b, hl, rfl, hb2⟩; have L2 := Lib.hid (L1.out.later hb2); have N2 := Lib.hid (N1.out.later hb2); have X2 := Lib.hid (X1.out.later hb2); have J2 := Lib.hid (J1.out.later hb2); clear c0 c1 c2 c3; obtain ⟨c0, c1, c2, c3⟩ := N2.out.box; clear x0 x1 x2 x3; obtain ⟨x0, x1, x2, x3⟩ := X2.out.box; clear hb2; rcases b with _ | _; (focus (clear hl; go_wp2_with (go_at_call 10; refine (HG.out.awake _ L2.out.tabs).mono ?_; rintro e w92 ⟨rfl, hb92⟩; have L92 := Lib.hid (L2.out.later hb92); clear hb92); go_ret; exact ⟨rfl, L92.out.low⟩)); have HX2 : Hid (Pl.sz x ≤ 300) := Lib.hid (hl rfl); clear hl)
    | (go_at_call 9; refine (small_is t r _ N0.out.tree).mono ?_; rintro e w1 ⟨b, hl, rfl, hb1⟩; have L1 := Lib.hid (L0.out.later hb1); have N1 := Lib.hid (N0.out.later hb1); have X1 := Lib.hid (X0.out.later hb1); have J1 := Lib.hid (J0.out.later hb1); clear c0 c1 c2 c3; obtain ⟨c0, c1, c2, c3⟩ := N1.out.box; clear x0 x1 x2 x3; obtain ⟨x0, x1, x2, x3⟩ := X1.out.box; clear hb1; rcases b with _ | _; (focus (clear hl; go_wp2_with (go_at_call 10; refine (HG.out.awake _ L1.out.tabs).mono ?_; rintro e w91 ⟨rfl, hb91⟩; have L91 := Lib.hid (L1.out.later hb91); clear hb91); go_ret; exact ⟨rfl, L91.out.low⟩)); have HL : Hid (Pl.sz t ≤ 300) := Lib.hid (hl rfl); clear hl))
  have HL1 : Hid (Pl.sz t ≤ 10000) := Lib.hid (by have := HL.out; omega)
  have HL2 : Hid (Pl.sz x ≤ 10000) := Lib.hid (by have := HX2.out; omega)
  go_upto_region 6 with (go_at_call 21; refine (C1.out _ L3.out.tabs N3.out.tree X3.out.tree J3.out HL1.out HL2.out).mono ?_; rintro e w4 ⟨hb4, q1, ht4, rfl⟩; have L4 := Lib.hid (L3.out.later hb4); have N4 := Lib.hid (N3.out.later hb4); have X4 := Lib.hid (X3.out.later hb4); have J4 := Lib.hid (J3.out.later hb4); have U4 := Lib.hid (bx_new ht4.out); clear c0 c1 c2 c3; obtain ⟨c0, c1, c2, c3⟩ := N4.out.box; clear x0 x1 x2 x3; obtain ⟨x0, x1, x2, x3⟩ := X4.out.box; clear hb4)
  have L5 := Lib.hid (L4.out.later (box_below w4 (nb u1 q1)))
  have N5 := Lib.hid (N4.out.later (box_below w4 (nb u1 q1)))
  have X5 := Lib.hid (X4.out.later (box_below w4 (nb u1 q1)))
  have J5 := Lib.hid (J4.out.later (box_below w4 (nb u1 q1)))
  have U5 := U4
  clear U4
  generalize hW5 : w4.alloc (nb u1 q1) = w5 at *
  clear c0 c1 c2 c3
  obtain ⟨c0, c1, c2, c3⟩ := N5.out.box
  clear x0 x1 x2 x3
  obtain ⟨x0, x1, x2, x3⟩ := X5.out.box
  obtain ⟨d0, d1, d2, d3⟩ := U5.out.box
  go_wp2_with (go_at_call 10; refine (HG.out.awake _ L5.out.tabs).mono ?_; rintro e w95 ⟨rfl, hb95⟩; have L95 := Lib.hid (L5.out.later hb95); clear hb95)
  go_ret
  exact ⟨rfl, L95.out.low⟩
set_option maxHeartbeats 6400000 in
theorem removes_ok (G : Prog) (t x : Pl.Tr) (r rx : Sl) (p : List Int) (a : Option Addr) (c : Nat) (w : World) (hT : Tabs w) (h : IsT w t r) (hx : IsT w x rx) (hp : IsI w a p) (hc : p.length ≤ c) (hck : Pl.rchk t = 0) (hE1 : Pl.insE t p x = 0) :
    Calls Tryd.prog 7 #[nvx t r, .slice a p.length c, nvx x rx] w fun e w' => e = .returned (.bool true) ∧ Below w.heap.size w w' := by
  have L0 : Hid (Lo w ((w.alloc (nb t r)).alloc (nb x rx))) := Lib.hid ((lo_new hT (nb t r)).later (box_below _ _))
  have N0 : Hid (Bx w.heap.size t r ((w.alloc (nb t r)).alloc (nb x rx))) := Lib.hid ((bx_new h).later (box_below _ _))
  have X0 : Hid (Bx (w.heap.size + 1) x rx ((w.alloc (nb t r)).alloc (nb x rx))) := Lib.hid (by have := bx_new (hx.later (box_below w (nb t r))); rwa [show (w.alloc (nb t r)).heap.size = w.heap.size + 1 by simp] at this)
  have J0 : Hid (IsI ((w.alloc (nb t r)).alloc (nb x rx)) a p) := Lib.hid ((hp.later (box_below _ _)).later (box_below _ _))
  have HG := Lib.hid G
  have HCk := Lib.hid hck
  have HPl := Lib.hid (fun hz hx => Pl.removes_plain (p := p) (x := x) hck hz hx hE1)
  have C1 := Lib.hid (fun V hV hI hX hA hz hz2 => (G.insert t x r rx p a c V hV hI hX hA hc hz hz2).mono fun e w' hr => (by have hr := res_u hr; rw [hE1, if_pos rfl] at hr; exact hr : GetU 0 (Pl.insT t p x) V e w'))
  obtain ⟨y, hy⟩ : ∃ y, y = Pl.insT t p x := ⟨_, rfl⟩
  rw [← hy] at C1 HPl
  obtain ⟨z, hz⟩ : ∃ z, z = Pl.remT y p := ⟨_, rfl⟩
  rw [← hz] at HPl
  have hcy : Pl.rchk y = 0 := by rw [hy]; exact Pl.insE_ok hE1
  have C2 := Lib.hid (fun q V hV hI hA hz (hg : Pl.getP p y = some x) => (G.get y q p a c V hV hI hA hc hz (Pl.gb_rp hcy p)).mono fun e w' hr => get_some_u hg hr)
  have C3 := Lib.hid (fun q V hV hI hA hzz (hg : Pl.remE y p = 0) => (G.remove y q p a c V hV hI hA hc hzz).mono fun e w' hr => (by have hr := res_u hr; rw [hg, if_pos rfl, ← hz] at hr; exact hr : GetU 0 z V e w'))
  have Q1 := Lib.hid (fun V r1 r2 h k => equal_is x x r1 r2 true (eqT_iff.2 rfl) V h k)
  have Q2 := Lib.hid (fun V r1 r2 hs h k => same_is z t r1 r2 hs V h k)
  unfold GetU at C1 C2 C3
  obtain ⟨m, hm⟩ : ∃ m, m = p.length := ⟨_, rfl⟩
  rw [← hm] at C1 C2 C3 ⊢
  clear hT h hx hp hc hm hck hE1 hy hz
  go_enter Tryd.func7, Tryd.ntmps7
  obtain ⟨c0, c1, c2, c3⟩ := N0.out.box
  obtain ⟨x0, x1, x2, x3⟩ := X0.out.box
  go_upto_region 3 with (first
    | (go_at_call 25; refine (rcheck_at t _ r N2.out.tree).mono ?_; rw [HCk.out]; rintro e w3 ⟨rfl, hb3⟩; have L3 := Lib.hid (L2.out.later hb3); have N3 := Lib.hid (N2.out.later hb3); have X3 := Lib.hid (X2.out.later hb3); have J3 := Lib.hid (J2.out.later hb3); clear c0 c1 c2 c3; obtain ⟨c0, c1, c2, c3⟩ := N3.out.box; clear x0 x1 x2 x3; obtain ⟨x0, x1, x2, x3⟩ := X3.out.box; clear hb3)
    | (go_at_call 9; have g9 := HL.out; clear g9; refine (small_is x rx _ X1.out.tree).mono ?_; rintro e w2 ⟨b, hl, rfl, hb2⟩; have L2 := Lib.hid (L1.out.later hb2); have N2 := Lib.hid (N1.out.later hb2); have X2 := Lib.hid (X1.out.later hb2); have J2 := Lib.hid (J1.out.later hb2); clear c0 c1 c2 c3; obtain ⟨c0, c1, c2, c3⟩ := N2.out.box; clear x0 x1 x2 x3; obtain ⟨x0, x1, x2, x3⟩ := X2.out.box; clear hb2; rcases b with _ | _; (focus (clear hl; go_wp2_with (go_at_call 10; refine (HG.out.awake _ L2.out.tabs).mono ?_; rintro e w92 ⟨rfl, hb92⟩; have L92 := Lib.hid (L2.out.later hb92); clear hb92); go_ret; exact ⟨rfl, L92.out.low⟩)); have HX2 : Hid (Pl.sz x ≤ 300) := Lib.hid (hl rfl); clear hl)
    | (go_at_call 9; refine (small_is t r _ N0.out.tree).mono ?_; rintro e w1 ⟨b, hl, rfl, hb1⟩; have L1 := Lib.hid (L0.out.later hb1); have N1 := Lib.hid (N0.out.later hb1); have X1 := Lib.hid (X0.out.later hb1); have J1 := Lib.hid (J0.out.later hb1); clear c0 c1 c2 c3; obtain ⟨c0, c1, c2, c3⟩ := N1.out.box; clear x0 x1 x2 x3; obtain ⟨x0, x1, x2, x3⟩ := X1.out.box; clear hb1; rcases b with _ | _; (focus (clear hl; go_wp2_with (go_at_call 10; refine (HG.out.awake _ L1.out.tabs).mono ?_; rintro e w91 ⟨rfl, hb91⟩; have L91 := Lib.hid (L1.out.later hb91); clear hb91); go_ret; exact ⟨rfl, L91.out.low⟩)); have HL : Hid (Pl.sz t ≤ 300) := Lib.hid (hl rfl); clear hl))
  have HL1 : Hid (Pl.sz t ≤ 10000) := Lib.hid (by have := HL.out; omega)
  have HL2 : Hid (Pl.sz x ≤ 10000) := Lib.hid (by have := HX2.out; omega)
  have HQ := Lib.hid (HPl.out HL.out HX2.out)
  go_upto_region 6 with (go_at_call 21; refine (C1.out _ L3.out.tabs N3.out.tree X3.out.tree J3.out HL1.out HL2.out).mono ?_; rintro e w4 ⟨hb4, q1, ht4, rfl⟩; have L4 := Lib.hid (L3.out.later hb4); have N4 := Lib.hid (N3.out.later hb4); have X4 := Lib.hid (X3.out.later hb4); have J4 := Lib.hid (J3.out.later hb4); have Y4 := Lib.hid (bx_new ht4.out); clear c0 c1 c2 c3; obtain ⟨c0, c1, c2, c3⟩ := N4.out.box; clear x0 x1 x2 x3; obtain ⟨x0, x1, x2, x3⟩ := X4.out.box; clear hb4)
  have L5 := Lib.hid (L4.out.later (box_below w4 (nb y q1)))
  have N5 := Lib.hid (N4.out.later (box_below w4 (nb y q1)))
  have X5 := Lib.hid (X4.out.later (box_below w4 (nb y q1)))
  have J5 := Lib.hid (J4.out.later (box_below w4 (nb y q1)))
  have Y5 := Y4
  clear Y4
  generalize hW5 : w4.alloc (nb y q1) = w5 at *
  clear c0 c1 c2 c3
  obtain ⟨c0, c1, c2, c3⟩ := N5.out.box
  clear x0 x1 x2 x3
  obtain ⟨x0, x1, x2, x3⟩ := X5.out.box
  obtain ⟨g0, g1, g2, g3⟩ := Y5.out.box
  go_upto_region 7 with (go_at_call 15; refine (C2.out q1 _ L5.out.tabs Y5.out.tree J5.out HQ.out.2.2.2 HQ.out.1).mono ?_; rintro e w6 ⟨hb6, q2, ht6, rfl⟩; have L6 := Lib.hid (L5.out.later hb6); have N6 := Lib.hid (N5.out.later hb6); have X6 := Lib.hid (X5.out.later hb6); have J6 := Lib.hid (J5.out.later hb6); have Y6 := Lib.hid (Y5.out.later hb6); have Z6 := Lib.hid (bx_new ht6.out); clear c0 c1 c2 c3; obtain ⟨c0, c1, c2, c3⟩ := N6.out.box; clear x0 x1 x2 x3; obtain ⟨x0, x1, x2, x3⟩ := X6.out.box; clear g0 g1 g2 g3; obtain ⟨g0, g1, g2, g3⟩ := Y6.out.box; clear hb6)
  have L7 := Lib.hid (L6.out.later (box_below w6 (nb x q2)))
  have N7 := Lib.hid (N6.out.later (box_below w6 (nb x q2)))
  have X7 := Lib.hid (X6.out.later (box_below w6 (nb x q2)))
  have J7 := Lib.hid (J6.out.later (box_below w6 (nb x q2)))
  have Y7 := Lib.hid (Y6.out.later (box_below w6 (nb x q2)))
  have Z7 := Z6
  clear Z6
  generalize hW7 : w6.alloc (nb x q2) = w7 at *
  clear c0 c1 c2 c3
  obtain ⟨c0, c1, c2, c3⟩ := N7.out.box
  clear x0 x1 x2 x3
  obtain ⟨x0, x1, x2, x3⟩ := X7.out.box
  clear g0 g1 g2 g3
  obtain ⟨g0, g1, g2, g3⟩ := Y7.out.box
  obtain ⟨h0, h1, h2, h3⟩ := Z7.out.box
  go_upto_region 8 with (go_at_call 23; refine (C3.out q1 _ L7.out.tabs Y7.out.tree J7.out HQ.out.2.2.2 HQ.out.2.1).mono ?_; rintro e w8 ⟨hb8, q3, ht8, rfl⟩; have L8 := Lib.hid (L7.out.later hb8); have N8 := Lib.hid (N7.out.later hb8); have X8 := Lib.hid (X7.out.later hb8); have J8 := Lib.hid (J7.out.later hb8); have Y8 := Lib.hid (Y7.out.later hb8); have Z8 := Lib.hid (Z7.out.later hb8); have S8 := Lib.hid (bx_new ht8.out); clear c0 c1 c2 c3; obtain ⟨c0, c1, c2, c3⟩ := N8.out.box; clear x0 x1 x2 x3; obtain ⟨x0, x1, x2, x3⟩ := X8.out.box; clear g0 g1 g2 g3; obtain ⟨g0, g1, g2, g3⟩ := Y8.out.box; clear h0 h1 h2 h3; obtain ⟨h0, h1, h2, h3⟩ := Z8.out.box; clear hb8)
  have L9 := Lib.hid (L8.out.later (box_below w8 (nb z q3)))
  have N9 := Lib.hid (N8.out.later (box_below w8 (nb z q3)))
  have X9 := Lib.hid (X8.out.later (box_below w8 (nb z q3)))
  have J9 := Lib.hid (J8.out.later (box_below w8 (nb z q3)))
  have Y9 := Lib.hid (Y8.out.later (box_below w8 (nb z q3)))
  have Z9 := Lib.hid (Z8.out.later (box_below w8 (nb z q3)))
  have S9 := S8
  clear S8
  generalize hW9 : w8.alloc (nb z q3) = w9 at *
  clear c0 c1 c2 c3
  obtain ⟨c0, c1, c2, c3⟩ := N9.out.box
  clear x0 x1 x2 x3
  obtain ⟨x0, x1, x2, x3⟩ := X9.out.box
  clear g0 g1 g2 g3
  obtain ⟨g0, g1, g2, g3⟩ := Y9.out.box
  clear h0 h1 h2 h3
  obtain ⟨h0, h1, h2, h3⟩ := Z9.out.box
  obtain ⟨i0, i1, i2, i3⟩ := S9.out.box
  go_wp2_with (first
    | (go_at_call 10; refine (HG.out.awake _ L11.out.tabs).mono ?_; rintro e w101 ⟨rfl, hb101⟩; have L101 := Lib.hid (L11.out.later hb101); clear hb101)
    | (go_at_call 29; (with_reducible refine (Q2.out _ _ _ HQ.out.2.2.1 S10.out.tree N10.out.tree).mono ?_); rintro e w11 ⟨rfl, hb11⟩; have L11 := Lib.hid (L10.out.later hb11); have N11 := Lib.hid (N10.out.later hb11); have X11 := Lib.hid (X10.out.later hb11); have J11 := Lib.hid (J10.out.later hb11); have Y11 := Lib.hid (Y10.out.later hb11); have Z11 := Lib.hid (Z10.out.later hb11); have S11 := Lib.hid (S10.out.later hb11); clear c0 c1 c2 c3; obtain ⟨c0, c1, c2, c3⟩ := N11.out.box; clear x0 x1 x2 x3; obtain ⟨x0, x1, x2, x3⟩ := X11.out.box; clear g0 g1 g2 g3; obtain ⟨g0, g1, g2, g3⟩ := Y11.out.box; clear h0 h1 h2 h3; obtain ⟨h0, h1, h2, h3⟩ := Z11.out.box; clear i0 i1 i2 i3; obtain ⟨i0, i1, i2, i3⟩ := S11.out.box; clear hb11)
    | (go_at_call 18; (with_reducible refine (Q1.out _ _ _ Z9.out.tree X9.out.tree).mono ?_); rintro e w10 ⟨rfl, hb10⟩; have L10 := Lib.hid (L9.out.later hb10); have N10 := Lib.hid (N9.out.later hb10); have X10 := Lib.hid (X9.out.later hb10); have J10 := Lib.hid (J9.out.later hb10); have Y10 := Lib.hid (Y9.out.later hb10); have Z10 := Lib.hid (Z9.out.later hb10); have S10 := Lib.hid (S9.out.later hb10); clear c0 c1 c2 c3; obtain ⟨c0, c1, c2, c3⟩ := N10.out.box; clear x0 x1 x2 x3; obtain ⟨x0, x1, x2, x3⟩ := X10.out.box; clear g0 g1 g2 g3; obtain ⟨g0, g1, g2, g3⟩ := Y10.out.box; clear h0 h1 h2 h3; obtain ⟨h0, h1, h2, h3⟩ := Z10.out.box; clear i0 i1 i2 i3; obtain ⟨i0, i1, i2, i3⟩ := S10.out.box; clear hb10))
  go_ret
  exact ⟨rfl, L101.out.low⟩
theorem lawRemoves (G : Prog) (t x : Pl.Tr) (r rx : Sl) (p : List Int) (a : Option Addr) (c : Nat) (w : World) (hT : Tabs w) (h : IsT w t r) (hx : IsT w x rx) (hp : IsI w a p) (hc : p.length ≤ c) :
    Calls Tryd.prog 7 #[nvx t r, .slice a p.length c, nvx x rx] w fun e w' => e = .returned (.bool true) ∧ Below w.heap.size w w' := by
  by_cases h1 : Pl.rchk t = 0
  · by_cases h2 : Pl.insE t p x = 0
    · exact removes_ok G t x r rx p a c w hT h hx hp hc h1 h2
    · exact removes_err G t x r rx p a c w hT h hx hp hc h1 _ (by simpa using h2) rfl
  · exact removes_chk G t x r rx p a c w hT h hx hp hc _ (by simpa using h1) rfl
end Go.Proofs.YtpaleolcfhnenaaDoor.Rt
