/- The walk of the law PathChanges. -/
import Derived.Test.YtpaleolcfhnenaaDoorLaw
namespace Go.Proofs.YtpaleolcfhnenaaDoor.Rt
open Go.RowKit
set_option linter.unusedVariables false
set_option linter.unusedSimpArgs false
set_option maxRecDepth 100000

set_option maxHeartbeats 6400000 in
theorem lawChanges (G : Prog) (t x : Pl.Tr) (r rx : Sl) (p : List Int) (a : Option Addr) (c : Nat) (w : World) (hT : Tabs w) (h : IsT w t r) (hx : IsT w x rx) (hp : IsI w a p) (hc : p.length ≤ c) :
    Calls Tryd.prog 4 #[nvx t r, .slice a p.length c, nvx x rx] w fun e w' => e = .returned (.bool true) ∧ Below w.heap.size w w' := by
  have L0 : Hid (Lo w ((w.alloc (nb t r)).alloc (nb x rx))) := Lib.hid ((lo_new hT (nb t r)).later (box_below _ _))
  have N0 : Hid (Bx w.heap.size t r ((w.alloc (nb t r)).alloc (nb x rx))) := Lib.hid ((bx_new h).later (box_below _ _))
  have X0 : Hid (Bx (w.heap.size + 1) x rx ((w.alloc (nb t r)).alloc (nb x rx))) := Lib.hid (by have := bx_new (hx.later (box_below w (nb t r))); rwa [show (w.alloc (nb t r)).heap.size = w.heap.size + 1 by simp] at this)
  have J0 : Hid (IsI ((w.alloc (nb t r)).alloc (nb x rx)) a p) := Lib.hid ((hp.later (box_below _ _)).later (box_below _ _))
  have HG := Lib.hid G
  obtain ⟨E1, hE1⟩ : ∃ E, E = Pl.replE t p x := ⟨_, rfl⟩
  obtain ⟨u1, hu1⟩ : ∃ u, u = if E1 = 0 then Pl.putP x p t else zeroT := ⟨_, rfl⟩
  have C1 := Lib.hid (fun V hV hI hX hA hz hz2 => (G.replace t x r rx p a c V hV hI hX hA hc hz hz2).mono fun e w' hr => (by have hr := res_u hr; rw [← hE1, ← hu1] at hr; exact hr : GetU E1 u1 V e w'))
  have R1 := Lib.hid (fun V hI hX hA hz => (rreplace_is t x r rx p a c V hI hX hA hc hz).mono fun e w' hr => (by have hr := res_u hr; rw [← hE1, ← hu1] at hr; exact hr : GetU E1 u1 V e w'))
  have ee1 : (E1 == E1) = true := by simp
  have Q1 := Lib.hid (fun V r1 r2 h k => equal_is u1 u1 r1 r2 true (eqT_iff.2 rfl) V h k)
  obtain ⟨E2, hE2⟩ : ∃ E, E = Pl.insE t p x := ⟨_, rfl⟩
  obtain ⟨u2, hu2⟩ : ∃ u, u = if E2 = 0 then Pl.insT t p x else zeroT := ⟨_, rfl⟩
  have C2 := Lib.hid (fun V hV hI hX hA hz hz2 => (G.insert t x r rx p a c V hV hI hX hA hc hz hz2).mono fun e w' hr => (by have hr := res_u hr; rw [← hE2, ← hu2] at hr; exact hr : GetU E2 u2 V e w'))
  have R2 := Lib.hid (fun V hI hX hA hz => (rinsert_is t x r rx p a c V hI hX hA hc hz).mono fun e w' hr => (by have hr := res_u hr; rw [← hE2, ← hu2] at hr; exact hr : GetU E2 u2 V e w'))
  have ee2 : (E2 == E2) = true := by simp
  have Q2 := Lib.hid (fun V r1 r2 h k => equal_is u2 u2 r1 r2 true (eqT_iff.2 rfl) V h k)
  obtain ⟨E3, hE3⟩ : ∃ E, E = Pl.remE t p := ⟨_, rfl⟩
  obtain ⟨u3, hu3⟩ : ∃ u, u = if E3 = 0 then Pl.remT t p else zeroT := ⟨_, rfl⟩
  have C3 := Lib.hid (fun V hV hI hA hz => (G.remove t r p a c V hV hI hA hc hz).mono fun e w' hr => (by have hr := res_u hr; rw [← hE3, ← hu3] at hr; exact hr : GetU E3 u3 V e w'))
  have R3 := Lib.hid (fun V hI hA hz => (rremove_is t r p a c V hI hA hc hz).mono fun e w' hr => (by have hr := res_u hr; rw [← hE3, ← hu3] at hr; exact hr : GetU E3 u3 V e w'))
  have ee3 : (E3 == E3) = true := by simp
  have Q3 := Lib.hid (fun V r1 r2 h k => equal_is u3 u3 r1 r2 true (eqT_iff.2 rfl) V h k)
  obtain ⟨m, hm⟩ : ∃ m, m = p.length := ⟨_, rfl⟩
  unfold GetU at C1 R1 C2 R2 C3 R3
  rw [← hm] at C1 R1 C2 R2 C3 R3 ⊢
  clear hT h hx hp hc hm hE1 hE2 hE3 hu1 hu2 hu3
  go_enter Tryd.func4, Tryd.ntmps4
  obtain ⟨c0, c1, c2, c3⟩ := N0.out.box
  obtain ⟨x0, x1, x2, x3⟩ := X0.out.box
  go_upto_region 3 with (first
    | (go_at_call 9; have g9 := HL.out; clear g9; refine (small_is x rx _ X1.out.tree).mono ?_; rintro e w2 ⟨b, hl, rfl, hb2⟩; have L2 := Lib.hid (L1.out.later hb2); have N2 := Lib.hid (N1.out.later hb2); have X2 := Lib.hid (X1.out.later hb2); have J2 := Lib.hid (J1.out.later hb2); clear c0 c1 c2 c3; obtain ⟨c0, c1, c2, c3⟩ := N2.out.box; clear x0 x1 x2 x3; obtain ⟨x0, x1, x2, x3⟩ := X2.out.box; clear hb2; rcases b with _ | _; (focus (clear hl; go_wp2_with (go_at_call 10; refine (HG.out.awake _ L2.out.tabs).mono ?_; rintro e w92 ⟨rfl, hb92⟩; have L92 := Lib.hid (L2.out.later hb92); clear hb92); go_ret; exact ⟨rfl, L92.out.low⟩)); have HX2 : Hid (Pl.sz x ≤ 300) := Lib.hid (hl rfl); clear hl)
    | (go_at_call 9; refine (small_is t r _ N0.out.tree).mono ?_; rintro e w1 ⟨b, hl, rfl, hb1⟩; have L1 := Lib.hid (L0.out.later hb1); have N1 := Lib.hid (N0.out.later hb1); have X1 := Lib.hid (X0.out.later hb1); have J1 := Lib.hid (J0.out.later hb1); clear c0 c1 c2 c3; obtain ⟨c0, c1, c2, c3⟩ := N1.out.box; clear x0 x1 x2 x3; obtain ⟨x0, x1, x2, x3⟩ := X1.out.box; clear hb1; rcases b with _ | _; (focus (clear hl; go_wp2_with (go_at_call 10; refine (HG.out.awake _ L1.out.tabs).mono ?_; rintro e w91 ⟨rfl, hb91⟩; have L91 := Lib.hid (L1.out.later hb91); clear hb91); go_ret; exact ⟨rfl, L91.out.low⟩)); have HL : Hid (Pl.sz t ≤ 300) := Lib.hid (hl rfl); clear hl))
  have HL1 : Hid (Pl.sz t ≤ 10000) := Lib.hid (by have := HL.out; omega)
  have HL2 : Hid (Pl.sz x ≤ 10000) := Lib.hid (by have := HX2.out; omega)
  go_upto_region 4 with (go_at_call 19; refine (C1.out _ L2.out.tabs N2.out.tree X2.out.tree J2.out HL1.out HL2.out).mono ?_; rintro e w3 ⟨hb3, q1, ht3, rfl⟩; have L3 := Lib.hid (L2.out.later hb3); have N3 := Lib.hid (N2.out.later hb3); have X3 := Lib.hid (X2.out.later hb3); have J3 := Lib.hid (J2.out.later hb3); have U3 := Lib.hid (bx_new ht3.out); clear c0 c1 c2 c3; obtain ⟨c0, c1, c2, c3⟩ := N3.out.box; clear x0 x1 x2 x3; obtain ⟨x0, x1, x2, x3⟩ := X3.out.box; clear hb3)
  have L4 := Lib.hid (L3.out.later (box_below w3 (nb u1 q1)))
  have N4 := Lib.hid (N3.out.later (box_below w3 (nb u1 q1)))
  have X4 := Lib.hid (X3.out.later (box_below w3 (nb u1 q1)))
  have J4 := Lib.hid (J3.out.later (box_below w3 (nb u1 q1)))
  have U4 := U3
  clear U3
  generalize hW4 : w3.alloc (nb u1 q1) = w4 at *
  clear c0 c1 c2 c3
  obtain ⟨c0, c1, c2, c3⟩ := N4.out.box
  clear x0 x1 x2 x3
  obtain ⟨x0, x1, x2, x3⟩ := X4.out.box
  obtain ⟨d0, d1, d2, d3⟩ := U4.out.box
  go_upto_region 5 with (go_at_call 20; refine (R1.out _ N4.out.tree X4.out.tree J4.out HL1.out).mono ?_; rintro e w5 ⟨hb5, q2, ht5, rfl⟩; have L5 := Lib.hid (L4.out.later hb5); have N5 := Lib.hid (N4.out.later hb5); have X5 := Lib.hid (X4.out.later hb5); have J5 := Lib.hid (J4.out.later hb5); have U5 := Lib.hid (U4.out.later hb5); have V5 := Lib.hid (bx_new ht5.out); clear c0 c1 c2 c3; obtain ⟨c0, c1, c2, c3⟩ := N5.out.box; clear x0 x1 x2 x3; obtain ⟨x0, x1, x2, x3⟩ := X5.out.box; clear d0 d1 d2 d3; obtain ⟨d0, d1, d2, d3⟩ := U5.out.box; clear hb5)
  have L6 := Lib.hid (L5.out.later (box_below w5 (nb u1 q2)))
  have N6 := Lib.hid (N5.out.later (box_below w5 (nb u1 q2)))
  have X6 := Lib.hid (X5.out.later (box_below w5 (nb u1 q2)))
  have J6 := Lib.hid (J5.out.later (box_below w5 (nb u1 q2)))
  have U6 := Lib.hid (U5.out.later (box_below w5 (nb u1 q2)))
  have V6 := V5
  clear V5
  generalize hW6 : w5.alloc (nb u1 q2) = w6 at *
  clear c0 c1 c2 c3
  obtain ⟨c0, c1, c2, c3⟩ := N6.out.box
  clear x0 x1 x2 x3
  obtain ⟨x0, x1, x2, x3⟩ := X6.out.box
  clear d0 d1 d2 d3
  obtain ⟨d0, d1, d2, d3⟩ := U6.out.box
  obtain ⟨f0, f1, f2, f3⟩ := V6.out.box
  go_upto_region 6 with (go_at_call 21; refine (C2.out _ L6.out.tabs N6.out.tree X6.out.tree J6.out HL1.out HL2.out).mono ?_; rintro e w7 ⟨hb7, q3, ht7, rfl⟩; have L7 := Lib.hid (L6.out.later hb7); have N7 := Lib.hid (N6.out.later hb7); have X7 := Lib.hid (X6.out.later hb7); have J7 := Lib.hid (J6.out.later hb7); have U7 := Lib.hid (U6.out.later hb7); have V7 := Lib.hid (V6.out.later hb7); have Y7 := Lib.hid (bx_new ht7.out); clear c0 c1 c2 c3; obtain ⟨c0, c1, c2, c3⟩ := N7.out.box; clear x0 x1 x2 x3; obtain ⟨x0, x1, x2, x3⟩ := X7.out.box; clear d0 d1 d2 d3; obtain ⟨d0, d1, d2, d3⟩ := U7.out.box; clear f0 f1 f2 f3; obtain ⟨f0, f1, f2, f3⟩ := V7.out.box; clear hb7)
  have L8 := Lib.hid (L7.out.later (box_below w7 (nb u2 q3)))
  have N8 := Lib.hid (N7.out.later (box_below w7 (nb u2 q3)))
  have X8 := Lib.hid (X7.out.later (box_below w7 (nb u2 q3)))
  have J8 := Lib.hid (J7.out.later (box_below w7 (nb u2 q3)))
  have U8 := Lib.hid (U7.out.later (box_below w7 (nb u2 q3)))
  have V8 := Lib.hid (V7.out.later (box_below w7 (nb u2 q3)))
  have Y8 := Y7
  clear Y7
  generalize hW8 : w7.alloc (nb u2 q3) = w8 at *
  clear c0 c1 c2 c3
  obtain ⟨c0, c1, c2, c3⟩ := N8.out.box
  clear x0 x1 x2 x3
  obtain ⟨x0, x1, x2, x3⟩ := X8.out.box
  clear d0 d1 d2 d3
  obtain ⟨d0, d1, d2, d3⟩ := U8.out.box
  clear f0 f1 f2 f3
  obtain ⟨f0, f1, f2, f3⟩ := V8.out.box
  obtain ⟨g0, g1, g2, g3⟩ := Y8.out.box
  go_upto_region 7 with (go_at_call 22; refine (R2.out _ N8.out.tree X8.out.tree J8.out HL1.out).mono ?_; rintro e w9 ⟨hb9, q4, ht9, rfl⟩; have L9 := Lib.hid (L8.out.later hb9); have N9 := Lib.hid (N8.out.later hb9); have X9 := Lib.hid (X8.out.later hb9); have J9 := Lib.hid (J8.out.later hb9); have U9 := Lib.hid (U8.out.later hb9); have V9 := Lib.hid (V8.out.later hb9); have Y9 := Lib.hid (Y8.out.later hb9); have Z9 := Lib.hid (bx_new ht9.out); clear c0 c1 c2 c3; obtain ⟨c0, c1, c2, c3⟩ := N9.out.box; clear x0 x1 x2 x3; obtain ⟨x0, x1, x2, x3⟩ := X9.out.box; clear d0 d1 d2 d3; obtain ⟨d0, d1, d2, d3⟩ := U9.out.box; clear f0 f1 f2 f3; obtain ⟨f0, f1, f2, f3⟩ := V9.out.box; clear g0 g1 g2 g3; obtain ⟨g0, g1, g2, g3⟩ := Y9.out.box; clear hb9)
  have L10 := Lib.hid (L9.out.later (box_below w9 (nb u2 q4)))
  have N10 := Lib.hid (N9.out.later (box_below w9 (nb u2 q4)))
  have X10 := Lib.hid (X9.out.later (box_below w9 (nb u2 q4)))
  have J10 := Lib.hid (J9.out.later (box_below w9 (nb u2 q4)))
  have U10 := Lib.hid (U9.out.later (box_below w9 (nb u2 q4)))
  have V10 := Lib.hid (V9.out.later (box_below w9 (nb u2 q4)))
  have Y10 := Lib.hid (Y9.out.later (box_below w9 (nb u2 q4)))
  have Z10 := Z9
  clear Z9
  generalize hW10 : w9.alloc (nb u2 q4) = w10 at *
  clear c0 c1 c2 c3
  obtain ⟨c0, c1, c2, c3⟩ := N10.out.box
  clear x0 x1 x2 x3
  obtain ⟨x0, x1, x2, x3⟩ := X10.out.box
  clear d0 d1 d2 d3
  obtain ⟨d0, d1, d2, d3⟩ := U10.out.box
  clear f0 f1 f2 f3
  obtain ⟨f0, f1, f2, f3⟩ := V10.out.box
  clear g0 g1 g2 g3
  obtain ⟨g0, g1, g2, g3⟩ := Y10.out.box
  obtain ⟨h0, h1, h2, h3⟩ := Z10.out.box
  go_upto_region 8 with (go_at_call 23; refine (C3.out _ L10.out.tabs N10.out.tree J10.out HL1.out).mono ?_; rintro e w11 ⟨hb11, q5, ht11, rfl⟩; have L11 := Lib.hid (L10.out.later hb11); have N11 := Lib.hid (N10.out.later hb11); have X11 := Lib.hid (X10.out.later hb11); have J11 := Lib.hid (J10.out.later hb11); have U11 := Lib.hid (U10.out.later hb11); have V11 := Lib.hid (V10.out.later hb11); have Y11 := Lib.hid (Y10.out.later hb11); have Z11 := Lib.hid (Z10.out.later hb11); have S11 := Lib.hid (bx_new ht11.out); clear c0 c1 c2 c3; obtain ⟨c0, c1, c2, c3⟩ := N11.out.box; clear x0 x1 x2 x3; obtain ⟨x0, x1, x2, x3⟩ := X11.out.box; clear d0 d1 d2 d3; obtain ⟨d0, d1, d2, d3⟩ := U11.out.box; clear f0 f1 f2 f3; obtain ⟨f0, f1, f2, f3⟩ := V11.out.box; clear g0 g1 g2 g3; obtain ⟨g0, g1, g2, g3⟩ := Y11.out.box; clear h0 h1 h2 h3; obtain ⟨h0, h1, h2, h3⟩ := Z11.out.box; clear hb11)
  have L12 := Lib.hid (L11.out.later (box_below w11 (nb u3 q5)))
  have N12 := Lib.hid (N11.out.later (box_below w11 (nb u3 q5)))
  have X12 := Lib.hid (X11.out.later (box_below w11 (nb u3 q5)))
  have J12 := Lib.hid (J11.out.later (box_below w11 (nb u3 q5)))
  have U12 := Lib.hid (U11.out.later (box_below w11 (nb u3 q5)))
  have V12 := Lib.hid (V11.out.later (box_below w11 (nb u3 q5)))
  have Y12 := Lib.hid (Y11.out.later (box_below w11 (nb u3 q5)))
  have Z12 := Lib.hid (Z11.out.later (box_below w11 (nb u3 q5)))
  have S12 := S11
  clear S11
  generalize hW12 : w11.alloc (nb u3 q5) = w12 at *
  clear c0 c1 c2 c3
  obtain ⟨c0, c1, c2, c3⟩ := N12.out.box
  clear x0 x1 x2 x3
  obtain ⟨x0, x1, x2, x3⟩ := X12.out.box
  clear d0 d1 d2 d3
  obtain ⟨d0, d1, d2, d3⟩ := U12.out.box
  clear f0 f1 f2 f3
  obtain ⟨f0, f1, f2, f3⟩ := V12.out.box
  clear g0 g1 g2 g3
  obtain ⟨g0, g1, g2, g3⟩ := Y12.out.box
  clear h0 h1 h2 h3
  obtain ⟨h0, h1, h2, h3⟩ := Z12.out.box
  obtain ⟨i0, i1, i2, i3⟩ := S12.out.box
  go_upto_region 9 with (go_at_call 24; refine (R3.out _ N12.out.tree J12.out HL1.out).mono ?_; rintro e w13 ⟨hb13, q6, ht13, rfl⟩; have L13 := Lib.hid (L12.out.later hb13); have N13 := Lib.hid (N12.out.later hb13); have X13 := Lib.hid (X12.out.later hb13); have J13 := Lib.hid (J12.out.later hb13); have U13 := Lib.hid (U12.out.later hb13); have V13 := Lib.hid (V12.out.later hb13); have Y13 := Lib.hid (Y12.out.later hb13); have Z13 := Lib.hid (Z12.out.later hb13); have S13 := Lib.hid (S12.out.later hb13); have T13 := Lib.hid (bx_new ht13.out); clear c0 c1 c2 c3; obtain ⟨c0, c1, c2, c3⟩ := N13.out.box; clear x0 x1 x2 x3; obtain ⟨x0, x1, x2, x3⟩ := X13.out.box; clear d0 d1 d2 d3; obtain ⟨d0, d1, d2, d3⟩ := U13.out.box; clear f0 f1 f2 f3; obtain ⟨f0, f1, f2, f3⟩ := V13.out.box; clear g0 g1 g2 g3; obtain ⟨g0, g1, g2, g3⟩ := Y13.out.box; clear h0 h1 h2 h3; obtain ⟨h0, h1, h2, h3⟩ := Z13.out.box; clear i0 i1 i2 i3; obtain ⟨i0, i1, i2, i3⟩ := S13.out.box; clear hb13)
  have L14 := Lib.hid (L13.out.later (box_below w13 (nb u3 q6)))
  have N14 := Lib.hid (N13.out.later (box_below w13 (nb u3 q6)))
  have X14 := Lib.hid (X13.out.later (box_below w13 (nb u3 q6)))
  have J14 := Lib.hid (J13.out.later (box_below w13 (nb u3 q6)))
  have U14 := Lib.hid (U13.out.later (box_below w13 (nb u3 q6)))
  have V14 := Lib.hid (V13.out.later (box_below w13 (nb u3 q6)))
  have Y14 := Lib.hid (Y13.out.later (box_below w13 (nb u3 q6)))
  have Z14 := Lib.hid (Z13.out.later (box_below w13 (nb u3 q6)))
  have S14 := Lib.hid (S13.out.later (box_below w13 (nb u3 q6)))
  have T14 := T13
  clear T13
  generalize hW14 : w13.alloc (nb u3 q6) = w14 at *
  clear c0 c1 c2 c3
  obtain ⟨c0, c1, c2, c3⟩ := N14.out.box
  clear x0 x1 x2 x3
  obtain ⟨x0, x1, x2, x3⟩ := X14.out.box
  clear d0 d1 d2 d3
  obtain ⟨d0, d1, d2, d3⟩ := U14.out.box
  clear f0 f1 f2 f3
  obtain ⟨f0, f1, f2, f3⟩ := V14.out.box
  clear g0 g1 g2 g3
  obtain ⟨g0, g1, g2, g3⟩ := Y14.out.box
  clear h0 h1 h2 h3
  obtain ⟨h0, h1, h2, h3⟩ := Z14.out.box
  clear i0 i1 i2 i3
  obtain ⟨i0, i1, i2, i3⟩ := S14.out.box
  obtain ⟨j0, j1, j2, j3⟩ := T14.out.box
  go_wp2_with (first
    | (go_at_call 10; refine (HG.out.awake _ L17.out.tabs).mono ?_; rintro e w107 ⟨rfl, hb107⟩; have L107 := Lib.hid (L17.out.later hb107); clear hb107)
    | (go_at_call 18; (with_reducible refine (Q3.out _ _ _ S16.out.tree T16.out.tree).mono ?_); rintro e w17 ⟨rfl, hb17⟩; have L17 := Lib.hid (L16.out.later hb17); have N17 := Lib.hid (N16.out.later hb17); have X17 := Lib.hid (X16.out.later hb17); have J17 := Lib.hid (J16.out.later hb17); have U17 := Lib.hid (U16.out.later hb17); have V17 := Lib.hid (V16.out.later hb17); have Y17 := Lib.hid (Y16.out.later hb17); have Z17 := Lib.hid (Z16.out.later hb17); have S17 := Lib.hid (S16.out.later hb17); have T17 := Lib.hid (T16.out.later hb17); clear c0 c1 c2 c3; obtain ⟨c0, c1, c2, c3⟩ := N17.out.box; clear x0 x1 x2 x3; obtain ⟨x0, x1, x2, x3⟩ := X17.out.box; clear d0 d1 d2 d3; obtain ⟨d0, d1, d2, d3⟩ := U17.out.box; clear f0 f1 f2 f3; obtain ⟨f0, f1, f2, f3⟩ := V17.out.box; clear g0 g1 g2 g3; obtain ⟨g0, g1, g2, g3⟩ := Y17.out.box; clear h0 h1 h2 h3; obtain ⟨h0, h1, h2, h3⟩ := Z17.out.box; clear i0 i1 i2 i3; obtain ⟨i0, i1, i2, i3⟩ := S17.out.box; clear j0 j1 j2 j3; obtain ⟨j0, j1, j2, j3⟩ := T17.out.box; clear hb17)
    | (go_at_call 18; (with_reducible refine (Q2.out _ _ _ Y15.out.tree Z15.out.tree).mono ?_); rintro e w16 ⟨rfl, hb16⟩; have L16 := Lib.hid (L15.out.later hb16); have N16 := Lib.hid (N15.out.later hb16); have X16 := Lib.hid (X15.out.later hb16); have J16 := Lib.hid (J15.out.later hb16); have U16 := Lib.hid (U15.out.later hb16); have V16 := Lib.hid (V15.out.later hb16); have Y16 := Lib.hid (Y15.out.later hb16); have Z16 := Lib.hid (Z15.out.later hb16); have S16 := Lib.hid (S15.out.later hb16); have T16 := Lib.hid (T15.out.later hb16); clear c0 c1 c2 c3; obtain ⟨c0, c1, c2, c3⟩ := N16.out.box; clear x0 x1 x2 x3; obtain ⟨x0, x1, x2, x3⟩ := X16.out.box; clear d0 d1 d2 d3; obtain ⟨d0, d1, d2, d3⟩ := U16.out.box; clear f0 f1 f2 f3; obtain ⟨f0, f1, f2, f3⟩ := V16.out.box; clear g0 g1 g2 g3; obtain ⟨g0, g1, g2, g3⟩ := Y16.out.box; clear h0 h1 h2 h3; obtain ⟨h0, h1, h2, h3⟩ := Z16.out.box; clear i0 i1 i2 i3; obtain ⟨i0, i1, i2, i3⟩ := S16.out.box; clear j0 j1 j2 j3; obtain ⟨j0, j1, j2, j3⟩ := T16.out.box; clear hb16)
    | (go_at_call 18; (with_reducible refine (Q1.out _ _ _ U14.out.tree V14.out.tree).mono ?_); rintro e w15 ⟨rfl, hb15⟩; have L15 := Lib.hid (L14.out.later hb15); have N15 := Lib.hid (N14.out.later hb15); have X15 := Lib.hid (X14.out.later hb15); have J15 := Lib.hid (J14.out.later hb15); have U15 := Lib.hid (U14.out.later hb15); have V15 := Lib.hid (V14.out.later hb15); have Y15 := Lib.hid (Y14.out.later hb15); have Z15 := Lib.hid (Z14.out.later hb15); have S15 := Lib.hid (S14.out.later hb15); have T15 := Lib.hid (T14.out.later hb15); clear c0 c1 c2 c3; obtain ⟨c0, c1, c2, c3⟩ := N15.out.box; clear x0 x1 x2 x3; obtain ⟨x0, x1, x2, x3⟩ := X15.out.box; clear d0 d1 d2 d3; obtain ⟨d0, d1, d2, d3⟩ := U15.out.box; clear f0 f1 f2 f3; obtain ⟨f0, f1, f2, f3⟩ := V15.out.box; clear g0 g1 g2 g3; obtain ⟨g0, g1, g2, g3⟩ := Y15.out.box; clear h0 h1 h2 h3; obtain ⟨h0, h1, h2, h3⟩ := Z15.out.box; clear i0 i1 i2 i3; obtain ⟨i0, i1, i2, i3⟩ := S15.out.box; clear j0 j1 j2 j3; obtain ⟨j0, j1, j2, j3⟩ := T15.out.box; clear hb15))
  go_ret
  exact ⟨rfl, L107.out.low⟩
end Go.Proofs.YtpaleolcfhnenaaDoor.Rt
