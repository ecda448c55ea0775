/- The walk of the law PathReplaces. -/
import Derived.Test.YtpaleolcfhnenaaDoorLeft
import Derived.Test.YtpaleolcfhnenaaDoorBegins
import Derived.Test.YtpaleolcfhnenaaDoorUndo
namespace Go.Proofs.YtpaleolcfhnenaaDoor.Rt
open Go.RowKit
set_option linter.unusedVariables false
set_option linter.unusedSimpArgs false
set_option maxRecDepth 100000

set_option maxHeartbeats 6400000 in
theorem replaces_x (G : Prog) (t x : Pl.Tr) (r rx : Sl) (p q : List Int) (a b : Option Addr) (c d : Nat) (w : World) (hT : Tabs w) (h : IsT w t r) (hx : IsT w x rx) (hp : IsI w a p) (hq : IsI w b q) (hc : p.length ≤ c) (hd : q.length ≤ d) (hs : sm x = false) :
    Calls Tryd.prog 5 #[nvx t r, .slice a p.length c, nvx x rx, .slice b q.length d] w fun e w' => e = .returned (.bool true) ∧ Below w.heap.size w w' := by
  have L0 : Hid (Lo w ((w.alloc (nb t r)).alloc (nb x rx))) := Lib.hid ((lo_new hT (nb t r)).later (box_below _ _))
  have N0 : Hid (Bx w.heap.size t r ((w.alloc (nb t r)).alloc (nb x rx))) := Lib.hid ((bx_new h).later (box_below _ _))
  have X0 : Hid (Bx (w.heap.size + 1) x rx ((w.alloc (nb t r)).alloc (nb x rx))) := Lib.hid (by have := bx_new (hx.later (box_below w (nb t r))); rwa [show (w.alloc (nb t r)).heap.size = w.heap.size + 1 by simp] at this)
  have J0 : Hid (IsI ((w.alloc (nb t r)).alloc (nb x rx)) a p) := Lib.hid ((hp.later (box_below _ _)).later (box_below _ _))
  have K0 : Hid (IsI ((w.alloc (nb t r)).alloc (nb x rx)) b q) := Lib.hid ((hq.later (box_below _ _)).later (box_below _ _))
  have HG := Lib.hid G
  have HSM := Lib.hid (fun r w h => small_ex x r w h false hs)
  obtain ⟨m, hm⟩ : ∃ m, m = p.length := ⟨_, rfl⟩
  obtain ⟨l, hl⟩ : ∃ l, l = q.length := ⟨_, rfl⟩
  rw [← hm, ← hl]
  clear hT h hx hp hq hc hd hm hl hs
  go_enter Tryd.func5, Tryd.ntmps5
  obtain ⟨c0, c1, c2, c3⟩ := N0.out.box
  obtain ⟨x0, x1, x2, x3⟩ := X0.out.box
  go_wp2_with (first
    | (go_at_call 10; refine (HG.out.awake _ L2.out.tabs).mono ?_; rintro e w92 ⟨rfl, hb92⟩; have L92 := Lib.hid (L2.out.later hb92); clear hb92)
    | (go_at_call 9; (have g9 := HL.out; clear g9; with_reducible refine (HSM.out rx _ X1.out.tree).mono ?_); rintro e w2 ⟨rfl, hb2⟩; have L2 := Lib.hid (L1.out.later hb2); have N2 := Lib.hid (N1.out.later hb2); have X2 := Lib.hid (X1.out.later hb2); have J2 := Lib.hid (J1.out.later hb2); have K2 := Lib.hid (K1.out.later hb2); clear c0 c1 c2 c3; obtain ⟨c0, c1, c2, c3⟩ := N2.out.box; clear x0 x1 x2 x3; obtain ⟨x0, x1, x2, x3⟩ := X2.out.box; clear hb2)
    | (go_at_call 9; refine (small_is t r _ N0.out.tree).mono ?_; rintro e w1 ⟨b, hl, rfl, hb1⟩; have L1 := Lib.hid (L0.out.later hb1); have N1 := Lib.hid (N0.out.later hb1); have X1 := Lib.hid (X0.out.later hb1); have J1 := Lib.hid (J0.out.later hb1); have K1 := Lib.hid (K0.out.later hb1); clear c0 c1 c2 c3; obtain ⟨c0, c1, c2, c3⟩ := N1.out.box; clear x0 x1 x2 x3; obtain ⟨x0, x1, x2, x3⟩ := X1.out.box; clear hb1; rcases b with _ | _; (focus (clear hl; go_wp2_with (go_at_call 10; refine (HG.out.awake _ L1.out.tabs).mono ?_; rintro e w91 ⟨rfl, hb91⟩; have L91 := Lib.hid (L1.out.later hb91); clear hb91); go_ret; exact ⟨rfl, L91.out.low⟩)); have HL : Hid (Pl.sz t ≤ 300) := Lib.hid (hl rfl); clear hl))
  go_ret
  exact ⟨rfl, L92.out.low⟩
set_option maxHeartbeats 6400000 in
theorem replaces_5 (G : Prog) (t x : Pl.Tr) (r rx : Sl) (p q : List Int) (a b : Option Addr) (c d : Nat) (w : World) (hT : Tabs w) (h : IsT w t r) (hx : IsT w x rx) (hp : IsI w a p) (hq : IsI w b q) (hc : p.length ≤ c) (hd : q.length ≤ d) (hE1 : Pl.replE t p x = 5) :
    Calls Tryd.prog 5 #[nvx t r, .slice a p.length c, nvx x rx, .slice b q.length d] w fun e w' => e = .returned (.bool true) ∧ Below w.heap.size w w' := by
  have L0 : Hid (Lo w ((w.alloc (nb t r)).alloc (nb x rx))) := Lib.hid ((lo_new hT (nb t r)).later (box_below _ _))
  have N0 : Hid (Bx w.heap.size t r ((w.alloc (nb t r)).alloc (nb x rx))) := Lib.hid ((bx_new h).later (box_below _ _))
  have X0 : Hid (Bx (w.heap.size + 1) x rx ((w.alloc (nb t r)).alloc (nb x rx))) := Lib.hid (by have := bx_new (hx.later (box_below w (nb t r))); rwa [show (w.alloc (nb t r)).heap.size = w.heap.size + 1 by simp] at this)
  have J0 : Hid (IsI ((w.alloc (nb t r)).alloc (nb x rx)) a p) := Lib.hid ((hp.later (box_below _ _)).later (box_below _ _))
  have K0 : Hid (IsI ((w.alloc (nb t r)).alloc (nb x rx)) b q) := Lib.hid ((hq.later (box_below _ _)).later (box_below _ _))
  have HG := Lib.hid G
  have C1 := Lib.hid (fun V hV hI hX hA hz hz2 => (G.replace t x r rx p a c V hV hI hX hA hc hz hz2).mono fun e w' hr => (by have hr := res_u hr; rw [hE1, if_neg (by decide)] at hr; exact hr : GetU 5 zeroT V e w'))
  unfold GetU at C1
  obtain ⟨m, hm⟩ : ∃ m, m = p.length := ⟨_, rfl⟩
  obtain ⟨l, hl⟩ : ∃ l, l = q.length := ⟨_, rfl⟩
  rw [← hm] at C1 ⊢
  rw [← hl]
  clear hT h hx hp hq hc hd hm hl hE1
  go_enter Tryd.func5, Tryd.ntmps5
  obtain ⟨c0, c1, c2, c3⟩ := N0.out.box
  obtain ⟨x0, x1, x2, x3⟩ := X0.out.box
  go_upto_region 3 with (first
    | (go_at_call 9; have g9 := HL.out; clear g9; refine (small_is x rx _ X1.out.tree).mono ?_; rintro e w2 ⟨b, hl, rfl, hb2⟩; have L2 := Lib.hid (L1.out.later hb2); have N2 := Lib.hid (N1.out.later hb2); have X2 := Lib.hid (X1.out.later hb2); have J2 := Lib.hid (J1.out.later hb2); have K2 := Lib.hid (K1.out.later hb2); clear c0 c1 c2 c3; obtain ⟨c0, c1, c2, c3⟩ := N2.out.box; clear x0 x1 x2 x3; obtain ⟨x0, x1, x2, x3⟩ := X2.out.box; clear hb2; rcases b with _ | _; (focus (clear hl; go_wp2_with (go_at_call 10; refine (HG.out.awake _ L2.out.tabs).mono ?_; rintro e w92 ⟨rfl, hb92⟩; have L92 := Lib.hid (L2.out.later hb92); clear hb92); go_ret; exact ⟨rfl, L92.out.low⟩)); have HX2 : Hid (Pl.sz x ≤ 300) := Lib.hid (hl rfl); clear hl)
    | (go_at_call 9; refine (small_is t r _ N0.out.tree).mono ?_; rintro e w1 ⟨b, hl, rfl, hb1⟩; have L1 := Lib.hid (L0.out.later hb1); have N1 := Lib.hid (N0.out.later hb1); have X1 := Lib.hid (X0.out.later hb1); have J1 := Lib.hid (J0.out.later hb1); have K1 := Lib.hid (K0.out.later hb1); clear c0 c1 c2 c3; obtain ⟨c0, c1, c2, c3⟩ := N1.out.box; clear x0 x1 x2 x3; obtain ⟨x0, x1, x2, x3⟩ := X1.out.box; clear hb1; rcases b with _ | _; (focus (clear hl; go_wp2_with (go_at_call 10; refine (HG.out.awake _ L1.out.tabs).mono ?_; rintro e w91 ⟨rfl, hb91⟩; have L91 := Lib.hid (L1.out.later hb91); clear hb91); go_ret; exact ⟨rfl, L91.out.low⟩)); have HL : Hid (Pl.sz t ≤ 300) := Lib.hid (hl rfl); clear hl))
  have HL1 : Hid (Pl.sz t ≤ 10000) := Lib.hid (by have := HL.out; omega)
  have HL2 : Hid (Pl.sz x ≤ 10000) := Lib.hid (by have := HX2.out; omega)
  go_upto_region 4 with (go_at_call 19; refine (C1.out _ L2.out.tabs N2.out.tree X2.out.tree J2.out HL1.out HL2.out).mono ?_; rintro e w3 ⟨hb3, q1, ht3, rfl⟩; have L3 := Lib.hid (L2.out.later hb3); have N3 := Lib.hid (N2.out.later hb3); have X3 := Lib.hid (X2.out.later hb3); have J3 := Lib.hid (J2.out.later hb3); have K3 := Lib.hid (K2.out.later hb3); have Y3 := Lib.hid (bx_new ht3.out); clear c0 c1 c2 c3; obtain ⟨c0, c1, c2, c3⟩ := N3.out.box; clear x0 x1 x2 x3; obtain ⟨x0, x1, x2, x3⟩ := X3.out.box; clear hb3)
  have L4 := Lib.hid (L3.out.later (box_below w3 (nb zeroT q1)))
  have N4 := Lib.hid (N3.out.later (box_below w3 (nb zeroT q1)))
  have X4 := Lib.hid (X3.out.later (box_below w3 (nb zeroT q1)))
  have J4 := Lib.hid (J3.out.later (box_below w3 (nb zeroT q1)))
  have K4 := Lib.hid (K3.out.later (box_below w3 (nb zeroT q1)))
  have Y4 := Y3
  clear Y3
  generalize hW4 : w3.alloc (nb zeroT q1) = w4 at *
  clear c0 c1 c2 c3
  obtain ⟨c0, c1, c2, c3⟩ := N4.out.box
  clear x0 x1 x2 x3
  obtain ⟨x0, x1, x2, x3⟩ := X4.out.box
  obtain ⟨g0, g1, g2, g3⟩ := Y4.out.box
  go_wp2_with (go_at_call 10; refine (HG.out.awake _ L4.out.tabs).mono ?_; rintro e w94 ⟨rfl, hb94⟩; have L94 := Lib.hid (L4.out.later hb94); clear hb94)
  go_ret
  exact ⟨rfl, L94.out.low⟩
set_option maxHeartbeats 6400000 in
theorem replaces_7 (G : Prog) (t x : Pl.Tr) (r rx : Sl) (p q : List Int) (a b : Option Addr) (c d : Nat) (w : World) (hT : Tabs w) (h : IsT w t r) (hx : IsT w x rx) (hp : IsI w a p) (hq : IsI w b q) (hc : p.length ≤ c) (hd : q.length ≤ d) (hE1 : Pl.replE t p x = 7) :
    Calls Tryd.prog 5 #[nvx t r, .slice a p.length c, nvx x rx, .slice b q.length d] w fun e w' => e = .returned (.bool true) ∧ Below w.heap.size w w' := by
  have L0 : Hid (Lo w ((w.alloc (nb t r)).alloc (nb x rx))) := Lib.hid ((lo_new hT (nb t r)).later (box_below _ _))
  have N0 : Hid (Bx w.heap.size t r ((w.alloc (nb t r)).alloc (nb x rx))) := Lib.hid ((bx_new h).later (box_below _ _))
  have X0 : Hid (Bx (w.heap.size + 1) x rx ((w.alloc (nb t r)).alloc (nb x rx))) := Lib.hid (by have := bx_new (hx.later (box_below w (nb t r))); rwa [show (w.alloc (nb t r)).heap.size = w.heap.size + 1 by simp] at this)
  have J0 : Hid (IsI ((w.alloc (nb t r)).alloc (nb x rx)) a p) := Lib.hid ((hp.later (box_below _ _)).later (box_below _ _))
  have K0 : Hid (IsI ((w.alloc (nb t r)).alloc (nb x rx)) b q) := Lib.hid ((hq.later (box_below _ _)).later (box_below _ _))
  have HG := Lib.hid G
  have C1 := Lib.hid (fun V hV hI hX hA hz hz2 => (G.replace t x r rx p a c V hV hI hX hA hc hz hz2).mono fun e w' hr => (by have hr := res_u hr; rw [hE1, if_neg (by decide)] at hr; exact hr : GetU 7 zeroT V e w'))
  unfold GetU at C1
  obtain ⟨m, hm⟩ : ∃ m, m = p.length := ⟨_, rfl⟩
  obtain ⟨l, hl⟩ : ∃ l, l = q.length := ⟨_, rfl⟩
  rw [← hm] at C1 ⊢
  rw [← hl]
  clear hT h hx hp hq hc hd hm hl hE1
  go_enter Tryd.func5, Tryd.ntmps5
  obtain ⟨c0, c1, c2, c3⟩ := N0.out.box
  obtain ⟨x0, x1, x2, x3⟩ := X0.out.box
  go_upto_region 3 with (first
    | (go_at_call 9; have g9 := HL.out; clear g9; refine (small_is x rx _ X1.out.tree).mono ?_; rintro e w2 ⟨b, hl, rfl, hb2⟩; have L2 := Lib.hid (L1.out.later hb2); have N2 := Lib.hid (N1.out.later hb2); have X2 := Lib.hid (X1.out.later hb2); have J2 := Lib.hid (J1.out.later hb2); have K2 := Lib.hid (K1.out.later hb2); clear c0 c1 c2 c3; obtain ⟨c0, c1, c2, c3⟩ := N2.out.box; clear x0 x1 x2 x3; obtain ⟨x0, x1, x2, x3⟩ := X2.out.box; clear hb2; rcases b with _ | _; (focus (clear hl; go_wp2_with (go_at_call 10; refine (HG.out.awake _ L2.out.tabs).mono ?_; rintro e w92 ⟨rfl, hb92⟩; have L92 := Lib.hid (L2.out.later hb92); clear hb92); go_ret; exact ⟨rfl, L92.out.low⟩)); have HX2 : Hid (Pl.sz x ≤ 300) := Lib.hid (hl rfl); clear hl)
    | (go_at_call 9; refine (small_is t r _ N0.out.tree).mono ?_; rintro e w1 ⟨b, hl, rfl, hb1⟩; have L1 := Lib.hid (L0.out.later hb1); have N1 := Lib.hid (N0.out.later hb1); have X1 := Lib.hid (X0.out.later hb1); have J1 := Lib.hid (J0.out.later hb1); have K1 := Lib.hid (K0.out.later hb1); clear c0 c1 c2 c3; obtain ⟨c0, c1, c2, c3⟩ := N1.out.box; clear x0 x1 x2 x3; obtain ⟨x0, x1, x2, x3⟩ := X1.out.box; clear hb1; rcases b with _ | _; (focus (clear hl; go_wp2_with (go_at_call 10; refine (HG.out.awake _ L1.out.tabs).mono ?_; rintro e w91 ⟨rfl, hb91⟩; have L91 := Lib.hid (L1.out.later hb91); clear hb91); go_ret; exact ⟨rfl, L91.out.low⟩)); have HL : Hid (Pl.sz t ≤ 300) := Lib.hid (hl rfl); clear hl))
  have HL1 : Hid (Pl.sz t ≤ 10000) := Lib.hid (by have := HL.out; omega)
  have HL2 : Hid (Pl.sz x ≤ 10000) := Lib.hid (by have := HX2.out; omega)
  go_upto_region 4 with (go_at_call 19; refine (C1.out _ L2.out.tabs N2.out.tree X2.out.tree J2.out HL1.out HL2.out).mono ?_; rintro e w3 ⟨hb3, q1, ht3, rfl⟩; have L3 := Lib.hid (L2.out.later hb3); have N3 := Lib.hid (N2.out.later hb3); have X3 := Lib.hid (X2.out.later hb3); have J3 := Lib.hid (J2.out.later hb3); have K3 := Lib.hid (K2.out.later hb3); have Y3 := Lib.hid (bx_new ht3.out); clear c0 c1 c2 c3; obtain ⟨c0, c1, c2, c3⟩ := N3.out.box; clear x0 x1 x2 x3; obtain ⟨x0, x1, x2, x3⟩ := X3.out.box; clear hb3)
  have L4 := Lib.hid (L3.out.later (box_below w3 (nb zeroT q1)))
  have N4 := Lib.hid (N3.out.later (box_below w3 (nb zeroT q1)))
  have X4 := Lib.hid (X3.out.later (box_below w3 (nb zeroT q1)))
  have J4 := Lib.hid (J3.out.later (box_below w3 (nb zeroT q1)))
  have K4 := Lib.hid (K3.out.later (box_below w3 (nb zeroT q1)))
  have Y4 := Y3
  clear Y3
  generalize hW4 : w3.alloc (nb zeroT q1) = w4 at *
  clear c0 c1 c2 c3
  obtain ⟨c0, c1, c2, c3⟩ := N4.out.box
  clear x0 x1 x2 x3
  obtain ⟨x0, x1, x2, x3⟩ := X4.out.box
  obtain ⟨g0, g1, g2, g3⟩ := Y4.out.box
  go_wp2_with (go_at_call 10; refine (HG.out.awake _ L4.out.tabs).mono ?_; rintro e w94 ⟨rfl, hb94⟩; have L94 := Lib.hid (L4.out.later hb94); clear hb94)
  go_ret
  exact ⟨rfl, L94.out.low⟩
set_option maxHeartbeats 6400000 in
theorem replaces_true_t (G : Prog) (t x : Pl.Tr) (r rx : Sl) (p q : List Int) (a b : Option Addr) (c d : Nat) (w : World) (hT : Tabs w) (h : IsT w t r) (hx : IsT w x rx) (hp : IsI w a p) (hq : IsI w b q) (hc : p.length ≤ c) (hd : q.length ≤ d) (hE1 : Pl.replE t p x = 0) (y : Pl.Tr) (hy : y = Pl.putP x p t) (hs : sm y = true) (h1 : decide (q <+: p) = true) :
    Calls Tryd.prog 5 #[nvx t r, .slice a p.length c, nvx x rx, .slice b q.length d] w fun e w' => e = .returned (.bool true) ∧ Below w.heap.size w w' := by
  have L0 : Hid (Lo w ((w.alloc (nb t r)).alloc (nb x rx))) := Lib.hid ((lo_new hT (nb t r)).later (box_below _ _))
  have N0 : Hid (Bx w.heap.size t r ((w.alloc (nb t r)).alloc (nb x rx))) := Lib.hid ((bx_new h).later (box_below _ _))
  have X0 : Hid (Bx (w.heap.size + 1) x rx ((w.alloc (nb t r)).alloc (nb x rx))) := Lib.hid (by have := bx_new (hx.later (box_below w (nb t r))); rwa [show (w.alloc (nb t r)).heap.size = w.heap.size + 1 by simp] at this)
  have J0 : Hid (IsI ((w.alloc (nb t r)).alloc (nb x rx)) a p) := Lib.hid ((hp.later (box_below _ _)).later (box_below _ _))
  have K0 : Hid (IsI ((w.alloc (nb t r)).alloc (nb x rx)) b q) := Lib.hid ((hq.later (box_below _ _)).later (box_below _ _))
  have HG := Lib.hid G
  obtain ⟨⟨u0, hg⟩, hck⟩ := Pl.repl_parts hE1
  have hget : Pl.getP p y = some x := by rw [hy]; exact Pl.get_put x hg
  have HSZ := Lib.hid (Pl.sz_put x hg)
  rw [← hy] at hck HSZ
  have HSM := Lib.hid (fun r w h => small_ex y r w h true hs)
  have HCk := Lib.hid (fun w r h => rcheck_at y w r h)
  rw [hck] at HCk
  have C1 := Lib.hid (fun V hV hI hX hA hz hz2 => (G.replace t x r rx p a c V hV hI hX hA hc hz hz2).mono fun e w' hr => (by have hr := res_u hr; rw [hE1, if_pos rfl, ← hy] at hr; exact hr : GetU 0 y V e w'))
  have C2 := Lib.hid (fun ry V hV hI hA hz => (G.get y ry p a c V hV hI hA hc hz (Pl.gb_rp hck p)).mono fun e w' hr => get_some_u hget hr)
  have Q1 := Lib.hid (fun V r1 r2 h k => equal_is x x r1 r2 true (eqT_iff.2 rfl) V h k)
  have B1 := Lib.hid (fun V h k => begins_is p q a b c d V h k _ h1)
  unfold GetU at C1 C2
  obtain ⟨m, hm⟩ : ∃ m, m = p.length := ⟨_, rfl⟩
  obtain ⟨l, hl⟩ : ∃ l, l = q.length := ⟨_, rfl⟩
  rw [← hm] at C1 C2 B1 ⊢
  rw [← hl] at B1 ⊢
  clear hT h hx hp hq hc hd hm hl hE1 hs hck h1 hg hget hy
  go_enter Tryd.func5, Tryd.ntmps5
  obtain ⟨c0, c1, c2, c3⟩ := N0.out.box
  obtain ⟨x0, x1, x2, x3⟩ := X0.out.box
  go_upto_region 3 with (first
    | (go_at_call 9; have g9 := HL.out; clear g9; refine (small_is x rx _ X1.out.tree).mono ?_; rintro e w2 ⟨b, hl, rfl, hb2⟩; have L2 := Lib.hid (L1.out.later hb2); have N2 := Lib.hid (N1.out.later hb2); have X2 := Lib.hid (X1.out.later hb2); have J2 := Lib.hid (J1.out.later hb2); have K2 := Lib.hid (K1.out.later hb2); clear c0 c1 c2 c3; obtain ⟨c0, c1, c2, c3⟩ := N2.out.box; clear x0 x1 x2 x3; obtain ⟨x0, x1, x2, x3⟩ := X2.out.box; clear hb2; rcases b with _ | _; (focus (clear hl; go_wp2_with (go_at_call 10; refine (HG.out.awake _ L2.out.tabs).mono ?_; rintro e w92 ⟨rfl, hb92⟩; have L92 := Lib.hid (L2.out.later hb92); clear hb92); go_ret; exact ⟨rfl, L92.out.low⟩)); have HX2 : Hid (Pl.sz x ≤ 300) := Lib.hid (hl rfl); clear hl)
    | (go_at_call 9; refine (small_is t r _ N0.out.tree).mono ?_; rintro e w1 ⟨b, hl, rfl, hb1⟩; have L1 := Lib.hid (L0.out.later hb1); have N1 := Lib.hid (N0.out.later hb1); have X1 := Lib.hid (X0.out.later hb1); have J1 := Lib.hid (J0.out.later hb1); have K1 := Lib.hid (K0.out.later hb1); clear c0 c1 c2 c3; obtain ⟨c0, c1, c2, c3⟩ := N1.out.box; clear x0 x1 x2 x3; obtain ⟨x0, x1, x2, x3⟩ := X1.out.box; clear hb1; rcases b with _ | _; (focus (clear hl; go_wp2_with (go_at_call 10; refine (HG.out.awake _ L1.out.tabs).mono ?_; rintro e w91 ⟨rfl, hb91⟩; have L91 := Lib.hid (L1.out.later hb91); clear hb91); go_ret; exact ⟨rfl, L91.out.low⟩)); have HL : Hid (Pl.sz t ≤ 300) := Lib.hid (hl rfl); clear hl))
  have HL1 : Hid (Pl.sz t ≤ 10000) := Lib.hid (by have := HL.out; omega)
  have HL2 : Hid (Pl.sz x ≤ 10000) := Lib.hid (by have := HX2.out; omega)
  go_upto_region 4 with (go_at_call 19; refine (C1.out _ L2.out.tabs N2.out.tree X2.out.tree J2.out HL1.out HL2.out).mono ?_; rintro e w3 ⟨hb3, q1, ht3, rfl⟩; have L3 := Lib.hid (L2.out.later hb3); have N3 := Lib.hid (N2.out.later hb3); have X3 := Lib.hid (X2.out.later hb3); have J3 := Lib.hid (J2.out.later hb3); have K3 := Lib.hid (K2.out.later hb3); have Y3 := Lib.hid (bx_new ht3.out); clear c0 c1 c2 c3; obtain ⟨c0, c1, c2, c3⟩ := N3.out.box; clear x0 x1 x2 x3; obtain ⟨x0, x1, x2, x3⟩ := X3.out.box; clear hb3)
  have L4 := Lib.hid (L3.out.later (box_below w3 (nb y q1)))
  have N4 := Lib.hid (N3.out.later (box_below w3 (nb y q1)))
  have X4 := Lib.hid (X3.out.later (box_below w3 (nb y q1)))
  have J4 := Lib.hid (J3.out.later (box_below w3 (nb y q1)))
  have K4 := Lib.hid (K3.out.later (box_below w3 (nb y q1)))
  have Y4 := Y3
  clear Y3
  generalize hW4 : w3.alloc (nb y q1) = w4 at *
  clear c0 c1 c2 c3
  obtain ⟨c0, c1, c2, c3⟩ := N4.out.box
  clear x0 x1 x2 x3
  obtain ⟨x0, x1, x2, x3⟩ := X4.out.box
  obtain ⟨g0, g1, g2, g3⟩ := Y4.out.box
  have HY : Hid (Pl.sz y ≤ 10000) := Lib.hid (by have h1 := HL.out; have h2 := HX2.out; have h3 := HSZ.out; omega)
  go_upto_region 9 with (first
    | (go_at_call 15; refine (C2.out q1 _ L6.out.tabs Y6.out.tree J6.out HY.out).mono ?_; rintro e w7 ⟨hb7, q2, ht7, rfl⟩; have L7 := Lib.hid (L6.out.later hb7); have N7 := Lib.hid (N6.out.later hb7); have X7 := Lib.hid (X6.out.later hb7); have J7 := Lib.hid (J6.out.later hb7); have K7 := Lib.hid (K6.out.later hb7); have Y7 := Lib.hid (Y6.out.later hb7); have Z7 := Lib.hid (bx_new ht7.out); clear c0 c1 c2 c3; obtain ⟨c0, c1, c2, c3⟩ := N7.out.box; clear x0 x1 x2 x3; obtain ⟨x0, x1, x2, x3⟩ := X7.out.box; clear g0 g1 g2 g3; obtain ⟨g0, g1, g2, g3⟩ := Y7.out.box; clear hb7)
    | (go_at_call 25; (with_reducible refine (HCk.out _ q1 Y5.out.tree).mono ?_); rintro e w6 ⟨rfl, hb6⟩; have L6 := Lib.hid (L5.out.later hb6); have N6 := Lib.hid (N5.out.later hb6); have X6 := Lib.hid (X5.out.later hb6); have J6 := Lib.hid (J5.out.later hb6); have K6 := Lib.hid (K5.out.later hb6); have Y6 := Lib.hid (Y5.out.later hb6); clear c0 c1 c2 c3; obtain ⟨c0, c1, c2, c3⟩ := N6.out.box; clear x0 x1 x2 x3; obtain ⟨x0, x1, x2, x3⟩ := X6.out.box; clear g0 g1 g2 g3; obtain ⟨g0, g1, g2, g3⟩ := Y6.out.box; clear hb6)
    | (go_at_call 9; (with_reducible refine (HSM.out q1 _ Y4.out.tree).mono ?_); rintro e w5 ⟨rfl, hb5⟩; have L5 := Lib.hid (L4.out.later hb5); have N5 := Lib.hid (N4.out.later hb5); have X5 := Lib.hid (X4.out.later hb5); have J5 := Lib.hid (J4.out.later hb5); have K5 := Lib.hid (K4.out.later hb5); have Y5 := Lib.hid (Y4.out.later hb5); clear c0 c1 c2 c3; obtain ⟨c0, c1, c2, c3⟩ := N5.out.box; clear x0 x1 x2 x3; obtain ⟨x0, x1, x2, x3⟩ := X5.out.box; clear g0 g1 g2 g3; obtain ⟨g0, g1, g2, g3⟩ := Y5.out.box; clear hb5))
  have L8 := Lib.hid (L7.out.later (box_below w7 (nb x q2)))
  have N8 := Lib.hid (N7.out.later (box_below w7 (nb x q2)))
  have X8 := Lib.hid (X7.out.later (box_below w7 (nb x q2)))
  have J8 := Lib.hid (J7.out.later (box_below w7 (nb x q2)))
  have K8 := Lib.hid (K7.out.later (box_below w7 (nb x q2)))
  have Y8 := Lib.hid (Y7.out.later (box_below w7 (nb x q2)))
  have Z8 := Z7
  clear Z7
  generalize hW8 : w7.alloc (nb x q2) = w8 at *
  clear c0 c1 c2 c3
  obtain ⟨c0, c1, c2, c3⟩ := N8.out.box
  clear x0 x1 x2 x3
  obtain ⟨x0, x1, x2, x3⟩ := X8.out.box
  clear g0 g1 g2 g3
  obtain ⟨g0, g1, g2, g3⟩ := Y8.out.box
  obtain ⟨h0, h1, h2, h3⟩ := Z8.out.box
  go_wp2_with (first
    | (go_at_call 10; refine (HG.out.awake _ L10.out.tabs).mono ?_; rintro e w100 ⟨rfl, hb100⟩; have L100 := Lib.hid (L10.out.later hb100); clear hb100)
    | (go_at_call 26; (with_reducible refine (B1.out _ J9.out K9.out).mono ?_); rintro e w10 ⟨rfl, hb10⟩; have L10 := Lib.hid (L9.out.later hb10); have N10 := Lib.hid (N9.out.later hb10); have X10 := Lib.hid (X9.out.later hb10); have J10 := Lib.hid (J9.out.later hb10); have K10 := Lib.hid (K9.out.later hb10); have Y10 := Lib.hid (Y9.out.later hb10); have Z10 := Lib.hid (Z9.out.later hb10); clear c0 c1 c2 c3; obtain ⟨c0, c1, c2, c3⟩ := N10.out.box; clear x0 x1 x2 x3; obtain ⟨x0, x1, x2, x3⟩ := X10.out.box; clear g0 g1 g2 g3; obtain ⟨g0, g1, g2, g3⟩ := Y10.out.box; clear h0 h1 h2 h3; obtain ⟨h0, h1, h2, h3⟩ := Z10.out.box; clear hb10)
    | (go_at_call 18; (with_reducible refine (Q1.out _ _ _ Z8.out.tree X8.out.tree).mono ?_); rintro e w9 ⟨rfl, hb9⟩; have L9 := Lib.hid (L8.out.later hb9); have N9 := Lib.hid (N8.out.later hb9); have X9 := Lib.hid (X8.out.later hb9); have J9 := Lib.hid (J8.out.later hb9); have K9 := Lib.hid (K8.out.later hb9); have Y9 := Lib.hid (Y8.out.later hb9); have Z9 := Lib.hid (Z8.out.later hb9); clear c0 c1 c2 c3; obtain ⟨c0, c1, c2, c3⟩ := N9.out.box; clear x0 x1 x2 x3; obtain ⟨x0, x1, x2, x3⟩ := X9.out.box; clear g0 g1 g2 g3; obtain ⟨g0, g1, g2, g3⟩ := Y9.out.box; clear h0 h1 h2 h3; obtain ⟨h0, h1, h2, h3⟩ := Z9.out.box; clear hb9))
  go_ret
  exact ⟨rfl, L100.out.low⟩
set_option maxHeartbeats 6400000 in
theorem replaces_true_ft (G : Prog) (t x : Pl.Tr) (r rx : Sl) (p q : List Int) (a b : Option Addr) (c d : Nat) (w : World) (hT : Tabs w) (h : IsT w t r) (hx : IsT w x rx) (hp : IsI w a p) (hq : IsI w b q) (hc : p.length ≤ c) (hd : q.length ≤ d) (hE1 : Pl.replE t p x = 0) (y : Pl.Tr) (hy : y = Pl.putP x p t) (hs : sm y = true) (h1 : decide (q <+: p) = false) (h2 : decide (p <+: q) = true) :
    Calls Tryd.prog 5 #[nvx t r, .slice a p.length c, nvx x rx, .slice b q.length d] w fun e w' => e = .returned (.bool true) ∧ Below w.heap.size w w' := by
  have L0 : Hid (Lo w ((w.alloc (nb t r)).alloc (nb x rx))) := Lib.hid ((lo_new hT (nb t r)).later (box_below _ _))
  have N0 : Hid (Bx w.heap.size t r ((w.alloc (nb t r)).alloc (nb x rx))) := Lib.hid ((bx_new h).later (box_below _ _))
  have X0 : Hid (Bx (w.heap.size + 1) x rx ((w.alloc (nb t r)).alloc (nb x rx))) := Lib.hid (by have := bx_new (hx.later (box_below w (nb t r))); rwa [show (w.alloc (nb t r)).heap.size = w.heap.size + 1 by simp] at this)
  have J0 : Hid (IsI ((w.alloc (nb t r)).alloc (nb x rx)) a p) := Lib.hid ((hp.later (box_below _ _)).later (box_below _ _))
  have K0 : Hid (IsI ((w.alloc (nb t r)).alloc (nb x rx)) b q) := Lib.hid ((hq.later (box_below _ _)).later (box_below _ _))
  have HG := Lib.hid G
  obtain ⟨⟨u0, hg⟩, hck⟩ := Pl.repl_parts hE1
  have hget : Pl.getP p y = some x := by rw [hy]; exact Pl.get_put x hg
  have HSZ := Lib.hid (Pl.sz_put x hg)
  rw [← hy] at hck HSZ
  have HSM := Lib.hid (fun r w h => small_ex y r w h true hs)
  have HCk := Lib.hid (fun w r h => rcheck_at y w r h)
  rw [hck] at HCk
  have C1 := Lib.hid (fun V hV hI hX hA hz hz2 => (G.replace t x r rx p a c V hV hI hX hA hc hz hz2).mono fun e w' hr => (by have hr := res_u hr; rw [hE1, if_pos rfl, ← hy] at hr; exact hr : GetU 0 y V e w'))
  have C2 := Lib.hid (fun ry V hV hI hA hz => (G.get y ry p a c V hV hI hA hc hz (Pl.gb_rp hck p)).mono fun e w' hr => get_some_u hget hr)
  have Q1 := Lib.hid (fun V r1 r2 h k => equal_is x x r1 r2 true (eqT_iff.2 rfl) V h k)
  have B1 := Lib.hid (fun V h k => begins_is p q a b c d V h k _ h1)
  have B2 := Lib.hid (fun V h k => begins_is q p b a d c V h k _ h2)
  unfold GetU at C1 C2
  obtain ⟨m, hm⟩ : ∃ m, m = p.length := ⟨_, rfl⟩
  obtain ⟨l, hl⟩ : ∃ l, l = q.length := ⟨_, rfl⟩
  rw [← hm] at C1 C2 B1 B2 ⊢
  rw [← hl] at B1 B2 ⊢
  clear hT h hx hp hq hc hd hm hl hE1 hs hck h1 hg hget h2 hy
  go_enter Tryd.func5, Tryd.ntmps5
  obtain ⟨c0, c1, c2, c3⟩ := N0.out.box
  obtain ⟨x0, x1, x2, x3⟩ := X0.out.box
  go_upto_region 3 with (first
    | (go_at_call 9; have g9 := HL.out; clear g9; refine (small_is x rx _ X1.out.tree).mono ?_; rintro e w2 ⟨b, hl, rfl, hb2⟩; have L2 := Lib.hid (L1.out.later hb2); have N2 := Lib.hid (N1.out.later hb2); have X2 := Lib.hid (X1.out.later hb2); have J2 := Lib.hid (J1.out.later hb2); have K2 := Lib.hid (K1.out.later hb2); clear c0 c1 c2 c3; obtain ⟨c0, c1, c2, c3⟩ := N2.out.box; clear x0 x1 x2 x3; obtain ⟨x0, x1, x2, x3⟩ := X2.out.box; clear hb2; rcases b with _ | _; (focus (clear hl; go_wp2_with (go_at_call 10; refine (HG.out.awake _ L2.out.tabs).mono ?_; rintro e w92 ⟨rfl, hb92⟩; have L92 := Lib.hid (L2.out.later hb92); clear hb92); go_ret; exact ⟨rfl, L92.out.low⟩)); have HX2 : Hid (Pl.sz x ≤ 300) := Lib.hid (hl rfl); clear hl)
    | (go_at_call 9; refine (small_is t r _ N0.out.tree).mono ?_; rintro e w1 ⟨b, hl, rfl, hb1⟩; have L1 := Lib.hid (L0.out.later hb1); have N1 := Lib.hid (N0.out.later hb1); have X1 := Lib.hid (X0.out.later hb1); have J1 := Lib.hid (J0.out.later hb1); have K1 := Lib.hid (K0.out.later hb1); clear c0 c1 c2 c3; obtain ⟨c0, c1, c2, c3⟩ := N1.out.box; clear x0 x1 x2 x3; obtain ⟨x0, x1, x2, x3⟩ := X1.out.box; clear hb1; rcases b with _ | _; (focus (clear hl; go_wp2_with (go_at_call 10; refine (HG.out.awake _ L1.out.tabs).mono ?_; rintro e w91 ⟨rfl, hb91⟩; have L91 := Lib.hid (L1.out.later hb91); clear hb91); go_ret; exact ⟨rfl, L91.out.low⟩)); have HL : Hid (Pl.sz t ≤ 300) := Lib.hid (hl rfl); clear hl))
  have HL1 : Hid (Pl.sz t ≤ 10000) := Lib.hid (by have := HL.out; omega)
  have HL2 : Hid (Pl.sz x ≤ 10000) := Lib.hid (by have := HX2.out; omega)
  go_upto_region 4 with (go_at_call 19; refine (C1.out _ L2.out.tabs N2.out.tree X2.out.tree J2.out HL1.out HL2.out).mono ?_; rintro e w3 ⟨hb3, q1, ht3, rfl⟩; have L3 := Lib.hid (L2.out.later hb3); have N3 := Lib.hid (N2.out.later hb3); have X3 := Lib.hid (X2.out.later hb3); have J3 := Lib.hid (J2.out.later hb3); have K3 := Lib.hid (K2.out.later hb3); have Y3 := Lib.hid (bx_new ht3.out); clear c0 c1 c2 c3; obtain ⟨c0, c1, c2, c3⟩ := N3.out.box; clear x0 x1 x2 x3; obtain ⟨x0, x1, x2, x3⟩ := X3.out.box; clear hb3)
  have L4 := Lib.hid (L3.out.later (box_below w3 (nb y q1)))
  have N4 := Lib.hid (N3.out.later (box_below w3 (nb y q1)))
  have X4 := Lib.hid (X3.out.later (box_below w3 (nb y q1)))
  have J4 := Lib.hid (J3.out.later (box_below w3 (nb y q1)))
  have K4 := Lib.hid (K3.out.later (box_below w3 (nb y q1)))
  have Y4 := Y3
  clear Y3
  generalize hW4 : w3.alloc (nb y q1) = w4 at *
  clear c0 c1 c2 c3
  obtain ⟨c0, c1, c2, c3⟩ := N4.out.box
  clear x0 x1 x2 x3
  obtain ⟨x0, x1, x2, x3⟩ := X4.out.box
  obtain ⟨g0, g1, g2, g3⟩ := Y4.out.box
  have HY : Hid (Pl.sz y ≤ 10000) := Lib.hid (by have h1 := HL.out; have h2 := HX2.out; have h3 := HSZ.out; omega)
  go_upto_region 9 with (first
    | (go_at_call 15; refine (C2.out q1 _ L6.out.tabs Y6.out.tree J6.out HY.out).mono ?_; rintro e w7 ⟨hb7, q2, ht7, rfl⟩; have L7 := Lib.hid (L6.out.later hb7); have N7 := Lib.hid (N6.out.later hb7); have X7 := Lib.hid (X6.out.later hb7); have J7 := Lib.hid (J6.out.later hb7); have K7 := Lib.hid (K6.out.later hb7); have Y7 := Lib.hid (Y6.out.later hb7); have Z7 := Lib.hid (bx_new ht7.out); clear c0 c1 c2 c3; obtain ⟨c0, c1, c2, c3⟩ := N7.out.box; clear x0 x1 x2 x3; obtain ⟨x0, x1, x2, x3⟩ := X7.out.box; clear g0 g1 g2 g3; obtain ⟨g0, g1, g2, g3⟩ := Y7.out.box; clear hb7)
    | (go_at_call 25; (with_reducible refine (HCk.out _ q1 Y5.out.tree).mono ?_); rintro e w6 ⟨rfl, hb6⟩; have L6 := Lib.hid (L5.out.later hb6); have N6 := Lib.hid (N5.out.later hb6); have X6 := Lib.hid (X5.out.later hb6); have J6 := Lib.hid (J5.out.later hb6); have K6 := Lib.hid (K5.out.later hb6); have Y6 := Lib.hid (Y5.out.later hb6); clear c0 c1 c2 c3; obtain ⟨c0, c1, c2, c3⟩ := N6.out.box; clear x0 x1 x2 x3; obtain ⟨x0, x1, x2, x3⟩ := X6.out.box; clear g0 g1 g2 g3; obtain ⟨g0, g1, g2, g3⟩ := Y6.out.box; clear hb6)
    | (go_at_call 9; (with_reducible refine (HSM.out q1 _ Y4.out.tree).mono ?_); rintro e w5 ⟨rfl, hb5⟩; have L5 := Lib.hid (L4.out.later hb5); have N5 := Lib.hid (N4.out.later hb5); have X5 := Lib.hid (X4.out.later hb5); have J5 := Lib.hid (J4.out.later hb5); have K5 := Lib.hid (K4.out.later hb5); have Y5 := Lib.hid (Y4.out.later hb5); clear c0 c1 c2 c3; obtain ⟨c0, c1, c2, c3⟩ := N5.out.box; clear x0 x1 x2 x3; obtain ⟨x0, x1, x2, x3⟩ := X5.out.box; clear g0 g1 g2 g3; obtain ⟨g0, g1, g2, g3⟩ := Y5.out.box; clear hb5))
  have L8 := Lib.hid (L7.out.later (box_below w7 (nb x q2)))
  have N8 := Lib.hid (N7.out.later (box_below w7 (nb x q2)))
  have X8 := Lib.hid (X7.out.later (box_below w7 (nb x q2)))
  have J8 := Lib.hid (J7.out.later (box_below w7 (nb x q2)))
  have K8 := Lib.hid (K7.out.later (box_below w7 (nb x q2)))
  have Y8 := Lib.hid (Y7.out.later (box_below w7 (nb x q2)))
  have Z8 := Z7
  clear Z7
  generalize hW8 : w7.alloc (nb x q2) = w8 at *
  clear c0 c1 c2 c3
  obtain ⟨c0, c1, c2, c3⟩ := N8.out.box
  clear x0 x1 x2 x3
  obtain ⟨x0, x1, x2, x3⟩ := X8.out.box
  clear g0 g1 g2 g3
  obtain ⟨g0, g1, g2, g3⟩ := Y8.out.box
  obtain ⟨h0, h1, h2, h3⟩ := Z8.out.box
  go_wp2_with (first
    | (go_at_call 10; refine (HG.out.awake _ L11.out.tabs).mono ?_; rintro e w101 ⟨rfl, hb101⟩; have L101 := Lib.hid (L11.out.later hb101); clear hb101)
    | (go_at_call 26; (with_reducible refine (B2.out _ K10.out J10.out).mono ?_); rintro e w11 ⟨rfl, hb11⟩; have L11 := Lib.hid (L10.out.later hb11); have N11 := Lib.hid (N10.out.later hb11); have X11 := Lib.hid (X10.out.later hb11); have J11 := Lib.hid (J10.out.later hb11); have K11 := Lib.hid (K10.out.later hb11); have Y11 := Lib.hid (Y10.out.later hb11); have Z11 := Lib.hid (Z10.out.later hb11); clear c0 c1 c2 c3; obtain ⟨c0, c1, c2, c3⟩ := N11.out.box; clear x0 x1 x2 x3; obtain ⟨x0, x1, x2, x3⟩ := X11.out.box; clear g0 g1 g2 g3; obtain ⟨g0, g1, g2, g3⟩ := Y11.out.box; clear h0 h1 h2 h3; obtain ⟨h0, h1, h2, h3⟩ := Z11.out.box; clear hb11)
    | (go_at_call 26; (with_reducible refine (B1.out _ J9.out K9.out).mono ?_); rintro e w10 ⟨rfl, hb10⟩; have L10 := Lib.hid (L9.out.later hb10); have N10 := Lib.hid (N9.out.later hb10); have X10 := Lib.hid (X9.out.later hb10); have J10 := Lib.hid (J9.out.later hb10); have K10 := Lib.hid (K9.out.later hb10); have Y10 := Lib.hid (Y9.out.later hb10); have Z10 := Lib.hid (Z9.out.later hb10); clear c0 c1 c2 c3; obtain ⟨c0, c1, c2, c3⟩ := N10.out.box; clear x0 x1 x2 x3; obtain ⟨x0, x1, x2, x3⟩ := X10.out.box; clear g0 g1 g2 g3; obtain ⟨g0, g1, g2, g3⟩ := Y10.out.box; clear h0 h1 h2 h3; obtain ⟨h0, h1, h2, h3⟩ := Z10.out.box; clear hb10)
    | (go_at_call 18; (with_reducible refine (Q1.out _ _ _ Z8.out.tree X8.out.tree).mono ?_); rintro e w9 ⟨rfl, hb9⟩; have L9 := Lib.hid (L8.out.later hb9); have N9 := Lib.hid (N8.out.later hb9); have X9 := Lib.hid (X8.out.later hb9); have J9 := Lib.hid (J8.out.later hb9); have K9 := Lib.hid (K8.out.later hb9); have Y9 := Lib.hid (Y8.out.later hb9); have Z9 := Lib.hid (Z8.out.later hb9); clear c0 c1 c2 c3; obtain ⟨c0, c1, c2, c3⟩ := N9.out.box; clear x0 x1 x2 x3; obtain ⟨x0, x1, x2, x3⟩ := X9.out.box; clear g0 g1 g2 g3; obtain ⟨g0, g1, g2, g3⟩ := Y9.out.box; clear h0 h1 h2 h3; obtain ⟨h0, h1, h2, h3⟩ := Z9.out.box; clear hb9))
  go_ret
  exact ⟨rfl, L101.out.low⟩
set_option maxHeartbeats 6400000 in
theorem replaces_true_ff (G : Prog) (t x : Pl.Tr) (r rx : Sl) (p q : List Int) (a b : Option Addr) (c d : Nat) (w : World) (hT : Tabs w) (h : IsT w t r) (hx : IsT w x rx) (hp : IsI w a p) (hq : IsI w b q) (hc : p.length ≤ c) (hd : q.length ≤ d) (hE1 : Pl.replE t p x = 0) (y : Pl.Tr) (hy : y = Pl.putP x p t) (hs : sm y = true) (h1 : decide (q <+: p) = false) (h2 : decide (p <+: q) = false) :
    Calls Tryd.prog 5 #[nvx t r, .slice a p.length c, nvx x rx, .slice b q.length d] w fun e w' => e = .returned (.bool true) ∧ Below w.heap.size w w' := by
  have L0 : Hid (Lo w ((w.alloc (nb t r)).alloc (nb x rx))) := Lib.hid ((lo_new hT (nb t r)).later (box_below _ _))
  have N0 : Hid (Bx w.heap.size t r ((w.alloc (nb t r)).alloc (nb x rx))) := Lib.hid ((bx_new h).later (box_below _ _))
  have X0 : Hid (Bx (w.heap.size + 1) x rx ((w.alloc (nb t r)).alloc (nb x rx))) := Lib.hid (by have := bx_new (hx.later (box_below w (nb t r))); rwa [show (w.alloc (nb t r)).heap.size = w.heap.size + 1 by simp] at this)
  have J0 : Hid (IsI ((w.alloc (nb t r)).alloc (nb x rx)) a p) := Lib.hid ((hp.later (box_below _ _)).later (box_below _ _))
  have K0 : Hid (IsI ((w.alloc (nb t r)).alloc (nb x rx)) b q) := Lib.hid ((hq.later (box_below _ _)).later (box_below _ _))
  have HG := Lib.hid G
  obtain ⟨⟨u0, hg⟩, hck⟩ := Pl.repl_parts hE1
  have hget : Pl.getP p y = some x := by rw [hy]; exact Pl.get_put x hg
  have HSZ := Lib.hid (Pl.sz_put x hg)
  rw [← hy] at hck HSZ
  have HSM := Lib.hid (fun r w h => small_ex y r w h true hs)
  have HCk := Lib.hid (fun w r h => rcheck_at y w r h)
  rw [hck] at HCk
  have C1 := Lib.hid (fun V hV hI hX hA hz hz2 => (G.replace t x r rx p a c V hV hI hX hA hc hz hz2).mono fun e w' hr => (by have hr := res_u hr; rw [hE1, if_pos rfl, ← hy] at hr; exact hr : GetU 0 y V e w'))
  have C2 := Lib.hid (fun ry V hV hI hA hz => (G.get y ry p a c V hV hI hA hc hz (Pl.gb_rp hck p)).mono fun e w' hr => get_some_u hget hr)
  have Q1 := Lib.hid (fun V r1 r2 h k => equal_is x x r1 r2 true (eqT_iff.2 rfl) V h k)
  have B1 := Lib.hid (fun V h k => begins_is p q a b c d V h k _ h1)
  have B2 := Lib.hid (fun V h k => begins_is q p b a d c V h k _ h2)
  have hot : Pl.getP q y = Pl.getP q t := by rw [hy]; exact Pl.get_put_other x hg (of_decide_eq_false h2) (of_decide_eq_false h1)
  obtain ⟨E, u, hu⟩ := get_u t q
  have C3 := Lib.hid (fun V hV hI hA hz => (G.get t r q b d V hV hI hA hd hz (by rw [← hot]; exact Pl.gb_rp hck q)).mono fun e w' hr => hu _ _ _ hr)
  have C4 := Lib.hid (fun ry V hV hI hA hz => (G.get y ry q b d V hV hI hA hd hz (Pl.gb_rp hck q)).mono fun e w' hr => hu _ _ _ (by unfold GetR at hr ⊢; rw [hot] at hr; exact hr))
  have Q2 := Lib.hid (fun V r1 r2 h k => equal_is u u r1 r2 true (eqT_iff.2 rfl) V h k)
  have ee : (E == E) = true := by simp
  unfold GetU at C1 C2 C3 C4
  obtain ⟨m, hm⟩ : ∃ m, m = p.length := ⟨_, rfl⟩
  obtain ⟨l, hl⟩ : ∃ l, l = q.length := ⟨_, rfl⟩
  rw [← hm] at C1 C2 B1 B2 ⊢
  rw [← hl] at B1 B2 C3 C4 ⊢
  clear hT h hx hp hq hc hd hm hl hE1 hs hck h1 hg hget h2 hot hu hy
  go_enter Tryd.func5, Tryd.ntmps5
  obtain ⟨c0, c1, c2, c3⟩ := N0.out.box
  obtain ⟨x0, x1, x2, x3⟩ := X0.out.box
  go_upto_region 3 with (first
    | (go_at_call 9; have g9 := HL.out; clear g9; refine (small_is x rx _ X1.out.tree).mono ?_; rintro e w2 ⟨b, hl, rfl, hb2⟩; have L2 := Lib.hid (L1.out.later hb2); have N2 := Lib.hid (N1.out.later hb2); have X2 := Lib.hid (X1.out.later hb2); have J2 := Lib.hid (J1.out.later hb2); have K2 := Lib.hid (K1.out.later hb2); clear c0 c1 c2 c3; obtain ⟨c0, c1, c2, c3⟩ := N2.out.box; clear x0 x1 x2 x3; obtain ⟨x0, x1, x2, x3⟩ := X2.out.box; clear hb2; rcases b with _ | _; (focus (clear hl; go_wp2_with (go_at_call 10; refine (HG.out.awake _ L2.out.tabs).mono ?_; rintro e w92 ⟨rfl, hb92⟩; have L92 := Lib.hid (L2.out.later hb92); clear hb92); go_ret; exact ⟨rfl, L92.out.low⟩)); have HX2 : Hid (Pl.sz x ≤ 300) := Lib.hid (hl rfl); clear hl)
    | (go_at_call 9; refine (small_is t r _ N0.out.tree).mono ?_; rintro e w1 ⟨b, hl, rfl, hb1⟩; have L1 := Lib.hid (L0.out.later hb1); have N1 := Lib.hid (N0.out.later hb1); have X1 := Lib.hid (X0.out.later hb1); have J1 := Lib.hid (J0.out.later hb1); have K1 := Lib.hid (K0.out.later hb1); clear c0 c1 c2 c3; obtain ⟨c0, c1, c2, c3⟩ := N1.out.box; clear x0 x1 x2 x3; obtain ⟨x0, x1, x2, x3⟩ := X1.out.box; clear hb1; rcases b with _ | _; (focus (clear hl; go_wp2_with (go_at_call 10; refine (HG.out.awake _ L1.out.tabs).mono ?_; rintro e w91 ⟨rfl, hb91⟩; have L91 := Lib.hid (L1.out.later hb91); clear hb91); go_ret; exact ⟨rfl, L91.out.low⟩)); have HL : Hid (Pl.sz t ≤ 300) := Lib.hid (hl rfl); clear hl))
  have HL1 : Hid (Pl.sz t ≤ 10000) := Lib.hid (by have := HL.out; omega)
  have HL2 : Hid (Pl.sz x ≤ 10000) := Lib.hid (by have := HX2.out; omega)
  go_upto_region 4 with (go_at_call 19; refine (C1.out _ L2.out.tabs N2.out.tree X2.out.tree J2.out HL1.out HL2.out).mono ?_; rintro e w3 ⟨hb3, q1, ht3, rfl⟩; have L3 := Lib.hid (L2.out.later hb3); have N3 := Lib.hid (N2.out.later hb3); have X3 := Lib.hid (X2.out.later hb3); have J3 := Lib.hid (J2.out.later hb3); have K3 := Lib.hid (K2.out.later hb3); have Y3 := Lib.hid (bx_new ht3.out); clear c0 c1 c2 c3; obtain ⟨c0, c1, c2, c3⟩ := N3.out.box; clear x0 x1 x2 x3; obtain ⟨x0, x1, x2, x3⟩ := X3.out.box; clear hb3)
  have L4 := Lib.hid (L3.out.later (box_below w3 (nb y q1)))
  have N4 := Lib.hid (N3.out.later (box_below w3 (nb y q1)))
  have X4 := Lib.hid (X3.out.later (box_below w3 (nb y q1)))
  have J4 := Lib.hid (J3.out.later (box_below w3 (nb y q1)))
  have K4 := Lib.hid (K3.out.later (box_below w3 (nb y q1)))
  have Y4 := Y3
  clear Y3
  generalize hW4 : w3.alloc (nb y q1) = w4 at *
  clear c0 c1 c2 c3
  obtain ⟨c0, c1, c2, c3⟩ := N4.out.box
  clear x0 x1 x2 x3
  obtain ⟨x0, x1, x2, x3⟩ := X4.out.box
  obtain ⟨g0, g1, g2, g3⟩ := Y4.out.box
  have HY : Hid (Pl.sz y ≤ 10000) := Lib.hid (by have h1 := HL.out; have h2 := HX2.out; have h3 := HSZ.out; omega)
  go_upto_region 9 with (first
    | (go_at_call 15; refine (C2.out q1 _ L6.out.tabs Y6.out.tree J6.out HY.out).mono ?_; rintro e w7 ⟨hb7, q2, ht7, rfl⟩; have L7 := Lib.hid (L6.out.later hb7); have N7 := Lib.hid (N6.out.later hb7); have X7 := Lib.hid (X6.out.later hb7); have J7 := Lib.hid (J6.out.later hb7); have K7 := Lib.hid (K6.out.later hb7); have Y7 := Lib.hid (Y6.out.later hb7); have Z7 := Lib.hid (bx_new ht7.out); clear c0 c1 c2 c3; obtain ⟨c0, c1, c2, c3⟩ := N7.out.box; clear x0 x1 x2 x3; obtain ⟨x0, x1, x2, x3⟩ := X7.out.box; clear g0 g1 g2 g3; obtain ⟨g0, g1, g2, g3⟩ := Y7.out.box; clear hb7)
    | (go_at_call 25; (with_reducible refine (HCk.out _ q1 Y5.out.tree).mono ?_); rintro e w6 ⟨rfl, hb6⟩; have L6 := Lib.hid (L5.out.later hb6); have N6 := Lib.hid (N5.out.later hb6); have X6 := Lib.hid (X5.out.later hb6); have J6 := Lib.hid (J5.out.later hb6); have K6 := Lib.hid (K5.out.later hb6); have Y6 := Lib.hid (Y5.out.later hb6); clear c0 c1 c2 c3; obtain ⟨c0, c1, c2, c3⟩ := N6.out.box; clear x0 x1 x2 x3; obtain ⟨x0, x1, x2, x3⟩ := X6.out.box; clear g0 g1 g2 g3; obtain ⟨g0, g1, g2, g3⟩ := Y6.out.box; clear hb6)
    | (go_at_call 9; (with_reducible refine (HSM.out q1 _ Y4.out.tree).mono ?_); rintro e w5 ⟨rfl, hb5⟩; have L5 := Lib.hid (L4.out.later hb5); have N5 := Lib.hid (N4.out.later hb5); have X5 := Lib.hid (X4.out.later hb5); have J5 := Lib.hid (J4.out.later hb5); have K5 := Lib.hid (K4.out.later hb5); have Y5 := Lib.hid (Y4.out.later hb5); clear c0 c1 c2 c3; obtain ⟨c0, c1, c2, c3⟩ := N5.out.box; clear x0 x1 x2 x3; obtain ⟨x0, x1, x2, x3⟩ := X5.out.box; clear g0 g1 g2 g3; obtain ⟨g0, g1, g2, g3⟩ := Y5.out.box; clear hb5))
  have L8 := Lib.hid (L7.out.later (box_below w7 (nb x q2)))
  have N8 := Lib.hid (N7.out.later (box_below w7 (nb x q2)))
  have X8 := Lib.hid (X7.out.later (box_below w7 (nb x q2)))
  have J8 := Lib.hid (J7.out.later (box_below w7 (nb x q2)))
  have K8 := Lib.hid (K7.out.later (box_below w7 (nb x q2)))
  have Y8 := Lib.hid (Y7.out.later (box_below w7 (nb x q2)))
  have Z8 := Z7
  clear Z7
  generalize hW8 : w7.alloc (nb x q2) = w8 at *
  clear c0 c1 c2 c3
  obtain ⟨c0, c1, c2, c3⟩ := N8.out.box
  clear x0 x1 x2 x3
  obtain ⟨x0, x1, x2, x3⟩ := X8.out.box
  clear g0 g1 g2 g3
  obtain ⟨g0, g1, g2, g3⟩ := Y8.out.box
  obtain ⟨h0, h1, h2, h3⟩ := Z8.out.box
  go_upto_region 14 with (first
    | (go_at_call 15; refine (C3.out _ L11.out.tabs N11.out.tree K11.out HL1.out).mono ?_; rintro e w12 ⟨hb12, q3, ht12, rfl⟩; have L12 := Lib.hid (L11.out.later hb12); have N12 := Lib.hid (N11.out.later hb12); have X12 := Lib.hid (X11.out.later hb12); have J12 := Lib.hid (J11.out.later hb12); have K12 := Lib.hid (K11.out.later hb12); have Y12 := Lib.hid (Y11.out.later hb12); have Z12 := Lib.hid (Z11.out.later hb12); have S12 := Lib.hid (bx_new ht12.out); clear c0 c1 c2 c3; obtain ⟨c0, c1, c2, c3⟩ := N12.out.box; clear x0 x1 x2 x3; obtain ⟨x0, x1, x2, x3⟩ := X12.out.box; clear g0 g1 g2 g3; obtain ⟨g0, g1, g2, g3⟩ := Y12.out.box; clear h0 h1 h2 h3; obtain ⟨h0, h1, h2, h3⟩ := Z12.out.box; clear hb12)
    | (go_at_call 26; (with_reducible refine (B2.out _ K10.out J10.out).mono ?_); rintro e w11 ⟨rfl, hb11⟩; have L11 := Lib.hid (L10.out.later hb11); have N11 := Lib.hid (N10.out.later hb11); have X11 := Lib.hid (X10.out.later hb11); have J11 := Lib.hid (J10.out.later hb11); have K11 := Lib.hid (K10.out.later hb11); have Y11 := Lib.hid (Y10.out.later hb11); have Z11 := Lib.hid (Z10.out.later hb11); clear c0 c1 c2 c3; obtain ⟨c0, c1, c2, c3⟩ := N11.out.box; clear x0 x1 x2 x3; obtain ⟨x0, x1, x2, x3⟩ := X11.out.box; clear g0 g1 g2 g3; obtain ⟨g0, g1, g2, g3⟩ := Y11.out.box; clear h0 h1 h2 h3; obtain ⟨h0, h1, h2, h3⟩ := Z11.out.box; clear hb11)
    | (go_at_call 26; (with_reducible refine (B1.out _ J9.out K9.out).mono ?_); rintro e w10 ⟨rfl, hb10⟩; have L10 := Lib.hid (L9.out.later hb10); have N10 := Lib.hid (N9.out.later hb10); have X10 := Lib.hid (X9.out.later hb10); have J10 := Lib.hid (J9.out.later hb10); have K10 := Lib.hid (K9.out.later hb10); have Y10 := Lib.hid (Y9.out.later hb10); have Z10 := Lib.hid (Z9.out.later hb10); clear c0 c1 c2 c3; obtain ⟨c0, c1, c2, c3⟩ := N10.out.box; clear x0 x1 x2 x3; obtain ⟨x0, x1, x2, x3⟩ := X10.out.box; clear g0 g1 g2 g3; obtain ⟨g0, g1, g2, g3⟩ := Y10.out.box; clear h0 h1 h2 h3; obtain ⟨h0, h1, h2, h3⟩ := Z10.out.box; clear hb10)
    | (go_at_call 18; (with_reducible refine (Q1.out _ _ _ Z8.out.tree X8.out.tree).mono ?_); rintro e w9 ⟨rfl, hb9⟩; have L9 := Lib.hid (L8.out.later hb9); have N9 := Lib.hid (N8.out.later hb9); have X9 := Lib.hid (X8.out.later hb9); have J9 := Lib.hid (J8.out.later hb9); have K9 := Lib.hid (K8.out.later hb9); have Y9 := Lib.hid (Y8.out.later hb9); have Z9 := Lib.hid (Z8.out.later hb9); clear c0 c1 c2 c3; obtain ⟨c0, c1, c2, c3⟩ := N9.out.box; clear x0 x1 x2 x3; obtain ⟨x0, x1, x2, x3⟩ := X9.out.box; clear g0 g1 g2 g3; obtain ⟨g0, g1, g2, g3⟩ := Y9.out.box; clear h0 h1 h2 h3; obtain ⟨h0, h1, h2, h3⟩ := Z9.out.box; clear hb9))
  have L13 := Lib.hid (L12.out.later (box_below w12 (nb u q3)))
  have N13 := Lib.hid (N12.out.later (box_below w12 (nb u q3)))
  have X13 := Lib.hid (X12.out.later (box_below w12 (nb u q3)))
  have J13 := Lib.hid (J12.out.later (box_below w12 (nb u q3)))
  have K13 := Lib.hid (K12.out.later (box_below w12 (nb u q3)))
  have Y13 := Lib.hid (Y12.out.later (box_below w12 (nb u q3)))
  have Z13 := Lib.hid (Z12.out.later (box_below w12 (nb u q3)))
  have S13 := S12
  clear S12
  generalize hW13 : w12.alloc (nb u q3) = w13 at *
  clear c0 c1 c2 c3
  obtain ⟨c0, c1, c2, c3⟩ := N13.out.box
  clear x0 x1 x2 x3
  obtain ⟨x0, x1, x2, x3⟩ := X13.out.box
  clear g0 g1 g2 g3
  obtain ⟨g0, g1, g2, g3⟩ := Y13.out.box
  clear h0 h1 h2 h3
  obtain ⟨h0, h1, h2, h3⟩ := Z13.out.box
  obtain ⟨i0, i1, i2, i3⟩ := S13.out.box
  go_upto_region 15 with (first
    | (go_at_call 15; refine (C4.out q1 _ L13.out.tabs Y13.out.tree K13.out HY.out).mono ?_; rintro e w14 ⟨hb14, q4, ht14, rfl⟩; have L14 := Lib.hid (L13.out.later hb14); have N14 := Lib.hid (N13.out.later hb14); have X14 := Lib.hid (X13.out.later hb14); have J14 := Lib.hid (J13.out.later hb14); have K14 := Lib.hid (K13.out.later hb14); have Y14 := Lib.hid (Y13.out.later hb14); have Z14 := Lib.hid (Z13.out.later hb14); have S14 := Lib.hid (S13.out.later hb14); have T14 := Lib.hid (bx_new ht14.out); clear c0 c1 c2 c3; obtain ⟨c0, c1, c2, c3⟩ := N14.out.box; clear x0 x1 x2 x3; obtain ⟨x0, x1, x2, x3⟩ := X14.out.box; clear g0 g1 g2 g3; obtain ⟨g0, g1, g2, g3⟩ := Y14.out.box; clear h0 h1 h2 h3; obtain ⟨h0, h1, h2, h3⟩ := Z14.out.box; clear i0 i1 i2 i3; obtain ⟨i0, i1, i2, i3⟩ := S14.out.box; clear hb14))
  have L15 := Lib.hid (L14.out.later (box_below w14 (nb u q4)))
  have N15 := Lib.hid (N14.out.later (box_below w14 (nb u q4)))
  have X15 := Lib.hid (X14.out.later (box_below w14 (nb u q4)))
  have J15 := Lib.hid (J14.out.later (box_below w14 (nb u q4)))
  have K15 := Lib.hid (K14.out.later (box_below w14 (nb u q4)))
  have Y15 := Lib.hid (Y14.out.later (box_below w14 (nb u q4)))
  have Z15 := Lib.hid (Z14.out.later (box_below w14 (nb u q4)))
  have S15 := Lib.hid (S14.out.later (box_below w14 (nb u q4)))
  have T15 := T14
  clear T14
  generalize hW15 : w14.alloc (nb u q4) = w15 at *
  clear c0 c1 c2 c3
  obtain ⟨c0, c1, c2, c3⟩ := N15.out.box
  clear x0 x1 x2 x3
  obtain ⟨x0, x1, x2, x3⟩ := X15.out.box
  clear g0 g1 g2 g3
  obtain ⟨g0, g1, g2, g3⟩ := Y15.out.box
  clear h0 h1 h2 h3
  obtain ⟨h0, h1, h2, h3⟩ := Z15.out.box
  clear i0 i1 i2 i3
  obtain ⟨i0, i1, i2, i3⟩ := S15.out.box
  obtain ⟨j0, j1, j2, j3⟩ := T15.out.box
  go_wp2_with (first
    | (go_at_call 10; refine (HG.out.awake _ L16.out.tabs).mono ?_; rintro e w106 ⟨rfl, hb106⟩; have L106 := Lib.hid (L16.out.later hb106); clear hb106)
    | (go_at_call 18; (with_reducible refine (Q2.out _ _ _ S15.out.tree T15.out.tree).mono ?_); rintro e w16 ⟨rfl, hb16⟩; have L16 := Lib.hid (L15.out.later hb16); have N16 := Lib.hid (N15.out.later hb16); have X16 := Lib.hid (X15.out.later hb16); have J16 := Lib.hid (J15.out.later hb16); have K16 := Lib.hid (K15.out.later hb16); have Y16 := Lib.hid (Y15.out.later hb16); have Z16 := Lib.hid (Z15.out.later hb16); have S16 := Lib.hid (S15.out.later hb16); have T16 := Lib.hid (T15.out.later hb16); clear c0 c1 c2 c3; obtain ⟨c0, c1, c2, c3⟩ := N16.out.box; clear x0 x1 x2 x3; obtain ⟨x0, x1, x2, x3⟩ := X16.out.box; clear g0 g1 g2 g3; obtain ⟨g0, g1, g2, g3⟩ := Y16.out.box; clear h0 h1 h2 h3; obtain ⟨h0, h1, h2, h3⟩ := Z16.out.box; clear i0 i1 i2 i3; obtain ⟨i0, i1, i2, i3⟩ := S16.out.box; clear j0 j1 j2 j3; obtain ⟨j0, j1, j2, j3⟩ := T16.out.box; clear hb16))
  go_ret
  exact ⟨rfl, L106.out.low⟩
set_option maxHeartbeats 6400000 in
theorem replaces_false_t (G : Prog) (t x : Pl.Tr) (r rx : Sl) (p q : List Int) (a b : Option Addr) (c d : Nat) (w : World) (hT : Tabs w) (h : IsT w t r) (hx : IsT w x rx) (hp : IsI w a p) (hq : IsI w b q) (hc : p.length ≤ c) (hd : q.length ≤ d) (hE1 : Pl.replE t p x = 0) (y : Pl.Tr) (hy : y = Pl.putP x p t) (hs : sm y = false) (hn : p ≠ []) (h1 : decide (q <+: p) = true) :
    Calls Tryd.prog 5 #[nvx t r, .slice a p.length c, nvx x rx, .slice b q.length d] w fun e w' => e = .returned (.bool true) ∧ Below w.heap.size w w' := by
  have L0 : Hid (Lo w ((w.alloc (nb t r)).alloc (nb x rx))) := Lib.hid ((lo_new hT (nb t r)).later (box_below _ _))
  have N0 : Hid (Bx w.heap.size t r ((w.alloc (nb t r)).alloc (nb x rx))) := Lib.hid ((bx_new h).later (box_below _ _))
  have X0 : Hid (Bx (w.heap.size + 1) x rx ((w.alloc (nb t r)).alloc (nb x rx))) := Lib.hid (by have := bx_new (hx.later (box_below w (nb t r))); rwa [show (w.alloc (nb t r)).heap.size = w.heap.size + 1 by simp] at this)
  have J0 : Hid (IsI ((w.alloc (nb t r)).alloc (nb x rx)) a p) := Lib.hid ((hp.later (box_below _ _)).later (box_below _ _))
  have K0 : Hid (IsI ((w.alloc (nb t r)).alloc (nb x rx)) b q) := Lib.hid ((hq.later (box_below _ _)).later (box_below _ _))
  have HG := Lib.hid G
  obtain ⟨⟨u0, hg⟩, hck⟩ := Pl.repl_parts hE1
  have hget : Pl.getP p y = some x := by rw [hy]; exact Pl.get_put x hg
  have HSZ := Lib.hid (Pl.sz_put x hg)
  rw [← hy] at hck HSZ
  have HSM := Lib.hid (fun r w h => small_ex y r w h false hs)
  have HCk := Lib.hid (fun w r h => rcheck_at y w r h)
  rw [hck] at HCk
  have C1 := Lib.hid (fun V hV hI hX hA hz hz2 => (G.replace t x r rx p a c V hV hI hX hA hc hz hz2).mono fun e w' hr => (by have hr := res_u hr; rw [hE1, if_pos rfl, ← hy] at hr; exact hr : GetU 0 y V e w'))
  have C2 := Lib.hid (fun ry V hV hI hA hz => (G.get y ry p a c V hV hI hA hc hz (Pl.gb_rp hck p)).mono fun e w' hr => get_some_u hget hr)
  have Q1 := Lib.hid (fun V r1 r2 h k => equal_is x x r1 r2 true (eqT_iff.2 rfl) V h k)
  have B1 := Lib.hid (fun V h k => begins_is p q a b c d V h k _ h1)
  unfold GetU at C1 C2
  have hm0 : ((p.length : Nat) == 0) = false := by cases p with
    | nil => exact absurd rfl hn
    | cons _ _ => simp
  have hm1 : (((p.length : Nat) : Int) == 0) = false := by cases p with
    | nil => exact absurd rfl hn
    | cons _ _ => simp; omega
  obtain ⟨m, hm⟩ : ∃ m, m = p.length := ⟨_, rfl⟩
  obtain ⟨l, hl⟩ : ∃ l, l = q.length := ⟨_, rfl⟩
  rw [← hm] at C1 C2 B1 hm0 hm1 ⊢
  rw [← hl] at B1 ⊢
  clear hT h hx hp hq hc hd hm hl hE1 hs hck h1 hg hget hn hy
  go_enter Tryd.func5, Tryd.ntmps5
  obtain ⟨c0, c1, c2, c3⟩ := N0.out.box
  obtain ⟨x0, x1, x2, x3⟩ := X0.out.box
  go_upto_region 3 with (first
    | (go_at_call 9; have g9 := HL.out; clear g9; refine (small_is x rx _ X1.out.tree).mono ?_; rintro e w2 ⟨b, hl, rfl, hb2⟩; have L2 := Lib.hid (L1.out.later hb2); have N2 := Lib.hid (N1.out.later hb2); have X2 := Lib.hid (X1.out.later hb2); have J2 := Lib.hid (J1.out.later hb2); have K2 := Lib.hid (K1.out.later hb2); clear c0 c1 c2 c3; obtain ⟨c0, c1, c2, c3⟩ := N2.out.box; clear x0 x1 x2 x3; obtain ⟨x0, x1, x2, x3⟩ := X2.out.box; clear hb2; rcases b with _ | _; (focus (clear hl; go_wp2_with (go_at_call 10; refine (HG.out.awake _ L2.out.tabs).mono ?_; rintro e w92 ⟨rfl, hb92⟩; have L92 := Lib.hid (L2.out.later hb92); clear hb92); go_ret; exact ⟨rfl, L92.out.low⟩)); have HX2 : Hid (Pl.sz x ≤ 300) := Lib.hid (hl rfl); clear hl)
    | (go_at_call 9; refine (small_is t r _ N0.out.tree).mono ?_; rintro e w1 ⟨b, hl, rfl, hb1⟩; have L1 := Lib.hid (L0.out.later hb1); have N1 := Lib.hid (N0.out.later hb1); have X1 := Lib.hid (X0.out.later hb1); have J1 := Lib.hid (J0.out.later hb1); have K1 := Lib.hid (K0.out.later hb1); clear c0 c1 c2 c3; obtain ⟨c0, c1, c2, c3⟩ := N1.out.box; clear x0 x1 x2 x3; obtain ⟨x0, x1, x2, x3⟩ := X1.out.box; clear hb1; rcases b with _ | _; (focus (clear hl; go_wp2_with (go_at_call 10; refine (HG.out.awake _ L1.out.tabs).mono ?_; rintro e w91 ⟨rfl, hb91⟩; have L91 := Lib.hid (L1.out.later hb91); clear hb91); go_ret; exact ⟨rfl, L91.out.low⟩)); have HL : Hid (Pl.sz t ≤ 300) := Lib.hid (hl rfl); clear hl))
  have HL1 : Hid (Pl.sz t ≤ 10000) := Lib.hid (by have := HL.out; omega)
  have HL2 : Hid (Pl.sz x ≤ 10000) := Lib.hid (by have := HX2.out; omega)
  go_upto_region 4 with (go_at_call 19; refine (C1.out _ L2.out.tabs N2.out.tree X2.out.tree J2.out HL1.out HL2.out).mono ?_; rintro e w3 ⟨hb3, q1, ht3, rfl⟩; have L3 := Lib.hid (L2.out.later hb3); have N3 := Lib.hid (N2.out.later hb3); have X3 := Lib.hid (X2.out.later hb3); have J3 := Lib.hid (J2.out.later hb3); have K3 := Lib.hid (K2.out.later hb3); have Y3 := Lib.hid (bx_new ht3.out); clear c0 c1 c2 c3; obtain ⟨c0, c1, c2, c3⟩ := N3.out.box; clear x0 x1 x2 x3; obtain ⟨x0, x1, x2, x3⟩ := X3.out.box; clear hb3)
  have L4 := Lib.hid (L3.out.later (box_below w3 (nb y q1)))
  have N4 := Lib.hid (N3.out.later (box_below w3 (nb y q1)))
  have X4 := Lib.hid (X3.out.later (box_below w3 (nb y q1)))
  have J4 := Lib.hid (J3.out.later (box_below w3 (nb y q1)))
  have K4 := Lib.hid (K3.out.later (box_below w3 (nb y q1)))
  have Y4 := Y3
  clear Y3
  generalize hW4 : w3.alloc (nb y q1) = w4 at *
  clear c0 c1 c2 c3
  obtain ⟨c0, c1, c2, c3⟩ := N4.out.box
  clear x0 x1 x2 x3
  obtain ⟨x0, x1, x2, x3⟩ := X4.out.box
  obtain ⟨g0, g1, g2, g3⟩ := Y4.out.box
  have HY : Hid (Pl.sz y ≤ 10000) := Lib.hid (by have h1 := HL.out; have h2 := HX2.out; have h3 := HSZ.out; omega)
  go_upto_region 9 with (first
    | (go_at_call 15; refine (C2.out q1 _ L6.out.tabs Y6.out.tree J6.out HY.out).mono ?_; rintro e w7 ⟨hb7, q2, ht7, rfl⟩; have L7 := Lib.hid (L6.out.later hb7); have N7 := Lib.hid (N6.out.later hb7); have X7 := Lib.hid (X6.out.later hb7); have J7 := Lib.hid (J6.out.later hb7); have K7 := Lib.hid (K6.out.later hb7); have Y7 := Lib.hid (Y6.out.later hb7); have Z7 := Lib.hid (bx_new ht7.out); clear c0 c1 c2 c3; obtain ⟨c0, c1, c2, c3⟩ := N7.out.box; clear x0 x1 x2 x3; obtain ⟨x0, x1, x2, x3⟩ := X7.out.box; clear g0 g1 g2 g3; obtain ⟨g0, g1, g2, g3⟩ := Y7.out.box; clear hb7)
    | (go_at_call 25; (with_reducible refine (HCk.out _ q1 Y5.out.tree).mono ?_); rintro e w6 ⟨rfl, hb6⟩; have L6 := Lib.hid (L5.out.later hb6); have N6 := Lib.hid (N5.out.later hb6); have X6 := Lib.hid (X5.out.later hb6); have J6 := Lib.hid (J5.out.later hb6); have K6 := Lib.hid (K5.out.later hb6); have Y6 := Lib.hid (Y5.out.later hb6); clear c0 c1 c2 c3; obtain ⟨c0, c1, c2, c3⟩ := N6.out.box; clear x0 x1 x2 x3; obtain ⟨x0, x1, x2, x3⟩ := X6.out.box; clear g0 g1 g2 g3; obtain ⟨g0, g1, g2, g3⟩ := Y6.out.box; clear hb6)
    | (go_at_call 9; (with_reducible refine (HSM.out q1 _ Y4.out.tree).mono ?_); rintro e w5 ⟨rfl, hb5⟩; have L5 := Lib.hid (L4.out.later hb5); have N5 := Lib.hid (N4.out.later hb5); have X5 := Lib.hid (X4.out.later hb5); have J5 := Lib.hid (J4.out.later hb5); have K5 := Lib.hid (K4.out.later hb5); have Y5 := Lib.hid (Y4.out.later hb5); clear c0 c1 c2 c3; obtain ⟨c0, c1, c2, c3⟩ := N5.out.box; clear x0 x1 x2 x3; obtain ⟨x0, x1, x2, x3⟩ := X5.out.box; clear g0 g1 g2 g3; obtain ⟨g0, g1, g2, g3⟩ := Y5.out.box; clear hb5))
  have L8 := Lib.hid (L7.out.later (box_below w7 (nb x q2)))
  have N8 := Lib.hid (N7.out.later (box_below w7 (nb x q2)))
  have X8 := Lib.hid (X7.out.later (box_below w7 (nb x q2)))
  have J8 := Lib.hid (J7.out.later (box_below w7 (nb x q2)))
  have K8 := Lib.hid (K7.out.later (box_below w7 (nb x q2)))
  have Y8 := Lib.hid (Y7.out.later (box_below w7 (nb x q2)))
  have Z8 := Z7
  clear Z7
  generalize hW8 : w7.alloc (nb x q2) = w8 at *
  clear c0 c1 c2 c3
  obtain ⟨c0, c1, c2, c3⟩ := N8.out.box
  clear x0 x1 x2 x3
  obtain ⟨x0, x1, x2, x3⟩ := X8.out.box
  clear g0 g1 g2 g3
  obtain ⟨g0, g1, g2, g3⟩ := Y8.out.box
  obtain ⟨h0, h1, h2, h3⟩ := Z8.out.box
  go_wp2_with (first
    | (go_at_call 10; refine (HG.out.awake _ L10.out.tabs).mono ?_; rintro e w100 ⟨rfl, hb100⟩; have L100 := Lib.hid (L10.out.later hb100); clear hb100)
    | (go_at_call 26; (with_reducible refine (B1.out _ J9.out K9.out).mono ?_); rintro e w10 ⟨rfl, hb10⟩; have L10 := Lib.hid (L9.out.later hb10); have N10 := Lib.hid (N9.out.later hb10); have X10 := Lib.hid (X9.out.later hb10); have J10 := Lib.hid (J9.out.later hb10); have K10 := Lib.hid (K9.out.later hb10); have Y10 := Lib.hid (Y9.out.later hb10); have Z10 := Lib.hid (Z9.out.later hb10); clear c0 c1 c2 c3; obtain ⟨c0, c1, c2, c3⟩ := N10.out.box; clear x0 x1 x2 x3; obtain ⟨x0, x1, x2, x3⟩ := X10.out.box; clear g0 g1 g2 g3; obtain ⟨g0, g1, g2, g3⟩ := Y10.out.box; clear h0 h1 h2 h3; obtain ⟨h0, h1, h2, h3⟩ := Z10.out.box; clear hb10)
    | (go_at_call 18; (with_reducible refine (Q1.out _ _ _ Z8.out.tree X8.out.tree).mono ?_); rintro e w9 ⟨rfl, hb9⟩; have L9 := Lib.hid (L8.out.later hb9); have N9 := Lib.hid (N8.out.later hb9); have X9 := Lib.hid (X8.out.later hb9); have J9 := Lib.hid (J8.out.later hb9); have K9 := Lib.hid (K8.out.later hb9); have Y9 := Lib.hid (Y8.out.later hb9); have Z9 := Lib.hid (Z8.out.later hb9); clear c0 c1 c2 c3; obtain ⟨c0, c1, c2, c3⟩ := N9.out.box; clear x0 x1 x2 x3; obtain ⟨x0, x1, x2, x3⟩ := X9.out.box; clear g0 g1 g2 g3; obtain ⟨g0, g1, g2, g3⟩ := Y9.out.box; clear h0 h1 h2 h3; obtain ⟨h0, h1, h2, h3⟩ := Z9.out.box; clear hb9))
  go_ret
  exact ⟨rfl, L100.out.low⟩
set_option maxHeartbeats 6400000 in
theorem replaces_false_ft (G : Prog) (t x : Pl.Tr) (r rx : Sl) (p q : List Int) (a b : Option Addr) (c d : Nat) (w : World) (hT : Tabs w) (h : IsT w t r) (hx : IsT w x rx) (hp : IsI w a p) (hq : IsI w b q) (hc : p.length ≤ c) (hd : q.length ≤ d) (hE1 : Pl.replE t p x = 0) (y : Pl.Tr) (hy : y = Pl.putP x p t) (hs : sm y = false) (hn : p ≠ []) (h1 : decide (q <+: p) = false) (h2 : decide (p <+: q) = true) :
    Calls Tryd.prog 5 #[nvx t r, .slice a p.length c, nvx x rx, .slice b q.length d] w fun e w' => e = .returned (.bool true) ∧ Below w.heap.size w w' := by
  have L0 : Hid (Lo w ((w.alloc (nb t r)).alloc (nb x rx))) := Lib.hid ((lo_new hT (nb t r)).later (box_below _ _))
  have N0 : Hid (Bx w.heap.size t r ((w.alloc (nb t r)).alloc (nb x rx))) := Lib.hid ((bx_new h).later (box_below _ _))
  have X0 : Hid (Bx (w.heap.size + 1) x rx ((w.alloc (nb t r)).alloc (nb x rx))) := Lib.hid (by have := bx_new (hx.later (box_below w (nb t r))); rwa [show (w.alloc (nb t r)).heap.size = w.heap.size + 1 by simp] at this)
  have J0 : Hid (IsI ((w.alloc (nb t r)).alloc (nb x rx)) a p) := Lib.hid ((hp.later (box_below _ _)).later (box_below _ _))
  have K0 : Hid (IsI ((w.alloc (nb t r)).alloc (nb x rx)) b q) := Lib.hid ((hq.later (box_below _ _)).later (box_below _ _))
  have HG := Lib.hid G
  obtain ⟨⟨u0, hg⟩, hck⟩ := Pl.repl_parts hE1
  have hget : Pl.getP p y = some x := by rw [hy]; exact Pl.get_put x hg
  have HSZ := Lib.hid (Pl.sz_put x hg)
  rw [← hy] at hck HSZ
  have HSM := Lib.hid (fun r w h => small_ex y r w h false hs)
  have HCk := Lib.hid (fun w r h => rcheck_at y w r h)
  rw [hck] at HCk
  have C1 := Lib.hid (fun V hV hI hX hA hz hz2 => (G.replace t x r rx p a c V hV hI hX hA hc hz hz2).mono fun e w' hr => (by have hr := res_u hr; rw [hE1, if_pos rfl, ← hy] at hr; exact hr : GetU 0 y V e w'))
  have C2 := Lib.hid (fun ry V hV hI hA hz => (G.get y ry p a c V hV hI hA hc hz (Pl.gb_rp hck p)).mono fun e w' hr => get_some_u hget hr)
  have Q1 := Lib.hid (fun V r1 r2 h k => equal_is x x r1 r2 true (eqT_iff.2 rfl) V h k)
  have B1 := Lib.hid (fun V h k => begins_is p q a b c d V h k _ h1)
  have B2 := Lib.hid (fun V h k => begins_is q p b a d c V h k _ h2)
  unfold GetU at C1 C2
  have hm0 : ((p.length : Nat) == 0) = false := by cases p with
    | nil => exact absurd rfl hn
    | cons _ _ => simp
  have hm1 : (((p.length : Nat) : Int) == 0) = false := by cases p with
    | nil => exact absurd rfl hn
    | cons _ _ => simp; omega
  obtain ⟨m, hm⟩ : ∃ m, m = p.length := ⟨_, rfl⟩
  obtain ⟨l, hl⟩ : ∃ l, l = q.length := ⟨_, rfl⟩
  rw [← hm] at C1 C2 B1 B2 hm0 hm1 ⊢
  rw [← hl] at B1 B2 ⊢
  clear hT h hx hp hq hc hd hm hl hE1 hs hck h1 hg hget h2 hn hy
  go_enter Tryd.func5, Tryd.ntmps5
  obtain ⟨c0, c1, c2, c3⟩ := N0.out.box
  obtain ⟨x0, x1, x2, x3⟩ := X0.out.box
  go_upto_region 3 with (first
    | (go_at_call 9; have g9 := HL.out; clear g9; refine (small_is x rx _ X1.out.tree).mono ?_; rintro e w2 ⟨b, hl, rfl, hb2⟩; have L2 := Lib.hid (L1.out.later hb2); have N2 := Lib.hid (N1.out.later hb2); have X2 := Lib.hid (X1.out.later hb2); have J2 := Lib.hid (J1.out.later hb2); have K2 := Lib.hid (K1.out.later hb2); clear c0 c1 c2 c3; obtain ⟨c0, c1, c2, c3⟩ := N2.out.box; clear x0 x1 x2 x3; obtain ⟨x0, x1, x2, x3⟩ := X2.out.box; clear hb2; rcases b with _ | _; (focus (clear hl; go_wp2_with (go_at_call 10; refine (HG.out.awake _ L2.out.tabs).mono ?_; rintro e w92 ⟨rfl, hb92⟩; have L92 := Lib.hid (L2.out.later hb92); clear hb92); go_ret; exact ⟨rfl, L92.out.low⟩)); have HX2 : Hid (Pl.sz x ≤ 300) := Lib.hid (hl rfl); clear hl)
    | (go_at_call 9; refine (small_is t r _ N0.out.tree).mono ?_; rintro e w1 ⟨b, hl, rfl, hb1⟩; have L1 := Lib.hid (L0.out.later hb1); have N1 := Lib.hid (N0.out.later hb1); have X1 := Lib.hid (X0.out.later hb1); have J1 := Lib.hid (J0.out.later hb1); have K1 := Lib.hid (K0.out.later hb1); clear c0 c1 c2 c3; obtain ⟨c0, c1, c2, c3⟩ := N1.out.box; clear x0 x1 x2 x3; obtain ⟨x0, x1, x2, x3⟩ := X1.out.box; clear hb1; rcases b with _ | _; (focus (clear hl; go_wp2_with (go_at_call 10; refine (HG.out.awake _ L1.out.tabs).mono ?_; rintro e w91 ⟨rfl, hb91⟩; have L91 := Lib.hid (L1.out.later hb91); clear hb91); go_ret; exact ⟨rfl, L91.out.low⟩)); have HL : Hid (Pl.sz t ≤ 300) := Lib.hid (hl rfl); clear hl))
  have HL1 : Hid (Pl.sz t ≤ 10000) := Lib.hid (by have := HL.out; omega)
  have HL2 : Hid (Pl.sz x ≤ 10000) := Lib.hid (by have := HX2.out; omega)
  go_upto_region 4 with (go_at_call 19; refine (C1.out _ L2.out.tabs N2.out.tree X2.out.tree J2.out HL1.out HL2.out).mono ?_; rintro e w3 ⟨hb3, q1, ht3, rfl⟩; have L3 := Lib.hid (L2.out.later hb3); have N3 := Lib.hid (N2.out.later hb3); have X3 := Lib.hid (X2.out.later hb3); have J3 := Lib.hid (J2.out.later hb3); have K3 := Lib.hid (K2.out.later hb3); have Y3 := Lib.hid (bx_new ht3.out); clear c0 c1 c2 c3; obtain ⟨c0, c1, c2, c3⟩ := N3.out.box; clear x0 x1 x2 x3; obtain ⟨x0, x1, x2, x3⟩ := X3.out.box; clear hb3)
  have L4 := Lib.hid (L3.out.later (box_below w3 (nb y q1)))
  have N4 := Lib.hid (N3.out.later (box_below w3 (nb y q1)))
  have X4 := Lib.hid (X3.out.later (box_below w3 (nb y q1)))
  have J4 := Lib.hid (J3.out.later (box_below w3 (nb y q1)))
  have K4 := Lib.hid (K3.out.later (box_below w3 (nb y q1)))
  have Y4 := Y3
  clear Y3
  generalize hW4 : w3.alloc (nb y q1) = w4 at *
  clear c0 c1 c2 c3
  obtain ⟨c0, c1, c2, c3⟩ := N4.out.box
  clear x0 x1 x2 x3
  obtain ⟨x0, x1, x2, x3⟩ := X4.out.box
  obtain ⟨g0, g1, g2, g3⟩ := Y4.out.box
  have HY : Hid (Pl.sz y ≤ 10000) := Lib.hid (by have h1 := HL.out; have h2 := HX2.out; have h3 := HSZ.out; omega)
  go_upto_region 9 with (first
    | (go_at_call 15; refine (C2.out q1 _ L6.out.tabs Y6.out.tree J6.out HY.out).mono ?_; rintro e w7 ⟨hb7, q2, ht7, rfl⟩; have L7 := Lib.hid (L6.out.later hb7); have N7 := Lib.hid (N6.out.later hb7); have X7 := Lib.hid (X6.out.later hb7); have J7 := Lib.hid (J6.out.later hb7); have K7 := Lib.hid (K6.out.later hb7); have Y7 := Lib.hid (Y6.out.later hb7); have Z7 := Lib.hid (bx_new ht7.out); clear c0 c1 c2 c3; obtain ⟨c0, c1, c2, c3⟩ := N7.out.box; clear x0 x1 x2 x3; obtain ⟨x0, x1, x2, x3⟩ := X7.out.box; clear g0 g1 g2 g3; obtain ⟨g0, g1, g2, g3⟩ := Y7.out.box; clear hb7)
    | (go_at_call 25; (with_reducible refine (HCk.out _ q1 Y5.out.tree).mono ?_); rintro e w6 ⟨rfl, hb6⟩; have L6 := Lib.hid (L5.out.later hb6); have N6 := Lib.hid (N5.out.later hb6); have X6 := Lib.hid (X5.out.later hb6); have J6 := Lib.hid (J5.out.later hb6); have K6 := Lib.hid (K5.out.later hb6); have Y6 := Lib.hid (Y5.out.later hb6); clear c0 c1 c2 c3; obtain ⟨c0, c1, c2, c3⟩ := N6.out.box; clear x0 x1 x2 x3; obtain ⟨x0, x1, x2, x3⟩ := X6.out.box; clear g0 g1 g2 g3; obtain ⟨g0, g1, g2, g3⟩ := Y6.out.box; clear hb6)
    | (go_at_call 9; (with_reducible refine (HSM.out q1 _ Y4.out.tree).mono ?_); rintro e w5 ⟨rfl, hb5⟩; have L5 := Lib.hid (L4.out.later hb5); have N5 := Lib.hid (N4.out.later hb5); have X5 := Lib.hid (X4.out.later hb5); have J5 := Lib.hid (J4.out.later hb5); have K5 := Lib.hid (K4.out.later hb5); have Y5 := Lib.hid (Y4.out.later hb5); clear c0 c1 c2 c3; obtain ⟨c0, c1, c2, c3⟩ := N5.out.box; clear x0 x1 x2 x3; obtain ⟨x0, x1, x2, x3⟩ := X5.out.box; clear g0 g1 g2 g3; obtain ⟨g0, g1, g2, g3⟩ := Y5.out.box; clear hb5))
  have L8 := Lib.hid (L7.out.later (box_below w7 (nb x q2)))
  have N8 := Lib.hid (N7.out.later (box_below w7 (nb x q2)))
  have X8 := Lib.hid (X7.out.later (box_below w7 (nb x q2)))
  have J8 := Lib.hid (J7.out.later (box_below w7 (nb x q2)))
  have K8 := Lib.hid (K7.out.later (box_below w7 (nb x q2)))
  have Y8 := Lib.hid (Y7.out.later (box_below w7 (nb x q2)))
  have Z8 := Z7
  clear Z7
  generalize hW8 : w7.alloc (nb x q2) = w8 at *
  clear c0 c1 c2 c3
  obtain ⟨c0, c1, c2, c3⟩ := N8.out.box
  clear x0 x1 x2 x3
  obtain ⟨x0, x1, x2, x3⟩ := X8.out.box
  clear g0 g1 g2 g3
  obtain ⟨g0, g1, g2, g3⟩ := Y8.out.box
  obtain ⟨h0, h1, h2, h3⟩ := Z8.out.box
  go_wp2_with (first
    | (go_at_call 10; refine (HG.out.awake _ L11.out.tabs).mono ?_; rintro e w101 ⟨rfl, hb101⟩; have L101 := Lib.hid (L11.out.later hb101); clear hb101)
    | (go_at_call 26; (with_reducible refine (B2.out _ K10.out J10.out).mono ?_); rintro e w11 ⟨rfl, hb11⟩; have L11 := Lib.hid (L10.out.later hb11); have N11 := Lib.hid (N10.out.later hb11); have X11 := Lib.hid (X10.out.later hb11); have J11 := Lib.hid (J10.out.later hb11); have K11 := Lib.hid (K10.out.later hb11); have Y11 := Lib.hid (Y10.out.later hb11); have Z11 := Lib.hid (Z10.out.later hb11); clear c0 c1 c2 c3; obtain ⟨c0, c1, c2, c3⟩ := N11.out.box; clear x0 x1 x2 x3; obtain ⟨x0, x1, x2, x3⟩ := X11.out.box; clear g0 g1 g2 g3; obtain ⟨g0, g1, g2, g3⟩ := Y11.out.box; clear h0 h1 h2 h3; obtain ⟨h0, h1, h2, h3⟩ := Z11.out.box; clear hb11)
    | (go_at_call 26; (with_reducible refine (B1.out _ J9.out K9.out).mono ?_); rintro e w10 ⟨rfl, hb10⟩; have L10 := Lib.hid (L9.out.later hb10); have N10 := Lib.hid (N9.out.later hb10); have X10 := Lib.hid (X9.out.later hb10); have J10 := Lib.hid (J9.out.later hb10); have K10 := Lib.hid (K9.out.later hb10); have Y10 := Lib.hid (Y9.out.later hb10); have Z10 := Lib.hid (Z9.out.later hb10); clear c0 c1 c2 c3; obtain ⟨c0, c1, c2, c3⟩ := N10.out.box; clear x0 x1 x2 x3; obtain ⟨x0, x1, x2, x3⟩ := X10.out.box; clear g0 g1 g2 g3; obtain ⟨g0, g1, g2, g3⟩ := Y10.out.box; clear h0 h1 h2 h3; obtain ⟨h0, h1, h2, h3⟩ := Z10.out.box; clear hb10)
    | (go_at_call 18; (with_reducible refine (Q1.out _ _ _ Z8.out.tree X8.out.tree).mono ?_); rintro e w9 ⟨rfl, hb9⟩; have L9 := Lib.hid (L8.out.later hb9); have N9 := Lib.hid (N8.out.later hb9); have X9 := Lib.hid (X8.out.later hb9); have J9 := Lib.hid (J8.out.later hb9); have K9 := Lib.hid (K8.out.later hb9); have Y9 := Lib.hid (Y8.out.later hb9); have Z9 := Lib.hid (Z8.out.later hb9); clear c0 c1 c2 c3; obtain ⟨c0, c1, c2, c3⟩ := N9.out.box; clear x0 x1 x2 x3; obtain ⟨x0, x1, x2, x3⟩ := X9.out.box; clear g0 g1 g2 g3; obtain ⟨g0, g1, g2, g3⟩ := Y9.out.box; clear h0 h1 h2 h3; obtain ⟨h0, h1, h2, h3⟩ := Z9.out.box; clear hb9))
  go_ret
  exact ⟨rfl, L101.out.low⟩
set_option maxHeartbeats 6400000 in
theorem replaces_false_ff (G : Prog) (t x : Pl.Tr) (r rx : Sl) (p q : List Int) (a b : Option Addr) (c d : Nat) (w : World) (hT : Tabs w) (h : IsT w t r) (hx : IsT w x rx) (hp : IsI w a p) (hq : IsI w b q) (hc : p.length ≤ c) (hd : q.length ≤ d) (hE1 : Pl.replE t p x = 0) (y : Pl.Tr) (hy : y = Pl.putP x p t) (hs : sm y = false) (hn : p ≠ []) (h1 : decide (q <+: p) = false) (h2 : decide (p <+: q) = false) :
    Calls Tryd.prog 5 #[nvx t r, .slice a p.length c, nvx x rx, .slice b q.length d] w fun e w' => e = .returned (.bool true) ∧ Below w.heap.size w w' := by
  have L0 : Hid (Lo w ((w.alloc (nb t r)).alloc (nb x rx))) := Lib.hid ((lo_new hT (nb t r)).later (box_below _ _))
  have N0 : Hid (Bx w.heap.size t r ((w.alloc (nb t r)).alloc (nb x rx))) := Lib.hid ((bx_new h).later (box_below _ _))
  have X0 : Hid (Bx (w.heap.size + 1) x rx ((w.alloc (nb t r)).alloc (nb x rx))) := Lib.hid (by have := bx_new (hx.later (box_below w (nb t r))); rwa [show (w.alloc (nb t r)).heap.size = w.heap.size + 1 by simp] at this)
  have J0 : Hid (IsI ((w.alloc (nb t r)).alloc (nb x rx)) a p) := Lib.hid ((hp.later (box_below _ _)).later (box_below _ _))
  have K0 : Hid (IsI ((w.alloc (nb t r)).alloc (nb x rx)) b q) := Lib.hid ((hq.later (box_below _ _)).later (box_below _ _))
  have HG := Lib.hid G
  obtain ⟨⟨u0, hg⟩, hck⟩ := Pl.repl_parts hE1
  have hget : Pl.getP p y = some x := by rw [hy]; exact Pl.get_put x hg
  have HSZ := Lib.hid (Pl.sz_put x hg)
  rw [← hy] at hck HSZ
  have HSM := Lib.hid (fun r w h => small_ex y r w h false hs)
  have HCk := Lib.hid (fun w r h => rcheck_at y w r h)
  rw [hck] at HCk
  have C1 := Lib.hid (fun V hV hI hX hA hz hz2 => (G.replace t x r rx p a c V hV hI hX hA hc hz hz2).mono fun e w' hr => (by have hr := res_u hr; rw [hE1, if_pos rfl, ← hy] at hr; exact hr : GetU 0 y V e w'))
  have C2 := Lib.hid (fun ry V hV hI hA hz => (G.get y ry p a c V hV hI hA hc hz (Pl.gb_rp hck p)).mono fun e w' hr => get_some_u hget hr)
  have Q1 := Lib.hid (fun V r1 r2 h k => equal_is x x r1 r2 true (eqT_iff.2 rfl) V h k)
  have B1 := Lib.hid (fun V h k => begins_is p q a b c d V h k _ h1)
  have B2 := Lib.hid (fun V h k => begins_is q p b a d c V h k _ h2)
  have hot : Pl.getP q y = Pl.getP q t := by rw [hy]; exact Pl.get_put_other x hg (of_decide_eq_false h2) (of_decide_eq_false h1)
  obtain ⟨E, u, hu⟩ := get_u t q
  have C3 := Lib.hid (fun V hV hI hA hz => (G.get t r q b d V hV hI hA hd hz (by rw [← hot]; exact Pl.gb_rp hck q)).mono fun e w' hr => hu _ _ _ hr)
  have C4 := Lib.hid (fun ry V hV hI hA hz => (G.get y ry q b d V hV hI hA hd hz (Pl.gb_rp hck q)).mono fun e w' hr => hu _ _ _ (by unfold GetR at hr ⊢; rw [hot] at hr; exact hr))
  have Q2 := Lib.hid (fun V r1 r2 h k => equal_is u u r1 r2 true (eqT_iff.2 rfl) V h k)
  have ee : (E == E) = true := by simp
  unfold GetU at C1 C2 C3 C4
  have hm0 : ((p.length : Nat) == 0) = false := by cases p with
    | nil => exact absurd rfl hn
    | cons _ _ => simp
  have hm1 : (((p.length : Nat) : Int) == 0) = false := by cases p with
    | nil => exact absurd rfl hn
    | cons _ _ => simp; omega
  obtain ⟨m, hm⟩ : ∃ m, m = p.length := ⟨_, rfl⟩
  obtain ⟨l, hl⟩ : ∃ l, l = q.length := ⟨_, rfl⟩
  rw [← hm] at C1 C2 B1 B2 hm0 hm1 ⊢
  rw [← hl] at B1 B2 C3 C4 ⊢
  clear hT h hx hp hq hc hd hm hl hE1 hs hck h1 hg hget h2 hot hu hn hy
  go_enter Tryd.func5, Tryd.ntmps5
  obtain ⟨c0, c1, c2, c3⟩ := N0.out.box
  obtain ⟨x0, x1, x2, x3⟩ := X0.out.box
  go_upto_region 3 with (first
    | (go_at_call 9; have g9 := HL.out; clear g9; refine (small_is x rx _ X1.out.tree).mono ?_; rintro e w2 ⟨b, hl, rfl, hb2⟩; have L2 := Lib.hid (L1.out.later hb2); have N2 := Lib.hid (N1.out.later hb2); have X2 := Lib.hid (X1.out.later hb2); have J2 := Lib.hid (J1.out.later hb2); have K2 := Lib.hid (K1.out.later hb2); clear c0 c1 c2 c3; obtain ⟨c0, c1, c2, c3⟩ := N2.out.box; clear x0 x1 x2 x3; obtain ⟨x0, x1, x2, x3⟩ := X2.out.box; clear hb2; rcases b with _ | _; (focus (clear hl; go_wp2_with (go_at_call 10; refine (HG.out.awake _ L2.out.tabs).mono ?_; rintro e w92 ⟨rfl, hb92⟩; have L92 := Lib.hid (L2.out.later hb92); clear hb92); go_ret; exact ⟨rfl, L92.out.low⟩)); have HX2 : Hid (Pl.sz x ≤ 300) := Lib.hid (hl rfl); clear hl)
    | (go_at_call 9; refine (small_is t r _ N0.out.tree).mono ?_; rintro e w1 ⟨b, hl, rfl, hb1⟩; have L1 := Lib.hid (L0.out.later hb1); have N1 := Lib.hid (N0.out.later hb1); have X1 := Lib.hid (X0.out.later hb1); have J1 := Lib.hid (J0.out.later hb1); have K1 := Lib.hid (K0.out.later hb1); clear c0 c1 c2 c3; obtain ⟨c0, c1, c2, c3⟩ := N1.out.box; clear x0 x1 x2 x3; obtain ⟨x0, x1, x2, x3⟩ := X1.out.box; clear hb1; rcases b with _ | _; (focus (clear hl; go_wp2_with (go_at_call 10; refine (HG.out.awake _ L1.out.tabs).mono ?_; rintro e w91 ⟨rfl, hb91⟩; have L91 := Lib.hid (L1.out.later hb91); clear hb91); go_ret; exact ⟨rfl, L91.out.low⟩)); have HL : Hid (Pl.sz t ≤ 300) := Lib.hid (hl rfl); clear hl))
  have HL1 : Hid (Pl.sz t ≤ 10000) := Lib.hid (by have := HL.out; omega)
  have HL2 : Hid (Pl.sz x ≤ 10000) := Lib.hid (by have := HX2.out; omega)
  go_upto_region 4 with (go_at_call 19; refine (C1.out _ L2.out.tabs N2.out.tree X2.out.tree J2.out HL1.out HL2.out).mono ?_; rintro e w3 ⟨hb3, q1, ht3, rfl⟩; have L3 := Lib.hid (L2.out.later hb3); have N3 := Lib.hid (N2.out.later hb3); have X3 := Lib.hid (X2.out.later hb3); have J3 := Lib.hid (J2.out.later hb3); have K3 := Lib.hid (K2.out.later hb3); have Y3 := Lib.hid (bx_new ht3.out); clear c0 c1 c2 c3; obtain ⟨c0, c1, c2, c3⟩ := N3.out.box; clear x0 x1 x2 x3; obtain ⟨x0, x1, x2, x3⟩ := X3.out.box; clear hb3)
  have L4 := Lib.hid (L3.out.later (box_below w3 (nb y q1)))
  have N4 := Lib.hid (N3.out.later (box_below w3 (nb y q1)))
  have X4 := Lib.hid (X3.out.later (box_below w3 (nb y q1)))
  have J4 := Lib.hid (J3.out.later (box_below w3 (nb y q1)))
  have K4 := Lib.hid (K3.out.later (box_below w3 (nb y q1)))
  have Y4 := Y3
  clear Y3
  generalize hW4 : w3.alloc (nb y q1) = w4 at *
  clear c0 c1 c2 c3
  obtain ⟨c0, c1, c2, c3⟩ := N4.out.box
  clear x0 x1 x2 x3
  obtain ⟨x0, x1, x2, x3⟩ := X4.out.box
  obtain ⟨g0, g1, g2, g3⟩ := Y4.out.box
  have HY : Hid (Pl.sz y ≤ 10000) := Lib.hid (by have h1 := HL.out; have h2 := HX2.out; have h3 := HSZ.out; omega)
  go_upto_region 9 with (first
    | (go_at_call 15; refine (C2.out q1 _ L6.out.tabs Y6.out.tree J6.out HY.out).mono ?_; rintro e w7 ⟨hb7, q2, ht7, rfl⟩; have L7 := Lib.hid (L6.out.later hb7); have N7 := Lib.hid (N6.out.later hb7); have X7 := Lib.hid (X6.out.later hb7); have J7 := Lib.hid (J6.out.later hb7); have K7 := Lib.hid (K6.out.later hb7); have Y7 := Lib.hid (Y6.out.later hb7); have Z7 := Lib.hid (bx_new ht7.out); clear c0 c1 c2 c3; obtain ⟨c0, c1, c2, c3⟩ := N7.out.box; clear x0 x1 x2 x3; obtain ⟨x0, x1, x2, x3⟩ := X7.out.box; clear g0 g1 g2 g3; obtain ⟨g0, g1, g2, g3⟩ := Y7.out.box; clear hb7)
    | (go_at_call 25; (with_reducible refine (HCk.out _ q1 Y5.out.tree).mono ?_); rintro e w6 ⟨rfl, hb6⟩; have L6 := Lib.hid (L5.out.later hb6); have N6 := Lib.hid (N5.out.later hb6); have X6 := Lib.hid (X5.out.later hb6); have J6 := Lib.hid (J5.out.later hb6); have K6 := Lib.hid (K5.out.later hb6); have Y6 := Lib.hid (Y5.out.later hb6); clear c0 c1 c2 c3; obtain ⟨c0, c1, c2, c3⟩ := N6.out.box; clear x0 x1 x2 x3; obtain ⟨x0, x1, x2, x3⟩ := X6.out.box; clear g0 g1 g2 g3; obtain ⟨g0, g1, g2, g3⟩ := Y6.out.box; clear hb6)
    | (go_at_call 9; (with_reducible refine (HSM.out q1 _ Y4.out.tree).mono ?_); rintro e w5 ⟨rfl, hb5⟩; have L5 := Lib.hid (L4.out.later hb5); have N5 := Lib.hid (N4.out.later hb5); have X5 := Lib.hid (X4.out.later hb5); have J5 := Lib.hid (J4.out.later hb5); have K5 := Lib.hid (K4.out.later hb5); have Y5 := Lib.hid (Y4.out.later hb5); clear c0 c1 c2 c3; obtain ⟨c0, c1, c2, c3⟩ := N5.out.box; clear x0 x1 x2 x3; obtain ⟨x0, x1, x2, x3⟩ := X5.out.box; clear g0 g1 g2 g3; obtain ⟨g0, g1, g2, g3⟩ := Y5.out.box; clear hb5))
  have L8 := Lib.hid (L7.out.later (box_below w7 (nb x q2)))
  have N8 := Lib.hid (N7.out.later (box_below w7 (nb x q2)))
  have X8 := Lib.hid (X7.out.later (box_below w7 (nb x q2)))
  have J8 := Lib.hid (J7.out.later (box_below w7 (nb x q2)))
  have K8 := Lib.hid (K7.out.later (box_below w7 (nb x q2)))
  have Y8 := Lib.hid (Y7.out.later (box_below w7 (nb x q2)))
  have Z8 := Z7
  clear Z7
  generalize hW8 : w7.alloc (nb x q2) = w8 at *
  clear c0 c1 c2 c3
  obtain ⟨c0, c1, c2, c3⟩ := N8.out.box
  clear x0 x1 x2 x3
  obtain ⟨x0, x1, x2, x3⟩ := X8.out.box
  clear g0 g1 g2 g3
  obtain ⟨g0, g1, g2, g3⟩ := Y8.out.box
  obtain ⟨h0, h1, h2, h3⟩ := Z8.out.box
  go_upto_region 14 with (first
    | (go_at_call 15; refine (C3.out _ L11.out.tabs N11.out.tree K11.out HL1.out).mono ?_; rintro e w12 ⟨hb12, q3, ht12, rfl⟩; have L12 := Lib.hid (L11.out.later hb12); have N12 := Lib.hid (N11.out.later hb12); have X12 := Lib.hid (X11.out.later hb12); have J12 := Lib.hid (J11.out.later hb12); have K12 := Lib.hid (K11.out.later hb12); have Y12 := Lib.hid (Y11.out.later hb12); have Z12 := Lib.hid (Z11.out.later hb12); have S12 := Lib.hid (bx_new ht12.out); clear c0 c1 c2 c3; obtain ⟨c0, c1, c2, c3⟩ := N12.out.box; clear x0 x1 x2 x3; obtain ⟨x0, x1, x2, x3⟩ := X12.out.box; clear g0 g1 g2 g3; obtain ⟨g0, g1, g2, g3⟩ := Y12.out.box; clear h0 h1 h2 h3; obtain ⟨h0, h1, h2, h3⟩ := Z12.out.box; clear hb12)
    | (go_at_call 26; (with_reducible refine (B2.out _ K10.out J10.out).mono ?_); rintro e w11 ⟨rfl, hb11⟩; have L11 := Lib.hid (L10.out.later hb11); have N11 := Lib.hid (N10.out.later hb11); have X11 := Lib.hid (X10.out.later hb11); have J11 := Lib.hid (J10.out.later hb11); have K11 := Lib.hid (K10.out.later hb11); have Y11 := Lib.hid (Y10.out.later hb11); have Z11 := Lib.hid (Z10.out.later hb11); clear c0 c1 c2 c3; obtain ⟨c0, c1, c2, c3⟩ := N11.out.box; clear x0 x1 x2 x3; obtain ⟨x0, x1, x2, x3⟩ := X11.out.box; clear g0 g1 g2 g3; obtain ⟨g0, g1, g2, g3⟩ := Y11.out.box; clear h0 h1 h2 h3; obtain ⟨h0, h1, h2, h3⟩ := Z11.out.box; clear hb11)
    | (go_at_call 26; (with_reducible refine (B1.out _ J9.out K9.out).mono ?_); rintro e w10 ⟨rfl, hb10⟩; have L10 := Lib.hid (L9.out.later hb10); have N10 := Lib.hid (N9.out.later hb10); have X10 := Lib.hid (X9.out.later hb10); have J10 := Lib.hid (J9.out.later hb10); have K10 := Lib.hid (K9.out.later hb10); have Y10 := Lib.hid (Y9.out.later hb10); have Z10 := Lib.hid (Z9.out.later hb10); clear c0 c1 c2 c3; obtain ⟨c0, c1, c2, c3⟩ := N10.out.box; clear x0 x1 x2 x3; obtain ⟨x0, x1, x2, x3⟩ := X10.out.box; clear g0 g1 g2 g3; obtain ⟨g0, g1, g2, g3⟩ := Y10.out.box; clear h0 h1 h2 h3; obtain ⟨h0, h1, h2, h3⟩ := Z10.out.box; clear hb10)
    | (go_at_call 18; (with_reducible refine (Q1.out _ _ _ Z8.out.tree X8.out.tree).mono ?_); rintro e w9 ⟨rfl, hb9⟩; have L9 := Lib.hid (L8.out.later hb9); have N9 := Lib.hid (N8.out.later hb9); have X9 := Lib.hid (X8.out.later hb9); have J9 := Lib.hid (J8.out.later hb9); have K9 := Lib.hid (K8.out.later hb9); have Y9 := Lib.hid (Y8.out.later hb9); have Z9 := Lib.hid (Z8.out.later hb9); clear c0 c1 c2 c3; obtain ⟨c0, c1, c2, c3⟩ := N9.out.box; clear x0 x1 x2 x3; obtain ⟨x0, x1, x2, x3⟩ := X9.out.box; clear g0 g1 g2 g3; obtain ⟨g0, g1, g2, g3⟩ := Y9.out.box; clear h0 h1 h2 h3; obtain ⟨h0, h1, h2, h3⟩ := Z9.out.box; clear hb9))
  have L13 := Lib.hid (L12.out.later (box_below w12 (nb u q3)))
  have N13 := Lib.hid (N12.out.later (box_below w12 (nb u q3)))
  have X13 := Lib.hid (X12.out.later (box_below w12 (nb u q3)))
  have J13 := Lib.hid (J12.out.later (box_below w12 (nb u q3)))
  have K13 := Lib.hid (K12.out.later (box_below w12 (nb u q3)))
  have Y13 := Lib.hid (Y12.out.later (box_below w12 (nb u q3)))
  have Z13 := Lib.hid (Z12.out.later (box_below w12 (nb u q3)))
  have S13 := S12
  clear S12
  generalize hW13 : w12.alloc (nb u q3) = w13 at *
  clear c0 c1 c2 c3
  obtain ⟨c0, c1, c2, c3⟩ := N13.out.box
  clear x0 x1 x2 x3
  obtain ⟨x0, x1, x2, x3⟩ := X13.out.box
  clear g0 g1 g2 g3
  obtain ⟨g0, g1, g2, g3⟩ := Y13.out.box
  clear h0 h1 h2 h3
  obtain ⟨h0, h1, h2, h3⟩ := Z13.out.box
  obtain ⟨i0, i1, i2, i3⟩ := S13.out.box
  go_upto_region 15 with (first
    | (go_at_call 15; refine (C4.out q1 _ L13.out.tabs Y13.out.tree K13.out HY.out).mono ?_; rintro e w14 ⟨hb14, q4, ht14, rfl⟩; have L14 := Lib.hid (L13.out.later hb14); have N14 := Lib.hid (N13.out.later hb14); have X14 := Lib.hid (X13.out.later hb14); have J14 := Lib.hid (J13.out.later hb14); have K14 := Lib.hid (K13.out.later hb14); have Y14 := Lib.hid (Y13.out.later hb14); have Z14 := Lib.hid (Z13.out.later hb14); have S14 := Lib.hid (S13.out.later hb14); have T14 := Lib.hid (bx_new ht14.out); clear c0 c1 c2 c3; obtain ⟨c0, c1, c2, c3⟩ := N14.out.box; clear x0 x1 x2 x3; obtain ⟨x0, x1, x2, x3⟩ := X14.out.box; clear g0 g1 g2 g3; obtain ⟨g0, g1, g2, g3⟩ := Y14.out.box; clear h0 h1 h2 h3; obtain ⟨h0, h1, h2, h3⟩ := Z14.out.box; clear i0 i1 i2 i3; obtain ⟨i0, i1, i2, i3⟩ := S14.out.box; clear hb14))
  have L15 := Lib.hid (L14.out.later (box_below w14 (nb u q4)))
  have N15 := Lib.hid (N14.out.later (box_below w14 (nb u q4)))
  have X15 := Lib.hid (X14.out.later (box_below w14 (nb u q4)))
  have J15 := Lib.hid (J14.out.later (box_below w14 (nb u q4)))
  have K15 := Lib.hid (K14.out.later (box_below w14 (nb u q4)))
  have Y15 := Lib.hid (Y14.out.later (box_below w14 (nb u q4)))
  have Z15 := Lib.hid (Z14.out.later (box_below w14 (nb u q4)))
  have S15 := Lib.hid (S14.out.later (box_below w14 (nb u q4)))
  have T15 := T14
  clear T14
  generalize hW15 : w14.alloc (nb u q4) = w15 at *
  clear c0 c1 c2 c3
  obtain ⟨c0, c1, c2, c3⟩ := N15.out.box
  clear x0 x1 x2 x3
  obtain ⟨x0, x1, x2, x3⟩ := X15.out.box
  clear g0 g1 g2 g3
  obtain ⟨g0, g1, g2, g3⟩ := Y15.out.box
  clear h0 h1 h2 h3
  obtain ⟨h0, h1, h2, h3⟩ := Z15.out.box
  clear i0 i1 i2 i3
  obtain ⟨i0, i1, i2, i3⟩ := S15.out.box
  obtain ⟨j0, j1, j2, j3⟩ := T15.out.box
  go_wp2_with (first
    | (go_at_call 10; refine (HG.out.awake _ L16.out.tabs).mono ?_; rintro e w106 ⟨rfl, hb106⟩; have L106 := Lib.hid (L16.out.later hb106); clear hb106)
    | (go_at_call 18; (with_reducible refine (Q2.out _ _ _ S15.out.tree T15.out.tree).mono ?_); rintro e w16 ⟨rfl, hb16⟩; have L16 := Lib.hid (L15.out.later hb16); have N16 := Lib.hid (N15.out.later hb16); have X16 := Lib.hid (X15.out.later hb16); have J16 := Lib.hid (J15.out.later hb16); have K16 := Lib.hid (K15.out.later hb16); have Y16 := Lib.hid (Y15.out.later hb16); have Z16 := Lib.hid (Z15.out.later hb16); have S16 := Lib.hid (S15.out.later hb16); have T16 := Lib.hid (T15.out.later hb16); clear c0 c1 c2 c3; obtain ⟨c0, c1, c2, c3⟩ := N16.out.box; clear x0 x1 x2 x3; obtain ⟨x0, x1, x2, x3⟩ := X16.out.box; clear g0 g1 g2 g3; obtain ⟨g0, g1, g2, g3⟩ := Y16.out.box; clear h0 h1 h2 h3; obtain ⟨h0, h1, h2, h3⟩ := Z16.out.box; clear i0 i1 i2 i3; obtain ⟨i0, i1, i2, i3⟩ := S16.out.box; clear j0 j1 j2 j3; obtain ⟨j0, j1, j2, j3⟩ := T16.out.box; clear hb16))
  go_ret
  exact ⟨rfl, L106.out.low⟩
theorem lawReplaces (G : Prog) (t x : Pl.Tr) (r rx : Sl) (p q : List Int) (a b : Option Addr) (c d : Nat) (w : World) (hT : Tabs w) (h : IsT w t r) (hx : IsT w x rx) (hp : IsI w a p) (hq : IsI w b q) (hc : p.length ≤ c) (hd : q.length ≤ d) :
    Calls Tryd.prog 5 #[nvx t r, .slice a p.length c, nvx x rx, .slice b q.length d] w fun e w' => e = .returned (.bool true) ∧ Below w.heap.size w w' := by
  cases hsx : sm x with
  | false => exact replaces_x G t x r rx p q a b c d w hT h hx hp hq hc hd hsx
  | true =>
    by_cases hE : Pl.replE t p x = 0
    · cases hs : sm (Pl.putP x p t) with
      | true =>
        cases h1 : decide (q <+: p) with
        | true => exact replaces_true_t G t x r rx p q a b c d w hT h hx hp hq hc hd hE _ rfl hs h1
        | false =>
          cases h2 : decide (p <+: q) with
          | true => exact replaces_true_ft G t x r rx p q a b c d w hT h hx hp hq hc hd hE _ rfl hs h1 h2
          | false => exact replaces_true_ff G t x r rx p q a b c d w hT h hx hp hq hc hd hE _ rfl hs h1 h2
      | false =>
        have hn : p ≠ [] := fun hp => by
          rw [hp, Pl.putP, hsx] at hs; cases hs
        cases h1 : decide (q <+: p) with
        | true => exact replaces_false_t G t x r rx p q a b c d w hT h hx hp hq hc hd hE _ rfl hs hn h1
        | false =>
          cases h2 : decide (p <+: q) with
          | true => exact replaces_false_ft G t x r rx p q a b c d w hT h hx hp hq hc hd hE _ rfl hs hn h1 h2
          | false => exact replaces_false_ff G t x r rx p q a b c d w hT h hx hp hq hc hd hE _ rfl hs hn h1 h2
    · rcases Pl.replE_or hE with hE | hE
      · exact replaces_5 G t x r rx p q a b c d w hT h hx hp hq hc hd hE
      · exact replaces_7 G t x r rx p q a b c d w hT h hx hp hq hc hd hE
end Go.Proofs.YtpaleolcfhnenaaDoor.Rt
