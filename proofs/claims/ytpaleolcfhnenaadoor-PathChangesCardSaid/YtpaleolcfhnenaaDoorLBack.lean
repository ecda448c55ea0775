/- The walk of the law PathBack. -/
import Derived.Test.YtpaleolcfhnenaaDoorLaw
import Derived.Test.YtpaleolcfhnenaaDoorUndo
namespace Go.Proofs.YtpaleolcfhnenaaDoor.Rt
open Go.RowKit
set_option linter.unusedVariables false
set_option linter.unusedSimpArgs false
set_option maxRecDepth 100000

theorem of_case (t : Pl.Tr) (i : Int) : (∃ (p : List Int) (old : Pl.Tr), Pl.getP p t = some old ∧ ∀ w1 e w', OfP t i w1 e w' → OfU p true w1 e w') ∨ (∀ w1 e w', OfP t i w1 e w' → OfU [] false w1 e w') := by
  by_cases hn : i < 0 ∨ (Pl.sz t : Int) ≤ i
  · refine .inr fun w1 e w' h => ⟨h.1, ?_⟩
    rcases h.2 with ⟨n, p, a, c, hin, _, hp, _⟩ | ⟨_, he⟩
    · exfalso; have := Pl.idx_lt hp; omega
    · exact ⟨none, 0, Lib.hid ⟨ints_nil _ _ _, Nat.zero_le _⟩, he⟩
  · obtain ⟨n, rfl⟩ : ∃ n : Nat, i = n := ⟨i.toNat, by omega⟩
    obtain ⟨p, hp⟩ := Pl.has_path t n (by omega)
    obtain ⟨old, ho⟩ := Pl.get_of_idx hp
    refine .inl ⟨p, old, ho, fun w1 e w' h => ⟨h.1, ?_⟩⟩
    rcases h.2 with ⟨m, q, a, c, hin, hc, hq, hI, he⟩ | ⟨h1, _⟩
    · obtain rfl : m = n := by omega
      obtain rfl := Pl.idx_inj hq hp
      exact ⟨a, c, Lib.hid ⟨hI.keep (Same.refl _ _) (fun b hb => hb.2), hc⟩, he⟩
    · exact absurd h1 hn
set_option maxHeartbeats 6400000 in
theorem back_chk (G : Prog) (t x : Pl.Tr) (r rx : Sl) (i : Int) (w : World) (hT : Tabs w) (h : IsT w t r) (hx : IsT w x rx) (hi1 : i ≤ 9223372036854775807) (hi2 : -9223372036854775808 ≤ i) (cv : Int) (hcv : (cv == 0) = false) (hck : Pl.rchk t = cv) :
    Calls Tryd.prog 8 #[nvx t r, .int .i64 i, nvx x rx] w fun e w' => e = .returned (.bool true) ∧ Below w.heap.size w w' := by
  have L0 : Hid (Lo w ((w.alloc (nb t r)).alloc (nb x rx))) := Lib.hid ((lo_new hT (nb t r)).later (box_below _ _))
  have N0 : Hid (Bx w.heap.size t r ((w.alloc (nb t r)).alloc (nb x rx))) := Lib.hid ((bx_new h).later (box_below _ _))
  have X0 : Hid (Bx (w.heap.size + 1) x rx ((w.alloc (nb t r)).alloc (nb x rx))) := Lib.hid (by have := bx_new (hx.later (box_below w (nb t r))); rwa [show (w.alloc (nb t r)).heap.size = w.heap.size + 1 by simp] at this)
  have HG := Lib.hid G
  have HCk := Lib.hid hck
  clear hT h hx hck
  go_enter Tryd.func8, Tryd.ntmps8
  obtain ⟨c0, c1, c2, c3⟩ := N0.out.box
  obtain ⟨x0, x1, x2, x3⟩ := X0.out.box
  go_wp2_with (first
    | (go_at_call 10; refine (HG.out.awake _ L3.out.tabs).mono ?_; rintro e w93 ⟨rfl, hb93⟩; have L93 := Lib.hid (L3.out.later hb93); clear hb93)
    | (go_at_call 25; refine (rcheck_at t _ r N2.out.tree).mono ?_; rw [HCk.out]; rintro e w3 ⟨rfl, hb3⟩; have L3 := Lib.hid (L2.out.later hb3); have N3 := Lib.hid (N2.out.later hb3); have X3 := Lib.hid (X2.out.later hb3); clear c0 c1 c2 c3; obtain ⟨c0, c1, c2, c3⟩ := N3.out.box; clear x0 x1 x2 x3; obtain ⟨x0, x1, x2, x3⟩ := X3.out.box; clear hb3)
    | (go_at_call 9; have g9 := HL.out; clear g9; refine (small_is x rx _ X1.out.tree).mono ?_; rintro e w2 ⟨b, hl, rfl, hb2⟩; have L2 := Lib.hid (L1.out.later hb2); have N2 := Lib.hid (N1.out.later hb2); have X2 := Lib.hid (X1.out.later hb2); clear c0 c1 c2 c3; obtain ⟨c0, c1, c2, c3⟩ := N2.out.box; clear x0 x1 x2 x3; obtain ⟨x0, x1, x2, x3⟩ := X2.out.box; clear hb2; rcases b with _ | _; (focus (clear hl; go_wp2_with (go_at_call 10; refine (HG.out.awake _ L2.out.tabs).mono ?_; rintro e w92 ⟨rfl, hb92⟩; have L92 := Lib.hid (L2.out.later hb92); clear hb92); go_ret; exact ⟨rfl, L92.out.low⟩)); have HX2 : Hid (Pl.sz x ≤ 300) := Lib.hid (hl rfl); clear hl)
    | (go_at_call 9; refine (small_is t r _ N0.out.tree).mono ?_; rintro e w1 ⟨b, hl, rfl, hb1⟩; have L1 := Lib.hid (L0.out.later hb1); have N1 := Lib.hid (N0.out.later hb1); have X1 := Lib.hid (X0.out.later hb1); clear c0 c1 c2 c3; obtain ⟨c0, c1, c2, c3⟩ := N1.out.box; clear x0 x1 x2 x3; obtain ⟨x0, x1, x2, x3⟩ := X1.out.box; clear hb1; rcases b with _ | _; (focus (clear hl; go_wp2_with (go_at_call 10; refine (HG.out.awake _ L1.out.tabs).mono ?_; rintro e w91 ⟨rfl, hb91⟩; have L91 := Lib.hid (L1.out.later hb91); clear hb91); go_ret; exact ⟨rfl, L91.out.low⟩)); have HL : Hid (Pl.sz t ≤ 300) := Lib.hid (hl rfl); clear hl))
  go_ret
  exact ⟨rfl, L93.out.low⟩
set_option maxHeartbeats 6400000 in
theorem back_no (G : Prog) (t x : Pl.Tr) (r rx : Sl) (i : Int) (w : World) (hT : Tabs w) (h : IsT w t r) (hx : IsT w x rx) (hi1 : i ≤ 9223372036854775807) (hi2 : -9223372036854775808 ≤ i) (hck : Pl.rchk t = 0) (hof : ∀ w1 e w', OfP t i w1 e w' → OfU [] false w1 e w') :
    Calls Tryd.prog 8 #[nvx t r, .int .i64 i, nvx x rx] w fun e w' => e = .returned (.bool true) ∧ Below w.heap.size w w' := by
  have L0 : Hid (Lo w ((w.alloc (nb t r)).alloc (nb x rx))) := Lib.hid ((lo_new hT (nb t r)).later (box_below _ _))
  have N0 : Hid (Bx w.heap.size t r ((w.alloc (nb t r)).alloc (nb x rx))) := Lib.hid ((bx_new h).later (box_below _ _))
  have X0 : Hid (Bx (w.heap.size + 1) x rx ((w.alloc (nb t r)).alloc (nb x rx))) := Lib.hid (by have := bx_new (hx.later (box_below w (nb t r))); rwa [show (w.alloc (nb t r)).heap.size = w.heap.size + 1 by simp] at this)
  have HG := Lib.hid G
  have HCk := Lib.hid hck
  have C0 := Lib.hid (fun V hV hI hz => (G.of t r i V hV hI hz hi1 hi2).mono fun e w' hr => hof _ _ _ hr)
  unfold OfU at C0
  clear hT h hx hck hof
  go_enter Tryd.func8, Tryd.ntmps8
  obtain ⟨c0, c1, c2, c3⟩ := N0.out.box
  obtain ⟨x0, x1, x2, x3⟩ := X0.out.box
  go_upto_region 3 with (first
    | (go_at_call 25; refine (rcheck_at t _ r N2.out.tree).mono ?_; rw [HCk.out]; rintro e w3 ⟨rfl, hb3⟩; have L3 := Lib.hid (L2.out.later hb3); have N3 := Lib.hid (N2.out.later hb3); have X3 := Lib.hid (X2.out.later hb3); clear c0 c1 c2 c3; obtain ⟨c0, c1, c2, c3⟩ := N3.out.box; clear x0 x1 x2 x3; obtain ⟨x0, x1, x2, x3⟩ := X3.out.box; clear hb3)
    | (go_at_call 9; have g9 := HL.out; clear g9; refine (small_is x rx _ X1.out.tree).mono ?_; rintro e w2 ⟨b, hl, rfl, hb2⟩; have L2 := Lib.hid (L1.out.later hb2); have N2 := Lib.hid (N1.out.later hb2); have X2 := Lib.hid (X1.out.later hb2); clear c0 c1 c2 c3; obtain ⟨c0, c1, c2, c3⟩ := N2.out.box; clear x0 x1 x2 x3; obtain ⟨x0, x1, x2, x3⟩ := X2.out.box; clear hb2; rcases b with _ | _; (focus (clear hl; go_wp2_with (go_at_call 10; refine (HG.out.awake _ L2.out.tabs).mono ?_; rintro e w92 ⟨rfl, hb92⟩; have L92 := Lib.hid (L2.out.later hb92); clear hb92); go_ret; exact ⟨rfl, L92.out.low⟩)); have HX2 : Hid (Pl.sz x ≤ 300) := Lib.hid (hl rfl); clear hl)
    | (go_at_call 9; refine (small_is t r _ N0.out.tree).mono ?_; rintro e w1 ⟨b, hl, rfl, hb1⟩; have L1 := Lib.hid (L0.out.later hb1); have N1 := Lib.hid (N0.out.later hb1); have X1 := Lib.hid (X0.out.later hb1); clear c0 c1 c2 c3; obtain ⟨c0, c1, c2, c3⟩ := N1.out.box; clear x0 x1 x2 x3; obtain ⟨x0, x1, x2, x3⟩ := X1.out.box; clear hb1; rcases b with _ | _; (focus (clear hl; go_wp2_with (go_at_call 10; refine (HG.out.awake _ L1.out.tabs).mono ?_; rintro e w91 ⟨rfl, hb91⟩; have L91 := Lib.hid (L1.out.later hb91); clear hb91); go_ret; exact ⟨rfl, L91.out.low⟩)); have HL : Hid (Pl.sz t ≤ 300) := Lib.hid (hl rfl); clear hl))
  have HL1 : Hid (Pl.sz t ≤ 10000) := Lib.hid (by have := HL.out; omega)
  have HL2 : Hid (Pl.sz x ≤ 10000) := Lib.hid (by have := HX2.out; omega)
  go_upto_region 4 with (go_at_call 11; refine (C0.out _ L3.out.tabs N3.out.tree HL1.out).mono ?_; rintro e w4 ⟨hb4, pa, pc, hpi, rfl⟩; have L4 := Lib.hid (L3.out.later hb4); have N4 := Lib.hid (N3.out.later hb4); have X4 := Lib.hid (X3.out.later hb4); have J4 := Lib.hid hpi.out.1; clear c0 c1 c2 c3; obtain ⟨c0, c1, c2, c3⟩ := N4.out.box; clear x0 x1 x2 x3; obtain ⟨x0, x1, x2, x3⟩ := X4.out.box; clear hb4)
  go_wp2_with (go_at_call 10; refine (HG.out.awake _ L4.out.tabs).mono ?_; rintro e w94 ⟨rfl, hb94⟩; have L94 := Lib.hid (L4.out.later hb94); clear hb94)
  go_ret
  exact ⟨rfl, L94.out.low⟩
set_option maxHeartbeats 6400000 in
theorem back_err (G : Prog) (t x : Pl.Tr) (r rx : Sl) (i : Int) (w : World) (hT : Tabs w) (h : IsT w t r) (hx : IsT w x rx) (hi1 : i ≤ 9223372036854775807) (hi2 : -9223372036854775808 ≤ i) (hck : Pl.rchk t = 0) (p : List Int) (old : Pl.Tr) (hg : Pl.getP p t = some old) (hof : ∀ w1 e w', OfP t i w1 e w' → OfU p true w1 e w') (E : Int) (hE : (E == 0) = false) (hE1 : E = Pl.replE t p x) :
    Calls Tryd.prog 8 #[nvx t r, .int .i64 i, nvx x rx] w fun e w' => e = .returned (.bool true) ∧ Below w.heap.size w w' := by
  have L0 : Hid (Lo w ((w.alloc (nb t r)).alloc (nb x rx))) := Lib.hid ((lo_new hT (nb t r)).later (box_below _ _))
  have N0 : Hid (Bx w.heap.size t r ((w.alloc (nb t r)).alloc (nb x rx))) := Lib.hid ((bx_new h).later (box_below _ _))
  have X0 : Hid (Bx (w.heap.size + 1) x rx ((w.alloc (nb t r)).alloc (nb x rx))) := Lib.hid (by have := bx_new (hx.later (box_below w (nb t r))); rwa [show (w.alloc (nb t r)).heap.size = w.heap.size + 1 by simp] at this)
  have HG := Lib.hid G
  have HCk := Lib.hid hck
  have C0 := Lib.hid (fun V hV hI hz => (G.of t r i V hV hI hz hi1 hi2).mono fun e w' hr => hof _ _ _ hr)
  unfold OfU at C0
  have C1 := Lib.hid (fun a c V hV hI hA hz (hc : p.length ≤ c) => (G.get t r p a c V hV hI hA hc hz (Pl.gb_rp hck p)).mono fun e w' hr => get_some_u hg hr)
  obtain ⟨y, hy⟩ : ∃ u, u = if E = 0 then Pl.putP x p t else zeroT := ⟨_, rfl⟩
  have C2 := Lib.hid (fun a c V hV hI hX hA hz hz2 (hc : p.length ≤ c) => (G.replace t x r rx p a c V hV hI hX hA hc hz hz2).mono fun e w' hr => (by have hr := res_u hr; rw [← hE1, ← hy] at hr; exact hr : GetU E y V e w'))
  unfold GetU at C1 C2
  obtain ⟨m, hm⟩ : ∃ m, m = p.length := ⟨_, rfl⟩
  rw [← hm] at C0 C1 C2
  clear hT h hx hck hof hg hm hE1 hy
  go_enter Tryd.func8, Tryd.ntmps8
  obtain ⟨c0, c1, c2, c3⟩ := N0.out.box
  obtain ⟨x0, x1, x2, x3⟩ := X0.out.box
  go_upto_region 3 with (first
    | (go_at_call 25; refine (rcheck_at t _ r N2.out.tree).mono ?_; rw [HCk.out]; rintro e w3 ⟨rfl, hb3⟩; have L3 := Lib.hid (L2.out.later hb3); have N3 := Lib.hid (N2.out.later hb3); have X3 := Lib.hid (X2.out.later hb3); clear c0 c1 c2 c3; obtain ⟨c0, c1, c2, c3⟩ := N3.out.box; clear x0 x1 x2 x3; obtain ⟨x0, x1, x2, x3⟩ := X3.out.box; clear hb3)
    | (go_at_call 9; have g9 := HL.out; clear g9; refine (small_is x rx _ X1.out.tree).mono ?_; rintro e w2 ⟨b, hl, rfl, hb2⟩; have L2 := Lib.hid (L1.out.later hb2); have N2 := Lib.hid (N1.out.later hb2); have X2 := Lib.hid (X1.out.later hb2); clear c0 c1 c2 c3; obtain ⟨c0, c1, c2, c3⟩ := N2.out.box; clear x0 x1 x2 x3; obtain ⟨x0, x1, x2, x3⟩ := X2.out.box; clear hb2; rcases b with _ | _; (focus (clear hl; go_wp2_with (go_at_call 10; refine (HG.out.awake _ L2.out.tabs).mono ?_; rintro e w92 ⟨rfl, hb92⟩; have L92 := Lib.hid (L2.out.later hb92); clear hb92); go_ret; exact ⟨rfl, L92.out.low⟩)); have HX2 : Hid (Pl.sz x ≤ 300) := Lib.hid (hl rfl); clear hl)
    | (go_at_call 9; refine (small_is t r _ N0.out.tree).mono ?_; rintro e w1 ⟨b, hl, rfl, hb1⟩; have L1 := Lib.hid (L0.out.later hb1); have N1 := Lib.hid (N0.out.later hb1); have X1 := Lib.hid (X0.out.later hb1); clear c0 c1 c2 c3; obtain ⟨c0, c1, c2, c3⟩ := N1.out.box; clear x0 x1 x2 x3; obtain ⟨x0, x1, x2, x3⟩ := X1.out.box; clear hb1; rcases b with _ | _; (focus (clear hl; go_wp2_with (go_at_call 10; refine (HG.out.awake _ L1.out.tabs).mono ?_; rintro e w91 ⟨rfl, hb91⟩; have L91 := Lib.hid (L1.out.later hb91); clear hb91); go_ret; exact ⟨rfl, L91.out.low⟩)); have HL : Hid (Pl.sz t ≤ 300) := Lib.hid (hl rfl); clear hl))
  have HL1 : Hid (Pl.sz t ≤ 10000) := Lib.hid (by have := HL.out; omega)
  have HL2 : Hid (Pl.sz x ≤ 10000) := Lib.hid (by have := HX2.out; omega)
  go_upto_region 4 with (go_at_call 11; refine (C0.out _ L3.out.tabs N3.out.tree HL1.out).mono ?_; rintro e w4 ⟨hb4, pa, pc, hpi, rfl⟩; have L4 := Lib.hid (L3.out.later hb4); have N4 := Lib.hid (N3.out.later hb4); have X4 := Lib.hid (X3.out.later hb4); have J4 := Lib.hid hpi.out.1; clear c0 c1 c2 c3; obtain ⟨c0, c1, c2, c3⟩ := N4.out.box; clear x0 x1 x2 x3; obtain ⟨x0, x1, x2, x3⟩ := X4.out.box; clear hb4)
  go_upto_region 7 with (go_at_call 15; refine (C1.out pa pc _ L4.out.tabs N4.out.tree J4.out HL1.out hpi.out.2).mono ?_; rintro e w5 ⟨hb5, q1, ht5, rfl⟩; have L5 := Lib.hid (L4.out.later hb5); have N5 := Lib.hid (N4.out.later hb5); have X5 := Lib.hid (X4.out.later hb5); have J5 := Lib.hid (J4.out.later hb5); have Z5 := Lib.hid (bx_new ht5.out); clear c0 c1 c2 c3; obtain ⟨c0, c1, c2, c3⟩ := N5.out.box; clear x0 x1 x2 x3; obtain ⟨x0, x1, x2, x3⟩ := X5.out.box; clear hb5)
  have L6 := Lib.hid (L5.out.later (box_below w5 (nb old q1)))
  have N6 := Lib.hid (N5.out.later (box_below w5 (nb old q1)))
  have X6 := Lib.hid (X5.out.later (box_below w5 (nb old q1)))
  have J6 := Lib.hid (J5.out.later (box_below w5 (nb old q1)))
  have Z6 := Z5
  clear Z5
  generalize hW6 : w5.alloc (nb old q1) = w6 at *
  clear c0 c1 c2 c3
  obtain ⟨c0, c1, c2, c3⟩ := N6.out.box
  clear x0 x1 x2 x3
  obtain ⟨x0, x1, x2, x3⟩ := X6.out.box
  obtain ⟨h0, h1, h2, h3⟩ := Z6.out.box
  go_upto_region 8 with (go_at_call 19; refine (C2.out pa pc _ L6.out.tabs N6.out.tree X6.out.tree J6.out HL1.out HL2.out hpi.out.2).mono ?_; rintro e w7 ⟨hb7, q2, ht7, rfl⟩; have L7 := Lib.hid (L6.out.later hb7); have N7 := Lib.hid (N6.out.later hb7); have X7 := Lib.hid (X6.out.later hb7); have J7 := Lib.hid (J6.out.later hb7); have Z7 := Lib.hid (Z6.out.later hb7); have Y7 := Lib.hid (bx_new ht7.out); clear c0 c1 c2 c3; obtain ⟨c0, c1, c2, c3⟩ := N7.out.box; clear x0 x1 x2 x3; obtain ⟨x0, x1, x2, x3⟩ := X7.out.box; clear h0 h1 h2 h3; obtain ⟨h0, h1, h2, h3⟩ := Z7.out.box; clear hb7)
  have L8 := Lib.hid (L7.out.later (box_below w7 (nb y q2)))
  have N8 := Lib.hid (N7.out.later (box_below w7 (nb y q2)))
  have X8 := Lib.hid (X7.out.later (box_below w7 (nb y q2)))
  have J8 := Lib.hid (J7.out.later (box_below w7 (nb y q2)))
  have Z8 := Lib.hid (Z7.out.later (box_below w7 (nb y q2)))
  have Y8 := Y7
  clear Y7
  generalize hW8 : w7.alloc (nb y q2) = w8 at *
  clear c0 c1 c2 c3
  obtain ⟨c0, c1, c2, c3⟩ := N8.out.box
  clear x0 x1 x2 x3
  obtain ⟨x0, x1, x2, x3⟩ := X8.out.box
  clear h0 h1 h2 h3
  obtain ⟨h0, h1, h2, h3⟩ := Z8.out.box
  obtain ⟨g0, g1, g2, g3⟩ := Y8.out.box
  go_wp2_with (go_at_call 10; refine (HG.out.awake _ L8.out.tabs).mono ?_; rintro e w98 ⟨rfl, hb98⟩; have L98 := Lib.hid (L8.out.later hb98); clear hb98)
  go_ret
  exact ⟨rfl, L98.out.low⟩
set_option maxHeartbeats 6400000 in
theorem back_ok (G : Prog) (t x : Pl.Tr) (r rx : Sl) (i : Int) (w : World) (hT : Tabs w) (h : IsT w t r) (hx : IsT w x rx) (hi1 : i ≤ 9223372036854775807) (hi2 : -9223372036854775808 ≤ i) (hck : Pl.rchk t = 0) (p : List Int) (old : Pl.Tr) (hg : Pl.getP p t = some old) (hof : ∀ w1 e w', OfP t i w1 e w' → OfU p true w1 e w') (hE1 : Pl.replE t p x = 0) :
    Calls Tryd.prog 8 #[nvx t r, .int .i64 i, nvx x rx] w fun e w' => e = .returned (.bool true) ∧ Below w.heap.size w w' := by
  have L0 : Hid (Lo w ((w.alloc (nb t r)).alloc (nb x rx))) := Lib.hid ((lo_new hT (nb t r)).later (box_below _ _))
  have N0 : Hid (Bx w.heap.size t r ((w.alloc (nb t r)).alloc (nb x rx))) := Lib.hid ((bx_new h).later (box_below _ _))
  have X0 : Hid (Bx (w.heap.size + 1) x rx ((w.alloc (nb t r)).alloc (nb x rx))) := Lib.hid (by have := bx_new (hx.later (box_below w (nb t r))); rwa [show (w.alloc (nb t r)).heap.size = w.heap.size + 1 by simp] at this)
  have HG := Lib.hid G
  have HCk := Lib.hid hck
  have C0 := Lib.hid (fun V hV hI hz => (G.of t r i V hV hI hz hi1 hi2).mono fun e w' hr => hof _ _ _ hr)
  unfold OfU at C0
  have C1 := Lib.hid (fun a c V hV hI hA hz (hc : p.length ≤ c) => (G.get t r p a c V hV hI hA hc hz (Pl.gb_rp hck p)).mono fun e w' hr => get_some_u hg hr)
  have HPl := Lib.hid (fun hz hx => Pl.back_plain (p := p) (x := x) hck hz hx hg hE1)
  have C2 := Lib.hid (fun a c V hV hI hX hA hz hz2 (hc : p.length ≤ c) => (G.replace t x r rx p a c V hV hI hX hA hc hz hz2).mono fun e w' hr => (by have hr := res_u hr; rw [hE1, if_pos rfl] at hr; exact hr : GetU 0 (Pl.putP x p t) V e w'))
  obtain ⟨y, hy⟩ : ∃ y, y = Pl.putP x p t := ⟨_, rfl⟩
  rw [← hy] at C2 HPl
  have C3 := Lib.hid (fun ry ro a c V hV hI hX hA hz hz2 (hc : p.length ≤ c) (he : Pl.replE y p old = 0) (hb : Pl.putP old p y = t) => (G.replace y old ry ro p a c V hV hI hX hA hc hz hz2).mono fun e w' hr => (by have hr := res_u hr; rw [he, if_pos rfl, hb] at hr; exact hr : GetU 0 t V e w'))
  have Q1 := Lib.hid (fun V r1 r2 h k => equal_is t t r1 r2 true (eqT_iff.2 rfl) V h k)
  unfold GetU at C1 C2 C3
  obtain ⟨m, hm⟩ : ∃ m, m = p.length := ⟨_, rfl⟩
  rw [← hm] at C0 C1 C2 C3
  clear hT h hx hck hof hg hm hE1 hy
  go_enter Tryd.func8, Tryd.ntmps8
  obtain ⟨c0, c1, c2, c3⟩ := N0.out.box
  obtain ⟨x0, x1, x2, x3⟩ := X0.out.box
  go_upto_region 3 with (first
    | (go_at_call 25; refine (rcheck_at t _ r N2.out.tree).mono ?_; rw [HCk.out]; rintro e w3 ⟨rfl, hb3⟩; have L3 := Lib.hid (L2.out.later hb3); have N3 := Lib.hid (N2.out.later hb3); have X3 := Lib.hid (X2.out.later hb3); clear c0 c1 c2 c3; obtain ⟨c0, c1, c2, c3⟩ := N3.out.box; clear x0 x1 x2 x3; obtain ⟨x0, x1, x2, x3⟩ := X3.out.box; clear hb3)
    | (go_at_call 9; have g9 := HL.out; clear g9; refine (small_is x rx _ X1.out.tree).mono ?_; rintro e w2 ⟨b, hl, rfl, hb2⟩; have L2 := Lib.hid (L1.out.later hb2); have N2 := Lib.hid (N1.out.later hb2); have X2 := Lib.hid (X1.out.later hb2); clear c0 c1 c2 c3; obtain ⟨c0, c1, c2, c3⟩ := N2.out.box; clear x0 x1 x2 x3; obtain ⟨x0, x1, x2, x3⟩ := X2.out.box; clear hb2; rcases b with _ | _; (focus (clear hl; go_wp2_with (go_at_call 10; refine (HG.out.awake _ L2.out.tabs).mono ?_; rintro e w92 ⟨rfl, hb92⟩; have L92 := Lib.hid (L2.out.later hb92); clear hb92); go_ret; exact ⟨rfl, L92.out.low⟩)); have HX2 : Hid (Pl.sz x ≤ 300) := Lib.hid (hl rfl); clear hl)
    | (go_at_call 9; refine (small_is t r _ N0.out.tree).mono ?_; rintro e w1 ⟨b, hl, rfl, hb1⟩; have L1 := Lib.hid (L0.out.later hb1); have N1 := Lib.hid (N0.out.later hb1); have X1 := Lib.hid (X0.out.later hb1); clear c0 c1 c2 c3; obtain ⟨c0, c1, c2, c3⟩ := N1.out.box; clear x0 x1 x2 x3; obtain ⟨x0, x1, x2, x3⟩ := X1.out.box; clear hb1; rcases b with _ | _; (focus (clear hl; go_wp2_with (go_at_call 10; refine (HG.out.awake _ L1.out.tabs).mono ?_; rintro e w91 ⟨rfl, hb91⟩; have L91 := Lib.hid (L1.out.later hb91); clear hb91); go_ret; exact ⟨rfl, L91.out.low⟩)); have HL : Hid (Pl.sz t ≤ 300) := Lib.hid (hl rfl); clear hl))
  have HL1 : Hid (Pl.sz t ≤ 10000) := Lib.hid (by have := HL.out; omega)
  have HL2 : Hid (Pl.sz x ≤ 10000) := Lib.hid (by have := HX2.out; omega)
  go_upto_region 4 with (go_at_call 11; refine (C0.out _ L3.out.tabs N3.out.tree HL1.out).mono ?_; rintro e w4 ⟨hb4, pa, pc, hpi, rfl⟩; have L4 := Lib.hid (L3.out.later hb4); have N4 := Lib.hid (N3.out.later hb4); have X4 := Lib.hid (X3.out.later hb4); have J4 := Lib.hid hpi.out.1; clear c0 c1 c2 c3; obtain ⟨c0, c1, c2, c3⟩ := N4.out.box; clear x0 x1 x2 x3; obtain ⟨x0, x1, x2, x3⟩ := X4.out.box; clear hb4)
  go_upto_region 7 with (go_at_call 15; refine (C1.out pa pc _ L4.out.tabs N4.out.tree J4.out HL1.out hpi.out.2).mono ?_; rintro e w5 ⟨hb5, q1, ht5, rfl⟩; have L5 := Lib.hid (L4.out.later hb5); have N5 := Lib.hid (N4.out.later hb5); have X5 := Lib.hid (X4.out.later hb5); have J5 := Lib.hid (J4.out.later hb5); have Z5 := Lib.hid (bx_new ht5.out); clear c0 c1 c2 c3; obtain ⟨c0, c1, c2, c3⟩ := N5.out.box; clear x0 x1 x2 x3; obtain ⟨x0, x1, x2, x3⟩ := X5.out.box; clear hb5)
  have L6 := Lib.hid (L5.out.later (box_below w5 (nb old q1)))
  have N6 := Lib.hid (N5.out.later (box_below w5 (nb old q1)))
  have X6 := Lib.hid (X5.out.later (box_below w5 (nb old q1)))
  have J6 := Lib.hid (J5.out.later (box_below w5 (nb old q1)))
  have Z6 := Z5
  clear Z5
  generalize hW6 : w5.alloc (nb old q1) = w6 at *
  clear c0 c1 c2 c3
  obtain ⟨c0, c1, c2, c3⟩ := N6.out.box
  clear x0 x1 x2 x3
  obtain ⟨x0, x1, x2, x3⟩ := X6.out.box
  obtain ⟨h0, h1, h2, h3⟩ := Z6.out.box
  go_upto_region 8 with (go_at_call 19; refine (C2.out pa pc _ L6.out.tabs N6.out.tree X6.out.tree J6.out HL1.out HL2.out hpi.out.2).mono ?_; rintro e w7 ⟨hb7, q2, ht7, rfl⟩; have L7 := Lib.hid (L6.out.later hb7); have N7 := Lib.hid (N6.out.later hb7); have X7 := Lib.hid (X6.out.later hb7); have J7 := Lib.hid (J6.out.later hb7); have Z7 := Lib.hid (Z6.out.later hb7); have Y7 := Lib.hid (bx_new ht7.out); clear c0 c1 c2 c3; obtain ⟨c0, c1, c2, c3⟩ := N7.out.box; clear x0 x1 x2 x3; obtain ⟨x0, x1, x2, x3⟩ := X7.out.box; clear h0 h1 h2 h3; obtain ⟨h0, h1, h2, h3⟩ := Z7.out.box; clear hb7)
  have L8 := Lib.hid (L7.out.later (box_below w7 (nb y q2)))
  have N8 := Lib.hid (N7.out.later (box_below w7 (nb y q2)))
  have X8 := Lib.hid (X7.out.later (box_below w7 (nb y q2)))
  have J8 := Lib.hid (J7.out.later (box_below w7 (nb y q2)))
  have Z8 := Lib.hid (Z7.out.later (box_below w7 (nb y q2)))
  have Y8 := Y7
  clear Y7
  generalize hW8 : w7.alloc (nb y q2) = w8 at *
  clear c0 c1 c2 c3
  obtain ⟨c0, c1, c2, c3⟩ := N8.out.box
  clear x0 x1 x2 x3
  obtain ⟨x0, x1, x2, x3⟩ := X8.out.box
  clear h0 h1 h2 h3
  obtain ⟨h0, h1, h2, h3⟩ := Z8.out.box
  obtain ⟨g0, g1, g2, g3⟩ := Y8.out.box
  have HQ := Lib.hid (HPl.out HL.out HX2.out)
  go_upto_region 11 with (go_at_call 19; refine (C3.out q2 q1 pa pc _ L8.out.tabs Y8.out.tree Z8.out.tree J8.out HQ.out.2.2.1 HQ.out.2.2.2 hpi.out.2 HQ.out.1 HQ.out.2.1).mono ?_; rintro e w9 ⟨hb9, q3, ht9, rfl⟩; have L9 := Lib.hid (L8.out.later hb9); have N9 := Lib.hid (N8.out.later hb9); have X9 := Lib.hid (X8.out.later hb9); have J9 := Lib.hid (J8.out.later hb9); have Z9 := Lib.hid (Z8.out.later hb9); have Y9 := Lib.hid (Y8.out.later hb9); have S9 := Lib.hid (bx_new ht9.out); clear c0 c1 c2 c3; obtain ⟨c0, c1, c2, c3⟩ := N9.out.box; clear x0 x1 x2 x3; obtain ⟨x0, x1, x2, x3⟩ := X9.out.box; clear h0 h1 h2 h3; obtain ⟨h0, h1, h2, h3⟩ := Z9.out.box; clear g0 g1 g2 g3; obtain ⟨g0, g1, g2, g3⟩ := Y9.out.box; clear hb9)
  have L10 := Lib.hid (L9.out.later (box_below w9 (nb t q3)))
  have N10 := Lib.hid (N9.out.later (box_below w9 (nb t q3)))
  have X10 := Lib.hid (X9.out.later (box_below w9 (nb t q3)))
  have J10 := Lib.hid (J9.out.later (box_below w9 (nb t q3)))
  have Z10 := Lib.hid (Z9.out.later (box_below w9 (nb t q3)))
  have Y10 := Lib.hid (Y9.out.later (box_below w9 (nb t q3)))
  have S10 := S9
  clear S9
  generalize hW10 : w9.alloc (nb t q3) = w10 at *
  clear c0 c1 c2 c3
  obtain ⟨c0, c1, c2, c3⟩ := N10.out.box
  clear x0 x1 x2 x3
  obtain ⟨x0, x1, x2, x3⟩ := X10.out.box
  clear h0 h1 h2 h3
  obtain ⟨h0, h1, h2, h3⟩ := Z10.out.box
  clear g0 g1 g2 g3
  obtain ⟨g0, g1, g2, g3⟩ := Y10.out.box
  obtain ⟨i0, i1, i2, i3⟩ := S10.out.box
  go_wp2_with (first
    | (go_at_call 10; refine (HG.out.awake _ L11.out.tabs).mono ?_; rintro e w101 ⟨rfl, hb101⟩; have L101 := Lib.hid (L11.out.later hb101); clear hb101)
    | (go_at_call 18; (with_reducible refine (Q1.out _ _ _ S10.out.tree N10.out.tree).mono ?_); rintro e w11 ⟨rfl, hb11⟩; have L11 := Lib.hid (L10.out.later hb11); have N11 := Lib.hid (N10.out.later hb11); have X11 := Lib.hid (X10.out.later hb11); have J11 := Lib.hid (J10.out.later hb11); have Z11 := Lib.hid (Z10.out.later hb11); have Y11 := Lib.hid (Y10.out.later hb11); have S11 := Lib.hid (S10.out.later hb11); clear c0 c1 c2 c3; obtain ⟨c0, c1, c2, c3⟩ := N11.out.box; clear x0 x1 x2 x3; obtain ⟨x0, x1, x2, x3⟩ := X11.out.box; clear h0 h1 h2 h3; obtain ⟨h0, h1, h2, h3⟩ := Z11.out.box; clear g0 g1 g2 g3; obtain ⟨g0, g1, g2, g3⟩ := Y11.out.box; clear i0 i1 i2 i3; obtain ⟨i0, i1, i2, i3⟩ := S11.out.box; clear hb11))
  go_ret
  exact ⟨rfl, L101.out.low⟩
theorem lawBack (G : Prog) (t x : Pl.Tr) (r rx : Sl) (i : Int) (w : World) (hT : Tabs w) (h : IsT w t r) (hx : IsT w x rx) (hi1 : i ≤ 9223372036854775807) (hi2 : -9223372036854775808 ≤ i) :
    Calls Tryd.prog 8 #[nvx t r, .int .i64 i, nvx x rx] w fun e w' => e = .returned (.bool true) ∧ Below w.heap.size w w' := by
  by_cases h1 : Pl.rchk t = 0
  · rcases of_case t i with ⟨p, old, hg, hof⟩ | hof
    · by_cases h2 : Pl.replE t p x = 0
      · exact back_ok G t x r rx i w hT h hx hi1 hi2 h1 p old hg hof h2
      · exact back_err G t x r rx i w hT h hx hi1 hi2 h1 p old hg hof _ (by simpa using h2) rfl
    · exact back_no G t x r rx i w hT h hx hi1 hi2 h1 hof
  · exact back_chk G t x r rx i w hT h hx hi1 hi2 _ (by simpa using h1) rfl
end Go.Proofs.YtpaleolcfhnenaaDoor.Rt
