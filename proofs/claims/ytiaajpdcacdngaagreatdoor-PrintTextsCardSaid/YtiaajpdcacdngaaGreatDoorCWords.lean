/- The walks of the laws PrintWords and PrintTexts. -/
import Derived.Test.YtiaajpdcacdngaaGreatDoorRTop
import Derived.Test.YtiaajpdcacdngaaGreatDoorClose
import Derived.Test.YtiaajpdcacdngaaGreatDoorCard
namespace Go.Proofs.YtiaajpdcacdngaaGreatDoor.Rf
open Go.RowKit Go.Proofs.YtiaajpdcacdngaaGreatDoor.Aw
set_option linter.unusedVariables false
set_option linter.unusedSimpArgs false
set_option maxRecDepth 100000

/- ### PrintWords -/
set_option maxHeartbeats 1600000 in
theorem lw_bad (t : Pl.Tr) (r : Sl) (w : World) (hT : Tabs w) (h : IsT w t r) (hc : ¬ Pl.chk t = 0) :
    Calls Tryz.prog 3 #[nv t r] w fun e w' => e = .returned (.bool true) ∧ Below w.heap.size w w' := by
  obtain ⟨v, hv⟩ : ∃ v, v = Pl.chk t := ⟨_, rfl⟩
  rw [← hv] at hc
  obtain ⟨v1, v2⟩ := int_neq2 hc
  have v3 : (v == v) = true := by simp
  have L0 := Lib.hid (lo_new hT (nb t r))
  have N0 := Lib.hid (bx_new h)
  have CW := Lib.hid (fun V hV hI => words_bad t V r v hV hI hv.symm hc)
  have CR := Lib.hid (fun hl V hI => rWords_bad t V r v hI hv.symm hc hl)
  clear hc hv hT h
  go_enter Tryz.func3, Tryz.ntmps3
  go_upto_region 3 with (go_at_call 9; refine (Li.small_at t _ r N0.out.tree).mono ?_; rintro e w1 ⟨b, hl, rfl, hb1⟩; have L1 := Lib.hid (L0.out.later hb1); have N1 := Lib.hid (N0.out.later hb1); obtain ⟨c0, c1, c2, c3⟩ := (N0.out.later hb1).box; clear hb1; rcases b with _ | _; (focus (clear hl; go_wp2_with (go_at_call 10; refine (awake_any _ L1.out.tabs).mono ?_; rintro e w3 ⟨rfl, hb3⟩; have L3 := Lib.hid (L1.out.later hb3); clear hb3); go_ret; exact ⟨rfl, L3.out.low⟩)); have HL := Lib.hid (hl rfl); clear hl)
  go_upto_region 4 with (go_at_call 11; refine (CW.out _ L1.out.tabs N1.out.tree).mono ?_; rintro e w2 ⟨rfl, hb2⟩; have L2 := Lib.hid (L1.out.later hb2); have N2 := Lib.hid (N1.out.later hb2); clear hb2)
  clear c0 c1 c2 c3
  obtain ⟨c0, c1, c2, c3⟩ := N2.out.box
  go_upto_region 5 with (go_at_call 12; refine (CR.out HL.out _ N2.out.tree).mono ?_; rintro e w3 ⟨rfl, hb3⟩; have L3 := Lib.hid (L2.out.later hb3); clear hb3)
  clear c0 c1 c2 c3
  go_wp2_with (first
    | (go_at_call 10; refine (awake_any _ L4.out.tabs).mono ?_; rintro e w5 ⟨rfl, hb5⟩; have L5 := Lib.hid (L4.out.later hb5); clear hb5)
    | (go_at_call 13; refine (lsame_any 0 none none 0 0 [] _ rfl (by decide) (strs_nil _ _ _) (strs_nil _ _ _)).mono ?_; rintro e w4 ⟨rfl, hb4⟩; have L4 := Lib.hid (L3.out.later hb4); clear hb4))
  go_ret
  exact ⟨rfl, L5.out.low⟩
set_option maxHeartbeats 1600000 in
theorem lw_ok (t : Pl.Tr) (r : Sl) (w : World) (hT : Tabs w) (h : IsT w t r) (hc : Pl.chk t = 0) :
    Calls Tryz.prog 3 #[nv t r] w fun e w' => e = .returned (.bool true) ∧ Below w.heap.size w w' := by
  have L0 := Lib.hid (lo_new hT (nb t r))
  have N0 := Lib.hid (bx_new h)
  have hf := (Pl.chk_zero t hc).2.2.2
  obtain ⟨ws, hw⟩ : ∃ ws, ws = Pl.words t := ⟨_, rfl⟩
  obtain ⟨n, hn⟩ : ∃ n, n = ws.length := ⟨_, rfl⟩
  have CW : Hid (Li.Lit t → ∀ V, Tabs V → IsT V t r → Calls Tryz.prog 11 #[nv t r] V fun e w' => ∃ a c, e = .returned (.tuple #[.slice a n c, .int .i64 0]) ∧ Strs (fun b => b < w'.heap.size) w' a ws ∧ Below V.heap.size V w') := Lib.hid (fun hl V hV hI => (words_ok t V r n hV hI hc (by have := hl.1; omega) (by rw [hn, hw])).mono fun e w' ⟨a, c, h1, h2, h3⟩ => ⟨a, c, h1, by rw [hw]; exact h2.keep (Same.refl _ _) (fun b hb => hb.2), h3⟩)
  have CR : Hid (Li.Lit t → ∀ V, IsT V t r → Calls Tryz.prog 12 #[nv t r] V fun e w' => ∃ a c, e = .returned (.tuple #[.slice a n c, .int .i64 0]) ∧ Strs (fun b => b < w'.heap.size) w' a ws ∧ Below V.heap.size V w') := Lib.hid (fun hl V hI => (rWords_ok t V r n hI hc hl (by rw [hn, hw])).mono fun e w' ⟨a, c, h1, h2, h3⟩ => ⟨a, c, h1, by rw [hw]; exact h2, h3⟩)
  have CS : Hid (Li.Lit t → ∀ V a b c d, Strs (fun b => b < V.heap.size) V a ws → Strs (fun b => b < V.heap.size) V b ws → Calls Tryz.prog 13 #[.slice a n c, .slice b n d] V fun e w' => e = .returned (.bool true) ∧ Below V.heap.size V w') := Lib.hid (fun hl V a b c d ha hb => by
    have hn2 : n ≤ 2000 := by
      have e1 := Pl.words_len t hf
      have e2 := Pl.many_le t hf
      have := hl.1
      rw [hn, hw]; omega
    exact lsame_any n a b c d ws V hn (by omega) ha hb)
  clear hw hn hf hc hT h
  go_enter Tryz.func3, Tryz.ntmps3
  go_upto_region 3 with (go_at_call 9; refine (Li.small_at t _ r N0.out.tree).mono ?_; rintro e w1 ⟨b, hl, rfl, hb1⟩; have L1 := Lib.hid (L0.out.later hb1); have N1 := Lib.hid (N0.out.later hb1); obtain ⟨c0, c1, c2, c3⟩ := (N0.out.later hb1).box; clear hb1; rcases b with _ | _; (focus (clear hl; go_wp2_with (go_at_call 10; refine (awake_any _ L1.out.tabs).mono ?_; rintro e w3 ⟨rfl, hb3⟩; have L3 := Lib.hid (L1.out.later hb3); clear hb3); go_ret; exact ⟨rfl, L3.out.low⟩)); have HL := Lib.hid (hl rfl); clear hl)
  go_upto_region 4 with (go_at_call 11; refine (CW.out HL.out _ L1.out.tabs N1.out.tree).mono ?_; rintro e w2 ⟨wa, wc, rfl, hs2, hb2⟩; have S2 := Lib.hid hs2; have L2 := Lib.hid (L1.out.later hb2); have N2 := Lib.hid (N1.out.later hb2); clear hb2 hs2)
  clear c0 c1 c2 c3
  obtain ⟨c0, c1, c2, c3⟩ := N2.out.box
  go_upto_region 5 with (go_at_call 12; refine (CR.out HL.out _ N2.out.tree).mono ?_; rintro e w3 ⟨ra, rc, rfl, hs3, hb3⟩; have S3 := Lib.hid (S2.out.later hb3); have R3 := Lib.hid hs3; have L3 := Lib.hid (L2.out.later hb3); clear hb3 hs3)
  clear c0 c1 c2 c3
  go_wp2_with (first
    | (go_at_call 10; refine (awake_any _ L4.out.tabs).mono ?_; rintro e w5 ⟨rfl, hb5⟩; have L5 := Lib.hid (L4.out.later hb5); clear hb5)
    | (go_at_call 13; refine (CS.out HL.out _ wa ra wc rc S3.out R3.out).mono ?_; rintro e w4 ⟨rfl, hb4⟩; have L4 := Lib.hid (L3.out.later hb4); clear hb4))
  go_ret
  exact ⟨rfl, L5.out.low⟩

/- ### PrintTexts -/
set_option maxHeartbeats 1600000 in
theorem lt_bad (t : Pl.Tr) (r : Sl) (w : World) (hT : Tabs w) (h : IsT w t r) (hc : ¬ Pl.chk t = 0) :
    Calls Tryz.prog 4 #[nv t r] w fun e w' => e = .returned (.bool true) ∧ Below w.heap.size w w' := by
  obtain ⟨v, hv⟩ : ∃ v, v = Pl.chk t := ⟨_, rfl⟩
  rw [← hv] at hc
  obtain ⟨v1, v2⟩ := int_neq2 hc
  have v3 : (v == v) = true := by simp
  have L0 := Lib.hid (lo_new hT (nb t r))
  have N0 := Lib.hid (bx_new h)
  have CX := Lib.hid (fun V hV hI => text_bad t V r v hV hI hv.symm hc)
  have CP := Lib.hid (fun V hV hI => plain_bad t V r v hV hI hv.symm hc)
  have RX := Lib.hid (fun hl V hI => rText_bad t V r v hI hv.symm hc hl)
  have RP := Lib.hid (fun hl V hI => rPlain_bad t V r v hI hv.symm hc hl)
  clear hc hv hT h
  go_enter Tryz.func4, Tryz.ntmps4
  go_upto_region 3 with (go_at_call 9; refine (Li.small_at t _ r N0.out.tree).mono ?_; rintro e w1 ⟨b, hl, rfl, hb1⟩; have L1 := Lib.hid (L0.out.later hb1); have N1 := Lib.hid (N0.out.later hb1); obtain ⟨c0, c1, c2, c3⟩ := (N0.out.later hb1).box; clear hb1; rcases b with _ | _; (focus (clear hl; go_wp2_with (go_at_call 10; refine (awake_any _ L1.out.tabs).mono ?_; rintro e w3 ⟨rfl, hb3⟩; have L3 := Lib.hid (L1.out.later hb3); clear hb3); go_ret; exact ⟨rfl, L3.out.low⟩)); have HL := Lib.hid (hl rfl); clear hl)
  go_upto_region 4 with (go_at_call 14; refine (CX.out _ L1.out.tabs N1.out.tree).mono ?_; rintro e w2 ⟨rfl, hb2⟩; have L2 := Lib.hid (L1.out.later hb2); have N2 := Lib.hid (N1.out.later hb2); clear hb2)
  clear c0 c1 c2 c3
  obtain ⟨c0, c1, c2, c3⟩ := N2.out.box
  go_upto_region 5 with (go_at_call 15; refine (RX.out HL.out _ N2.out.tree).mono ?_; rintro e w3 ⟨rfl, hb3⟩; have L3 := Lib.hid (L2.out.later hb3); have N3 := Lib.hid (N2.out.later hb3); clear hb3)
  clear c0 c1 c2 c3
  obtain ⟨c0, c1, c2, c3⟩ := N3.out.box
  go_upto_region 6 with (go_at_call 16; refine (CP.out _ L3.out.tabs N3.out.tree).mono ?_; rintro e w4 ⟨rfl, hb4⟩; have L4 := Lib.hid (L3.out.later hb4); have N4 := Lib.hid (N3.out.later hb4); clear hb4)
  clear c0 c1 c2 c3
  obtain ⟨c0, c1, c2, c3⟩ := N4.out.box
  go_upto_region 7 with (go_at_call 17; refine (RP.out HL.out _ N4.out.tree).mono ?_; rintro e w5 ⟨rfl, hb5⟩; have L5 := Lib.hid (L4.out.later hb5); clear hb5)
  clear c0 c1 c2 c3
  go_wp2_with (go_at_call 10; refine (awake_any _ L5.out.tabs).mono ?_; rintro e w6 ⟨rfl, hb6⟩; have L6 := Lib.hid (L5.out.later hb6); clear hb6)
  go_ret
  exact ⟨rfl, L6.out.low⟩
set_option maxHeartbeats 1600000 in
theorem lt_ok (t : Pl.Tr) (r : Sl) (w : World) (hT : Tabs w) (h : IsT w t r) (hc : Pl.chk t = 0) :
    Calls Tryz.prog 4 #[nv t r] w fun e w' => e = .returned (.bool true) ∧ Below w.heap.size w w' := by
  have L0 := Lib.hid (lo_new hT (nb t r))
  have N0 := Lib.hid (bx_new h)
  obtain ⟨x, hx⟩ : ∃ x, x = Pl.mk (Pl.source t) := ⟨_, rfl⟩
  obtain ⟨y, hy⟩ : ∃ y, y = Pl.mk (Pl.source (Pl.bare t)) := ⟨_, rfl⟩
  have CX : Hid (Li.Lit t → ∀ V, Tabs V → IsT V t r → Calls Tryz.prog 14 #[nv t r] V (StrP x V)) := Lib.hid (fun hl V hV hI => text_ok t V r x hV hI hc (by have := hl.1; omega) (text_len t hc hl) hx.symm)
  have CP : Hid (Li.Lit t → ∀ V, Tabs V → IsT V t r → Calls Tryz.prog 16 #[nv t r] V (StrP y V)) := Lib.hid (fun hl V hV hI => plain_ok t V r y hV hI hc (by have := hl.1; omega) (bare_len t hc hl) hy.symm)
  have RX : Hid (Li.Lit t → ∀ V, IsT V t r → Calls Tryz.prog 15 #[nv t r] V (StrP x V)) := Lib.hid (fun hl V hI => rText_ok t V r x hI hc hl hx.symm)
  have RP : Hid (Li.Lit t → ∀ V, IsT V t r → Calls Tryz.prog 17 #[nv t r] V (StrP y V)) := Lib.hid (fun hl V hI => rPlain_ok t V r y hI hc hl hy.symm)
  clear hx hy hc hT h
  go_enter Tryz.func4, Tryz.ntmps4
  go_upto_region 3 with (go_at_call 9; refine (Li.small_at t _ r N0.out.tree).mono ?_; rintro e w1 ⟨b, hl, rfl, hb1⟩; have L1 := Lib.hid (L0.out.later hb1); have N1 := Lib.hid (N0.out.later hb1); obtain ⟨c0, c1, c2, c3⟩ := (N0.out.later hb1).box; clear hb1; rcases b with _ | _; (focus (clear hl; go_wp2_with (go_at_call 10; refine (awake_any _ L1.out.tabs).mono ?_; rintro e w3 ⟨rfl, hb3⟩; have L3 := Lib.hid (L1.out.later hb3); clear hb3); go_ret; exact ⟨rfl, L3.out.low⟩)); have HL := Lib.hid (hl rfl); clear hl)
  go_upto_region 4 with (go_at_call 14; refine (CX.out HL.out _ L1.out.tabs N1.out.tree).mono ?_; rintro e w2 ⟨rfl, hb2⟩; have L2 := Lib.hid (L1.out.later hb2); have N2 := Lib.hid (N1.out.later hb2); clear hb2)
  clear c0 c1 c2 c3
  obtain ⟨c0, c1, c2, c3⟩ := N2.out.box
  go_upto_region 5 with (go_at_call 15; refine (RX.out HL.out _ N2.out.tree).mono ?_; rintro e w3 ⟨rfl, hb3⟩; have L3 := Lib.hid (L2.out.later hb3); have N3 := Lib.hid (N2.out.later hb3); clear hb3)
  clear c0 c1 c2 c3
  obtain ⟨c0, c1, c2, c3⟩ := N3.out.box
  go_upto_region 6 with (go_at_call 16; refine (CP.out HL.out _ L3.out.tabs N3.out.tree).mono ?_; rintro e w4 ⟨rfl, hb4⟩; have L4 := Lib.hid (L3.out.later hb4); have N4 := Lib.hid (N3.out.later hb4); clear hb4)
  clear c0 c1 c2 c3
  obtain ⟨c0, c1, c2, c3⟩ := N4.out.box
  go_upto_region 7 with (go_at_call 17; refine (RP.out HL.out _ N4.out.tree).mono ?_; rintro e w5 ⟨rfl, hb5⟩; have L5 := Lib.hid (L4.out.later hb5); clear hb5)
  clear c0 c1 c2 c3
  go_wp2_with (go_at_call 10; refine (awake_any _ L5.out.tabs).mono ?_; rintro e w6 ⟨rfl, hb6⟩; have L6 := Lib.hid (L5.out.later hb6); clear hb6)
  go_ret
  exact ⟨rfl, L6.out.low⟩
end Go.Proofs.YtiaajpdcacdngaaGreatDoor.Rf

namespace Go.Proofs.YtiaajpdcacdngaaGreatDoor
open Go.RowKit
set_option linter.unusedVariables false
theorem lawWords (t : Pl.Tr) (r : Sl) (w : World) (hT : Tabs w) (h : IsT w t r) :
    Calls Tryz.prog 3 #[.agg #[.int .i64 t.kind, .string t.text, .slice r.ga t.gaps.length r.gc, .slice r.da t.kids.length r.dc]] w fun e w' => e = .returned (.bool true) ∧ Below w.heap.size w w' := by
  by_cases hc : Pl.chk t = 0
  · exact Rf.lw_ok t r w hT h hc
  · exact Rf.lw_bad t r w hT h hc
theorem lawTexts (t : Pl.Tr) (r : Sl) (w : World) (hT : Tabs w) (h : IsT w t r) :
    Calls Tryz.prog 4 #[.agg #[.int .i64 t.kind, .string t.text, .slice r.ga t.gaps.length r.gc, .slice r.da t.kids.length r.dc]] w fun e w' => e = .returned (.bool true) ∧ Below w.heap.size w w' := by
  by_cases hc : Pl.chk t = 0
  · exact Rf.lt_ok t r w hT h hc
  · exact Rf.lt_bad t r w hT h hc
end Go.Proofs.YtiaajpdcacdngaaGreatDoor
