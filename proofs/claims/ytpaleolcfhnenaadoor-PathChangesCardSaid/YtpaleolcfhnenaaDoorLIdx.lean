/- The walk of the law PathIndexes. -/
import Derived.Test.YtpaleolcfhnenaaDoorLaw
namespace Go.Proofs.YtpaleolcfhnenaaDoor.Rt
open Go.RowKit
set_option linter.unusedVariables false
set_option linter.unusedSimpArgs false
set_option maxRecDepth 100000

theorem rsize_is (t : Pl.Tr) (r : Sl) (w : World) (h : IsT w t r) (hz : Pl.sz t ≤ 10000) : Calls Tryd.prog 27 #[nvx t r] w fun e w' => e = .returned (.int .i64 (Pl.sz t)) ∧ Below w.heap.size w w' :=
  rsize_at h (fun _ h => h) w (Same.refl _ _) (Nat.le_refl _) (by omega)
theorem rat_is (t : Pl.Tr) (r : Sl) (w : World) (h : IsT w t r) (i : Int) (hz : Pl.sz t ≤ 10000) (hi : i ≤ 9223372036854775807) : Calls Tryd.prog 28 #[nvx t r, .int .i64 i] w (AtP t i w) :=
  rat_at h (fun _ h => h) w (Same.refl _ _) (Nat.le_refl _) (by omega) i hi
set_option maxHeartbeats 3200000 in
theorem indexes_none (G : Prog) (t : Pl.Tr) (r : Sl) (i : Int) (w : World) (hT : Tabs w) (h : IsT w t r) (hi : i ≤ 9223372036854775807) (hi2 : -9223372036854775808 ≤ i) (hn : i < 0 ∨ (Pl.sz t : Int) ≤ i) :
    Calls Tryd.prog 6 #[nvx t r, .int .i64 i] w fun e w' => e = .returned (.bool true) ∧ Below w.heap.size w w' := by
  have L0 := Lib.hid (lo_new hT (nb t r))
  have N0 := Lib.hid (bx_new h)
  have HG := Lib.hid G
  have HN := Lib.hid hn
  have HSZ := Lib.hid (fun V hI hz => rsize_is t r V hI hz)
  obtain ⟨sz, hsz⟩ : ∃ z, z = Pl.sz t := ⟨_, rfl⟩
  rw [← hsz] at HSZ HN hn
  have HZ := Lib.hid hsz
  have hb : (decide (i ≥ 0) = false) ∨ (decide (i ≥ 0) = true ∧ decide (i < (sz : Int)) = false) := by
    rcases hn with hn | hn
    · exact .inl (by simp; omega)
    · exact .inr ⟨by simp; omega, by simp; omega⟩
  clear hT h hsz hn
  go_enter Tryd.func6, Tryd.ntmps6
  go_upto_region 3 with (go_at_call 9; refine (small_is t r _ N0.out.tree).mono ?_; rintro e w1 ⟨b, hl, rfl, hb1⟩; have L1 := Lib.hid (L0.out.later hb1); have N1 := Lib.hid (N0.out.later hb1); obtain ⟨c0, c1, c2, c3⟩ := (N0.out.later hb1).box; clear hb1; rcases b with _ | _; (focus (clear hl; go_wp2_with (go_at_call 10; refine (HG.out.awake _ L1.out.tabs).mono ?_; rintro e w3 ⟨rfl, hb3⟩; have L3 := Lib.hid (L1.out.later hb3); clear hb3); go_ret; exact ⟨rfl, L3.out.low⟩)); have HL : Hid (Pl.sz t ≤ 10000) := Lib.hid (by have := hl rfl; omega); clear hl)
  go_upto_region 4 with (go_at_call 11; refine (HG.out.of t r i _ L1.out.tabs N1.out.tree HL.out hi hi2).mono ?_; rintro e w2 ⟨hb2, hof⟩; obtain ⟨_, rfl⟩ : (i < 0 ∨ (Pl.sz t : Int) ≤ i) ∧ e = _ := (by rcases hof with ⟨n, p, a, c, hin, _, hp, _⟩ | h; (exfalso; have h1 := Pl.idx_lt hp; have h2 := HN.out; have h3 := HZ.out; omega); exact h); have L2 := Lib.hid (L1.out.later hb2); have N2 := Lib.hid (N1.out.later hb2); clear c0 c1 c2 c3; obtain ⟨c0, c1, c2, c3⟩ := N2.out.box; clear hb2 hof)
  rcases hb with hb | ⟨hb, hb2⟩
  · go_wp2_with (go_at_call 10; refine (HG.out.awake _ L2.out.tabs).mono ?_; rintro e w3 ⟨rfl, hb3⟩; have L3 := Lib.hid (L2.out.later hb3); clear hb3)
    go_ret
    exact ⟨rfl, L3.out.low⟩
  · go_wp2_with (first
      | (go_at_call 10; refine (HG.out.awake _ L3.out.tabs).mono ?_; rintro e w4 ⟨rfl, hb4⟩; have L4 := Lib.hid (L3.out.later hb4); clear hb4)
      | (go_at_call 27; refine (HSZ.out _ N2.out.tree (by rw [HZ.out]; exact HL.out)).mono ?_; rintro e w3 ⟨rfl, hb3⟩; have L3 := Lib.hid (L2.out.later hb3); clear hb3))
    go_ret
    exact ⟨rfl, L4.out.low⟩
set_option maxHeartbeats 3200000 in
theorem indexes_some (G : Prog) (t : Pl.Tr) (r : Sl) (i : Nat) (w : World) (hT : Tabs w) (h : IsT w t r) (hi : (i : Int) ≤ 9223372036854775807) (hn : (i : Int) < (Pl.sz t : Int)) (hgb : Pl.GB t) :
    Calls Tryd.prog 6 #[nvx t r, .int .i64 i] w fun e w' => e = .returned (.bool true) ∧ Below w.heap.size w w' := by
  have L0 := Lib.hid (lo_new hT (nb t r))
  have N0 := Lib.hid (bx_new h)
  have HG := Lib.hid G
  have HSZ := Lib.hid (fun V hI hz => rsize_is t r V hI hz)
  obtain ⟨q, hq⟩ := Pl.has_path t i (by omega)
  obtain ⟨u, hu⟩ := Pl.get_of_idx hq
  have hpre := (Pl.idx_get hu hq).2
  have hql : q.length ≤ i := Pl.path_len hq
  have HQ := Lib.hid hq
  have HU := Lib.hid hu
  have HPre := Lib.hid hpre
  have HUni := Lib.hid (fun p (hp : Pl.idxP p t = some i) => Pl.idx_inj hp hq)
  obtain ⟨sz, hsz⟩ : ∃ z, z = Pl.sz t := ⟨_, rfl⟩
  rw [← hsz] at HSZ hn
  have HZ := Lib.hid hsz
  have hb : decide ((i : Int) ≥ 0) = true := by simp
  have hb0 : (0 : Int) ≤ (i : Int) := Int.natCast_nonneg _
  have hii : ((i : Int) == (i : Int)) = true := by simp
  obtain ⟨m, hm⟩ : ∃ m, m = q.length := ⟨_, rfl⟩
  have HM := Lib.hid hm
  have HCi := Lib.hid (fun a c V hV hI hA hz hc => G.index t r q a c V hV hI hA hc hz)
  have HCg := Lib.hid (fun a c V hV hI hA hz hc => G.get t r q a c V hV hI hA hc hz (fun u hu => Pl.gb_get hgb hu))
  rw [← hm] at HCi HCg
  clear hT h hsz hq hu hpre hm hql hgb
  go_enter Tryd.func6, Tryd.ntmps6
  go_upto_region 3 with (go_at_call 9; refine (small_is t r _ N0.out.tree).mono ?_; rintro e w1 ⟨b, hl, rfl, hb1⟩; have L1 := Lib.hid (L0.out.later hb1); have N1 := Lib.hid (N0.out.later hb1); obtain ⟨c0, c1, c2, c3⟩ := (N0.out.later hb1).box; clear hb1; rcases b with _ | _; (focus (clear hl; go_wp2_with (go_at_call 10; refine (HG.out.awake _ L1.out.tabs).mono ?_; rintro e w3 ⟨rfl, hb3⟩; have L3 := Lib.hid (L1.out.later hb3); clear hb3); go_ret; exact ⟨rfl, L3.out.low⟩)); have HL : Hid (Pl.sz t ≤ 10000) := Lib.hid (by have := hl rfl; omega); clear hl)
  go_upto_region 4 with (go_at_call 11; refine (HG.out.of t r i _ L1.out.tabs N1.out.tree HL.out hi (by omega)).mono ?_; rintro e w2 ⟨hb2, hof⟩; obtain ⟨pa, pc, hpi, rfl⟩ : ∃ (a : Option Addr) (c : Nat), Hid (IsI w2 a q ∧ m ≤ c) ∧ e = .returned (.tuple #[.slice a m c, .bool true]) := (by rcases hof with ⟨n, p, a, c, hin, hpc, hp, hI, he⟩ | ⟨h, _⟩; (obtain rfl : n = i := by omega); (obtain rfl := HUni.out p hp); (exact ⟨a, c, Lib.hid ⟨hI.keep (Same.refl _ _) (fun b hb => hb.2), by rw [HM.out]; exact hpc⟩, by rw [he, HM.out]⟩); (exfalso; have h3 := HZ.out; omega)); have L2 := Lib.hid (L1.out.later hb2); have N2 := Lib.hid (N1.out.later hb2); clear c0 c1 c2 c3; obtain ⟨c0, c1, c2, c3⟩ := N2.out.box; clear hb2 hof)
  go_upto_region 9 with (first
    | (go_at_call 27; refine (HSZ.out _ N2.out.tree (by rw [HZ.out]; exact HL.out)).mono ?_; rintro e w3 ⟨rfl, hb3⟩; have L3 := Lib.hid (L2.out.later hb3); have N3 := Lib.hid (N2.out.later hb3); have I3 := Lib.hid (hpi.out.1.later hb3); clear c0 c1 c2 c3; obtain ⟨c0, c1, c2, c3⟩ := N3.out.box; clear hb3)
    | (go_at_call 13; refine (HCi.out pa pc _ L3.out.tabs N3.out.tree I3.out HL.out hpi.out.2).mono ?_; rintro e w4 ⟨hb4, hix⟩; obtain rfl : e = .returned (.tuple #[.int .i64 i, .bool true]) := (by rcases hix with ⟨x, hx, he⟩ | ⟨hx, _⟩; (rw [HQ.out, Option.some.injEq] at hx; rw [he, hx]); (rw [HQ.out] at hx; cases hx)); have L4 := Lib.hid (L3.out.later hb4); have N4 := Lib.hid (N3.out.later hb4); have I4 := Lib.hid (I3.out.later hb4); clear c0 c1 c2 c3; obtain ⟨c0, c1, c2, c3⟩ := N4.out.box; clear hb4 hix))
  go_upto_region 10 with (go_at_call 15; refine (HCg.out pa pc _ L4.out.tabs N4.out.tree I4.out HL.out hpi.out.2).mono ?_; rintro e w5 ⟨hb5, E, v, rv, htv, hor, rfl⟩; obtain ⟨rfl, rfl⟩ : E = 0 ∧ v = u := (by rcases hor with ⟨h1, h2⟩ | ⟨h1, h2, _⟩; (exact ⟨h1, Option.some.inj (h2.symm.trans HU.out)⟩); (rw [HU.out] at h2; cases h2)); have L5 := Lib.hid (L4.out.later hb5); have N5 := Lib.hid (N4.out.later hb5); have V5 := Lib.hid (bx_new htv); clear c0 c1 c2 c3 hb5 hor htv)
  have L6 := Lib.hid (L5.out.later (box_below w5 (nb v rv)))
  have N6 := Lib.hid (N5.out.later (box_below w5 (nb v rv)))
  generalize hW6 : w5.alloc (nb v rv) = W6 at *
  obtain ⟨c0, c1, c2, c3⟩ := N6.out.box
  go_upto_region 11 with (go_at_call 28; refine (rat_is t r _ N6.out.tree i HL.out hi).mono ?_; rintro e w7 ⟨hb7, hat⟩; obtain ⟨v2, rv2, ht7, rfl⟩ : ∃ (v2 : Pl.Tr) (rv2 : Sl), Hid (v2 = v ∧ IsT w7 v2 rv2) ∧ e = .returned (.tuple #[nvx v2 rv2, .bool true]) := (by rcases hat with ⟨n, v2, rv2, hin, hp2, ht2, he⟩ | ⟨h1, _⟩; (obtain rfl : n = i := by omega); (exact ⟨v2, rv2, Lib.hid ⟨Option.some.inj (hp2.symm.trans HPre.out), ht2⟩, he⟩); (exfalso; have h3 := HZ.out; omega)); have L7 := Lib.hid (L6.out.later hb7); have V7 := Lib.hid (V5.out.later hb7); have U7 := Lib.hid (bx_new ht7.out.2); clear c0 c1 c2 c3 hb7 hat)
  have L8 := Lib.hid (L7.out.later (box_below w7 (nb v2 rv2)))
  have V8 := Lib.hid (V7.out.later (box_below w7 (nb v2 rv2)))
  have HEq := Lib.hid (fun W h k => equal_is v v2 rv rv2 true (by rw [ht7.out.1]; exact eqT_iff.2 rfl) W h k)
  generalize hW8 : w7.alloc (nb v2 rv2) = W8 at *
  obtain ⟨c0, c1, c2, c3⟩ := V8.out.box
  obtain ⟨d0, d1, d2, d3⟩ := U7.out.box
  go_wp2_with (first
    | (go_at_call 10; refine (HG.out.awake _ L9.out.tabs).mono ?_; rintro e w10 ⟨rfl, hb10⟩; have L10 := Lib.hid (L9.out.later hb10); clear hb10)
    | (go_at_call 18; refine (HEq.out _ V8.out.tree U7.out.tree).mono ?_; rintro e w9 ⟨rfl, hb9⟩; have L9 := Lib.hid (L8.out.later hb9); clear hb9))
  go_ret
  exact ⟨rfl, L10.out.low⟩
theorem lawIndexes (G : Prog) (t : Pl.Tr) (r : Sl) (i : Int) (w : World) (hT : Tabs w) (h : IsT w t r) (hi : i ≤ 9223372036854775807) (hi2 : -9223372036854775808 ≤ i) (hgb : Pl.GB t) :
    Calls Tryd.prog 6 #[nvx t r, .int .i64 i] w fun e w' => e = .returned (.bool true) ∧ Below w.heap.size w w' := by
  by_cases hn : i < 0 ∨ (Pl.sz t : Int) ≤ i
  · exact indexes_none G t r i w hT h hi hi2 hn
  · obtain ⟨n, rfl⟩ : ∃ n : Nat, i = n := ⟨i.toNat, by omega⟩
    exact indexes_some G t r n w hT h hi (by omega) hgb
end Go.Proofs.YtpaleolcfhnenaaDoor.Rt

namespace Go.Proofs.YtpaleolcfhnenaaDoor.Rt
open Go.RowKit
set_option linter.unusedVariables false
set_option linter.unusedSimpArgs false
set_option maxRecDepth 100000

set_option maxHeartbeats 6400000 in
theorem lawFinds (G : Prog) (t : Pl.Tr) (r : Sl) (i : Int) (p : List Int) (a : Option Addr) (c : Nat) (w : World) (hT : Tabs w) (h : IsT w t r) (hp : IsI w a p) (hc : p.length ≤ c) (hi : i ≤ 9223372036854775807) (hi2 : -9223372036854775808 ≤ i) (hgb : Pl.GB t) :
    Calls Tryd.prog 3 #[nvx t r, .int .i64 i, .slice a p.length c] w fun e w' => e = .returned (.bool true) ∧ Below w.heap.size w w' := by
  have L0 := Lib.hid (lo_new hT (nb t r))
  have N0 := Lib.hid (bx_new h)
  have J0 := Lib.hid (hp.later (box_below w (nb t r)))
  have HG := Lib.hid G
  obtain ⟨q, b, hql, hofu⟩ := of_u t i
  obtain ⟨x, b2, hixu⟩ := index_u t p
  obtain ⟨E, u, hgu⟩ := get_u t p
  have CO := Lib.hid (fun V hV hI hz => (G.of t r i V hV hI hz hi hi2).mono (hofu V))
  have RO := Lib.hid (fun V hI hz => (rof_is t r i V hI hi hz).mono (hofu V))
  have CI := Lib.hid (fun V hV hI hA hz => (G.index t r p a c V hV hI hA hc hz).mono (hixu V))
  have RI := Lib.hid (fun V hI hA hz => (rindex_is t r p a c V hI hA hz).mono (hixu V))
  have CG := Lib.hid (fun V hV hI hA hz => (G.get t r p a c V hV hI hA hc hz (fun u hu => Pl.gb_get hgb hu)).mono (hgu V))
  have RG := Lib.hid (fun V hI hA => (rget_is t r p a c V hI hA).mono (hgu V))
  have HQ := Lib.hid hql
  obtain ⟨m, hm⟩ : ∃ m, m = p.length := ⟨_, rfl⟩
  rw [← hm] at CI RI CG RG ⊢
  have bb : (b == b) = true := by simp
  have bb2 : (b2 == b2) = true := by simp
  have xx : (x == x) = true := by simp
  have ee : (E == E) = true := by simp
  have HIn := Lib.hid (fun V a1 a2 c1 c2 (h1 : IsI V a1 q) (h2 : IsI V a2 q) => by
    have := rints_any a1 a2 c1 c2 q q h1 h2
    rw [show decide (q = q) = true by simp] at this
    exact this)
  have HEq := Lib.hid (fun V r1 r2 h k => equal_is u u r1 r2 true (eqT_iff.2 rfl) V h k)
  obtain ⟨n, hn⟩ : ∃ n, n = q.length := ⟨_, rfl⟩
  unfold OfU at CO RO
  unfold IndexU at CI RI
  unfold GetU at CG RG
  rw [← hn] at CO RO HIn
  clear hT h hp hc hgb hql hofu hixu hgu hm hn
  go_enter Tryd.func3, Tryd.ntmps3
  go_upto_region 3 with (go_at_call 9; refine (small_is t r _ N0.out.tree).mono ?_; rintro e w1 ⟨b, hl, rfl, hb1⟩; have L1 := Lib.hid (L0.out.later hb1); have N1 := Lib.hid (N0.out.later hb1); have J1 := Lib.hid (J0.out.later hb1); obtain ⟨c0, c1, c2, c3⟩ := (N0.out.later hb1).box; clear hb1; rcases b with _ | _; (focus (clear hl; go_wp2_with (go_at_call 10; refine (HG.out.awake _ L1.out.tabs).mono ?_; rintro e w3 ⟨rfl, hb3⟩; have L3 := Lib.hid (L1.out.later hb3); clear hb3); go_ret; exact ⟨rfl, L3.out.low⟩)); have HL : Hid (Pl.sz t ≤ 10000) := Lib.hid (by have := hl rfl; omega); clear hl)
  go_upto_region 4 with (go_at_call 11; refine (CO.out _ L1.out.tabs N1.out.tree HL.out).mono ?_; rintro e w2 ⟨hb2, pa1, pc1, hI1, rfl⟩; have L2 := Lib.hid (L1.out.later hb2); have N2 := Lib.hid (N1.out.later hb2); have J2 := Lib.hid (J1.out.later hb2); have A2 := Lib.hid hI1.out.1; clear c0 c1 c2 c3 hb2; obtain ⟨c0, c1, c2, c3⟩ := N2.out.box)
  go_upto_region 5 with (go_at_call 12; refine (RO.out _ N2.out.tree HL.out).mono ?_; rintro e w3 ⟨hb3, pa2, pc2, hI2, rfl⟩; have L3 := Lib.hid (L2.out.later hb3); have N3 := Lib.hid (N2.out.later hb3); have J3 := Lib.hid (J2.out.later hb3); have A3 := Lib.hid (A2.out.later hb3); have B3 := Lib.hid hI2.out.1; clear c0 c1 c2 c3 hb3; obtain ⟨c0, c1, c2, c3⟩ := N3.out.box)
  go_upto_region 6 with (go_at_call 13; refine (CI.out _ L3.out.tabs N3.out.tree J3.out HL.out).mono ?_; rintro e w4 ⟨hb4, rfl⟩; have L4 := Lib.hid (L3.out.later hb4); have N4 := Lib.hid (N3.out.later hb4); have J4 := Lib.hid (J3.out.later hb4); have A4 := Lib.hid (A3.out.later hb4); have B4 := Lib.hid (B3.out.later hb4); clear c0 c1 c2 c3 hb4; obtain ⟨c0, c1, c2, c3⟩ := N4.out.box)
  go_upto_region 7 with (go_at_call 14; refine (RI.out _ N4.out.tree J4.out HL.out).mono ?_; rintro e w5 ⟨hb5, rfl⟩; have L5 := Lib.hid (L4.out.later hb5); have N5 := Lib.hid (N4.out.later hb5); have J5 := Lib.hid (J4.out.later hb5); have A5 := Lib.hid (A4.out.later hb5); have B5 := Lib.hid (B4.out.later hb5); clear c0 c1 c2 c3 hb5; obtain ⟨c0, c1, c2, c3⟩ := N5.out.box)
  go_upto_region 8 with (go_at_call 15; refine (CG.out _ L5.out.tabs N5.out.tree J5.out HL.out).mono ?_; rintro e w6 ⟨hb6, r1, ht6, rfl⟩; have L6 := Lib.hid (L5.out.later hb6); have N6 := Lib.hid (N5.out.later hb6); have J6 := Lib.hid (J5.out.later hb6); have A6 := Lib.hid (A5.out.later hb6); have B6 := Lib.hid (B5.out.later hb6); have U6 := Lib.hid (bx_new ht6.out); clear c0 c1 c2 c3 hb6; obtain ⟨c0, c1, c2, c3⟩ := N6.out.box)
  have L7 := Lib.hid (L6.out.later (box_below w6 (nb u r1)))
  have N7 := Lib.hid (N6.out.later (box_below w6 (nb u r1)))
  have J7 := Lib.hid (J6.out.later (box_below w6 (nb u r1)))
  have A7 := Lib.hid (A6.out.later (box_below w6 (nb u r1)))
  have B7 := Lib.hid (B6.out.later (box_below w6 (nb u r1)))
  have U7 := U6
  clear U6
  generalize hW7 : w6.alloc (nb u r1) = w7 at *
  clear c0 c1 c2 c3
  obtain ⟨c0, c1, c2, c3⟩ := N7.out.box
  go_upto_region 9 with (go_at_call 16; refine (RG.out _ N7.out.tree J7.out).mono ?_; rintro e w8 ⟨hb8, r2, ht8, rfl⟩; have L8 := Lib.hid (L7.out.later hb8); have N8 := Lib.hid (N7.out.later hb8); have J8 := Lib.hid (J7.out.later hb8); have A8 := Lib.hid (A7.out.later hb8); have B8 := Lib.hid (B7.out.later hb8); have U8 := Lib.hid (U7.out.later hb8); have V8 := Lib.hid (bx_new ht8.out); clear c0 c1 c2 c3 hb8; obtain ⟨c0, c1, c2, c3⟩ := N8.out.box)
  have L9 := Lib.hid (L8.out.later (box_below w8 (nb u r2)))
  have N9 := Lib.hid (N8.out.later (box_below w8 (nb u r2)))
  have J9 := Lib.hid (J8.out.later (box_below w8 (nb u r2)))
  have A9 := Lib.hid (A8.out.later (box_below w8 (nb u r2)))
  have B9 := Lib.hid (B8.out.later (box_below w8 (nb u r2)))
  have U9 := Lib.hid (U8.out.later (box_below w8 (nb u r2)))
  have V9 := V8
  clear V8
  generalize hW9 : w8.alloc (nb u r2) = w9 at *
  clear c0 c1 c2 c3
  obtain ⟨c0, c1, c2, c3⟩ := N9.out.box
  obtain ⟨d0, d1, d2, d3⟩ := U9.out.box
  obtain ⟨f0, f1, f2, f3⟩ := V9.out.box
  go_wp2_with (first
    | (go_at_call 10; refine (HG.out.awake _ L11.out.tabs).mono ?_; rintro e w12 ⟨rfl, hb12⟩; have L12 := Lib.hid (L11.out.later hb12); clear hb12)
    | (go_at_call 18; refine (HEq.out _ _ _ U10.out.tree V10.out.tree).mono ?_; rintro e w11 ⟨rfl, hb11⟩; have L11 := Lib.hid (L10.out.later hb11); clear hb11)
    | (go_at_call 17; refine (HIn.out _ _ _ _ _ A9.out B9.out).mono ?_; rintro e w10 ⟨rfl, hb10⟩; have L10 := Lib.hid (L9.out.later hb10); have U10 := Lib.hid (U9.out.later hb10); have V10 := Lib.hid (V9.out.later hb10); clear d0 d1 d2 d3 f0 f1 f2 f3; obtain ⟨d0, d1, d2, d3⟩ := U10.out.box; obtain ⟨f0, f1, f2, f3⟩ := V10.out.box; clear hb10))
  go_ret
  exact ⟨rfl, L12.out.low⟩
end Go.Proofs.YtpaleolcfhnenaaDoor.Rt
