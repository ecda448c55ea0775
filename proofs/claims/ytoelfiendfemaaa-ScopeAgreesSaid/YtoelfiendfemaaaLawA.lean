/- The walk of the law ScopeAgrees. -/
import Derived.Test.YtoelfiendfemaaaLaw3
import Derived.Test.YtoelfiendfemaaaSamp
import Derived.Test.YtoelfiendfemaaaPAgrJ
namespace Go.Proofs.Ytoelfiendfemaaa
open Go.RowKit Go.Deep
set_option linter.unusedVariables false
set_option linter.unusedSimpArgs false

set_option maxHeartbeats 3200000 in
set_option maxRecDepth 100000 in
theorem law_agrees (HP : Prg) (HSm : SampC) (a : Option Addr) (n c : Nat) (us : List Pl.Un) (R : Nat → Sl) (p q : Int) (w : World) (hG : Good w) (hU : IsU w a us R) (hn : n = us.length) :
    Calls Try.prog 7 #[.slice a n c, .agg #[.int .i64 p, .int .i64 q]] w (YesP w) := by
  have HAw := Lib.hid (fun z (h : Below w.heap.size w z) => awake_any HP HSm z (hG.later h))
  have HFt := Lib.hid (fun z (h : Below w.heap.size w z) => fits12_any a n c us R z (hU.later h) hn 100 (by omega))
  have HTb := Lib.hid (fun z (h : Below w.heap.size w z) hF => tables_any a n c us R z (hU.later h) hF hn)
  have HPu := Lib.hid (fun z (h : Below w.heap.size w z) hF => HP.1 a n c us R z (hG.later h) (hU.later h) hF hn)
  have HPn := Lib.hid (fun z (h : Below w.heap.size w z) hF => HP.2.2.2.1 a n c us R z (hG.later h) (hU.later h) hF hn)
  have HPr := Lib.hid (fun z (h : Below w.heap.size w z) hF => HP.2.1 a n c us R z (hG.later h) (hU.later h) hF hn p q)
  have HPv := Lib.hid (fun z (h : Below w.heap.size w z) hF u i => HP.2.2.1 a n c us R z (hG.later h) (hU.later h) hF hn u i)
  have HTg := Lib.hid (fun (hF : Few us) j l (h : (Pl.tbls us)[j]? = some l) => tbls_get hF h)
  have HAg := Lib.hid (fun y (hy : y ∈ Pl.uses us) => Pl.agr_inL us y hy)
  have HFv : Hid (∀ y ∈ Pl.uses us, y.au = p → y.an = q → (fv (Pl.resolve us p q)).1 = y.du ∧ (fv (Pl.resolve us p q)).2 = y.dn ∧ (Pl.resolve us p q).isSome = y.bound) :=
    Lib.hid (fun y hy h1 h2 => by have := agr_fv us y hy; rw [h1, h2] at this; exact this)
  have HMn : Hid (Pl.metAt p q (Pl.uses us) = false → (fv (Pl.resolve us p q)).1 = 0 ∧ (fv (Pl.resolve us p q)).2 = 0 ∧ (Pl.resolve us p q).isSome = false) :=
    Lib.hid (fun h => by rw [Pl.met_none us p q h]; exact ⟨rfl, rfl, rfl⟩)
  unfold Pl.unbound at HPn
  clear hU hn hG
  generalize Pl.uses us = L at *
  generalize Pl.tbls us = T at *
  obtain ⟨x1, hx1⟩ : ∃ x, x = (fv (Pl.resolve us p q)).1 := ⟨_, rfl⟩
  obtain ⟨x2, hx2⟩ : ∃ x, x = (fv (Pl.resolve us p q)).2 := ⟨_, rfl⟩
  obtain ⟨bo, hbo⟩ : ∃ x, x = (Pl.resolve us p q).isSome := ⟨_, rfl⟩
  have HRO : Hid (foundV (Pl.resolve us p q) = .tuple #[.agg #[.int .i64 x1, .int .i64 x2], .bool bo]) := Lib.hid (by rw [foundV_eq, hx1, hx2, hbo])
  rw [← hx1, ← hx2, ← hbo] at HFv HMn
  clear hx1 hx2 hbo
  obtain ⟨W, hW⟩ : ∃ W, W = w.alloc (.cells #[.int .i64 p, .int .i64 q] 29) := ⟨_, rfl⟩
  have HBW : Hid (Below w.heap.size w W) := Lib.hid (by rw [hW]; exact below_11 _ _)
  have HKW : Hid (W.heap[w.heap.size]? = some (.cells #[.int .i64 p, .int .i64 q] 29 (0, 0))) := Lib.hid (by rw [hW]; exact heap_alloc_new _ _)
  have HWw := Lib.hid hW
  clear hW
  go_enter Try.func7, Try.ntmps7
  go_upto_region 1 with fail
  rw [← HWw.out]
  clear HWw
  go_wp2_with (first
    | (go_at_call 28; refine (HFt.out W HBW.out).mono ?_; rintro e w1 ⟨bb, hbb, rfl, hb1⟩; have HBB := Lib.hid hbb; have HB1 := Lib.hid (HBW.out.trans (hb1.mono HBW.out.size)); have hk1 := blk_keep HKW.out hb1; have HK1 := Lib.hid hk1; clear hbb hb1 hk1; cases bb)
    | (go_at_call 9; refine (HAw.out w1 HB1.out).mono ?_; rintro e w2 ⟨rfl, hb2⟩; have HB2 := Lib.hid (HB1.out.trans (hb2.mono HB1.out.size)); clear hb2)
    | (go_at_call 24; refine (HTb.out w1 HB1.out (HBB.out (by trivial))).mono ?_; rintro e w2 ⟨ta, tc, rfl, hta, hb2⟩; have HTA := Lib.hid hta; have HK2 := Lib.hid (blk_keep HK1.out hb2); have HB2 := Lib.hid (HB1.out.trans (hb2.mono HB1.out.size)); clear hta hb2)
    | (go_at_call 12; refine (HPu.out w2 HB2.out (HBB.out (by trivial))).mono ?_; rintro e w3 ⟨la, lc, rfl, hl, hb3⟩; have HL3 := Lib.hid hl; have HTA3 := Lib.hid (HTA.out.later hb3); have HK3 := Lib.hid (blk_keep HK2.out hb3); have HB3 := Lib.hid (HB2.out.trans (hb3.mono HB2.out.size)); clear hl hb3)
    | (go_at_call 20; refine (HPn.out w3 HB3.out (HBB.out (by trivial))).mono ?_; rintro e w4 ⟨na, nc, rfl, hl, hb4⟩; have HNo4 := Lib.hid hl; have HL4 := Lib.hid (FlatW.later HL3.out hb4); have HTA4 := Lib.hid (HTA3.out.later hb4); have hk4 := blk_keep HK3.out hb4; obtain ⟨⟨p0, p1⟩, _⟩ := blk_two hk4; have HK4 := Lib.hid hk4; have HB4 := Lib.hid (HB3.out.trans (hb4.mono HB3.out.size)); clear hl hb4 hk4))
  · go_ret
    exact ⟨rfl, HB2.out⟩
  have HF := Lib.hid (HBB.out (by trivial))
  go_upto_region 7 with (go_at_call 14; refine (HPr.out w4 HB4.out HF.out).mono ?_; rintro e w5 ⟨he, hb5⟩; rw [HRO.out] at he; subst he; have HB5 := Lib.hid hb5; clear hb5)
  obtain ⟨V, hV⟩ : ∃ X, X = w5.alloc (.cells #[.int .i64 x1, .int .i64 x2] 29) := ⟨_, rfl⟩
  rw [← hV]
  have hbv : Below w4.heap.size w4 V := by rw [hV]; exact HB5.out.trans ((below_11 w5 _).mono HB5.out.size)
  have HKd : Hid (V.heap[w5.heap.size]? = some (.cells #[.int .i64 x1, .int .i64 x2] 29 (0, 0))) := Lib.hid (by rw [hV]; exact heap_alloc_new _ _)
  have HKa := Lib.hid (blk_keep HK4.out hbv)
  have HBV := Lib.hid (HB4.out.trans (hbv.mono HB4.out.size))
  have HNo := Lib.hid (FlatW.later HNo4.out hbv)
  have HL := Lib.hid (FlatW.later HL4.out hbv)
  have HTA := Lib.hid (HTA4.out.later hbv)
  have HGv := HPv
  clear HPv
  have HPv := Lib.hid (fun z (h : Below V.heap.size V z) u i => HGv.out z (HBV.out.trans (h.mono HBV.out.size)) HF.out u i)
  have HAv := Lib.hid (fun z (h : Below V.heap.size V z) => HAw.out z (HBV.out.trans (h.mono HBV.out.size)))
  have HEx := Lib.hid (fun z (h : Below V.heap.size V z) u i => exists_any ta T.length tc T u i z (HTA.out.later h) rfl)
  clear hV hbv p0 p1 HGv HAw HFt HTb HPu HPn HPr HBB HB1 HK1 HBW HKW HB2 HK2 HL3 HTA3 HK3 HB3 HNo4 HL4 HTA4 HK4 HB4 HB5 HRO
  generalize w5.heap.size = bd at *
  obtain ⟨m, hm⟩ : ∃ m, m = L.length := ⟨_, rfl⟩
  have hml : m ≤ maxLen := by rw [hm]; exact HL.out.1
  obtain ⟨N, hN⟩ : ∃ N, N = (Pl.unb L).length := ⟨_, rfl⟩
  have hNl : N ≤ maxLen := by rw [hN]; exact HNo.out.1
  unfold maxLen at hml hNl
  have HM := Lib.hid hm
  have HN := Lib.hid hN
  try rw [← hm]
  try rw [← hN]
  clear hm hN
  go_wp2_with fail
  go_loopw [10, 11, 12] (fun mt nx i wr => ∃ k : Nat, k ≤ m ∧ i = .int .i64 k ∧ nx = .int .i64 ((Pl.unb (L.take k)).length : Nat) ∧ mt = .bool (Pl.metAt p q (L.take k)) ∧ Below V.heap.size V wr) (fun _ _ i _ => m - (intOf i).toNat)
  case atStart => exact ⟨0, Nat.zero_le _, rfl, rfl, rfl, Below.refl _ _⟩
  case round =>
    obtain ⟨k, hk, rfl, rfl, rfl, hbel⟩ := hrel
    have HB := Lib.hid hbel
    have hgr := hbel.size
    by_cases hlt : k < m
    · have hkx : k < L.length := by rw [← HM.out]; exact hlt
      have hx := List.getElem?_eq_getElem hkx
      have hmem := List.getElem_mem hkx
      obtain ⟨u, i, l, e1, e2, hl, hi, hvis⟩ := HAg.out _ hmem
      have hfv := HFv.out _ hmem
      have hus := Pl.unb_snoc L k _ hx
      have hnx := Pl.unb_next L k _ hx
      have hms := Pl.met_snoc p q L k _ hx
      have hle : (Pl.unb (L.take k)).length ≤ N := by rw [HN.out]; exact Pl.unb_len L k
      obtain ⟨lb, lo, rfl, hlb, hrg⟩ := HL.out.one hx
      have hk0 : (0 : Int) ≤ (k : Int) := Int.natCast_nonneg _
      have hk1 : (k : Int) < (m : Int) := by omega
      generalize L[k] = x at *
      obtain ⟨au, an, du, dn, bb⟩ := x
      simp only at e1 e2 hvis hfv hus hnx hms
      subst e1 e2
      have hul : (Pl.unb (L.take (k + 1))).length = (Pl.unb (L.take k)).length + (if bb then 0 else 1) := by
        rw [hus, List.length_append]; cases bb <;> rfl
      have HUl := Lib.hid hul
      have HMs := Lib.hid hms
      have HNx := Lib.hid hnx
      have HFx := Lib.hid hfv
      have HVi := Lib.hid hvis
      clear hus hnx hms hfv hvis hul hx hmem
      generalize (Pl.unb (L.take k)).length = e0 at *
      generalize Pl.metAt p q (L.take k) = mb0 at *
      have hr : wr.rangeAt lb (lo + k * 5) [.int .i64 u, .int .i64 i, .int .i64 du, .int .i64 dn, .bool bb] := fun q v hv => (hbel.cell (p := ⟨lb, lo + k * 5 + q, none⟩) hlb).trans (hrg q v hv)
      have HR := Lib.hid hr
      have HX1 : Hid (Pl.exs T u i = true) := Lib.hid (Pl.exs_of hl hi)
      obtain ⟨X, hX⟩ : ∃ X, X = wr.alloc (.cells #[.int .i64 u, .int .i64 i, .int .i64 du, .int .i64 dn, .bool bb] 42) := ⟨_, rfl⟩
      have HBX : Hid (Below V.heap.size V X) := Lib.hid (by rw [hX]; exact hbel.alloc hgr _)
      have HKX : Hid (X.heap[wr.heap.size]? = some (.cells #[.int .i64 u, .int .i64 i, .int .i64 du, .int .i64 dn, .bool bb] 42 (0, 0))) := Lib.hid (by rw [hX]; exact heap_alloc_new _ _)
      have HXx := Lib.hid hX
      obtain ⟨⟨p0, p1, p2, p3, p4⟩, pl⟩ := blk_five HKX.out
      -- the row
      have hul := (List.getElem?_eq_some_iff.1 hl).1
      obtain ⟨tb, o, ta1, tc1, R1, rfl, htb, ht1, hti1⟩ := HTA.out.one hl
      obtain ⟨r1, o1, rfl, hTb1⟩ := tb_of hti1 (by omega)
      obtain ⟨z1, rr1, hz1, hat1⟩ : ∃ z1 rr1, Pl.rw l i = z1 ∧ At5 V r1 (o1 + i * 5) z1 rr1 := by
        obtain ⟨z, rr, _, h1, _, _, _, _, _, _, h2⟩ := hTb1.row hi
        exact ⟨z, rr, h1, h2⟩
      have hr1 := hTb1.1
      rw [hz1] at HVi
      have a0 : (0 : Int) ≤ (u : Int) := Int.natCast_nonneg _
      have a1 : (u : Int) < (T.length : Int) := by omega
      have a4 : (0 : Int) ≤ (i : Int) := Int.natCast_nonneg _
      have a5 : (i : Int) < (l.length : Int) := by omega
      have HT1 := Lib.hid ht1
      have HA1 := Lib.hid hat1
      clear hX hr hrg hl hi hbel ht1 hti1 hz1 hat1 hTb1 hul
      go_upto_region 13 with (refine wpList_load_mid rfl 42 _ rfl lb (lo + k * 5) rfl [.int .i64 u, .int .i64 i, .int .i64 du, .int .i64 dn, .bool bb] _ HR.out Try.underlying42 rfl sizeU ?_)
      rw [← HXx.out]
      clear HXx
      generalize wr.heap.size = bx at *
      go_upto_region 15 with (go_at_call 25; refine (HEx.out X HBX.out u i).mono ?_; rintro e w6 ⟨he, hb6⟩; rw [HX1.out] at he; subst he; have hk6 := blk_keep HKX.out hb6; have HK6 := Lib.hid hk6; clear p0 p1 p2 p3 p4 pl; obtain ⟨⟨p0, p1, p2, p3, p4⟩, pl⟩ := blk_five hk6; have HB6 := Lib.hid (HBX.out.trans (hb6.mono HBX.out.size)); clear hb6 hk6)
      obtain ⟨⟨s0, s1⟩, sl⟩ := blk_two (blk_keep HKa.out HB6.out)
      obtain ⟨⟨d0, d1⟩, dl⟩ := blk_two (blk_keep HKd.out HB6.out)
      obtain ⟨bq, hbq⟩ : ∃ bq, ((u : Int) == p && (i : Int) == q) = bq := ⟨_, rfl⟩
      have HBq := Lib.hid hbq
      clear hbq
      cases bq with
      | true =>
        have hpq : (u : Int) = p ∧ (i : Int) = q := by have := HBq.out; simpa using this
        obtain ⟨f1, f2, f3⟩ := HFx.out hpq.1 hpq.2
        have HMt : Hid (Pl.metAt p q (L.take (k + 1)) = true) := Lib.hid (by rw [HMs.out, decide_eq_true hpq, Bool.or_true])
        clear hpq
        have f4 := f3.symm
        clear f3
        subst f1 f2 f4
        have nbo : (bb != bb) = false := by simp
        go_upto_region 19 with (first
          | (refine wpList_bin (by rfl) .eql 29 29 _ _ (by rfl) (.agg #[.int .i64 u, .int .i64 i]) (.agg #[.int .i64 p, .int .i64 q]) _ (by rfl) (by rfl) (refs_eql_is _ _ u i p q true HBq.out _) ?_)
          | (refine wpList_bin (by rfl) .neq 29 29 _ _ (by rfl) (.agg #[.int .i64 x1, .int .i64 x2]) (.agg #[.int .i64 x1, .int .i64 x2]) _ (by rfl) (by rfl) (refs_neq_is _ _ x1 x2 x1 x2 false (by simp) _) ?_))
        have t1 := (HB6.out.cell (p := ⟨tb, o + u, none⟩) htb).trans HT1.out
        have lt1 : tb < w6.heap.size := Nat.lt_of_lt_of_le htb HB6.out.size
        have lr1 : r1 < w6.heap.size := Nat.lt_of_lt_of_le hr1 HB6.out.size
        obtain ⟨c0, c1, c2, c3, c4⟩ := (HA1.out.keep (HB6.out.block r1 hr1)).cells
        have HDR : Hid (∀ (wx : World) (x f : Nat), wx.drew.cell? ⟨x, f, none⟩ = wx.cell? ⟨x, f, none⟩) := Lib.hid fun _ _ _ => rfl
        have HPA : Hid (∀ (wx : World) (ob : Obj) (x f : Nat), x < wx.heap.size → (wx.alloc ob).cell? ⟨x, f, none⟩ = wx.cell? ⟨x, f, none⟩) := Lib.hid fun wx ob x f h => cell_past x wx ob f h
        go_region_held3 (fun w' => (∀ f : Nat, w'.cell? ⟨bx, f, none⟩ = w6.cell? ⟨bx, f, none⟩) ∧ (∀ f : Nat, w'.cell? ⟨tb, f, none⟩ = w6.cell? ⟨tb, f, none⟩) ∧ ∀ f : Nat, w'.cell? ⟨r1, f, none⟩ = w6.cell? ⟨r1, f, none⟩)
          ((refine ⟨?_, ?_, ?_⟩ <;> (intro f; iterate 8 (first
            | (with_reducible exact rfl)
            | (with_reducible refine (HDR.out _ _ _).trans ?_)
            | (with_reducible refine (HPA.out _ _ _ _ ?_).trans ?_; focus (first | omega | (simp; done) | (simp; omega)))
            | (with_reducible refine (cell_set5 ?_).trans ?_; focus omega)
            | skip))))
          (fail)
        obtain ⟨Y, hY⟩ : ∃ Y, Y = (w6.alloc (.cells #[.int .i64 z1.parent, .int .i64 z1.kind, .string z1.text, .slice rr1.ga z1.gaps.length rr1.gc, .slice rr1.da z1.kids.length rr1.dc] 47)).drew := ⟨_, rfl⟩
        have hby : Below w6.heap.size w6 Y := by rw [hY]; exact (below_11 w6 _).drew
        have HKr : Hid (Y.heap[w6.heap.size]? = some (.cells #[.int .i64 z1.parent, .int .i64 z1.kind, .string z1.text, .slice rr1.ga z1.gaps.length rr1.gc, .slice rr1.da z1.kids.length rr1.dc] 47 (0, 0))) := Lib.hid (by rw [hY]; exact heap_alloc_new w6 _)
        have HKx := Lib.hid (blk_keep HK6.out hby)
        have HBY := Lib.hid (HB6.out.trans (hby.mono HB6.out.size))
        rw [← hY]
        clear hY hby p0 p1 p2 p3 p4 pl t1 c0 c1 c2 c3 c4 lt1 lr1
        obtain ⟨⟨p0, p1, p2, p3, p4⟩, pl⟩ := blk_five HKx.out
        obtain ⟨⟨q0, q1, q2, q3, q4⟩, ql⟩ := blk_five HKr.out
        generalize w6.heap.size = br at *
        by_cases h19 : z1.kind = 19
        · have n19 := (int_yes h19).1
          have HV2 : Hid (Pl.inL (Pl.visible us u i) z1.text = bb) := Lib.hid (HVi.out (.inl h19))
          have nb : (bb != bb) = false := by simp
          clear h19 
          go_wp2_with fail
          refine wp_region_held_drew (S := (fun w' => (∀ f : Nat, w'.cell? ⟨bx, f, none⟩ = Y.cell? ⟨bx, f, none⟩) ∧ ∀ f : Nat, w'.cell? ⟨br, f, none⟩ = Y.cell? ⟨br, f, none⟩)) (by kernel_rfl) ⟨fun f => HDR.out _ _ _, fun f => HDR.out _ _ _⟩ (fun hHeld => ?_)
          refine wpAnyH_take (i := 0) (oi := { dst := some 71, op := Op.fieldAddr 47 (Operand.tmp 14) 1, type := 0, pos := "law.go:145", after := #[], guard := none }) (v := .pointer (some ⟨br, 1, none⟩)) rfl (by kernel_rfl) (by kernel_rfl) (by kernel_rfl) (fun _ _ _ h => h) (Or.inl ⟨by rfl, by intro w' hSw; go_simp⟩) (by assumption) ?_
          try simp only [Act.put, List.setIfInBounds_toArray, List.set_cons_zero, List.set_cons_succ]
          refine wpAnyH_take (i := 1) (oi := { dst := some 72, op := Op.load 3 (Operand.tmp 71), type := 3, pos := "law.go:145", after := #[{ on := 0, ground := Ground.data }], guard := none }) (v := .int .i64 z1.kind) rfl (by kernel_rfl) (by kernel_rfl) (by kernel_rfl) (fun _ _ _ h => h) (Or.inl ⟨by rfl, by intro w' hSw; go_simp⟩) (by assumption) ?_
          try simp only [Act.put, List.setIfInBounds_toArray, List.set_cons_zero, List.set_cons_succ]
          refine wpAnyH_take (i := 2) (oi := { dst := some 73, op := Op.binOp BinOp.eql 3 (Operand.tmp 72) (Operand.const (Value.int IntKind.i64 19)) 3, type := 4, pos := "law.go:145", after := #[{ on := 1, ground := Ground.data }], guard := none }) (v := .bool true) rfl (by kernel_rfl) (by kernel_rfl) (by kernel_rfl) (fun _ _ _ h => h) (Or.inl ⟨by rfl, by intro w' hSw; go_simp⟩) (by assumption) ?_
          try simp only [Act.put, List.setIfInBounds_toArray, List.set_cons_zero, List.set_cons_succ]
          refine wpAnyH_take (i := 3) (oi := { dst := some 74, op := Op.move (Operand.tmp 73), type := 4, pos := "law.go:145", after := #[{ on := 2, ground := Ground.data }], guard := none }) (v := .bool true) rfl (by kernel_rfl) (by kernel_rfl) (by kernel_rfl) (fun _ _ _ h => h) (Or.inl ⟨by rfl, by intro w' hSw; go_simp⟩) (by assumption) ?_
          try simp only [Act.put, List.setIfInBounds_toArray, List.set_cons_zero, List.set_cons_succ]
          refine wpAnyH_take (i := 4) (oi := { dst := some 75, op := Op.fieldAddr 47 (Operand.tmp 14) 1, type := 0, pos := "law.go:145", after := #[{ on := 3, ground := Ground.guard }], guard := some (3, false) }) (v := undef) rfl (by kernel_rfl) (by kernel_rfl) (by kernel_rfl) (fun _ _ _ h => h) (Or.inr ⟨by rfl, rfl⟩) (by assumption) ?_
          try simp only [Act.put, List.setIfInBounds_toArray, List.set_cons_zero, List.set_cons_succ]
          refine wpAnyH_take (i := 5) (oi := { dst := some 76, op := Op.load 3 (Operand.tmp 75), type := 3, pos := "law.go:145", after := #[{ on := 4, ground := Ground.data }, { on := 3, ground := Ground.guard }], guard := some (3, false) }) (v := undef) rfl (by kernel_rfl) (by kernel_rfl) (by kernel_rfl) (fun _ _ _ h => h) (Or.inr ⟨by rfl, rfl⟩) (by assumption) ?_
          try simp only [Act.put, List.setIfInBounds_toArray, List.set_cons_zero, List.set_cons_succ]
          refine wpAnyH_take (i := 6) (oi := { dst := some 77, op := Op.binOp BinOp.eql 3 (Operand.tmp 76) (Operand.const (Value.int IntKind.i64 11)) 3, type := 4, pos := "law.go:145", after := #[{ on := 5, ground := Ground.data }, { on := 3, ground := Ground.guard }], guard := some (3, false) }) (v := undef) rfl (by kernel_rfl) (by kernel_rfl) (by kernel_rfl) (fun _ _ _ h => h) (Or.inr ⟨by rfl, rfl⟩) (by assumption) ?_
          try simp only [Act.put, List.setIfInBounds_toArray, List.set_cons_zero, List.set_cons_succ]
          refine wpAnyH_take (i := 7) (oi := { dst := some 78, op := Op.pick (Operand.tmp 74) (Operand.const (Value.bool true)) (Operand.tmp 77), type := 4, pos := "law.go:145", after := #[{ on := 3, ground := Ground.data }, { on := 6, ground := Ground.data }], guard := none }) (v := .bool true) rfl (by kernel_rfl) (by kernel_rfl) (by kernel_rfl) (fun _ _ _ h => h) (Or.inl ⟨by rfl, by intro w' hSw; go_simp⟩) (by assumption) ?_
          try simp only [Act.put, List.setIfInBounds_toArray, List.set_cons_zero, List.set_cons_succ]
          refine wpAnyH_take (i := 8) (oi := { dst := some 79, op := Op.move (Operand.tmp 78), type := 4, pos := "law.go:145", after := #[{ on := 7, ground := Ground.data }, { on := 3, ground := Ground.chain }], guard := none }) (v := .bool true) rfl (by kernel_rfl) (by kernel_rfl) (by kernel_rfl) (fun _ _ _ h => h) (Or.inl ⟨by rfl, by intro w' hSw; go_simp⟩) (by assumption) ?_
          try simp only [Act.put, List.setIfInBounds_toArray, List.set_cons_zero, List.set_cons_succ]
          refine wpAnyH_take (i := 9) (oi := { dst := some 80, op := Op.move (Operand.tmp 0), type := 22, pos := "law.go:145", after := #[{ on := 8, ground := Ground.guard }], guard := some (8, true) }) (v := .slice a n c) rfl (by kernel_rfl) (by kernel_rfl) (by kernel_rfl) (fun _ _ _ h => h) (Or.inl ⟨by rfl, by intro w' hSw; go_simp⟩) (by assumption) ?_
          try simp only [Act.put, List.setIfInBounds_toArray, List.set_cons_zero, List.set_cons_succ]
          refine wpAnyH_take (i := 10) (oi := { dst := some 81, op := Op.fieldAddr 42 (Operand.tmp 13) 0, type := 0, pos := "law.go:145", after := #[{ on := 8, ground := Ground.guard }], guard := some (8, true) }) (v := .pointer (some ⟨bx, 0, none⟩)) rfl (by kernel_rfl) (by kernel_rfl) (by kernel_rfl) (fun _ _ _ h => h) (Or.inl ⟨by rfl, by intro w' hSw; go_simp⟩) (by assumption) ?_
          try simp only [Act.put, List.setIfInBounds_toArray, List.set_cons_zero, List.set_cons_succ]
          refine wpAnyH_take (i := 11) (oi := { dst := some 82, op := Op.load 29 (Operand.tmp 81), type := 29, pos := "law.go:145", after := #[{ on := 10, ground := Ground.data }, { on := 8, ground := Ground.guard }], guard := some (8, true) }) (v := .agg #[.int .i64 u, .int .i64 i]) rfl (by kernel_rfl) (by kernel_rfl) (by kernel_rfl) (fun _ _ _ h => h) (Or.inl ⟨by rfl, by intro w' hSw; go_simp⟩) (by assumption) ?_
          try simp only [Act.put, List.setIfInBounds_toArray, List.set_cons_zero, List.set_cons_succ]
          refine wpAnyH_take (i := 13) (oi := { dst := some 84, op := Op.fieldAddr 47 (Operand.tmp 14) 2, type := 0, pos := "law.go:145", after := #[{ on := 8, ground := Ground.guard }], guard := some (8, true) }) (v := .pointer (some ⟨br, 2, none⟩)) rfl (by kernel_rfl) (by kernel_rfl) (by kernel_rfl) (fun _ _ _ h => h) (Or.inl ⟨by rfl, by intro w' hSw; go_simp⟩) (by assumption) ?_
          try simp only [Act.put, List.setIfInBounds_toArray, List.set_cons_zero, List.set_cons_succ]
          refine wpAnyH_take (i := 14) (oi := { dst := some 85, op := Op.load 9 (Operand.tmp 84), type := 9, pos := "law.go:145", after := #[{ on := 13, ground := Ground.data }, { on := 8, ground := Ground.guard }], guard := some (8, true) }) (v := .string z1.text) rfl (by kernel_rfl) (by kernel_rfl) (by kernel_rfl) (fun _ _ _ h => h) (Or.inl ⟨by rfl, by intro w' hSw; go_simp⟩) (by assumption) ?_
          try simp only [Act.put, List.setIfInBounds_toArray, List.set_cons_zero, List.set_cons_succ]
          refine wpAnyH_take (i := 16) (oi := { dst := some 87, op := Op.fieldAddr 42 (Operand.tmp 13) 2, type := 0, pos := "law.go:145", after := #[{ on := 8, ground := Ground.guard }], guard := some (8, true) }) (v := .pointer (some ⟨bx, 4, none⟩)) rfl (by kernel_rfl) (by kernel_rfl) (by kernel_rfl) (fun _ _ _ h => h) (Or.inl ⟨by rfl, by intro w' hSw; go_simp⟩) (by assumption) ?_
          try simp only [Act.put, List.setIfInBounds_toArray, List.set_cons_zero, List.set_cons_succ]
          refine wpAnyH_take (i := 17) (oi := { dst := some 88, op := Op.load 4 (Operand.tmp 87), type := 4, pos := "law.go:145", after := #[{ on := 16, ground := Ground.data }, { on := 8, ground := Ground.guard }], guard := some (8, true) }) (v := .bool bb) rfl (by kernel_rfl) (by kernel_rfl) (by kernel_rfl) (fun _ _ _ h => h) (Or.inl ⟨by rfl, by intro w' hSw; go_simp⟩) (by assumption) ?_
          try simp only [Act.put, List.setIfInBounds_toArray, List.set_cons_zero, List.set_cons_succ]
          refine wpAnyH_ready (rs := [12]) (by kernel_rfl) (by simp) ?_
          refine AllReadyH.cons (o := { dst := some 83, op := Op.call { callee := Callee.value (Operand.func 17), args := #[Operand.tmp 80, Operand.tmp 82], argTypes := #[22, 29] }, type := 33, pos := "law.go:145", after := #[{ on := 9, ground := Ground.data }, { on := 11, ground := Ground.data }, { on := 8, ground := Ground.chain }, { on := 8, ground := Ground.guard }], guard := some (8, true) }) rfl (fun K hK => ?_) AllReadyH.nil
          go_simp
          go_at_call 17
          refine (HPv.out Y.drew (HBY.out.trans ((Below.refl Y.heap.size Y).drew.mono HBY.out.size)) u i).mono ?_
          rintro e w8 ⟨vv, rfl, hrv, hb8'⟩
          obtain ⟨va, vc, rfl, hvs⟩ := strs_of_reads hrv
          have hb8 : Below Y.heap.size Y w8 := (Below.refl Y.heap.size Y).drew.trans hb8'
          have HQ : Hid (∀ x f : Nat, x < Y.heap.size → w8.cell? ⟨x, f, none⟩ = Y.cell? ⟨x, f, none⟩) := Lib.hid (fun x f hx => hb8.cell (p := ⟨x, f, none⟩) hx)
          have HRd := Lib.hid hrv
          have HB8 := Lib.hid hb8
          clear hb8 hb8' hrv hvs
          refine hK.out _ _ ⟨fun f => HQ.out _ f pl, fun f => HQ.out _ f ql⟩ (fun hHeld8 => ?_)
          clear hK K hHeld
          try simp only [Act.put, List.setIfInBounds_toArray, List.set_cons_zero, List.set_cons_succ]
          refine wpAnyH_ready (rs := [15]) (by kernel_rfl) (by simp) ?_
          refine AllReadyH.cons (o := { dst := some 86, op := Op.call { callee := Callee.value (Operand.func 29), args := #[Operand.tmp 83, Operand.tmp 85], argTypes := #[33, 9] }, type := 4, pos := "law.go:145", after := #[{ on := 12, ground := Ground.data }, { on := 14, ground := Ground.data }, { on := 12, ground := Ground.chain }, { on := 8, ground := Ground.guard }], guard := some (8, true) }) rfl (fun K hK => ?_) AllReadyH.nil
          go_simp
          go_at_call 29
          refine (rhas_is _ _ _ bb HV2.out w8 HRd.out).mono ?_
          rintro e w9 ⟨rfl, rfl⟩
          refine hK.out _ _ hHeld8 (fun hHeld9 => ?_)
          clear hK K hHeld8
          try simp only [Act.put, List.setIfInBounds_toArray, List.set_cons_zero, List.set_cons_succ]
          refine wpAnyH_take (i := 18) (oi := { dst := some 89, op := Op.binOp BinOp.neq 4 (Operand.tmp 86) (Operand.tmp 88) 4, type := 4, pos := "law.go:145", after := #[{ on := 15, ground := Ground.data }, { on := 17, ground := Ground.data }, { on := 8, ground := Ground.guard }], guard := some (8, true) }) (v := .bool false) rfl (by kernel_rfl) (by kernel_rfl) (by kernel_rfl) (fun _ _ _ h => h) (Or.inl ⟨by rfl, by intro w' hSw; go_simp⟩) (by assumption) ?_
          try simp only [Act.put, List.setIfInBounds_toArray, List.set_cons_zero, List.set_cons_succ]
          refine wpAnyH_take (i := 19) (oi := { dst := some 90, op := Op.pick (Operand.tmp 79) (Operand.tmp 89) (Operand.const (Value.bool false)), type := 4, pos := "law.go:145", after := #[{ on := 8, ground := Ground.data }, { on := 18, ground := Ground.data }], guard := none }) (v := .bool false) rfl (by kernel_rfl) (by kernel_rfl) (by kernel_rfl) (fun _ _ _ h => h) (Or.inl ⟨by rfl, by intro w' hSw; go_simp⟩) (by assumption) ?_
          try simp only [Act.put, List.setIfInBounds_toArray, List.set_cons_zero, List.set_cons_succ]
          refine wpAnyH_done (by kernel_rfl) ?_ _
          clear hHeld9 p0 p1 p2 p3 p4 pl q0 q1 q2 q3 q4 ql
          obtain ⟨⟨p0, p1, p2, p3, p4⟩, pl⟩ := blk_five (blk_keep HKx.out HB8.out)
          have HBZ : Hid (Below V.heap.size V w8) := Lib.hid (HBY.out.trans (HB8.out.mono HBY.out.size))
          cases bb with
          | true =>
            go_wp2_with fail
            exact ⟨⟨k + 1, by omega, by go_num, by rw [HUl.out]; rfl, by rw [HMt.out], HBZ.out⟩, by simp [intOf]; omega⟩
          | false =>
            have hnx := HNx.out rfl
            have hlt0 := (List.getElem?_eq_some_iff.1 hnx).1
            rw [← HN.out] at hlt0
            obtain ⟨nb0, no0, rfl, hnb, hrn⟩ := HNo.out.one hnx
            have m0 := (HBZ.out.cell (p := ⟨nb0, no0 + e0 * 2, none⟩) hnb).trans (hrn 0 _ rfl)
            have m1 := (HBZ.out.cell (p := ⟨nb0, no0 + e0 * 2 + 1, none⟩) hnb).trans (hrn 1 _ rfl)
            have b0 : (0 : Int) ≤ (e0 : Int) := Int.natCast_nonneg _
            have b1 : (e0 : Int) < (N : Int) := by omega
            have b2 : decide ((N : Int) ≤ (e0 : Int)) = false := decide_eq_false (by omega)
            have b3 : decide (N ≤ e0) = false := decide_eq_false (by omega)
            clear hnx hrn
            go_wp2_with fail
            refine wp_region_quiet_lit (by kernel_rfl) (by kernel_rfl) ?_
            iterate 11 (go_big_quiet_step (fail))
            refine quiet_bin (by rfl) .neq 29 29 _ _ (by rfl) (.agg #[.int .i64 u, .int .i64 i]) (.agg #[.int .i64 u, .int .i64 i]) _ (by rfl) (by rfl) (fun ux hux => refs_neq_is _ _ u i u i false (by simp) ux) ?_
            simp only [Act.put, List.setIfInBounds_toArray, List.set_cons_succ, List.set_cons_zero]
            iterate 1 (go_big_quiet_step (fail))
            refine wpQuiet_nil ?_
            intro _ hw'
            obtain ⟨nr, rfl⟩ := hw'
            go_wp2_with fail
            exact ⟨⟨k + 1, by omega, by go_num, by rw [HUl.out]; go_num, by rw [HMt.out], HBZ.out.trans ((below_drewN _ nr).mono HBZ.out.size)⟩, by simp [intOf]; omega⟩
        · have n19 := (int_no h19).1
          by_cases h11 : z1.kind = 11
          · have n11 := (int_yes h11).1
            have HV2 : Hid (Pl.inL (Pl.visible us u i) z1.text = bb) := Lib.hid (HVi.out (.inr h11))
            have nb : (bb != bb) = false := by simp
            clear h19 h11
            go_wp2_with fail
            go_region_held3 (fun w' => (∀ f : Nat, w'.cell? ⟨bx, f, none⟩ = Y.cell? ⟨bx, f, none⟩) ∧ ∀ f : Nat, w'.cell? ⟨br, f, none⟩ = Y.cell? ⟨br, f, none⟩)
              ((refine ⟨?_, ?_⟩ <;> (intro f; iterate 4 (first
                | (with_reducible exact rfl)
                | (with_reducible exact HQ.out _ f pl)
                | (with_reducible exact HQ.out _ f ql)
                | (with_reducible refine (HDR.out _ _ _).trans ?_)
                | skip))))
              ((first
                | (go_at_call 17; refine (HPv.out Y.drew (HBY.out.trans ((Below.refl Y.heap.size Y).drew.mono HBY.out.size)) u i).mono ?_; rintro e w8 ⟨vv, rfl, hrv, hb8'⟩; obtain ⟨va, vc, rfl, hvs⟩ := strs_of_reads hrv;
                   have hb8 : Below Y.heap.size Y w8 := (Below.refl Y.heap.size Y).drew.trans hb8';
                   have HQ : Hid (∀ x f : Nat, x < Y.heap.size → w8.cell? ⟨x, f, none⟩ = Y.cell? ⟨x, f, none⟩) := Lib.hid (fun x f hx => hb8.cell (p := ⟨x, f, none⟩) hx);
                   have HRd := Lib.hid hrv; have HB8 := Lib.hid hb8; clear hb8 hb8' hrv hvs)
                | (go_at_call 29; refine (rhas_is _ _ _ bb HV2.out w8 HRd.out).mono ?_; rintro e w9 ⟨rfl, rfl⟩)))
            have HBZ : Hid (Below V.heap.size V w8) := Lib.hid (HBY.out.trans (HB8.out.mono HBY.out.size))
            cases bb with
            | true =>
              go_wp2_with fail
              exact ⟨⟨k + 1, by omega, by go_num, by rw [HUl.out]; rfl, by rw [HMt.out], HBZ.out⟩, by simp [intOf]; omega⟩
            | false =>
              have hnx := HNx.out rfl
              have hlt0 := (List.getElem?_eq_some_iff.1 hnx).1
              rw [← HN.out] at hlt0
              obtain ⟨nb0, no0, rfl, hnb, hrn⟩ := HNo.out.one hnx
              have m0 := (HBZ.out.cell (p := ⟨nb0, no0 + e0 * 2, none⟩) hnb).trans (hrn 0 _ rfl)
              have m1 := (HBZ.out.cell (p := ⟨nb0, no0 + e0 * 2 + 1, none⟩) hnb).trans (hrn 1 _ rfl)
              have b0 : (0 : Int) ≤ (e0 : Int) := Int.natCast_nonneg _
              have b1 : (e0 : Int) < (N : Int) := by omega
              have b2 : decide ((N : Int) ≤ (e0 : Int)) = false := decide_eq_false (by omega)
              have b3 : decide (N ≤ e0) = false := decide_eq_false (by omega)
              clear hnx hrn
              go_wp2_with fail
              refine wp_region_quiet_lit (by kernel_rfl) (by kernel_rfl) ?_
              iterate 11 (go_big_quiet_step (fail))
              refine quiet_bin (by rfl) .neq 29 29 _ _ (by rfl) (.agg #[.int .i64 u, .int .i64 i]) (.agg #[.int .i64 u, .int .i64 i]) _ (by rfl) (by rfl) (fun ux hux => refs_neq_is _ _ u i u i false (by simp) ux) ?_
              simp only [Act.put, List.setIfInBounds_toArray, List.set_cons_succ, List.set_cons_zero]
              iterate 1 (go_big_quiet_step (fail))
              refine wpQuiet_nil ?_
              intro _ hw'
              obtain ⟨nr, rfl⟩ := hw'
              go_wp2_with fail
              exact ⟨⟨k + 1, by omega, by go_num, by rw [HUl.out]; go_num, by rw [HMt.out], HBZ.out.trans ((below_drewN _ nr).mono HBZ.out.size)⟩, by simp [intOf]; omega⟩
          · have n11 := (int_no h11).1
            clear h19 h11
            go_wp2_with fail
            go_quiet (fail)
            obtain ⟨w8, hw8⟩ : ∃ x, x = Y.drewN nq := ⟨_, rfl⟩
            rw [← hw8]
            have HB8 : Hid (Below Y.heap.size Y w8) := Lib.hid (by rw [hw8]; exact below_drewN Y nq)
            clear hw8 p0 p1 p2 p3 p4 pl q0 q1 q2 q3 q4 ql
            obtain ⟨⟨p0, p1, p2, p3, p4⟩, pl⟩ := blk_five (blk_keep HKx.out HB8.out)
            have HBZ : Hid (Below V.heap.size V w8) := Lib.hid (HBY.out.trans (HB8.out.mono HBY.out.size))
            cases bb with
            | true =>
              go_wp2_with fail
              exact ⟨⟨k + 1, by omega, by go_num, by rw [HUl.out]; rfl, by rw [HMt.out], HBZ.out⟩, by simp [intOf]; omega⟩
            | false =>
              have hnx := HNx.out rfl
              have hlt0 := (List.getElem?_eq_some_iff.1 hnx).1
              rw [← HN.out] at hlt0
              obtain ⟨nb0, no0, rfl, hnb, hrn⟩ := HNo.out.one hnx
              have m0 := (HBZ.out.cell (p := ⟨nb0, no0 + e0 * 2, none⟩) hnb).trans (hrn 0 _ rfl)
              have m1 := (HBZ.out.cell (p := ⟨nb0, no0 + e0 * 2 + 1, none⟩) hnb).trans (hrn 1 _ rfl)
              have b0 : (0 : Int) ≤ (e0 : Int) := Int.natCast_nonneg _
              have b1 : (e0 : Int) < (N : Int) := by omega
              have b2 : decide ((N : Int) ≤ (e0 : Int)) = false := decide_eq_false (by omega)
              have b3 : decide (N ≤ e0) = false := decide_eq_false (by omega)
              clear hnx hrn
              go_wp2_with fail
              refine wp_region_quiet_lit (by kernel_rfl) (by kernel_rfl) ?_
              iterate 11 (go_big_quiet_step (fail))
              refine quiet_bin (by rfl) .neq 29 29 _ _ (by rfl) (.agg #[.int .i64 u, .int .i64 i]) (.agg #[.int .i64 u, .int .i64 i]) _ (by rfl) (by rfl) (fun ux hux => refs_neq_is _ _ u i u i false (by simp) ux) ?_
              simp only [Act.put, List.setIfInBounds_toArray, List.set_cons_succ, List.set_cons_zero]
              iterate 1 (go_big_quiet_step (fail))
              refine wpQuiet_nil ?_
              intro _ hw'
              obtain ⟨nr, rfl⟩ := hw'
              go_wp2_with fail
              exact ⟨⟨k + 1, by omega, by go_num, by rw [HUl.out]; go_num, by rw [HMt.out], HBZ.out.trans ((below_drewN _ nr).mono HBZ.out.size)⟩, by simp [intOf]; omega⟩
      | false =>
        have hpq : ¬ ((u : Int) = p ∧ (i : Int) = q) := by have := HBq.out; simpa using this
        have HMt : Hid (Pl.metAt p q (L.take (k + 1)) = mb0) := Lib.hid (by rw [HMs.out, decide_eq_false hpq, Bool.or_false])
        clear hpq
        go_upto_region 19 with (refine wpList_bin (by rfl) .eql 29 29 _ _ (by rfl) (.agg #[.int .i64 u, .int .i64 i]) (.agg #[.int .i64 p, .int .i64 q]) _ (by rfl) (by rfl) (refs_eql_is _ _ u i p q false HBq.out _) ?_)
        have t1 := (HB6.out.cell (p := ⟨tb, o + u, none⟩) htb).trans HT1.out
        have lt1 : tb < w6.heap.size := Nat.lt_of_lt_of_le htb HB6.out.size
        have lr1 : r1 < w6.heap.size := Nat.lt_of_lt_of_le hr1 HB6.out.size
        obtain ⟨c0, c1, c2, c3, c4⟩ := (HA1.out.keep (HB6.out.block r1 hr1)).cells
        have HDR : Hid (∀ (wx : World) (x f : Nat), wx.drew.cell? ⟨x, f, none⟩ = wx.cell? ⟨x, f, none⟩) := Lib.hid fun _ _ _ => rfl
        have HPA : Hid (∀ (wx : World) (ob : Obj) (x f : Nat), x < wx.heap.size → (wx.alloc ob).cell? ⟨x, f, none⟩ = wx.cell? ⟨x, f, none⟩) := Lib.hid fun wx ob x f h => cell_past x wx ob f h
        go_region_held3 (fun w' => (∀ f : Nat, w'.cell? ⟨bx, f, none⟩ = w6.cell? ⟨bx, f, none⟩) ∧ (∀ f : Nat, w'.cell? ⟨tb, f, none⟩ = w6.cell? ⟨tb, f, none⟩) ∧ ∀ f : Nat, w'.cell? ⟨r1, f, none⟩ = w6.cell? ⟨r1, f, none⟩)
          ((refine ⟨?_, ?_, ?_⟩ <;> (intro f; iterate 8 (first
            | (with_reducible exact rfl)
            | (with_reducible refine (HDR.out _ _ _).trans ?_)
            | (with_reducible refine (HPA.out _ _ _ _ ?_).trans ?_; focus (first | omega | (simp; done) | (simp; omega)))
            | (with_reducible refine (cell_set5 ?_).trans ?_; focus omega)
            | skip))))
          (fail)
        obtain ⟨Y, hY⟩ : ∃ Y, Y = (w6.alloc (.cells #[.int .i64 z1.parent, .int .i64 z1.kind, .string z1.text, .slice rr1.ga z1.gaps.length rr1.gc, .slice rr1.da z1.kids.length rr1.dc] 47)).drew := ⟨_, rfl⟩
        have hby : Below w6.heap.size w6 Y := by rw [hY]; exact (below_11 w6 _).drew
        have HKr : Hid (Y.heap[w6.heap.size]? = some (.cells #[.int .i64 z1.parent, .int .i64 z1.kind, .string z1.text, .slice rr1.ga z1.gaps.length rr1.gc, .slice rr1.da z1.kids.length rr1.dc] 47 (0, 0))) := Lib.hid (by rw [hY]; exact heap_alloc_new w6 _)
        have HKx := Lib.hid (blk_keep HK6.out hby)
        have HBY := Lib.hid (HB6.out.trans (hby.mono HB6.out.size))
        rw [← hY]
        clear hY hby p0 p1 p2 p3 p4 pl t1 c0 c1 c2 c3 c4 lt1 lr1
        obtain ⟨⟨p0, p1, p2, p3, p4⟩, pl⟩ := blk_five HKx.out
        obtain ⟨⟨q0, q1, q2, q3, q4⟩, ql⟩ := blk_five HKr.out
        generalize w6.heap.size = br at *
        by_cases h19 : z1.kind = 19
        · have n19 := (int_yes h19).1
          have HV2 : Hid (Pl.inL (Pl.visible us u i) z1.text = bb) := Lib.hid (HVi.out (.inl h19))
          have nb : (bb != bb) = false := by simp
          clear h19 
          go_wp2_with fail
          refine wp_region_held_drew (S := (fun w' => (∀ f : Nat, w'.cell? ⟨bx, f, none⟩ = Y.cell? ⟨bx, f, none⟩) ∧ ∀ f : Nat, w'.cell? ⟨br, f, none⟩ = Y.cell? ⟨br, f, none⟩)) (by kernel_rfl) ⟨fun f => HDR.out _ _ _, fun f => HDR.out _ _ _⟩ (fun hHeld => ?_)
          refine wpAnyH_take (i := 0) (oi := { dst := some 71, op := Op.fieldAddr 47 (Operand.tmp 14) 1, type := 0, pos := "law.go:145", after := #[], guard := none }) (v := .pointer (some ⟨br, 1, none⟩)) rfl (by kernel_rfl) (by kernel_rfl) (by kernel_rfl) (fun _ _ _ h => h) (Or.inl ⟨by rfl, by intro w' hSw; go_simp⟩) (by assumption) ?_
          try simp only [Act.put, List.setIfInBounds_toArray, List.set_cons_zero, List.set_cons_succ]
          refine wpAnyH_take (i := 1) (oi := { dst := some 72, op := Op.load 3 (Operand.tmp 71), type := 3, pos := "law.go:145", after := #[{ on := 0, ground := Ground.data }], guard := none }) (v := .int .i64 z1.kind) rfl (by kernel_rfl) (by kernel_rfl) (by kernel_rfl) (fun _ _ _ h => h) (Or.inl ⟨by rfl, by intro w' hSw; go_simp⟩) (by assumption) ?_
          try simp only [Act.put, List.setIfInBounds_toArray, List.set_cons_zero, List.set_cons_succ]
          refine wpAnyH_take (i := 2) (oi := { dst := some 73, op := Op.binOp BinOp.eql 3 (Operand.tmp 72) (Operand.const (Value.int IntKind.i64 19)) 3, type := 4, pos := "law.go:145", after := #[{ on := 1, ground := Ground.data }], guard := none }) (v := .bool true) rfl (by kernel_rfl) (by kernel_rfl) (by kernel_rfl) (fun _ _ _ h => h) (Or.inl ⟨by rfl, by intro w' hSw; go_simp⟩) (by assumption) ?_
          try simp only [Act.put, List.setIfInBounds_toArray, List.set_cons_zero, List.set_cons_succ]
          refine wpAnyH_take (i := 3) (oi := { dst := some 74, op := Op.move (Operand.tmp 73), type := 4, pos := "law.go:145", after := #[{ on := 2, ground := Ground.data }], guard := none }) (v := .bool true) rfl (by kernel_rfl) (by kernel_rfl) (by kernel_rfl) (fun _ _ _ h => h) (Or.inl ⟨by rfl, by intro w' hSw; go_simp⟩) (by assumption) ?_
          try simp only [Act.put, List.setIfInBounds_toArray, List.set_cons_zero, List.set_cons_succ]
          refine wpAnyH_take (i := 4) (oi := { dst := some 75, op := Op.fieldAddr 47 (Operand.tmp 14) 1, type := 0, pos := "law.go:145", after := #[{ on := 3, ground := Ground.guard }], guard := some (3, false) }) (v := undef) rfl (by kernel_rfl) (by kernel_rfl) (by kernel_rfl) (fun _ _ _ h => h) (Or.inr ⟨by rfl, rfl⟩) (by assumption) ?_
          try simp only [Act.put, List.setIfInBounds_toArray, List.set_cons_zero, List.set_cons_succ]
          refine wpAnyH_take (i := 5) (oi := { dst := some 76, op := Op.load 3 (Operand.tmp 75), type := 3, pos := "law.go:145", after := #[{ on := 4, ground := Ground.data }, { on := 3, ground := Ground.guard }], guard := some (3, false) }) (v := undef) rfl (by kernel_rfl) (by kernel_rfl) (by kernel_rfl) (fun _ _ _ h => h) (Or.inr ⟨by rfl, rfl⟩) (by assumption) ?_
          try simp only [Act.put, List.setIfInBounds_toArray, List.set_cons_zero, List.set_cons_succ]
          refine wpAnyH_take (i := 6) (oi := { dst := some 77, op := Op.binOp BinOp.eql 3 (Operand.tmp 76) (Operand.const (Value.int IntKind.i64 11)) 3, type := 4, pos := "law.go:145", after := #[{ on := 5, ground := Ground.data }, { on := 3, ground := Ground.guard }], guard := some (3, false) }) (v := undef) rfl (by kernel_rfl) (by kernel_rfl) (by kernel_rfl) (fun _ _ _ h => h) (Or.inr ⟨by rfl, rfl⟩) (by assumption) ?_
          try simp only [Act.put, List.setIfInBounds_toArray, List.set_cons_zero, List.set_cons_succ]
          refine wpAnyH_take (i := 7) (oi := { dst := some 78, op := Op.pick (Operand.tmp 74) (Operand.const (Value.bool true)) (Operand.tmp 77), type := 4, pos := "law.go:145", after := #[{ on := 3, ground := Ground.data }, { on := 6, ground := Ground.data }], guard := none }) (v := .bool true) rfl (by kernel_rfl) (by kernel_rfl) (by kernel_rfl) (fun _ _ _ h => h) (Or.inl ⟨by rfl, by intro w' hSw; go_simp⟩) (by assumption) ?_
          try simp only [Act.put, List.setIfInBounds_toArray, List.set_cons_zero, List.set_cons_succ]
          refine wpAnyH_take (i := 8) (oi := { dst := some 79, op := Op.move (Operand.tmp 78), type := 4, pos := "law.go:145", after := #[{ on := 7, ground := Ground.data }, { on := 3, ground := Ground.chain }], guard := none }) (v := .bool true) rfl (by kernel_rfl) (by kernel_rfl) (by kernel_rfl) (fun _ _ _ h => h) (Or.inl ⟨by rfl, by intro w' hSw; go_simp⟩) (by assumption) ?_
          try simp only [Act.put, List.setIfInBounds_toArray, List.set_cons_zero, List.set_cons_succ]
          refine wpAnyH_take (i := 9) (oi := { dst := some 80, op := Op.move (Operand.tmp 0), type := 22, pos := "law.go:145", after := #[{ on := 8, ground := Ground.guard }], guard := some (8, true) }) (v := .slice a n c) rfl (by kernel_rfl) (by kernel_rfl) (by kernel_rfl) (fun _ _ _ h => h) (Or.inl ⟨by rfl, by intro w' hSw; go_simp⟩) (by assumption) ?_
          try simp only [Act.put, List.setIfInBounds_toArray, List.set_cons_zero, List.set_cons_succ]
          refine wpAnyH_take (i := 10) (oi := { dst := some 81, op := Op.fieldAddr 42 (Operand.tmp 13) 0, type := 0, pos := "law.go:145", after := #[{ on := 8, ground := Ground.guard }], guard := some (8, true) }) (v := .pointer (some ⟨bx, 0, none⟩)) rfl (by kernel_rfl) (by kernel_rfl) (by kernel_rfl) (fun _ _ _ h => h) (Or.inl ⟨by rfl, by intro w' hSw; go_simp⟩) (by assumption) ?_
          try simp only [Act.put, List.setIfInBounds_toArray, List.set_cons_zero, List.set_cons_succ]
          refine wpAnyH_take (i := 11) (oi := { dst := some 82, op := Op.load 29 (Operand.tmp 81), type := 29, pos := "law.go:145", after := #[{ on := 10, ground := Ground.data }, { on := 8, ground := Ground.guard }], guard := some (8, true) }) (v := .agg #[.int .i64 u, .int .i64 i]) rfl (by kernel_rfl) (by kernel_rfl) (by kernel_rfl) (fun _ _ _ h => h) (Or.inl ⟨by rfl, by intro w' hSw; go_simp⟩) (by assumption) ?_
          try simp only [Act.put, List.setIfInBounds_toArray, List.set_cons_zero, List.set_cons_succ]
          refine wpAnyH_take (i := 13) (oi := { dst := some 84, op := Op.fieldAddr 47 (Operand.tmp 14) 2, type := 0, pos := "law.go:145", after := #[{ on := 8, ground := Ground.guard }], guard := some (8, true) }) (v := .pointer (some ⟨br, 2, none⟩)) rfl (by kernel_rfl) (by kernel_rfl) (by kernel_rfl) (fun _ _ _ h => h) (Or.inl ⟨by rfl, by intro w' hSw; go_simp⟩) (by assumption) ?_
          try simp only [Act.put, List.setIfInBounds_toArray, List.set_cons_zero, List.set_cons_succ]
          refine wpAnyH_take (i := 14) (oi := { dst := some 85, op := Op.load 9 (Operand.tmp 84), type := 9, pos := "law.go:145", after := #[{ on := 13, ground := Ground.data }, { on := 8, ground := Ground.guard }], guard := some (8, true) }) (v := .string z1.text) rfl (by kernel_rfl) (by kernel_rfl) (by kernel_rfl) (fun _ _ _ h => h) (Or.inl ⟨by rfl, by intro w' hSw; go_simp⟩) (by assumption) ?_
          try simp only [Act.put, List.setIfInBounds_toArray, List.set_cons_zero, List.set_cons_succ]
          refine wpAnyH_take (i := 16) (oi := { dst := some 87, op := Op.fieldAddr 42 (Operand.tmp 13) 2, type := 0, pos := "law.go:145", after := #[{ on := 8, ground := Ground.guard }], guard := some (8, true) }) (v := .pointer (some ⟨bx, 4, none⟩)) rfl (by kernel_rfl) (by kernel_rfl) (by kernel_rfl) (fun _ _ _ h => h) (Or.inl ⟨by rfl, by intro w' hSw; go_simp⟩) (by assumption) ?_
          try simp only [Act.put, List.setIfInBounds_toArray, List.set_cons_zero, List.set_cons_succ]
          refine wpAnyH_take (i := 17) (oi := { dst := some 88, op := Op.load 4 (Operand.tmp 87), type := 4, pos := "law.go:145", after := #[{ on := 16, ground := Ground.data }, { on := 8, ground := Ground.guard }], guard := some (8, true) }) (v := .bool bb) rfl (by kernel_rfl) (by kernel_rfl) (by kernel_rfl) (fun _ _ _ h => h) (Or.inl ⟨by rfl, by intro w' hSw; go_simp⟩) (by assumption) ?_
          try simp only [Act.put, List.setIfInBounds_toArray, List.set_cons_zero, List.set_cons_succ]
          refine wpAnyH_ready (rs := [12]) (by kernel_rfl) (by simp) ?_
          refine AllReadyH.cons (o := { dst := some 83, op := Op.call { callee := Callee.value (Operand.func 17), args := #[Operand.tmp 80, Operand.tmp 82], argTypes := #[22, 29] }, type := 33, pos := "law.go:145", after := #[{ on := 9, ground := Ground.data }, { on := 11, ground := Ground.data }, { on := 8, ground := Ground.chain }, { on := 8, ground := Ground.guard }], guard := some (8, true) }) rfl (fun K hK => ?_) AllReadyH.nil
          go_simp
          go_at_call 17
          refine (HPv.out Y.drew (HBY.out.trans ((Below.refl Y.heap.size Y).drew.mono HBY.out.size)) u i).mono ?_
          rintro e w8 ⟨vv, rfl, hrv, hb8'⟩
          obtain ⟨va, vc, rfl, hvs⟩ := strs_of_reads hrv
          have hb8 : Below Y.heap.size Y w8 := (Below.refl Y.heap.size Y).drew.trans hb8'
          have HQ : Hid (∀ x f : Nat, x < Y.heap.size → w8.cell? ⟨x, f, none⟩ = Y.cell? ⟨x, f, none⟩) := Lib.hid (fun x f hx => hb8.cell (p := ⟨x, f, none⟩) hx)
          have HRd := Lib.hid hrv
          have HB8 := Lib.hid hb8
          clear hb8 hb8' hrv hvs
          refine hK.out _ _ ⟨fun f => HQ.out _ f pl, fun f => HQ.out _ f ql⟩ (fun hHeld8 => ?_)
          clear hK K hHeld
          try simp only [Act.put, List.setIfInBounds_toArray, List.set_cons_zero, List.set_cons_succ]
          refine wpAnyH_ready (rs := [15]) (by kernel_rfl) (by simp) ?_
          refine AllReadyH.cons (o := { dst := some 86, op := Op.call { callee := Callee.value (Operand.func 29), args := #[Operand.tmp 83, Operand.tmp 85], argTypes := #[33, 9] }, type := 4, pos := "law.go:145", after := #[{ on := 12, ground := Ground.data }, { on := 14, ground := Ground.data }, { on := 12, ground := Ground.chain }, { on := 8, ground := Ground.guard }], guard := some (8, true) }) rfl (fun K hK => ?_) AllReadyH.nil
          go_simp
          go_at_call 29
          refine (rhas_is _ _ _ bb HV2.out w8 HRd.out).mono ?_
          rintro e w9 ⟨rfl, rfl⟩
          refine hK.out _ _ hHeld8 (fun hHeld9 => ?_)
          clear hK K hHeld8
          try simp only [Act.put, List.setIfInBounds_toArray, List.set_cons_zero, List.set_cons_succ]
          refine wpAnyH_take (i := 18) (oi := { dst := some 89, op := Op.binOp BinOp.neq 4 (Operand.tmp 86) (Operand.tmp 88) 4, type := 4, pos := "law.go:145", after := #[{ on := 15, ground := Ground.data }, { on := 17, ground := Ground.data }, { on := 8, ground := Ground.guard }], guard := some (8, true) }) (v := .bool false) rfl (by kernel_rfl) (by kernel_rfl) (by kernel_rfl) (fun _ _ _ h => h) (Or.inl ⟨by rfl, by intro w' hSw; go_simp⟩) (by assumption) ?_
          try simp only [Act.put, List.setIfInBounds_toArray, List.set_cons_zero, List.set_cons_succ]
          refine wpAnyH_take (i := 19) (oi := { dst := some 90, op := Op.pick (Operand.tmp 79) (Operand.tmp 89) (Operand.const (Value.bool false)), type := 4, pos := "law.go:145", after := #[{ on := 8, ground := Ground.data }, { on := 18, ground := Ground.data }], guard := none }) (v := .bool false) rfl (by kernel_rfl) (by kernel_rfl) (by kernel_rfl) (fun _ _ _ h => h) (Or.inl ⟨by rfl, by intro w' hSw; go_simp⟩) (by assumption) ?_
          try simp only [Act.put, List.setIfInBounds_toArray, List.set_cons_zero, List.set_cons_succ]
          refine wpAnyH_done (by kernel_rfl) ?_ _
          clear hHeld9 p0 p1 p2 p3 p4 pl q0 q1 q2 q3 q4 ql
          obtain ⟨⟨p0, p1, p2, p3, p4⟩, pl⟩ := blk_five (blk_keep HKx.out HB8.out)
          have HBZ : Hid (Below V.heap.size V w8) := Lib.hid (HBY.out.trans (HB8.out.mono HBY.out.size))
          cases bb with
          | true =>
            go_wp2_with fail
            exact ⟨⟨k + 1, by omega, by go_num, by rw [HUl.out]; rfl, by rw [HMt.out], HBZ.out⟩, by simp [intOf]; omega⟩
          | false =>
            have hnx := HNx.out rfl
            have hlt0 := (List.getElem?_eq_some_iff.1 hnx).1
            rw [← HN.out] at hlt0
            obtain ⟨nb0, no0, rfl, hnb, hrn⟩ := HNo.out.one hnx
            have m0 := (HBZ.out.cell (p := ⟨nb0, no0 + e0 * 2, none⟩) hnb).trans (hrn 0 _ rfl)
            have m1 := (HBZ.out.cell (p := ⟨nb0, no0 + e0 * 2 + 1, none⟩) hnb).trans (hrn 1 _ rfl)
            have b0 : (0 : Int) ≤ (e0 : Int) := Int.natCast_nonneg _
            have b1 : (e0 : Int) < (N : Int) := by omega
            have b2 : decide ((N : Int) ≤ (e0 : Int)) = false := decide_eq_false (by omega)
            have b3 : decide (N ≤ e0) = false := decide_eq_false (by omega)
            clear hnx hrn
            go_wp2_with fail
            refine wp_region_quiet_lit (by kernel_rfl) (by kernel_rfl) ?_
            iterate 11 (go_big_quiet_step (fail))
            refine quiet_bin (by rfl) .neq 29 29 _ _ (by rfl) (.agg #[.int .i64 u, .int .i64 i]) (.agg #[.int .i64 u, .int .i64 i]) _ (by rfl) (by rfl) (fun ux hux => refs_neq_is _ _ u i u i false (by simp) ux) ?_
            simp only [Act.put, List.setIfInBounds_toArray, List.set_cons_succ, List.set_cons_zero]
            iterate 1 (go_big_quiet_step (fail))
            refine wpQuiet_nil ?_
            intro _ hw'
            obtain ⟨nr, rfl⟩ := hw'
            go_wp2_with fail
            exact ⟨⟨k + 1, by omega, by go_num, by rw [HUl.out]; go_num, by rw [HMt.out], HBZ.out.trans ((below_drewN _ nr).mono HBZ.out.size)⟩, by simp [intOf]; omega⟩
        · have n19 := (int_no h19).1
          by_cases h11 : z1.kind = 11
          · have n11 := (int_yes h11).1
            have HV2 : Hid (Pl.inL (Pl.visible us u i) z1.text = bb) := Lib.hid (HVi.out (.inr h11))
            have nb : (bb != bb) = false := by simp
            clear h19 h11
            go_wp2_with fail
            go_region_held3 (fun w' => (∀ f : Nat, w'.cell? ⟨bx, f, none⟩ = Y.cell? ⟨bx, f, none⟩) ∧ ∀ f : Nat, w'.cell? ⟨br, f, none⟩ = Y.cell? ⟨br, f, none⟩)
              ((refine ⟨?_, ?_⟩ <;> (intro f; iterate 4 (first
                | (with_reducible exact rfl)
                | (with_reducible exact HQ.out _ f pl)
                | (with_reducible exact HQ.out _ f ql)
                | (with_reducible refine (HDR.out _ _ _).trans ?_)
                | skip))))
              ((first
                | (go_at_call 17; refine (HPv.out Y.drew (HBY.out.trans ((Below.refl Y.heap.size Y).drew.mono HBY.out.size)) u i).mono ?_; rintro e w8 ⟨vv, rfl, hrv, hb8'⟩; obtain ⟨va, vc, rfl, hvs⟩ := strs_of_reads hrv;
                   have hb8 : Below Y.heap.size Y w8 := (Below.refl Y.heap.size Y).drew.trans hb8';
                   have HQ : Hid (∀ x f : Nat, x < Y.heap.size → w8.cell? ⟨x, f, none⟩ = Y.cell? ⟨x, f, none⟩) := Lib.hid (fun x f hx => hb8.cell (p := ⟨x, f, none⟩) hx);
                   have HRd := Lib.hid hrv; have HB8 := Lib.hid hb8; clear hb8 hb8' hrv hvs)
                | (go_at_call 29; refine (rhas_is _ _ _ bb HV2.out w8 HRd.out).mono ?_; rintro e w9 ⟨rfl, rfl⟩)))
            have HBZ : Hid (Below V.heap.size V w8) := Lib.hid (HBY.out.trans (HB8.out.mono HBY.out.size))
            cases bb with
            | true =>
              go_wp2_with fail
              exact ⟨⟨k + 1, by omega, by go_num, by rw [HUl.out]; rfl, by rw [HMt.out], HBZ.out⟩, by simp [intOf]; omega⟩
            | false =>
              have hnx := HNx.out rfl
              have hlt0 := (List.getElem?_eq_some_iff.1 hnx).1
              rw [← HN.out] at hlt0
              obtain ⟨nb0, no0, rfl, hnb, hrn⟩ := HNo.out.one hnx
              have m0 := (HBZ.out.cell (p := ⟨nb0, no0 + e0 * 2, none⟩) hnb).trans (hrn 0 _ rfl)
              have m1 := (HBZ.out.cell (p := ⟨nb0, no0 + e0 * 2 + 1, none⟩) hnb).trans (hrn 1 _ rfl)
              have b0 : (0 : Int) ≤ (e0 : Int) := Int.natCast_nonneg _
              have b1 : (e0 : Int) < (N : Int) := by omega
              have b2 : decide ((N : Int) ≤ (e0 : Int)) = false := decide_eq_false (by omega)
              have b3 : decide (N ≤ e0) = false := decide_eq_false (by omega)
              clear hnx hrn
              go_wp2_with fail
              refine wp_region_quiet_lit (by kernel_rfl) (by kernel_rfl) ?_
              iterate 11 (go_big_quiet_step (fail))
              refine quiet_bin (by rfl) .neq 29 29 _ _ (by rfl) (.agg #[.int .i64 u, .int .i64 i]) (.agg #[.int .i64 u, .int .i64 i]) _ (by rfl) (by rfl) (fun ux hux => refs_neq_is _ _ u i u i false (by simp) ux) ?_
              simp only [Act.put, List.setIfInBounds_toArray, List.set_cons_succ, List.set_cons_zero]
              iterate 1 (go_big_quiet_step (fail))
              refine wpQuiet_nil ?_
              intro _ hw'
              obtain ⟨nr, rfl⟩ := hw'
              go_wp2_with fail
              exact ⟨⟨k + 1, by omega, by go_num, by rw [HUl.out]; go_num, by rw [HMt.out], HBZ.out.trans ((below_drewN _ nr).mono HBZ.out.size)⟩, by simp [intOf]; omega⟩
          · have n11 := (int_no h11).1
            clear h19 h11
            go_wp2_with fail
            go_quiet (fail)
            obtain ⟨w8, hw8⟩ : ∃ x, x = Y.drewN nq := ⟨_, rfl⟩
            rw [← hw8]
            have HB8 : Hid (Below Y.heap.size Y w8) := Lib.hid (by rw [hw8]; exact below_drewN Y nq)
            clear hw8 p0 p1 p2 p3 p4 pl q0 q1 q2 q3 q4 ql
            obtain ⟨⟨p0, p1, p2, p3, p4⟩, pl⟩ := blk_five (blk_keep HKx.out HB8.out)
            have HBZ : Hid (Below V.heap.size V w8) := Lib.hid (HBY.out.trans (HB8.out.mono HBY.out.size))
            cases bb with
            | true =>
              go_wp2_with fail
              exact ⟨⟨k + 1, by omega, by go_num, by rw [HUl.out]; rfl, by rw [HMt.out], HBZ.out⟩, by simp [intOf]; omega⟩
            | false =>
              have hnx := HNx.out rfl
              have hlt0 := (List.getElem?_eq_some_iff.1 hnx).1
              rw [← HN.out] at hlt0
              obtain ⟨nb0, no0, rfl, hnb, hrn⟩ := HNo.out.one hnx
              have m0 := (HBZ.out.cell (p := ⟨nb0, no0 + e0 * 2, none⟩) hnb).trans (hrn 0 _ rfl)
              have m1 := (HBZ.out.cell (p := ⟨nb0, no0 + e0 * 2 + 1, none⟩) hnb).trans (hrn 1 _ rfl)
              have b0 : (0 : Int) ≤ (e0 : Int) := Int.natCast_nonneg _
              have b1 : (e0 : Int) < (N : Int) := by omega
              have b2 : decide ((N : Int) ≤ (e0 : Int)) = false := decide_eq_false (by omega)
              have b3 : decide (N ≤ e0) = false := decide_eq_false (by omega)
              clear hnx hrn
              go_wp2_with fail
              refine wp_region_quiet_lit (by kernel_rfl) (by kernel_rfl) ?_
              iterate 11 (go_big_quiet_step (fail))
              refine quiet_bin (by rfl) .neq 29 29 _ _ (by rfl) (.agg #[.int .i64 u, .int .i64 i]) (.agg #[.int .i64 u, .int .i64 i]) _ (by rfl) (by rfl) (fun ux hux => refs_neq_is _ _ u i u i false (by simp) ux) ?_
              simp only [Act.put, List.setIfInBounds_toArray, List.set_cons_succ, List.set_cons_zero]
              iterate 1 (go_big_quiet_step (fail))
              refine wpQuiet_nil ?_
              intro _ hw'
              obtain ⟨nr, rfl⟩ := hw'
              go_wp2_with fail
              exact ⟨⟨k + 1, by omega, by go_num, by rw [HUl.out]; go_num, by rw [HMt.out], HBZ.out.trans ((below_drewN _ nr).mono HBZ.out.size)⟩, by simp [intOf]; omega⟩
    · have hkm : k = m := by omega
      subst hkm
      have HE : Hid (L.take k = L) := Lib.hid (by rw [HM.out, List.take_length])
      have hd := blk_keep HKd.out HB.out
      obtain ⟨⟨d0, d1⟩, dl⟩ := blk_two hd
      have HD := Lib.hid hd
      rw [HE.out, ← HN.out]
      clear hd hbel
      have uu := (int_yes (show (N : Int) = (N : Int) from rfl)).1
      generalize Pl.metAt p q L = mb at *
      cases mb with
      | true =>
        go_wp2_with (go_at_call 9; refine (HAv.out wr HB.out).mono ?_; rintro e w9 ⟨rfl, hb9⟩; have HB9 := Lib.hid (HB.out.trans (hb9.mono hgr)); clear hb9)
        go_ret
        exact ⟨rfl, HBV.out.trans (HB9.out.mono HBV.out.size)⟩
      | false =>
        obtain ⟨f1, f2, f3⟩ := HMn.out rfl
        subst f1 f2 f3
        go_wp2_with (first
          | (go_at_call 9; refine (HAv.out wr HB.out).mono ?_; rintro e w9 ⟨rfl, hb9⟩; clear d0 d1 dl; obtain ⟨⟨d0, d1⟩, dl⟩ := blk_two (blk_keep HD.out hb9); have HB9 := Lib.hid (HB.out.trans (hb9.mono hgr)); clear hb9)
          | (refine wpList_bin (by rfl) .eql 29 29 _ _ (by rfl) (.agg #[.int .i64 0, .int .i64 0]) (.agg #[.int .i64 0, .int .i64 0]) _ (by rfl) (by rfl) (refs_eql_is _ _ 0 0 0 0 true rfl _) ?_))
        go_ret
        exact ⟨rfl, HBV.out.trans (HB9.out.mono HBV.out.size)⟩
theorem agrees_one (HP : Prg) (p q : Int) (w : World) {a : Option Addr} {c : Nat} {us : List Pl.Un} {R : Nat → Sl} (hU : IsU w a us R) : Calls Try.prog 7 #[.slice a us.length c, .agg #[.int .i64 p, .int .i64 q]] w (YesP w) :=
  law_agrees HP (fun w => sample_any w) a us.length c us R p q w trivial hU rfl
end Go.Proofs.Ytoelfiendfemaaa
