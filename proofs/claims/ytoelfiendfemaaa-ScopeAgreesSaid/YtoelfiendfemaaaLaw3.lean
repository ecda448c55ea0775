/- The walk of the law ScopeResolves. -/
import Derived.Test.YtoelfiendfemaaaLaw2
import Derived.Test.YtoelfiendfemaaaAround
namespace Go.Proofs.Ytoelfiendfemaaa
open Go.RowKit Go.Deep
set_option linter.unusedVariables false
set_option linter.unusedSimpArgs false

/-- What a good use says, in parts. -/
theorem good_parts {T : List (List Pl.Rw)} {x : Pl.Us} (h : Pl.goodU T x = true) :
    ∃ (u i : Nat) (l : List Pl.Rw), x.au = u ∧ x.an = i ∧ T[u]? = some l ∧ i < l.length ∧ (x.bound = false ∨ (x.bound = true ∧ ∃ (v j : Nat) (m : List Pl.Rw), x.du = v ∧ x.dn = j ∧ T[v]? = some m ∧ j < m.length ∧
      (Pl.rw l i).text = (Pl.rw m j).text ∧ Pl.declares (Pl.rw l i).kind (Pl.rw m j).kind = true ∧ (((Pl.rw m j).kind ≠ 4 ∧ (Pl.rw m j).kind ≠ 10) ∨ (u = v ∧ j < i ∧ ((Pl.rw m j).kind ≠ 10 ∨ Pl.around l (Pl.rw m j).parent i = true))))) := by
  obtain ⟨au, an, du, dn, bo⟩ := x
  unfold Pl.goodU at h
  simp only [Bool.and_eq_true] at h
  obtain ⟨h1, h2⟩ := h
  obtain ⟨u, i, l, rfl, rfl, hl, hi⟩ := exs_iff.1 h1
  refine ⟨u, i, l, rfl, rfl, hl, hi, ?_⟩
  cases bo with
  | false => exact .inl rfl
  | true =>
    simp only [Bool.not_true, Bool.false_or, Bool.and_eq_true] at h2
    obtain ⟨h3, ⟨h4, h5⟩, h6⟩ := h2
    obtain ⟨v, j, m, rfl, rfl, hm, hj⟩ := exs_iff.1 h3
    simp only [Int.toNat_natCast, hl, hm, Option.getD_some] at h4 h5 h6
    refine .inr ⟨rfl, v, j, m, rfl, rfl, hm, hj, of_decide_eq_true h4, h5, ?_⟩
    by_cases hk : (Pl.rw m j).kind = 4 ∨ (Pl.rw m j).kind = 10
    · rw [decide_eq_true hk, Bool.not_true, Bool.false_or, Bool.and_eq_true] at h6
      obtain ⟨h7, h8⟩ := h6
      have h7 := of_decide_eq_true h7
      refine .inr ⟨by omega, by omega, ?_⟩
      by_cases h10 : (Pl.rw m j).kind = 10
      · rw [decide_eq_true h10, Bool.not_true, Bool.false_or] at h8
        exact .inr h8
      · exact .inl h10
    · exact .inl ⟨fun e => hk (.inl e), fun e => hk (.inr e)⟩
theorem blk_five {w : World} {b : Nat} {v0 v1 v2 v3 v4 : Value} {T : TypeId} (h : w.heap[b]? = some (.cells #[v0, v1, v2, v3, v4] T (0, 0))) :
    (w.cell? ⟨b, 0, none⟩ = some v0 ∧ w.cell? ⟨b, 1, none⟩ = some v1 ∧ w.cell? ⟨b, 2, none⟩ = some v2 ∧ w.cell? ⟨b, 3, none⟩ = some v3 ∧ w.cell? ⟨b, 4, none⟩ = some v4) ∧ b < w.heap.size :=
  ⟨⟨(blk_one h 0 _ rfl).1, (blk_one h 1 _ rfl).1, (blk_one h 2 _ rfl).1, (blk_one h 3 _ rfl).1, (blk_one h 4 _ rfl).1⟩, lt_blk h⟩
theorem heap_set5 {w2 : World} {b x : Nat} {v0 v1 v2 v3 v4 : Value} (h : x ≠ b) : (((((w2.setCell ⟨b, 0, none⟩ v0).setCell ⟨b, 1, none⟩ v1).setCell ⟨b, 2, none⟩ v2).setCell ⟨b, 3, none⟩ v3).setCell ⟨b, 4, none⟩ v4).heap[x]? = w2.heap[x]? := by
  simp [World.setCell, Array.getElem?_modify, Ne.symm h]
theorem heap_set5_eq {Y : World} {b : Nat} {a0 a1 a2 a3 a4 v0 v1 v2 v3 v4 : Value} {T : TypeId} (h : Y.heap[b]? = some (.cells #[a0, a1, a2, a3, a4] T (0, 0))) : (((((Y.setCell ⟨b, 0, none⟩ v0).setCell ⟨b, 1, none⟩ v1).setCell ⟨b, 2, none⟩ v2).setCell ⟨b, 3, none⟩ v3).setCell ⟨b, 4, none⟩ v4).heap[b]? = some (.cells #[v0, v1, v2, v3, v4] T (0, 0)) := by
  simp [World.setCell, Array.getElem?_modify, h]
theorem cell_set5 {b x f : Nat} {w2 : World} {v0 v1 v2 v3 v4 : Value} (hb : x ≠ b) : (((((w2.setCell ⟨b, 0, none⟩ v0).setCell ⟨b, 1, none⟩ v1).setCell ⟨b, 2, none⟩ v2).setCell ⟨b, 3, none⟩ v3).setCell ⟨b, 4, none⟩ v4).cell? ⟨x, f, none⟩ = w2.cell? ⟨x, f, none⟩ :=
  World.cell?_of_block (w := w2) (a := ⟨x, f, none⟩) (heap_set5 hb)
set_option maxHeartbeats 3200000 in
set_option maxRecDepth 100000 in
theorem law_resolves (HP : Prg) (HSm : SampC) (a : Option Addr) (n c : Nat) (us : List Pl.Un) (R : Nat → Sl) (w : World) (hG : Good w) (hU : IsU w a us R) (hn : n = us.length) :
    Calls Try.prog 6 #[.slice a n c] w (YesP w) := by
  have HAw := Lib.hid (fun z (h : Below w.heap.size w z) => awake_any HP HSm z (hG.later h))
  have HFt := Lib.hid (fit_any a n c us R w hU hn)
  have HTb := Lib.hid (fun z (h : Below w.heap.size w z) hF => tables_any a n c us R z (hU.later h) hF hn)
  have HPu := Lib.hid (fun z (h : Below w.heap.size w z) hF => HP.1 a n c us R z (hG.later h) (hU.later h) hF hn)
  have HTg := Lib.hid (fun (hF : Few us) j l (h : (Pl.tbls us)[j]? = some l) => tbls_get hF h)
  have HGd := Lib.hid (fun (hF : Few us) y (hy : y ∈ Pl.uses us) => good_parts (Pl.uses_good us (fun x hx => by have := (hF.2 x hx).1; omega) y hy))
  clear hU hn hG
  generalize Pl.uses us = L at *
  generalize Pl.tbls us = T at *
  go_enter Try.func6, Try.ntmps6
  go_wp2_with (first
    | (go_at_call 10; refine HFt.out.mono ?_; rintro e w1 ⟨bb, hbb, rfl, hb1⟩; have HBB := Lib.hid hbb; have HB1 := Lib.hid hb1; clear hbb hb1; cases bb)
    | (go_at_call 9; refine (HAw.out w1 HB1.out).mono ?_; rintro e w2 ⟨rfl, hb2⟩; have HB2 := Lib.hid (HB1.out.trans (hb2.mono HB1.out.size)); clear hb2)
    | (go_at_call 24; refine (HTb.out w1 HB1.out (HBB.out (by trivial))).mono ?_; rintro e w2 ⟨ta, tc, rfl, hta, hb2⟩; have HTA := Lib.hid hta; have HB2 := Lib.hid (HB1.out.trans (hb2.mono HB1.out.size)); clear hta hb2)
    | (go_at_call 12; refine (HPu.out w2 HB2.out (HBB.out (by trivial))).mono ?_; rintro e w3 ⟨la, lc, rfl, hl, hb3⟩; have HL := Lib.hid hl; have HTA3 := Lib.hid (HTA.out.later hb3); have HB3 := Lib.hid (HB2.out.trans (hb3.mono HB2.out.size)); clear hl hb3))
  · go_ret
    exact ⟨rfl, HB2.out⟩
  have hF := HBB.out (by trivial)
  have HF := Lib.hid hF
  obtain ⟨m, hm⟩ : ∃ m, m = L.length := ⟨_, rfl⟩
  have hml : m ≤ maxLen := by rw [hm]; exact HL.out.1
  unfold maxLen at hml
  have HM := Lib.hid hm
  try rw [← hm]
  clear hm hF
  go_loopw [5] (fun i wr => ∃ k : Nat, k ≤ m ∧ i = .int .i64 k ∧ Below w3.heap.size w3 wr) (fun i _ => m - (intOf i).toNat)
  case atStart => exact ⟨0, Nat.zero_le _, rfl, Below.refl _ _⟩
  case round =>
    obtain ⟨k, hk, rfl, hbel⟩ := hrel
    have HB := Lib.hid hbel
    have hgr := hbel.size
    by_cases hlt : k < m
    · have hkx : k < L.length := by rw [← HM.out]; exact hlt
      have hx := List.getElem?_eq_getElem hkx
      have hgd := HGd.out HF.out _ (List.getElem_mem hkx)
      obtain ⟨lb, lo, rfl, hlb, hrg⟩ := HL.out.one hx
      have hk0 : (0 : Int) ≤ (k : Int) := Int.natCast_nonneg _
      have hk1 : (k : Int) < (m : Int) := by omega
      generalize L[k] = x at *
      obtain ⟨au, an, du, dn, bo⟩ := x
      obtain ⟨u, i, l, e1, e2, hl, hi, hcase⟩ := hgd
      simp only at e1 e2 hcase
      subst e1 e2
      have hr : wr.rangeAt lb (lo + k * 5) [.int .i64 u, .int .i64 i, .int .i64 du, .int .i64 dn, .bool bo] := fun q v hv => (hbel.cell (p := ⟨lb, lo + k * 5 + q, none⟩) hlb).trans (hrg q v hv)
      have HR := Lib.hid hr
      have HEx := Lib.hid (fun z (h : Below w3.heap.size w3 z) p q => exists_any ta T.length tc T p q z (HTA3.out.later h) rfl)
      have HX1 : Hid (Pl.exs T u i = true) := Lib.hid (Pl.exs_of hl hi)
      obtain ⟨V, hV⟩ : ∃ V, V = wr.alloc (.cells #[.int .i64 u, .int .i64 i, .int .i64 du, .int .i64 dn, .bool bo] 42) := ⟨_, rfl⟩
      have HBV : Hid (Below w3.heap.size w3 V) := Lib.hid (by rw [hV]; exact hbel.alloc hgr _)
      have HKV : Hid (V.heap[wr.heap.size]? = some (.cells #[.int .i64 u, .int .i64 i, .int .i64 du, .int .i64 dn, .bool bo] 42 (0, 0))) := Lib.hid (by rw [hV]; exact heap_alloc_new _ _)
      have HV := Lib.hid hV
      obtain ⟨⟨p0, p1, p2, p3, p4⟩, pl⟩ := blk_five HKV.out
      have HHl := Lib.hid hl
      have HHi := Lib.hid hi
      have HCs := Lib.hid hcase
      clear hV hr hrg hl hi hcase hx hbel
      go_upto_region 9 with (refine wpList_load_mid rfl 42 _ rfl lb (lo + k * 5) rfl [.int .i64 u, .int .i64 i, .int .i64 du, .int .i64 dn, .bool bo] _ HR.out Try.underlying42 rfl sizeU ?_)
      rw [← HV.out]
      clear HV
      rcases HCs.out with hb | ⟨hb, v, j, mm, e3, e4, hm2, hj2, htx, hde, hrest⟩
      · subst hb
        clear HCs
        go_wp2_with (go_at_call 25; refine (HEx.out V HBV.out u i).mono ?_; rintro e w4 ⟨he, hb4⟩; rw [HX1.out] at he; subst he; have hk4 := blk_keep HKV.out hb4; clear p0 p1 p2 p3 p4 pl; obtain ⟨⟨p0, p1, p2, p3, p4⟩, pl⟩ := blk_five hk4; have HB4 := Lib.hid (HBV.out.trans (hb4.mono HBV.out.size)); clear hb4 hk4)
        exact ⟨⟨k + 1, by omega, by go_num, HB4.out⟩, by simp [intOf]; omega⟩
      subst hb e3 e4
      have HX2 : Hid (Pl.exs T v j = true) := Lib.hid (Pl.exs_of hm2 hj2)
      have hul := (List.getElem?_eq_some_iff.1 HHl.out).1
      have hvl := (List.getElem?_eq_some_iff.1 hm2).1
      obtain ⟨tb, o, ta1, tc1, R1, rfl, htb, ht1, hti1⟩ := HTA3.out.one HHl.out
      obtain ⟨tb', o', ta2, tc2, R2, he2, htb2, ht2, hti2⟩ := HTA3.out.one hm2
      obtain ⟨rfl, rfl⟩ : tb' = tb ∧ o' = o := by
        injection he2 with he2
        injection he2 with he2 he3
        exact ⟨he2.symm, he3.symm⟩
      have hi := HHi.out
      obtain ⟨r1, o1, rfl, hTb1⟩ := tb_of hti1 (by omega)
      obtain ⟨r2, o2, rfl, hTb2⟩ := tb_of hti2 (by omega)
      obtain ⟨z1, rr1, hz1, hat1⟩ : ∃ z1 rr1, Pl.rw l i = z1 ∧ At5 w3 r1 (o1 + i * 5) z1 rr1 := by
        obtain ⟨z, rr, _, h1, _, _, _, _, _, _, h2⟩ := hTb1.row hi
        exact ⟨z, rr, h1, h2⟩
      obtain ⟨z2, rr2, hz2, hat2⟩ : ∃ z2 rr2, Pl.rw mm j = z2 ∧ At5 w3 r2 (o2 + j * 5) z2 rr2 := by
        obtain ⟨z, rr, _, h1, _, _, _, _, _, _, h2⟩ := hTb2.row hj2
        exact ⟨z, rr, h1, h2⟩
      rw [hz1, hz2] at htx hde
      rw [hz2] at hrest
      have hr1 := hTb1.1
      have hr2 := hTb2.1
      obtain ⟨hok1, hl1⟩ : Pl.Ok l ∧ l.length ≤ 200 := by
        obtain ⟨_, _, _, x, y⟩ := HTg.out HF.out u l HHl.out
        exact ⟨x, y⟩
      have a0 : (0 : Int) ≤ (u : Int) := Int.natCast_nonneg _
      have a1 : (u : Int) < (T.length : Int) := by omega
      have a2 : (0 : Int) ≤ (v : Int) := Int.natCast_nonneg _
      have a3 : (v : Int) < (T.length : Int) := by omega
      have a4 : (0 : Int) ≤ (i : Int) := Int.natCast_nonneg _
      have a5 : (i : Int) < (l.length : Int) := by omega
      have a6 : (0 : Int) ≤ (j : Int) := Int.natCast_nonneg _
      have a7 : (j : Int) < (mm.length : Int) := by omega
      have HAr := Lib.hid (fun z (h : Below w3.heap.size w3 z) => around_any r1 o1 tc1 l.length l R1 z (hTb1.later h) hok1 rfl z2.parent i hi)
      have HT1 := Lib.hid ht1
      have HT2 := Lib.hid ht2
      have HA1 := Lib.hid hat1
      have HA2 := Lib.hid hat2
      have HDe := Lib.hid hde
      have HTx := Lib.hid htx
      have HRs := Lib.hid hrest
      clear HCs hm2 hj2 hul hvl ht1 ht2 hti1 hti2 htb2 he2 hz1 hz2 hat1 hat2 hTb1 hTb2 hde htx hrest hok1 hi
      go_upto_region 12 with (first
        | (go_at_call 25; refine (HEx.out w4 HB4.out v j).mono ?_; rintro e w5 ⟨he, hb5⟩; rw [HX2.out] at he; subst he; have hk5 := blk_keep HK4.out hb5; have HK5 := Lib.hid hk5; clear p0 p1 p2 p3 p4 pl; obtain ⟨⟨p0, p1, p2, p3, p4⟩, pl⟩ := blk_five hk5; have HB5 := Lib.hid (HB4.out.trans (hb5.mono HB4.out.size)); clear hb5 hk5)
        | (go_at_call 25; refine (HEx.out V HBV.out u i).mono ?_; rintro e w4 ⟨he, hb4⟩; rw [HX1.out] at he; subst he; have hk4 := blk_keep HKV.out hb4; have HK4 := Lib.hid hk4; clear p0 p1 p2 p3 p4 pl; obtain ⟨⟨p0, p1, p2, p3, p4⟩, pl⟩ := blk_five hk4; have HB4 := Lib.hid (HBV.out.trans (hb4.mono HBV.out.size)); clear hb4 hk4))
      have t1 := (HB5.out.cell (p := ⟨tb', o' + u, none⟩) htb).trans HT1.out
      have HRa : Hid (w5.rangeAt r1 (o1 + i * 5) [.int .i64 z1.parent, .int .i64 z1.kind, .string z1.text, .slice rr1.ga z1.gaps.length rr1.gc, .slice rr1.da z1.kids.length rr1.dc]) := Lib.hid (HA1.out.keep (HB5.out.block r1 hr1))
      obtain ⟨W, hW⟩ : ∃ W, W = w5.alloc (.cells #[.int .i64 z1.parent, .int .i64 z1.kind, .string z1.text, .slice rr1.ga z1.gaps.length rr1.gc, .slice rr1.da z1.kids.length rr1.dc] 47) := ⟨_, rfl⟩
      have hbw : Below w5.heap.size w5 W := by rw [hW]; exact below_11 _ _
      have HBW : Hid (Below w3.heap.size w3 W) := Lib.hid (HB5.out.trans (hbw.mono HB5.out.size))
      have HK8 : Hid (W.heap[w5.heap.size]? = some (.cells #[.int .i64 z1.parent, .int .i64 z1.kind, .string z1.text, .slice rr1.ga z1.gaps.length rr1.gc, .slice rr1.da z1.kids.length rr1.dc] 47 (0, 0))) := Lib.hid (by rw [hW]; exact heap_alloc_new _ _)
      have HK6 := Lib.hid (blk_keep HK5.out hbw)
      have HWw := Lib.hid hW
      clear hW
      go_upto_region 14 with (refine wpList_load_mid rfl 47 _ rfl r1 (o1 + i * 5) rfl [.int .i64 z1.parent, .int .i64 z1.kind, .string z1.text, .slice rr1.ga z1.gaps.length rr1.gc, .slice rr1.da z1.kids.length rr1.dc] _ HRa.out Try.underlying47 rfl sizeR ?_)
      rw [← HWw.out]
      clear HWw p0 p1 p2 p3 p4 pl t1 HRa hbw
      obtain ⟨⟨p0, p1, p2, p3, p4⟩, pl⟩ := blk_five HK6.out
      obtain ⟨⟨q0, q1, q2, q3, q4⟩, ql⟩ := blk_five HK8.out
      have t2 := (HBW.out.cell (p := ⟨tb', o' + v, none⟩) htb).trans HT2.out
      have lt2 : tb' < W.heap.size := Nat.lt_of_lt_of_le htb HBW.out.size
      have lr2 : r2 < W.heap.size := Nat.lt_of_lt_of_le hr2 HBW.out.size
      obtain ⟨c0, c1, c2, c3, c4⟩ := (HA2.out.keep (HBW.out.block r2 hr2)).cells
      generalize w5.heap.size = b8 at *
      generalize wr.heap.size = b6 at *
      have HDR : Hid (∀ (wx : World) (x f : Nat), wx.drew.cell? ⟨x, f, none⟩ = wx.cell? ⟨x, f, none⟩) := Lib.hid fun _ _ _ => rfl
      have HPA : Hid (∀ (wx : World) (ob : Obj) (x f : Nat), x < wx.heap.size → (wx.alloc ob).cell? ⟨x, f, none⟩ = wx.cell? ⟨x, f, none⟩) := Lib.hid fun wx ob x f h => cell_past x wx ob f h
      go_region_held3 (fun w' => (∀ f : Nat, w'.cell? ⟨b6, f, none⟩ = W.cell? ⟨b6, f, none⟩) ∧ (∀ f : Nat, w'.cell? ⟨tb', f, none⟩ = W.cell? ⟨tb', f, none⟩) ∧ ∀ f : Nat, w'.cell? ⟨r2, f, none⟩ = W.cell? ⟨r2, f, none⟩)
        ((refine ⟨?_, ?_, ?_⟩ <;> (intro f; iterate 8 (first
          | (with_reducible exact rfl)
          | (with_reducible refine (HDR.out _ _ _).trans ?_)
          | (with_reducible refine (HPA.out _ _ _ _ ?_).trans ?_; focus (first | omega | (simp; done) | (simp; omega)))
          | (with_reducible refine (cell_set5 ?_).trans ?_; focus omega)
          | skip))))
        (fail)
      obtain ⟨X, hX⟩ : ∃ X, X = (W.alloc (.cells #[.int .i64 z2.parent, .int .i64 z2.kind, .string z2.text, .slice rr2.ga z2.gaps.length rr2.gc, .slice rr2.da z2.kids.length rr2.dc] 47)).drew := ⟨_, rfl⟩
      have hbx : Below W.heap.size W X := by rw [hX]; exact (below_11 W _).drew
      have HK9 : Hid (X.heap[W.heap.size]? = some (.cells #[.int .i64 z2.parent, .int .i64 z2.kind, .string z2.text, .slice rr2.ga z2.gaps.length rr2.gc, .slice rr2.da z2.kids.length rr2.dc] 47 (0, 0))) := Lib.hid (by rw [hX]; exact heap_alloc_new W _)
      have HX6 := Lib.hid (blk_keep HK6.out hbx)
      have HX8 := Lib.hid (blk_keep HK8.out hbx)
      have HBX := Lib.hid (HBW.out.trans (hbx.mono HBW.out.size))
      rw [← hX]
      clear hX hbx p0 p1 p2 p3 p4 pl q0 q1 q2 q3 q4 ql t2 c0 c1 c2 c3 c4 lt2 lr2
      obtain ⟨⟨p0, p1, p2, p3, p4⟩, pl⟩ := blk_five HX6.out
      obtain ⟨⟨q0, q1, q2, q3, q4⟩, ql⟩ := blk_five HX8.out
      obtain ⟨⟨s0, s1, s2, s3, s4⟩, sl⟩ := blk_five HK9.out
      generalize W.heap.size = b9 at *
      have tx := str_yes HTx.out
      have HDc := Lib.hid (declares_any z1.kind z2.kind X)
      rw [HDe.out] at HDc
      rcases HRs.out with ⟨h4, h10⟩ | ⟨huv, hji, hh⟩
      · have n4 := (int_no h4).2
        have n10 := (int_no h10).2
        clear h4 h10
        go_wp2_with (go_at_call 26; refine HDc.out.mono ?_; rintro e w6 ⟨rfl, hb6⟩; have hk6 := blk_keep HX6.out hb6; have hk8 := blk_keep HX8.out hb6; have hk9 := blk_keep HK9.out hb6; clear p0 p1 p2 p3 p4 pl q0 q1 q2 q3 q4 ql s0 s1 s2 s3 s4 sl; obtain ⟨⟨p0, p1, p2, p3, p4⟩, pl⟩ := blk_five hk6; obtain ⟨⟨q0, q1, q2, q3, q4⟩, ql⟩ := blk_five hk8; obtain ⟨⟨s0, s1, s2, s3, s4⟩, sl⟩ := blk_five hk9; have HB6 := Lib.hid (HBX.out.trans (hb6.mono HBX.out.size)); clear hb6 hk6 hk8 hk9)
        exact ⟨⟨k + 1, by omega, by go_num, HB6.out⟩, by simp [intOf]; omega⟩
      · subst huv
        have uu := (int_yes (show (u : Int) = (u : Int) from rfl)).2
        have ji : decide ((i : Int) ≤ (j : Int)) = false := decide_eq_false (by omega)
        have ji' : decide ((j : Int) ≥ (i : Int)) = false := ji
        by_cases h4 : z2.kind = 4
        · have n4 := (int_yes h4).2
          have n10 := (int_no (show z2.kind ≠ 10 by omega)).1
          clear h4 hh
          go_wp2_with (go_at_call 26; refine HDc.out.mono ?_; rintro e w6 ⟨rfl, hb6⟩; have hk6 := blk_keep HX6.out hb6; have hk8 := blk_keep HX8.out hb6; have hk9 := blk_keep HK9.out hb6; clear p0 p1 p2 p3 p4 pl q0 q1 q2 q3 q4 ql s0 s1 s2 s3 s4 sl; obtain ⟨⟨p0, p1, p2, p3, p4⟩, pl⟩ := blk_five hk6; obtain ⟨⟨q0, q1, q2, q3, q4⟩, ql⟩ := blk_five hk8; obtain ⟨⟨s0, s1, s2, s3, s4⟩, sl⟩ := blk_five hk9; have HB6 := Lib.hid (HBX.out.trans (hb6.mono HBX.out.size)); clear hb6 hk6 hk8 hk9)
          exact ⟨⟨k + 1, by omega, by go_num, HB6.out⟩, by simp [intOf]; omega⟩
        · by_cases h10 : z2.kind = 10
          · have n4 := (int_no h4).2
            have n10 := (int_yes h10).2
            have e10 := (int_yes h10).1
            have HAy : Hid (Pl.around l z2.parent i = true) := Lib.hid (hh.resolve_left (fun h => h h10))
            clear h4 h10 hh
            go_wp2_with (first
              | (go_at_call 27; refine (HAr.out w6 HB6.out).mono ?_; rintro e w7 ⟨he, hb7⟩; rw [HAy.out] at he; subst he; have HB7 := Lib.hid (HB6.out.trans (hb7.mono HB6.out.size)); clear hb7)
              | (go_at_call 26; refine HDc.out.mono ?_; rintro e w6 ⟨rfl, hb6⟩; have hk6 := blk_keep HX6.out hb6; have hk8 := blk_keep HX8.out hb6; have hk9 := blk_keep HK9.out hb6; clear p0 p1 p2 p3 p4 pl q0 q1 q2 q3 q4 ql s0 s1 s2 s3 s4 sl; obtain ⟨⟨p0, p1, p2, p3, p4⟩, pl⟩ := blk_five hk6; obtain ⟨⟨q0, q1, q2, q3, q4⟩, ql⟩ := blk_five hk8; obtain ⟨⟨s0, s1, s2, s3, s4⟩, sl⟩ := blk_five hk9; have HB6 := Lib.hid (HBX.out.trans (hb6.mono HBX.out.size)); clear hb6 hk6 hk8 hk9))
            exact ⟨⟨k + 1, by omega, by go_num, HB7.out⟩, by simp [intOf]; omega⟩
          · have n4 := (int_no h4).2
            have n10 := (int_no h10).2
            clear h4 h10 hh
            go_wp2_with (go_at_call 26; refine HDc.out.mono ?_; rintro e w6 ⟨rfl, hb6⟩; have hk6 := blk_keep HX6.out hb6; have hk8 := blk_keep HX8.out hb6; have hk9 := blk_keep HK9.out hb6; clear p0 p1 p2 p3 p4 pl q0 q1 q2 q3 q4 ql s0 s1 s2 s3 s4 sl; obtain ⟨⟨p0, p1, p2, p3, p4⟩, pl⟩ := blk_five hk6; obtain ⟨⟨q0, q1, q2, q3, q4⟩, ql⟩ := blk_five hk8; obtain ⟨⟨s0, s1, s2, s3, s4⟩, sl⟩ := blk_five hk9; have HB6 := Lib.hid (HBX.out.trans (hb6.mono HBX.out.size)); clear hb6 hk6 hk8 hk9)
            exact ⟨⟨k + 1, by omega, by go_num, HB6.out⟩, by simp [intOf]; omega⟩
    · have hkm : k = m := by omega
      subst hkm
      clear hbel
      go_wp2_with (go_at_call 9; refine (HAw.out wr (HB3.out.trans (HB.out.mono HB3.out.size))).mono ?_; rintro e w9 ⟨rfl, hb9⟩; have HB9 := Lib.hid hb9; clear hb9)
      go_ret
      exact ⟨rfl, (HB3.out.trans (HB.out.mono HB3.out.size)).trans (HB9.out.mono (HB3.out.trans (HB.out.mono HB3.out.size)).size)⟩
end Go.Proofs.Ytoelfiendfemaaa
