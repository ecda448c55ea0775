/- The walk of the reference's Visible. -/
import Derived.Test.YtoelfiendfemaaaVis
namespace Go.Proofs.Ytoelfiendfemaaa
open Go.RowKit Go.Deep
set_option linter.unusedVariables false
set_option linter.unusedSimpArgs false

theorem visible_none {us : List Pl.Un} {a b : Int} (h : Pl.exs (Pl.tbls us) a b = false) : Pl.visible us a b = [] := by unfold Pl.visible; rw [h]; rfl
theorem visible_some {us : List Pl.Un} {u i : Nat} {x : Pl.Un} (hx : us[u]? = some x) (hi : i < (Pl.tbl x).length) : Pl.visible us u i = Pl.refB (Pl.consts (Pl.decls us) ++ txts (Pl.tbl x) (Pl.vis (Pl.tbl x) i)) := by
  have hl : (Pl.tbls us)[u]? = some (Pl.tbl x) := by unfold Pl.tbls; rw [List.getElem?_map, hx]; rfl
  unfold Pl.visible Pl.tblAt Pl.names
  rw [exs_nat hl, if_pos (by simpa using hi), Int.toNat_natCast, hl]; rfl
set_option maxHeartbeats 1600000 in
set_option maxRecDepth 100000 in
theorem visible_no (a : Option Addr) (n c : Nat) (us : List Pl.Un) (R : Nat → Sl) (w : World) (hU : IsU w a us R) (hF : Few us) (hn : n = us.length) (p q : Int) (h : Pl.exs (Pl.tbls us) p q = false) :
    Calls Try.prog 18 #[.slice a n c, .agg #[.int .i64 p, .int .i64 q]] w (NamesP (Pl.visible us p q) w) := by
  have HR := Lib.hid (visible_none h)
  have HTb := Lib.hid (fun w1 (h : Below w.heap.size w w1) => tables_any a n c us R w1 (hU.later h) hF hn)
  have HEx := Lib.hid (fun ta tc w1 (hT : TabsIn w1 ta (Pl.tbls us)) => exists_any ta (Pl.tbls us).length tc (Pl.tbls us) p q w1 hT rfl)
  rw [h] at HEx
  clear hU hF hn h
  generalize Pl.tbls us = T at *
  go_enter Try.func18, Try.ntmps18
  go_wp2_with (first
    | (go_at_call 24; refine (HTb.out _ (below_1 _ _)).mono ?_; rintro e w2 ⟨ta, tc, rfl, hta, hb2⟩; obtain ⟨hbk, hb3, hz2⟩ := one_after hb2; obtain ⟨⟨p0, p1⟩, _⟩ := blk_two hbk; have HTA := Lib.hid hta; have HB2 := Lib.hid hb3; clear hta hb2 hb3 hbk)
    | (go_at_call 25; refine (HEx.out ta tc _ HTA.out).mono ?_; rintro e w3 ⟨rfl, hb4⟩; have HB4 := Lib.hid (HB2.out.trans (hb4.mono HB2.out.size)); clear hb4))
  go_ret
  exact ⟨_, rfl, by rw [HR.out]; exact reads_nil _, HB4.out⟩
set_option maxHeartbeats 3200000 in
set_option maxRecDepth 100000 in
theorem visible_yes (a : Option Addr) (n c : Nat) (us : List Pl.Un) (R : Nat → Sl) (w : World) (hU : IsU w a us R) (hF : Few us) (hn : n = us.length) (u i0 : Nat) (x : Pl.Un) (hx : us[u]? = some x) (hi : i0 < (Pl.tbl x).length) :
    Calls Try.prog 18 #[.slice a n c, .agg #[.int .i64 u, .int .i64 i0]] w (NamesP (Pl.visible us u i0) w) := by
  have HR := Lib.hid (visible_some hx hi)
  have hl0 : (Pl.tbls us)[u]? = some (Pl.tbl x) := by unfold Pl.tbls; rw [List.getElem?_map, hx]; rfl
  obtain ⟨_, _, _, hok, hll⟩ := tbls_get hF hl0
  have hT1 : (Pl.tbls us).length ≤ 4 := by unfold Pl.tbls; rw [List.length_map]; exact hF.1
  have HTb := Lib.hid (fun w1 (h : Below w.heap.size w w1) => tables_any a n c us R w1 (hU.later h) hF hn)
  have HDc := Lib.hid (fun w1 (h : Below w.heap.size w w1) => rdecls_any a n c us R w1 (hU.later h) hF hn)
  have HEx := Lib.hid (fun ta tc w1 (hT : TabsIn w1 ta (Pl.tbls us)) => exists_any ta (Pl.tbls us).length tc (Pl.tbls us) u i0 w1 hT rfl)
  rw [exs_nat hl0, decide_eq_true hi] at HEx
  have hdl := decls_len us hF
  have u0 : (0 : Int) ≤ (u : Int) := Int.natCast_nonneg _
  have u1 : (u : Int) < ((Pl.tbls us).length : Int) := by have := (List.getElem?_eq_some_iff.1 hl0).1; omega
  clear hU hF hn hx
  generalize Pl.decls us = D at *
  generalize Pl.tbls us = T at *
  generalize Pl.visible us u i0 = V0 at *
  generalize Pl.tbl x = l at *
  have HL0 := Lib.hid hl0
  have HOk := Lib.hid hok
  clear hl0 hok
  go_enter Try.func18, Try.ntmps18
  go_wp2_with (first
    | (go_at_call 24; refine (HTb.out _ (below_1 _ _)).mono ?_; rintro e w2 ⟨ta, tc, rfl, hta, hb2⟩; obtain ⟨hbk, hb3, hz2⟩ := one_after hb2; obtain ⟨⟨p0, p1⟩, _⟩ := blk_two hbk; have HK2 := Lib.hid hbk; have HTA := Lib.hid hta; have HB2 := Lib.hid hb3; clear hta hb2 hb3 hbk)
    | (go_at_call 25; refine (HEx.out ta tc _ HTA.out).mono ?_; rintro e w3 ⟨rfl, hb4⟩; have HK3 := Lib.hid (blk_keep HK2.out hb4); have HTA3 := Lib.hid (HTA.out.later hb4); have HB3 := Lib.hid (HB2.out.trans (hb4.mono HB2.out.size)); clear hb4)
    | (go_at_call 38; refine (HDc.out _ HB3.out).mono ?_; rintro e w4 ⟨da, dc, rfl, hda, hb4⟩; have HDA := Lib.hid hda; have HK4 := Lib.hid (blk_keep HK3.out hb4); have HTA4 := Lib.hid (HTA3.out.later hb4); have HB4 := Lib.hid (HB3.out.trans (hb4.mono HB3.out.size)); clear hb4 hda p0 p1))
  obtain ⟨m, hm⟩ : ∃ m, m = D.length := ⟨_, rfl⟩
  rw [← hm] at hdl
  have HM := Lib.hid hm
  try rw [← hm]
  clear hm
  go_loopw [6, 8] (fun v i wr => ∃ (k : Nat), k ≤ m ∧ i = .int .i64 k ∧ Reads wr v (Pl.refB (Pl.consts (D.take k))) ∧ Below w4.heap.size w4 wr) (fun _ i _ => m - (intOf i).toNat)
  case atStart => exact ⟨0, Nat.zero_le _, rfl, reads_nil _, Below.refl _ _⟩
  case round =>
    obtain ⟨k, hk, rfl, hrd, hbel⟩ := hrel
    have HRd := Lib.hid hrd
    have HB := Lib.hid hbel
    have hgr := hbel.size
    by_cases hlt : k < m
    · have hkx : k < D.length := by rw [← HM.out]; exact hlt
      have hx := List.getElem?_eq_getElem hkx
      have HS := Lib.hid (consts_take D k _ hx)
      obtain ⟨db, doo, rfl, hdb, hrg⟩ := HDA.out.one hx
      have hk0 : (0 : Int) ≤ (k : Int) := Int.natCast_nonneg _
      have hk1 : (k : Int) < (m : Int) := by omega
      generalize D[k] = d at *
      obtain ⟨d0, _, d2, _, _⟩ := cellsD_at (fun i v hv => (hbel.cell (p := ⟨db, doo + k * 5 + i, none⟩) hdb).trans (hrg i v hv))
      clear hx hrg hrd hbel
      by_cases h3 : d.kind = 3
      · have g1 := (int_yes h3).1
        have HS2 : Hid (Pl.consts (D.take (k + 1)) = Pl.consts (D.take k) ++ [d.name]) := Lib.hid (by rw [HS.out, if_pos h3])
        have HC := Lib.hid (rinsert_any _ _ d.name wr HRd.out (by
          have h1 := Pl.refB_length (Pl.consts (D.take k))
          have h2 := consts_len (D.take k)
          rw [List.length_take] at h2
          omega))
        rw [Pl.insB_refB, ← HS2.out] at HC
        clear h3
        go_wp2_with (go_at_call 49; refine HC.out.mono ?_; rintro e w5 ⟨v5, rfl, hr5, hb5⟩; have HR5 := Lib.hid hr5; have HB5 := Lib.hid (HB.out.trans (hb5.mono hgr)); clear hr5 hb5)
        exact ⟨⟨k + 1, by omega, by go_num, HR5.out, HB5.out⟩, by simp [intOf]; omega⟩
      · have g1 := (int_no h3).1
        have HS2 : Hid (Pl.consts (D.take (k + 1)) = Pl.consts (D.take k)) := Lib.hid (by rw [HS.out, if_neg h3, List.append_nil])
        clear h3
        go_wp2_with fail
        exact ⟨⟨k + 1, by omega, by go_num, by rw [HS2.out]; exact HRd.out, HB.out⟩, by simp [intOf]; omega⟩
    · have hkm : k = m := by omega
      subst hkm
      have HC0 : Hid (D.take k = D) := Lib.hid (by rw [HM.out, List.take_length])
      rw [HC0.out] at HRd
      have HTA5 := Lib.hid (HTA4.out.later hbel)
      obtain ⟨tb, o, la, lc, LR, rfl, htb, htc, hti⟩ := HTA5.out.one HL0.out
      obtain ⟨rb, ro, rfl, hTb⟩ := tb_of hti (by omega)
      obtain ⟨⟨p0, p1⟩, _⟩ := blk_two (blk_keep HK4.out hbel)
      obtain ⟨y, rr, _, hyr, y0, _⟩ := hTb.row hi
      have HTb5 := Lib.hid hTb
      have HYr := Lib.hid hyr
      have i00 : (0 : Int) ≤ (i0 : Int) := Int.natCast_nonneg _
      have i01 : (i0 : Int) < (l.length : Int) := by omega
      have HCl := Lib.hid (consts_len D)
      obtain ⟨N, hN⟩ : ∃ N, N = l.length := ⟨_, rfl⟩
      have HN := Lib.hid hN
      rw [← hN] at htc hll i01
      clear hrd hti hTb hyr hN
      obtain ⟨W, hW⟩ : ∃ W, W = wr := ⟨_, rfl⟩
      subst hW
      have HBW := Lib.hid (HB4.out.trans (hbel.mono HB4.out.size))
      clear hbel
      go_wp2_with fail
      go_loopw [6, 10, 11] (fun v s t wr => ∃ (k : Nat) (done : List ByteArray), k < N ∧ s = .int .i64 k ∧ t = .int .i64 (Pl.rw l k).parent ∧ Reads wr v (Pl.refB done) ∧ (∀ z ∈ done, z ∈ Pl.consts D ∨ ∃ d : Int, 0 ≤ d ∧ d < l.length ∧ z = (Pl.rw l d).text) ∧ done ++ txts l (Pl.vis l k) = Pl.consts D ++ txts l (Pl.vis l i0) ∧ Below W.heap.size W wr) (fun _ s _ _ => (intOf s).toNat)
      case atStart => exact ⟨i0, Pl.consts D, by omega, rfl, by rw [HYr.out], HRd.out, fun z hz => .inl hz, rfl, Below.refl _ _⟩
      case round =>
        obtain ⟨k, done, hk, rfl, rfl, hrd, hel, heq, hbel⟩ := hrel
        have HRk := Lib.hid hrd
        have HEl := Lib.hid hel
        have HEq := Lib.hid heq
        have HB5 := Lib.hid hbel
        have hgr5 := hbel.size
        obtain ⟨hq1, hq2⟩ := ok_par HOk.out (k := k) (by omega) (by rw [← HN.out]; omega)
        have HVs := Lib.hid (Pl.vis_step HOk.out (k := k) (by omega) (by rw [← HN.out]; omega))
        obtain ⟨q, hq⟩ : ∃ q, q = (Pl.rw l k).parent := ⟨_, rfl⟩
        rw [← hq] at hq1 hq2 HVs ⊢
        clear hq hrd hel heq hbel
        by_cases hneg : q < 0
        · have HF : Hid (Pl.refB done = V0) := Lib.hid (by
            have h1 := HEq.out
            rw [HVs.out, if_pos hneg] at h1
            rw [HR.out, ← h1]; simp [txts])
          go_wp2_with fail
          go_ret
          exact ⟨_, rfl, by rw [← HF.out]; exact HRk.out, HBW.out.trans (HB5.out.mono HBW.out.size)⟩
        · obtain ⟨p, rfl⟩ : ∃ p : Nat, q = p := ⟨q.toNat, by omega⟩
          rw [if_neg hneg] at HVs
          have hpn : p < N := by omega
          have hpl : (p : Int) < l.length := by rw [← HN.out]; omega
          have hpp0 : (0 : Int) ≤ (p : Int) := Int.natCast_nonneg _
          have hpp1 : (p : Int) < (N : Int) := by omega
          have HD := Lib.hid (declared_any rb ro lc N l LR wr (HTb5.out.later HB5.out) HOk.out HN.out p k hpn hk)
          have HMm := Lib.hid (fun d hd => declared_mem (k := k) (d := d) HOk.out hpp0 hpl hd)
          obtain ⟨E, hE⟩ : ∃ E, E = Pl.declared l p k := ⟨_, rfl⟩
          rw [← hE] at HVs HD HMm
          clear hE
          go_wp2_with (go_at_call 50; refine HD.out.mono ?_; rintro e w6 ⟨ea, ec, rfl, hI, hb6⟩; have HI := Lib.hid hI; have HB6 := Lib.hid (HB5.out.trans (hb6.mono hgr5)); have HRd6 := Lib.hid (HRk.out.later hb6); have hgr6 := hb6.size; clear hb6 hI)
          obtain ⟨m2, hm2⟩ : ∃ m, m = E.length := ⟨_, rfl⟩
          have HM2 := Lib.hid hm2
          have hml2 : m2 ≤ maxLen := by rw [hm2]; exact HI.out.1
          unfold maxLen at hml2
          try rw [← hm2]
          clear hm2
          go_loopw [6, 13] (fun v s wr2 => ∃ j : Nat, j ≤ m2 ∧ s = .int .i64 j ∧ Reads wr2 v (Pl.refB (done ++ txts l (E.take j))) ∧ Below w6.heap.size w6 wr2) (fun _ s _ => m2 - (intOf s).toNat)
          case atStart => exact ⟨0, Nat.zero_le _, rfl, by simp [txts]; exact HRd6.out, Below.refl _ _⟩
          case round =>
            obtain ⟨j, hj, rfl, hrd7, hbel7⟩ := hrel
            have HRd7 := Lib.hid hrd7
            have HB7 := Lib.hid hbel7
            have hgr7 := hbel7.size
            have hElT : ∀ z ∈ done ++ txts l (E.take j), z ∈ Pl.consts D ∨ ∃ d : Int, 0 ≤ d ∧ d < l.length ∧ z = (Pl.rw l d).text := fun z hz => by
              rcases List.mem_append.1 hz with hz | hz
              · exact HEl.out z hz
              · obtain ⟨d, hd, rfl⟩ := List.mem_map.1 hz
                obtain ⟨h1, h2⟩ := HMm.out d (List.mem_of_mem_take hd)
                exact .inr ⟨d, h1, h2, rfl⟩
            by_cases hlt : j < m2
            · have hj0 : (0 : Int) ≤ (j : Int) := Int.natCast_nonneg _
              have hj1 : (j : Int) < (m2 : Int) := by omega
              have hjx : j < E.length := by rw [← HM2.out]; exact hlt
              have hgx := List.getElem?_eq_getElem hjx
              have hin := HMm.out _ (List.getElem_mem hjx)
              have HTk : Hid (txts l (E.take (j + 1)) = txts l (E.take j) ++ [(Pl.rw l E[j]).text]) := Lib.hid (by rw [List.take_succ_eq_append_getElem hjx, txts_append]; rfl)
              rcases HI.out.2 with h0 | ⟨kb, ko, hka, hkb, hat2⟩
              · rw [h0] at hjx; simp at hjx
              obtain rfl : ea = some ⟨kb, ko, none⟩ := hka
              have hc := (hbel7.cell (p := ⟨kb, ko + j, none⟩) hkb).trans (hat2 j _ hgx)
              generalize E[j] = d at *
              obtain ⟨e, rfl⟩ : ∃ e : Nat, d = e := ⟨d.toNat, by omega⟩
              have hel : e < l.length := by omega
              have he1 : (e : Int) < (N : Int) := by rw [HN.out]; omega
              have he0 : (0 : Int) ≤ (e : Int) := Int.natCast_nonneg _
              obtain ⟨yy, ry, _, hyr, _, _, y2, _⟩ := (HTb5.out.later (HB6.out.trans (hbel7.mono HB6.out.size))).row hel
              rw [hyr] at HTk
              have HC := Lib.hid (rinsert_any _ _ yy.text wr HRd7.out (by
                have := names_len (Pl.consts D) _ (by have h1 := HCl.out; have h2 := HM.out; omega) (by rw [← HN.out]; omega) hElT
                omega))
              rw [Pl.insB_refB, List.append_assoc, ← HTk.out] at HC
              clear hat2 hgx hin hel hyr hrd7 hbel7 hElT
              go_wp2_with (go_at_call 49; refine HC.out.mono ?_; rintro e w8 ⟨v8, rfl, hr8, hb8⟩; have HR8 := Lib.hid hr8; have HB8 := Lib.hid (HB7.out.trans (hb8.mono hgr7)); clear hr8 hb8)
              exact ⟨⟨j + 1, by omega, by go_num, HR8.out, HB8.out⟩, by simp [intOf]; omega⟩
            · have hjm : j = m2 := by omega
              subst hjm
              have HE : Hid (E.take j = E) := Lib.hid (by rw [HM2.out, List.take_length])
              rw [HE.out] at HRd7 hElT
              have HElT := Lib.hid hElT
              have HBA := Lib.hid (HB6.out.trans (hbel7.mono HB6.out.size))
              obtain ⟨yy, ry, _, hyr, yy0, yy1, _⟩ := (HTb5.out.later HBA.out).row (i := p) (by omega)
              rw [hyr] at HVs
              have HYR := Lib.hid hyr
              clear hyr hElT hrd7 hbel7
              by_cases hy : yy.kind = 2
              · have hk2 := (int_yes hy).1
                have HF : Hid (Pl.refB (done ++ txts l E) = V0) := Lib.hid (by
                  have h1 := HEq.out
                  rw [HVs.out, if_pos hy, List.append_nil] at h1
                  rw [HR.out, ← h1])
                clear hy
                go_wp2_with fail
                go_ret
                exact ⟨_, rfl, by rw [← HF.out]; exact HRd7.out, HBW.out.trans (HBA.out.mono HBW.out.size)⟩
              · have hk2 := (int_no hy).1
                have HF : Hid ((done ++ txts l E) ++ txts l (Pl.vis l p) = Pl.consts D ++ txts l (Pl.vis l i0)) := Lib.hid (by
                  have h1 := HEq.out
                  rw [HVs.out, if_neg hy, txts_append] at h1
                  rw [List.append_assoc]; exact h1)
                clear hy
                go_wp2_with fail
                exact ⟨⟨p, done ++ txts l E, hpn, rfl, by rw [HYR.out], HRd7.out, HElT.out, HF.out, HBA.out⟩, by simp [intOf]; omega⟩
theorem rvisible_any (a : Option Addr) (n c : Nat) (us : List Pl.Un) (R : Nat → Sl) (w : World) (hU : IsU w a us R) (hF : Few us) (hn : n = us.length) (p q : Int) :
    Calls Try.prog 18 #[.slice a n c, .agg #[.int .i64 p, .int .i64 q]] w (NamesP (Pl.visible us p q) w) := by
  cases h : Pl.exs (Pl.tbls us) p q with
  | false => exact visible_no a n c us R w hU hF hn p q h
  | true =>
    obtain ⟨u, i, l, rfl, rfl, hl, hi⟩ := exs_iff.1 h
    obtain ⟨x, hx, rfl, _⟩ := tbls_get hF hl
    exact visible_yes a n c us R w hU hF hn u i x hx hi
end Go.Proofs.Ytoelfiendfemaaa
