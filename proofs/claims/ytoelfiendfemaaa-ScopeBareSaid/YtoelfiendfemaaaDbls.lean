/- The walk of the reference's Doubles. -/
import Derived.Test.YtoelfiendfemaaaDbl
namespace Go.Proofs.Ytoelfiendfemaaa
open Go.RowKit Go.Deep
set_option linter.unusedVariables false
set_option linter.unusedSimpArgs false

theorem dblTo_succ (T : List (List Pl.Rw)) (D : List Pl.Dc) (k : Nat) (d x : Pl.Dc) (h : D[k]? = some x) : Pl.dblTo T D (k + 1) d = (Pl.dblTo T D k d || Pl.dbl T x d) := by
  unfold Pl.dblTo
  rw [List.take_add_one, h, Option.toList_some, List.any_append]
  simp
theorem decls_len (us : List Pl.Un) (hF : Few us) : (Pl.decls us).length ≤ 800 := by
  have h1 := declsTo_len us hF us.length (Nat.le_refl _)
  have := hF.1
  unfold Pl.decls
  omega
set_option maxHeartbeats 3200000 in
set_option maxRecDepth 100000 in
theorem rdoubles_any (a : Option Addr) (n c : Nat) (us : List Pl.Un) (R : Nat → Sl) (w : World) (hU : IsU w a us R) (hF : Few us) (hn : n = us.length) :
    Calls Try.prog 23 #[.slice a n c] w (RefsP (Pl.doubles us) w) := by
  obtain ⟨i0, hi0, hz0, hz1, hz2⟩ := info_parts infoF
  have HTb := Lib.hid (tables_any a n c us R w hU hF hn)
  have HD := Lib.hid (fun w1 (h : Below w.heap.size w w1) => rdecls_any a n c us R w1 (hU.later h) hF hn)
  have HU : Hid (Pl.doubles us = Pl.dbls (Pl.tbls us) (Pl.decls us) (Pl.decls us).length) := Lib.hid rfl
  have HIn := Lib.hid (fun d hd => decls_in hF (d := d) hd)
  have hdl := decls_len us hF
  clear hU hF hn
  generalize Pl.decls us = D at *
  generalize Pl.tbls us = T at *
  generalize Pl.doubles us = L0 at *
  go_enter Try.func23, Try.ntmps23
  go_wp2_with (first
    | (go_at_call 24; refine HTb.out.mono ?_; rintro e w2 ⟨ta, tc, rfl, hta, hb2⟩; have HTA := Lib.hid hta; have HB2 := Lib.hid hb2; clear hta hb2)
    | (go_at_call 38; refine (HD.out _ HB2.out).mono ?_; rintro e w3 ⟨da, dc, rfl, hda, hb3⟩; have HDA := Lib.hid hda; have HTA3 := Lib.hid (HTA.out.later hb3); have HB3 := Lib.hid (HB2.out.trans (hb3.mono HB2.out.size)); clear hda hb3))
  obtain ⟨m, hm⟩ : ∃ m, m = D.length := ⟨_, rfl⟩
  rw [← hm] at hdl
  have HM := Lib.hid hm
  try rw [← hm]
  clear hm
  go_loopw [5, 6] (fun v i wr => ∃ (k : Nat) (a2 : Option Addr) (n2 c2 : Nat), k ≤ m ∧ i = .int .i64 k ∧ v = .slice a2 n2 c2 ∧ n2 = (Pl.dbls T D k).length ∧ n2 ≤ k ∧ wr.ownsRow w3.heap.size 29 2 (.slice a2 n2 c2) n2 ((Pl.dbls T D k).flatMap cellsR) ∧ Below w3.heap.size w3 wr) (fun _ i _ => m - (intOf i).toNat)
  case atStart => exact ⟨0, none, 0, 0, Nat.zero_le _, rfl, rfl, rfl, Nat.le_refl _, World.ownsRow_nil _ _ _ _, Below.refl _ _⟩
  case round =>
    obtain ⟨k, a2, n2, c2, hk, rfl, rfl, hn2, hle, hown, hbel⟩ := hrel
    have HN2 := Lib.hid hn2
    have HO := Lib.hid hown
    have HB := Lib.hid hbel
    have hgr := hbel.size
    by_cases hlt : k < m
    · have hkx : k < D.length := by rw [← HM.out]; exact hlt
      have hx := List.getElem?_eq_getElem hkx
      have HS := Lib.hid (Pl.dbls_succ T D k _ hx)
      have HInx := HIn.out _ (List.getElem_mem hkx)
      obtain ⟨db, doo, rfl, hdb, hrg⟩ := HDA.out.one hx
      have hk0 : (0 : Int) ≤ (k : Int) := Int.natCast_nonneg _
      have hk1 : (k : Int) < (m : Int) := by omega
      have HGx := Lib.hid hx
      generalize D[k] = x at *
      have HRg := Lib.hid hrg
      clear hx hrg hn2 hown hbel
      go_wp2_with fail
      go_loopw [7, 8] (fun v i wr => ∃ (j : Nat), j ≤ k ∧ i = .int .i64 j ∧ v = .bool (Pl.dblTo T D j x) ∧ wr.ownsRow w3.heap.size 29 2 (.slice a2 n2 c2) n2 ((Pl.dbls T D k).flatMap cellsR) ∧ Below w3.heap.size w3 wr) (fun _ i _ => k - (intOf i).toNat)
      case atStart => exact ⟨0, Nat.zero_le _, rfl, rfl, HO.out, HB.out⟩
      case round =>
        obtain ⟨j, hj, rfl, rfl, hown4, hbel4⟩ := hrel
        have HO4 := Lib.hid hown4
        have HB4 := Lib.hid hbel4
        have hgr4 := hbel4.size
        by_cases hlt2 : j < k
        · have hjm : j < m := by omega
          have hjx : j < D.length := by rw [← HM.out]; exact hjm
          have hgy := List.getElem?_eq_getElem hjx
          have HSt := Lib.hid (dblTo_succ T D j x _ hgy)
          have HIny := HIn.out _ (List.getElem_mem hjx)
          obtain ⟨db', doo', he2, hdb', hrg'⟩ := HDA.out.one hgy
          obtain ⟨rfl, rfl⟩ : db' = db ∧ doo' = doo := by
            injection he2 with he2
            injection he2 with he2 he3
            exact ⟨he2.symm, he3.symm⟩
          have hj0 : (0 : Int) ≤ (j : Int) := Int.natCast_nonneg _
          have hj1 : (j : Int) < (m : Int) := by omega
          generalize D[j] = y at *
          obtain ⟨d0, d1, d2, d3, d4⟩ := cellsD_at (fun i v hv => (hbel4.cell (p := ⟨db', doo' + k * 5 + i, none⟩) hdb).trans (HRg.out i v hv))
          obtain ⟨f0, f1, f2, f3, f4⟩ := cellsD_at (fun i v hv => (hbel4.cell (p := ⟨db', doo' + j * 5 + i, none⟩) hdb).trans (hrg' i v hv))
          clear he2 hrg' hgy
          cases hd : Pl.dblTo T D j x with
          | true =>
            have HN : Hid (Pl.dblTo T D (j + 1) x = true) := Lib.hid (by rw [HSt.out, hd]; rfl)
            clear hd hown4 hbel4
            go_wp2_with fail
            go_quiet (fail)
            go_wp2_with fail
            have hsm : Below wr.heap.size wr (wr.drewN nq) := below_drewN wr nq
            exact ⟨⟨j + 1, by omega, by go_num, by rw [HN.out], owns_later HO4.out hsm, HB4.out.trans (hsm.mono hgr4)⟩, by simp [intOf]; omega⟩
          | false =>
            have HN : Hid (Pl.dblTo T D (j + 1) x = Pl.dbl T y x) := Lib.hid (by rw [HSt.out, hd]; rfl)
            have HDb := Lib.hid (fun z (hz : Below wr.heap.size wr z) => double_any ta T.length tc T y x z ((HTA3.out.later hbel4).later hz) rfl HIny HInx)
            have hdbw : db' < wr.heap.size := by omega
            have HDR : Hid (∀ (wx : World) (x f : Nat), wx.drew.cell? ⟨x, f, none⟩ = wx.cell? ⟨x, f, none⟩) := Lib.hid fun _ _ _ => rfl
            generalize Pl.dbl T y x = b1 at *
            clear hd hown4 hbel4
            go_wp2_with fail
            go_region_held3 (fun w' => ∀ f : Nat, w'.cell? ⟨db', f, none⟩ = wr.cell? ⟨db', f, none⟩)
              ((intro f; iterate 4 (first
                | (with_reducible exact rfl)
                | (with_reducible exact HQ.out f)
                | (with_reducible refine (HDR.out _ _ _).trans ?_)
                | skip)))
              ((go_at_call 52; refine (HDb.out wr.drew (Below.refl wr.heap.size wr).drew).mono ?_; rintro e w7 ⟨rfl, hb7'⟩;
                have hb7 : Below wr.heap.size wr w7 := (Below.refl wr.heap.size wr).drew.trans hb7';
                have HQ : Hid (∀ f : Nat, w7.cell? ⟨db', f, none⟩ = wr.cell? ⟨db', f, none⟩) := Lib.hid (fun f => hb7.cell (p := ⟨db', f, none⟩) hdbw);
                have HB7 := Lib.hid hb7; clear hb7 hb7'))
            go_wp2_with fail
            exact ⟨⟨j + 1, by omega, by go_num, by rw [HN.out], owns_later HO4.out HB7.out, HB4.out.trans (HB7.out.mono hgr4)⟩, by simp [intOf]; omega⟩
        · have hjk : j = k := by omega
          subst hjk
          obtain ⟨d0, d1, d2, d3, d4⟩ := cellsD_at (fun i v hv => (hbel4.cell (p := ⟨db, doo + j * 5 + i, none⟩) hdb).trans (HRg.out i v hv))
          clear hown4 hbel4
          cases hd : Pl.dblTo T D j x with
          | true =>
            have HN : Hid (Pl.dbls T D (j + 1) = Pl.dbls T D j ++ [(x.unit, x.node)]) := Lib.hid (by rw [HS.out, hd]; rfl)
            clear hd
            go_wp2_with (at_builtin; refine wpList_append_lies _ rfl (.tmp 38) (.tmp 44) 37 rfl w3.heap.size 29 i0 _ 2 16 Try.underlying37 hi0 hz0 hz1 hz2 rfl (by omega) (.slice a2 n2 c2) n2 ((Pl.dbls T D j).flatMap cellsR) rfl (HO4.out.alloc _) ⟨wr.heap.size, 0, none⟩ 1 1 (cellsR (x.unit, x.node)) rfl rfl (World.news_of_block (cs := #[.int .i64 x.unit, .int .i64 x.node]) (t := 29) (fr := (0, 0)) (heap_alloc_new wr _)) (by simp [Value.oneCell', cellsR]) (by omega) (by unfold maxLen; omega) (by omega) (by simp; omega) (wr.heap.size + 1) (by simp) ?_; intro g5 cap5 w5 hown5 hgrow5 hat5 hlt5; have HO5 := Lib.hid hown5; have HG5 := Lib.hid hgrow5; clear hown5 hgrow5 hat5)
            have hlen : (Pl.dbls T D (j + 1)).length = n2 + 1 := by rw [HN.out, List.length_append, ← HN2.out]; rfl
            refine ⟨⟨j + 1, some ⟨g5, 0, none⟩, n2 + 1, cap5, by omega, by go_num, rfl, hlen.symm, by omega, by rw [HN.out, flatten_snoc]; exact HO5.out, ?_⟩, by simp [intOf]; omega⟩
            exact (HB4.out.alloc hgr4 _).grown HG5.out (by simp; omega) (fun z hz => (HO4.out.lt z hz).1)
          | false =>
            have HN : Hid (Pl.dbls T D (j + 1) = Pl.dbls T D j) := Lib.hid (by rw [HS.out, hd]; simp)
            clear hd
            go_wp2_with fail
            exact ⟨⟨j + 1, a2, n2, c2, by omega, by go_num, rfl, by rw [HN.out]; exact HN2.out, by omega, by rw [HN.out]; exact HO4.out, HB4.out⟩, by simp [intOf]; omega⟩
    · have hkm : k = m := by omega
      subst hkm
      have HE : Hid (Pl.dbls T D k = L0) := Lib.hid (by rw [HU.out, HM.out])
      clear hn2 hown hbel
      go_wp2_with fail
      go_ret
      obtain ⟨a3, c3, he, hf⟩ := flat_row (cl := cellsR) (fun _ => rfl) (by decide) HO.out HN2.out
      exact ⟨a3, c3, by rw [he, HE.out]; rfl, by rw [← HE.out]; exact hf, HB3.out.trans (HB.out.mono HB3.out.size)⟩
end Go.Proofs.Ytoelfiendfemaaa
