/- The walk of the reference's Uses. -/
import Derived.Test.YtoelfiendfemaaaUses
namespace Go.Proofs.Ytoelfiendfemaaa
open Go.RowKit Go.Deep
set_option linter.unusedVariables false
set_option linter.unusedSimpArgs false

set_option maxHeartbeats 3200000 in
set_option maxRecDepth 100000 in
theorem ruses_any (a : Option Addr) (n c : Nat) (us : List Pl.Un) (R : Nat → Sl) (w : World) (hU : IsU w a us R) (hF : Few us) (hn : n = us.length) :
    Calls Try.prog 13 #[.slice a n c] w (UsesP (Pl.uses us) w) := by
  obtain ⟨i0, hi0, hz0, hz1, hz2⟩ := info_parts infoU
  have hn4 : n ≤ 4 := by rw [hn]; exact hF.1
  have HD := Lib.hid (rdecls_any a n c us R w hU hF hn)
  have HTb := Lib.hid (fun w1 (h : Below w.heap.size w w1) => tables_any a n c us R w1 (hU.later h) hF hn)
  have HF := Lib.hid hF
  have HN : Hid (n = (Pl.tbls us).length) := Lib.hid (by unfold Pl.tbls; rw [List.length_map]; exact hn)
  have HU2 : Hid (Pl.uses us = Pl.usesUp (Pl.decls us) (Pl.tbls us) n) := Lib.hid (by unfold Pl.uses; rw [hn])
  have HLen := Lib.hid (usesUp_len (Pl.decls us) (Pl.tbls us) (fun l hl => by obtain ⟨j, hj⟩ := List.getElem?_of_mem hl; exact (tbls_get hF hj).choose_spec.2.2.2))
  have HG := Lib.hid (fun j l (h : (Pl.tbls us)[j]? = some l) => tbls_get hF h)
  clear hU hF hn
  obtain ⟨D, hD⟩ : ∃ D, D = Pl.decls us := ⟨_, rfl⟩
  rw [← hD] at HD HU2 HLen
  generalize Pl.tbls us = T at *
  generalize Pl.uses us = L0 at *
  clear hD
  go_enter Try.func13, Try.ntmps13
  go_wp2_with (first
    | (go_at_call 38; refine HD.out.mono ?_; rintro e w2 ⟨da, dc, rfl, hda, hb2⟩; have HDA := Lib.hid hda; have HB2 := Lib.hid hb2; clear hda hb2)
    | (go_at_call 24; refine (HTb.out _ HB2.out).mono ?_; rintro e w3 ⟨ta, tc, rfl, hta, hb3⟩; have HTA := Lib.hid hta; have HDA3 := Lib.hid (FlatW.later HDA.out hb3); have HB3 := Lib.hid (HB2.out.trans (hb3.mono HB2.out.size)); clear hta hb3))
  rw [← HN.out]
  go_loopw [5, 6] (fun v i wr => ∃ (k : Nat) (a2 : Option Addr) (n2 c2 : Nat), k ≤ n ∧ i = .int .i64 k ∧ v = .slice a2 n2 c2 ∧ n2 = (Pl.usesUp D T k).length ∧ wr.ownsRow w3.heap.size 42 5 (.slice a2 n2 c2) n2 ((Pl.usesUp D T k).flatMap cellsU) ∧ Below w3.heap.size w3 wr) (fun _ i _ => n - (intOf i).toNat)
  case atStart => exact ⟨0, none, 0, 0, Nat.zero_le _, rfl, rfl, rfl, World.ownsRow_nil _ _ _ _, Below.refl _ _⟩
  case round =>
    obtain ⟨k, a2, n2, c2, hk, rfl, rfl, hn2, hown, hbel⟩ := hrel
    have HN2 := Lib.hid hn2
    have HO := Lib.hid hown
    have HB := Lib.hid hbel
    have hgr := hbel.size
    by_cases hlt : k < n
    · have hkx : k < T.length := by rw [← HN.out]; exact hlt
      have hx := List.getElem?_eq_getElem hkx
      have HS := Lib.hid (Pl.usesUp_succ D T k _ hx)
      have hdl := HLen.out k (by omega)
      obtain ⟨x, hux, hxt, hok, hll⟩ := HG.out k _ hx
      obtain ⟨tb, tof, la, lc, LR, rfl, htb, htc, hti⟩ := HTA.out.one hx
      have hk0 : (0 : Int) ≤ (k : Int) := Int.natCast_nonneg _
      have hk1 : (k : Int) < (n : Int) := by omega
      have hle : n2 ≤ 800 := by rw [hn2]; omega
      generalize T[k] = l at *
      obtain ⟨m, hm⟩ : ∃ m, m = l.length := ⟨_, rfl⟩
      rw [← hm] at htc hll
      have HM := Lib.hid hm
      have HOk := Lib.hid hok
      have HTI := Lib.hid hti
      clear hx hux hxt hn2 hown hti hok hm
      have tcr := (hbel.cell (p := ⟨tb, tof + k, none⟩) htb).trans htc
      clear hbel
      go_wp2_with fail
      go_loopw [5, 7] (fun v i wr => ∃ (q : Nat) (a2 : Option Addr) (n2 c2 : Nat), q ≤ m ∧ i = .int .i64 q ∧ v = .slice a2 n2 c2 ∧ n2 = (Pl.usesUp D T k ++ Pl.usesTo D l k q).length ∧ wr.ownsRow w3.heap.size 42 5 (.slice a2 n2 c2) n2 ((Pl.usesUp D T k ++ Pl.usesTo D l k q).flatMap cellsU) ∧ Below w3.heap.size w3 wr) (fun _ i _ => m - (intOf i).toNat)
      case atStart => exact ⟨0, a2, n2, c2, Nat.zero_le _, rfl, rfl, by simp [Pl.usesTo]; exact HN2.out, by simp [Pl.usesTo]; exact HO.out, HB.out⟩
      case round =>
        obtain ⟨q, a4, n4, c4, hq, rfl, rfl, hn4', hown4, hbel4⟩ := hrel
        have HN4 := Lib.hid hn4'
        have HO4 := Lib.hid hown4
        have HB4 := Lib.hid hbel4
        have hgr4 := hbel4.size
        have tcr := (hbel4.cell (p := ⟨tb, tof + k, none⟩) htb).trans htc
        by_cases hlt2 : q < m
        · have hql : q < l.length := by rw [← HM.out]; exact hlt2
          have hul := usesTo_len D l k q
          have hle4 : n4 ≤ 1000 := by rw [hn4', List.length_append]; omega
          obtain ⟨rb, ro, rfl, hTb⟩ := tb_of HTI.out (by omega)
          have HSt := Lib.hid (Pl.usesTo_succ D l k q)
          have hTr := hTb.later hbel4
          obtain ⟨y, r, hgy, hyr, _, _, _, _, _, _, hat⟩ := hTr.row hql
          have hq0 : (0 : Int) ≤ (q : Int) := Int.natCast_nonneg _
          have hq1 : (q : Int) < (m : Int) := by omega
          have HAT := Lib.hid hat
          have HIs := Lib.hid (fun gv kv w => isUse_any y.parent y.kind y.text gv kv w)
          have HFo := Lib.hid (fun w5 (h : Below wr.heap.size wr w5) => found_any rb ro lc m l LR w5 (hTr.later h) HOk.out HM.out D da dc D.length (FlatW.later (FlatW.later HDA3.out HB4.out) h) rfl (k : Int) q hlt2 (fun v hv => (var_mem HOk.out (by omega) (by omega) hv).1))
          have hsp : Pl.spc (Pl.rw l q) = Pl.space y.kind y.text := by rw [hyr]; rfl
          by_cases hs : Pl.space y.kind y.text = 0
          · have HU1 : Hid (Pl.usesTo D l k (q + 1) = Pl.usesTo D l k q) := Lib.hid (by rw [HSt.out]; unfold Pl.use1; rw [hsp, if_pos hs]; simp)
            have HIs2 : Hid (∀ gv kv w, Calls Try.prog 39 #[.agg #[.int .i64 y.parent, .int .i64 y.kind, .string y.text, gv, kv]] w fun e w' => e = .returned (.bool false) ∧ Below w.heap.size w w') := Lib.hid (fun gv kv w => by have := HIs.out gv kv w; rw [hs] at this; simpa using this)
            clear hn4' hown4 hbel4 hTb hTr hgy hyr hat hsp hs HIs
            go_wp2_with (first
              | (refine wpList_load_mid rfl 47 _ rfl rb (ro + q * 5) rfl (cells5 (y, r)) _ HAT.out Try.underlying47 rfl sizeR ?_)
              | (go_at_call 39; refine (HIs2.out _ _ _).mono ?_; rintro e w5 ⟨rfl, hb5⟩; have HB5 := Lib.hid (HB4.out.trans (hb5.mono hgr4)); have HO5 := Lib.hid (owns_later HO4.out hb5); clear hb5))
            exact ⟨⟨q + 1, a4, n4, c4, by omega, by go_num, rfl, by rw [HU1.out]; exact HN4.out, by rw [HU1.out]; exact HO5.out, HB5.out⟩, by simp [intOf]; omega⟩
          · have HU1 : Hid (Pl.usesTo D l k (q + 1) = Pl.usesTo D l k q ++ [⟨k, q, (fv (Pl.found D l k q)).1, (fv (Pl.found D l k q)).2, (Pl.found D l k q).isSome⟩]) := Lib.hid (by rw [HSt.out]; unfold Pl.use1; rw [hsp, if_neg hs, mkUse_eq]; rfl)
            have HIs2 : Hid (∀ gv kv w, Calls Try.prog 39 #[.agg #[.int .i64 y.parent, .int .i64 y.kind, .string y.text, gv, kv]] w fun e w' => e = .returned (.bool true) ∧ Below w.heap.size w w') := Lib.hid (fun gv kv w => by have := HIs.out gv kv w; simpa [hs] using this)
            generalize Pl.found D l k q = fo at *
            clear hn4' hown4 hbel4 hTb hTr hgy hyr hat hsp hs HIs
            go_wp2_with (first
              | (refine wpList_load_mid rfl 47 _ rfl rb (ro + q * 5) rfl (cells5 (y, r)) _ HAT.out Try.underlying47 rfl sizeR ?_)
              | (go_at_call 39; refine (HIs2.out _ _ _).mono ?_; rintro e w5 ⟨rfl, hb5⟩; have HB5 := Lib.hid hb5; have tc5 := (hb5.cell (p := ⟨tb, tof + k, none⟩) (by show tb < wr.heap.size; omega)).trans tcr; have hz5 := hb5.size; clear hb5)
              | (go_at_call 40; refine (HFo.out _ HB5.out).mono ?_; rintro e w6 ⟨he, hb6⟩; rw [foundV_eq] at he; subst he; have HB6 := Lib.hid (HB5.out.trans (hb6.mono HB5.out.size)); have hz6 := hb6.size; clear hb6)
              | (at_builtin; refine wpList_append_lies _ rfl (.tmp 48) (.tmp 55) 26 rfl w3.heap.size 42 i0 _ 5 40 Try.underlying26 hi0 hz0 hz1 hz2 rfl (by omega) (.slice a4 n4 c4) n4 ((Pl.usesUp D T k ++ Pl.usesTo D l k q).flatMap cellsU) rfl (((owns_later HO4.out HB6.out).alloc _).alloc _) ⟨w6.heap.size + 1, 0, none⟩ 1 1 (cellsU ⟨k, q, (fv fo).1, (fv fo).2, fo.isSome⟩) rfl rfl (World.news_of_block (cs := #[.int .i64 k, .int .i64 q, .int .i64 (fv fo).1, .int .i64 (fv fo).2, .bool fo.isSome]) (t := 42) (fr := (0, 0)) (heap_at2 w6 _ _)) (by simp [Value.oneCell', cellsU]) (by omega) (by unfold maxLen; omega) (by omega) (by simp; omega) (w6.heap.size + 1 + 1) (by simp) ?_; intro g7 cap7 w7 hown7 hgrow7 hat7 hlt7; have HO7 := Lib.hid hown7; have HG7 := Lib.hid hgrow7; clear hown7 hgrow7 hat7))
            have hlen : (Pl.usesUp D T k ++ Pl.usesTo D l k (q + 1)).length = n4 + 1 := by rw [HU1.out, ← List.append_assoc, List.length_append, ← HN4.out]; rfl
            refine ⟨⟨q + 1, some ⟨g7, 0, none⟩, n4 + 1, cap7, by omega, by go_num, rfl, hlen.symm, by rw [HU1.out, ← List.append_assoc, flatten_snoc]; exact HO7.out, ?_⟩, by simp [intOf]; omega⟩
            exact (((HB4.out.trans (HB6.out.mono hgr4)).alloc (by omega) _).alloc (by simp; omega) _).grown HG7.out (by simp; omega) (fun z hz => (HO4.out.lt z hz).1)
        · have hqm : q = m := by omega
          subst hqm
          have HE : Hid (Pl.usesUp D T (k + 1) = Pl.usesUp D T k ++ Pl.usesTo D l k q) := Lib.hid (by rw [HS.out, HM.out])
          clear hn4' hown4 hbel4
          go_wp2_with fail
          exact ⟨⟨k + 1, a4, n4, c4, by omega, by go_num, rfl, by rw [HE.out]; exact HN4.out, by rw [HE.out]; exact HO4.out, HB4.out⟩, by simp [intOf]; omega⟩
    · have hkn : k = n := by omega
      subst hkn
      clear hn2 hown hbel
      go_wp2_with fail
      go_ret
      obtain ⟨a3, c3, he, hf⟩ := flat_row (cl := cellsU) (fun _ => rfl) (by decide) HO.out HN2.out
      exact ⟨a3, c3, by rw [he, HU2.out]; rfl, by rw [HU2.out]; exact hf, HB3.out.trans (HB.out.mono HB3.out.size)⟩
end Go.Proofs.Ytoelfiendfemaaa
