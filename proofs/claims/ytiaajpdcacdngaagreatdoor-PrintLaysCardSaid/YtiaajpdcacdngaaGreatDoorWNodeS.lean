/- The walk of walkNode and walk with source's step. -/
import Derived.Test.YtiaajpdcacdngaaGreatDoorWNext
import Derived.Deep.DeepCutAuto
import Derived.Deep.RegionWith
namespace Go.Proofs.YtiaajpdcacdngaaGreatDoor
open Go.RowKit
set_option linter.unusedVariables false
set_option linter.unusedSimpArgs false

set_option maxRecDepth 100000 in
set_option maxHeartbeats 3200000 in
theorem nodeS_step (B1 B2 : Nat) (T : List Ev) (Inv : List Ev → World → Prop) (hS : Step 54 (fun v => #[v, .pointer (some ⟨B1, 0, none⟩), .pointer (some ⟨B2, 0, none⟩)]) T Inv) (k : Int) (s : ByteArray) (g : List ByteArray) (ks : List LT) (r : Sl) (b o L : Nat) (f : ByteArray)
    (har : Pl.Ar k ks.length) (hn : ks.length ≤ 100000) (hL : L ≤ 900)
    (hN : ∀ D w, Inv D w → Nd w b o k s (.slice r.da ks.length r.dc)) (hda : ks = [] ∨ r.da = some ⟨kb r, ko r, none⟩)
    (ih : ∀ (j : Nat) u, ks[j]? = some u → ∀ f D w, (D ++ evL u (kb r) (ko r + j * 4) (Pl.inside k L) f) <+: T → Inv D w → Calls Tryz.prog 49 #[.pointer (some ⟨kb r, ko r + j * 4, none⟩), .int .i64 (Pl.inside k L : Nat), .string f, .func (.func 54) #[] #[.pointer (some ⟨B1, 0, none⟩), .pointer (some ⟨B2, 0, none⟩)]] w (NodeP Inv D (evL u (kb r) (ko r + j * 4) (Pl.inside k L) f) w))
    (D : List Ev) (w : World) (hT : (D ++ evL (.node k s g ks r) b o L f) <+: T) (hI : Inv D w) :
    Calls Tryz.prog 49 #[.pointer (some ⟨b, o, none⟩), .int .i64 (L : Nat), .string f, .func (.func 54) #[] #[.pointer (some ⟨B1, 0, none⟩), .pointer (some ⟨B2, 0, none⟩)]] w (NodeP Inv D (evL (.node k s g ks r) b o L f) w) := by
  rw [evL_node] at hT ⊢
  obtain ⟨il, hil⟩ : ∃ il, il = Pl.inside k L := ⟨_, rfl⟩
  rw [← hil] at hT ⊢
  simp only [← hil] at ih
  obtain ⟨ps, hps⟩ : ∃ ps, ps = Pl.parts k s ks.length L := ⟨_, rfl⟩
  obtain ⟨m, hm⟩ : ∃ m, m = ps.length := ⟨_, rfl⟩
  obtain ⟨n, hnn⟩ : ∃ n, n = ks.length := ⟨_, rfl⟩
  have hcase : ∃ nv : Int, ((il : Nat) : Int) = nv ∧ ((k = 6 ∧ nv = (L : Int) + 1) ∨ (k = 7 ∧ nv = (L : Int) + 1) ∨ ((k == 6) = false ∧ (k == 7) = false ∧ nv = L)) := by
    refine ⟨_, rfl, ?_⟩
    rw [hil]
    unfold Pl.inside
    by_cases h6 : k = 6
    · left; exact ⟨h6, by rw [if_pos (.inl h6)]; omega⟩
    by_cases h7 : k = 7
    · right; left; exact ⟨h7, by rw [if_pos (.inr h7)]; omega⟩
    · right; right; exact ⟨beq_eq_false_iff_ne.2 h6, beq_eq_false_iff_ne.2 h7, by rw [if_neg (by omega)]⟩
  obtain ⟨nv, hnv, hcase⟩ := hcase
  simp only [hnv] at ih
  have hmb : m ≤ 300000 := by
    have := parts_len k s ks.length L har
    rw [hm, hps]; omega
  have HPK := Lib.hid (fun q (hq : q < ps.length) (hk : ps[q].kid ≠ -1) => (show ∃ j : Nat, j < n ∧ ps[q].kid = j from by subst hps hnn; exact part_kid k s ks.length L har q hq hk))
  have HP := Lib.hid (PartsP.row (m := m) (parts_any k ks.length L b o s r.da r.dc w har hn (by omega) (hN D w hI)) (by rw [hm, hps]))
  rw [← hps] at HP
  rw [← hps] at hT ⊢
  have HOW := Lib.hid (fun q => owns_le (Pl.fixF f ps) q)
  have HFL := Lib.hid (Pl.fixF_len f ps)
  have HO := Lib.hid (fun q h hk => step_own (D := D) (T := T) b o g r (fun j gp => (evK ks (kb r) (ko r)).getD j (fun _ _ => []) il gp) f ps q h hk hT)
  have HK := Lib.hid (fun q h j hk => step_kid (D := D) (T := T) b o g r (fun j gp => (evK ks (kb r) (ko r)).getD j (fun _ _ => []) il gp) f ps q h j hk hT)
  have HIH := Lib.hid ih
  have HS := Lib.hid hS
  have HN := Lib.hid hN
  have HI := Lib.hid hI
  have HDA := Lib.hid hda
  have HM := Lib.hid hm
  have HNN := Lib.hid hnn
  obtain ⟨F, hF⟩ : ∃ F : Nat → List Ev, F = fun q => Pl.lin (fun i p => (⟨b, o, i, p.gap, p.text, g, r⟩ : Ev)) (fun j gp => (evK ks (kb r) (ko r)).getD j (fun _ _ => []) il gp) 0 ((Pl.fixF f ps).take q) := ⟨_, rfl⟩
  have HF0 : Hid (F 0 = []) := Lib.hid (by rw [hF]; rfl)
  have HFm : Hid (F m = Pl.lin (fun i p => (⟨b, o, i, p.gap, p.text, g, r⟩ : Ev)) (fun j gp => (evK ks (kb r) (ko r)).getD j (fun _ _ => []) il gp) 0 (Pl.fixF f ps)) := Lib.hid (by rw [hF, hm]; simp only; rw [List.take_of_length_le (by rw [HFL.out]; exact Nat.le_refl _)])
  have HFE := Lib.hid hF
  have HNW := Lib.hid (hN D w hI)
  have x0 := (hN D w hI).c0
  rw [← HFm.out]
  clear hT hps hm hnn hnv hil ih hS hN hI hda hF
  rcases hcase with ⟨rfl, rfl⟩ | ⟨rfl, rfl⟩ | ⟨b6, b7, rfl⟩
  all_goals
    go_enter Tryz.func49, Tryz.ntmps49
    go_wp2_with (go_at_call 71; refine HP.out.mono ?_; rintro e w1 ⟨a1, c1, rfl, ho1, hb1⟩; have HO1 := Lib.hid ho1; have HB1 := Lib.hid hb1; have hs1 := hb1.size; clear ho1 hb1)
    by_cases hm0 : m = 0
    · subst hm0
      refine wp_loop_rounds 1 ?_; rw [rounds_succ]
      go_wp2_with fail
      go_end0
      exact ⟨rfl, by rw [HF0.out, List.append_nil]; exact HS.out.keep _ _ _ HI.out HB1.out, .of HB1.out⟩
    obtain ⟨gb, cur, rfl, hgb, hcells⟩ := owns_block HO1.out (by omega)
    have HP0 := Lib.hid (patof_cells hcells)
    have HGB0 := Lib.hid hgb
    clear hcells hgb
    go_loopw [2, 9, 31] (fun u2 u9 u31 wr => ∃ (q : Nat) (gq : ByteArray), q ≤ m ∧ u31 = .int .i64 q ∧ u2 = .string gq ∧ Hid (q = 0 → gq = f) ∧ u9 = .int .i64 ((Pl.owns ((Pl.fixF f ps).take q)).length : Nat) ∧ Hid (Inv (D ++ F q) wr) ∧ Hid (KeepP w wr) ∧ Hid (wr.heap[gb]? = some (.cells cur 89 (0, 0)))) (fun _ _ u _ => m - (intOf u).toNat)
    case atStart => exact ⟨0, f, Nat.zero_le _, rfl, rfl, Lib.hid (fun _ => rfl), rfl, Lib.hid (by rw [HF0.out, List.append_nil]; exact HS.out.keep _ _ _ HI.out HB1.out), Lib.hid (.of HB1.out), HGB0⟩
    case round =>
      obtain ⟨q, gq, hq, rfl, rfl, HGQ, rfl, HIr, HA, HGB⟩ := hrel
      have HPr := Lib.hid (HP0.out.of (HGB.out.trans HGB0.out.symm))
      by_cases hlt : q < m
      · have hql : q < ps.length := by rw [← HM.out]; exact hlt
        have hrange := HPr.out q _ (List.getElem?_eq_getElem hql)
        have HOq := Lib.hid (HO.out q hql)
        have HKq := Lib.hid (HK.out q hql)
        have HPKq := Lib.hid (HPK.out q hql)
        have HC := Lib.hid (own_cnt f ps q hql)
        have hol : (Pl.owns ((Pl.fixF f ps).take q)).length ≤ 300000 := by have := HOW.out q; rw [HFL.out, ← HM.out] at this; omega
        obtain ⟨oc, hoc⟩ : ∃ oc, oc = (Pl.owns ((Pl.fixF f ps).take q)).length := ⟨_, rfl⟩
        rw [← hoc] at hol HC HOq ⊢
        have HOC := Lib.hid hoc
        generalize ps[q] = p at *
        obtain ⟨pg, pt, pk⟩ := p
        have HR := Lib.hid hrange
        clear hrange hoc
        obtain ⟨ge, hge⟩ : ∃ ge, ge = (if q = 0 then f else pg) := ⟨_, rfl⟩
        simp only at HOq HKq HPKq HC HR
        rw [← hge] at HOq HKq
        have HGE := Lib.hid hge
        clear hge
        by_cases hk : pk = -1
        · subst hk
          obtain ⟨hpre0, hnext⟩ := HOq.out rfl
          have hpre : (D ++ F q ++ [⟨b, o, oc, ge, pt, g, r⟩]) <+: T := by rw [HFE.out]; exact hpre0
          have HCall := Lib.hid (HS.out.call (D ++ F q) _ hpre (wr.alloc (.cells #[.string pg, .string pt, .int .i64 (-1)] 89)) (HS.out.keep _ _ _ HIr.out (box_low _ _)))
          have HNX : Hid (F (q + 1) = F q ++ [⟨b, o, oc, ge, pt, g, r⟩]) := Lib.hid (by rw [HFE.out]; exact hnext)
          have HC1 : Hid ((Pl.owns ((Pl.fixF f ps).take (q + 1))).length = oc + 1) := Lib.hid (by have := HC.out; rw [if_pos rfl] at this; exact this)
          clear hpre0 hpre hnext HOq HKq HPKq HC
          by_cases hq0 : q = 0
          · have e1 : gq = f := HGQ.out hq0
            have e2 : ge = f := by rw [HGE.out, if_pos hq0]
            have d1 : decide ((0 : Int) < q) = false := decide_eq_false (by omega)
            have d2 : decide (0 < q) = false := decide_eq_false (by omega)
            subst e1 e2
            clear hq0
            go_wp2_with (first
              | (refine wpList_load_mid rfl 89 _ rfl gb (q * 3) rfl [.string pg, .string pt, .int .i64 (-1)] _ HR.out Tryz.underlying89 rfl sizeP ?_)
              | (go_at_call 54; refine HCall.out.mono ?_; rintro e w2 ⟨rfl, hI2, hA2⟩; have HI2 := Lib.hid hI2; have HA2 := Lib.hid hA2; clear hI2 hA2))
            obtain ⟨n1, n2⟩ := node_next HA.out HGB.out (box_low _ _) HA2.out
            refine ⟨⟨q + 1, ge, by omega, by go_num, rfl, Lib.hid (fun h => by omega), by rw [HC1.out]; go_num, Lib.hid ?_, Lib.hid n1, Lib.hid n2⟩, by simp [intOf]; omega⟩
            rw [HNX.out, ← List.append_assoc]; exact HI2.out
          · have e2 : ge = pg := by rw [HGE.out, if_neg hq0]
            have d1 : decide ((0 : Int) < q) = true := decide_eq_true (by omega)
            have d2 : decide (0 < q) = true := decide_eq_true (by omega)
            subst e2
            clear hq0
            go_wp2_with (first
              | (refine wpList_load_mid rfl 89 _ rfl gb (q * 3) rfl [.string ge, .string pt, .int .i64 (-1)] _ HR.out Tryz.underlying89 rfl sizeP ?_)
              | (go_at_call 54; refine HCall.out.mono ?_; rintro e w2 ⟨rfl, hI2, hA2⟩; have HI2 := Lib.hid hI2; have HA2 := Lib.hid hA2; clear hI2 hA2))
            obtain ⟨n1, n2⟩ := node_next HA.out HGB.out (box_low _ _) HA2.out
            refine ⟨⟨q + 1, ge, by omega, by go_num, rfl, Lib.hid (fun h => by omega), by rw [HC1.out]; go_num, Lib.hid ?_, Lib.hid n1, Lib.hid n2⟩, by simp [intOf]; omega⟩
            rw [HNX.out, ← List.append_assoc]; exact HI2.out
        · obtain ⟨j, hj, rfl⟩ := HPKq.out hk
          obtain ⟨hpre0, hnext⟩ := HKq.out j rfl
          have hjk : j < ks.length := by rw [← HNN.out]; exact hj
          have hu := List.getElem?_eq_getElem hjk
          rw [evK_get ks _ _ j _ hu] at hpre0 hnext
          have hpre : (D ++ F q ++ evL ks[j] (kb r) (ko r + j * 4) il ge) <+: T := by rw [HFE.out]; exact hpre0
          have HCall := Lib.hid (fun W (hb : Below wr.heap.size wr W) => HIH.out j _ hu ge (D ++ F q) W hpre (HS.out.keep _ _ _ HIr.out hb))
          have HNX : Hid (F (q + 1) = F q ++ evL ks[j] (kb r) (ko r + j * 4) il ge) := Lib.hid (by rw [HFE.out]; exact hnext)
          have HC1 : Hid ((Pl.owns ((Pl.fixF f ps).take (q + 1))).length = oc) := Lib.hid (by have := HC.out; rw [if_neg hk] at this; exact this)
          have hnd := (HN.out _ _ HIr.out).later (box_low wr (.cells #[.string pg, .string pt, .int .i64 (j : Int)] 89))
          have hnd3 := hnd.c3
          have hda : r.da = some ⟨kb r, ko r, none⟩ := by
            rcases HDA.out with h | h
            · rw [h] at hjk; simp at hjk
            · exact h
          rw [hda, ← HNN.out] at hnd3
          have x3 : (wr.alloc (.cells #[.string pg, .string pt, .int .i64 (j : Int)] 89)).drew.cell? ⟨b, o + 3, none⟩ = some (.slice (some ⟨kb r, ko r, none⟩) n r.dc) := hnd3
          have b1 : ((j : Int) == -1) = false := beq_eq_false_iff_ne.2 (by omega)
          clear hpre0 hpre hnext HOq HKq HPKq HC hk hnd hnd3 hda hu
          generalize evL ks[j] (kb r) (ko r + j * 4) il ge = EV at *
          by_cases hq0 : q = 0
          · have e1 : gq = f := HGQ.out hq0
            have e2 : ge = f := by rw [HGE.out, if_pos hq0]
            have d1 : decide ((0 : Int) < q) = false := decide_eq_false (by omega)
            have d2 : decide (0 < q) = false := decide_eq_false (by omega)
            subst e1 e2
            clear hq0
            go_wp2_with (refine wpList_load_mid rfl 89 _ rfl gb (q * 3) rfl [.string pg, .string pt, .int .i64 (j : Int)] _ HR.out Tryz.underlying89 rfl sizeP ?_)
            go_region_with (go_at_call 49; refine (HCall.out _ (box_low _ _).drew).mono ?_; rintro e w2 ⟨rfl, hI2, hA2⟩; have HI2 := Lib.hid hI2; have HA2 := Lib.hid hA2; clear hI2 hA2)
            all_goals go_wp2_with fail
            all_goals obtain ⟨n1, n2⟩ := node_next HA.out HGB.out (box_low _ _).drew HA2.out
            all_goals refine ⟨⟨q + 1, ge, by omega, by go_num, rfl, Lib.hid (fun h => by omega), by rw [HC1.out], Lib.hid ?_, Lib.hid n1, Lib.hid n2⟩, by simp [intOf]; omega⟩
            all_goals (rw [HNX.out, ← List.append_assoc]; exact HI2.out)
          · have e2 : ge = pg := by rw [HGE.out, if_neg hq0]
            have d1 : decide ((0 : Int) < q) = true := decide_eq_true (by omega)
            have d2 : decide (0 < q) = true := decide_eq_true (by omega)
            subst e2
            clear hq0
            go_wp2_with (refine wpList_load_mid rfl 89 _ rfl gb (q * 3) rfl [.string ge, .string pt, .int .i64 (j : Int)] _ HR.out Tryz.underlying89 rfl sizeP ?_)
            go_region_with (go_at_call 49; refine (HCall.out _ (box_low _ _).drew).mono ?_; rintro e w2 ⟨rfl, hI2, hA2⟩; have HI2 := Lib.hid hI2; have HA2 := Lib.hid hA2; clear hI2 hA2)
            all_goals go_wp2_with fail
            all_goals obtain ⟨n1, n2⟩ := node_next HA.out HGB.out (box_low _ _).drew HA2.out
            all_goals refine ⟨⟨q + 1, ge, by omega, by go_num, rfl, Lib.hid (fun h => by omega), by rw [HC1.out], Lib.hid ?_, Lib.hid n1, Lib.hid n2⟩, by simp [intOf]; omega⟩
            all_goals (rw [HNX.out, ← List.append_assoc]; exact HI2.out)
      · obtain rfl : q = m := by omega
        go_wp2_with fail
        go_end0
        exact ⟨rfl, HIr.out, HA.out⟩
theorem nodeS_any (B1 B2 : Nat) (T : List Ev) (Inv : List Ev → World → Prop) (hS : Step 54 (fun v => #[v, .pointer (some ⟨B1, 0, none⟩), .pointer (some ⟨B2, 0, none⟩)]) T Inv) (a : LT) : ∀ b o L f D w, Pl.firstE (er a) = 0 → Pl.sz (er a) ≤ 100000 → L + Pl.ht (er a) ≤ 900 → (∀ D w, Inv D w → FixL w a b o) → (D ++ evL a b o L f) <+: T → Inv D w →
    Calls Tryz.prog 49 #[.pointer (some ⟨b, o, none⟩), .int .i64 (L : Nat), .string f, .func (.func 54) #[] #[.pointer (some ⟨B1, 0, none⟩), .pointer (some ⟨B2, 0, none⟩)]] w (NodeP Inv D (evL a b o L f) w) := by
  refine LT.ind (M := fun a => ∀ b o L f D w, Pl.firstE (er a) = 0 → Pl.sz (er a) ≤ 100000 → L + Pl.ht (er a) ≤ 900 → (∀ D w, Inv D w → FixL w a b o) → (D ++ evL a b o L f) <+: T → Inv D w →
    Calls Tryz.prog 49 #[.pointer (some ⟨b, o, none⟩), .int .i64 (L : Nat), .string f, .func (.func 54) #[] #[.pointer (some ⟨B1, 0, none⟩), .pointer (some ⟨B2, 0, none⟩)]] w (NodeP Inv D (evL a b o L f) w)) ?_ a
  intro k s g ks r ih b o L f D w hwf hsz hht hfix hT hI
  rw [er] at hwf hsz hht
  obtain ⟨hn0, hks⟩ := Pl.first_zero k s g (ers ks) hwf
  obtain ⟨h1, h2, h3⟩ := Pl.nodeE_zero k s g (ers ks) hn0
  have har := Pl.shape_ar k s (ers ks) h1
  rw [ers_len] at har
  rw [Pl.sz] at hsz
  rw [Pl.ht] at hht
  have hlen := Pl.len_szs (ers ks)
  rw [ers_len] at hlen
  have hfx := fun D w h => (fixL_node w k s g ks r b o) ▸ hfix D w h
  have hin : Pl.inside k L ≤ L + 1 := by unfold Pl.inside; split <;> omega
  refine nodeS_step B1 B2 T Inv hS k s g ks r b o L f har (by omega) (by omega) (fun D w h => (hfx D w h).1) ((hfx D w hI).2.1) (fun j u hu f2 D2 w2 hT2 hI2 => ?_) D w hT hI
  have hm : er u ∈ ers ks := by rw [ers_map]; exact List.mem_map_of_mem (List.mem_of_getElem? hu)
  exact ih u (List.mem_of_getElem? hu) _ _ _ f2 D2 w2 (Pl.firsts_mem _ hks _ hm) (by have := Pl.sz_mem hm; omega) (by have := Pl.hts_mem hm; omega) (fun D3 w3 h3 => fixK_get w3 ks (kb r) (ko r) (hfx D3 w3 h3).2.2 j u hu) hT2 hI2
set_option maxHeartbeats 400000 in
theorem walkS_any (B1 B2 : Nat) (T : List Ev) (Inv : List Ev → World → Prop) (hS : Step 54 (fun v => #[v, .pointer (some ⟨B1, 0, none⟩), .pointer (some ⟨B2, 0, none⟩)]) T Inv) (a : LT) (b o : Nat) (D : List Ev) (w : World) (hwf : Pl.firstE (er a) = 0) (hsz : Pl.sz (er a) ≤ 100000) (hht : Pl.ht (er a) ≤ 900) (hfix : ∀ D w, Inv D w → FixL w a b o) (hT : (D ++ evL a b o 0 ⟨#[]⟩) <+: T) (hI : Inv D w) :
    Calls Tryz.prog 29 #[.pointer (some ⟨b, o, none⟩), .func (.func 54) #[] #[.pointer (some ⟨B1, 0, none⟩), .pointer (some ⟨B2, 0, none⟩)]] w (NodeP Inv D (evL a b o 0 ⟨#[]⟩) w) := by
  have HC : Hid (Calls Tryz.prog 49 #[.pointer (some ⟨b, o, none⟩), .int .i64 0, .string ⟨#[]⟩, .func (.func 54) #[] #[.pointer (some ⟨B1, 0, none⟩), .pointer (some ⟨B2, 0, none⟩)]] w (NodeP Inv D (evL a b o 0 ⟨#[]⟩) w)) := Lib.hid (nodeS_any B1 B2 T Inv hS a b o 0 ⟨#[]⟩ D w hwf hsz (by omega) hfix hT hI)
  clear hS hwf hsz hht hfix hT hI
  generalize evL a b o 0 ⟨#[]⟩ = E at *
  go_enter Tryz.func29, Tryz.ntmps29
  go_wp2_with (go_at_call 49; refine HC.out.mono ?_; rintro e w2 ⟨rfl, hI2, hA2⟩)
  go_end0
  exact ⟨rfl, hI2, hA2⟩
end Go.Proofs.YtiaajpdcacdngaaGreatDoor
