/- The walk of the printer's reference: write. -/
import Derived.Test.YtiaajpdcacdngaaGreatDoorRWords
import Derived.Test.YtiaajpdcacdngaaGreatDoorRGap
namespace Go.Proofs.YtiaajpdcacdngaaGreatDoor.Pl
open Go
set_option linter.unusedVariables false
set_option linter.unusedSimpArgs false
theorem nod_pre {k : Int} {s : ByteArray} {g : List ByteArray} {ks : List Tr} {L : Nat} {f : ByteArray} {m : Nat} {I : Nat → Nat} {E : Nat → List Wd} (h : Nod k s g ks L f m I E) : ∀ d q, q + d = m → ∃ R, E m = E q ++ R := by
  intro d
  induction d with
  | zero => intro q hq; exact ⟨[], by rw [show q = m by omega, List.append_nil]⟩
  | succ d ih =>
    intro q hq
    obtain ⟨R, hR⟩ := ih (q + 1) (by omega)
    rcases h.step q (by omega) with ⟨x, _, _, _, e⟩ | ⟨j, u, _, _, _, e⟩
    · exact ⟨_, by rw [hR, e, List.append_assoc]⟩
    · exact ⟨_, by rw [hR, e, List.append_assoc]⟩
theorem src_snoc (last : ByteArray) (a : List Wd) (w : Wd) : src last (a ++ [w]) = src last a ++ piece (lastW last a) w := by rw [src_append, src, src, List.append_nil]
theorem lastW_snoc (last : ByteArray) (a : List Wd) (w : Wd) : lastW last (a ++ [w]) = w.text := by rw [lastW_append]; rfl
theorem lastW_le (ws : List Wd) : ∀ last, (lastW last ws).size ≤ max last.size (src last ws).length := by
  induction ws with
  | nil => intro last; exact Nat.le_max_left _ _
  | cons w ws ih =>
    intro last
    have h1 := ih w.text
    have h2 : w.text.size ≤ (piece last w).length := by unfold piece; rw [List.length_append, Lib.size_eq]; omega
    rw [lastW, src, List.length_append]
    omega
theorem piece_len (last : ByteArray) (w : Wd) : (gapW w).size + w.text.size ≤ (piece last w).length := by
  unfold piece
  rw [List.length_append, List.length_append, Lib.size_eq, Lib.size_eq]; omega
theorem app_data (a b : ByteArray) : (a ++ b).data.toList = a.data.toList ++ b.data.toList := by simp
/-- The source so far, and the last word. -/
def Sq (s0 last : ByteArray) (a : List Wd) : ByteArray := s0 ++ mk (src last a)
theorem sq_size (s0 last : ByteArray) (a : List Wd) : (Sq s0 last a).size = s0.size + (src last a).length := by
  rw [Lib.size_eq, Sq, app_data, mk_list, List.length_append, ← Lib.size_eq]
theorem sq_nil (s0 last : ByteArray) : Sq s0 last [] = s0 := list_ext (by rw [Sq, app_data, mk_list, src, List.append_nil])
theorem sq_kid (s0 last : ByteArray) (a b : List Wd) : Sq s0 last (a ++ b) = Sq (Sq s0 last a) (lastW last a) b := list_ext (by
  unfold Sq
  rw [app_data, app_data, app_data, mk_list, mk_list, mk_list, src_append, List.append_assoc])
theorem shape_gaps (k : Int) (s : ByteArray) (g : List ByteArray) (ks : List Tr) (hn : nodeE k s g ks = 0) (hl : ks.length ≤ 1000000) : g = [] ∨ g.length = (rown k s ks.length).length := by
  obtain ⟨h1, h2, h3⟩ := nodeE_zero k s g ks hn
  unfold gapsOK at h3
  rw [Bool.or_eq_true] at h3
  rcases h3 with h | h
  · exact .inl (of_decide_eq_true h)
  · right
    have h4 := (Bool.and_eq_true_iff.1 h).1
    have h5 := of_decide_eq_true h4
    rw [own_len k s ks.length (shape_ar k s ks h1) hl] at h5
    exact Int.ofNat.inj h5
end Go.Proofs.YtiaajpdcacdngaaGreatDoor.Pl
namespace Go.Proofs.YtiaajpdcacdngaaGreatDoor.Rf
open Go.RowKit
set_option linter.unusedVariables false
set_option linter.unusedSimpArgs false
set_option maxRecDepth 100000

theorem sq_own (s0 last : ByteArray) (a : List Pl.Wd) (w : Pl.Wd) : Pl.Sq s0 last (a ++ [w]) = putS (Pl.Sq s0 last a) (Pl.lastW last a) (Pl.gapW w) w.text := by
  refine Pl.list_ext ?_
  unfold putS
  rw [Pl.Sq, Pl.app_data, Pl.mk_list, Pl.src_snoc, Pl.piece]
  split
  · rw [Pl.app_data, Pl.app_data, Pl.app_data, Pl.Sq, Pl.app_data, Pl.mk_list]; simp
  · rw [Pl.app_data, Pl.app_data, Pl.Sq, Pl.app_data, Pl.mk_list]; simp
/-- What write answers. -/
def WrtP (x y : ByteArray) (w : World) (e : Ending) (w' : World) : Prop := e = .returned (.tuple #[.string x, .string y]) ∧ Below w.heap.size w w'
set_option maxHeartbeats 3200000 in
theorem write_at {P : Nat → Prop} {w : World} {t : Pl.Tr} {r : Sl} (h : Tin P w t r) : ∀ (L : Nat) (f s0 last : ByteArray) (w1 : World), Same P w w1 → (∀ b, P b → b < w1.heap.size) → Pl.firstE t = 0 → Pl.sz t ≤ 100000 → L + Pl.ht t ≤ 10000 → last.size ≤ 100000 → s0.size + (Pl.src last (Pl.evT t L f)).length ≤ 100000 →
    Calls Tryz.prog 33 #[.agg #[.int .i64 t.kind, .string t.text, .slice r.ga t.gaps.length r.gc, .slice r.da t.kids.length r.dc], .string f, .int .i64 (L : Nat), .string s0, .string last] w1 (WrtP (Pl.Sq s0 last (Pl.evT t L f)) (Pl.lastW last (Pl.evT t L f)) w1) := by
  induction h with
  | mk t r R hs hg hl hk hr ih =>
    intro L f s0 last w1 hsame hP hf hsz hht hlast hlen
    cases t with
    | node k s g ks =>
      obtain ⟨ga, gc, da, dc⟩ := r
      simp only [Pl.Tr.kids, Pl.Tr.gaps, Pl.Tr.text, Pl.Tr.kind] at *
      obtain ⟨hn0, hks⟩ := Pl.first_zero k s g ks hf
      have har := Pl.shape_ar k s ks (Pl.nodeE_zero k s g ks hn0).1
      obtain ⟨m, I, E, hnod⟩ := Pl.nod_any k s g ks L f har
      rw [Pl.sz] at hsz
      rw [Pl.ht] at hht
      have hkl := Pl.len_szs ks
      have hsg := Pl.shape_gaps k s g ks hn0 (by omega)
      have HSZ : Hid (∀ (j : Nat) u, ks[j]? = some u → Pl.sz u ≤ 100000 ∧ Pl.firstE u = 0 ∧ Pl.inside k L + Pl.ht u ≤ 10000) := Lib.hid fun j u hu => ⟨by have := Pl.sz_mem (List.mem_of_getElem? hu); omega, Pl.firsts_mem ks hks u (List.mem_of_getElem? hu), by
        have := Pl.hts_mem (List.mem_of_getElem? hu)
        have : Pl.inside k L ≤ L + 1 := by unfold Pl.inside; split <;> omega
        omega⟩
      rw [← hnod.em] at hlen
      have HLE : Hid (∀ q, q ≤ m → s0.size + (Pl.src last (E q)).length ≤ 100000) := Lib.hid fun q hq => by
        obtain ⟨R, hR⟩ := Pl.nod_pre hnod (m - q) q (by omega)
        rw [hR, Pl.src_append, List.length_append] at hlen
        omega
      have HYL : Hid (∀ q, q ≤ m → (Pl.lastW last (E q)).size ≤ 200000) := Lib.hid fun q hq => by
        have h1 := Pl.lastW_le (E q) last
        have h2 := HLE.out q hq
        omega
      rw [← hnod.em]
      have HM := Lib.hid hnod.len
      have HI0 := Lib.hid hnod.i0
      have HE0 := Lib.hid hnod.e0
      have HIL := Lib.hid hnod.il
      have HST := Lib.hid hnod.step
      have HMB : Hid (∀ q, q ≤ m → I q ≤ 300000) := Lib.hid fun q hq => by
        have h1 := hnod.il q hq
        have := (Pl.rown_size k s ks.length har).2
        omega
      have hmb : m ≤ 300000 := by
        have h1 := parts_len k s ks.length L har
        have h2 := congrArg List.length (Pl.rorder_eq k s ks.length L har)
        rw [List.length_map, hnod.len] at h2
        omega
      have HCO := Lib.hid (fun W => own_any k s g.length ks.length gc dc ga da W (by omega) har)
      have HCR := Lib.hid (fun W => order_any k s g.length ks.length gc dc ga da W (by omega))
      have HCG := Lib.hid (fun i W => gap_any k s f g.length ks.length gc dc i L ga da W (by omega))
      have HCK := Lib.hid (fun j W => kid_any k s f g.length ks.length gc dc j L ga da W (by omega))
      have HCN := Lib.hid (fun W => inner_any k s g.length ks.length gc dc L ga da W (by omega))
      obtain ⟨nk, hnk⟩ : ∃ nk, nk = ks.length := ⟨_, rfl⟩
      obtain ⟨ng, hng⟩ : ∃ ng, ng = g.length := ⟨_, rfl⟩
      have hnk2 : nk ≤ 100000 := by omega
      have hngb : ng ≤ 300000 := by
        rcases hsg with h | h
        · rw [hng, h]; simp
        · have := (Pl.rown_size k s ks.length har).2
          omega
      rw [← hnk, ← hng] at HCO HCR HCG HCN HCK
      rw [← hnk] at HM HIL hsg
      rw [← hnk, ← hng]
      have HNK := Lib.hid hnk
      have HNG := Lib.hid hng
      have HSG := Lib.hid hsg
      have HG := Lib.hid (hg.keep hsame hP)
      have HK := Lib.hid hk
      have HI := Lib.hid ih
      have HS := Lib.hid hsame
      have HP := Lib.hid hP
      have HLast := Lib.hid hlast
      clear hk hg hr ih hsame hl hP hnod hf hn0 hks hsz hkl hlen hnk hng har hs hsg hht hlast
      go_enter Tryz.func33, Tryz.ntmps33
      go_wp2_with (first
        | (go_at_call 50; refine (HCO.out _).mono ?_; rintro e w2 ⟨a2, n2, c2, rfl, hn2, ho2, hb2⟩; have HN2 := Lib.hid hn2; have HO2 := Lib.hid ho2; have HB2 := Lib.hid hb2; obtain ⟨x0, x1, x2, x3⟩ := at4_below (at4_new w1 k s (.slice ga ng gc) (.slice da nk dc)) hb2; have hs2 := hb2.size; simp at hs2; clear hn2 ho2 hb2)
        | (go_at_call 51; refine (HCR.out _).mono ?_; rintro e w3 ⟨a3, n3, c3, rfl, hn3, ho3, hb3⟩; have HN3 := Lib.hid hn3; have HO3 := Lib.hid ho3; have HB3 := Lib.hid hb3; have hs3 := hb3.size; clear hn3 ho3 hb3))
      have hn3 : n3 = m := by rw [HN3.out]; exact HM.out
      subst hn3
      have BX := Lib.hid (at4_below (at4_below (at4_new w1 k s (.slice ga ng gc) (.slice da nk dc)) HB2.out) HB3.out)
      have HB13 : Hid (Below w1.heap.size w1 w3) := Lib.hid ((box_below w1 _).trans ((HB2.out.mono (by simp)).trans (HB3.out.mono (by omega))))
      have HRO := Lib.hid (fun q u (hq : (strV (Pl.rown k s nk))[q]? = some u) => row_at (owns_later HO2.out HB3.out) hq)
      have HRR := Lib.hid (fun q u (hq : (intV (Pl.rorder k s nk))[q]? = some u) => row_at HO3.out hq)
      have HN2b : Hid (n2 = (Pl.rown k s nk).length) := HN2
      have HG3 := Lib.hid (HG.out.keep (Same.below HB13.out (fun b hb => hb)) (fun b hb => Nat.lt_of_lt_of_le hb HB13.out.size))
      clear x0 x1 x2 x3
      go_loopw [12, 13, 16, 17] (fun v12 v13 v16 v17 wr => ∃ (q : Nat) (x y : ByteArray), q ≤ n3 ∧ v17 = .int .i64 (q : Int) ∧ v16 = .int .i64 (I q : Nat) ∧ v12 = .string x ∧ v13 = .string y ∧ Hid (x = Pl.Sq s0 last (E q)) ∧ Hid (y = Pl.lastW last (E q)) ∧ Hid (Below w3.heap.size w3 wr)) (fun _ _ _ u _ => n3 - (intOf u).toNat)
      case atStart => exact ⟨0, s0, last, Nat.zero_le _, rfl, by rw [HI0.out]; rfl, rfl, rfl, Lib.hid (by rw [HE0.out, Pl.sq_nil]), Lib.hid (by rw [HE0.out]; rfl), Lib.hid (Below.refl _ _)⟩
      case round =>
        obtain ⟨q, x, y, hq, rfl, rfl, rfl, rfl, HX, HY, HB⟩ := hrel
        have hbr := HB.out.size
        have hs13 := HB13.out.size
        have hw1b : w1.heap.size < w3.heap.size := by have := hs2; omega
        have hxs : x.size ≤ 100000 := by rw [HX.out, Pl.sq_size]; exact HLE.out q hq
        have hys : y.size ≤ 200000 := by rw [HY.out]; exact HYL.out q hq
        have AB := Lib.hid (at4_below BX.out HB.out)
        by_cases hlt : q < n3
        · have hilt := HMB.out q hq
          rcases HST.out q hlt with ⟨xt, hx1, hx2, hx3, hx4⟩ | ⟨j, u, hx1, hx2, hx3, hx4⟩
          · rw [HNK.out.symm] at hx1 hx2 hx4
            obtain ⟨g3, rfl, hg3, hg3l, hc3⟩ := HRR.out q _ (intV_get hx1)
            obtain ⟨g2, rfl, hg2, hg2l, hc2⟩ := HRO.out _ _ (strV_get hx2)
            have y3 : wr.cell? ⟨g3, q, none⟩ = some (.int .i64 (-1)) := (HB.out.cell (p := ⟨g3, q, none⟩) hg3l).trans hc3
            have Y2 : Hid (∀ W, Below wr.heap.size wr W → W.cell? ⟨g2, I q, none⟩ = some (.string xt)) := Lib.hid fun W hW => (hW.cell (p := ⟨g2, I q, none⟩) (by show g2 < _; omega)).trans ((HB.out.cell (p := ⟨g2, I q, none⟩) hg2l).trans hc2)
            have hin : I q < n2 := by rw [HN2b.out]; exact (List.getElem?_eq_some_iff.1 hx2).1
            have HX4 := Lib.hid hx4
            have HX3' := Lib.hid hx3
            have hpl := Pl.piece_len (Pl.lastW last (E q)) ⟨I q, Pl.rgap k nk (I q) f L, xt, g⟩
            have hle1 := HLE.out (q + 1) (by omega)
            rw [hx4, Pl.src_snoc, List.length_append] at hle1
            obtain ⟨gw, hgw⟩ : ∃ gw, gw = Pl.gapW ⟨I q, Pl.rgap k nk (I q) f L, xt, g⟩ := ⟨_, rfl⟩
            have HSQ : Hid (Pl.Sq s0 last (E (q + 1)) = putS x y gw xt) := Lib.hid (by rw [hx4, sq_own, HX.out, HY.out, hgw])
            have HYQ : Hid (Pl.lastW last (E (q + 1)) = xt) := Lib.hid (by rw [hx4, Pl.lastW_snoc])
            rw [← hgw] at hpl
            have hxt : xt.size ≤ 100000 := by simp only at hpl; omega
            have hgs : gw.size ≤ 100000 := by simp only at hpl; omega
            have HGW := Lib.hid hgw
            have HCGi := Lib.hid (HCG.out (I q))
            have HGC : Hid (0 < ng → ∃ b o, ga = some ⟨b, o, none⟩ ∧ b < w3.heap.size ∧ I q < ng ∧ w3.cell? ⟨b, o + I q, none⟩ = some (.string gw)) := Lib.hid fun h0 => by
              have hgl : I q < g.length := by
                rcases HSG.out with h | h
                · have := HNG.out; rw [h] at this; simp at this; omega
                · rw [h]; exact (List.getElem?_eq_some_iff.1 hx2).1
              rcases HG3.out.2.2 with h | ⟨b, o, e, hb, hat⟩
              · have := HNG.out; rw [h] at this; simp at this; omega
              · refine ⟨b, o, e, hb, by rw [HNG.out]; exact hgl, ?_⟩
                have hge := List.getElem?_eq_getElem hgl
                rw [hat _ _ hge, hgw, Pl.gapW, if_neg (by simp only; omega), List.getD_eq_getElem?_getD]
                simp only [hge]; rfl
            have HGZ : Hid (ng = 0 → Pl.rgap k nk (I q) f L = gw) := Lib.hid fun h0 => by
              rw [hgw, Pl.gapW, if_pos (by simp only; rw [← HNG.out]; exact h0)]
            generalize Pl.rgap k nk (I q) f L = rg at *
            generalize hiq : I q = iq at *
            clear hx1 hx2 hx3 hx4 hc2 hc3 hiq hgw hpl hle1
            obtain ⟨x0, x1, x2, x3⟩ := AB.out
            have hi0' : (0 : Int) ≤ (q : Int) := Int.natCast_nonneg _
            have hi1' : (q : Int) < (n3 : Int) := by omega
            have hi2' : (0 : Int) ≤ (iq : Int) := Int.natCast_nonneg _
            have hi3' : (iq : Int) < (n2 : Int) := by omega
            by_cases h0 : ng = 0
            · have hgz := HGZ.out h0
              subst hgz
              have HCP := Lib.hid (fun W => put_any x y rg xt W (by omega) (by omega) (by omega) (by omega))
              have e1 : decide ((0 : Int) < (ng : Int)) = false := decide_eq_false (by omega)
              have e2 : decide (0 < ng) = false := decide_eq_false (by omega)
              clear h0
              go_wp2_with (first
                | (go_at_call 60; refine (HCGi.out _).mono ?_; rintro e w4 ⟨rfl, hb4⟩; have HB4 := Lib.hid hb4; have y2 := Y2.out w4 hb4; clear x0 x1 x2 x3; obtain ⟨x0, x1, x2, x3⟩ := at4_below AB.out hb4; clear hb4)
                | (go_at_call 61; refine (HCP.out _).mono ?_; rintro e w5 ⟨rfl, rfl⟩))
              refine ⟨⟨q + 1, _, _, by omega, by go_num, ?_, rfl, rfl, Lib.hid (by rw [HSQ.out]), Lib.hid (by rw [HYQ.out]), Lib.hid (HB.out.trans (HB4.out.mono hbr))⟩, by simp [intOf]; omega⟩
              rw [HX3'.out]; go_num
            · obtain ⟨gb, go', rfl, hgb, hil, hgcell⟩ := HGC.out (by omega)
              have HCP := Lib.hid (fun W => put_any x y gw xt W (by omega) (by omega) (by omega) (by omega))
              have Y4 : Hid (∀ W, Below wr.heap.size wr W → W.cell? ⟨gb, go' + iq, none⟩ = some (.string gw)) := Lib.hid fun W hW => (hW.cell (p := ⟨gb, go' + iq, none⟩) (by show gb < _; omega)).trans ((HB.out.cell (p := ⟨gb, go' + iq, none⟩) hgb).trans hgcell)
              have e1 : decide ((0 : Int) < (ng : Int)) = true := decide_eq_true (by omega)
              have e2 : decide (0 < ng) = true := decide_eq_true (by omega)
              have hi4' : (iq : Int) < (ng : Int) := by omega
              clear h0 hgcell
              go_wp2_with (first
                | (go_at_call 60; refine (HCGi.out _).mono ?_; rintro e w4 ⟨rfl, hb4⟩; have HB4 := Lib.hid hb4; have y2 := Y2.out w4 hb4; have y4 := Y4.out w4 hb4; clear x0 x1 x2 x3; obtain ⟨x0, x1, x2, x3⟩ := at4_below AB.out hb4; clear hb4)
                | (go_at_call 61; refine (HCP.out _).mono ?_; rintro e w5 ⟨rfl, rfl⟩))
              refine ⟨⟨q + 1, _, _, by omega, by go_num, ?_, rfl, rfl, Lib.hid (by rw [HSQ.out]), Lib.hid (by rw [HYQ.out]), Lib.hid (HB.out.trans (HB4.out.mono hbr))⟩, by simp [intOf]; omega⟩
              rw [HX3'.out]; go_num
          · rw [HNK.out.symm] at hx1
            obtain ⟨g3, rfl, hg3, hg3l, hc3⟩ := HRR.out q _ (intV_get hx1)
            have y3 : wr.cell? ⟨g3, q, none⟩ = some (.int .i64 (j : Int)) := (HB.out.cell (p := ⟨g3, q, none⟩) hg3l).trans hc3
            have hjk : j < nk := by rw [HNK.out]; exact (List.getElem?_eq_some_iff.1 hx2).1
            have hPn : ∀ b, P b → b < w1.heap.size := HP.out
            have hsr : Same P w wr := HS.out.trans ((Same.below HB13.out hPn).trans (Same.below HB.out fun b hb => by have := hPn b hb; omega))
            rcases HK.out with h0 | ⟨b, o, rfl, hb, hat⟩
            · rw [h0] at hx2; simp at hx2
            have AU := Lib.hid (At4.keep (hat j _ hx2) hsr hb)
            obtain ⟨hu1, hu2, hu3⟩ := HSZ.out j u hx2
            have HIH := Lib.hid (HI.out j u hx2)
            generalize R j = r1 at *
            obtain ⟨ga1, gc1, da1, dc1⟩ := r1
            have hle1 := HLE.out (q + 1) (by omega)
            rw [hx4, Pl.src_append, List.length_append] at hle1
            obtain ⟨x', hx'⟩ : ∃ x', x' = Pl.Sq s0 last (E (q + 1)) := ⟨_, rfl⟩
            obtain ⟨y', hy'⟩ : ∃ y', y' = Pl.lastW last (E (q + 1)) := ⟨_, rfl⟩
            have HCW := Lib.hid (fun (n : Later wr) => HIH.out (Pl.inside k L) (Pl.rkid k j f L) x y n.u (hsr.trans (Same.below n.h fun b hb => by have := hPn b hb; omega)) (fun b hb => by have := hPn b hb; have := n.h.size; omega) hu2 hu1 hu3 (by
              have h1 := Pl.lastW_le (E q) last
              have := HLast.out
              rw [HY.out]; omega) (by
              rw [HX.out, HY.out, Pl.sq_size]; omega))
            have hxe : Pl.Sq x y (Pl.evT u (Pl.inside k L) (Pl.rkid k j f L)) = x' := by rw [hx', hx4, Pl.sq_kid, HX.out, HY.out]
            have hye : Pl.lastW y (Pl.evT u (Pl.inside k L) (Pl.rkid k j f L)) = y' := by rw [hy', hx4, Pl.lastW_append, HY.out]
            have CALLW : ∀ n : Later wr, Calls Tryz.prog 33 #[.agg #[.int .i64 u.kind, .string u.text, .slice ga1 u.gaps.length gc1, .slice da1 u.kids.length dc1], .string (Pl.rkid k j f L), .int .i64 (Pl.inside k L : Nat), .string x, .string y] n.u fun e w'' => e = .returned (.tuple #[.string x', .string y']) ∧ ∃ m : Later wr, w'' = m.u := fun n => (HCW.out n).mono fun e w'' ⟨he, hw⟩ => ⟨by rw [he, hxe, hye], ⟨w'', n.h.trans (hw.mono n.h.size)⟩, rfl⟩
            have CALLK : ∀ n : Later wr, Calls Tryz.prog 58 #[.agg #[.int .i64 k, .string s, .slice ga ng gc, .slice (some ⟨b, o, none⟩) nk dc], .int .i64 (j : Nat), .string f, .int .i64 (L : Nat)] n.u fun e w'' => e = .returned (.string (Pl.rkid k j f L)) ∧ ∃ m : Later wr, w'' = m.u := fun n => (HCK.out j n.u).mono fun e w'' ⟨he, hw⟩ => ⟨he, ⟨w'', n.h.trans (hw.mono n.h.size)⟩, rfl⟩
            have CALLN : ∀ n : Later wr, Calls Tryz.prog 59 #[.agg #[.int .i64 k, .string s, .slice ga ng gc, .slice (some ⟨b, o, none⟩) nk dc], .int .i64 (L : Nat)] n.u fun e w'' => e = .returned (.int .i64 (Pl.inside k L : Nat)) ∧ ∃ m : Later wr, w'' = m.u := fun n => (HCN.out n.u).mono fun e w'' ⟨he, hw⟩ => ⟨he, ⟨w'', n.h.trans (hw.mono n.h.size)⟩, rfl⟩
            have HX' := Lib.hid hx'
            have HY' := Lib.hid hy'
            have HX3' := Lib.hid hx3
            clear HCW HIH
            generalize Pl.rkid k j f L = rk at *
            generalize Pl.inside k L = il at *
            generalize hiq : I q = iq at *
            have k1 : ∀ n : Later wr, n.u.cell? ⟨w1.heap.size, 3, none⟩ = some (.slice (some ⟨b, o, none⟩) nk dc) := fun n => (n.h.cell (p := ⟨w1.heap.size, 3, none⟩) (by show w1.heap.size < _; omega)).trans AB.out.2.2.2
            have k2 : ∀ n : Later wr, n.u.cell? ⟨g3, q, none⟩ = some (.int .i64 (j : Int)) := fun n => (n.h.cell (p := ⟨g3, q, none⟩) (by show g3 < _; omega)).trans y3
            have hi0' : (0 : Int) ≤ (q : Int) := Int.natCast_nonneg _
            have hi1' : (q : Int) < (n3 : Int) := by omega
            have hi2' : (0 : Int) ≤ (j : Int) := Int.natCast_nonneg _
            have hi3' : (j : Int) < (nk : Int) := by omega
            clear hx1 hx2 hx3 hx4 hc3 hiq hat hsr hPn hx' hy' hle1 hxe hye
            go_wp2_with fail
            clear y3
            refine region_later (by kernel_rfl) (by kernel_rfl) ?_
            iterate 7 (go_big_quiet_step (fail))
            refine quiet_load (by rfl) 25 _ (by rfl) (.pointer (some ⟨b, o + j * 4, none⟩)) _ (by rfl) (fun z hz => by obtain ⟨n, rfl⟩ := hz; exact (at4_later AU.out n).load) ?_
            simp only [Act.put, List.setIfInBounds_toArray, List.set_cons_succ, List.set_cons_zero]
            refine quiet_load (by rfl) 25 _ (by rfl) (.pointer (some ⟨w1.heap.size, 0, none⟩)) _ (by rfl) (fun z hz => by obtain ⟨n, rfl⟩ := hz; exact (at4_later AB.out n).load) ?_
            simp only [Act.put, List.setIfInBounds_toArray, List.set_cons_succ, List.set_cons_zero]
            iterate 6 (go_big_quiet_step (fail))
            go_big_quiet_step (exact CALLK _)
            refine quiet_load (by rfl) 25 _ (by rfl) (.pointer (some ⟨w1.heap.size, 0, none⟩)) _ (by rfl) (fun z hz => by obtain ⟨n, rfl⟩ := hz; exact (at4_later AB.out n).load) ?_
            simp only [Act.put, List.setIfInBounds_toArray, List.set_cons_succ, List.set_cons_zero]
            go_big_quiet_step (fail)
            go_big_quiet_step (exact CALLN _)
            iterate 2 (go_big_quiet_step (fail))
            go_big_quiet_step (exact CALLW _)
            iterate 5 (go_big_quiet_step (fail))
            refine wpQuiet_nil ?_
            intro _ hw'
            obtain ⟨n1, rfl⟩ := hw'
            have hsz := n1.h.size
            have HB3' := Lib.hid (HB.out.trans (n1.h.mono hbr))
            clear k1 k2 CALLW CALLK CALLN
            go_wp2_with fail
            refine ⟨⟨q + 1, _, _, by omega, by go_num, ?_, rfl, rfl, HX', HY', HB3'⟩, by simp [intOf]; omega⟩
            rw [HX3'.out]
        · have hqm : q = n3 := by omega
          subst hqm
          go_wp2_with fail
          go_ret2
          have hx := HX.out
          have hy := HY.out
          subst hx hy
          exact ⟨rfl, HB13.out.trans (HB.out.mono hs13)⟩
end Go.Proofs.YtiaajpdcacdngaaGreatDoor.Rf
