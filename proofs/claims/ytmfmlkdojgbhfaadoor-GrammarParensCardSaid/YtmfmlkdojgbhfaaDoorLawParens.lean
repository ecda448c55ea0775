/- The walk of the law GrammarParens. -/
import Derived.Test.YtmfmlkdojgbhfaaDoorOwn
import Derived.Test.YtmfmlkdojgbhfaaDoorLawKinds
namespace Go.Proofs.YtmfmlkdojgbhfaaDoor
open Go.RowKit
set_option linter.unusedVariables false
set_option linter.unusedSimpArgs false

/- The first three ways: not well-formed, no such kid, no expression. -/
set_option maxHeartbeats 1600000 in
theorem parens_bad (k : Int) (s : ByteArray) (g : List ByteArray) (ks : List Pl.Tr) (r : Sl) (i : Int) (w : World) (hT : Tabs w) (h : IsT w (.node k s g ks) r) (hc : ¬ Pl.chk (.node k s g ks) = 0) :
    Calls Tryd.prog 8 #[.agg #[.int .i64 k, .string s, .slice r.ga g.length r.gc, .slice r.da ks.length r.dc], .int .i64 i] w fun e w' => e = .returned (.bool true) ∧ Below w.heap.size w w' := by
  obtain ⟨v, hv⟩ : ∃ v, v = Pl.chk (.node k s g ks) := ⟨_, rfl⟩
  rw [← hv] at hc
  obtain ⟨v1, v2⟩ := int_neq2 hc
  have C1 := Lib.hid (fun w2 (hb : Below w.heap.size w w2) => check_is (.node k s g ks) w2 r v hv.symm (hT.later hb) (h.later hb))
  have C2 := Lib.hid (fun w2 (hb : Below w.heap.size w w2) => awake_any w2 (hT.later hb))
  clear hc hv hT h
  obtain ⟨ga, gc, da, dc⟩ := r
  simp only [Pl.Tr.kind, Pl.Tr.text, Pl.Tr.gaps, Pl.Tr.kids] at *
  generalize ks.length = m at *
  generalize g.length = n at *
  have A0 := Lib.hid (at4_new w k s (.slice ga n gc) (.slice da m dc))
  have B0 := Lib.hid (box_below w (.cells #[.int .i64 k, .string s, .slice ga n gc, .slice da m dc] 25))
  go_enter Tryd.func8, Tryd.ntmps8
  go_wp2_with (first
    | (go_at_call 10; refine (C1.out _ B0.out).mono ?_; rintro e w1 ⟨rfl, hb1'⟩; have B1 := Lib.hid (B0.out.trans (hb1'.mono B0.out.size)); have X1 := Lib.hid (at4_below A0.out hb1'); obtain ⟨e0, e1, e2, e3⟩ := X1.out; clear hb1')
    | (go_at_call 21; refine (C3.out _ B1.out).mono ?_; rintro e w' ⟨rfl, rfl⟩)
    | (go_at_call 12; refine (C2.out _ B1.out).mono ?_; rintro e w2 ⟨rfl, hb2⟩; have B2 := Lib.hid (B1.out.trans (hb2.mono B1.out.size)); clear hb2))
  go_ret
  exact ⟨rfl, B2.out⟩
set_option maxHeartbeats 1600000 in
theorem parens_neg (k : Int) (s : ByteArray) (g : List ByteArray) (ks : List Pl.Tr) (r : Sl) (i : Int) (w : World) (hT : Tabs w) (h : IsT w (.node k s g ks) r) (hc : Pl.chk (.node k s g ks) = 0) (hi : i < 0) :
    Calls Tryd.prog 8 #[.agg #[.int .i64 k, .string s, .slice r.ga g.length r.gc, .slice r.da ks.length r.dc], .int .i64 i] w fun e w' => e = .returned (.bool true) ∧ Below w.heap.size w w' := by
  have C1 := Lib.hid (fun w2 (hb : Below w.heap.size w w2) => check_is (.node k s g ks) w2 r 0 hc (hT.later hb) (h.later hb))
  have C2 := Lib.hid (fun w2 (hb : Below w.heap.size w w2) => awake_any w2 (hT.later hb))
  have d1 : decide (i < 0) = true := decide_eq_true hi
  clear hc hT h hi
  obtain ⟨ga, gc, da, dc⟩ := r
  simp only [Pl.Tr.kind, Pl.Tr.text, Pl.Tr.gaps, Pl.Tr.kids] at *
  generalize ks.length = m at *
  generalize g.length = n at *
  have A0 := Lib.hid (at4_new w k s (.slice ga n gc) (.slice da m dc))
  have B0 := Lib.hid (box_below w (.cells #[.int .i64 k, .string s, .slice ga n gc, .slice da m dc] 25))
  go_enter Tryd.func8, Tryd.ntmps8
  go_wp2_with (first
    | (go_at_call 10; refine (C1.out _ B0.out).mono ?_; rintro e w1 ⟨rfl, hb1'⟩; have B1 := Lib.hid (B0.out.trans (hb1'.mono B0.out.size)); have X1 := Lib.hid (at4_below A0.out hb1'); obtain ⟨e0, e1, e2, e3⟩ := X1.out; clear hb1')
    | (go_at_call 21; refine (C3.out _ B1.out).mono ?_; rintro e w' ⟨rfl, rfl⟩)
    | (go_at_call 12; refine (C2.out _ B1.out).mono ?_; rintro e w2 ⟨rfl, hb2⟩; have B2 := Lib.hid (B1.out.trans (hb2.mono B1.out.size)); clear hb2))
  go_ret
  exact ⟨rfl, B2.out⟩
set_option maxHeartbeats 1600000 in
theorem parens_far (k : Int) (s : ByteArray) (g : List ByteArray) (ks : List Pl.Tr) (r : Sl) (i : Nat) (w : World) (hT : Tabs w) (h : IsT w (.node k s g ks) r) (hc : Pl.chk (.node k s g ks) = 0) (hi : ks.length ≤ i) :
    Calls Tryd.prog 8 #[.agg #[.int .i64 k, .string s, .slice r.ga g.length r.gc, .slice r.da ks.length r.dc], .int .i64 i] w fun e w' => e = .returned (.bool true) ∧ Below w.heap.size w w' := by
  have C1 := Lib.hid (fun w2 (hb : Below w.heap.size w w2) => check_is (.node k s g ks) w2 r 0 hc (hT.later hb) (h.later hb))
  have C2 := Lib.hid (fun w2 (hb : Below w.heap.size w w2) => awake_any w2 (hT.later hb))
  have d1 : decide ((i : Int) < 0) = false := decide_eq_false (by omega)
  have d2 : decide (ks.length ≤ i) = true := decide_eq_true hi
  have d3 : decide ((ks.length : Int) ≤ (i : Int)) = true := decide_eq_true (by omega)
  clear hc hT h hi
  obtain ⟨ga, gc, da, dc⟩ := r
  simp only [Pl.Tr.kind, Pl.Tr.text, Pl.Tr.gaps, Pl.Tr.kids] at *
  generalize ks.length = m at *
  generalize g.length = n at *
  have A0 := Lib.hid (at4_new w k s (.slice ga n gc) (.slice da m dc))
  have B0 := Lib.hid (box_below w (.cells #[.int .i64 k, .string s, .slice ga n gc, .slice da m dc] 25))
  go_enter Tryd.func8, Tryd.ntmps8
  go_wp2_with (first
    | (go_at_call 10; refine (C1.out _ B0.out).mono ?_; rintro e w1 ⟨rfl, hb1'⟩; have B1 := Lib.hid (B0.out.trans (hb1'.mono B0.out.size)); have X1 := Lib.hid (at4_below A0.out hb1'); obtain ⟨e0, e1, e2, e3⟩ := X1.out; clear hb1')
    | (go_at_call 21; refine (C3.out _ B1.out).mono ?_; rintro e w' ⟨rfl, rfl⟩)
    | (go_at_call 12; refine (C2.out _ B1.out).mono ?_; rintro e w2 ⟨rfl, hb2⟩; have B2 := Lib.hid (B1.out.trans (hb2.mono B1.out.size)); clear hb2))
  go_ret
  exact ⟨rfl, B2.out⟩
set_option maxHeartbeats 1600000 in
theorem parens_other (k : Int) (s : ByteArray) (g : List ByteArray) (ks : List Pl.Tr) (r : Sl) (i : Nat) (w : World) (hT : Tabs w) (h : IsT w (.node k s g ks) r) (hc : Pl.chk (.node k s g ks) = 0) (hi : i < ks.length) (ui : Pl.Tr) (hui : ks[i]? = some ui) (hgi : ¬ Pl.grp ui.kind = 3) :
    Calls Tryd.prog 8 #[.agg #[.int .i64 k, .string s, .slice r.ga g.length r.gc, .slice r.da ks.length r.dc], .int .i64 i] w fun e w' => e = .returned (.bool true) ∧ Below w.heap.size w w' := by
  have C1 := Lib.hid (fun w2 (hb : Below w.heap.size w w2) => check_is (.node k s g ks) w2 r 0 hc (hT.later hb) (h.later hb))
  have C2 := Lib.hid (fun w2 (hb : Below w.heap.size w w2) => awake_any w2 (hT.later hb))
  obtain ⟨v, hv⟩ : ∃ v, v = Pl.grp ui.kind := ⟨_, rfl⟩
  have C3 := Lib.hid (fun w2 (hb : Below w.heap.size w w2) => group_is ui.kind v hv.symm w2 (hT.later hb))
  rw [← hv] at hgi
  have v1 : (v != 3) = true := bne_iff_ne.2 hgi
  have d1 : decide ((i : Int) < 0) = false := decide_eq_false (by omega)
  have d2 : decide (ks.length ≤ i) = false := decide_eq_false (by omega)
  have d3 : decide ((ks.length : Int) ≤ (i : Int)) = false := decide_eq_false (by omega)
  obtain ⟨hs, hg, hl, R, hks, hr⟩ := h.parts
  obtain ⟨ga, gc, da, dc⟩ := r
  simp only [Pl.Tr.kind, Pl.Tr.text, Pl.Tr.gaps, Pl.Tr.kids] at *
  obtain ⟨b1, o1, rfl, hb1, hat⟩ : ∃ b o, da = some ⟨b, o, none⟩ ∧ b < w.heap.size ∧ ∀ (j : Nat) t, ks[j]? = some t → AtT w b (o + j * 4) t (R j) := by
    rcases hks with h0 | h
    · rw [h0] at hi; simp at hi
    · exact h
  have HKI : Hid (∀ wz, Below w.heap.size w wz → wz.cell? ⟨b1, o1 + i * 4, none⟩ = some (.int .i64 ui.kind)) := Lib.hid fun wz hz => (hz.cell (p := ⟨_, _, none⟩) hb1).trans (hat i ui hui).1
  clear hc hT h hgi hv hks hr hat hui hs hg hl
  have hl0 : (0 : Int) ≤ (i : Int) := Int.natCast_nonneg _
  have hl1 : (i : Int) < (ks.length : Int) := by omega
  generalize ks.length = m at *
  generalize g.length = n at *
  have A0 := Lib.hid (at4_new w k s (.slice ga n gc) (.slice (some ⟨b1, o1, none⟩) m dc))
  have B0 := Lib.hid (box_below w (.cells #[.int .i64 k, .string s, .slice ga n gc, .slice (some ⟨b1, o1, none⟩) m dc] 25))
  go_enter Tryd.func8, Tryd.ntmps8
  go_wp2_with (first
    | (go_at_call 10; refine (C1.out _ B0.out).mono ?_; rintro e w1 ⟨rfl, hb1'⟩; have B1 := Lib.hid (B0.out.trans (hb1'.mono B0.out.size)); have X1 := Lib.hid (at4_below A0.out hb1'); obtain ⟨e0, e1, e2, e3⟩ := X1.out; have ki := HKI.out _ B1.out; clear hb1')
    | (go_at_call 21; refine (C3.out _ B1.out).mono ?_; rintro e w' ⟨rfl, rfl⟩)
    | (go_at_call 12; refine (C2.out _ B1.out).mono ?_; rintro e w2 ⟨rfl, hb2⟩; have B2 := Lib.hid (B1.out.trans (hb2.mono B1.out.size)); clear hb2))
  go_ret
  exact ⟨rfl, B2.out⟩
theorem grown_drew {w w' : World} {r : Option Nat} (h : w.drew.grownBy w' r) : w.grownBy w' r := ⟨h.os, h.tape, h.output, h.size, h.block⟩
theorem setTake (ks : List Pl.Tr) (i j : Nat) (p : Pl.Tr) (u : Pl.Tr) (h : j < ks.length) (hu : ks[j]? = some u) : (ks.set i p).take (j + 1) = (ks.set i p).take j ++ [if j = i then p else u] := by
  have hl : j < (ks.set i p).length := by rw [List.length_set]; exact h
  rw [List.take_succ_eq_append_getElem hl]
  congr 2
  have e : (ks.set i p)[j]? = some (if j = i then p else u) := by
    rw [List.getElem?_set]
    by_cases hij : i = j
    · subst hij; simp [h]
    · rw [if_neg hij, if_neg (fun e => hij e.symm), hu]
  rw [List.getElem?_eq_getElem hl] at e
  exact Option.some.inj e
set_option maxHeartbeats 6400000 in
set_option maxRecDepth 100000 in
theorem parens_main (k : Int) (s : ByteArray) (g : List ByteArray) (ks : List Pl.Tr) (r : Sl) (i : Nat) (w : World) (hT : Tabs w) (h : IsT w (.node k s g ks) r) (hc : Pl.chk (.node k s g ks) = 0) (hi : i < ks.length) (ui : Pl.Tr) (hui : ks[i]? = some ui) (hgi : Pl.grp ui.kind = 3) :
    Calls Tryd.prog 8 #[.agg #[.int .i64 k, .string s, .slice r.ga g.length r.gc, .slice r.da ks.length r.dc], .int .i64 i] w fun e w' => e = .returned (.bool true) ∧ Below w.heap.size w w' := by
  obtain ⟨i0, hi0, hz0, hz1, hz2⟩ := info_parts infoN
  have hlen := Pl.chk_len k s g ks hc
  have C1 := Lib.hid (fun w2 (hb : Below w.heap.size w w2) => check_is (.node k s g ks) w2 r 0 hc (hT.later hb) (h.later hb))
  have C2 := Lib.hid (fun w2 (hb : Below w.heap.size w w2) => awake_any w2 (hT.later hb))
  have C3 := Lib.hid (fun w2 (hb : Below w.heap.size w w2) => group_is ui.kind 3 hgi w2 (hT.later hb))
  have HPC := Lib.hid (Pl.par_chk k s g ks i ui hui hgi hc)
  obtain ⟨hs, hg, hl, R, hks, hr⟩ := h.parts
  obtain ⟨ga, gc, da, dc⟩ := r
  simp only [Pl.Tr.kind, Pl.Tr.text, Pl.Tr.gaps, Pl.Tr.kids] at *
  obtain ⟨m, hm⟩ : ∃ m, m = ks.length := ⟨_, rfl⟩
  obtain ⟨n, hn⟩ : ∃ n, n = g.length := ⟨_, rfl⟩
  rw [← hm] at hlen hi C1 ⊢
  rw [← hn] at C1 ⊢
  have HM := Lib.hid hm
  have HN := Lib.hid hn
  have HT := Lib.hid hT
  have HK := Lib.hid hks
  have HR := Lib.hid hr
  have HSS := Lib.hid hs
  have HG := Lib.hid hg
  have HUI := Lib.hid hui
  obtain ⟨b1, o1, rfl, hb1, hat⟩ : ∃ b o, da = some ⟨b, o, none⟩ ∧ b < w.heap.size ∧ ∀ (j : Nat) t, ks[j]? = some t → AtT w b (o + j * 4) t (R j) := by
    rcases hks with h0 | h
    · rw [h0] at hm; simp at hm; omega
    · exact h
  have HAT := Lib.hid hat
  have A0 := Lib.hid (at4_new w k s (.slice ga n gc) (.slice (some ⟨b1, o1, none⟩) m dc))
  have B0 := Lib.hid (box_below w (.cells #[.int .i64 k, .string s, .slice ga n gc, .slice (some ⟨b1, o1, none⟩) m dc] 25))
  have HKI : Hid (∀ wz, Below w.heap.size w wz → wz.cell? ⟨b1, o1 + i * 4, none⟩ = some (.int .i64 ui.kind)) := Lib.hid fun wz hz => (hz.cell (p := ⟨_, _, none⟩) hb1).trans (hat i ui hui).1
  clear hks hr hT h hc hm hn hui hgi hs hg hl hat
  go_enter Tryd.func8, Tryd.ntmps8
  go_upto_region 3 with (first
    | (go_at_call 10; refine (C1.out _ B0.out).mono ?_; rintro e w1 ⟨rfl, hb1'⟩; have B1 := Lib.hid (B0.out.trans (hb1'.mono B0.out.size)); have X1 := Lib.hid (at4_below A0.out hb1'); obtain ⟨e0, e1, e2, e3⟩ := X1.out; have ki := HKI.out _ B1.out; clear hb1')
    | (go_at_call 21; refine (C3.out _ B1.out).mono ?_; rintro e w' ⟨rfl, rfl⟩))
  go_wp2_with fail
  have hw1 := B1.out.size
  have hX0 : w.heap.size < w1.heap.size := (X1.out).lt
  generalize (decide ((i : Int) < 0) || decide (m ≤ i)) = p3
  generalize decide ((i : Int) < 0) = p1
  generalize decide (m ≤ i) = p2
  go_loopw [6] (fun v6 wr => ∃ (j : Nat) (va : Option Addr) (vc : Nat) (L : List (Pl.Tr × Sl)), j ≤ m ∧ v6 = .int .i64 j ∧ L.map Prod.fst = (ks.set i (Pl.par ui)).take j ∧ Hid (Below w.heap.size w wr) ∧ w1.heap.size < wr.heap.size ∧
    Hid (At4 wr w.heap.size 0 k s (.slice ga n gc) (.slice (some ⟨b1, o1, none⟩) m dc)) ∧ wr.heap[w1.heap.size]? = some (.cells #[.int .i64 k, .string s, .slice ga n gc, .slice va j vc] 25 (0, 0)) ∧ Made w1.heap.size (w1.heap.size + 1) wr va j vc L) (fun v6 _ => m - (intOf v6).toNat)
  case atStart =>
    exact ⟨0, none, 0, [], Nat.zero_le _, rfl, rfl, Lib.hid (B1.out.trans ((box_below _ _).mono B1.out.size)), by simp, Lib.hid (at4_below X1.out (box_below _ _)), heap_alloc_new _ _, made_nil _ _ _⟩
  case round =>
    obtain ⟨j, va, vc, L, hj, rfl, hL, HBL, hgt, HX, hout, hmade⟩ := hrel
    have HL := Lib.hid hL
    have HM2 := Lib.hid hmade
    have HO := Lib.hid hout
    have HC : Hid (wr.cell? ⟨w.heap.size, 3, none⟩ = some (.slice (some ⟨b1, o1, none⟩) m dc)) := Lib.hid HX.out.2.2.2
    have cb3 := HC.out
    have x3 := (blk_cells hout).1.2.2.2
    have hgr := HBL.out.size
    have hblt : b1 < wr.heap.size := by omega
    clear hL hmade
    by_cases hlt : j < m
    · have hjk : j < ks.length := by rw [← HM.out]; exact hlt
      have hu := List.getElem?_eq_getElem hjk
      have HST := Lib.hid (setTake ks i j (Pl.par ui) _ hjk hu)
      obtain ⟨c0, c1, c2, c3⟩ := At4.keep (HAT.out j _ hu) (Same.below HBL.out fun _ h => h) hb1
      have HU1 : Hid (Tin (fun x => x < w.heap.size) wr.drew ks[j] (R j)) := Lib.hid ((HR.out j _ hu).keep (Same.below HBL.out.drew fun _ h => h) fun _ h => h)
      have HEQ : Hid (j = i → ks[j] = ui) := Lib.hid (fun e => by subst e; exact Option.some.inj (hu.symm.trans HUI.out))
      generalize ks[j] = u at *
      generalize R j = r1 at *
      obtain ⟨ga1, gc1, da1, dc1⟩ := r1
      have d0 : wr.drew.cell? ⟨b1, o1 + j * 4, none⟩ = some (.int .i64 u.kind) := c0
      have d1 : wr.drew.cell? ⟨b1, o1 + j * 4 + 1, none⟩ = some (.string u.text) := c1
      have d2 : wr.drew.cell? ⟨b1, o1 + j * 4 + 2, none⟩ = some (.slice ga1 u.gaps.length gc1) := c2
      have d3 : wr.drew.cell? ⟨b1, o1 + j * 4 + 3, none⟩ = some (.slice da1 u.kids.length dc1) := c3
      have d4 : wr.drew.cell? ⟨w.heap.size, 3, none⟩ = some (.slice (some ⟨b1, o1, none⟩) m dc) := cb3
      have d5 : wr.drew.cell? ⟨w1.heap.size, 3, none⟩ = some (.slice va j vc) := x3
      have pa := cell_past b1
      have pb := cell_past w.heap.size
      have pc := cell_past w1.heap.size
      have hgt3 : w.heap.size < wr.heap.size := by omega
      clear hu hout
      by_cases hji : j = i
      · have HE := Lib.hid (HEQ.out hji)
        have hb : ((j : Int) == (i : Int)) = true := by rw [hji]; simp
        have HST2 := HST
        clear HST
        have HST : Hid ((ks.set i (Pl.par ui)).take (j + 1) = (ks.set i (Pl.par ui)).take j ++ [Pl.par u]) := Lib.hid (by rw [HST2.out, if_pos hji, HE.out])
        clear HST2 hji HEQ
        go_wp2_with fail
        go_region_law
          ((first
            | (refine step_append_lies _ (by rfl) _ _ _ (by rfl) (w1.heap.size + 1) 25 i0 _ 4 72 Tryd.underlying23 hi0 hz0 hz1 hz2 rfl (by omega) (.slice va j vc) j (row4 L) (by rfl) ((owns_later HM2.out.2.1 HB2.out).alloc _)
                 ⟨w2.heap.size, 0, none⟩ 1 1 [.int .i64 26, .string ⟨#[]⟩, .slice none 0 0, .slice (some ⟨g2, 0, none⟩) 1 1] (by rfl) (by rfl) (World.news_of_block (cs := #[.int .i64 26, .string ⟨#[]⟩, .slice none 0 0, .slice (some ⟨g2, 0, none⟩) 1 1]) (t := 25) (fr := (0, 0)) (heap_alloc_new w2 _)) (by simp [Value.oneCell'])
                 (by omega) (by unfold maxLen; omega) (by omega) (by simp; omega) (w2.heap.size + 1) (by simp) ?_; intro gg cap w3 hown hgrow hat3 hlt3;
               have hblk3 := (hgrow.block w1.heap.size (by simp; omega) (fun e => by have := (HM2.out.2.1.lt _ e.symm).1; omega)).trans ((Below.heap_alloc _ _ _ (by omega)).trans ((HB2.out.block _ hgt).trans HO.out));
               obtain ⟨⟨t0, t1, t2, t3⟩, y0, y1, y2, y3⟩ := blk_cells hblk3;
               have HB3 := Lib.hid hblk3;
               have HOwn := Lib.hid hown;
               have HGrow := Lib.hid hgrow;
               have HAt3 := Lib.hid hat3;
               have hsz3 := hgrow.size;
               clear hblk3 hown hgrow hat3)
            | (go_simp; go_at_call 24; refine (paren_in (P := fun x => x < w.heap.size) u ⟨ga1, gc1, da1, dc1⟩ wr.drew HU1.out (fun x hx => by show x < wr.heap.size; omega)).mono ?_; rintro e w2 ⟨g2, rfl, hb2', HT2⟩;
               have hb2 : Below wr.heap.size wr w2 := (Below.refl _ wr).drew.trans hb2';
               have q0 := (hb2.cell (p := ⟨b1, o1 + j * 4, none⟩) hblt).trans c0;
               have q1 := (hb2.cell (p := ⟨b1, o1 + j * 4 + 1, none⟩) hblt).trans c1;
               have q2 := (hb2.cell (p := ⟨b1, o1 + j * 4 + 2, none⟩) hblt).trans c2;
               have q3 := (hb2.cell (p := ⟨b1, o1 + j * 4 + 3, none⟩) hblt).trans c3;
               have q4 := (hb2.cell (p := ⟨w.heap.size, 3, none⟩) (by show w.heap.size < _; omega)).trans HC.out;
               have q5 := (hb2.cell (p := ⟨w1.heap.size, 3, none⟩) hgt).trans x3;
               have hsz2 := hb2.size;
               have hbl2 : b1 < w2.heap.size := by omega;
               have hgt2 : w1.heap.size < w2.heap.size := by omega;
               have hgt3 : w.heap.size < w2.heap.size := by omega;
               have HB2 := Lib.hid hb2;
               clear hb2 hb2')))
        all_goals
          go_wp2_with fail
          have hown3 : ∀ k, (Value.slice va j vc).ownBlock = some k → w1.heap.size + 1 ≤ k := fun k hk => (HM2.out.2.1.lt k hk).1
          have hlow : ∀ x, x < w1.heap.size + 1 → w3.heap[x]? = wr.heap[x]? := fun x hx =>
            (HGrow.out.block x (by simp; omega) (fun e => by have := hown3 x e.symm; omega)).trans ((Below.heap_alloc _ _ _ (by omega)).trans (HB2.out.block x (by omega)))
          simp at hsz3
          refine ⟨⟨j + 1, some ⟨gg, 0, none⟩, cap, L ++ [((Pl.par u), ⟨none, 0, some ⟨g2, 0, none⟩, 1⟩)], by omega, by go_num, ?_, ?_, by simp; omega, ?_, ?_, ?_⟩, by simp [intOf]; omega⟩
          · rw [List.map_append, HL.out, HST.out]; rfl
          · exact Lib.hid ((((HBL.out.trans (HB2.out.mono HBL.out.size)).alloc (by omega) _).grown HGrow.out (by simp; omega) (fun k hk => by have := hown3 k hk; omega)).setCell (by show w.heap.size ≤ w1.heap.size; omega) _)
          · exact Lib.hid (At4.keep (P := fun x => x = w.heap.size) HX.out (fun x hx => (Below.heap_setCell _ _ _ _ (by show x ≠ w1.heap.size; omega)).trans (hlow x (by omega))) rfl)
          · have := HB3.out
            simp [World.setCell, Array.getElem?_modify, this]
          · exact made_keep (made_snoc HM2.out HB2.out (HT2.out.keep (Same.refl _ _) fun x hx => (by rcases hx with hx | hx; exact ⟨by omega, by omega, fun e => by have := (HM2.out.2.1.lt x e).1; omega⟩; exact ⟨hx.2, (by have := hx.1; have hd : wr.drew.heap.size = wr.heap.size := rfl; omega), fun e => by have := (HM2.out.2.1.lt x e).2; have := hx.1; have hd : wr.drew.heap.size = wr.heap.size := rfl; omega⟩)) HOwn.out HGrow.out HAt3.out) (by omega) (fun x hx _ => Below.heap_setCell _ _ _ _ hx) (by simp)
      · have hb : ((j : Int) == (i : Int)) = false := beq_eq_false_iff_ne.2 (by omega)
        have HST2 := HST
        clear HST
        have HST : Hid ((ks.set i (Pl.par ui)).take (j + 1) = (ks.set i (Pl.par ui)).take j ++ [u]) := Lib.hid (by rw [HST2.out, if_neg hji])
        clear HST2 hji HEQ
        have HTN : Hid (Tin (fun x => x < wr.heap.size ∧ x ≠ w1.heap.size ∧ (Value.slice va j vc).ownBlock ≠ some x) wr u ⟨ga1, gc1, da1, dc1⟩) := Lib.hid (HU1.out.keep (w' := wr) (Same.refl _ _) fun x hx => ⟨by omega, by omega, fun e => by have := (HM2.out.2.1.lt x e).1; omega⟩)
        go_wp2_with fail
        go_region_law
          ((first
            | (refine step_append_lies _ (by rfl) _ _ _ (by rfl) (w1.heap.size + 1) 25 i0 _ 4 72 Tryd.underlying23 hi0 hz0 hz1 hz2 rfl (by omega) (.slice va j vc) j (row4 L) (by rfl) (HM2.out.2.1.alloc _)
                 ⟨wr.heap.size, 0, none⟩ 1 1 [.int .i64 u.kind, .string u.text, .slice ga1 u.gaps.length gc1, .slice da1 u.kids.length dc1] (by rfl) (by rfl) (World.news_of_block (cs := #[.int .i64 u.kind, .string u.text, .slice ga1 u.gaps.length gc1, .slice da1 u.kids.length dc1]) (t := 25) (fr := (0, 0)) (heap_alloc_new wr _)) (by simp [Value.oneCell'])
                 (by omega) (by unfold maxLen; omega) (by omega) (by simp; omega) (wr.heap.size + 1) (by simp) ?_; intro gg cap w3 hown hgrow hat3 hlt3;
               have hblk3 := (hgrow.block w1.heap.size (by simp; omega) (fun e => by have := (HM2.out.2.1.lt _ e.symm).1; omega)).trans ((Below.heap_alloc _ _ _ (by omega)).trans HO.out);
               obtain ⟨⟨t0, t1, t2, t3⟩, y0, y1, y2, y3⟩ := blk_cells hblk3;
               have HB3 := Lib.hid hblk3;
               have HOwn := Lib.hid hown;
               have HGrow : Hid ((wr.alloc (.cells #[.int .i64 u.kind, .string u.text, .slice ga1 u.gaps.length gc1, .slice da1 u.kids.length dc1] 25)).grownBy w3 (Value.slice va j vc).ownBlock) := Lib.hid (by first | exact hgrow | exact grown_drew hgrow);
               have HAt3 := Lib.hid hat3;
               have hsz3 := hgrow.size;
               clear hblk3 hown hgrow hat3)))
        all_goals
          go_wp2_with fail
          have hown3 : ∀ k, (Value.slice va j vc).ownBlock = some k → w1.heap.size + 1 ≤ k := fun k hk => (HM2.out.2.1.lt k hk).1
          have hlow : ∀ x, x < w1.heap.size + 1 → w3.heap[x]? = wr.heap[x]? := fun x hx =>
            (HGrow.out.block x (by simp; omega) (fun e => by have := hown3 x e.symm; omega)).trans ((Below.heap_alloc _ _ _ (by omega)).trans rfl)
          simp at hsz3
          refine ⟨⟨j + 1, some ⟨gg, 0, none⟩, cap, L ++ [(u, ⟨ga1, gc1, da1, dc1⟩)], by omega, by go_num, ?_, ?_, by simp; omega, ?_, ?_, ?_⟩, by simp [intOf]; omega⟩
          · rw [List.map_append, HL.out, HST.out]; rfl
          · exact Lib.hid ((((HBL.out.trans ((Below.refl wr.heap.size wr).mono HBL.out.size)).alloc (by omega) _).grown HGrow.out (by simp; omega) (fun k hk => by have := hown3 k hk; omega)).setCell (by show w.heap.size ≤ w1.heap.size; omega) _)
          · exact Lib.hid (At4.keep (P := fun x => x = w.heap.size) HX.out (fun x hx => (Below.heap_setCell _ _ _ _ (by show x ≠ w1.heap.size; omega)).trans (hlow x (by omega))) rfl)
          · have := HB3.out
            simp [World.setCell, Array.getElem?_modify, this]
          · exact made_keep (made_snoc HM2.out (Below.refl wr.heap.size wr) (HTN.out) HOwn.out HGrow.out HAt3.out) (by omega) (fun x hx _ => Below.heap_setCell _ _ _ _ hx) (by simp)
    · obtain rfl : j = m := by omega
      have hlen2 : (ks.set i (Pl.par ui)).length = j := by have := HM.out; rw [List.length_set]; omega
      obtain ⟨R2, hl2, hr2⟩ := made_lies HM2.out
      rw [HL.out, List.take_of_length_le (Nat.le_of_eq hlen2)] at hl2 hr2
      have HT2 : IsT wr (.node k s g (ks.set i (Pl.par ui))) ⟨ga, gc, va, vc⟩ :=
        Tin.mk _ _ R2 HSS.out (HG.out.later HBL.out) (by show (ks.set i (Pl.par ui)).length ≤ maxLen; rw [hlen2]; unfold maxLen; omega) hl2 hr2
      obtain ⟨v, hv, hv2⟩ : ∃ v, Pl.chk (.node k s g (ks.set i (Pl.par ui))) = v ∧ (v = 0 ∨ v = 3) := ⟨_, rfl, HPC.out⟩
      have C9 := Lib.hid (fun w2 (hb : Below wr.heap.size wr w2) => check_is (.node k s g (ks.set i (Pl.par ui))) w2 ⟨ga, gc, va, vc⟩ v hv (HT.out.later (HBL.out.trans (hb.mono HBL.out.size))) (HT2.later hb))
      simp only [Pl.Tr.kind, Pl.Tr.text, Pl.Tr.gaps, Pl.Tr.kids] at C9
      rw [hlen2, ← HN.out] at C9
      obtain ⟨⟨x0, x1, x2, _⟩, y0, y1, y2, y3⟩ := blk_cells HO.out
      have BR := HBL
      clear hv hl2 hr2 HT2
      rcases hv2 with rfl | rfl
      all_goals
        go_wp2_with (first
          | (go_at_call 10; refine (C9.out _ (Below.refl _ _)).mono ?_; rintro e w2 ⟨rfl, hb2⟩; have B2 := Lib.hid (BR.out.trans (hb2.mono BR.out.size)); clear hb2)
          | (go_at_call 12; refine (C2.out _ B2.out).mono ?_; rintro e w3 ⟨rfl, hb3⟩; have B3 := Lib.hid (B2.out.trans (hb3.mono B2.out.size)); clear hb3))
        go_ret
        exact ⟨rfl, B3.out⟩
theorem lawParens (t : Pl.Tr) (r : Sl) (i : Int) (w : World) (hT : Tabs w) (h : IsT w t r) :
    Calls Tryd.prog 8 #[.agg #[.int .i64 t.kind, .string t.text, .slice r.ga t.gaps.length r.gc, .slice r.da t.kids.length r.dc], .int .i64 i] w fun e w' => e = .returned (.bool true) ∧ Below w.heap.size w w' := by
  cases t with
  | node k s g ks =>
    by_cases hc : Pl.chk (.node k s g ks) = 0
    · rcases Int.lt_or_le i 0 with hi | hi
      · exact parens_neg k s g ks r i w hT h hc hi
      · obtain ⟨j, rfl⟩ := Int.eq_ofNat_of_zero_le hi
        by_cases hj : j < ks.length
        · have hu := List.getElem?_eq_getElem hj
          by_cases hg : Pl.grp ks[j].kind = 3
          · exact parens_main k s g ks r j w hT h hc hj _ hu hg
          · exact parens_other k s g ks r j w hT h hc hj _ hu hg
        · exact parens_far k s g ks r j w hT h hc (by omega)
    · exact parens_bad k s g ks r i w hT h hc
end Go.Proofs.YtmfmlkdojgbhfaaDoor
