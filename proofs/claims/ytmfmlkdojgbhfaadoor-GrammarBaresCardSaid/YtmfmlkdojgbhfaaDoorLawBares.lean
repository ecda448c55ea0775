/- The walk of the law GrammarBares. -/
import Derived.Test.YtmfmlkdojgbhfaaDoorWalkBare
import Derived.Test.YtmfmlkdojgbhfaaDoorLawKinds
namespace Go.Proofs.YtmfmlkdojgbhfaaDoor
open Go.RowKit
set_option linter.unusedVariables false
set_option linter.unusedSimpArgs false

theorem infoS : (Tryd.prog.info? 9).map (fun i => (i.zero, i.size, i.bytes)) = some (some (.string ⟨#[]⟩), 1, 16) := by kernel_rfl
theorem triv_x : Pl.triv ⟨#[120]⟩ = false := by decide +kernel
/-- The gaps that the law appends. -/
theorem own_strs {w : World} {B n c : Nat} {a : Option Addr} (h : w.ownsRow B 9 1 (.slice a n c) n (List.replicate n (.string ⟨#[120]⟩))) (hn : n ≤ 1000) (h0 : 0 < n) : Strs (fun b => b < w.heap.size) w a (List.replicate n ⟨#[120]⟩) := by
  refine ⟨by rw [List.length_replicate]; unfold maxLen; omega, fun x hx => by rw [List.eq_of_mem_replicate hx]; decide, ?_⟩
  rcases h.2 with ⟨h2, h3⟩ | ⟨g, cap, cur, he, hg, hh, hn1, hm, hz, ht⟩
  · injection h2 with e1 e2 e3
    omega
  · injection he with e1 e2 e3
    refine .inr ⟨g, 0, e1, lt_blk hh, fun j x hx => ?_⟩
    have hj : j < n := by have := (List.getElem?_eq_some_iff.1 hx).1; simpa using this
    obtain rfl : x = ⟨#[120]⟩ := List.eq_of_mem_replicate (List.mem_of_getElem? hx)
    have h4 : (List.replicate n (Value.string ⟨#[120]⟩))[j]? = some (.string ⟨#[120]⟩) := by rw [List.getElem?_replicate, if_pos hj]
    rw [← ht, List.getElem?_take, if_pos (by omega)] at h4
    rw [cell_of_row w g _ cur _ _ hh, ← h4, Nat.zero_add]
    simp
set_option maxHeartbeats 1600000 in
theorem bares_bad (t : Pl.Tr) (r : Sl) (w : World) (hT : Tabs w) (h : IsT w t r) (hc : ¬ Pl.chk t = 0) :
    Calls Tryd.prog 7 #[.agg #[.int .i64 t.kind, .string t.text, .slice r.ga t.gaps.length r.gc, .slice r.da t.kids.length r.dc]] w fun e w' => e = .returned (.bool true) ∧ Below w.heap.size w w' := by
  obtain ⟨v, hv⟩ : ∃ v, v = Pl.chk t := ⟨_, rfl⟩
  rw [← hv] at hc
  obtain ⟨v1, v2⟩ := int_neq2 hc
  have C1 := Lib.hid (fun w2 (hb : Below w.heap.size w w2) => check_is t w2 r v hv.symm (hT.later hb) (h.later hb))
  have C2 := Lib.hid (fun w2 (hb : Below w.heap.size w w2) => awake_any w2 (hT.later hb))
  have B0 := Lib.hid (box_below w (.cells #[.int .i64 t.kind, .string t.text, .slice r.ga t.gaps.length r.gc, .slice r.da t.kids.length r.dc] 25))
  clear hc hv hT h
  generalize t.kind = k at *
  generalize t.text = s at *
  generalize t.gaps.length = n at *
  generalize t.kids.length = m at *
  obtain ⟨ga, gc, da, dc⟩ := r
  simp only at *
  go_enter Tryd.func7, Tryd.ntmps7
  go_wp2_with (first
    | (go_at_call 10; refine (C1.out _ B0.out).mono ?_; rintro e w1 ⟨rfl, hb1⟩; have B1 := Lib.hid (B0.out.trans (hb1.mono B0.out.size)); clear hb1)
    | (go_at_call 12; refine (C2.out _ B1.out).mono ?_; rintro e w2 ⟨rfl, hb2⟩; have B2 := Lib.hid (B1.out.trans (hb2.mono B1.out.size)); clear hb2))
  go_ret
  exact ⟨rfl, B2.out⟩
set_option maxHeartbeats 3200000 in
set_option maxRecDepth 100000 in
theorem bares_main (k : Int) (s : ByteArray) (g : List ByteArray) (ks : List Pl.Tr) (r : Sl) (w : World) (hT : Tabs w) (h : IsT w (.node k s g ks) r) (hc : Pl.chk (.node k s g ks) = 0) :
    Calls Tryd.prog 7 #[.agg #[.int .i64 k, .string s, .slice r.ga g.length r.gc, .slice r.da ks.length r.dc]] w fun e w' => e = .returned (.bool true) ∧ Below w.heap.size w w' := by
  obtain ⟨i0, hi0, hz0, hz1, hz2⟩ := info_parts infoS
  have hlen := Pl.chk_len k s g ks hc
  obtain ⟨c1, c2, c3, c4⟩ := Pl.chk_zero _ hc
  obtain ⟨o, ho, ho2⟩ : ∃ o : Nat, Pl.own k s ks.length = o ∧ o ≤ 1000 := by
    obtain ⟨a, b⟩ := Pl.own_nonneg k s ks.length hlen
    obtain ⟨o, e⟩ := Int.eq_ofNat_of_zero_le a
    exact ⟨o, e, by omega⟩
  obtain ⟨ga, gc, da, dc⟩ := r
  have hlm : ks.length ≤ maxLen := by unfold maxLen; omega
  have hbl : (Pl.bares ks).length = ks.length := Pl.bares_len ks
  obtain ⟨y, hy⟩ : ∃ y, y = Pl.szw (.node k s g ks) := ⟨_, rfl⟩
  rw [← hy] at c1
  have d1 : decide (4000 < y) = false := decide_eq_false c1
  have HT := Lib.hid hT
  have C1 := Lib.hid (fun w2 (hb : Below w.heap.size w w2) => check_is (.node k s g ks) w2 ⟨ga, gc, da, dc⟩ 0 hc (hT.later hb) (h.later hb))
  have C2 := Lib.hid (fun w2 (hb : Below w.heap.size w w2) => awake_any w2 (hT.later hb))
  have C3 := Lib.hid (fun w2 (hb : Below w.heap.size w w2) => own_is k s o g.length ks.length gc dc ga da w2 ho (hT.later hb) hlm)
  have C4 : Hid (∀ w2, Below w.heap.size w w2 → Calls Tryd.prog 23 #[.agg #[.int .i64 k, .string s, .slice ga g.length gc, .slice da ks.length dc]] w2 fun e w' => ∃ da2 dc2, e = .returned (.tuple #[.agg #[.int .i64 k, .string s, .slice none 0 0, .slice da2 ks.length dc2], .int .i64 y]) ∧ IsT w' (.node k s [] (Pl.bares ks)) ⟨none, 0, da2, dc2⟩ ∧ Below w2.heap.size w2 w') := Lib.hid (by
    intro w2 hb
    refine (bare_at (.node k s g ks) w2 ⟨ga, gc, da, dc⟩ (h.later hb) c3).mono ?_
    rintro e w' ⟨⟨ga2, gc2, da2, dc2⟩, he, ht, hb2, e1, e2⟩
    obtain rfl : ga2 = none := e1
    obtain rfl : gc2 = 0 := e2
    rw [Pl.bare] at he ht
    refine ⟨da2, dc2, ?_, ht.isT fun b hb => hb.2, hb2⟩
    rw [he, ← hy, ← hbl]; rfl)
  have C5 := Lib.hid (fun w2 (hb : Below w.heap.size w w2) da2 dc2 (hh : IsT w2 (.node k s [] (Pl.bares ks)) ⟨none, 0, da2, dc2⟩) => check_is (.node k s [] (Pl.bares ks)) w2 ⟨none, 0, da2, dc2⟩ 0 (by have e := Pl.bare_chk _ hc; rw [Pl.bare] at e; exact e) (hT.later hb) hh)
  have C7 : Hid (∀ w2, Below w.heap.size w w2 → ∀ r2 : Sl, IsT w2 (.node k s (List.replicate o ⟨#[120]⟩) (Pl.bares ks)) r2 → 0 < o → Calls Tryd.prog 10 #[.agg #[.int .i64 k, .string s, .slice r2.ga o r2.gc, .slice r2.da ks.length r2.dc]] w2 fun e w' => e = .returned (.int .i64 7) ∧ Below w2.heap.size w2 w') := Lib.hid (by
    intro w2 hb r2 hh h0
    obtain ⟨q, rfl⟩ : ∃ q, o = q + 1 := ⟨o - 1, by omega⟩
    have e := check_is (.node k s (List.replicate (q + 1) ⟨#[120]⟩) (Pl.bares ks)) w2 r2 7 (by rw [List.replicate_succ]; exact Pl.bare_gap k s g ks _ _ triv_x hc) (hT.later hb) hh
    simp only [Pl.Tr.kind, Pl.Tr.text, Pl.Tr.gaps, Pl.Tr.kids, List.length_replicate] at e
    rw [hbl] at e
    exact e)
  simp only [Pl.Tr.kind, Pl.Tr.text, Pl.Tr.gaps, Pl.Tr.kids, List.length_nil] at C1 C5 ⊢
  rw [hbl] at C5
  have HSS := Lib.hid h.parts.1
  have HBL2 := Lib.hid hbl
  obtain ⟨m, hm⟩ : ∃ m, m = ks.length := ⟨_, rfl⟩
  obtain ⟨n, hn⟩ : ∃ n, n = g.length := ⟨_, rfl⟩
  rw [← hm] at C1 C3 C4 C5 C7 ⊢
  rw [← hn] at C1 C3 C4 ⊢
  have A0 := Lib.hid (at4_new w k s (.slice ga n gc) (.slice da m dc))
  have B0 := Lib.hid (box_below w (.cells #[.int .i64 k, .string s, .slice ga n gc, .slice da m dc] 25))
  clear hlen c1 c2 c3 c4 ho hlm hbl hy hT h hc hn hm
  go_enter Tryd.func7, Tryd.ntmps7
  go_upto_region 4 with (first
    | (go_at_call 10; refine (C1.out _ B0.out).mono ?_; rintro e w1 ⟨rfl, hb1⟩; have B1 := Lib.hid (B0.out.trans (hb1.mono B0.out.size)); have X1 := Lib.hid (at4_below A0.out hb1); obtain ⟨e0, e1, e2, e3⟩ := X1.out; clear hb1)
    | (go_at_call 23; refine (C4.out _ B1.out).mono ?_; rintro e w2 ⟨da2, dc2, rfl, ht2, hb2⟩; have B2 := Lib.hid (B1.out.trans (hb2.mono B1.out.size)); have X2 := Lib.hid (at4_below X1.out hb2);
       have O2 := Lib.hid (heap_alloc_new w2 (.cells #[.int .i64 k, .string s, .slice none 0 0, .slice da2 m dc2] 25));
       have BX2 := Lib.hid (box_below w2 (.cells #[.int .i64 k, .string s, .slice none 0 0, .slice da2 m dc2] 25));
       obtain ⟨z0, z1, z2, z3⟩ := at4_new w2 k s (.slice none 0 0) (.slice da2 m dc2);
       have HT2 := Lib.hid ht2; clear ht2 hb2 e0 e1 e2 e3))
  go_upto_region 6 with (first
    | (go_at_call 10; refine (C5.out _ (B2.out.trans (BX2.out.mono B2.out.size)) da2 dc2 (HT2.out.later BX2.out)).mono ?_; rintro e w3 ⟨rfl, hb3⟩;
       have BX3 := Lib.hid (BX2.out.trans (hb3.mono BX2.out.size));
       have O3 := Lib.hid ((hb3.block _ (by simp)).trans O2.out);
       have X3 := Lib.hid (at4_below X2.out BX3.out);
       obtain ⟨e0, e1, e2, e3⟩ := X3.out; clear hb3 z0 z1 z2 z3))
  go_wp2_with (first
    | (go_at_call 13; refine (C3.out _ (B2.out.trans (BX3.out.mono B2.out.size))).mono ?_; rintro e w4 ⟨rfl, hb4⟩;
       have BX4 := Lib.hid (BX3.out.trans (hb4.mono BX3.out.size));
       have O4 := Lib.hid ((hb4.block _ (lt_blk O3.out)).trans O3.out);
       clear hb4 e0 e1 e2 e3))
  go_loopw [6] (fun v wr => ∃ (j : Nat) (va : Option Addr) (vc : Nat), j ≤ o ∧ v = .int .i64 j ∧ Hid (Below w2.heap.size w2 wr) ∧ w2.heap.size < wr.heap.size ∧
    wr.heap[w2.heap.size]? = some (.cells #[.int .i64 k, .string s, .slice va j vc, .slice da2 m dc2] 25 (0, 0)) ∧ Hid (wr.ownsRow (w2.heap.size + 1) 9 1 (.slice va j vc) j (List.replicate j (.string ⟨#[120]⟩)))) (fun v _ => o - (intOf v).toNat)
  case atStart =>
    exact ⟨0, none, 0, Nat.zero_le _, rfl, BX4, lt_blk O4.out, O4.out, Lib.hid (World.ownsRow_nil _ _ _ _)⟩
  case round =>
    obtain ⟨j, va, vc, hj, rfl, HBL, hgt, hout, HM⟩ := hrel
    have HO := Lib.hid hout
    have x2 := (blk_cells hout).1.2.2.1
    by_cases hlt : j < o
    · clear hout
      go_wp2_with (first
        | (at_builtin; refine wpList_append_lies _ rfl _ _ 22 rfl (w2.heap.size + 1) 9 i0 _ 1 16 Tryd.underlying22 hi0 hz0 hz1 hz2 rfl (by omega) (.slice va j vc) j (List.replicate j (.string ⟨#[120]⟩)) rfl (HM.out.alloc _)
             ⟨wr.heap.size, 0, none⟩ 1 1 [.string ⟨#[120]⟩] rfl rfl (World.news_of_block (cs := #[.string ⟨#[120]⟩]) (t := 9) (fr := (0, 0)) (heap_alloc_new wr _)) (by simp [Value.oneCell'])
             (by omega) (by unfold maxLen; omega) (by omega) (by simp; omega) (wr.heap.size + 1) (by simp) ?_; intro gg cap w5 hown hgrow hat3 hlt3;
           have hblk3 := (hgrow.block w2.heap.size (by simp; omega) (fun e => by have := (HM.out.lt _ e.symm).1; omega)).trans ((Below.heap_alloc _ _ _ hgt).trans HO.out);
           obtain ⟨⟨t0, t1, t2, t3⟩, y0, y1, y2, y3⟩ := blk_cells hblk3;
           have HB3 := Lib.hid hblk3;
           have HOwn := Lib.hid hown;
           have HGrow := Lib.hid hgrow;
           have hsz3 := hgrow.size;
           clear hblk3 hown hgrow hat3))
      have hown3 : ∀ k, (Value.slice va j vc).ownBlock = some k → w2.heap.size + 1 ≤ k := fun k hk => (HM.out.lt k hk).1
      simp at hsz3
      refine ⟨⟨j + 1, some ⟨gg, 0, none⟩, cap, by omega, by go_num, ?_, by simp; omega, ?_, ?_⟩, by simp [intOf]; omega⟩
      · exact Lib.hid (((HBL.out.alloc (Nat.le_of_lt hgt) _).grown HGrow.out (by simp; omega) (fun k hk => by have := hown3 k hk; omega)).setCell (Nat.le_refl _) _)
      · have := HB3.out
        simp [World.setCell, Array.getElem?_modify, this]
      · refine Lib.hid ?_
        rw [List.replicate_succ']
        exact ⟨HOwn.out.1, by
          rcases HOwn.out.2 with h | ⟨q1, q2, q3, h1, h2, h3, h4⟩
          · exact .inl h
          · exact .inr ⟨q1, q2, q3, h1, h2, (Below.heap_setCell _ _ _ _ (by show q1 ≠ w2.heap.size; omega)).trans h3, h4⟩⟩
    · have hjo : j = o := by omega
      subst hjo
      obtain ⟨⟨t0, t1, t2, t3⟩, _⟩ := blk_cells hout
      have BW := Lib.hid (B2.out.trans (HBL.out.mono B2.out.size))
      clear hout x2
      rcases Nat.eq_zero_or_pos j with h0 | h0
      · subst h0
        go_wp2_with (go_at_call 12; refine (C2.out _ BW.out).mono ?_; rintro e w5 ⟨rfl, hb5⟩; have B5 := Lib.hid (BW.out.trans (hb5.mono BW.out.size)); clear hb5)
        go_ret
        exact ⟨rfl, B5.out⟩
      · have HTZ : IsT wr (.node k s (List.replicate j ⟨#[120]⟩) (Pl.bares ks)) ⟨va, vc, da2, dc2⟩ := by
          obtain ⟨_, _, hl2, R2, hk2, hr2⟩ := (HT2.out.later HBL.out).parts
          exact .mk _ _ R2 HSS.out (own_strs HM.out ho2 h0) hl2 hk2 hr2
        have C8 := Lib.hid (C7.out wr BW.out _ HTZ h0)
        have b1 : ((j : Int) == 0) = false := beq_eq_false_iff_ne.2 (by omega)
        clear HTZ h0
        go_wp2_with (first
          | (go_at_call 10; refine C8.out.mono ?_; rintro e w4' ⟨rfl, hb4⟩; have B4 := Lib.hid (BW.out.trans (hb4.mono BW.out.size)); clear hb4)
          | (go_at_call 12; refine (C2.out _ B4.out).mono ?_; rintro e w5 ⟨rfl, hb5⟩; have B5 := Lib.hid (B4.out.trans (hb5.mono B4.out.size)); clear hb5))
        go_ret
        exact ⟨rfl, B5.out⟩
theorem lawBares (t : Pl.Tr) (r : Sl) (w : World) (hT : Tabs w) (h : IsT w t r) :
    Calls Tryd.prog 7 #[.agg #[.int .i64 t.kind, .string t.text, .slice r.ga t.gaps.length r.gc, .slice r.da t.kids.length r.dc]] w fun e w' => e = .returned (.bool true) ∧ Below w.heap.size w w' := by
  by_cases hc : Pl.chk t = 0
  · cases t with
    | node k s g ks => exact bares_main k s g ks r w hT h hc
  · exact bares_bad t r w hT h hc
end Go.Proofs.YtmfmlkdojgbhfaaDoor
