/- The units without gaps, as the law ScopeBare makes them. -/
import Derived.Test.YtoelfiendfemaaaLaw2
import Derived.Test.YtoelfiendfemaaaSamp
import Derived.Test.YtoelfiendfemaaaPBare
namespace Go.Proofs.Ytoelfiendfemaaa.Pl
set_option linter.unusedVariables false
set_option linter.unusedSimpArgs false
theorem pres_bare (l : List Tr) (h : ∀ t ∈ l, ∀ x ∈ pre (bare t), x.gaps = [] ∧ ∃ y ∈ pre t, x.text = y.text) : ∀ x ∈ pres (bares l), x.gaps = [] ∧ ∃ y ∈ pres l, x.text = y.text := by
  induction l with
  | nil => intro x hx; rw [bares, pres] at hx; cases hx
  | cons c l ihl =>
    intro x hx
    rw [bares, pres] at hx
    rw [pres]
    rcases List.mem_append.1 hx with hx | hx
    · obtain ⟨h1, y, hy, h2⟩ := h c (by simp) x hx
      exact ⟨h1, y, List.mem_append.2 (.inl hy), h2⟩
    · obtain ⟨h1, y, hy, h2⟩ := ihl (fun t ht => h t (by simp [ht])) x hx
      exact ⟨h1, y, List.mem_append.2 (.inr hy), h2⟩
theorem pre_bare (t : Tr) : ∀ x ∈ pre (bare t), x.gaps = [] ∧ ∃ y ∈ pre t, x.text = y.text := by
  refine Tr.ind (M := fun t => ∀ x ∈ pre (bare t), x.gaps = [] ∧ ∃ y ∈ pre t, x.text = y.text) (fun k s g ks ih => ?_) t
  intro x hx
  rw [bare, pre] at hx
  rw [pre]
  rcases List.mem_cons.1 hx with rfl | hx
  · exact ⟨rfl, .node k s g ks, List.mem_cons_self .., rfl⟩
  · obtain ⟨h1, y, hy, h2⟩ := pres_bare ks ih x hx
    exact ⟨h1, y, List.mem_cons_of_mem _ hy, h2⟩
end Go.Proofs.Ytoelfiendfemaaa.Pl
namespace Go.Proofs.Ytoelfiendfemaaa
open Go.RowKit Go.Deep
set_option linter.unusedVariables false
set_option linter.unusedSimpArgs false
theorem lit_bare {t : Pl.Tr} (h : Lit t) : Lit (Pl.bare t) := ⟨by rw [Pl.bare_sz]; exact h.1, fun x hx => by
  obtain ⟨h1, y, hy, h2⟩ := Pl.pre_bare t x hx
  rw [h1, h2]
  exact ⟨Nat.zero_le _, (h.2 y hy).2⟩⟩
theorem few_bare {us : List Pl.Un} (h : Few us) : Few (us.map Pl.bU) := ⟨by rw [List.length_map]; exact h.1, fun x hx => by
  obtain ⟨y, hy, rfl⟩ := List.mem_map.1 hx
  exact lit_bare (h.2 y hy)⟩
def cellsN (x : Pl.Un × Sl) : List Value := cells7 x.1 x.2
theorem infoUn : (Try.prog.info? 56).map (fun i => (i.zero, i.size, i.bytes)) = some (some (.agg #[.string ⟨#[]⟩, .string ⟨#[]⟩, .int .i64 0, .string ⟨#[]⟩, .slice none 0 0, .slice none 0 0, .bool false]), 7, 112) := by kernel_rfl
/-- Units that a call gathers. -/
def MadeU (B : Nat) (w : World) (a : Option Addr) (n c : Nat) (L : List (Pl.Un × Sl)) : Prop :=
  n = L.length ∧ w.ownsRow B 56 7 (.slice a n c) n (L.flatMap cellsN) ∧ ∀ (q : Nat) x, L[q]? = some x → Tin (fun b => b < w.heap.size ∧ (Value.slice a n c).ownBlock ≠ some b) w x.1.tree x.2 ∧ x.1.path.size ≤ maxLen ∧ x.1.text.size ≤ maxLen
theorem madeU_nil (B : Nat) (w : World) : MadeU B w none 0 0 [] := ⟨rfl, World.ownsRow_nil _ _ _ _, fun q x h => by cases q <;> cases h⟩
theorem madeU_snoc {B n c cap g : Nat} {a : Option Addr} {w w2 w3 : World} {o : Obj} {L : List (Pl.Un × Sl)} {l : Pl.Un} {p : Sl} (h : MadeU B w a n c L) (hb : Below w.heap.size w w2) (ht : Tin (fun x => w.heap.size ≤ x ∧ x < w2.heap.size) w2 l.tree p) (hs : l.path.size ≤ maxLen ∧ l.text.size ≤ maxLen)
    (hown : w3.ownsRow B 56 7 (.slice (some ⟨g, 0, none⟩) (n + 1) cap) (n + 1) (L.flatMap cellsN ++ cellsN (l, p))) (hgrow : (w2.alloc o).grownBy w3 (Value.slice a n c).ownBlock) (hat : (Value.slice a n c).ownBlock = some g ∨ g = w2.heap.size + 1) :
    MadeU B w3 (some ⟨g, 0, none⟩) (n + 1) cap (L ++ [(l, p)]) := by
  obtain ⟨h1, h2, h3⟩ := h
  have hob : ∀ k, (Value.slice a n c).ownBlock = some k → B ≤ k ∧ k < w.heap.size := fun k hk => h2.lt k hk
  have hz := hb.size
  have hz3 := hgrow.size
  simp at hz3
  refine ⟨by rw [List.length_append, h1]; rfl, by rw [flatten_snoc]; exact hown, fun q x hx => ?_⟩
  have hgo : (Value.slice (some (⟨g, 0, none⟩ : Addr)) (n + 1) cap).ownBlock = some g := rfl
  by_cases hq : q < L.length
  · rw [List.getElem?_append_left hq] at hx
    refine ⟨(h3 q x hx).1.keep (fun y hy => ?_) (fun y hy => ?_), (h3 q x hx).2⟩
    · exact (hgrow.block y (by have := hy.1; simp; omega) (fun e => hy.2 e.symm)).trans ((Below.heap_alloc _ _ _ (by have := hy.1; omega)).trans (hb.block y hy.1))
    · have := hy.1
      refine ⟨by omega, fun e => ?_⟩
      rw [hgo, Option.some.injEq] at e
      rcases hat with hat | hat
      · exact hy.2 (by rw [hat, e])
      · omega
  · rw [List.getElem?_append_right (by omega)] at hx
    obtain rfl : (l, p) = x := by
      match hq2 : q - L.length, hx with
      | 0, hx => simpa using hx
      | k + 1, hx => simp at hx
    refine ⟨ht.keep (fun y hy => ?_) (fun y hy => ?_), hs⟩
    · exact (hgrow.block y (by have := hy.2; simp; omega) (fun e => by have := hob y e.symm; have := hy.1; omega)).trans (Below.heap_alloc _ _ _ hy.2)
    · have := hy.2
      refine ⟨by omega, fun e => ?_⟩
      rw [hgo, Option.some.injEq] at e
      rcases hat with hat | hat
      · have := hob g hat; have := hy.1; omega
      · omega
theorem madeU_done {B n c : Nat} {a : Option Addr} {w : World} {L : List (Pl.Un × Sl)} (h : MadeU B w a n c L) : ∃ c2 a2 R, Value.slice a n c = .slice a2 L.length c2 ∧ IsU w a2 (L.map Prod.fst) R := by
  obtain ⟨h1, h2, h3⟩ := h
  obtain ⟨a2, c2, e, hf⟩ := flat_row (cl := cellsN) (fun _ => rfl) (by decide) h2 h1
  refine ⟨c2, a2, fun j => match L[j]? with | some x => x.2 | none => ⟨none, 0, none, 0⟩, e, by rw [List.length_map]; exact hf.1, ?_, fun j x hx => ?_⟩
  · rcases hf.2 with h0 | ⟨b, o, hb, hlt, hr⟩
    · exact .inl (by rw [h0]; rfl)
    · refine .inr ⟨b, o, hb, hlt, fun j x hx => ?_⟩
      rw [List.getElem?_map] at hx
      obtain ⟨y, hy, rfl⟩ := Option.map_eq_some_iff.1 hx
      simp only [hy]
      exact hr j y hy
  · rw [List.getElem?_map] at hx
    obtain ⟨y, hy, rfl⟩ := Option.map_eq_some_iff.1 hx
    simp only [hy]
    exact ⟨(h3 j y hy).1.keep (Same.refl _ _) fun b hb => hb.1, (h3 j y hy).2⟩
end Go.Proofs.Ytoelfiendfemaaa

namespace Go.Proofs.Ytoelfiendfemaaa
open Go.RowKit Go.Deep
set_option linter.unusedVariables false
set_option linter.unusedSimpArgs false

set_option maxHeartbeats 3200000 in
set_option maxRecDepth 100000 in
theorem law_bare (HP : Prg) (HSm : SampC) (a : Option Addr) (n c : Nat) (us : List Pl.Un) (R : Nat → Sl) (p q : Int) (w : World) (hG : Good w) (hU : IsU w a us R) (hn : n = us.length) :
    Calls Try.prog 8 #[.slice a n c, .agg #[.int .i64 p, .int .i64 q]] w (YesP w) := by
  obtain ⟨i0, hi0, hz0, hz1, hz2⟩ := info_parts infoUn
  have HAw := Lib.hid (fun z (h : Below w.heap.size w z) => awake_any HP HSm z (hG.later h))
  have HFt := Lib.hid (fun z (h : Below w.heap.size w z) => fit_any a n c us R z (hU.later h) hn)
  have HGd := Lib.hid (fun z (h : Below w.heap.size w z) => hG.later h)
  have HU := Lib.hid hU
  have HN := Lib.hid hn
  have hml : n ≤ maxLen := by rw [hn]; exact hU.1
  unfold maxLen at hml
  clear hU hn hG
  obtain ⟨W, hW⟩ : ∃ W, W = w.alloc (.cells #[.int .i64 p, .int .i64 q] 29) := ⟨_, rfl⟩
  have HBW : Hid (Below w.heap.size w W) := Lib.hid (by rw [hW]; exact below_11 _ _)
  have HKW : Hid (W.heap[w.heap.size]? = some (.cells #[.int .i64 p, .int .i64 q] 29 (0, 0))) := Lib.hid (by rw [hW]; exact heap_alloc_new _ _)
  have HWw := Lib.hid hW
  clear hW
  go_enter Try.func8, Try.ntmps8
  go_upto_region 1 with fail
  rw [← HWw.out]
  clear HWw
  go_wp2_with (first
    | (go_at_call 10; refine (HFt.out W HBW.out).mono ?_; rintro e w1 ⟨bb, hbb, rfl, hb1⟩; have HBB := Lib.hid hbb; have HB1 := Lib.hid (HBW.out.trans (hb1.mono HBW.out.size)); have hk1 := blk_keep HKW.out hb1; have HK1 := Lib.hid hk1; clear hbb hb1 hk1; cases bb)
    | (go_at_call 9; refine (HAw.out w1 HB1.out).mono ?_; rintro e w2 ⟨rfl, hb2⟩; have HB2 := Lib.hid (HB1.out.trans (hb2.mono HB1.out.size)); clear hb2))
  · go_ret
    exact ⟨rfl, HB2.out⟩
  have HF := Lib.hid (HBB.out (by trivial))
  have hn4 : n ≤ 4 := by rw [HN.out]; exact HF.out.1
  clear HFt HBB
  go_loopw [5, 6] (fun v i wr => ∃ (k : Nat) (a2 : Option Addr) (c2 : Nat) (L : List (Pl.Un × Sl)), k ≤ n ∧ i = .int .i64 k ∧ v = .slice a2 k c2 ∧ L.map Prod.fst = (us.take k).map Pl.bU ∧ MadeU w1.heap.size wr a2 k c2 L ∧ Below w1.heap.size w1 wr) (fun _ i _ => n - (intOf i).toNat)
  case atStart => exact ⟨0, none, 0, [], Nat.zero_le _, rfl, rfl, rfl, madeU_nil _ _, Below.refl _ _⟩
  case round =>
    obtain ⟨k, a2, c2, L, hk, rfl, rfl, hL, hmade, hbel⟩ := hrel
    have HL := Lib.hid hL
    have HM := Lib.hid hmade
    have HB := Lib.hid hbel
    have hgr := hbel.size
    by_cases hlt : k < n
    · have hkx : k < us.length := by rw [← HN.out]; exact hlt
      have hx := List.getElem?_eq_getElem hkx
      have HTk : Hid ((us.take (k + 1)).map Pl.bU = (us.take k).map Pl.bU ++ [Pl.bU us[k]]) := Lib.hid (by
        rw [List.take_succ_eq_append_getElem hkx, List.map_append]; rfl)
      have hlit := HF.out.2 _ (List.getElem_mem hkx)
      obtain ⟨b, o, rfl, hb, hrg, hT⟩ := (HU.out.later HB1.out).one hx
      have hsz := ((HU.out.later HB1.out).2.2 k _ hx).2
      have hk0 : (0 : Int) ≤ (k : Int) := Int.natCast_nonneg _
      have hk1 : (k : Int) < (n : Int) := by omega
      generalize us[k] = x at *
      generalize R k = r at *
      have hr7 : wr.rangeAt b (o + k * 7) (cells7 x r) := fun i v hv => (hbel.cell (p := ⟨b, o + k * 7 + i, none⟩) hb).trans (hrg i v hv)
      have hblt : b < wr.heap.size := Nat.lt_of_lt_of_le hb hgr
      have HRg := Lib.hid hr7
      have d0 : wr.drew.cell? ⟨b, o + k * 7, none⟩ = some (.string x.path) := hr7 0 _ rfl
      have d1 : wr.drew.cell? ⟨b, o + k * 7 + 1, none⟩ = some (.string x.text) := hr7 1 _ rfl
      have d2 : wr.drew.cell? ⟨b, o + k * 7 + 2, none⟩ = some (.int .i64 x.tree.kind) := hr7 2 _ rfl
      have d3 : wr.drew.cell? ⟨b, o + k * 7 + 2 + 1, none⟩ = some (.string x.tree.text) := hr7 3 _ rfl
      have d4 : wr.drew.cell? ⟨b, o + k * 7 + 2 + 2, none⟩ = some (.slice r.ga x.tree.gaps.length r.gc) := hr7 4 _ rfl
      have d5 : wr.drew.cell? ⟨b, o + k * 7 + 2 + 3, none⟩ = some (.slice r.da x.tree.kids.length r.dc) := hr7 5 _ rfl
      have d6 : wr.drew.cell? ⟨b, o + k * 7 + 6, none⟩ = some (.bool x.broken) := hr7 6 _ rfl
      have HBa := Lib.hid (rbare_at hT (fun b h => h) wr.drew (Same.below (hbel.trans ((Below.refl wr.heap.size wr).drew.mono hgr)) fun _ h => h) hgr (by have := hlit.1; omega))
      have HSz := Lib.hid hsz
      obtain ⟨ga, gc, da, dc⟩ := r
      clear hx hrg hr7 hL hmade hbel hT hlit hsz
      go_wp2_with fail
      go_region_held3 (fun w' => w'.cell? ⟨b, o + k * 7, none⟩ = some (.string x.path) ∧ w'.cell? ⟨b, o + k * 7 + 1, none⟩ = some (.string x.text) ∧ w'.cell? ⟨b, o + k * 7 + 2, none⟩ = some (.int .i64 x.tree.kind) ∧ w'.cell? ⟨b, o + k * 7 + 2 + 1, none⟩ = some (.string x.tree.text) ∧ w'.cell? ⟨b, o + k * 7 + 2 + 2, none⟩ = some (.slice ga x.tree.gaps.length gc) ∧ w'.cell? ⟨b, o + k * 7 + 2 + 3, none⟩ = some (.slice da x.tree.kids.length dc) ∧ w'.cell? ⟨b, o + k * 7 + 6, none⟩ = some (.bool x.broken))
        (first
          | with_reducible exact ⟨d0, d1, d2, d3, d4, d5, d6⟩
          | with_reducible exact ⟨q0, q1, q2, q3, q4, q5, q6⟩
          | with_reducible exact ⟨r0, r1, r2, r3, r4, r5, r6⟩
          | go_keep
          | fail)
        ((first
          | (refine step_append_lies _ (by rfl) _ _ _ (by rfl) w1.heap.size 56 i0 _ 7 112 Try.underlying22 hi0 hz0 hz1 hz2 rfl (by omega) (.slice a2 k c2) k (L.flatMap cellsN) (by rfl) ((owns_later HM.out.2.1 HB2.out).alloc _)
               ⟨w2.heap.size, 0, none⟩ 1 1 [.string x.path, .string x.text, .int .i64 (Pl.bare x.tree).kind, .string (Pl.bare x.tree).text, .slice ga2 (Pl.bare x.tree).gaps.length gc2, .slice da2 (Pl.bare x.tree).kids.length dc2, .bool x.broken] (by rfl) (by rfl) (World.news_of_block (cs := #[.string x.path, .string x.text, .int .i64 (Pl.bare x.tree).kind, .string (Pl.bare x.tree).text, .slice ga2 (Pl.bare x.tree).gaps.length gc2, .slice da2 (Pl.bare x.tree).kids.length dc2, .bool x.broken]) (t := 56) (fr := (0, 0)) (heap_alloc_new w2 _)) (by simp [Value.oneCell'])
               (by omega) (by unfold maxLen; omega) (by omega) (by simp; omega) (w2.heap.size + 1) (by simp) ?_; intro gg cap w3 hown hgrow hat3 hlt3;
             have hlow3 : w3.heap[b]? = w2.heap[b]? := (hgrow.block b (by simp; omega) (fun e => by have := (HM.out.2.1.lt _ e.symm).1; omega)).trans (Below.heap_alloc w2 _ b (by omega));
             have r0 := (World.cell?_of_block (w := w2) (a := ⟨b, o + k * 7, none⟩) hlow3).trans q0;
             have r1 := (World.cell?_of_block (w := w2) (a := ⟨b, o + k * 7 + 1, none⟩) hlow3).trans q1;
             have r2 := (World.cell?_of_block (w := w2) (a := ⟨b, o + k * 7 + 2, none⟩) hlow3).trans q2;
             have r3 := (World.cell?_of_block (w := w2) (a := ⟨b, o + k * 7 + 2 + 1, none⟩) hlow3).trans q3;
             have r4 := (World.cell?_of_block (w := w2) (a := ⟨b, o + k * 7 + 2 + 2, none⟩) hlow3).trans q4;
             have r5 := (World.cell?_of_block (w := w2) (a := ⟨b, o + k * 7 + 2 + 3, none⟩) hlow3).trans q5;
             have r6 := (World.cell?_of_block (w := w2) (a := ⟨b, o + k * 7 + 6, none⟩) hlow3).trans q6;
             have HOwn := Lib.hid hown;
             have HGrow := Lib.hid hgrow;
             have HAt3 := Lib.hid hat3;
             have hsz3 := hgrow.size;
             clear hown hgrow hat3 hlow3)
          | (go_at_call 30; refine HBa.out.mono ?_; rintro e w2 ⟨⟨ga2, gc2, da2, dc2⟩, rfl, ht2, hb2'⟩;
             have hb2 : Below wr.heap.size wr w2 := (Below.refl _ wr).drew.trans hb2';
             have q0 := (hb2.cell (p := ⟨b, o + k * 7, none⟩) hblt).trans d0;
             have q1 := (hb2.cell (p := ⟨b, o + k * 7 + 1, none⟩) hblt).trans d1;
             have q2 := (hb2.cell (p := ⟨b, o + k * 7 + 2, none⟩) hblt).trans d2;
             have q3 := (hb2.cell (p := ⟨b, o + k * 7 + 2 + 1, none⟩) hblt).trans d3;
             have q4 := (hb2.cell (p := ⟨b, o + k * 7 + 2 + 2, none⟩) hblt).trans d4;
             have q5 := (hb2.cell (p := ⟨b, o + k * 7 + 2 + 3, none⟩) hblt).trans d5;
             have q6 := (hb2.cell (p := ⟨b, o + k * 7 + 6, none⟩) hblt).trans d6;
             have hsz2 := hb2.size;
             have HT2 := Lib.hid ht2;
             have HB2 := Lib.hid hb2;
             clear ht2 hb2 hb2')))
      all_goals
        go_wp2_with fail
        refine ⟨⟨k + 1, some ⟨gg, 0, none⟩, cap, L ++ [(Pl.bU x, ⟨ga2, gc2, da2, dc2⟩)], by omega, by go_num, rfl, ?_, ?_, ?_⟩, by simp [intOf]; omega⟩
        · rw [List.map_append, HL.out, HTk.out]; rfl
        · exact madeU_snoc HM.out HB2.out HT2.out HSz.out HOwn.out HGrow.out HAt3.out
        · exact ((HB.out.trans (HB2.out.mono hgr)).alloc (by omega) _).grown HGrow.out (by simp; omega) (fun z hz => (HM.out.2.1.lt z hz).1)
    · have hkn : k = n := by omega
      subst hkn
      obtain ⟨c3, a3, R3, he, hIU⟩ := madeU_done HM.out
      have hLL : L.map Prod.fst = us.map Pl.bU := by rw [HL.out, HN.out, List.take_length]
      have hlen : L.length = k := by rw [← List.length_map (f := Prod.fst), hLL, List.length_map, HN.out]
      rw [hLL] at hIU
      rw [hlen] at he
      obtain ⟨rfl, rfl⟩ : a3 = a2 ∧ c3 = c2 := by
        injection he with e1 e2 e3
        exact ⟨e1.symm, e3.symm⟩
      have HBr : Hid (Below w.heap.size w wr) := Lib.hid (HB1.out.trans (HB.out.mono HB1.out.size))
      have HKr := Lib.hid (blk_keep HK1.out HB.out)
      have hlb : k = (us.map Pl.bU).length := by rw [List.length_map, HN.out]
      have HPu := Lib.hid (fun z (h : Below wr.heap.size wr z) => HP.1 a k c us R z (HGd.out z (HBr.out.trans (h.mono HBr.out.size))) (HU.out.later (HBr.out.trans (h.mono HBr.out.size))) HF.out HN.out)
      have HPv := Lib.hid (fun z (h : Below wr.heap.size wr z) => HP.1 a3 k c3 _ R3 z (HGd.out z (HBr.out.trans (h.mono HBr.out.size))) (hIU.later h) (few_bare HF.out) hlb)
      have HDu := Lib.hid (fun z (h : Below wr.heap.size wr z) => HP.2.2.2.2 a k c us R z (HGd.out z (HBr.out.trans (h.mono HBr.out.size))) (HU.out.later (HBr.out.trans (h.mono HBr.out.size))) HF.out HN.out)
      have HDv := Lib.hid (fun z (h : Below wr.heap.size wr z) => HP.2.2.2.2 a3 k c3 _ R3 z (HGd.out z (HBr.out.trans (h.mono HBr.out.size))) (hIU.later h) (few_bare HF.out) hlb)
      have HVu := Lib.hid (fun z (h : Below wr.heap.size wr z) => HP.2.2.1 a k c us R z (HGd.out z (HBr.out.trans (h.mono HBr.out.size))) (HU.out.later (HBr.out.trans (h.mono HBr.out.size))) HF.out HN.out p q)
      have HVv := Lib.hid (fun z (h : Below wr.heap.size wr z) => HP.2.2.1 a3 k c3 _ R3 z (HGd.out z (HBr.out.trans (h.mono HBr.out.size))) (hIU.later h) (few_bare HF.out) hlb p q)
      rw [Pl.uses_bare] at HPv
      rw [Pl.doubles_bare] at HDv
      rw [Pl.visible_bare] at HVv
      obtain ⟨⟨p0, p1⟩, pl⟩ := blk_two HKr.out
      clear he hLL hlen hIU hlb hL hmade hbel HL HM HF HN HU HGd HB hlt hgr hn4 hml hk
      generalize Pl.uses us = UL at *
      generalize Pl.doubles us = DL at *
      generalize Pl.visible us p q = VL at *
      have HDR : Hid (∀ (wx : World) (x f : Nat), wx.drew.cell? ⟨x, f, none⟩ = wx.cell? ⟨x, f, none⟩) := Lib.hid fun _ _ _ => rfl
      have pl2 := lt_blk HKr.out
      go_wp2_with fail
      go_region_held3 (fun w' => ∀ f : Nat, w'.cell? ⟨w.heap.size, f, none⟩ = wr.cell? ⟨w.heap.size, f, none⟩)
        ((intro f; iterate 4 (first
          | (with_reducible exact rfl)
          | (with_reducible exact HQ.out _ f pl2)
          | (with_reducible refine (HDR.out _ _ _).trans ?_)
          | skip)))
        ((first
          | (go_at_call 16; refine (strs_any va ya vc yc VL VL HVsL.out HYs.out).mono ?_; rintro e w13 ⟨he, hb13'⟩; replace he : e = .returned (.bool true) := he.trans (by simp); subst he; have hb13 : Below wr.heap.size wr w13 := HB12.out.trans (hb13'.mono HB12.out.size); clear HQ; have HQ : Hid (∀ x f : Nat, x < wr.heap.size → w13.cell? ⟨x, f, none⟩ = wr.cell? ⟨x, f, none⟩) := Lib.hid (fun x f hx => hb13.cell (p := ⟨x, f, none⟩) hx); have HB13 := Lib.hid hb13; clear hb13 hb13')
          | (go_at_call 17; refine (HVv.out w11 HB11.out).mono ?_; rintro e w12 ⟨vv, rfl, hrv, hb12'⟩; obtain ⟨ya, yc, rfl, hvs⟩ := strs_of_reads hrv; have hb12 : Below wr.heap.size wr w12 := HB11.out.trans (hb12'.mono HB11.out.size); have HYs := Lib.hid hvs; have HVsL := Lib.hid (HVs.out.later hb12'); clear HQ; have HQ : Hid (∀ x f : Nat, x < wr.heap.size → w12.cell? ⟨x, f, none⟩ = wr.cell? ⟨x, f, none⟩) := Lib.hid (fun x f hx => hb12.cell (p := ⟨x, f, none⟩) hx); have HB12 := Lib.hid hb12; clear hb12 hb12' hrv hvs)
          | (go_at_call 17; refine (HVu.out w10 HB10.out).mono ?_; rintro e w11 ⟨vv, rfl, hrv, hb11'⟩; obtain ⟨va, vc, rfl, hvs⟩ := strs_of_reads hrv; have hb11 : Below wr.heap.size wr w11 := HB10.out.trans (hb11'.mono HB10.out.size); have HVs := Lib.hid hvs; clear HQ; have HQ : Hid (∀ x f : Nat, x < wr.heap.size → w11.cell? ⟨x, f, none⟩ = wr.cell? ⟨x, f, none⟩) := Lib.hid (fun x f hx => hb11.cell (p := ⟨x, f, none⟩) hx); have HB11 := Lib.hid hb11; clear hb11 hb11' hrv hvs)
          | (go_at_call 19; refine (sameRefs_any daa dba _ _ dac dbc DL DL w9 HdaL.out Hdb.out rfl rfl).mono ?_; rintro e w10 ⟨he, hb10'⟩; replace he : e = .returned (.bool true) := he.trans (by simp); subst he; have hb10 : Below wr.heap.size wr w10 := HB9.out.trans (hb10'.mono HB9.out.size); clear HQ; have HQ : Hid (∀ x f : Nat, x < wr.heap.size → w10.cell? ⟨x, f, none⟩ = wr.cell? ⟨x, f, none⟩) := Lib.hid (fun x f hx => hb10.cell (p := ⟨x, f, none⟩) hx); have HB10 := Lib.hid hb10; clear hb10 hb10')
          | (go_at_call 22; refine (HDv.out w8 HB8.out).mono ?_; rintro e w9 ⟨dba, dbc, rfl, hl, hb9'⟩; have hb9 : Below wr.heap.size wr w9 := HB8.out.trans (hb9'.mono HB8.out.size); have Hdb := Lib.hid hl; have HdaL := Lib.hid (FlatW.later Hda.out hb9'); clear HQ; have HQ : Hid (∀ x f : Nat, x < wr.heap.size → w9.cell? ⟨x, f, none⟩ = wr.cell? ⟨x, f, none⟩) := Lib.hid (fun x f hx => hb9.cell (p := ⟨x, f, none⟩) hx); have HB9 := Lib.hid hb9; clear hb9 hb9' hl)
          | (go_at_call 22; refine (HDu.out w7 HB7.out).mono ?_; rintro e w8 ⟨daa, dac, rfl, hl, hb8'⟩; have hb8 : Below wr.heap.size wr w8 := HB7.out.trans (hb8'.mono HB7.out.size); have Hda := Lib.hid hl; clear HQ; have HQ : Hid (∀ x f : Nat, x < wr.heap.size → w8.cell? ⟨x, f, none⟩ = wr.cell? ⟨x, f, none⟩) := Lib.hid (fun x f hx => hb8.cell (p := ⟨x, f, none⟩) hx); have HB8 := Lib.hid hb8; clear hb8 hb8' hl)
          | (go_at_call 11; refine (sameUses_any uaa uba _ _ uac ubc UL UL w6 HuaL.out Hub.out rfl rfl).mono ?_; rintro e w7 ⟨he, hb7'⟩; replace he : e = .returned (.bool true) := he.trans (by simp); subst he; have hb7 : Below wr.heap.size wr w7 := HB6.out.trans (hb7'.mono HB6.out.size); clear HQ; have HQ : Hid (∀ x f : Nat, x < wr.heap.size → w7.cell? ⟨x, f, none⟩ = wr.cell? ⟨x, f, none⟩) := Lib.hid (fun x f hx => hb7.cell (p := ⟨x, f, none⟩) hx); have HB7 := Lib.hid hb7; clear hb7 hb7')
          | (go_at_call 12; refine (HPv.out w5 HB5.out).mono ?_; rintro e w6 ⟨uba, ubc, rfl, hl, hb6'⟩; have hb6 : Below wr.heap.size wr w6 := HB5.out.trans (hb6'.mono HB5.out.size); have Hub := Lib.hid hl; have HuaL := Lib.hid (FlatW.later Hua.out hb6'); clear HQ; have HQ : Hid (∀ x f : Nat, x < wr.heap.size → w6.cell? ⟨x, f, none⟩ = wr.cell? ⟨x, f, none⟩) := Lib.hid (fun x f hx => hb6.cell (p := ⟨x, f, none⟩) hx); have HB6 := Lib.hid hb6; clear hb6 hb6' hl)
          | (go_at_call 12; refine (HPu.out w4 HB4.out).mono ?_; rintro e w5 ⟨uaa, uac, rfl, hl, hb5'⟩; have hb5 : Below wr.heap.size wr w5 := HB4.out.trans (hb5'.mono HB4.out.size); have Hua := Lib.hid hl; clear HQ; have HQ : Hid (∀ x f : Nat, x < wr.heap.size → w5.cell? ⟨x, f, none⟩ = wr.cell? ⟨x, f, none⟩) := Lib.hid (fun x f hx => hb5.cell (p := ⟨x, f, none⟩) hx); have HB5 := Lib.hid hb5; clear hb5 hb5' hl)
          | (go_at_call 9; refine (HAw.out wr.drew (HBr.out.trans ((Below.refl wr.heap.size wr).drew.mono HBr.out.size))).mono ?_; rintro e w4 ⟨rfl, hb4'⟩; have hb4 : Below wr.heap.size wr w4 := (Below.refl wr.heap.size wr).drew.trans hb4'; have HQ : Hid (∀ x f : Nat, x < wr.heap.size → w4.cell? ⟨x, f, none⟩ = wr.cell? ⟨x, f, none⟩) := Lib.hid (fun x f hx => hb4.cell (p := ⟨x, f, none⟩) hx); have HB4 := Lib.hid hb4; clear hb4 hb4')))
      go_wp2_with fail
      go_ret
      exact ⟨rfl, HBr.out.trans (HB13.out.mono HBr.out.size)⟩
theorem bare_one (HP : Prg) (p q : Int) (w : World) {a : Option Addr} {c : Nat} {us : List Pl.Un} {R : Nat → Sl} (hU : IsU w a us R) : Calls Try.prog 8 #[.slice a us.length c, .agg #[.int .i64 p, .int .i64 q]] w (YesP w) :=
  law_bare HP (fun w => sample_any w) a us.length c us R p q w trivial hU rfl
end Go.Proofs.Ytoelfiendfemaaa
