/- The walks of Words' step and of Words. -/
import Derived.Test.YtiaajpdcacdngaaGreatDoorWNodeW
import Derived.Test.YtiaajpdcacdngaaGreatDoorWFresh
import Derived.Test.YtiaajpdcacdngaaGreatDoorBCheck
import Derived.Test.YtiaajpdcacdngaaGreatDoorPMore
namespace Go.Proofs.YtiaajpdcacdngaaGreatDoor
open Go.RowKit
set_option linter.unusedVariables false
set_option linter.unusedSimpArgs false

theorem infoS : (Tryz.prog.info? 9).map (fun i => (i.zero, i.size, i.bytes)) = some (some (.string ⟨#[]⟩), 1, 16) := by kernel_rfl
def strV (xs : List ByteArray) : List Value := xs.map fun x => .string x
/-- A variable that holds a list of strings of the call's own. -/
structure Gath (B1 : Nat) (xs : List ByteArray) (v : Value) (w : World) : Prop where
  cell : w.heap[B1]? = some (.cells #[v] 22 (0, 0))
  row : w.ownsRow (B1 + 1) 9 1 v xs.length (strV xs)
theorem news_str (w : World) (t : ByteArray) : ∀ j u, ([.string t] : List Value)[j]? = some u → (w.alloc (.cells #[.string t] 9)).cell? ((⟨w.heap.size, 0, none⟩ : Addr).add j) = some u :=
  World.news_of_block (cs := #[.string t]) (t := 9) (fr := (0, 0)) (heap_alloc_new _ _)
theorem one_str (t : ByteArray) : ∀ u ∈ ([.string t] : List Value), u.oneCell' = true := by
  intro u hu
  obtain rfl := List.mem_singleton.1 hu; rfl
theorem heap_setCell_one {w : World} {b : Nat} {v u : Value} {t : TypeId} (h : w.heap[b]? = some (.cells #[v] t (0, 0))) : (w.setCell ⟨b, 0, none⟩ u).heap[b]? = some (.cells #[u] t (0, 0)) := one_setCell h
/-- What a variable and its row keep apart from: the blocks that an append and a store may write. -/
def Zg (B1 : Nat) (v : Value) : Nat → Prop := fun x => x = B1 ∨ v.ownBlock = some x
theorem two_allocs {w : World} {o1 o2 : Obj} {x : Nat} (h : x < w.heap.size) : ((w.alloc o1).alloc o2).heap[x]? = w.heap[x]? := (Below.heap_alloc _ _ _ (by simp; omega)).trans (Below.heap_alloc _ _ _ h)
theorem gath_put {w w3 : World} {o1 o2 : Obj} {B1 gg cap c : Nat} {a : Option Addr} {xs : List ByteArray} {t : ByteArray} (hG : Gath B1 xs (.slice a xs.length c) w)
    (hown : w3.ownsRow (B1 + 1) 9 1 (.slice (some ⟨gg, 0, none⟩) (xs.length + 1) cap) (xs.length + 1) (strV xs ++ [.string t])) (hgrow : ((w.alloc o1).alloc o2).grownBy w3 (Value.slice a xs.length c).ownBlock) (hat : (Value.slice a xs.length c).ownBlock = some gg ∨ gg = w.heap.size + 2) :
    w3.heap[B1]? = some (.cells #[.slice a xs.length c] 22 (0, 0)) ∧
    (∃ a' c', (Value.slice (some ⟨gg, 0, none⟩) (xs.length + 1) cap) = .slice a' (xs ++ [t]).length c' ∧ Gath B1 (xs ++ [t]) (.slice a' (xs ++ [t]).length c') (w3.setCell ⟨B1, 0, none⟩ (.slice (some ⟨gg, 0, none⟩) (xs.length + 1) cap)) ∧
      Apart (Zg B1 (.slice a xs.length c)) w (w3.setCell ⟨B1, 0, none⟩ (.slice (some ⟨gg, 0, none⟩) (xs.length + 1) cap)) ∧ ∀ x, Zg B1 (.slice a' (xs ++ [t]).length c') x → Zg B1 (.slice a xs.length c) x ∨ w.heap.size ≤ x) := by
  have hB := lt_blk hG.cell
  have hz := hgrow.size
  simp at hz
  have hne : some B1 ≠ (Value.slice a xs.length c).ownBlock := fun e => by have := (hG.row.lt B1 e.symm).1; omega
  have hcell : w3.heap[B1]? = some (.cells #[.slice a xs.length c] 22 (0, 0)) := ((hgrow.block B1 (by simp; omega) hne).trans (two_allocs hB)).trans hG.cell
  have hl : (xs ++ [t]).length = xs.length + 1 := by simp
  refine ⟨hcell, some ⟨gg, 0, none⟩, cap, by rw [hl], ⟨by rw [hl]; exact one_setCell hcell, ?_⟩, ⟨hgrow.os, hgrow.tape, hgrow.output, ?_, fun x hx hn => ?_⟩, fun x hx => ?_⟩
  · have : strV (xs ++ [t]) = strV xs ++ [.string t] := by unfold strV; simp
    rw [hl, this]
    exact ownsRow_setCell_below hown (by show B1 < _; omega) _
  · show w.heap.size ≤ (w3.setCell _ _).heap.size
    simp; omega
  · have h1 : x ≠ B1 := fun e => hn (.inl e)
    have h2 : some x ≠ (Value.slice a xs.length c).ownBlock := fun e => hn (.inr e.symm)
    exact (Below.heap_setCell _ _ _ _ h1).trans ((hgrow.block x (by simp; omega) h2).trans (two_allocs hx))
  · rcases hx with hx | hx
    · exact .inl (.inl hx)
    · have e : gg = x := by
        have : some gg = some x := hx
        exact Option.some.inj this
      subst e
      rcases hat with h | h
      · exact .inl (.inr h)
      · right; omega
set_option maxRecDepth 100000 in
set_option maxHeartbeats 800000 in
theorem words1_any (b o : Nat) (i : Int) (gp t : ByteArray) (B1 : Nat) (xs : List ByteArray) (a : Option Addr) (c : Nat) (w : World) (hG : Gath B1 xs (.slice a xs.length c) w) (hn : xs.length ≤ 1000000) :
    Calls Tryz.prog 30 #[.agg #[.pointer (some ⟨b, o, none⟩), .int .i64 i, .string gp, .string t], .pointer (some ⟨B1, 0, none⟩)] w fun e w' => e = .returned (.tuple #[]) ∧
      ∃ a' c', Gath B1 (xs ++ [t]) (.slice a' (xs ++ [t]).length c') w' ∧ Apart (Zg B1 (.slice a xs.length c)) w w' ∧ ∀ x, Zg B1 (.slice a' (xs ++ [t]).length c') x → Zg B1 (.slice a xs.length c) x ∨ w.heap.size ≤ x := by
  obtain ⟨i0, hi0, hz0, hz1, hz2⟩ := info_parts infoS
  have hB := lt_blk hG.cell
  have HG := Lib.hid hG
  obtain ⟨n, hnn⟩ : ∃ n, n = xs.length := ⟨_, rfl⟩
  have HN := Lib.hid hnn
  have c1 : ∀ ob, (w.alloc ob).cell? ⟨B1, 0, none⟩ = some (.slice a n c) := fun ob => by
    rw [hnn]
    exact (World.cell?_of_block (w := w) (a := ⟨B1, 0, none⟩) (Below.heap_alloc w ob B1 hB)).trans (cell_of_one hG.cell)
  have hrow := hG.row
  rw [← hnn] at hrow
  have HR := Lib.hid hrow
  rw [← hnn] at hn
  clear hG hrow hnn
  go_enter Tryz.func30, Tryz.ntmps30
  have hnews : ∀ j u, ([.string t] : List Value)[j]? = some u → ((w.alloc (.cells #[.pointer (some ⟨b, o, none⟩), .int .i64 i, .string gp, .string t] 46)).alloc (.cells #[.string t] 9)).cell? ((⟨w.heap.size + 1, 0, none⟩ : Addr).add j) = some u := by
    have := news_str (w.alloc (.cells #[.pointer (some ⟨b, o, none⟩), .int .i64 i, .string gp, .string t] 46)) t
    rwa [show (w.alloc (.cells #[.pointer (some ⟨b, o, none⟩), .int .i64 i, .string gp, .string t] 46)).heap.size = w.heap.size + 1 from by simp] at this
  have HNews := Lib.hid hnews
  clear hnews
  go_wp2_with (first
    | (at_builtin; refine wpList_append_lies _ rfl _ _ 22 rfl (B1 + 1) 9 i0 _ 1 16 Tryz.underlying22 hi0 hz0 hz1 hz2 rfl (by decide) (.slice a n c) n _ rfl ((HR.out.alloc _).alloc _)
         ⟨w.heap.size + 1, 0, none⟩ 1 1 [.string t] rfl rfl HNews.out (one_str _) (by decide) (by unfold maxLen; omega) (by omega) (by simp; omega) (w.heap.size + 2) (by simp) ?_
       intro gg cap w3 hown hgrow hat3 hlt3
       have hput := gath_put (t := t) HG.out (by rw [← HN.out]; exact hown) (by rw [← HN.out]; exact hgrow) (by rw [← HN.out]; exact hat3)
       have hc3 := cell_of_one hput.1
       have hf3 := free_of_one hput.1
       have HP := Lib.hid hput.2
       clear hput hown hgrow hat3))
  go_end0
  obtain ⟨a', c', he, h1, h2, h3⟩ := HP.out
  have hnn := HN.out
  subst hnn
  exact ⟨rfl, a', c', h1, h2, h3⟩
/- ### Words -/
/-- What holds while Words gathers. -/
structure InvW (W0 : World) (B1 : Nat) (D : List Ev) (w : World) : Prop where
  low : Below B1 W0 w
  g : ∃ a c, Gath B1 (D.map (·.text)) (.slice a (D.map (·.text)).length c) w
theorem zg_ge {B1 : Nat} {xs : List ByteArray} {v : Value} {w : World} (h : Gath B1 xs v w) : ∀ x, Zg B1 v x → B1 ≤ x := fun x hx => by
  rcases hx with rfl | hx
  · exact Nat.le_refl _
  · have := (h.row.lt x hx).1; omega
theorem zg_part {B1 : Nat} {xs : List ByteArray} {v : Value} {w : World} (h : Gath B1 xs v w) : ∀ (x : Nat) (c : Array Value) (fz : Nat × Nat), w.heap[x]? = some (.cells c 89 fz) → ¬ Zg B1 v x := fun x c fz hx hz => by
  rcases hz with rfl | hz
  · rw [h.cell] at hx
    injection hx with hx
    injection hx with _ hx _
    exact absurd hx (by decide)
  · rcases h.row.2 with ⟨rfl, _⟩ | ⟨g, cap, cur, rfl, _, hg, _⟩
    · simp [Value.ownBlock] at hz
    · have e : g = x := by simpa [Value.ownBlock] using hz
      subst e
      rw [hg] at hx
      injection hx with hx
      injection hx with _ hx _
      exact absurd hx (by decide)
theorem stepW (W0 : World) (B1 : Nat) (T : List Ev) (hT : T.length ≤ 1000000) : Step 30 (fun v => #[v, .pointer (some ⟨B1, 0, none⟩)]) T (InvW W0 B1) where
  keep := fun D w w' h hb => by
    obtain ⟨a, c, hg⟩ := h.g
    have hB := lt_blk hg.cell
    exact ⟨h.low.trans (hb.mono (Nat.le_of_lt hB)), a, c, ⟨(hb.block B1 hB).trans hg.cell, owns_later hg.row hb⟩⟩
  call := fun D e hp w h => by
    obtain ⟨a, c, hg⟩ := h.g
    have hlen : D.length ≤ 1000000 := by have := hp.length_le; rw [List.length_append] at this; omega
    refine (words1_any e.b e.o e.own e.gap e.text B1 _ a c w hg (by rw [List.length_map]; exact hlen)).mono ?_
    rintro en w' ⟨rfl, a', c', h1, h2, h3⟩
    have hB := lt_blk hg.cell
    refine ⟨rfl, ⟨h.low.trans (h2.below (Nat.le_of_lt hB) (zg_ge hg)), a', c', ?_⟩, h2.keepP (zg_part hg)⟩
    rw [List.map_append]; exact h1
/-- A gathered list, read. -/
theorem gath_strs {B1 : Nat} {xs : List ByteArray} {a : Option Addr} {c : Nat} {w : World} (h : Gath B1 xs (.slice a xs.length c) w) (hx : ∀ x ∈ xs, x.size ≤ 1000000) (hl : xs.length ≤ 1000000) (B : Nat) (hB : B ≤ B1) : Strs (fun b => B ≤ b ∧ b < w.heap.size) w a xs := by
  refine ⟨by unfold maxLen; omega, fun x hm => by have := hx x hm; unfold maxLen; omega, ?_⟩
  rcases Nat.eq_zero_or_pos xs.length with h0 | h0
  · exact .inl (List.eq_nil_of_length_eq_zero h0)
  · obtain ⟨g, rfl, h1, h2, h3⟩ := owns_addr h.row h0
    refine .inr ⟨g, 0, rfl, ⟨by omega, h2⟩, fun j x hj => ?_⟩
    have := h3 j (.string x) (by unfold strV; rw [List.getElem?_map, hj]; rfl)
    have hadd : (⟨g, 0, none⟩ : Addr).add j = ⟨g, j, none⟩ := by unfold Addr.add; split <;> simp_all
    rw [hadd] at this
    rw [Nat.zero_add]; exact this
set_option maxRecDepth 100000 in
set_option maxHeartbeats 800000 in
theorem words_bad (t : Pl.Tr) (w : World) (r : Sl) (v : Int) (hT : Tabs w) (h : IsT w t r) (hc : Pl.chk t = v) (hv : v ≠ 0) :
    Calls Tryz.prog 11 #[.agg #[.int .i64 t.kind, .string t.text, .slice r.ga t.gaps.length r.gc, .slice r.da t.kids.length r.dc]] w fun e w' => e = .returned (.tuple #[.slice none 0 0, .int .i64 v]) ∧ Below w.heap.size w w' := by
  have HC := Lib.hid (fun w2 (hb : Below w.heap.size w w2) => check_is t w2 r v hc (hT.later hb) (h.later hb))
  obtain ⟨v1, v2⟩ := int_neq2 hv
  have B0 := Lib.hid (box_low w (.cells #[.int .i64 t.kind, .string t.text, .slice r.ga t.gaps.length r.gc, .slice r.da t.kids.length r.dc] 25))
  clear hT h hc hv
  generalize t.kind = k at *
  generalize t.text = s at *
  generalize t.gaps.length = n at *
  generalize t.kids.length = m at *
  obtain ⟨ga, gc, da, dc⟩ := r
  simp only at *
  go_enter Tryz.func11, Tryz.ntmps11
  go_wp2_with (go_at_call 28; refine (HC.out _ B0.out).mono ?_; rintro e w1 ⟨rfl, hb1⟩)
  go_ret2
  exact ⟨rfl, B0.out.trans (hb1.mono B0.out.size)⟩
set_option maxRecDepth 100000 in
set_option maxHeartbeats 800000 in
theorem words_ok (t : Pl.Tr) (w : World) (r : Sl) (n : Nat) (hT : Tabs w) (h : IsT w t r) (hc : Pl.chk t = 0) (hz : Pl.sz t ≤ 100000) (hn : n = (Pl.words t).length) :
    Calls Tryz.prog 11 #[.agg #[.int .i64 t.kind, .string t.text, .slice r.ga t.gaps.length r.gc, .slice r.da t.kids.length r.dc]] w fun e w' => ∃ a c, e = .returned (.tuple #[.slice a n c, .int .i64 0]) ∧ Strs (fun b => w.heap.size ≤ b ∧ b < w'.heap.size) w' a (Pl.words t) ∧ Below w.heap.size w w' := by
  obtain ⟨A, hA, hsl, hfix⟩ := isT_lt (h.later (box_low w (.cells #[.int .i64 t.kind, .string t.text, .slice r.ga t.gaps.length r.gc, .slice r.da t.kids.length r.dc] 25)))
  have hfix0 := hfix w.heap.size 0 (box_at t r w)
  have hf := (Pl.chk_zero t hc).2.2.2
  have hht := Pl.chk_ht t hc (by omega)
  have hlen : (evL A w.heap.size 0 0 ⟨#[]⟩).length ≤ 1000000 := by
    rw [er_len, hA, Pl.ev_len t 0 _ hf]
    have := Pl.many_le t hf
    omega
  have HC := Lib.hid (fun w2 (hb : Below w.heap.size w w2) => check_is t w2 r 0 hc (hT.later hb) (h.later hb))
  have B0 := Lib.hid (box_low w (.cells #[.int .i64 t.kind, .string t.text, .slice r.ga t.gaps.length r.gc, .slice r.da t.kids.length r.dc] 25))
  have A0 := Lib.hid (box_at t r w)
  have HW : Hid (∀ W0, Below (w.heap.size + 1) (w.alloc (.cells #[.int .i64 t.kind, .string t.text, .slice r.ga t.gaps.length r.gc, .slice r.da t.kids.length r.dc] 25)) W0 → Below w.heap.size w W0 →
      Calls Tryz.prog 29 #[.pointer (some ⟨w.heap.size, 0, none⟩), .func (.func 30) #[] #[.pointer (some ⟨W0.heap.size, 0, none⟩)]] (W0.alloc (.cells #[.slice none 0 0] 22)) fun en w' => en = .returned (.tuple #[]) ∧ ∃ a c, Gath W0.heap.size (Pl.words t) (.slice a n c) w' ∧ Below W0.heap.size W0 w') := Lib.hid (fun W0 hb hb2 => by
    have hfg : FixG W0 A w.heap.size 0 := FixG.later (hb.mono (by simp)) hfix0
    refine (walkW_any W0.heap.size _ _ (stepW W0 W0.heap.size _ hlen) A w.heap.size 0 [] _ (by rw [hA]; exact hf) (by rw [hA]; exact hz) (by rw [hA]; omega) (fun D w2 hi => fixL_later hfg hi.low) (List.prefix_refl _) ⟨box_low _ _, none, 0, ⟨heap_alloc_new _ _, World.ownsRow_nil _ _ _ _⟩⟩).mono ?_
    rintro en w' ⟨rfl, hi, _⟩
    obtain ⟨a, c, hg⟩ := hi.g
    rw [List.nil_append, ev_texts, hA] at hg
    rw [hn]
    exact ⟨rfl, a, c, hg, hi.low⟩)
  have HX := Lib.hid (Pl.words_le t hf (by omega))
  have HL : Hid ((Pl.words t).length ≤ 1000000) := Lib.hid (by rw [Pl.words_len t hf]; have := Pl.many_le t hf; omega)
  have HNN := Lib.hid hn
  clear hT h hc hf hht hlen hfix hfix0 hA hsl hn hz
  generalize Pl.words t = WS at *
  generalize t.kind = k at *
  generalize t.text = s at *
  generalize t.gaps.length = gn at *
  generalize t.kids.length = m at *
  obtain ⟨ga, gc, da, dc⟩ := r
  simp only at *
  go_enter Tryz.func11, Tryz.ntmps11
  go_wp2_with (first
    | (go_at_call 28; refine (HC.out _ B0.out).mono ?_; rintro e w1 ⟨rfl, hb1⟩; have HB1 := Lib.hid hb1; clear hb1)
    | (go_at_call 29; refine (HW.out w1 (HB1.out.mono (by simp)) (B0.out.trans (HB1.out.mono B0.out.size))).mono ?_; rintro e w2 ⟨rfl, a2, c2, hg2, hb2⟩; have hc2 := cell_of_one hg2.cell; have HG2 := Lib.hid hg2; have HB2 := Lib.hid hb2; clear hg2 hb2))
  go_ret2
  have hs1 := HB1.out.size
  simp at hs1
  have hg := HG2.out
  have hn := HNN.out
  subst hn
  exact ⟨a2, c2, rfl, gath_strs hg (fun x hx => by have := HX.out x hx; omega) HL.out _ (by omega), (B0.out.trans (HB1.out.mono B0.out.size)).trans (HB2.out.mono (by omega))⟩
end Go.Proofs.YtiaajpdcacdngaaGreatDoor
