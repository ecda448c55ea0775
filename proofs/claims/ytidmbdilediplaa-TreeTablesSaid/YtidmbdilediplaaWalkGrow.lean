/- The walks of the reference's grow and Build. -/
import Derived.Test.YtidmbdilediplaaWalkTab
import Derived.Deep.RegionLaw
namespace Go.Proofs.Ytidmbdilediplaa
open Go.RowKit Go.Deep
set_option linter.unusedVariables false
set_option linter.unusedSimpArgs false

/-- The slice that holds the kids made so far, whose gaps may lie where P lets them. -/
def MadeP (P : Nat → Prop) (B : Nat) (w : World) (a : Option Addr) (n c : Nat) (L : List (Pl.Tr × Sl)) : Prop :=
  n = L.length ∧ w.ownsRow B 25 4 (.slice a n c) n (row4 L) ∧ ∀ (q : Nat) x, L[q]? = some x → Tin (fun b => (P b ∨ B ≤ b) ∧ b < w.heap.size ∧ (Value.slice a n c).ownBlock ≠ some b) w x.1 x.2
theorem madeP_nil (P : Nat → Prop) (B : Nat) (w : World) : MadeP P B w none 0 0 [] := ⟨rfl, World.ownsRow_nil _ _ _ _, fun q x h => by cases q <;> cases h⟩
theorem madeP_snoc {P : Nat → Prop} {B n c cap g : Nat} {a : Option Addr} {w w2 w3 : World} {o : Obj} {L : List (Pl.Tr × Sl)} {t : Pl.Tr} {r : Sl} (h : MadeP P B w a n c L) (hP : ∀ b, P b → b < B) (hB : B ≤ w.heap.size) (hb : Below w.heap.size w w2)
    (ht : Tin (fun x => P x ∨ (w.heap.size ≤ x ∧ x < w2.heap.size)) w2 t r)
    (hown : w3.ownsRow B 25 4 (.slice (some ⟨g, 0, none⟩) (n + 1) cap) (n + 1) (row4 L ++ cells4 (t, r))) (hgrow : (w2.alloc o).grownBy w3 (Value.slice a n c).ownBlock) (hat : (Value.slice a n c).ownBlock = some g ∨ g = w2.heap.size + 1) :
    MadeP P B w3 (some ⟨g, 0, none⟩) (n + 1) cap (L ++ [(t, r)]) := by
  obtain ⟨h1, h2, h3⟩ := h
  have hob : ∀ k, (Value.slice a n c).ownBlock = some k → B ≤ k ∧ k < w.heap.size := fun k hk => h2.lt k hk
  have hz := hb.size
  have hz3 := hgrow.size
  simp at hz3
  refine ⟨by rw [List.length_append, h1]; rfl, by rw [row4_snoc]; exact hown, fun q x hx => ?_⟩
  have hgo : (Value.slice (some (⟨g, 0, none⟩ : Addr)) (n + 1) cap).ownBlock = some g := rfl
  by_cases hq : q < L.length
  · rw [List.getElem?_append_left hq] at hx
    refine (h3 q x hx).keep (fun y hy => ?_) (fun y hy => ?_)
    · exact (hgrow.block y (by simp; omega) (fun e => hy.2.2 e.symm)).trans ((Below.heap_alloc _ _ _ (by omega)).trans (hb.block y hy.2.1))
    · refine ⟨hy.1, by omega, fun e => ?_⟩
      rw [hgo, Option.some.injEq] at e
      rcases hat with hat | hat
      · exact hy.2.2 (by rw [hat, e])
      · omega
  · rw [List.getElem?_append_right (by omega)] at hx
    obtain rfl : (t, r) = x := by
      match hq2 : q - L.length, hx with
      | 0, hx => simpa using hx
      | k + 1, hx => simp at hx
    have hlow : ∀ y, (P y ∨ (w.heap.size ≤ y ∧ y < w2.heap.size)) → y < w2.heap.size ∧ (Value.slice a n c).ownBlock ≠ some y := by
      rintro y (hy | hy)
      · have := hP y hy
        exact ⟨by omega, fun e => by have := hob y e; omega⟩
      · exact ⟨hy.2, fun e => by have := hob y e; omega⟩
    refine ht.keep (fun y hy => ?_) (fun y hy => ?_)
    · obtain ⟨h4, h5⟩ := hlow y hy
      exact (hgrow.block y (by simp; omega) (fun e => h5 e.symm)).trans (Below.heap_alloc _ _ _ h4)
    · obtain ⟨h4, h5⟩ := hlow y hy
      refine ⟨hy.imp id (fun h => by omega), by omega, fun e => ?_⟩
      rw [hgo, Option.some.injEq] at e
      rcases hat with hat | hat
      · exact h5 (by rw [hat, e])
      · omega
theorem madeP_keep {P : Nat → Prop} {B n c : Nat} {a : Option Addr} {w w' : World} {L : List (Pl.Tr × Sl)} (h : MadeP P B w a n c L) (hb : ∀ x, (P x ∨ B ≤ x) → x < w.heap.size → w'.heap[x]? = w.heap[x]?) (hs : w.heap.size ≤ w'.heap.size) : MadeP P B w' a n c L := by
  obtain ⟨h1, h2, h3⟩ := h
  refine ⟨h1, ⟨h2.1, ?_⟩, fun q x hx => (h3 q x hx).keep (fun y hy => hb y hy.1 hy.2.1) fun y hy => ⟨hy.1, by omega, hy.2.2⟩⟩
  rcases h2.2 with h | ⟨g, cap, cur, k1, k2, k3, k4⟩
  · exact .inl h
  · exact .inr ⟨g, cap, cur, k1, k2, by rw [hb g (.inr k2) (lt_of_block k3)]; exact k3, k4⟩
/-- A tree whose gaps may lie where P lets them. -/
def GrowP (P : Nat → Prop) (t : Pl.Tr) (w1 : World) (e : Ending) (w' : World) : Prop :=
  ∃ r : Sl, e = .returned (.agg #[.int .i64 t.kind, .string t.text, .slice r.ga t.gaps.length r.gc, .slice r.da t.kids.length r.dc]) ∧ Tin (fun b => P b ∨ (w1.heap.size ≤ b ∧ b < w'.heap.size)) w' t r ∧ Below w1.heap.size w1 w'
set_option maxHeartbeats 1600000 in
set_option maxRecDepth 100000 in
theorem grow_at {P : Nat → Prop} {w : World} (b o c : Nat) (l : List Pl.Rw) (R : Nat → Sl) (hx : TabIn P w (some ⟨b, o, none⟩) l R) (hat : ∀ (j : Nat) x, l[j]? = some x → At5 w b (o + j * 5) x (R j)) (hb : P b) (hP : ∀ b, P b → b < w.heap.size) (hl : l.length ≤ 100000) (s : Pl.Tr) :
    ∀ i : Nat, Pl.Sub l i s → ∀ w1, Same P w w1 → w.heap.size ≤ w1.heap.size →
    Calls Try.prog 42 #[.slice (some ⟨b, o, none⟩) l.length c, .int .i64 i] w1 (GrowP P s w1) := by
  obtain ⟨i0, hi0, hz0, hz1, hz2⟩ := info_parts infoN
  refine Pl.Tr.ind (M := fun s => ∀ i : Nat, Pl.Sub l i s → ∀ w1, Same P w w1 → w.heap.size ≤ w1.heap.size →
    Calls Try.prog 42 #[.slice (some ⟨b, o, none⟩) l.length c, .int .i64 i] w1 (GrowP P s w1)) (fun k s g ks ih i hsub w1 hsame hge => ?_) s
  obtain ⟨pp, rr, hd⟩ := hsub
  rw [Pl.tab, List.cons_append] at hd
  obtain ⟨hg0, hd1⟩ := Pl.drop_get hd
  have hil := (List.getElem?_eq_some_iff.1 hg0).1
  have hlen : i + 1 + Pl.szs ks ≤ l.length ∧ ks.length ≤ Pl.szs ks := by
    have := congrArg List.length hd1
    rw [List.length_drop, List.length_append, Pl.tabs_len] at this
    exact ⟨by omega, Pl.len_szs ks⟩
  have hbw := hP b hb
  have A5 := (hat i _ hg0).keep (hsame b hb)
  have hrow := (hx.2.2 i _ hg0).keep (w' := w1) (Q := P) hsame (fun _ h => h)
  obtain ⟨_, x1, x2, x3, x4⟩ := A5.cells
  generalize R i = r0 at *
  obtain ⟨ga, gc, ka, kc⟩ := r0
  simp only at x1 x2 x3 x4
  have HKid : Hid (∀ (j : Nat) u, ks[j]? = some u → ∀ w1, Same P w w1 → w.heap.size ≤ w1.heap.size → Calls Try.prog 42 #[.slice (some ⟨b, o, none⟩) l.length c, .int .i64 (i + 1 + Pl.szs (ks.take j) : Nat)] w1 (GrowP P u w1)) := Lib.hid fun j u hu w1 hs hg => by
    refine ih u (List.mem_of_getElem? hu) (i + 1 + Pl.szs (ks.take j)) ?_ w1 hs hg
    have hjl := (List.getElem?_eq_some_iff.1 hu).1
    have e : ks = ks.take j ++ u :: ks.drop (j + 1) := by
      have : ks[j] = u := by rw [List.getElem?_eq_getElem hjl] at hu; exact Option.some.inj hu
      rw [← this, List.getElem_cons_drop, List.take_append_drop]
    refine ⟨i, Pl.tabs (ks.drop (j + 1)) (i + 1 + Pl.szs (ks.take j) + Pl.sz u) i ++ rr, ?_⟩
    have h1 : Pl.tabs ks (i + 1) i = Pl.tabs (ks.take j) (i + 1) i ++ (Pl.tab u (i + 1 + Pl.szs (ks.take j)) i ++ Pl.tabs (ks.drop (j + 1)) (i + 1 + Pl.szs (ks.take j) + Pl.sz u) i) := by
      conv => lhs; rw [e]
      rw [Pl.tabs_append, Pl.tabs]
    rw [← List.drop_drop, hd1, h1, List.append_assoc, List.drop_append, Pl.tabs_len, Nat.sub_self, List.drop_zero, List.drop_of_length_le (by rw [Pl.tabs_len]; exact Nat.le_refl _), List.nil_append, List.append_assoc]
  obtain ⟨n, hn⟩ : ∃ n, n = l.length := ⟨_, rfl⟩
  have HN := Lib.hid hn
  obtain ⟨m, hm⟩ : ∃ m, m = ks.length := ⟨_, rfl⟩
  have HM := Lib.hid hm
  have HRow := Lib.hid hrow
  have HS := Lib.hid hsame
  obtain ⟨hln1, hln2⟩ := hlen
  rw [← hn] at hil hl hln1 HKid ⊢
  rw [Pl.kidx_len, ← hm] at x4
  rw [← hm] at hln2
  have hk0 : (0 : Int) ≤ (i : Int) := Int.natCast_nonneg _
  have hk1 : (i : Int) < (n : Int) := by omega
  clear hn hm hrow hd hd1 hg0 A5 ih hsame hx hat
  go_enter Try.func42, Try.ntmps42
  go_wp2_with fail
  have HPA := Lib.hid (cell_past b)
  have HDR := Lib.hid (show ∀ (wx : World) (f : Nat), wx.drew.cell? ⟨b, f, none⟩ = wx.cell? ⟨b, f, none⟩ from fun _ _ => rfl)
  have hbw1 : b < w1.heap.size := by omega
  go_region_held3 (fun w' => ∀ f : Nat, w'.cell? ⟨b, f, none⟩ = w1.cell? ⟨b, f, none⟩)
    ((intro f
      iterate 6 (first
        | (with_reducible exact rfl)
        | (with_reducible refine (HDR.out _ _).trans ?_)
        | (with_reducible refine (HPA.out _ _ _ ?_).trans ?_; focus (first | omega | (simp; done) | (simp; omega)))
        | skip)))
    (fail)
  have hsz0 : ((w1.alloc (.cells #[.int .i64 0, .string ⟨#[]⟩, .slice none 0 0, .slice none 0 0] 25)).alloc (.cells #[.int .i64 k, .string s, .slice ga g.length gc, .slice none 0 0] 25)).drew.heap.size = w1.heap.size + 2 := by simp [World.drew]
  go_wp2_with fail
  go_loopw [6] (fun i' wr => ∃ (j : Nat) (va : Option Addr) (vc : Nat) (L : List (Pl.Tr × Sl)), j ≤ m ∧ i' = .int .i64 j ∧ L.map Prod.fst = ks.take j ∧ Below w1.heap.size w1 wr ∧ w1.heap.size + 1 < wr.heap.size ∧
    wr.heap[w1.heap.size]? = some (.cells #[.int .i64 0, .string ⟨#[]⟩, .slice none 0 0, .slice none 0 0] 25 (0, 0)) ∧
    wr.heap[w1.heap.size + 1]? = some (.cells #[.int .i64 k, .string s, .slice ga g.length gc, .slice va j vc] 25 (0, 0)) ∧ MadeP P (w1.heap.size + 1 + 1) wr va j vc L) (fun i' _ => m - (intOf i').toNat)
  case atStart =>
    obtain ⟨h1, h2, h3, h4⟩ := two_after (w := w1) (o1 := .cells #[.int .i64 0, .string ⟨#[]⟩, .slice none 0 0, .slice none 0 0] 25) (o2 := .cells #[.int .i64 k, .string s, .slice ga g.length gc, .slice none 0 0] 25) (Below.refl _ _)
    exact ⟨0, none, 0, [], Nat.zero_le _, rfl, rfl, h3.drew, by rw [hsz0]; omega, h1, h2, madeP_nil _ _ _⟩
  case round =>
    obtain ⟨j, va, vc, L, hj, rfl, hL, hbel, hgt, hzero, hout, hmade⟩ := hrel
    have HB := Lib.hid hbel
    have HL := Lib.hid hL
    have HMd := Lib.hid hmade
    have HZ := Lib.hid hzero
    have HO := Lib.hid hout
    have e4 := (hbel.cell (p := ⟨b, o + i * 5 + 4, none⟩) hbw1).trans x4
    have HE4 := Lib.hid e4
    clear hL hmade
    by_cases hlt : j < m
    · have hjk : j < ks.length := by rw [← HM.out]; exact hlt
      have hu := List.getElem?_eq_getElem hjk
      have hki := Pl.kidx_get ks (i + 1) j hjk
      have hstep := Pl.szs_step ks j hjk
      have hi0' : (0 : Int) ≤ (j : Int) := Int.natCast_nonneg _
      have hi1 : (j : Int) < (m : Int) := by omega
      have hsr : Same P w wr := HS.out.trans (Same.below hbel fun b hb => Nat.lt_of_lt_of_le (hP b hb) hge)
      rcases HRow.out.2.2.2 with h0 | ⟨b2, o2, rfl, hb2p, hat2⟩
      · rw [show Pl.kidx ks (i + 1) = [] from h0] at hki; cases hki
      have c1 := (World.cell?_of_block (w := w1) (a := ⟨b2, o2 + j, none⟩) (hbel.block b2 (Nat.lt_of_lt_of_le (hP b2 hb2p) hge))).trans (hat2 j _ hki)
      have HI1 := Lib.hid (HKid.out j _ hu)
      have HU := Lib.hid hu
      have HC1 := Lib.hid c1
      generalize hat9 : i + 1 + Pl.szs (ks.take j) = at9 at *
      generalize ks[j] = u at *
      have hb2w := Nat.lt_of_lt_of_le (hP b2 hb2p) hge
      have hblt : b < wr.heap.size := by have := hbel.size; omega
      have hblt2 : b2 < wr.heap.size := by have := hbel.size; omega
      have HSR := Lib.hid hsr
      have hgr := hbel.size
      have y3 := (blk_cells hout).1.2.2.2
      have d0 : wr.drew.cell? ⟨b, o + i * 5 + 4, none⟩ = some (.slice (some ⟨b2, o2, none⟩) m kc) := e4
      have d1 : wr.drew.cell? ⟨b2, o2 + j, none⟩ = some (.int .i64 at9) := c1
      have d5 : wr.drew.cell? ⟨w1.heap.size + 1, 3, none⟩ = some (.slice va j vc) := y3
      clear hsr hbel hstep hzero hout hki hat2 hat9
      go_wp2_with fail
      clear e4 c1
      go_region_law
        ((first
          | (refine step_append_lies _ (by rfl) _ _ _ (by rfl) (w1.heap.size + 1 + 1) 25 i0 _ 4 72 Try.underlying23 hi0 hz0 hz1 hz2 rfl (by omega) (.slice va j vc) j (row4 L) (by rfl) ((owns_later HMd.out.2.1 HB2.out).alloc _)
               ⟨w2.heap.size, 0, none⟩ 1 1 [.int .i64 u.kind, .string u.text, .slice ga2 u.gaps.length gc2, .slice da2 u.kids.length dc2] (by rfl) (by rfl) (World.news_of_block (cs := #[.int .i64 u.kind, .string u.text, .slice ga2 u.gaps.length gc2, .slice da2 u.kids.length dc2]) (t := 25) (fr := (0, 0)) (heap_alloc_new w2 _)) (by simp [Value.oneCell'])
               (by omega) (by unfold maxLen; omega) (by omega) (by simp; omega) (w2.heap.size + 1) (by simp) ?_; intro gg cap w3 hown hgrow hat3 hlt3;
             have hblk3 := (hgrow.block (w1.heap.size + 1) (by simp; omega) (fun e => by have := (HMd.out.2.1.lt _ e.symm).1; omega)).trans ((Below.heap_alloc _ _ _ (by omega)).trans ((HB2.out.block _ hgt).trans HO.out));
             obtain ⟨⟨t0, t1, t2, t3⟩, z0, z1, z2, z3⟩ := blk_cells hblk3;
             have HB3 := Lib.hid hblk3;
             have HOwn := Lib.hid hown;
             have HGrow := Lib.hid hgrow;
             have HAt3 := Lib.hid hat3;
             have hsz3 := hgrow.size;
             clear hblk3 hown hgrow hat3)
          | (go_simp; go_at_call 42; refine (HI1.out wr.drew (HSR.out.trans (Same.below (Below.refl wr.heap.size wr).drew fun b hb => by have := hP b hb; omega)) (by show w.heap.size ≤ wr.heap.size; omega)).mono ?_; rintro e w2 ⟨⟨ga2, gc2, da2, dc2⟩, rfl, ht2, hb2'⟩;
             have hb2 : Below wr.heap.size wr w2 := (Below.refl _ wr).drew.trans hb2';
             have q0 := (hb2.cell (p := ⟨b, o + i * 5 + 4, none⟩) hblt).trans HE4.out;
             have q1 := (hb2.cell (p := ⟨b2, o2 + j, none⟩) hblt2).trans HC1.out;
             have q5 := (hb2.cell (p := ⟨w1.heap.size + 1, 3, none⟩) hgt).trans y3;
             have pa := cell_past b;
             have pb := cell_past b2;
             have pc := cell_past (w1.heap.size + 1);
             have hsz2 := hb2.size;
             have hbl2 : b < w2.heap.size := by omega;
             have hbl3 : b2 < w2.heap.size := by omega;
             have hgt2 : w1.heap.size + 1 < w2.heap.size := by omega;
             have HT2 := Lib.hid ht2;
             have HB2 := Lib.hid hb2;
             clear ht2 hb2 hb2')))
      all_goals
        go_wp2_with fail
        have hown3 : ∀ k, (Value.slice va j vc).ownBlock = some k → w1.heap.size + 1 + 1 ≤ k := fun k hk => (HMd.out.2.1.lt k hk).1
        have hlow : ∀ x, x < w1.heap.size + 1 + 1 → w3.heap[x]? = wr.heap[x]? := fun x hx =>
          (HGrow.out.block x (by simp; omega) (fun e => by have := hown3 x e.symm; omega)).trans ((Below.heap_alloc _ _ _ (by omega)).trans (HB2.out.block x (by omega)))
        simp at hsz3
        refine ⟨⟨j + 1, some ⟨gg, 0, none⟩, cap, L ++ [(u, ⟨ga2, gc2, da2, dc2⟩)], by omega, by go_num, ?_, ?_, by simp; omega, ?_, ?_, ?_⟩, by simp [intOf]; omega⟩
        · rw [List.map_append, HL.out, List.take_add_one, HU.out]; simp
        · exact (((HB.out.trans (HB2.out.mono hgr)).alloc (by omega) _).grown HGrow.out (by simp; omega) (fun k hk => by have := hown3 k hk; omega)).setCell (by show w1.heap.size ≤ w1.heap.size + 1; omega) _
        · exact (Below.heap_setCell _ _ _ _ (by show w1.heap.size ≠ w1.heap.size + 1; omega)).trans ((hlow _ (by omega)).trans HZ.out)
        · have := HB3.out
          simp [World.setCell, Array.getElem?_modify, this]
        · exact madeP_keep (madeP_snoc HMd.out (fun b hb => by have := hP b hb; omega) (by omega) HB2.out HT2.out HOwn.out HGrow.out HAt3.out) (fun x hx _ => Below.heap_setCell _ _ _ _ (by show x ≠ w1.heap.size + 1; exact hx.elim (fun h => by have := hP x h; omega) (fun h => by omega))) (by simp)
    · have hjn : j = m := by omega
      subst hjn
      have hL2 : L.map Prod.fst = ks := by have := HL.out; rw [HM.out, List.take_length] at this; exact this
      have HL2 := Lib.hid hL2
      obtain ⟨⟨p0, p1, p2, p3⟩, z0, z1, z2, z3⟩ := blk_cells hzero
      obtain ⟨⟨t0, t1, t2, t3⟩, _⟩ := blk_cells hout
      clear hbel hzero hout hL2
      go_wp2_with fail
      refine bodyPost_ret (v := .agg #[.int .i64 k, .string s, .slice ga g.length gc, .slice va j vc]) (by simp [results, Try.results42, go_sem, p0, p1, p2, p3]) rfl ?_
      have hm := HMd.out
      have hfin : ∀ y, P y → y ≠ w1.heap.size := fun y hy => by have := hP y hy; omega
      refine ⟨⟨ga, gc, va, vc⟩, ?_, .mk _ _ (fun q => match L[q]? with | some x => x.2 | none => ⟨none, 0, none, 0⟩) HRow.out.1 ?_ ?_ ?_ (fun q v hv => ?_), below_set4 HB.out (by omega)⟩
      · rw [kids_node, gaps_node, text_node, kind_node, ← HM.out]
      · exact HRow.out.2.1.keep (fun y hy => (heap_set4 (hfin y hy)).trans (HB.out.block y (Nat.lt_of_lt_of_le (hP y hy) hge))) (fun y hy => .inl hy)
      · rw [kids_node, ← HM.out]; unfold maxLen; omega
      · rw [kids_node]
        rcases Nat.eq_zero_or_pos j with h0 | h0
        · left
          rw [← HL2.out, List.map_eq_nil_iff]
          exact List.eq_nil_of_length_eq_zero (by rw [← hm.1]; exact h0)
        · obtain ⟨g2, cap2, he, hge2, hlt2, _, hat⟩ := owns_at hm.2.1 hm.1 h0
          injection he with he1 he2 he3
          refine .inr ⟨g2, 0, he1, .inr ⟨by omega, by simp; omega⟩, fun q v hv => ?_⟩
          rw [← HL2.out, List.getElem?_map] at hv
          obtain ⟨x, hx, rfl⟩ := Option.map_eq_some_iff.1 hv
          simp only [hx]
          exact At4.keep (P := fun y => y = g2) (hat q x hx) (fun y hy => heap_set4 (by omega)) rfl
      · rw [kids_node, ← HL2.out, List.getElem?_map] at hv
        obtain ⟨x, hx, rfl⟩ := Option.map_eq_some_iff.1 hv
        simp only [hx]
        exact (hm.2.2 q x hx).keep (fun y hy => heap_set4 (hy.1.elim (hfin y) (fun h => by omega))) (fun y hy => hy.1.elim .inl (fun h => .inr ⟨by omega, by have := hy.2.1; simp; omega⟩))
end Go.Proofs.Ytidmbdilediplaa
