/- The walk of the reference's put. -/
import Derived.Test.YtpaleolcfhnenaaDoorWith
namespace Go.Proofs.YtpaleolcfhnenaaDoor.Rt
open Go.RowKit
set_option linter.unusedVariables false
set_option linter.unusedSimpArgs false

/-- The slice that holds the kids gathered so far. -/
def MadeP (P : Nat → Prop) (B : Nat) (w : World) (a : Option Addr) (n c : Nat) (L : List (Pl.Tr × Sl)) : Prop :=
  n = L.length ∧ w.ownsRow B 25 4 (.slice a n c) n (row4 L) ∧ ∀ (q : Nat) x, L[q]? = some x → Tin (fun b => (P b ∨ B ≤ b) ∧ b < w.heap.size ∧ (Value.slice a n c).ownBlock ≠ some b) w x.1 x.2
theorem madeP_nil (P : Nat → Prop) (B : Nat) (w : World) : MadeP P B w none 0 0 [] := ⟨rfl, World.ownsRow_nil _ _ _ _, fun q x h => by cases q <;> cases h⟩
/-- One kid more, behind the call that made it (or none) and the append. -/
theorem madeP_snoc {P : Nat → Prop} {B n c cap g : Nat} {a : Option Addr} {w w2 w3 : World} {o : Obj} {L : List (Pl.Tr × Sl)} {t : Pl.Tr} {r : Sl} (hPB : ∀ b, P b → b < B) (h : MadeP P B w a n c L) (hB : B ≤ w.heap.size) (hb : Below w.heap.size w w2) (ht : Tin (fun x => P x ∨ w.heap.size ≤ x ∧ x < w2.heap.size) w2 t r)
    (hown : w3.ownsRow B 25 4 (.slice (some ⟨g, 0, none⟩) (n + 1) cap) (n + 1) (row4 L ++ cells4 (t, r))) (hgrow : (w2.alloc o).grownBy w3 (Value.slice a n c).ownBlock) (hat : (Value.slice a n c).ownBlock = some g ∨ g = w2.heap.size + 1) :
    MadeP P B w3 (some ⟨g, 0, none⟩) (n + 1) cap (L ++ [(t, r)]) := by
  obtain ⟨h1, h2, h3⟩ := h
  have hob : ∀ k, (Value.slice a n c).ownBlock = some k → B ≤ k ∧ k < w.heap.size := fun k hk => h2.lt k hk
  have hz := hb.size
  have hz3 := hgrow.size
  simp at hz3
  refine ⟨by rw [List.length_append, h1]; rfl, by rw [row4_snoc]; exact hown, fun q x hx => ?_⟩
  have hgo : (Value.slice (some (⟨g, 0, none⟩ : Addr)) (n + 1) cap).ownBlock = some g := rfl
  by_cases hq : q < L.length
  · rw [List.getElem?_append_left hq] at hx
    refine (h3 q x hx).keep (fun y hy => ?_) (fun y hy => ?_)
    · exact (hgrow.block y (by simp; omega) (fun e => hy.2.2 e.symm)).trans ((Below.heap_alloc _ _ _ (by omega)).trans (hb.block y hy.2.1))
    · refine ⟨hy.1, by omega, fun e => ?_⟩
      rw [hgo, Option.some.injEq] at e
      rcases hat with hat | hat
      · exact hy.2.2 (by rw [hat, e])
      · omega
  · rw [List.getElem?_append_right (by omega)] at hx
    obtain rfl : (t, r) = x := by
      match hq2 : q - L.length, hx with
      | 0, hx => simpa using hx
      | k + 1, hx => simp at hx
    have hlt : ∀ y, (P y ∨ w.heap.size ≤ y ∧ y < w2.heap.size) → y < w2.heap.size ∧ ∀ k, (Value.slice a n c).ownBlock = some k → k ≠ y := by
      intro y hy
      rcases hy with hy | hy
      · have := hPB y hy
        exact ⟨by omega, fun k hk => by have := hob k hk; omega⟩
      · exact ⟨hy.2, fun k hk => by have := hob k hk; omega⟩
    refine ht.keep (fun y hy => ?_) (fun y hy => ?_)
    · exact (hgrow.block y (by simp; have := (hlt y hy).1; omega) (fun e => (hlt y hy).2 y e.symm rfl)).trans (Below.heap_alloc _ _ _ (hlt y hy).1)
    · refine ⟨hy.imp id (fun h => by omega), by have := (hlt y hy).1; omega, fun e => ?_⟩
      rw [hgo, Option.some.injEq] at e
      rcases hat with hat | hat
      · exact (hlt y hy).2 g hat e
      · have := (hlt y hy).1; omega
/-- The gathered kids lie in the call's own row. -/
theorem madeP_kids {P : Nat → Prop} {B n c : Nat} {a : Option Addr} {w : World} {L : List (Pl.Tr × Sl)} (h : MadeP P B w a n c L) (hm : n ≤ 1000000) : KidsIn (fun b => P b ∨ B ≤ b ∧ b < w.heap.size) w a (L.map Prod.fst) := by
  obtain ⟨h1, h2, h3⟩ := h
  refine ⟨by rw [List.length_map]; unfold maxLen; omega, fun q => match L[q]? with | some x => x.2 | none => ⟨none, 0, none, 0⟩, ?_, fun j u hu => ?_⟩
  · rcases Nat.eq_zero_or_pos n with h0 | h0
    · left; rw [List.map_eq_nil_iff]; exact List.eq_nil_of_length_eq_zero (by omega)
    · obtain ⟨g2, cap2, he, hge2, hlt2, _, hat⟩ := owns_at h2 h1 h0
      injection he with he1 he2 he3
      refine .inr ⟨g2, 0, he1, .inr ⟨hge2, hlt2⟩, fun q v hv => ?_⟩
      rw [List.getElem?_map] at hv
      obtain ⟨x, hx, rfl⟩ := Option.map_eq_some_iff.1 hv
      simp only [hx]
      exact hat q x hx
  · rw [List.getElem?_map] at hu
    obtain ⟨x, hx, rfl⟩ := Option.map_eq_some_iff.1 hu
    simp only [hx]
    exact (h3 j x hx).keep (Same.refl _ _) (fun b hb => hb.1.imp id fun h => ⟨h, hb.2.1⟩)
theorem made_fst {L : List (Pl.Tr × Sl)} {K : List Pl.Tr} {j : Nat} {v : Pl.Tr} {r : Sl} (h : L.map Prod.fst = K.take j) (hv : K[j]? = some v) : (L ++ [(v, r)]).map Prod.fst = K.take (j + 1) := by
  rw [List.map_append, h, List.take_add_one, hv]; rfl
/-- A tree that lies where P says, or in what the call made. -/
def NewP (P : Nat → Prop) (T : Pl.Tr) (w1 : World) (e : Ending) (w' : World) : Prop := ∃ r : Sl, e = .returned (.agg #[.int .i64 T.kind, .string T.text, .slice r.ga T.gaps.length r.gc, .slice r.da T.kids.length r.dc]) ∧ Tin (fun b => P b ∨ w1.heap.size ≤ b ∧ b < w'.heap.size) w' T r ∧ Below w1.heap.size w1 w'
theorem ints_tail {Q : Nat → Prop} {w : World} {b o : Nat} {i : Int} {p : List Int} (h : Ints Q w (some ⟨b, o, none⟩) (i :: p)) : Ints Q w (some ⟨b, o + 1, none⟩) p := by
  obtain ⟨h1, h2⟩ := h
  refine ⟨by rw [List.length_cons] at h1; omega, .inr ?_⟩
  rcases h2 with h0 | ⟨b2, o2, e, hb, hat⟩
  · cases h0
  · injection e with e
    injection e with e1 e2
    subst e1; subst e2
    exact ⟨b, o + 1, rfl, hb, fun j x hx => by rw [Nat.add_assoc, Nat.add_comm 1 j]; exact hat (j + 1) x (by simpa using hx)⟩
theorem ints_cut {Q : Nat → Prop} {w : World} {b o c : Nat} {i : Int} {p : List Int} (h : Ints Q w (some ⟨b, o, none⟩) (i :: p)) (hc : p.length + 1 ≤ c) : Ints Q w (if c = 1 then some ⟨b, o, none⟩ else some ⟨b, o + 1, none⟩) p := by
  split
  · obtain rfl : p = [] := List.eq_nil_of_length_eq_zero (by omega)
    exact ints_nil _ _ _
  · exact ints_tail h
set_option maxHeartbeats 3200000 in
set_option maxRecDepth 100000 in
theorem rput_at {P Q : Nat → Prop} {w : World} (x : Pl.Tr) (rx : Sl) (hP : ∀ b, P b → b < w.heap.size) (hQ : ∀ b, Q b → b < w.heap.size) (hx : Tin P w x rx) :
    ∀ (p : List Int) (t : Pl.Tr) (r : Sl) (pa : Option Addr) (pc : Nat), Tin P w t r → Ints Q w pa p → p.length ≤ pc → Pl.sz t ≤ 1000000 → ∀ w1, Same P w w1 → Same Q w w1 → w.heap.size ≤ w1.heap.size →
    Calls Tryd.prog 45 #[nv t r, .slice pa p.length pc, nv x rx] w1 (NewP P (Pl.putP x p t) w1) := by
  obtain ⟨i0, hi0, hz0, hz1, hz2⟩ := info_parts infoN
  intro p
  induction p with
  | nil =>
    intro t r pa pc ht hp hpc hsz w1 hs hq hge
    have HX := Lib.hid hx
    have HS := Lib.hid hs
    obtain ⟨kx, sx, gx, ksx⟩ := x
    obtain ⟨gax, gcx, dax, dcx⟩ := rx
    obtain ⟨k0, s0, g0, ks0⟩ := t
    obtain ⟨ga0, gc0, da0, dc0⟩ := r
    obtain ⟨h1, h2, h3, h4, h5⟩ := three_new w1 (.cells #[.int .i64 k0, .string s0, .slice ga0 g0.length gc0, .slice da0 ks0.length dc0] 25) (.cells #[.int .i64 kx, .string sx, .slice gax gx.length gcx, .slice dax ksx.length dcx] 25) (.cells #[.int .i64 0, .string ⟨#[]⟩, .slice none 0 0, .slice none 0 0] 25)
    unfold nv
    simp only [Pl.Tr.kids, Pl.Tr.gaps, Pl.Tr.text, Pl.Tr.kind, List.length_nil]
    clear hx hs hq ht hp h1 h2 h3 h4 h5
    go_enter Tryd.func45, Tryd.ntmps45
    go_wp2_with fail
    have hlow := (three_new w1 (.cells #[.int .i64 k0, .string s0, .slice ga0 g0.length gc0, .slice da0 ks0.length dc0] 25) (.cells #[.int .i64 kx, .string sx, .slice gax gx.length gcx, .slice dax ksx.length dcx] 25) (.cells #[.int .i64 kx, .string sx, .slice gax gx.length gcx, .slice dax ksx.length dcx] 25)).2.2.2.1
    refine bodyPost_ret (v := .agg #[.int .i64 kx, .string sx, .slice gax gx.length gcx, .slice dax ksx.length dcx]) (by simp [results, Tryd.results45, go_sem]) rfl ⟨⟨gax, gcx, dax, dcx⟩, rfl, ?_, hlow⟩
    exact HX.out.keep (HS.out.trans (Same.below hlow fun b hb => Nat.lt_of_lt_of_le (hP b hb) hge)) (fun b hb => .inl hb)
  | cons i p ih =>
    intro t r pa pc ht hp hpc hsz w1 hs hq hge
    have HX := Lib.hid hx
    have HS := Lib.hid hs
    have HSQ := Lib.hid hq
    have HT := Lib.hid ht
    have HPI := Lib.hid hp
    obtain ⟨kx, sx, gx, ksx⟩ := x
    obtain ⟨gax, gcx, dax, dcx⟩ := rx
    obtain ⟨k0, s0, g0, ks0⟩ := t
    obtain ⟨ga0, gc0, da0, dc0⟩ := r
    rcases hp.2 with h0 | ⟨pb, po, rfl, hpb, hatp⟩
    · cases h0
    have ci := (hq.cell hpb).trans (hatp 0 i rfl)
    rw [Nat.add_zero] at ci
    have hpbl := hQ pb hpb
    have hpl := hp.1
    rw [List.length_cons] at hpc hpl
    unfold maxLen at hpl
    rw [Pl.put_kids]
    obtain ⟨K, hK⟩ : ∃ K, K = Pl.putKids (.node kx sx gx ksx) i p (.node k0 s0 g0 ks0) := ⟨_, rfl⟩
    rw [← hK]
    have hKl : K.length = ks0.length := by rw [hK, Pl.putKids_len]; rfl
    have HK1 := Lib.hid (fun (j : Nat) u (h : ks0[j]? = some u) (e : (j : Int) = i) => (show K[j]? = some (Pl.putP (.node kx sx gx ksx) p u) by rw [hK, ← e]; exact Pl.putKids_at _ p (.node k0 s0 g0 ks0) u j h))
    have HK2 := Lib.hid (fun (j : Nat) u (h : ks0[j]? = some u) (e : (j : Int) ≠ i) => (show K[j]? = some u by rw [hK]; exact Pl.putKids_other _ i p (.node k0 s0 g0 ks0) u j h e))
    have HKl := Lib.hid hKl
    rw [Pl.sz] at hsz
    have hlen := Pl.len_szs ks0
    obtain ⟨n, hn⟩ : ∃ n, n = ks0.length := ⟨_, rfl⟩
    have HN := Lib.hid hn
    rw [← hn] at hlen
    obtain ⟨m, hm⟩ : ∃ m, m = p.length + 1 := ⟨_, rfl⟩
    have HPT := Lib.hid (ints_cut hp hpc)
    rw [← hm] at hpc hpl
    rw [show p.length = m - 1 by omega] at ih
    have HIH := Lib.hid ih
    have hm1 : (1 : Int) ≤ (m : Int) := by omega
    have hm2 : 1 ≤ m := by omega
    have hm3 : ((m : Int) == 0) = false := by simp; omega
    unfold nv
    simp only [Pl.Tr.kids, Pl.Tr.gaps, Pl.Tr.text, Pl.Tr.kind, List.length_cons]
    rw [← hn, ← hm]
    obtain ⟨h1, h2, h3, h4, h5⟩ := three_new w1 (.cells #[.int .i64 k0, .string s0, .slice ga0 g0.length gc0, .slice da0 n dc0] 25) (.cells #[.int .i64 kx, .string sx, .slice gax gx.length gcx, .slice dax ksx.length dcx] 25) (.cells #[.int .i64 0, .string ⟨#[]⟩, .slice none 0 0, .slice none 0 0] 25)
    have H1 := Lib.hid h1
    have H2 := Lib.hid h2
    have H3 := Lib.hid h3
    have H4 := Lib.hid h4
    have H5 := Lib.hid h5
    obtain ⟨⟨c0, c1, c2, c3⟩, z0, z1, z2, z3⟩ := blk_cells h1
    clear hx hs hq ht hp hK hKl hn hm hatp ih h1 h2 h3 h4 h5
    go_enter Tryd.func45, Tryd.ntmps45
    go_wp2_with fail
    go_loopw [7, 8] (fun kv iv wr => ∃ (j vc : Nat) (va : Option Addr) (L : List (Pl.Tr × Sl)), j ≤ n ∧ iv = .int .i64 j ∧ kv = .slice va j vc ∧ L.map Prod.fst = K.take j ∧ Below w1.heap.size w1 wr ∧ w1.heap.size + 3 ≤ wr.heap.size ∧
      wr.heap[w1.heap.size]? = some (.cells #[.int .i64 k0, .string s0, .slice ga0 g0.length gc0, .slice da0 n dc0] 25 (0, 0)) ∧
      wr.heap[w1.heap.size + 1]? = some (.cells #[.int .i64 kx, .string sx, .slice gax gx.length gcx, .slice dax ksx.length dcx] 25 (0, 0)) ∧
      wr.heap[w1.heap.size + 2]? = some (.cells #[.int .i64 0, .string ⟨#[]⟩, .slice none 0 0, .slice none 0 0] 25 (0, 0)) ∧ MadeP P (w1.heap.size + 3) wr va j vc L) (fun _ iv _ => n - (intOf iv).toNat)
    case atStart => exact ⟨0, 0, none, [], Nat.zero_le _, rfl, rfl, rfl, H4.out, by rw [H5.out]; omega, H1.out, H2.out, H3.out, madeP_nil _ _ _⟩
    case round =>
      obtain ⟨j, vc, va, L, hj, rfl, rfl, hL, hbel, hgt, b1, b2, b3, hmade⟩ := hrel
      have HL := Lib.hid hL
      have HB := Lib.hid hbel
      have B1 := Lib.hid b1
      have B2 := Lib.hid b2
      have B3 := Lib.hid b3
      have HMd := Lib.hid hmade
      obtain ⟨⟨d0, d1, d2, d3⟩, _⟩ := blk_cells b1
      have ci2 := (hbel.cell (p := ⟨pb, po, none⟩) (show pb < w1.heap.size by omega)).trans ci
      clear hL hmade b1 b2 b3
      by_cases hlt : j < n
      · have hjk : j < ks0.length := by rw [← HN.out]; exact hlt
        have hu := List.getElem?_eq_getElem hjk
        have hstep := Pl.szs_step ks0 j hjk
        have hsr : Same P w wr := HS.out.trans (Same.below hbel fun b hb => Nat.lt_of_lt_of_le (hP b hb) hge)
        have hsq : Same Q w wr := HSQ.out.trans (Same.below hbel fun b hb => Nat.lt_of_lt_of_le (hQ b hb) hge)
        have htt := HT.out
        cases htt with
        | mk _ _ R hs0 hg0 hl0 hkL hr0 =>
        rcases hkL with h0 | ⟨b, o, hda, hb, hat⟩
        · have h1 : ks0 = [] := h0
          rw [h1] at hjk; simp at hjk
        simp only at hda
        subst hda
        obtain ⟨f0, f1, f2, f3⟩ := At4.keep (hat j _ hu) hsr hb
        have HTU := Lib.hid (hr0 j _ hu)
        have HU := Lib.hid hu
        have hi0' : (0 : Int) ≤ (j : Int) := Int.natCast_nonneg _
        have hi1 : (j : Int) < (n : Int) := by omega
        have hms : Pl.sz ks0[j] ≤ 1000000 := by omega
        generalize ks0[j] = u at *
        generalize R j = r1 at *
        obtain ⟨ga1, gc1, da1, dc1⟩ := r1
        simp only at f0 f1 f2 f3
        have hbl : b < w1.heap.size := by have := hP b hb; omega
        have hgr := hbel.size
        have HSR := Lib.hid hsr
        have HSRQ := Lib.hid hsq
        obtain ⟨⟨x0, x1, x2, x3⟩, _⟩ := blk_cells B2.out
        clear hat hu hsr hsq hs0 hg0 hl0 hr0 hstep
        by_cases hji : (j : Int) = i
        · have HKJ := Lib.hid (HK1.out j u HU.out hji)
          have hjb : ((j : Int) == i) = true := by simp [hji]
          have c0' : wr.drew.cell? ⟨b, o + j * 4, none⟩ = some (.int .i64 u.kind) := f0
          have c1' : wr.drew.cell? ⟨b, o + j * 4 + 1, none⟩ = some (.string u.text) := f1
          have c2' : wr.drew.cell? ⟨b, o + j * 4 + 2, none⟩ = some (.slice ga1 u.gaps.length gc1) := f2
          have c3' : wr.drew.cell? ⟨b, o + j * 4 + 3, none⟩ = some (.slice da1 u.kids.length dc1) := f3
          have c4' : wr.drew.cell? ⟨w1.heap.size, 3, none⟩ = some (.slice (some ⟨b, o, none⟩) n dc0) := d3
          have v0 : wr.drew.cell? ⟨w1.heap.size + 1, 0, none⟩ = some (.int .i64 kx) := x0
          have v1 : wr.drew.cell? ⟨w1.heap.size + 1, 1, none⟩ = some (.string sx) := x1
          have v2 : wr.drew.cell? ⟨w1.heap.size + 1, 2, none⟩ = some (.slice gax gx.length gcx) := x2
          have v3 : wr.drew.cell? ⟨w1.heap.size + 1, 3, none⟩ = some (.slice dax ksx.length dcx) := x3
          have v4 : wr.drew.cell? ⟨pb, po, none⟩ = some (.int .i64 i) := ci2
          have HC := Lib.hid (fun wx hs hq hge => HIH.out u ⟨ga1, gc1, da1, dc1⟩ _ (pc - 1) HTU.out HPT.out (by omega) hms wx hs hq hge)
          unfold nv at HC
          simp only [Pl.Tr.kids, Pl.Tr.gaps, Pl.Tr.text, Pl.Tr.kind] at HC
          generalize Pl.putP (.node kx sx gx ksx) p u = v at HC HKJ
          clear hji
          go_wp2_with fail
          go_region_law
            ((first
              | (refine step_append_lies _ (by rfl) _ _ _ (by rfl) (w1.heap.size + 3) 25 i0 _ 4 72 Tryd.underlying23 hi0 hz0 hz1 hz2 rfl (by omega) (.slice va j vc) j (row4 L) (by rfl) ((owns_later HMd.out.2.1 HB2.out).alloc _)
                   ⟨w2.heap.size, 0, none⟩ 1 1 [.int .i64 v.kind, .string v.text, .slice ga2 v.gaps.length gc2, .slice da2 v.kids.length dc2] (by rfl) (by rfl) (World.news_of_block (cs := #[.int .i64 v.kind, .string v.text, .slice ga2 v.gaps.length gc2, .slice da2 v.kids.length dc2]) (t := 25) (fr := (0, 0)) (heap_alloc_new w2 _)) (by simp [Value.oneCell'])
                   (by omega) (by unfold maxLen; omega) (by omega) (by simp; omega) (w2.heap.size + 1) (by simp) ?_; intro gg cap w3 hown hgrow hat3 hlt3;
                 have HOwn := Lib.hid hown;
                 have HGrow := Lib.hid hgrow;
                 have HAt3 := Lib.hid hat3;
                 clear hown hgrow hat3)
              | (go_simp; go_at_call 45; refine (HC.out wr.drew (HSR.out.trans (Same.below (Below.refl wr.heap.size wr).drew fun b hb => by have := hP b hb; omega)) (HSRQ.out.trans (Same.below (Below.refl wr.heap.size wr).drew fun b hb => by have := hQ b hb; omega)) (by show w.heap.size ≤ wr.heap.size; omega)).mono ?_; rintro e w2 ⟨⟨ga2, gc2, da2, dc2⟩, rfl, ht2, hb2'⟩;
                 have hb2 : Below wr.heap.size wr w2 := (Below.refl _ wr).drew.trans hb2';
                 have hsz2 := hb2.size;
                 have HT2 := Lib.hid ht2;
                 have HB2 := Lib.hid hb2;
                 clear ht2 hb2 hb2')))
          all_goals
            go_wp2_with fail
            have hown3 : ∀ k, (Value.slice va j vc).ownBlock = some k → w1.heap.size + 3 ≤ k := fun k hk => (HMd.out.2.1.lt k hk).1
            have hsz3 := HGrow.out.size
            simp at hsz3
            have hlow : ∀ x, x < w1.heap.size + 3 → w3.heap[x]? = wr.heap[x]? := fun x hx =>
              (HGrow.out.block x (by simp; omega) (fun e => by have := hown3 x e.symm; omega)).trans ((Below.heap_alloc _ _ _ (by omega)).trans (HB2.out.block x (by omega)))
            exact ⟨⟨j + 1, cap, some ⟨gg, 0, none⟩, L ++ [(v, ⟨ga2, gc2, da2, dc2⟩)], by omega, by go_num, rfl, made_fst HL.out HKJ.out, ((HB.out.trans (HB2.out.mono hgr)).alloc (by omega) _).grown HGrow.out (by simp; omega) (fun k hk => by have := hown3 k hk; omega), by omega,
              (hlow _ (by omega)).trans B1.out, (hlow _ (by omega)).trans B2.out, (hlow _ (by omega)).trans B3.out, madeP_snoc (t := v) (r := ⟨ga2, gc2, da2, dc2⟩) (fun b hb => by have := hP b hb; omega) HMd.out hgt HB2.out HT2.out HOwn.out HGrow.out HAt3.out⟩, by simp [intOf]; omega⟩
        · have HKJ := Lib.hid (HK2.out j u HU.out hji)
          have hjb : ((j : Int) == i) = false := by simp [hji]
          clear hji
          go_wp2_with (refine wpList_append_lies _ rfl (.tmp 37) (.tmp 43) 23 rfl (w1.heap.size + 3) 25 i0 _ 4 72 Tryd.underlying23 hi0 hz0 hz1 hz2 rfl (by omega) (.slice va j vc) j (row4 L) rfl (HMd.out.2.1.alloc _) ⟨wr.heap.size, 0, none⟩ 1 1 [.int .i64 u.kind, .string u.text, .slice ga1 u.gaps.length gc1, .slice da1 u.kids.length dc1] rfl rfl (World.news_of_block (cs := #[.int .i64 u.kind, .string u.text, .slice ga1 u.gaps.length gc1, .slice da1 u.kids.length dc1]) (t := 25) (fr := (0, 0)) (heap_alloc_new wr _)) (by simp [Value.oneCell']) (by omega) (by unfold maxLen; omega) (by omega) (by simp; omega) (wr.heap.size + 1) (by simp) ?_; intro gg cap w3 hown hgrow hat3 hlt3; have HOwn := Lib.hid hown; have HGrow := Lib.hid hgrow; have HAt3 := Lib.hid hat3; clear hown hgrow hat3)
          have hown3 : ∀ k, (Value.slice va j vc).ownBlock = some k → w1.heap.size + 3 ≤ k := fun k hk => (HMd.out.2.1.lt k hk).1
          have hsz3 := HGrow.out.size
          simp at hsz3
          have hlow : ∀ x, x < w1.heap.size + 3 → w3.heap[x]? = wr.heap[x]? := fun x hx =>
            (HGrow.out.block x (by simp; omega) (fun e => by have := hown3 x e.symm; omega)).trans (Below.heap_alloc _ _ _ (by omega))
          exact ⟨⟨j + 1, cap, some ⟨gg, 0, none⟩, L ++ [(u, ⟨ga1, gc1, da1, dc1⟩)], by omega, by go_num, rfl, made_fst HL.out HKJ.out, (HB.out.alloc (by omega) _).grown HGrow.out (by simp; omega) (fun k hk => by have := hown3 k hk; omega), by omega,
            (hlow _ (by omega)).trans B1.out, (hlow _ (by omega)).trans B2.out, (hlow _ (by omega)).trans B3.out, madeP_snoc (t := u) (r := ⟨ga1, gc1, da1, dc1⟩) (fun b hb => by have := hP b hb; omega) HMd.out hgt (Below.refl _ _) (HTU.out.keep HSR.out fun b hb => .inl hb) HOwn.out HGrow.out HAt3.out⟩, by simp [intOf]; omega⟩
      · have hjn : j = n := by omega
        subst hjn
        have hKe : L.map Prod.fst = K := by rw [HL.out, HN.out, ← HKl.out, List.take_length]
        have hki := madeP_kids HMd.out (by omega)
        rw [hKe] at hki
        have hPP : ∀ b, (P b ∨ w1.heap.size + 3 ≤ b ∧ b < wr.heap.size) → b < wr.heap.size := fun b hb => hb.elim (fun h => by have := hP b h; omega) (fun h => h.2)
        have hsr : Same P w wr := HS.out.trans (Same.below hbel fun b hb => Nat.lt_of_lt_of_le (hP b hb) hge)
        have HWI := Lib.hid (with_at (.node k0 s0 g0 ks0) wr ⟨ga0, gc0, da0, dc0⟩ hPP (HT.out.keep hsr fun b hb => .inl hb) K va vc hki (by have := own_cap HMd.out.2.1; have := HKl.out; have := HN.out; omega))
        rw [HKl.out, ← HN.out] at HWI
        unfold nv at HWI
        simp only [Pl.Tr.kids, Pl.Tr.gaps, Pl.Tr.text, Pl.Tr.kind] at HWI
        rw [← HN.out] at HWI
        generalize Pl.wth (.node k0 s0 g0 ks0) K = T at *
        clear hki hsr hbel
        go_wp2_with (go_at_call 46; refine (HWI.out).mono ?_; rintro e w4 ⟨⟨ga4, gc4, da4, dc4⟩, rfl, ht4, hb4⟩; have b34 := (hb4.block (w1.heap.size + 2) (by omega)).trans B3.out; obtain ⟨⟨e0, e1, e2, e3⟩, y0, y1, y2, y3⟩ := blk_cells b34; have HT4 := Lib.hid ht4; have HB4 := Lib.hid hb4; clear ht4 hb4 b34)
        have hsz4 := HB4.out.size
        have hlow := below_set4 (v0 := .int .i64 T.kind) (v1 := .string T.text) (v2 := .slice ga4 T.gaps.length gc4) (v3 := .slice da4 T.kids.length dc4) (HB.out.trans (HB4.out.mono HB.out.size)) (show w1.heap.size ≤ w1.heap.size + 2 by omega)
        refine bodyPost_ret (v := .agg #[.int .i64 T.kind, .string T.text, .slice ga4 T.gaps.length gc4, .slice da4 T.kids.length dc4]) (by simp [results, Tryd.results45, go_sem, e0, e1, e2, e3]) rfl ⟨⟨ga4, gc4, da4, dc4⟩, rfl, ?_, hlow⟩
        exact HT4.out.keep (fun b hb => heap_set4 (by rcases hb with hb | hb; (have := hP b hb; omega); omega)) (fun b hb => hb.imp id fun h => by rw [size_set4]; omega)
end Go.Proofs.YtpaleolcfhnenaaDoor.Rt
