/- The walk of the package's put. -/
import Derived.Test.YtpaleolcfhnenaaDoorWk
namespace Go.Proofs.YtpaleolcfhnenaaDoor.Rt
open Go.RowKit
set_option linter.unusedVariables false
set_option linter.unusedSimpArgs false
set_option maxRecDepth 100000

/-- splice with one tree for one kid. -/
def SetP (P : Nat → Prop) (n : Nat) (ks : List Pl.Tr) (w1 : World) (e : Ending) (w' : World) : Prop :=
  Below w1.heap.size w1 w' ∧ ∃ (a : Option Addr) (c : Nat), e = .returned (.slice a n c) ∧ n ≤ c ∧ KidsIn (fun b => P b ∨ w1.heap.size ≤ b ∧ b < w'.heap.size) w' a ks
theorem one_kid {P : Nat → Prop} {w : World} {g : Nat} {T : Pl.Tr} {r : Sl} (h : AtT w g 0 T r) (hg : P g) (hT : Tin P w T r) : KidsIn P w (some ⟨g, 0, none⟩) [T] := by
  refine ⟨(show 1 ≤ maxLen by decide), fun _ => r, .inr ⟨g, 0, rfl, hg, fun j u hu => ?_⟩, fun j u hu => ?_⟩
  · match j, hu with
    | 0, hu => cases hu; exact h
    | j + 1, hu => cases hu
  · match j, hu with
    | 0, hu => cases hu; exact hT
    | j + 1, hu => cases hu
theorem set_split {α : Type} (ks : List α) (k : Nat) (x : α) (h : k < ks.length) : ks.take k ++ [x] ++ ks.drop (k + 1) = ks.set k x := by
  rw [List.set_eq_take_append_cons_drop, if_pos h, List.append_assoc]; rfl
theorem splice_set {P : Nat → Prop} {w1 : World} (hP : ∀ b, P b → b < w1.heap.size) (ks : List Pl.Tr) (T : Pl.Tr) (ka aa : Option Addr) (kc ac : Nat) (hk : KidsIn P w1 ka ks) (ha : KidsIn P w1 aa [T]) (n : Nat) (hn : n = ks.length) (hkc : n ≤ kc) (k : Nat) (hc : k < n) (hl : n ≤ 100000) :
    Calls Tryd.prog 56 #[.slice ka n kc, .int .i64 k, .int .i64 1, .slice aa 1 ac] w1 (SetP P n (ks.set k T) w1) := by
  subst hn
  have h := splice_at hP ks [T] ka aa kc ac hk ha hkc k 1 hc hl (show 1 ≤ 100 by decide)
  refine h.mono fun e w' ⟨hb, a, c, he, hm, hki⟩ => ?_
  have e1 : k + [T].length + (ks.length - (k + 1)) = ks.length := by simp; omega
  rw [e1] at he hm
  rw [set_split ks k T hc] at hki
  exact ⟨hb, a, c, he, hm, hki⟩
theorem tin_of {P : Nat → Prop} {w : World} {k : Int} {s : ByteArray} {g : List ByteArray} {ks : List Pl.Tr} {ga ka : Option Addr} {gc kc : Nat} (hs : s.size ≤ maxLen) (hg : Strs P w ga g) (hk : KidsIn P w ka ks) (hc : ks.length ≤ kc) : Tin P w (.node k s g ks) ⟨ga, gc, ka, kc⟩ := by
  obtain ⟨h1, R, h2, h3⟩ := hk
  exact .mk _ _ R hs hg h1 h2 h3 hc
theorem new_row (w : World) (k : Int) (s : ByteArray) (gv kv : Value) : At4 (w.alloc (.cells #[.int .i64 k, .string s, gv, kv] 25)) w.heap.size 0 k s gv kv := at4_new w k s gv kv
set_option maxHeartbeats 6400000 in
theorem put_at {P Q : Nat → Prop} {w : World} (x : Pl.Tr) (rx : Sl) (hP : ∀ b, P b → b < w.heap.size) (hQ : ∀ b, Q b → b < w.heap.size) (hx : Tin P w x rx) :
    ∀ (p : List Int) (t u : Pl.Tr) (r : Sl) (pa : Option Addr) (pc : Nat), Tin P w t r → Ints Q w pa p → p.length ≤ pc → Pl.getP p t = some u → Pl.sz t ≤ 100000 → ∀ w1, Same P w w1 → Same Q w w1 → w.heap.size ≤ w1.heap.size →
    Calls Tryd.prog 54 #[nv t r, .slice pa p.length pc, nv x rx] w1 (NewP P (Pl.putP x p t) w1) := by
  intro p
  induction p with
  | nil =>
    intro t u r pa pc ht hp hpc _ hsz w1 hs hq hge
    have HX := Lib.hid hx
    have HS := Lib.hid hs
    obtain ⟨kx, sx, gx, ksx⟩ := x
    obtain ⟨gax, gcx, dax, dcx⟩ := rx
    obtain ⟨k0, s0, g0, ks0⟩ := t
    obtain ⟨ga0, gc0, da0, dc0⟩ := r
    unfold nv
    simp only [Pl.Tr.kids, Pl.Tr.gaps, Pl.Tr.text, Pl.Tr.kind, List.length_nil]
    clear hx hs hq ht hp
    go_enter Tryd.func54, Tryd.ntmps54
    go_wp2_with fail
    have hlow := (three_new w1 (.cells #[.int .i64 k0, .string s0, .slice ga0 g0.length gc0, .slice da0 ks0.length dc0] 25) (.cells #[.int .i64 kx, .string sx, .slice gax gx.length gcx, .slice dax ksx.length dcx] 25) (.cells #[.int .i64 kx, .string sx, .slice gax gx.length gcx, .slice dax ksx.length dcx] 25)).2.2.2.1
    refine bodyPost_ret (v := .agg #[.int .i64 kx, .string sx, .slice gax gx.length gcx, .slice dax ksx.length dcx]) (by simp [results, Tryd.results54, go_sem]) rfl ⟨⟨gax, gcx, dax, dcx⟩, rfl, ?_, hlow⟩
    exact HX.out.keep (HS.out.trans (Same.below hlow fun b hb => Nat.lt_of_lt_of_le (hP b hb) hge)) (fun b hb => .inl hb)
  | cons i p ih =>
    intro t u r pa pc ht hp hpc hgu hsz w1 hs hq hge
    obtain ⟨v, hkv, hgv⟩ : ∃ v, Pl.kidA t i = some v ∧ Pl.getP p v = some u := by
      cases hk : Pl.kidA t i with
      | none => rw [Pl.getP_stop i p t hk] at hgu; cases hgu
      | some v => exact ⟨v, rfl, by rw [← Pl.getP_cons i p t v hk]; exact hgu⟩
    rw [Pl.put_cons x i p t v hkv]
    obtain ⟨a, rfl, ha, hv⟩ := Pl.kidA_some hkv
    rw [Int.toNat_natCast]
    have HX := Lib.hid hx
    have HS := Lib.hid hs
    have HSQ := Lib.hid hq
    have HPI := Lib.hid hp
    obtain ⟨kx, sx, gx, ksx⟩ := x
    obtain ⟨gax, gcx, dax, dcx⟩ := rx
    obtain ⟨k0, s0, g0, ks0⟩ := t
    obtain ⟨ga0, gc0, da0, dc0⟩ := r
    rcases hp.2 with h0 | ⟨pb, po, rfl, hpb, hatp⟩
    · cases h0
    have ci := (hq.cell hpb).trans (hatp 0 _ rfl)
    rw [Nat.add_zero] at ci
    have hpbl := hQ pb hpb
    have hpl := hp.1
    rw [List.length_cons] at hpc hpl
    unfold maxLen at hpl
    rw [Pl.sz] at hsz
    have hlen := Pl.len_szs ks0
    have hstep := Pl.szs_step ks0 a ha
    simp only [Pl.Tr.kids, Pl.Tr.gaps, Pl.Tr.text, Pl.Tr.kind] at ha hv ⊢
    have hvz : Pl.sz v ≤ 100000 := by
      have : ks0[a] = v := (List.getElem?_eq_some_iff.1 hv).2
      rw [this] at hstep; omega
    cases ht with
    | mk _ _ R hs0 hg0 hl0 hkL hr0 hcap =>
    simp only [Pl.Tr.kids] at hl0 hkL hr0 hcap
    simp only [Pl.Tr.gaps] at hg0
    have HKI : Hid (KidsIn P w da0 ks0) := Lib.hid ⟨hl0, R, hkL, hr0⟩
    rcases hkL with h0 | ⟨b, o, hda, hb, hat⟩
    · have h1 : ks0 = [] := h0
      rw [h1] at ha; simp at ha
    try simp only at hda
    subst hda
    obtain ⟨f0, f1, f2, f3⟩ := At4.keep (hat a _ hv) hs hb
    have HTV := Lib.hid (hr0 a _ hv)
    generalize R a = rv at *
    obtain ⟨gv, gcv, dv, dcv⟩ := rv
    try simp only at f0 f1 f2 f3
    have hbl : b < w1.heap.size := by have := hP b hb; omega
    obtain ⟨n, hn⟩ : ∃ n, n = ks0.length := ⟨_, rfl⟩
    have HN := Lib.hid hn
    obtain ⟨m, hm⟩ : ∃ m, m = p.length + 1 := ⟨_, rfl⟩
    have HPT := Lib.hid (ints_cut hp hpc)
    rw [← hm] at hpc hpl
    rw [show p.length = m - 1 by omega] at ih
    rw [← hn] at ha hlen hcap
    have HC := Lib.hid (fun wx hs hq hge => ih v u ⟨gv, gcv, dv, dcv⟩ _ (pc - 1) HTV.out HPT.out (by omega) hgv hvz wx hs hq hge)
    have hm1 : (1 : Int) ≤ (m : Int) := by omega
    have hm2 : 1 ≤ m := by omega
    have hm3 : ((m : Int) == 0) = false := by simp; omega
    have ha0 : (0 : Int) ≤ (a : Int) := Int.natCast_nonneg _
    have ha1 : (a : Int) < (n : Int) := by omega
    unfold nv at HC ⊢
    simp only [Pl.Tr.kids, Pl.Tr.gaps, Pl.Tr.text, Pl.Tr.kind, List.length_cons] at HC ⊢
    rw [← hn, ← hm]
    generalize Pl.putP (.node kx sx gx ksx) p v = T at HC ⊢
    have HHS := Lib.hid hs0
    have HHG := Lib.hid hg0
    obtain ⟨W, hW⟩ : ∃ W, W = ((w1.alloc (.cells #[.int .i64 k0, .string s0, .slice ga0 g0.length gc0, .slice (some ⟨b, o, none⟩) n dc0] 25)).alloc (.cells #[.int .i64 kx, .string sx, .slice gax gx.length gcx, .slice dax ksx.length dcx] 25)).alloc (.cells #[.int .i64 0, .string ⟨#[]⟩, .slice none 0 0, .slice none 0 0] 25) := ⟨_, rfl⟩
    obtain ⟨h1, h2, h3, h4, h5⟩ := three_new w1 (.cells #[.int .i64 k0, .string s0, .slice ga0 g0.length gc0, .slice (some ⟨b, o, none⟩) n dc0] 25) (.cells #[.int .i64 kx, .string sx, .slice gax gx.length gcx, .slice dax ksx.length dcx] 25) (.cells #[.int .i64 0, .string ⟨#[]⟩, .slice none 0 0, .slice none 0 0] 25)
    rw [← hW] at h1 h2 h3 h4 h5
    obtain ⟨⟨c0, c1, c2, c3⟩, z0, z1, z2, z3⟩ := blk_cells h1
    obtain ⟨⟨x0, x1, x2, x3⟩, _⟩ := blk_cells h2
    have ci2 := (h4.cell (p := ⟨pb, po, none⟩) (show pb < w1.heap.size by omega)).trans ci
    have d0 : W.drew.cell? ⟨b, o + a * 4, none⟩ = some (.int .i64 v.kind) := (h4.cell (p := ⟨b, o + a * 4, none⟩) hbl).trans f0
    have d1 : W.drew.cell? ⟨b, o + a * 4 + 1, none⟩ = some (.string v.text) := (h4.cell (p := ⟨b, o + a * 4 + 1, none⟩) hbl).trans f1
    have d2 : W.drew.cell? ⟨b, o + a * 4 + 2, none⟩ = some (.slice gv v.gaps.length gcv) := (h4.cell (p := ⟨b, o + a * 4 + 2, none⟩) hbl).trans f2
    have d3 : W.drew.cell? ⟨b, o + a * 4 + 3, none⟩ = some (.slice dv v.kids.length dcv) := (h4.cell (p := ⟨b, o + a * 4 + 3, none⟩) hbl).trans f3
    have c3' : W.drew.cell? ⟨w1.heap.size, 3, none⟩ = some (.slice (some ⟨b, o, none⟩) n dc0) := c3
    have v0 : W.drew.cell? ⟨w1.heap.size + 1, 0, none⟩ = some (.int .i64 kx) := x0
    have v1 : W.drew.cell? ⟨w1.heap.size + 1, 1, none⟩ = some (.string sx) := x1
    have v2 : W.drew.cell? ⟨w1.heap.size + 1, 2, none⟩ = some (.slice gax gx.length gcx) := x2
    have v3 : W.drew.cell? ⟨w1.heap.size + 1, 3, none⟩ = some (.slice dax ksx.length dcx) := x3
    have H1 := Lib.hid h1
    have H3 := Lib.hid h3
    have H4 := Lib.hid h4
    have H5 := Lib.hid h5
    have HW := Lib.hid hW
    have HV := Lib.hid hv
    clear hx hs hq hp hn hm hatp ih h1 h2 h3 h4 h5 hW hat hs0 hg0 hl0 hr0 hgu hgv hkv ci f0 f1 f2 f3 x0 x1 x2 x3 hstep hv
    have HSp := Lib.hid (fun (w2 : World) (gy : Option Addr) (gcy : Nat) (dy : Option Addr) (dcy : Nat) (hb2 : Below W.heap.size W w2) (ht2 : Tin (fun y => P y ∨ W.drew.heap.size ≤ y ∧ y < w2.heap.size) w2 T ⟨gy, gcy, dy, dcy⟩) =>
      (show Calls Tryd.prog 56 #[.slice (some ⟨b, o, none⟩) n dc0, .int .i64 a, .int .i64 1, .slice (some ⟨w2.heap.size, 0, none⟩) 1 1] (w2.alloc (.cells #[.int .i64 T.kind, .string T.text, .slice gy T.gaps.length gcy, .slice dy T.kids.length dcy] 25)) (SetP (fun y => (P y ∨ w1.heap.size + 3 ≤ y) ∧ y < w2.heap.size + 1) n (ks0.set a T) (w2.alloc (.cells #[.int .i64 T.kind, .string T.text, .slice gy T.gaps.length gcy, .slice dy T.kids.length dcy] 25))) from by
        have hz := H5.out
        have hz2 := hb2.size
        have hbx : Below w2.heap.size w2 (w2.alloc (.cells #[.int .i64 T.kind, .string T.text, .slice gy T.gaps.length gcy, .slice dy T.kids.length dcy] 25)) := box_below _ _
        refine splice_set (fun y hy => by have := hy.2; simp; omega) ks0 T (some ⟨b, o, none⟩) (some ⟨w2.heap.size, 0, none⟩) dc0 1 (HKI.out.keep (HS.out.trans ((Same.below H4.out fun y hy => Nat.lt_of_lt_of_le (hP y hy) hge).trans ((Same.below hb2 fun y hy => by have := hP y hy; omega).trans (Same.below hbx fun y hy => by have := hP y hy; omega)))) (fun y hy => ⟨.inl hy, by have := hP y hy; omega⟩)) (one_kid (r := ⟨gy, gcy, dy, dcy⟩) (new_row w2 T.kind T.text (.slice gy T.gaps.length gcy) (.slice dy T.kids.length dcy)) ⟨.inr (by omega), by omega⟩ (ht2.keep (Same.below hbx fun y hy => ?_) (fun y hy => ?_))) n HN.out hcap a ha (by omega)
        · rcases hy with hy | hy
          · have := hP y hy; omega
          · exact hy.2
        · rcases hy with hy | hy
          · exact ⟨.inl hy, by have := hP y hy; omega⟩
          · have h1 := hy.1
            have h1' : W.heap.size ≤ y := h1
            exact ⟨.inr (by omega), by have := hy.2; omega⟩))
    go_enter Tryd.func54, Tryd.ntmps54
    go_upto_region 1 with fail
    rw [← HW.out]
    go_upto_region 4 with fail
    go_region_law
      ((first
        | (have g := HB2; clear g; go_simp; go_at_call 56; refine (HSp.out w2 gy gcy dy dcy HB2.out HT2.out).mono ?_; rintro e w3 ⟨hb3, a3, cc3, rfl, hm3', hki3⟩;
           have g1 := blk_keep ((Below.heap_alloc _ _ _ hz1).trans G1.out) hb3;
           have g3 := blk_keep ((Below.heap_alloc _ _ _ (lt_blk G3.out)).trans G3.out) hb3;
           clear e3'; obtain ⟨⟨k0', k1', k2', k3'⟩, q0, q1, q2, q3⟩ := blk_cells g1;
           obtain ⟨⟨e0, e1, e2, e3⟩, y0, y1, y2, y3⟩ := blk_cells g3;
           have hz3 := hb3.size;
           have HB3 := Lib.hid (H4.out.trans ((HB2.out.mono H4.out.size).trans (((box_below _ _).mono (by have := H4.out.size; omega)).trans (hb3.mono (by have := H4.out.size; simp; omega)))));
           have HKI3 := Lib.hid hki3;
           have HM3 := Lib.hid hm3';
           clear hb3 g1 g3 hki3)
        | (go_simp; go_at_call 54; refine (HC.out W.drew (HS.out.trans (Same.below H4.out.drew fun b hb => by have := hP b hb; omega)) (HSQ.out.trans (Same.below H4.out.drew fun b hb => by have := hQ b hb; omega)) (by show w.heap.size ≤ W.heap.size; have := H4.out.size; omega)).mono ?_; rintro e w2 ⟨⟨gy, gcy, dy, dcy⟩, rfl, ht2, hb2'⟩;
           have hb2 : Below W.heap.size W w2 := (Below.refl _ W).drew.trans hb2';
           have hsz2 := hb2.size;
           have g1 := blk_keep H1.out hb2;
           have g3 := blk_keep H3.out hb2;
           have e3' := (blk_cells g1).1.2.2.2;
           have G1 := Lib.hid g1;
           have G3 := Lib.hid g3;
           have hz1 : w1.heap.size < w2.heap.size := lt_blk g1;
           have pa1 := cell_past w1.heap.size;
           have HT2 := Lib.hid ht2;
           have HB2 := Lib.hid hb2;
           clear ht2 hb2 hb2' g1 g3)))
    all_goals go_wp2_with fail
    all_goals
      have hlow := below_set4 (v0 := .int .i64 k0) (v1 := .string s0) (v2 := .slice ga0 g0.length gc0) (v3 := .slice a3 n cc3) (HB3.out.setCell (p := ⟨w1.heap.size, 3, none⟩) (Nat.le_refl _) (.slice a3 n cc3)) (show w1.heap.size ≤ w1.heap.size + 1 + 1 by omega)
      have hkl : (ks0.set a T).length = n := by rw [List.length_set, HN.out]
      refine bodyPost_ret (v := .agg #[.int .i64 k0, .string s0, .slice ga0 g0.length gc0, .slice a3 n cc3]) (by simp [results, Tryd.results54, go_sem, e0, e1, e2, e3]) rfl ⟨⟨ga0, gc0, a3, cc3⟩, by show _ = Ending.returned (.agg #[.int .i64 k0, .string s0, .slice ga0 g0.length gc0, .slice a3 (ks0.set a T).length cc3]); rw [hkl], ?_, hlow⟩
      have hzW := H5.out
      refine tin_of HHS.out (HHG.out.keep (HS.out.trans (Same.below hlow fun y hy => Nat.lt_of_lt_of_le (hP y hy) hge)) (fun y hy => .inl hy)) (HKI3.out.keep (fun y hy => ?_) (fun y hy => ?_)) (by rw [hkl]; exact HM3.out)
      · refine (heap_set4 ?_).trans (Below.heap_setCell _ ⟨w1.heap.size, 3, none⟩ _ _ ?_)
        · rcases hy with ⟨hy | hy, _⟩ | ⟨hy, _⟩
          · have := hP y hy; omega
          · omega
          · simp at hy; omega
        · rcases hy with ⟨hy | hy, _⟩ | ⟨hy, _⟩
          · have := hP y hy; show y ≠ w1.heap.size; omega
          · show y ≠ w1.heap.size; omega
          · simp at hy; show y ≠ w1.heap.size; omega
      · simp only [size_set4, Below.heap_setCell]
        rcases hy with ⟨hy | hy, hy2⟩ | ⟨hy, hy2⟩
        · exact .inl hy
        · refine .inr ⟨by omega, ?_⟩
          simp at hz3 ⊢
          omega
        · simp at hy
          refine .inr ⟨by omega, ?_⟩
          simp
          omega
end Go.Proofs.YtpaleolcfhnenaaDoor.Rt
