/- The walk of the package's withKids. -/
import Derived.Test.YtpaleolcfhnenaaDoorSpl
namespace Go.Proofs.YtpaleolcfhnenaaDoor.Rt
open Go.RowKit
set_option linter.unusedVariables false
set_option linter.unusedSimpArgs false
set_option maxRecDepth 100000

theorem set3_blk {w : World} {b : Nat} {x0 x1 x2 x3 v : Value} {T : TypeId} (h : w.heap[b]? = some (.cells #[x0, x1, x2, x3] T (0, 0))) : (w.setCell ⟨b, 3, none⟩ v).heap[b]? = some (.cells #[x0, x1, x2, v] T (0, 0)) := by
  simp [World.setCell, Array.getElem?_modify, h]
theorem set2_blk {w : World} {b : Nat} {x0 x1 x2 x3 v : Value} {T : TypeId} (h : w.heap[b]? = some (.cells #[x0, x1, x2, x3] T (0, 0))) : (w.setCell ⟨b, 2, none⟩ v).heap[b]? = some (.cells #[x0, x1, v, x3] T (0, 0)) := by
  simp [World.setCell, Array.getElem?_modify, h]
set_option maxHeartbeats 1600000 in
theorem wkids_at {P : Nat → Prop} (t : Pl.Tr) (w : World) (r : Sl) (hT : Tabs w) (hP : ∀ b, P b → b < w.heap.size) (h : Tin P w t r) (ks : List Pl.Tr) (ka : Option Addr) (kc : Nat) (hk : KidsIn P w ka ks) (hkc : ks.length ≤ kc) :
    Calls Tryd.prog 55 #[nv t r, .slice ka ks.length kc] w (TreeP P (Pl.wth t ks) w) := by
  obtain ⟨k0, s0, g0, ks0⟩ := t
  obtain ⟨ga0, gc0, da0, dc0⟩ := r
  have hkl := hk.1
  cases h with
  | mk _ _ R hs hg hl hkL hr _ =>
  simp only [Pl.Tr.kids, Pl.Tr.gaps, Pl.Tr.text, Pl.Tr.kind] at hs hg hl
  obtain ⟨m, hm⟩ : ∃ m, m = ks.length := ⟨_, rfl⟩
  obtain ⟨o1, ho1⟩ : ∃ o, o = Pl.own k0 s0 ks0.length := ⟨_, rfl⟩
  obtain ⟨o2, ho2⟩ : ∃ o, o = Pl.own k0 s0 m := ⟨_, rfl⟩
  have C1 := Lib.hid (fun W (hb : Below w.heap.size w W) => own_any k0 s0 g0.length ks0.length gc0 dc0 ga0 da0 W (hT.later hb) hl)
  have C2 := Lib.hid (fun W (hb : Below w.heap.size w W) => own_any k0 s0 g0.length m gc0 kc ga0 ka W (hT.later hb) (by rw [hm]; exact hkl))
  rw [← ho1] at C1
  rw [← ho2] at C2
  have HG := Lib.hid hg
  have HK := Lib.hid hk
  have HKC := Lib.hid hkc
  have HM := Lib.hid hm
  have HO1 := Lib.hid ho1
  have HO2 := Lib.hid ho2
  have hoo : (o2 = o1 ∧ ((o2 : Int) != o1) = false) ∨ (o2 ≠ o1 ∧ ((o2 : Int) != o1) = true) := by
    by_cases e : o2 = o1
    · exact .inl ⟨e, by simp [e]⟩
    · exact .inr ⟨e, by simpa using e⟩
  unfold nv
  simp only [Pl.Tr.kids, Pl.Tr.gaps, Pl.Tr.text, Pl.Tr.kind]
  rw [← hm]
  obtain ⟨W, hW⟩ : ∃ W, W = (w.alloc (.cells #[.int .i64 k0, .string s0, .slice ga0 g0.length gc0, .slice da0 ks0.length dc0] 25)).alloc (.cells #[.int .i64 0, .string ⟨#[]⟩, .slice none 0 0, .slice none 0 0] 25) := ⟨_, rfl⟩
  obtain ⟨h1, h2, h3, h4⟩ := two_after (w := w) (w2 := W) (by rw [← hW]; exact Below.refl _ _)
  obtain ⟨⟨c0, c1, c2, c3⟩, z0, z1, z2, z3⟩ := blk_cells h1
  have H1 := Lib.hid h1
  have H2 := Lib.hid h2
  have HB := Lib.hid h3
  have HW := Lib.hid hW
  clear hg hk hkc hkL hr hT ho1 ho2 hm hW h1 h2 h3 hkl
  rcases hoo with ⟨he, hb⟩ | ⟨he, hb⟩
  · have HT : Hid (Pl.wth (.node k0 s0 g0 ks0) ks = .node k0 s0 g0 ks) := Lib.hid (by unfold Pl.wth; rw [if_pos (by show Pl.own k0 s0 ks.length = Pl.own k0 s0 ks0.length; rw [← HM.out, ← HO1.out, ← HO2.out]; exact he)]; rfl)
    clear he
    go_enter Tryd.func55, Tryd.ntmps55
    go_upto_region 1 with fail
    rw [← HW.out]
    go_wp2_with (first
      | (have g := HB2; clear g; go_at_call 66; refine (C2.out _ (HB2.out.setCell (p := ⟨w.heap.size, 3, none⟩) (Nat.le_refl _) (.slice ka m kc))).mono ?_; rintro e w3 ⟨rfl, hb3⟩; have g1 := blk_keep (set3_blk (v := .slice ka m kc) G1.out) hb3; have g2 := blk_keep ((Below.heap_setCell _ ⟨w.heap.size, 3, none⟩ (.slice ka m kc) _ (by show w.heap.size + 1 ≠ w.heap.size; omega)).trans G2.out) hb3; clear c0 c1 c2 c3 z0 z1 z2 z3; obtain ⟨⟨c0, c1, c2, c3⟩, z0, z1, z2, z3⟩ := blk_cells g1; obtain ⟨⟨e0, e1, e2, e3⟩, y0, y1, y2, y3⟩ := blk_cells g2; have HB3 := Lib.hid ((HB2.out.setCell (p := ⟨w.heap.size, 3, none⟩) (Nat.le_refl _) (.slice ka m kc)).trans (hb3.mono (by simp; exact HB2.out.size))); clear hb3 g1 g2)
      | (go_at_call 66; refine (C1.out _ HB.out).mono ?_; rintro e w2 ⟨rfl, hb2⟩; have g1 := blk_keep H1.out hb2; have g2 := blk_keep H2.out hb2; clear c0 c1 c2 c3 z0 z1 z2 z3; obtain ⟨⟨c0, c1, c2, c3⟩, z0, z1, z2, z3⟩ := blk_cells g1; have G1 := Lib.hid g1; have G2 := Lib.hid g2; have HB2 := Lib.hid (HB.out.trans (hb2.mono HB.out.size)); clear hb2 g1 g2))
    have hlow := below_set4 (v0 := .int .i64 k0) (v1 := .string s0) (v2 := .slice ga0 g0.length gc0) (v3 := .slice ka m kc) HB3.out (show w.heap.size ≤ w.heap.size + 1 by omega)
    refine bodyPost_ret (v := .agg #[.int .i64 k0, .string s0, .slice ga0 g0.length gc0, .slice ka m kc]) (by simp [results, Tryd.results55, go_sem, e0, e1, e2, e3]) rfl ⟨⟨ga0, gc0, ka, kc⟩, ?_, ?_, hlow⟩
    · rw [HT.out, HM.out]; rfl
    · rw [HT.out]; exact isT_of hP hlow _ _ _ _ _ _ _ _ hs HG.out HK.out HKC.out
  · have HT : Hid (Pl.wth (.node k0 s0 g0 ks0) ks = .node k0 s0 [] ks) := Lib.hid (by unfold Pl.wth; rw [if_neg (by show ¬ Pl.own k0 s0 ks.length = Pl.own k0 s0 ks0.length; rw [← HM.out, ← HO1.out, ← HO2.out]; exact he)]; rfl)
    clear he
    go_enter Tryd.func55, Tryd.ntmps55
    go_upto_region 1 with fail
    rw [← HW.out]
    go_wp2_with (first
      | (have g := HB2; clear g; go_at_call 66; refine (C2.out _ (HB2.out.setCell (p := ⟨w.heap.size, 3, none⟩) (Nat.le_refl _) (.slice ka m kc))).mono ?_; rintro e w3 ⟨rfl, hb3⟩; have g1 := blk_keep (set3_blk (v := .slice ka m kc) G1.out) hb3; have g2 := blk_keep ((Below.heap_setCell _ ⟨w.heap.size, 3, none⟩ (.slice ka m kc) _ (by show w.heap.size + 1 ≠ w.heap.size; omega)).trans G2.out) hb3; clear c0 c1 c2 c3 z0 z1 z2 z3; obtain ⟨⟨c0, c1, c2, c3⟩, z0, z1, z2, z3⟩ := blk_cells g1; obtain ⟨⟨e0, e1, e2, e3⟩, y0, y1, y2, y3⟩ := blk_cells g2; have HB3 := Lib.hid ((HB2.out.setCell (p := ⟨w.heap.size, 3, none⟩) (Nat.le_refl _) (.slice ka m kc)).trans (hb3.mono (by simp; exact HB2.out.size))); clear hb3 g1 g2)
      | (go_at_call 66; refine (C1.out _ HB.out).mono ?_; rintro e w2 ⟨rfl, hb2⟩; have g1 := blk_keep H1.out hb2; have g2 := blk_keep H2.out hb2; clear c0 c1 c2 c3 z0 z1 z2 z3; obtain ⟨⟨c0, c1, c2, c3⟩, z0, z1, z2, z3⟩ := blk_cells g1; have G1 := Lib.hid g1; have G2 := Lib.hid g2; have HB2 := Lib.hid (HB.out.trans (hb2.mono HB.out.size)); clear hb2 g1 g2))
    have hlow := below_set4 (v0 := .int .i64 k0) (v1 := .string s0) (v2 := .slice none 0 0) (v3 := .slice ka m kc) (HB3.out.setCell (p := ⟨w.heap.size, 2, none⟩) (Nat.le_refl _) (.slice none 0 0)) (show w.heap.size ≤ w.heap.size + 1 by omega)
    refine bodyPost_ret (v := .agg #[.int .i64 k0, .string s0, .slice none 0 0, .slice ka m kc]) (by simp [results, Tryd.results55, go_sem, e0, e1, e2, e3]) rfl ⟨⟨none, 0, ka, kc⟩, ?_, ?_, hlow⟩
    · rw [HT.out, HM.out]; rfl
    · rw [HT.out]; exact isT_of hP hlow _ _ _ _ _ _ _ _ hs (strs_nil _ _ _) HK.out HKC.out
end Go.Proofs.YtpaleolcfhnenaaDoor.Rt
