/- The walks of the reference's With and put. -/
import Derived.Test.YtpaleolcfhnenaaDoorOf
namespace Go.Proofs.YtpaleolcfhnenaaDoor.Rt
open Go.RowKit
set_option linter.unusedVariables false
set_option linter.unusedSimpArgs false

/-- A tree that lies where P says. -/
def TreeP (P : Nat → Prop) (T : Pl.Tr) (w1 : World) (e : Ending) (w' : World) : Prop := ∃ r : Sl, e = .returned (.agg #[.int .i64 T.kind, .string T.text, .slice r.ga T.gaps.length r.gc, .slice r.da T.kids.length r.dc]) ∧ Tin P w' T r ∧ Below w1.heap.size w1 w'
/-- Kids that lie where P says. -/
def KidsIn (P : Nat → Prop) (w : World) (a : Option Addr) (ks : List Pl.Tr) : Prop := ks.length ≤ maxLen ∧ ∃ R : Nat → Sl, Lies P w ks a R ∧ ∀ (j : Nat) u, ks[j]? = some u → Tin P w u (R j)
theorem KidsIn.keep {P Q : Nat → Prop} {w w' : World} {a : Option Addr} {ks : List Pl.Tr} (h : KidsIn P w a ks) (hs : Same P w w') (hq : ∀ b, P b → Q b) : KidsIn Q w' a ks := by
  obtain ⟨h1, R, h2, h3⟩ := h
  exact ⟨h1, R, h2.keep hs hq, fun j u hu => (h3 j u hu).keep hs hq⟩
/-- A node over kids that lie where P says. -/
theorem isT_of {P : Nat → Prop} {w W : World} (hP : ∀ b, P b → b < w.heap.size) (hb : Below w.heap.size w W) (k : Int) (s : ByteArray) (g : List ByteArray) (ks : List Pl.Tr) (ga : Option Addr) (gc : Nat) (ka : Option Addr) (kc : Nat) (hs : s.size ≤ maxLen) (hg : Strs P w ga g) (hk : KidsIn P w ka ks) (hkc : ks.length ≤ kc) :
    Tin P W (.node k s g ks) ⟨ga, gc, ka, kc⟩ := by
  obtain ⟨h1, R, h2, h3⟩ := hk.keep (Same.below hb hP) (fun _ h => h)
  exact .mk _ _ R hs (hg.keep (Same.below hb hP) (fun _ h => h)) h1 h2 h3 hkc
set_option maxHeartbeats 1600000 in
theorem with_at {P : Nat → Prop} (t : Pl.Tr) (w : World) (r : Sl) (hP : ∀ b, P b → b < w.heap.size) (h : Tin P w t r) (ks : List Pl.Tr) (ka : Option Addr) (kc : Nat) (hk : KidsIn P w ka ks) (hkc : ks.length ≤ kc) :
    Calls Tryd.prog 46 #[nv t r, .slice ka ks.length kc] w (TreeP P (Pl.wth t ks) w) := by
  obtain ⟨k0, s0, g0, ks0⟩ := t
  obtain ⟨ga0, gc0, da0, dc0⟩ := r
  have hkl := hk.1
  cases h with
  | mk _ _ R hs hg hl hkL hr =>
    simp only [Pl.Tr.kids, Pl.Tr.gaps, Pl.Tr.text, Pl.Tr.kind] at hs hg hl
    obtain ⟨W, hW⟩ : ∃ W, W = ((w.alloc (.cells #[.int .i64 k0, .string s0, .slice ga0 g0.length gc0, .slice da0 ks0.length dc0] 25)).alloc (.cells #[.int .i64 0, .string ⟨#[]⟩, .slice none 0 0, .slice none 0 0] 25)).alloc
      (.cells #[.int .i64 k0, .string s0, .slice ga0 g0.length gc0, .slice ka ks.length kc] 25) := ⟨_, rfl⟩
    obtain ⟨h1, h2, h3, h4, h5⟩ := three_new w (.cells #[.int .i64 k0, .string s0, .slice ga0 g0.length gc0, .slice da0 ks0.length dc0] 25) (.cells #[.int .i64 0, .string ⟨#[]⟩, .slice none 0 0, .slice none 0 0] 25) (.cells #[.int .i64 k0, .string s0, .slice ga0 g0.length gc0, .slice ka ks.length kc] 25)
    rw [← hW] at h1 h2 h3 h4 h5
    obtain ⟨o1, ho1⟩ : ∃ o, o = Pl.own k0 s0 ks0.length := ⟨_, rfl⟩
    obtain ⟨o2, ho2⟩ : ∃ o, o = Pl.own k0 s0 ks.length := ⟨_, rfl⟩
    have HW := Lib.hid hW
    have HG := Lib.hid hg
    have HK := Lib.hid hk
    have HKC := Lib.hid hkc
    have H1 := Lib.hid h1
    have H2 := Lib.hid h2
    have H3 := Lib.hid h3
    have H4 := Lib.hid h4
    have HO1 := Lib.hid ho1
    have HO2 := Lib.hid ho2
    have A1 : Hid (At4 W w.heap.size 0 k0 s0 (.slice ga0 g0.length gc0) (.slice da0 ks0.length dc0)) := Lib.hid (blk_cells h1).1
    have A3 : Hid (At4 W (w.heap.size + 2) 0 k0 s0 (.slice ga0 g0.length gc0) (.slice ka ks.length kc)) := Lib.hid (blk_cells h3).1
    obtain ⟨m, hm⟩ : ∃ m, m = ks.length := ⟨_, rfl⟩
    have HM := Lib.hid hm
    have C1 : ∀ z : Later W, Calls Tryd.prog 58 #[.agg #[.int .i64 k0, .string s0, .slice ga0 g0.length gc0, .slice ka ks.length kc]] z.u fun e w'' => e = .returned (.int .i64 o2) ∧ ∃ y : Later W, w'' = y.u :=
      fun z => (rown_is k0 s0 o2 _ _ _ _ _ _ z.u HO2.out.symm hkl).mono fun e w'' ⟨he, hw⟩ => ⟨he, ⟨w'', z.h.trans (hw.mono z.h.size)⟩, rfl⟩
    have C2 : ∀ z : Later W, Calls Tryd.prog 58 #[.agg #[.int .i64 k0, .string s0, .slice ga0 g0.length gc0, .slice da0 ks0.length dc0]] z.u fun e w'' => e = .returned (.int .i64 o1) ∧ ∃ y : Later W, w'' = y.u :=
      fun z => (rown_is k0 s0 o1 _ _ _ _ _ _ z.u HO1.out.symm hl).mono fun e w'' ⟨he, hw⟩ => ⟨he, ⟨w'', z.h.trans (hw.mono z.h.size)⟩, rfl⟩
    have hoo : (o2 = o1 ∧ ((o2 : Int) != o1) = false) ∨ (o2 ≠ o1 ∧ ((o2 : Int) != o1) = true) := by
      by_cases e : o2 = o1
      · exact .inl ⟨e, by simp [e]⟩
      · exact .inr ⟨e, by simpa using e⟩
    rw [← hm] at C1 A3 H3 ⊢
    unfold nv
    simp only [Pl.Tr.kids, Pl.Tr.gaps, Pl.Tr.text, Pl.Tr.kind]
    clear hg hk hkc hkL hr h1 h2 h3 h4 ho1 ho2 hm
    rw [← HM.out] at hW
    have HW2 := Lib.hid hW
    clear hW HW
    go_enter Tryd.func46, Tryd.ntmps46
    go_wp2_with fail
    rw [← HW2.out]
    refine region_later (by kernel_rfl) (by kernel_rfl) ?_
    refine quiet_load (by rfl) 25 _ (by rfl) (.pointer (some ⟨w.heap.size + 2, 0, none⟩)) _ (by rfl) (fun x hx => by obtain ⟨n, rfl⟩ := hx; exact (at4_later A3.out n).load) ?_
    simp only [Act.put, List.setIfInBounds_toArray, List.set_cons_succ, List.set_cons_zero]
    go_big_quiet_step (exact C1 _)
    refine quiet_load (by rfl) 25 _ (by rfl) (.pointer (some ⟨w.heap.size, 0, none⟩)) _ (by rfl) (fun x hx => by obtain ⟨n, rfl⟩ := hx; exact (at4_later A1.out n).load) ?_
    simp only [Act.put, List.setIfInBounds_toArray, List.set_cons_succ, List.set_cons_zero]
    go_big_quiet_step (exact C2 _)
    go_big_quiet_step (fail)
    refine wpQuiet_nil ?_
    intro _ hw'
    obtain ⟨n1, rfl⟩ := hw'
    have hsz := n1.h.size
    have k2 := (n1.h.block (w.heap.size + 1) (by omega)).trans H2.out
    have k3 := (n1.h.block (w.heap.size + 2) (by omega)).trans H3.out
    obtain ⟨⟨e0, e1, e2, e3⟩, y0, y1, y2, y3⟩ := blk_cells k2
    obtain ⟨⟨c0, c1, c2, c3⟩, z0, z1, z2, z3⟩ := blk_cells k3
    have HB := Lib.hid (H4.out.trans (n1.h.mono H4.out.size))
    clear C1 C2 k2 k3
    rcases hoo with ⟨he, hb⟩ | ⟨he, hb⟩
    · have HT : Hid (Pl.wth (.node k0 s0 g0 ks0) ks = .node k0 s0 g0 ks) := Lib.hid (by unfold Pl.wth; rw [if_pos (by show Pl.own k0 s0 ks.length = Pl.own k0 s0 ks0.length; rw [← HO1.out, ← HO2.out]; exact he)]; rfl)
      clear he
      go_wp2_with fail
      have hlow := below_set4 (v0 := .int .i64 k0) (v1 := .string s0) (v2 := .slice ga0 g0.length gc0) (v3 := .slice ka m kc) HB.out (show w.heap.size ≤ w.heap.size + 1 by omega)
      refine bodyPost_ret (v := .agg #[.int .i64 k0, .string s0, .slice ga0 g0.length gc0, .slice ka m kc]) (by simp [results, Tryd.results46, go_sem, e0, e1, e2, e3]) rfl ⟨⟨ga0, gc0, ka, kc⟩, ?_, ?_, hlow⟩
      · rw [HT.out, HM.out]; rfl
      · rw [HT.out]; exact isT_of hP hlow _ _ _ _ _ _ _ _ hs HG.out HK.out HKC.out
    · have HT : Hid (Pl.wth (.node k0 s0 g0 ks0) ks = .node k0 s0 [] ks) := Lib.hid (by unfold Pl.wth; rw [if_neg (by show ¬ Pl.own k0 s0 ks.length = Pl.own k0 s0 ks0.length; rw [← HO1.out, ← HO2.out]; exact he)]; rfl)
      clear he
      go_wp2_with fail
      have hlow := below_set4 (v0 := .int .i64 k0) (v1 := .string s0) (v2 := .slice none 0 0) (v3 := .slice ka m kc) (HB.out.setCell (p := ⟨w.heap.size + 1 + 1, 2, none⟩) (show w.heap.size ≤ w.heap.size + 1 + 1 by omega) (.slice none 0 0)) (show w.heap.size ≤ w.heap.size + 1 by omega)
      refine bodyPost_ret (v := .agg #[.int .i64 k0, .string s0, .slice none 0 0, .slice ka m kc]) (by simp [results, Tryd.results46, go_sem, e0, e1, e2, e3]) rfl ⟨⟨none, 0, ka, kc⟩, ?_, ?_, hlow⟩
      · rw [HT.out, HM.out]; rfl
      · rw [HT.out]; exact isT_of hP hlow _ _ _ _ _ _ _ _ hs (strs_nil _ _ _) HK.out HKC.out
end Go.Proofs.YtpaleolcfhnenaaDoor.Rt
