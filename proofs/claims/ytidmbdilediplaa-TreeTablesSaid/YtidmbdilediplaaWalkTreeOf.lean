/- The walk of treeOf. -/
import Derived.Test.YtidmbdilediplaaWalkEnd
import Derived.Deep.DeepCutAuto
namespace Go.Proofs.Ytidmbdilediplaa
open Go.RowKit Go.Deep
set_option linter.unusedVariables false
set_option linter.unusedSimpArgs false

/-- A tree whose kids' trees are the given ones. -/
def TreeOfP (P : Nat → Prop) (t : Pl.Tr) (w1 : World) (e : Ending) (w' : World) : Prop :=
  ∃ r : Sl, e = .returned (.agg #[.int .i64 t.kind, .string t.text, .slice r.ga t.gaps.length r.gc, .slice r.da t.kids.length r.dc]) ∧ Tin (fun b => P b ∨ (w1.heap.size ≤ b ∧ b < w'.heap.size)) w' t r ∧ Below w1.heap.size w1 w'
theorem row_new (w : World) (p k : Int) (s : ByteArray) (gv kv : Value) :
    (w.alloc (.cells #[.int .i64 p, .int .i64 k, .string s, gv, kv] 46)).cell? ⟨w.heap.size, 1, none⟩ = some (.int .i64 k) ∧ (w.alloc (.cells #[.int .i64 p, .int .i64 k, .string s, gv, kv] 46)).cell? ⟨w.heap.size, 2, none⟩ = some (.string s) ∧
    (w.alloc (.cells #[.int .i64 p, .int .i64 k, .string s, gv, kv] 46)).cell? ⟨w.heap.size, 3, none⟩ = some gv ∧ (w.alloc (.cells #[.int .i64 p, .int .i64 k, .string s, gv, kv] 46)).cell? ⟨w.heap.size, 4, none⟩ = some kv := by
  refine ⟨?_, ?_, ?_, ?_⟩ <;> simp
theorem cell_set4 {b x f : Nat} {w2 : World} {v0 v1 v2 v3 : Value} (hb : x ≠ b) : ((((w2.setCell ⟨b, 0, none⟩ v0).setCell ⟨b, 1, none⟩ v1).setCell ⟨b, 2, none⟩ v2).setCell ⟨b, 3, none⟩ v3).cell? ⟨x, f, none⟩ = w2.cell? ⟨x, f, none⟩ :=
  World.cell?_of_block (w := w2) (a := ⟨x, f, none⟩) (heap_set4 hb)
/-- What is known behind the first statement of treeOf, in whatever order its parts came. -/
structure TF (w1 W X : World) (m KB NB b2 : Nat) (x : Pl.Rw) : Prop where
  low : Below w1.heap.size w1 X
  kb : X.heap[KB]? = some (.cells (madeCells #[.int .i64 0, .string ⟨#[]⟩, .slice none 0 0, .slice none 0 0] (m * 4)) 25 (0, 0))
  nb : X.heap[NB]? = some (.cells #[.int .i64 x.kind, .string x.text, .slice (some ⟨b2, 0, none⟩) x.gaps.length x.gaps.length, .slice (some ⟨KB, 0, none⟩) m m] 25 (0, 0))
  st : Strs (fun y => y = b2) X (some ⟨b2, 0, none⟩) x.gaps
  row : ∀ f : Nat, X.cell? ⟨w1.heap.size, f, none⟩ = W.cell? ⟨w1.heap.size, f, none⟩
  res : X.heap[w1.heap.size + 1]? = some (.cells #[.int .i64 0, .string ⟨#[]⟩, .slice none 0 0, .slice none 0 0] 25 (0, 0))
  ord : w1.heap.size + 1 < KB ∧ w1.heap.size + 1 < NB ∧ w1.heap.size + 1 < b2 ∧ KB ≠ NB ∧ KB ≠ b2 ∧ NB ≠ b2 ∧ KB < X.heap.size ∧ NB < X.heap.size ∧ b2 < X.heap.size
theorem tf_of {w1 W w2 X : World} {m KB NB b2 : Nat} {x : Pl.Rw} (hlow : Below w1.heap.size w1 W) (hWs : W.heap.size = w1.heap.size + 1 + 1)
    (hres : W.heap[w1.heap.size + 1]? = some (.cells #[.int .i64 0, .string ⟨#[]⟩, .slice none 0 0, .slice none 0 0] 25 (0, 0))) (hbel : Below W.heap.size W w2) (hst : Strs (fun y => y = b2) w2 (some ⟨b2, 0, none⟩) x.gaps)
    (hb2 : W.heap.size ≤ b2) (hb2l : b2 < w2.heap.size) (hos : X.os = w2.os) (htape : X.tape = w2.tape) (hout : X.output = w2.output) (hsz : w2.heap.size ≤ X.heap.size) (hE : ∀ y, y < w2.heap.size → y ≠ NB → X.heap[y]? = w2.heap[y]?)
    (hkb : X.heap[KB]? = some (.cells (madeCells #[.int .i64 0, .string ⟨#[]⟩, .slice none 0 0, .slice none 0 0] (m * 4)) 25 (0, 0)))
    (hnb : X.heap[NB]? = some (.cells #[.int .i64 x.kind, .string x.text, .slice (some ⟨b2, 0, none⟩) x.gaps.length x.gaps.length, .slice (some ⟨KB, 0, none⟩) m m] 25 (0, 0)))
    (hK : W.heap.size ≤ KB) (hN : W.heap.size ≤ NB) (hKN : KB ≠ NB) (hKb : KB ≠ b2) (hNb : NB ≠ b2) : TF w1 W X m KB NB b2 x := by
  have hs := hbel.size
  refine ⟨?_, hkb, hnb, ?_, ?_, ?_, by omega, by omega, by omega, hKN, hKb, hNb, lt_of_block hkb, lt_of_block hnb, by omega⟩
  · have h1 := hlow.trans (hbel.mono (by omega))
    exact ⟨hos.trans h1.os, htape.trans h1.tape, hout.trans h1.output, by have := h1.size; omega, fun k hk => (hE k (by omega) (by omega)).trans (h1.block k hk)⟩
  · exact hst.keep (fun y hy => hE y (by omega) (by omega)) (fun _ h => h)
  · intro f
    exact (World.cell?_of_block (w := w2) (a := ⟨w1.heap.size, f, none⟩) (hE w1.heap.size (by omega) (by omega))).trans (hbel.cell (p := ⟨w1.heap.size, f, none⟩) (by show w1.heap.size < _; omega))
  · exact (hE _ (by omega) (by omega)).trans ((hbel.block _ (by omega)).trans hres)
theorem cell_setj {b x f o : Nat} {w2 : World} {v0 v1 v2 v3 : Value} (hb : x ≠ b) : ((((w2.setCell ⟨b, o, none⟩ v0).setCell ⟨b, o + 1, none⟩ v1).setCell ⟨b, o + 2, none⟩ v2).setCell ⟨b, o + 3, none⟩ v3).cell? ⟨x, f, none⟩ = w2.cell? ⟨x, f, none⟩ :=
  World.cell?_of_block (w := w2) (a := ⟨x, f, none⟩) ((Below.heap_setCell _ ⟨b, o + 3, none⟩ _ x hb).trans ((Below.heap_setCell _ ⟨b, o + 2, none⟩ _ x hb).trans ((Below.heap_setCell _ ⟨b, o + 1, none⟩ _ x hb).trans (Below.heap_setCell _ ⟨b, o, none⟩ _ x hb))))
theorem set4_block {b : Nat} {w2 : World} {u0 u1 u2 u3 v0 v1 v2 v3 : Value} {T : TypeId} (h : w2.heap[b]? = some (.cells #[u0, u1, u2, u3] T (0, 0))) :
    ((((w2.setCell ⟨b, 0, none⟩ v0).setCell ⟨b, 1, none⟩ v1).setCell ⟨b, 2, none⟩ v2).setCell ⟨b, 3, none⟩ v3).heap[b]? = some (.cells #[v0, v1, v2, v3] T (0, 0)) := by
  simp [World.setCell, Array.getElem?_modify, h]
set_option maxHeartbeats 6400000 in
set_option maxRecDepth 100000 in
theorem treeOf_any {P : Nat → Prop} {w1 : World} (x : Pl.Rw) (r : Sl) (hx : RowIn (fun b => b < w1.heap.size) w1 x r) (hg : x.gaps.length ≤ 1000000) (hk : x.kids.length ≤ 1000000) (TB n c : Nat) (hTB : TB < w1.heap.size) (T : Nat → Pl.Tr) (R : Nat → Sl) (hP : ∀ b, P b → b < w1.heap.size)
    (ts : List Pl.Tr) (hl : ts.length = x.kids.length) (hts : ∀ (j : Nat) k, x.kids[j]? = some k → ∃ q : Nat, k = q ∧ q < n ∧ ts[j]? = some (T q) ∧ AtT w1 TB (q * 4) (T q) (R q) ∧ Tin P w1 (T q) (R q)) (hn : n ≤ 1000000) :
    Calls Try.prog 40 #[.agg #[.int .i64 x.parent, .int .i64 x.kind, .string x.text, .slice r.ga x.gaps.length r.gc, .slice r.da x.kids.length r.dc], .slice (some ⟨TB, 0, none⟩) n c] w1 (TreeOfP P (.node x.kind x.text x.gaps ts) w1) := by
  obtain ⟨ga, gc, ka, kc⟩ := r
  obtain ⟨htl, hgs, hks⟩ := hx
  simp only at hgs hks
  have HT := Lib.hid (fun (w2 : World) (hs : Same (fun b => b < w1.heap.size) w1 w2) => texts_any (w1 := w2) ga gc x.gaps (hgs.keep hs (fun _ h => h)) (by omega))
  have HKS := Lib.hid hks
  have HTS := Lib.hid hts
  have HLen := Lib.hid hl
  obtain ⟨m, hm⟩ : ∃ m, m = x.kids.length := ⟨_, rfl⟩
  have HM := Lib.hid hm
  rw [← hm] at hk ⊢
  obtain ⟨gl, hgl⟩ : ∃ gl, gl = x.gaps.length := ⟨_, rfl⟩
  have HGL := Lib.hid hgl
  have hmk := make_nodes m (by omega)
  clear hm hks hts hl hgs
  go_enter Try.func40, Try.ntmps40
  go_upto_region 1 with fail
  obtain ⟨W, hW⟩ : ∃ W, W = (w1.alloc (.cells #[.int .i64 x.parent, .int .i64 x.kind, .string x.text, .slice ga x.gaps.length gc, .slice ka m kc] 46)).alloc (.cells #[.int .i64 0, .string ⟨#[]⟩, .slice none 0 0, .slice none 0 0] 25) := ⟨_, rfl⟩
  rw [← hW]
  obtain ⟨hb1, hb2, hlow, hz⟩ := two_after (w := w1) (w2 := W) (by rw [← hW]; exact Below.refl _ _)
  have hWs : W.heap.size = w1.heap.size + 1 + 1 := by rw [hW]; simp
  have c1 : W.cell? ⟨w1.heap.size, 1, none⟩ = some (.int .i64 x.kind) := by rw [cell_of_row _ _ _ _ _ _ hb1]; rfl
  have c2 : W.cell? ⟨w1.heap.size, 2, none⟩ = some (.string x.text) := by rw [cell_of_row _ _ _ _ _ _ hb1]; rfl
  have c3 : W.cell? ⟨w1.heap.size, 3, none⟩ = some (.slice ga x.gaps.length gc) := by rw [cell_of_row _ _ _ _ _ _ hb1]; rfl
  have c4 : W.cell? ⟨w1.heap.size, 4, none⟩ = some (.slice ka m kc) := by rw [cell_of_row _ _ _ _ _ _ hb1]; rfl
  have HB2 := Lib.hid hb2
  have HLow := Lib.hid hlow
  have HWs := Lib.hid hWs
  clear hW hb1 hb2 hlow hWs
  have pa := cell_past w1.heap.size
  have dr : ∀ (wx : World) (f : Nat), wx.drew.cell? ⟨w1.heap.size, f, none⟩ = wx.cell? ⟨w1.heap.size, f, none⟩ := fun _ _ => rfl
  have HPA := Lib.hid pa
  have HDR := Lib.hid dr
  clear pa dr
  go_cut [5] (fun s5 X => ∃ NB KB b2 : Nat, s5 = .pointer (some ⟨NB, 0, none⟩) ∧ TF w1 W X m KB NB b2 x)
  case first =>
    go_region_held3 (fun w' => ∀ f : Nat, w'.cell? ⟨w1.heap.size, f, none⟩ = W.cell? ⟨w1.heap.size, f, none⟩)
      ((intro f
        iterate 6 (first
          | (with_reducible exact rfl)
          | (with_reducible exact HQ.out f)
          | (with_reducible refine (HDR.out _ _).trans ?_)
          | (with_reducible refine (HPA.out _ _ _ ?_).trans ?_; focus (first | omega | (simp; done) | (simp; omega)))
          | (with_reducible refine (cell_set4 ?_).trans ?_; focus omega)
          | skip)))
      ((first
        | (go_at_call 48; refine (HT.out W.drew (Same.below HLow.out.drew fun b hb => hb)).mono ?_; rintro e w2 ⟨b2, rfl, hb, hst, hbel', hlt⟩;
           have hbel : Below W.heap.size W w2 := ((Below.refl W.heap.size W).drew).trans (hbel'.mono (by simp <;> omega));
           have HQ : Hid (∀ f : Nat, w2.cell? ⟨w1.heap.size, f, none⟩ = W.cell? ⟨w1.heap.size, f, none⟩) := Lib.hid (fun f => hbel.cell (p := ⟨w1.heap.size, f, none⟩) (by show w1.heap.size < _; omega));
           have hsz2 := hbel.size;
           have hbl2 : w1.heap.size < w2.heap.size := (by omega);
           
           have HBel := Lib.hid hbel;
           have HST := Lib.hid hst;
           have HBe : Hid (b2 = W.heap.size) := Lib.hid (by rw [hb]; first | rfl | (simp; done));
           have HBL := Lib.hid hbel';
           clear hbel hbel' hst hb)
        | (go_at_call 48; refine (HT.out (W.alloc (.cells (madeCells #[.int .i64 0, .string ⟨#[]⟩, .slice none 0 0, .slice none 0 0] (m * 4)) 25)).drew (Same.below (HLow.out.alloc (by omega) _).drew fun b hb => hb)).mono ?_; rintro e w2 ⟨b2, rfl, hb, hst, hbel', hlt⟩;
           have hbel : Below W.heap.size W w2 := (((Below.refl W.heap.size W).alloc (Nat.le_refl _) _).drew).trans (hbel'.mono (by simp <;> omega));
           have HQ : Hid (∀ f : Nat, w2.cell? ⟨w1.heap.size, f, none⟩ = W.cell? ⟨w1.heap.size, f, none⟩) := Lib.hid (fun f => hbel.cell (p := ⟨w1.heap.size, f, none⟩) (by show w1.heap.size < _; omega));
           have hsz2 := hbel.size;
           have hbl2 : w1.heap.size < w2.heap.size := (by omega);
           have hkb2 := (hbel'.block W.heap.size (by simp)).trans (heap_alloc_new W (.cells (madeCells #[.int .i64 0, .string ⟨#[]⟩, .slice none 0 0, .slice none 0 0] (m * 4)) 25));
           have HBel := Lib.hid hbel;
           have HST := Lib.hid hst;
           have HBe : Hid (b2 = W.heap.size + 1) := Lib.hid (by rw [hb]; first | rfl | (simp; done));
           have HBL := Lib.hid hbel';
           clear hbel hbel' hst hb)
        | (go_at_call 48; refine (HT.out (W.alloc (.cells #[.int .i64 0, .string ⟨#[]⟩, .slice none 0 0, .slice none 0 0] 25)).drew (Same.below (HLow.out.alloc (by omega) _).drew fun b hb => hb)).mono ?_; rintro e w2 ⟨b2, rfl, hb, hst, hbel', hlt⟩;
           have hbel : Below W.heap.size W w2 := (((Below.refl W.heap.size W).alloc (Nat.le_refl _) _).drew).trans (hbel'.mono (by simp <;> omega));
           have HQ : Hid (∀ f : Nat, w2.cell? ⟨w1.heap.size, f, none⟩ = W.cell? ⟨w1.heap.size, f, none⟩) := Lib.hid (fun f => hbel.cell (p := ⟨w1.heap.size, f, none⟩) (by show w1.heap.size < _; omega));
           have hsz2 := hbel.size;
           have hbl2 : w1.heap.size < w2.heap.size := (by omega);
           have hnb0 := (hbel'.block W.heap.size (by simp)).trans (heap_alloc_new W (.cells #[.int .i64 0, .string ⟨#[]⟩, .slice none 0 0, .slice none 0 0] 25)); obtain ⟨⟨p0, p1, p2, p3⟩, z0, z1, z2, z3⟩ := blk_cells hnb0; have pb := cell_past W.heap.size; have fb := frozen_past W.heap.size; have hnb2 : W.heap.size < w2.heap.size := lt_of_block hnb0;
           have HBel := Lib.hid hbel;
           have HST := Lib.hid hst;
           have HBe : Hid (b2 = W.heap.size + 1) := Lib.hid (by rw [hb]; first | rfl | (simp; done));
           have HBL := Lib.hid hbel';
           clear hbel hbel' hst hb)
        | (go_at_call 48; refine (HT.out ((W.alloc (.cells (madeCells #[.int .i64 0, .string ⟨#[]⟩, .slice none 0 0, .slice none 0 0] (m * 4)) 25)).alloc (.cells #[.int .i64 0, .string ⟨#[]⟩, .slice none 0 0, .slice none 0 0] 25)).drew (Same.below ((HLow.out.alloc (by omega) _).alloc (by simp; omega) _).drew fun b hb => hb)).mono ?_; rintro e w2 ⟨b2, rfl, hb, hst, hbel', hlt⟩;
           have hbel : Below W.heap.size W w2 := ((((Below.refl W.heap.size W).alloc (Nat.le_refl _) _).alloc (by simp) _).drew).trans (hbel'.mono (by simp <;> omega));
           have HQ : Hid (∀ f : Nat, w2.cell? ⟨w1.heap.size, f, none⟩ = W.cell? ⟨w1.heap.size, f, none⟩) := Lib.hid (fun f => hbel.cell (p := ⟨w1.heap.size, f, none⟩) (by show w1.heap.size < _; omega));
           have hsz2 := hbel.size;
           have hbl2 : w1.heap.size < w2.heap.size := (by omega);
           have hkb2 := (hbel'.block W.heap.size (by simp <;> omega)).trans ((Below.heap_alloc _ _ _ (by simp)).trans (heap_alloc_new W (.cells (madeCells #[.int .i64 0, .string ⟨#[]⟩, .slice none 0 0, .slice none 0 0] (m * 4)) 25))); have hnb0 := (hbel'.block (W.heap.size + 1) (by simp)).trans (heap_at2 W (.cells (madeCells #[.int .i64 0, .string ⟨#[]⟩, .slice none 0 0, .slice none 0 0] (m * 4)) 25) (.cells #[.int .i64 0, .string ⟨#[]⟩, .slice none 0 0, .slice none 0 0] 25)); obtain ⟨⟨p0, p1, p2, p3⟩, z0, z1, z2, z3⟩ := blk_cells hnb0; have pb := cell_past (W.heap.size + 1); have fb := frozen_past (W.heap.size + 1); have hnb2 : (W.heap.size + 1) < w2.heap.size := lt_of_block hnb0;
           have HBel := Lib.hid hbel;
           have HST := Lib.hid hst;
           have HBe : Hid (b2 = W.heap.size + 1 + 1) := Lib.hid (by rw [hb]; first | rfl | (simp; done));
           have HBL := Lib.hid hbel';
           clear hbel hbel' hst hb)
        | (go_at_call 48; refine (HT.out ((W.alloc (.cells #[.int .i64 0, .string ⟨#[]⟩, .slice none 0 0, .slice none 0 0] 25)).alloc (.cells (madeCells #[.int .i64 0, .string ⟨#[]⟩, .slice none 0 0, .slice none 0 0] (m * 4)) 25)).drew (Same.below ((HLow.out.alloc (by omega) _).alloc (by simp; omega) _).drew fun b hb => hb)).mono ?_; rintro e w2 ⟨b2, rfl, hb, hst, hbel', hlt⟩;
           have hbel : Below W.heap.size W w2 := ((((Below.refl W.heap.size W).alloc (Nat.le_refl _) _).alloc (by simp) _).drew).trans (hbel'.mono (by simp <;> omega));
           have HQ : Hid (∀ f : Nat, w2.cell? ⟨w1.heap.size, f, none⟩ = W.cell? ⟨w1.heap.size, f, none⟩) := Lib.hid (fun f => hbel.cell (p := ⟨w1.heap.size, f, none⟩) (by show w1.heap.size < _; omega));
           have hsz2 := hbel.size;
           have hbl2 : w1.heap.size < w2.heap.size := (by omega);
           have hnb0 := (hbel'.block W.heap.size (by simp <;> omega)).trans ((Below.heap_alloc _ _ _ (by simp)).trans (heap_alloc_new W (.cells #[.int .i64 0, .string ⟨#[]⟩, .slice none 0 0, .slice none 0 0] 25))); have hkb2 := (hbel'.block (W.heap.size + 1) (by simp)).trans (heap_at2 W (.cells #[.int .i64 0, .string ⟨#[]⟩, .slice none 0 0, .slice none 0 0] 25) (.cells (madeCells #[.int .i64 0, .string ⟨#[]⟩, .slice none 0 0, .slice none 0 0] (m * 4)) 25)); obtain ⟨⟨p0, p1, p2, p3⟩, z0, z1, z2, z3⟩ := blk_cells hnb0; have pb := cell_past W.heap.size; have fb := frozen_past W.heap.size; have hnb2 : W.heap.size < w2.heap.size := lt_of_block hnb0;
           have HBel := Lib.hid hbel;
           have HST := Lib.hid hst;
           have HBe : Hid (b2 = W.heap.size + 1 + 1) := Lib.hid (by rw [hb]; first | rfl | (simp; done));
           have HBL := Lib.hid hbel';
           clear hbel hbel' hst hb)))
    all_goals go_wp2_with fail
    all_goals go_meet
    all_goals (first
      | (with_reducible refine ⟨w2.heap.size + 1, w2.heap.size, b2, rfl, ?_⟩; with_reducible (change TF w1 W ((w2.alloc (.cells (madeCells #[.int .i64 0, .string ⟨#[]⟩, .slice none 0 0, .slice none 0 0] (m * 4)) 25)).alloc (.cells #[.int .i64 x.kind, .string x.text, .slice (some ⟨b2, 0, none⟩) x.gaps.length x.gaps.length, .slice (some ⟨w2.heap.size, 0, none⟩) m m] 25)) m (w2.heap.size) (w2.heap.size + 1) b2 x); exact tf_of HLow.out HWs.out HB2.out HBel.out HST.out (by have := HBe.out; omega) hlt rfl rfl rfl (by simp <;> omega) (fun y hy _ => (Below.heap_alloc _ _ _ (by simp <;> omega)).trans (Below.heap_alloc _ _ _ hy)) ((Below.heap_alloc _ _ _ (by simp)).trans (heap_alloc_new _ _)) (heap_at2 _ _ _) (by omega) (by omega) (by have := HBe.out; omega) (by have := HBe.out; omega) (by have := HBe.out; omega))
      | (with_reducible refine ⟨w2.heap.size, w2.heap.size + 1, b2, rfl, ?_⟩; with_reducible (change TF w1 W ((w2.alloc (.cells #[.int .i64 x.kind, .string x.text, .slice (some ⟨b2, 0, none⟩) x.gaps.length x.gaps.length, .slice (some ⟨w2.heap.size + 1, 0, none⟩) m m] 25)).alloc (.cells (madeCells #[.int .i64 0, .string ⟨#[]⟩, .slice none 0 0, .slice none 0 0] (m * 4)) 25)) m (w2.heap.size + 1) (w2.heap.size) b2 x); exact tf_of HLow.out HWs.out HB2.out HBel.out HST.out (by have := HBe.out; omega) hlt rfl rfl rfl (by simp <;> omega) (fun y hy _ => (Below.heap_alloc _ _ _ (by simp <;> omega)).trans (Below.heap_alloc _ _ _ hy)) (heap_at2 _ _ _) ((Below.heap_alloc _ _ _ (by simp)).trans (heap_alloc_new _ _)) (by omega) (by omega) (by have := HBe.out; omega) (by have := HBe.out; omega) (by have := HBe.out; omega))
      | (with_reducible refine ⟨w2.heap.size, W.heap.size, b2, rfl, ?_⟩; with_reducible (change TF w1 W (w2.alloc (.cells #[.int .i64 x.kind, .string x.text, .slice (some ⟨b2, 0, none⟩) x.gaps.length x.gaps.length, .slice (some ⟨W.heap.size, 0, none⟩) m m] 25)) m (W.heap.size) (w2.heap.size) b2 x); exact tf_of HLow.out HWs.out HB2.out HBel.out HST.out (by have := HBe.out; omega) hlt rfl rfl rfl (by simp) (fun y hy _ => Below.heap_alloc _ _ _ hy) ((Below.heap_alloc _ _ _ (lt_of_block hkb2)).trans hkb2) (heap_alloc_new _ _) (by omega) (by omega) (by have := HBe.out; omega) (by have := HBe.out; omega) (by have := HBe.out; omega))
      | (with_reducible refine ⟨W.heap.size + 1, W.heap.size, b2, rfl, ?_⟩; with_reducible (change TF w1 W ((((w2.setCell ⟨W.heap.size + 1, 0, none⟩ (.int .i64 x.kind)).setCell ⟨W.heap.size + 1, 1, none⟩ (.string x.text)).setCell ⟨W.heap.size + 1, 2, none⟩ (.slice (some ⟨b2, 0, none⟩) x.gaps.length x.gaps.length)).setCell ⟨W.heap.size + 1, 3, none⟩ (.slice (some ⟨W.heap.size, 0, none⟩) m m)) m (W.heap.size) (W.heap.size + 1) b2 x); exact tf_of HLow.out HWs.out HB2.out HBel.out HST.out (by have := HBe.out; omega) hlt rfl rfl rfl (by simp) (fun y hy hne => heap_set4 hne) ((heap_set4 (by omega)).trans hkb2) (set4_block hnb0) (by omega) (by omega) (by have := HBe.out; omega) (by have := HBe.out; omega) (by have := HBe.out; omega))
      | (with_reducible refine ⟨W.heap.size, w2.heap.size, b2, rfl, ?_⟩; with_reducible (change TF w1 W (((((w2.setCell ⟨W.heap.size, 0, none⟩ (.int .i64 x.kind)).setCell ⟨W.heap.size, 1, none⟩ (.string x.text)).setCell ⟨W.heap.size, 2, none⟩ (.slice (some ⟨b2, 0, none⟩) x.gaps.length x.gaps.length)).setCell ⟨W.heap.size, 3, none⟩ (.slice (some ⟨w2.heap.size, 0, none⟩) m m)).alloc (.cells (madeCells #[.int .i64 0, .string ⟨#[]⟩, .slice none 0 0, .slice none 0 0] (m * 4)) 25)) m (w2.heap.size) (W.heap.size) b2 x); exact tf_of HLow.out HWs.out HB2.out HBel.out HST.out (by have := HBe.out; omega) hlt rfl rfl rfl (by simp) (fun y hy hne => (Below.heap_alloc _ _ _ (by simp; exact hy)).trans (heap_set4 hne)) (by have := heap_alloc_new ((((w2.setCell ⟨W.heap.size, 0, none⟩ (.int .i64 x.kind)).setCell ⟨W.heap.size, 1, none⟩ (.string x.text)).setCell ⟨W.heap.size, 2, none⟩ (.slice (some ⟨b2, 0, none⟩) x.gaps.length x.gaps.length)).setCell ⟨W.heap.size, 3, none⟩ (.slice (some ⟨w2.heap.size, 0, none⟩) m m)) (.cells (madeCells #[.int .i64 0, .string ⟨#[]⟩, .slice none 0 0, .slice none 0 0] (m * 4)) 25); simpa using this) ((Below.heap_alloc _ _ _ (by simp; omega)).trans (set4_block hnb0)) (by omega) (by omega) (by have := HBe.out; omega) (by have := HBe.out; omega) (by have := HBe.out; omega))
      | (with_reducible refine ⟨W.heap.size, W.heap.size + 1, b2, rfl, ?_⟩; with_reducible (change TF w1 W ((((w2.setCell ⟨W.heap.size, 0, none⟩ (.int .i64 x.kind)).setCell ⟨W.heap.size, 1, none⟩ (.string x.text)).setCell ⟨W.heap.size, 2, none⟩ (.slice (some ⟨b2, 0, none⟩) x.gaps.length x.gaps.length)).setCell ⟨W.heap.size, 3, none⟩ (.slice (some ⟨W.heap.size + 1, 0, none⟩) m m)) m (W.heap.size + 1) (W.heap.size) b2 x); exact tf_of HLow.out HWs.out HB2.out HBel.out HST.out (by have := HBe.out; omega) hlt rfl rfl rfl (by simp) (fun y hy hne => heap_set4 hne) ((heap_set4 (by omega)).trans hkb2) (set4_block hnb0) (by omega) (by omega) (by have := HBe.out; omega) (by have := HBe.out; omega) (by have := HBe.out; omega)))
  case rest =>
    obtain ⟨NB, KB, b2, rfl, F⟩ := hcut
    clear hmk HPA HDR HT
    generalize wc = X at *
    have r4 := (F.row 4).trans c4
    have HF := Lib.hid F
    have hX := F.low.size
    have hord := F.ord
    clear F
    obtain ⟨ho1, ho2, ho3, ho4, ho5, ho6, ho7, ho8, ho9⟩ := hord
    go_wp2_with fail
    go_loopw [23] (fun i wr => ∃ (j : Nat) (RR : Nat → Sl), j ≤ m ∧ i = .int .i64 j ∧ Below w1.heap.size w1 wr ∧ wr.heap.size = X.heap.size ∧ (∀ y, y ≠ KB → wr.heap[y]? = X.heap[y]?) ∧ wr.there KB 0 (m * 4) ∧
      (∀ (q : Nat) u, q < j → ts[q]? = some u → AtT wr KB (q * 4) u (RR q) ∧ Tin P w1 u (RR q))) (fun i _ => m - (intOf i).toNat)
    case atStart => exact ⟨0, fun _ => ⟨none, 0, none, 0⟩, Nat.zero_le _, rfl, HF.out.low, rfl, fun _ _ => rfl, there_block HF.out.kb 0 _ (by simp [size_madeCells]), fun q u hq => by omega⟩
    case round =>
      obtain ⟨j, RR, hj, rfl, hbel, hsz, hoth, hth, hall⟩ := hrel
      have HB := Lib.hid hbel
      have HO := Lib.hid hoth
      have HTh := Lib.hid hth
      have HA := Lib.hid hall
      clear hoth hth hall
      by_cases hlt : j < m
      · have hkx : j < x.kids.length := by rw [← HM.out]; exact hlt
        have hgx := List.getElem?_eq_getElem hkx
        have hj0 : (0 : Int) ≤ (j : Int) := Int.natCast_nonneg _
        have hj1 : (j : Int) < (m : Int) := by omega
        obtain ⟨q, hq, hqn, htq, hatq, hTq⟩ := HTS.out j _ hgx
        rcases HKS.out.2 with h0 | ⟨kb, ko, rfl, hkb, hat2⟩
        · rw [h0] at hkx; simp at hkx
        have hc0 := hat2 j _ hgx
        rw [hq] at hc0
        have hkk : wr.cell? ⟨kb, ko + j, none⟩ = some (.int .i64 q) := (hbel.cell (p := ⟨kb, ko + j, none⟩) hkb).trans hc0
        obtain ⟨e0, e1, e2, e3⟩ := At4.keep (P := fun y => y = TB) hatq (fun y hy => hbel.block y (by omega)) rfl
        have n3 : wr.cell? ⟨NB, 3, none⟩ = some (.slice (some ⟨KB, 0, none⟩) m m) := (World.cell?_of_block (w := X) (a := ⟨NB, 3, none⟩) (HO.out NB (fun e => ho4 e.symm))).trans (blk_cells HF.out.nb).1.2.2.2
        have hth4 := there_sub HTh.out (o := j * 4) 4 (by omega)
        obtain ⟨u0, t0⟩ := Option.isSome_iff_exists.1 (hth4 0 (by decide)).1
        obtain ⟨u1, t1⟩ := Option.isSome_iff_exists.1 (hth4 1 (by decide)).1
        obtain ⟨u2, t2⟩ := Option.isSome_iff_exists.1 (hth4 2 (by decide)).1
        obtain ⟨u3, t3⟩ := Option.isSome_iff_exists.1 (hth4 3 (by decide)).1
        have f0 := (hth4 0 (by decide)).2
        have f1 := (hth4 1 (by decide)).2
        have f2 := (hth4 2 (by decide)).2
        have f3 := (hth4 3 (by decide)).2
        rw [Nat.add_zero] at t0 f0
        have HH4 := Lib.hid hth4
        have HTq := Lib.hid htq
        have HTT := Lib.hid hTq
        have hq0 : (0 : Int) ≤ (q : Int) := Int.natCast_nonneg _
        have hq1 : (q : Int) < (n : Int) := by omega
        generalize T q = u at *
        generalize R q = r1 at *
        obtain ⟨ga1, gc1, da1, dc1⟩ := r1
        clear hgx hq hatq hTq hat2 hc0 hth4 htq hbel
        have d0 : wr.drew.cell? ⟨TB, q * 4, none⟩ = some (.int .i64 u.kind) := e0
        have d1 : wr.drew.cell? ⟨TB, q * 4 + 1, none⟩ = some (.string u.text) := e1
        have d2 : wr.drew.cell? ⟨TB, q * 4 + 2, none⟩ = some (.slice ga1 u.gaps.length gc1) := e2
        have d3 : wr.drew.cell? ⟨TB, q * 4 + 3, none⟩ = some (.slice da1 u.kids.length dc1) := e3
        have d4 : wr.drew.cell? ⟨NB, 3, none⟩ = some (.slice (some ⟨KB, 0, none⟩) m m) := n3
        have HDX := Lib.hid (show ∀ (wx : World) (y f : Nat), wx.drew.cell? ⟨y, f, none⟩ = wx.cell? ⟨y, f, none⟩ from fun _ _ _ => rfl)
        go_wp2_with fail
        go_region_held3 (fun w' => w'.cell? ⟨NB, 3, none⟩ = some (.slice (some ⟨KB, 0, none⟩) m m) ∧ w'.cell? ⟨TB, q * 4, none⟩ = some (.int .i64 u.kind) ∧ w'.cell? ⟨TB, q * 4 + 1, none⟩ = some (.string u.text) ∧ w'.cell? ⟨TB, q * 4 + 2, none⟩ = some (.slice ga1 u.gaps.length gc1) ∧ w'.cell? ⟨TB, q * 4 + 3, none⟩ = some (.slice da1 u.kids.length dc1))
          (first
            | with_reducible exact ⟨d4, d0, d1, d2, d3⟩
            | (refine ⟨?_, ?_, ?_, ?_, ?_⟩ <;> (with_reducible refine (HDX.out _ _ _).trans ((cell_setj ?_).trans ?_)) <;> first | omega | assumption))
          (fail)
        go_wp2_with fail
        have hW : Wrote wr ((((wr.setCell ⟨KB, j * 4, none⟩ (.int .i64 u.kind)).setCell ⟨KB, j * 4 + 1, none⟩ (.string u.text)).setCell ⟨KB, j * 4 + 2, none⟩ (.slice ga1 u.gaps.length gc1)).setCell ⟨KB, j * 4 + 3, none⟩ (.slice da1 u.kids.length dc1)) KB (j * 4)
            [.int .i64 u.kind, .string u.text, .slice ga1 u.gaps.length gc1, .slice da1 u.kids.length dc1] := wrote_mk wr KB (j * 4) [.int .i64 u.kind, .string u.text, .slice ga1 u.gaps.length gc1, .slice da1 u.kids.length dc1] HH4.out
        generalize ((((wr.setCell ⟨KB, j * 4, none⟩ (.int .i64 u.kind)).setCell ⟨KB, j * 4 + 1, none⟩ (.string u.text)).setCell ⟨KB, j * 4 + 2, none⟩ (.slice ga1 u.gaps.length gc1)).setCell ⟨KB, j * 4 + 3, none⟩ (.slice da1 u.kids.length dc1)) = Y at hW ⊢
        refine ⟨⟨j + 1, fun q => if q = j then ⟨ga1, gc1, da1, dc1⟩ else RR q, by omega, by go_num, (hW.below HB.out (by omega)).drew, hW.size.trans hsz, fun y hy => (hW.other y hy).trans (HO.out y hy), (World.there_drew _ _ _ _).2 (hW.there _ _ HTh.out), fun q' u' hq' hu' => ?_⟩, by simp [intOf]; omega⟩
        by_cases hqj : q' = j
        · subst hqj
          obtain rfl : u = u' := Option.some.inj (HTq.out.symm.trans hu')
          simp only [if_pos]
          exact ⟨at4_of_range ((World.rangeAt_drew _ _ _ _).2 hW.here), HTT.out⟩
        · simp only [if_neg hqj]
          obtain ⟨h1, h2⟩ := HA.out q' u' (by omega) hu'
          exact ⟨at4_of_range ((World.rangeAt_drew _ _ _ _).2 (hW.apart _ _ (by simp; omega) (At4.range h1))), h2⟩
      · have hjm : j = m := by omega
        subst hjm
        have hnb := (HO.out NB (fun e => ho4 e.symm)).trans HF.out.nb
        have hre := (HO.out (w1.heap.size + 1) (by omega)).trans HF.out.res
        obtain ⟨n0, n1, n2, n3⟩ := (blk_cells hnb).1
        obtain ⟨⟨p0, p1, p2, p3⟩, z0, z1, z2, z3⟩ := blk_cells hre
        clear hnb hre
        have HBR := Lib.hid hbel
        clear hbel
        go_wp2_with fail
        refine bodyPost_ret (v := .agg #[.int .i64 x.kind, .string x.text, .slice (some ⟨b2, 0, none⟩) x.gaps.length x.gaps.length, .slice (some ⟨KB, 0, none⟩) j j]) (by simp [results, Try.results40, go_sem, p0, p1, p2, p3]) rfl ?_
        have hset : ∀ y, y ≠ w1.heap.size + 1 → ((((wr.setCell ⟨w1.heap.size + 1, 0, none⟩ (.int .i64 x.kind)).setCell ⟨w1.heap.size + 1, 1, none⟩ (.string x.text)).setCell ⟨w1.heap.size + 1, 2, none⟩ (.slice (some ⟨b2, 0, none⟩) x.gaps.length x.gaps.length)).setCell ⟨w1.heap.size + 1, 3, none⟩ (.slice (some ⟨KB, 0, none⟩) j j)).heap[y]? = wr.heap[y]? := fun y hy => heap_set4 hy
        refine ⟨⟨some ⟨b2, 0, none⟩, x.gaps.length, some ⟨KB, 0, none⟩, j⟩, ?_, .mk _ _ RR htl ?_ ?_ (.inr ⟨KB, 0, rfl, .inr ⟨by omega, by simp; omega⟩, fun q u hu => ?_⟩) (fun q u hu => ?_), below_set4 HBR.out (by omega)⟩
        · rw [kids_node, gaps_node, text_node, kind_node, HLen.out, ← HM.out]
        · exact (HF.out.st.keep (Q := fun y => y = b2) (fun y hy => (hset y (by omega)).trans (HO.out y (by omega))) (fun _ h => h)).keep (Same.refl _ _) (fun y hy => .inr ⟨by omega, by simp; omega⟩)
        · rw [kids_node, HLen.out, ← HM.out]; unfold maxLen; omega
        · rw [kids_node] at hu
          have hq : q < j := by have := (List.getElem?_eq_some_iff.1 hu).1; rw [HLen.out, ← HM.out] at this; exact this
          rw [Nat.zero_add]
          exact At4.keep (P := fun y => y = KB) (HA.out q u hq hu).1 (fun y hy => hset y (by omega)) rfl
        · rw [kids_node] at hu
          have hq : q < j := by have := (List.getElem?_eq_some_iff.1 hu).1; rw [HLen.out, ← HM.out] at this; exact this
          refine (HA.out q u hq hu).2.keep (fun y hy => ?_) (fun y hy => .inl hy)
          have hy1 := hP y hy
          exact (hset y (by omega)).trans (HBR.out.block y hy1)
end Go.Proofs.Ytidmbdilediplaa
