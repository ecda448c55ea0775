/- The walk of the laws' awake. -/
import Derived.Test.YtmfmlkdojgbhfaaDoorWalkMake
import Derived.Test.YtmfmlkdojgbhfaaDoorWalkRCheck
import Derived.Test.YtmfmlkdojgbhfaaDoorPlainLaws
import Derived.Deep.DeepCutAuto
import Derived.Deep.RegionWith
import Derived.Deep.RegionHeld3
namespace Go.Proofs.YtmfmlkdojgbhfaaDoor
open Go.RowKit
set_option linter.unusedVariables false
set_option linter.unusedSimpArgs false

theorem after_call {wp wn : World} {o : Obj} (hb : Below (wp.alloc o).heap.size (wp.alloc o) wn) : wp.heap.size < wn.heap.size ∧ Below wp.heap.size wp wn := by
  have hs := hb.size
  simp at hs
  exact ⟨by omega, ((Below.refl wp.heap.size wp).alloc (Nat.le_refl _) o).trans (hb.mono (by simp))⟩
theorem num_at (s : ByteArray) (w : World) (hs : s.size ≤ maxLen) : IsT w (.node 17 s [] []) ⟨none, 0, none, 0⟩ := isT_leaf w 17 s hs
theorem cell_past (b : Nat) : ∀ (wx : World) (ob : Obj) (f : Nat), b < wx.heap.size → (wx.alloc ob).cell? ⟨b, f, none⟩ = wx.cell? ⟨b, f, none⟩ :=
  fun wx ob f h => World.cell?_of_block (w := wx) (a := ⟨b, f, none⟩) (Below.heap_alloc _ _ _ h)
theorem frozen_past (b : Nat) : ∀ (wx : World) (ob : Obj) (f : Nat), b < wx.heap.size → (wx.alloc ob).frozen? ⟨b, f, none⟩ = wx.frozen? ⟨b, f, none⟩ :=
  fun wx ob f h => World.frozen?_of_block (w := wx) (a := ⟨b, f, none⟩) (Below.heap_alloc _ _ _ h)
theorem blk_cells {w : World} {b : Nat} {v0 v1 v2 v3 : Value} {T : TypeId} (h : w.heap[b]? = some (.cells #[v0, v1, v2, v3] T (0, 0))) :
    (w.cell? ⟨b, 0, none⟩ = some v0 ∧ w.cell? ⟨b, 1, none⟩ = some v1 ∧ w.cell? ⟨b, 2, none⟩ = some v2 ∧ w.cell? ⟨b, 3, none⟩ = some v3) ∧
    (w.frozen? ⟨b, 0, none⟩ = false ∧ w.frozen? ⟨b, 1, none⟩ = false ∧ w.frozen? ⟨b, 2, none⟩ = false ∧ w.frozen? ⟨b, 3, none⟩ = false) := by
  refine ⟨⟨?_, ?_, ?_, ?_⟩, ?_, ?_, ?_, ?_⟩
  · rw [cell_of_row _ _ _ _ _ _ h]; rfl
  · rw [cell_of_row _ _ _ _ _ _ h]; rfl
  · rw [cell_of_row _ _ _ _ _ _ h]; rfl
  · rw [cell_of_row _ _ _ _ _ _ h]; rfl
  all_goals simp [World.frozen?, h]
theorem below_set4 {B b : Nat} {w w2 : World} {v0 v1 v2 v3 : Value} (h : Below B w w2) (hb : B ≤ b) : Below B w ((((w2.setCell ⟨b, 0, none⟩ v0).setCell ⟨b, 1, none⟩ v1).setCell ⟨b, 2, none⟩ v2).setCell ⟨b, 3, none⟩ v3) :=
  (((h.setCell (p := ⟨b, 0, none⟩) hb _).setCell (p := ⟨b, 1, none⟩) hb _).setCell (p := ⟨b, 2, none⟩) hb _).setCell (p := ⟨b, 3, none⟩) hb _
theorem heap_set4 {b x : Nat} {w2 : World} {v0 v1 v2 v3 : Value} (hb : x ≠ b) : ((((w2.setCell ⟨b, 0, none⟩ v0).setCell ⟨b, 1, none⟩ v1).setCell ⟨b, 2, none⟩ v2).setCell ⟨b, 3, none⟩ v3).heap[x]? = w2.heap[x]? :=
  (Below.heap_setCell _ ⟨b, 3, none⟩ _ x hb).trans ((Below.heap_setCell _ ⟨b, 2, none⟩ _ x hb).trans ((Below.heap_setCell _ ⟨b, 1, none⟩ _ x hb).trans (Below.heap_setCell _ ⟨b, 0, none⟩ _ x hb)))
theorem cell_set4 {b x f : Nat} {w2 : World} {v0 v1 v2 v3 : Value} (hb : x ≠ b) : ((((w2.setCell ⟨b, 0, none⟩ v0).setCell ⟨b, 1, none⟩ v1).setCell ⟨b, 2, none⟩ v2).setCell ⟨b, 3, none⟩ v3).cell? ⟨x, f, none⟩ = w2.cell? ⟨x, f, none⟩ :=
  World.cell?_of_block (w := w2) (a := ⟨x, f, none⟩) (heap_set4 hb)
theorem set4_block {b : Nat} {w2 : World} {u0 u1 u2 u3 v0 v1 v2 v3 : Value} {T : TypeId} (h : w2.heap[b]? = some (.cells #[u0, u1, u2, u3] T (0, 0))) :
    ((((w2.setCell ⟨b, 0, none⟩ v0).setCell ⟨b, 1, none⟩ v1).setCell ⟨b, 2, none⟩ v2).setCell ⟨b, 3, none⟩ v3).heap[b]? = some (.cells #[v0, v1, v2, v3] T (0, 0)) := by
  simp [World.setCell, Array.getElem?_modify, h]
/-- The slices of a node without gaps. -/
abbrev sl2 (g : Nat) : Sl := ⟨none, 0, some ⟨g, 0, none⟩, 2⟩
/-- What is known of the first two boxes. -/
structure Pk (w : World) (b1 b2 g1 g3 : Nat) (V : World) : Prop where
  low : Below w.heap.size w V
  a : At4 V b1 0 24 ⟨#[43]⟩ (.slice none 0 0) (.slice (some ⟨g1, 0, none⟩) 2 2)
  b : At4 V b2 0 24 ⟨#[42]⟩ (.slice none 0 0) (.slice (some ⟨g3, 0, none⟩) 2 2)
  s : IsT V Pl.summ (sl2 g1)
  g : IsT V Pl.good (sl2 g3)
theorem Pk.later {w V V' : World} {b1 b2 g1 g3 : Nat} (h : Pk w b1 b2 g1 g3 V) (hb : Below V.heap.size V V') : Pk w b1 b2 g1 g3 V' :=
  ⟨h.low.trans (hb.mono h.low.size), at4_below h.a hb, at4_below h.b hb, h.s.later hb, h.g.later hb⟩
/-- And of the third one. -/
structure Pk3 (w : World) (b1 b2 b3 g1 g3 g4 : Nat) (V : World) : Prop where
  pk : Pk w b1 b2 g1 g3 V
  c : At4 V b3 0 24 ⟨#[42]⟩ (.slice none 0 0) (.slice (some ⟨g4, 0, none⟩) 2 2)
  d : IsT V Pl.bad (sl2 g4)
theorem Pk3.later {w V V' : World} {b1 b2 b3 g1 g3 g4 : Nat} (h : Pk3 w b1 b2 b3 g1 g3 g4 V) (hb : Below V.heap.size V V') : Pk3 w b1 b2 b3 g1 g3 g4 V' :=
  ⟨h.pk.later hb, at4_below h.c hb, h.d.later hb⟩
theorem pk3_box {w W w8 : World} {b1 b2 g1 g3 g4 N M : Nat} (h : Pk w b1 b2 g1 g3 W) (hb : Below W.heap.size W w8) (hN : N ≤ W.heap.size)
    (hd : Tin (fun x => x < N ∨ M ≤ x ∧ x < w8.heap.size) w8 Pl.bad (sl2 g4)) :
    Pk3 w b1 b2 w8.heap.size g1 g3 g4 (w8.alloc (.cells #[.int .i64 24, .string ⟨#[42]⟩, .slice none 0 0, .slice (some ⟨g4, 0, none⟩) 2 2] 25)) := by
  have hz := hb.size
  refine ⟨(h.later hb).later (box_below _ _), at4_new w8 24 ⟨#[42]⟩ _ _, (hd.isT fun x hx => ?_).later (box_below _ _)⟩
  rcases hx with hx | hx
  · omega
  · exact hx.2
theorem pk3_set {w W w8 : World} {b1 b2 g1 g3 g4 NB N M : Nat} {T : TypeId} {u0 u1 u2 u3 : Value} (h : Pk w b1 b2 g1 g3 W) (hb : Below W.heap.size W w8) (hN : N ≤ W.heap.size) (hB : W.heap.size ≤ NB) (hM : NB < M) (hM2 : M ≤ w8.heap.size)
    (hd : Tin (fun x => x < N ∨ M ≤ x ∧ x < w8.heap.size) w8 Pl.bad (sl2 g4)) (hn : w8.heap[NB]? = some (.cells #[u0, u1, u2, u3] T (0, 0))) :
    Pk3 w b1 b2 NB g1 g3 g4 ((((w8.setCell ⟨NB, 0, none⟩ (.int .i64 24)).setCell ⟨NB, 1, none⟩ (.string ⟨#[42]⟩)).setCell ⟨NB, 2, none⟩ (.slice none 0 0)).setCell ⟨NB, 3, none⟩ (.slice (some ⟨g4, 0, none⟩) 2 2)) := by
  have hz := hb.size
  refine ⟨h.later (below_set4 hb hB), ?_, (hd.keep (Q := fun x => x ≠ NB ∧ x < w8.heap.size) (fun x hx => heap_set4 (by omega)) (fun x hx => by omega)).isT fun x hx => by simp; exact hx.2⟩
  have e := set4_block (v0 := .int .i64 24) (v1 := .string ⟨#[42]⟩) (v2 := .slice none 0 0) (v3 := .slice (some ⟨g4, 0, none⟩) 2 2) hn
  exact at4_row e rfl rfl rfl rfl
theorem call_box {X Y : World} {o : Obj} {k : Int} {s : ByteArray} {gv kv : Value} (h : (X.alloc o).alloc (.cells #[.int .i64 k, .string s, gv, kv] 25) = Y) : Below X.heap.size X Y ∧ At4 Y (X.heap.size + 1) 0 k s gv kv := by
  subst h
  have e : (X.alloc o).heap.size = X.heap.size + 1 := by simp
  refine ⟨(box_below X o).alloc (by simp) _, ?_⟩
  have := at4_new (X.alloc o) k s gv kv
  rwa [e] at this
set_option maxHeartbeats 3200000 in
set_option maxRecDepth 100000 in
theorem awake_any (w : World) (hT : Tabs w) : Calls Tryd.prog 12 #[] w fun e w' => e = .returned (.bool true) ∧ Below w.heap.size w w' := by
  have HT := Lib.hid hT
  clear hT
  go_enter Tryd.func12, Tryd.ntmps12
  go_upto_region 3 with (first
    | (go_at_call 26; (with_reducible refine (number_any ⟨#[49]⟩ _).mono ?_); rintro e w1 ⟨rfl, hb1⟩; have B1 := Lib.hid hb1; clear hb1)
    | (go_at_call 26; (with_reducible refine (number_any ⟨#[50]⟩ _).mono ?_); rintro e w2 ⟨rfl, hb2⟩; have B2 := Lib.hid (B1.out.trans (hb2.mono B1.out.size)); clear hb2)
    | (go_at_call 26; (with_reducible refine (number_any ⟨#[51]⟩ _).mono ?_); rintro e w5 ⟨rfl, hb5⟩; have T5 := Lib.hid (T4.out.later hb5); have B5 := Lib.hid (B4.out.trans (hb5.mono B4.out.size)); have X5 := Lib.hid (at4_below X4.out hb5); have S5 := Lib.hid (S4.out.later hb5); clear hb5)
    | (go_at_call 25; have g9 := T5.out; clear g9; refine (binary_any ⟨#[42]⟩ (Pl.par Pl.summ) Pl.n3 ⟨none, 0, some ⟨g2, 0, none⟩, 1⟩ ⟨none, 0, none, 0⟩ _ T5.out (num_at ⟨#[51]⟩ _ (by decide)) (by decide)).mono ?_; rintro e w6 ⟨g3, rfl, hb6, T6⟩; have B6 := Lib.hid (B5.out.trans (hb6.mono B5.out.size)); have X6 := Lib.hid (at4_below X5.out hb6); have S6 := Lib.hid (S5.out.later hb6); clear hb6)
    | (go_at_call 24; refine (paren_any Pl.summ ⟨none, 0, some ⟨g1, 0, none⟩, 2⟩ _ (T3.out.later (box_below _ _))).mono ?_; rintro e w4 ⟨g2, rfl, hb4, T4⟩; have B4 := Lib.hid (B3.out.trans ((after_call hb4).2.mono B3.out.size)); have S4 := Lib.hid ((T3.out.later (box_below _ _)).later hb4); have X4 := Lib.hid (at4_below X3.out hb4); clear hb4)
    | (go_at_call 25; refine (binary_any ⟨#[43]⟩ Pl.n1 Pl.n2 ⟨none, 0, none, 0⟩ ⟨none, 0, none, 0⟩ _ (num_at ⟨#[49]⟩ _ (by decide)) (num_at ⟨#[50]⟩ _ (by decide)) (by decide)).mono ?_; rintro e w3 ⟨g1, rfl, hb3, T3⟩; have B3 := Lib.hid (B2.out.trans (hb3.mono B2.out.size)); have X3 := Lib.hid (at4_new w3 24 ⟨#[43]⟩ (.slice none 0 0) (.slice (some ⟨g1, 0, none⟩) 2 2)); clear hb3))
  have HPW : Hid (Pk w w3.heap.size w6.heap.size g1 g3 (w6.alloc (.cells #[.int .i64 24, .string ⟨#[42]⟩, .slice none 0 0, .slice (some ⟨g3, 0, none⟩) 2 2] 25))) :=
    Lib.hid ⟨B6.out.trans ((box_below _ _).mono B6.out.size), at4_below X6.out (box_below _ _), at4_new w6 24 ⟨#[42]⟩ _ _, S6.out.later (box_below _ _), T6.out.later (box_below _ _)⟩
  obtain ⟨W, hW⟩ : ∃ W, W = w6.alloc (.cells #[.int .i64 24, .string ⟨#[42]⟩, .slice none 0 0, .slice (some ⟨g3, 0, none⟩) 2 2] 25) := ⟨_, rfl⟩
  rw [← hW] at HPW ⊢
  generalize w3.heap.size = b1 at *
  generalize w6.heap.size = b2 at *
  clear X3 X4 X5 X6 S4 S5 S6 T3 T4 T5 T6 B1 B2 B3 B4 B5 B6 hW
  obtain ⟨c0, c1, c2, c3⟩ := HPW.out.a
  have hb1W : b1 < W.heap.size := HPW.out.a.lt
  have HDR : Hid (∀ (wx : World) (f : Nat), wx.drew.cell? ⟨b1, f, none⟩ = wx.cell? ⟨b1, f, none⟩) := Lib.hid fun _ _ => rfl
  have HPA := Lib.hid (cell_past b1)
  go_cut [3] (fun s3 X => ∃ NB g4 : Nat, s3 = .pointer (some ⟨NB, 0, none⟩) ∧ Pk3 w b1 b2 NB g1 g3 g4 X)
  case first =>
    go_region_held3 (fun w' => ∀ f : Nat, w'.cell? ⟨b1, f, none⟩ = W.cell? ⟨b1, f, none⟩)
      ((intro f
        iterate 6 (first
          | (with_reducible exact rfl)
          | (with_reducible exact HQ.out f)
          | (with_reducible refine (HDR.out _ _).trans ?_)
          | (with_reducible refine (HPA.out _ _ _ ?_).trans ?_; focus (first | omega | (simp; done) | (simp; omega)))
          | (with_reducible refine (cell_set4 ?_).trans ?_; focus omega)
          | skip)))
      ((first
        | (go_at_call 26; refine (number_any ⟨#[51]⟩ W.drew).mono ?_; rintro e w7 ⟨rfl, hb7⟩;
           have hL7 : Below W.heap.size W w7 := ((Below.refl W.heap.size W).drew).trans hb7;
           have HQ : Hid (∀ f : Nat, w7.cell? ⟨b1, f, none⟩ = W.cell? ⟨b1, f, none⟩) := Lib.hid (fun f => hL7.cell (p := ⟨b1, f, none⟩) hb1W);
           have hs7 := hL7.size; have L7 := Lib.hid hL7; have HNO : Hid True := Lib.hid trivial; clear hb7 hL7)
        | (go_at_call 26; refine (number_any ⟨#[51]⟩ (W.alloc (.cells #[.int .i64 0, .string ⟨#[]⟩, .slice none 0 0, .slice none 0 0] 25)).drew).mono ?_; rintro e w7 ⟨rfl, hb7⟩;
           have hL7 : Below W.heap.size W w7 := (box_below W (.cells #[.int .i64 0, .string ⟨#[]⟩, .slice none 0 0, .slice none 0 0] 25)).drew.trans (hb7.mono (by simp));
           have HQ : Hid (∀ f : Nat, w7.cell? ⟨b1, f, none⟩ = W.cell? ⟨b1, f, none⟩) := Lib.hid (fun f => hL7.cell (p := ⟨b1, f, none⟩) hb1W);
           have hnb7 := (hb7.block W.heap.size (by simp)).trans (heap_alloc_new W (.cells #[.int .i64 0, .string ⟨#[]⟩, .slice none 0 0, .slice none 0 0] 25));
           have NB7 := Lib.hid hnb7; have hs7 : W.heap.size < w7.heap.size := (by have := hb7.size; simp at this; omega); have L7 := Lib.hid hL7; clear hb7 hL7 hnb7)
        | (go_at_call 25; have g9 := NB7.out; clear g9; refine (binary_in (P := fun x => x < W.heap.size) ⟨#[42]⟩ Pl.summ Pl.n3 (sl2 g1) ⟨none, 0, none, 0⟩ w7 (HPW.out.s.keep (Same.below L7.out fun _ h => h) fun _ h => h) (tin_leaf _ w7 17 ⟨#[51]⟩ (by decide)) (fun x hx => by omega) (by decide)).mono ?_; rintro e w8 ⟨g4, rfl, hb8, BD⟩;
           have hL8 := L7.out.trans (hb8.mono (by omega));
           have HQ8 := HQ; clear HQ; have HQ : Hid (∀ f : Nat, w8.cell? ⟨b1, f, none⟩ = W.cell? ⟨b1, f, none⟩) := Lib.hid (fun f => hL8.cell (p := ⟨b1, f, none⟩) hb1W);
           have hnb8 := (hb8.block W.heap.size hs7).trans NB7.out; obtain ⟨⟨p0, p1, p2, p3⟩, z0, z1, z2, z3⟩ := blk_cells hnb8; have NB8 := Lib.hid hnb8; have hs8 := hb8.size; have L8 := Lib.hid hL8; clear hb8 hL8 hnb8)
        | (go_at_call 25; have g9 := HNO.out; clear g9; refine (binary_in (P := fun x => x < W.heap.size) ⟨#[42]⟩ Pl.summ Pl.n3 (sl2 g1) ⟨none, 0, none, 0⟩ w7 (HPW.out.s.keep (Same.below L7.out fun _ h => h) fun _ h => h) (tin_leaf _ w7 17 ⟨#[51]⟩ (by decide)) (fun x hx => by omega) (by decide)).mono ?_; rintro e w8 ⟨g4, rfl, hb8, BD⟩;
           have hL8 := L7.out.trans (hb8.mono (by omega));
           have HQ8 := HQ; clear HQ; have HQ : Hid (∀ f : Nat, w8.cell? ⟨b1, f, none⟩ = W.cell? ⟨b1, f, none⟩) := Lib.hid (fun f => hL8.cell (p := ⟨b1, f, none⟩) hb1W);
           have hs8 := hb8.size; have L8 := Lib.hid hL8; clear hb8 hL8)
        | (go_at_call 25; refine (binary_in (P := fun x => x < W.heap.size) ⟨#[42]⟩ Pl.summ Pl.n3 (sl2 g1) ⟨none, 0, none, 0⟩ (w7.alloc (.cells #[.int .i64 0, .string ⟨#[]⟩, .slice none 0 0, .slice none 0 0] 25)) (HPW.out.s.keep (Same.below (L7.out.trans ((box_below _ _).mono hs7)) fun _ h => h) fun _ h => h) (tin_leaf _ _ 17 ⟨#[51]⟩ (by decide)) (fun x hx => by simp; omega) (by decide)).mono ?_; rintro e w8 ⟨g4, rfl, hb8, BD⟩;
           have hL8 := L7.out.trans ((after_call hb8).2.mono hs7);
           have HQ8 := HQ; clear HQ; have HQ : Hid (∀ f : Nat, w8.cell? ⟨b1, f, none⟩ = W.cell? ⟨b1, f, none⟩) := Lib.hid (fun f => hL8.cell (p := ⟨b1, f, none⟩) hb1W);
           have hnb8 := (hb8.block w7.heap.size (by simp)).trans (heap_alloc_new w7 (.cells #[.int .i64 0, .string ⟨#[]⟩, .slice none 0 0, .slice none 0 0] 25)); obtain ⟨⟨p0, p1, p2, p3⟩, z0, z1, z2, z3⟩ := blk_cells hnb8; have NB8 := Lib.hid hnb8; have hs8 := hb8.size; have L8 := Lib.hid hL8; clear hb8 hL8 hnb8)))
    all_goals go_wp2_with fail
    all_goals go_meet
    all_goals first
      | exact ⟨w8.heap.size, g4, rfl, pk3_box HPW.out L8.out (Nat.le_refl _) BD.out⟩
      | exact ⟨W.heap.size, g4, rfl, pk3_set HPW.out L8.out (Nat.le_refl _) (Nat.le_refl _) hs7 hs8 BD.out NB8.out⟩
      | exact ⟨w7.heap.size, g4, rfl, pk3_set HPW.out L8.out (Nat.le_refl _) hs7 (by simp) hs8 BD.out NB8.out⟩
  case rest =>
    obtain ⟨NB, g4, rfl, hpk⟩ := hcut
    generalize wc = X at *
    obtain ⟨e0, e1, e2, e3⟩ := hpk.pk.a
    have HPX := Lib.hid hpk
    clear hpk c0 c1 c2 c3 hb1W HDR HPA HPW
    go_upto_region 5 with fail
    generalize hY : (World.alloc _ _) = Y
    obtain ⟨hbY, hcY⟩ := call_box hY
    have HPY := HPX.out.later hbY
    have HTY := (HT.out.later HPX.out.pk.low).later hbY
    have GB : Hid (∀ wz, Hid (Below Y.heap.size Y wz) → At4 wz NB 0 24 ⟨#[42]⟩ (.slice none 0 0) (.slice (some ⟨g4, 0, none⟩) 2 2)) := Lib.hid fun wz hz => at4_below HPY.c hz.out
    have GC : Hid (∀ wz, Hid (Below Y.heap.size Y wz) → At4 wz (X.heap.size + 1) 0 20 ⟨#[102]⟩ (.slice none 0 0) (.slice (some ⟨X.heap.size, 0, none⟩) 3 3)) := Lib.hid fun wz hz => at4_below hcY hz.out
    have GS : Hid (∀ wz, Hid (Below Y.heap.size Y wz) → At4 wz b1 0 24 ⟨#[43]⟩ (.slice none 0 0) (.slice (some ⟨g1, 0, none⟩) 2 2)) := Lib.hid fun wz hz => at4_below HPY.pk.a hz.out
    obtain ⟨e0, e1, e2, e3⟩ := HPY.pk.b
    have CG : Hid (Ans Y 10 #[.agg #[.int .i64 24, .string ⟨#[42]⟩, .slice none 0 0, .slice (some ⟨g3, 0, none⟩) 2 2]] (.int .i64 0)) := Lib.hid (ans_of fun wz hz => check_is Pl.good wz (sl2 g3) 0 Pl.good_chk (HTY.later hz) (HPY.pk.g.later hz))
    have CB : Hid (Ans Y 10 #[.agg #[.int .i64 24, .string ⟨#[42]⟩, .slice none 0 0, .slice (some ⟨g4, 0, none⟩) 2 2]] (.int .i64 7)) := Lib.hid (ans_of fun wz hz => check_is Pl.bad wz (sl2 g4) 7 Pl.bad_chk (HTY.later hz) (HPY.d.later hz))
    have C7 : Hid (Ans Y 10 #[.agg #[.int .i64 17, .string ⟨#[48, 48, 55]⟩, .slice none 0 0, .slice none 0 0]] (.int .i64 4)) := Lib.hid (ans_of fun wz hz => check_is Pl.seven wz ⟨none, 0, none, 0⟩ 4 Pl.seven_chk (HTY.later hz) (isT_leaf wz 17 ⟨#[48, 48, 55]⟩ (by decide)))
    have CN : Hid (Ans Y 26 #[.string ⟨#[48, 48, 55]⟩] (.agg #[.int .i64 17, .string ⟨#[48, 48, 55]⟩, .slice none 0 0, .slice none 0 0])) := Lib.hid (ans_of fun wz hz => number_any _ wz)
    have CO : Hid (Ans Y 13 #[.agg #[.int .i64 20, .string ⟨#[102]⟩, .slice none 0 0, .slice (some ⟨X.heap.size, 0, none⟩) 3 3]] (.int .i64 5)) := Lib.hid (ans_of fun wz hz => own_is 20 ⟨#[102]⟩ 5 0 3 0 3 none _ wz (by rw [own_lit_20]; unfold wrap64; decide) (HTY.later hz) (by decide))
    have CL : Hid (Ans Y 15 #[.agg #[.int .i64 24, .string ⟨#[43]⟩, .slice none 0 0, .slice (some ⟨g1, 0, none⟩) 2 2]] (.int .i64 4)) := Lib.hid (ans_of fun wz hz => level_is 24 ⟨#[43]⟩ 4 rfl 0 2 0 2 none _ wz (HTY.later hz))
    have CR : Hid (Ans Y 21 #[.int .i64 13] (.int .i64 2)) := Lib.hid (ans_of fun wz hz => (group_is 13 2 rfl wz (HTY.later hz)).mono fun e w' ⟨he, hw⟩ => ⟨he, hw ▸ Below.refl _ _⟩)
    have CF : Hid (Ans Y 19 #[.int .i64 7] (.bool true)) := Lib.hid (ans_of fun wz hz => (free_any 7 wz).mono fun e w' ⟨he, hw⟩ => ⟨he, hw ▸ Below.refl _ _⟩)
    have CP : Hid (Ans Y 17 #[.int .i64 7, .int .i64 3, .int .i64 2] (.bool true)) := Lib.hid (ans_of fun wz hz => (fits_is 7 3 2 true (by decide) wz (HTY.later hz)).mono fun e w' ⟨he, hw⟩ => ⟨he, hw ▸ Below.refl _ _⟩)
    have CQ : Hid (Ans Y 17 #[.int .i64 7, .int .i64 0, .int .i64 2] (.bool false)) := Lib.hid (ans_of fun wz hz => (fits_is 7 0 2 false (by decide) wz (HTY.later hz)).mono fun e w' ⟨he, hw⟩ => ⟨he, hw ▸ Below.refl _ _⟩)
    have BY : Hid (Below w.heap.size w Y) := Lib.hid HPY.pk.low
    have Y0 : Hid (Below Y.heap.size Y Y) := Lib.hid (Below.refl _ _)
    clear HPY HTY hbY hcY hY
    go_wp2_with (first
      | (go_at_call 10; (with_reducible refine (CG.out _ (by assumption)).mono ?_); rintro e wa ⟨rfl, ha⟩; obtain ⟨f0, f1, f2, f3⟩ := GB.out _ ha)
      | (go_at_call 10; (with_reducible refine (CB.out _ (by assumption)).mono ?_); rintro e wb ⟨rfl, hb⟩)
      | (go_at_call 26; (with_reducible refine (CN.out _ (by assumption)).mono ?_); rintro e wc ⟨rfl, hc⟩)
      | (go_at_call 10; (with_reducible refine (C7.out _ (by assumption)).mono ?_); rintro e wd ⟨rfl, hd⟩; obtain ⟨f0, f1, f2, f3⟩ := GC.out _ hd)
      | (go_at_call 13; (with_reducible refine (CO.out _ (by assumption)).mono ?_); rintro e we ⟨rfl, he⟩; obtain ⟨f0, f1, f2, f3⟩ := GS.out _ he)
      | (go_at_call 15; (with_reducible refine (CL.out _ (by assumption)).mono ?_); rintro e wf ⟨rfl, hf⟩)
      | (go_at_call 21; (with_reducible refine (CR.out _ (by assumption)).mono ?_); rintro e wg ⟨rfl, hg⟩)
      | (go_at_call 19; (with_reducible refine (CF.out _ (by assumption)).mono ?_); rintro e wh ⟨rfl, hh⟩)
      | (go_at_call 17; (with_reducible refine (CP.out _ (by assumption)).mono ?_); rintro e wi ⟨rfl, hi⟩)
      | (go_at_call 17; (with_reducible refine (CQ.out _ (by assumption)).mono ?_); rintro e wj ⟨rfl, hj⟩))
    go_ret
    exact ⟨rfl, BY.out.trans (hj.out.mono BY.out.size)⟩
end Go.Proofs.YtmfmlkdojgbhfaaDoor
