/- The walk of the laws' sample. -/
import Derived.Test.YtoelfiendfemaaaSampD
namespace Go.Proofs.Ytoelfiendfemaaa
open Go.RowKit Go.Deep
set_option linter.unusedVariables false
set_option linter.unusedSimpArgs false

theorem cell_set4 {b x f : Nat} {w2 : World} {v0 v1 v2 v3 : Value} (hb : x ≠ b) : ((((w2.setCell ⟨b, 0, none⟩ v0).setCell ⟨b, 1, none⟩ v1).setCell ⟨b, 2, none⟩ v2).setCell ⟨b, 3, none⟩ v3).cell? ⟨x, f, none⟩ = w2.cell? ⟨x, f, none⟩ :=
  World.cell?_of_block (w := w2) (a := ⟨x, f, none⟩) (heap_set4 hb)
theorem below_s4 {B b : Nat} {w w2 : World} {v0 v1 v2 v3 : Value} (hb : B ≤ b) (h : Below B w w2) : Below B w ((((w2.setCell ⟨b, 0, none⟩ v0).setCell ⟨b, 1, none⟩ v1).setCell ⟨b, 2, none⟩ v2).setCell ⟨b, 3, none⟩ v3) := below_set4 h hb
theorem samp_fin {X D : World} {nA nD T5 S6 S5 : Nat} (h1 : X.heap[T5]? = some (.cells #[.int .i64 2, .string ⟨#[102]⟩, .slice none 0 0, .slice (some ⟨S6, 0, none⟩) 3 3] 54 (0, 0)))
    (h2 : X.heap[S6]? = some (.cells #[.int .i64 3, .string ⟨#[]⟩, .slice none 0 0, .slice (some ⟨S5, 0, none⟩) 1 1, .int .i64 5, .string ⟨#[105, 110, 116]⟩, .slice none 0 0, .slice none 0 0, .int .i64 6, .string ⟨#[]⟩, .slice none 0 0, .slice (some ⟨nD, 0, none⟩) 2 2] 54 (0, 0)))
    (h3 : X.heap[S5]? = some (.cells #[.int .i64 4, .string ⟨#[98]⟩, .slice none 0 0, .slice (some ⟨nA, 0, none⟩) 1 1] 54 (0, 0))) (h4 : Below D.heap.size D X) :
    ∃ T S6 S5 : Nat, Value.pointer (some ⟨T5, 0, none⟩) = .pointer (some ⟨T, 0, none⟩) ∧ X.heap[T]? = some (.cells #[.int .i64 2, .string ⟨#[102]⟩, .slice none 0 0, .slice (some ⟨S6, 0, none⟩) 3 3] 54 (0, 0)) ∧
    X.heap[S6]? = some (.cells #[.int .i64 3, .string ⟨#[]⟩, .slice none 0 0, .slice (some ⟨S5, 0, none⟩) 1 1, .int .i64 5, .string ⟨#[105, 110, 116]⟩, .slice none 0 0, .slice none 0 0, .int .i64 6, .string ⟨#[]⟩, .slice none 0 0, .slice (some ⟨nD, 0, none⟩) 2 2] 54 (0, 0)) ∧
    X.heap[S5]? = some (.cells #[.int .i64 4, .string ⟨#[98]⟩, .slice none 0 0, .slice (some ⟨nA, 0, none⟩) 1 1] 54 (0, 0)) ∧ Below D.heap.size D X := ⟨T5, S6, S5, rfl, h1, h2, h3, h4⟩
theorem at_new {w : World} {o : Obj} {k : Nat} (h : k = w.heap.size) : (w.alloc o).heap[k]? = some o := h ▸ heap_alloc_new w o
theorem heap_set4_eq {Y : World} {b : Nat} {a0 a1 a2 a3 v0 v1 v2 v3 : Value} {T : TypeId} (h : Y.heap[b]? = some (.cells #[a0, a1, a2, a3] T (0, 0))) : ((((Y.setCell ⟨b, 0, none⟩ v0).setCell ⟨b, 1, none⟩ v1).setCell ⟨b, 2, none⟩ v2).setCell ⟨b, 3, none⟩ v3).heap[b]? = some (.cells #[v0, v1, v2, v3] T (0, 0)) := by
  simp [World.setCell, Array.getElem?_modify, h]
theorem two_new (w : World) (o1 o2 : Obj) : ((w.alloc o1).alloc o2).heap[w.heap.size]? = some o1 ∧ ((w.alloc o1).alloc o2).heap[w.heap.size + 1]? = some o2 :=
  ⟨(Below.heap_alloc _ _ _ (by simp)).trans (heap_alloc_new _ _), heap_at2 _ _ _⟩
theorem below_22 (w : World) (a b : Obj) : Below w.heap.size w ((w.alloc a).alloc b) := ((Below.refl _ _).alloc (Nat.le_refl _) _).alloc (by simp) _
theorem below_11 (w : World) (a : Obj) : Below w.heap.size w (w.alloc a) := (Below.refl _ _).alloc (Nat.le_refl _) _
set_option maxHeartbeats 3200000 in
set_option maxRecDepth 100000 in
theorem sample_any (w : World) : Calls Try.prog 31 #[] w (SampP w) := by
  have HLf := Lib.hid (fun k s w => leafL_any k s w)
  go_enter Try.func31, Try.ntmps31
  go_upto_region 2 with (go_at_call 54; refine (HLf.out _ _ _).mono ?_; rintro e w1 ⟨rfl, hb1⟩; have HC1 := Lib.hid hb1; clear hb1)
  obtain ⟨A, hA⟩ : ∃ W, W = (w1.alloc (.cells #[.int .i64 5, .string ⟨#[105, 110, 116]⟩, .slice none 0 0, .slice none 0 0] 54)).alloc (.cells #[.int .i64 4, .string ⟨#[98]⟩, .slice none 0 0, .slice (some ⟨w1.heap.size, 0, none⟩) 1 1] 54) := ⟨_, rfl⟩
  rw [← hA]
  have k1 := (two_new w1 (.cells #[.int .i64 5, .string ⟨#[105, 110, 116]⟩, .slice none 0 0, .slice none 0 0] 54) (.cells #[.int .i64 4, .string ⟨#[98]⟩, .slice none 0 0, .slice (some ⟨w1.heap.size, 0, none⟩) 1 1] 54)).1
  have k2 := (two_new w1 (.cells #[.int .i64 5, .string ⟨#[105, 110, 116]⟩, .slice none 0 0, .slice none 0 0] 54) (.cells #[.int .i64 4, .string ⟨#[98]⟩, .slice none 0 0, .slice (some ⟨w1.heap.size, 0, none⟩) 1 1] 54)).2
  rw [← hA] at k1 k2
  have HXA := Lib.hid k2
  have HTA : Hid (IsT A Pl.tPar ⟨none, 0, some ⟨w1.heap.size, 0, none⟩, 1⟩) := Lib.hid (node_is 4 ⟨#[98]⟩ (by decide) [(Pl.tInt, nilSl)] (by decide) k1 (fun x hx => by simp at hx; subst hx; exact leaf_is _ _ _ (by decide)) 1 rfl 1)
  have HBA : Hid (Below w.heap.size w A) := Lib.hid (by rw [hA]; exact HC1.out.trans ((below_22 w1 _ _).mono HC1.out.size))
  have hlA : w1.heap.size + 1 < A.heap.size := by rw [hA]; simp
  clear hA k1 k2
  generalize w1.heap.size = nA at *
  go_upto_region 3 with (go_at_call 54; refine (HLf.out _ _ _).mono ?_; rintro e w2 ⟨rfl, hb1⟩; have HC2 := Lib.hid hb1; clear hb1)
  obtain ⟨B, hB⟩ : ∃ W, W = (w2.alloc (.cells #[.int .i64 19, .string ⟨#[98]⟩, .slice none 0 0, .slice none 0 0] 54)).alloc (.cells #[.int .i64 10, .string ⟨#[99]⟩, .slice none 0 0, .slice (some ⟨w2.heap.size, 0, none⟩) 1 1] 54) := ⟨_, rfl⟩
  rw [← hB]
  have k1 := (two_new w2 (.cells #[.int .i64 19, .string ⟨#[98]⟩, .slice none 0 0, .slice none 0 0] 54) (.cells #[.int .i64 10, .string ⟨#[99]⟩, .slice none 0 0, .slice (some ⟨w2.heap.size, 0, none⟩) 1 1] 54)).1
  have k2 := (two_new w2 (.cells #[.int .i64 19, .string ⟨#[98]⟩, .slice none 0 0, .slice none 0 0] 54) (.cells #[.int .i64 10, .string ⟨#[99]⟩, .slice none 0 0, .slice (some ⟨w2.heap.size, 0, none⟩) 1 1] 54)).2
  rw [← hB] at k1 k2
  have HXB := Lib.hid k2
  have HTB : Hid (IsT B Pl.tLet ⟨none, 0, some ⟨w2.heap.size, 0, none⟩, 1⟩) := Lib.hid (node_is 10 ⟨#[99]⟩ (by decide) [(Pl.tB, nilSl)] (by decide) k1 (fun x hx => by simp at hx; subst hx; exact leaf_is _ _ _ (by decide)) 1 rfl 1)
  have HBB : Hid (Below A.heap.size A B) := Lib.hid (by rw [hB]; exact HC2.out.trans ((below_22 w2 _ _).mono HC2.out.size))
  have hlB : w2.heap.size + 1 < B.heap.size := by rw [hB]; simp
  clear hB k1 k2
  generalize w2.heap.size = nB at *
  go_upto_region 4 with (go_at_call 54; refine (HLf.out _ _ _).mono ?_; rintro e w3 ⟨rfl, hb1⟩; have HC3 := Lib.hid hb1; clear hb1)
  obtain ⟨C, hC⟩ : ∃ W, W = (w3.alloc (.cells #[.int .i64 19, .string ⟨#[100]⟩, .slice none 0 0, .slice none 0 0] 54)).alloc (.cells #[.int .i64 12, .string ⟨#[]⟩, .slice none 0 0, .slice (some ⟨w3.heap.size, 0, none⟩) 1 1] 54) := ⟨_, rfl⟩
  rw [← hC]
  have k1 := (two_new w3 (.cells #[.int .i64 19, .string ⟨#[100]⟩, .slice none 0 0, .slice none 0 0] 54) (.cells #[.int .i64 12, .string ⟨#[]⟩, .slice none 0 0, .slice (some ⟨w3.heap.size, 0, none⟩) 1 1] 54)).1
  have k2 := (two_new w3 (.cells #[.int .i64 19, .string ⟨#[100]⟩, .slice none 0 0, .slice none 0 0] 54) (.cells #[.int .i64 12, .string ⟨#[]⟩, .slice none 0 0, .slice (some ⟨w3.heap.size, 0, none⟩) 1 1] 54)).2
  rw [← hC] at k1 k2
  have HXC := Lib.hid k2
  have HTC : Hid (IsT C Pl.tRet ⟨none, 0, some ⟨w3.heap.size, 0, none⟩, 1⟩) := Lib.hid (node_is 12 ⟨#[]⟩ (by decide) [(Pl.tD, nilSl)] (by decide) k1 (fun x hx => by simp at hx; subst hx; exact leaf_is _ _ _ (by decide)) 1 rfl 1)
  have HBC : Hid (Below B.heap.size B C) := Lib.hid (by rw [hC]; exact HC3.out.trans ((below_22 w3 _ _).mono HC3.out.size))
  have hlC : w3.heap.size + 1 < C.heap.size := by rw [hC]; simp
  clear hC k1 k2
  generalize w3.heap.size = nC at *
  have HXB2 := Lib.hid (blk_keep HXB.out HBC.out)
  have HTB2 := Lib.hid (HTB.out.later HBC.out)
  go_upto_region 5 with (first
    | (refine wpList_load_mid rfl 54 _ rfl (nB + 1) 0 rfl [.int .i64 10, .string ⟨#[99]⟩, .slice none 0 0, .slice (some ⟨nB, 0, none⟩) 1 1] _ (blk_range HXB2.out) Try.underlying54 rfl sizeN ?_)
    | (refine wpList_load_mid rfl 54 _ rfl (nC + 1) 0 rfl [.int .i64 12, .string ⟨#[]⟩, .slice none 0 0, .slice (some ⟨nC, 0, none⟩) 1 1] _ (blk_range HXC.out) Try.underlying54 rfl sizeN ?_))
  obtain ⟨D, hD⟩ : ∃ W, W = (C.alloc (.cells (row4 [(Pl.tLet, ⟨none, 0, some ⟨nB, 0, none⟩, 1⟩), (Pl.tRet, ⟨none, 0, some ⟨nC, 0, none⟩, 1⟩)]).toArray 54)).alloc (.cells #[.int .i64 6, .string ⟨#[]⟩, .slice none 0 0, .slice (some ⟨C.heap.size, 0, none⟩) 2 2] 54) := ⟨_, rfl⟩
  change Code.wp _ _ _ _ ((C.alloc (.cells (row4 [(Pl.tLet, ⟨none, 0, some ⟨nB, 0, none⟩, 1⟩), (Pl.tRet, ⟨none, 0, some ⟨nC, 0, none⟩, 1⟩)]).toArray 54)).alloc (.cells #[.int .i64 6, .string ⟨#[]⟩, .slice none 0 0, .slice (some ⟨C.heap.size, 0, none⟩) 2 2] 54))
  rw [← hD]
  have k1 : D.heap[C.heap.size]? = some (.cells (row4 [(Pl.tLet, ⟨none, 0, some ⟨nB, 0, none⟩, 1⟩), (Pl.tRet, ⟨none, 0, some ⟨nC, 0, none⟩, 1⟩)]).toArray 54 (0, 0)) := by rw [hD]; exact (two_new C _ _).1
  have k2 : D.heap[C.heap.size + 1]? = some (.cells #[.int .i64 6, .string ⟨#[]⟩, .slice none 0 0, .slice (some ⟨C.heap.size, 0, none⟩) 2 2] 54 (0, 0)) := by rw [hD]; exact (two_new C _ _).2
  have hbd : Below C.heap.size C D := by rw [hD]; exact below_22 _ _ _
  have HTD : Hid (IsT D Pl.tBody ⟨none, 0, some ⟨C.heap.size, 0, none⟩, 2⟩) := Lib.hid (node_is 6 ⟨#[]⟩ (by decide) [(Pl.tLet, ⟨none, 0, some ⟨nB, 0, none⟩, 1⟩), (Pl.tRet, ⟨none, 0, some ⟨nC, 0, none⟩, 1⟩)] (by simp) k1 (fun x hx => by
    simp at hx
    rcases hx with rfl | rfl
    · exact HTB2.out.later hbd
    · exact HTC.out.later hbd) 2 rfl 2)
  have HXA2 := Lib.hid (blk_keep (blk_keep (blk_keep HXA.out HBB.out) HBC.out) hbd)
  have HTA2 := Lib.hid (((HTA.out.later HBB.out).later HBC.out).later hbd)
  have HXD := Lib.hid k2
  have HBD : Hid (Below w.heap.size w D) := Lib.hid (((HBA.out.trans (HBB.out.mono HBA.out.size)).trans (HBC.out.mono (by have := HBA.out.size; have := HBB.out.size; omega))).trans (hbd.mono (by have := HBA.out.size; have := HBB.out.size; have := HBC.out.size; omega)))
  have hlA2 : nA + 1 < D.heap.size := lt_blk HXA2.out
  have hlD : C.heap.size + 1 < D.heap.size := lt_blk k2
  generalize C.heap.size = nD at *
  clear hD k1 k2 hbd
  have HDR : Hid (∀ (wx : World) (x f : Nat), wx.drew.cell? ⟨x, f, none⟩ = wx.cell? ⟨x, f, none⟩) := Lib.hid fun _ _ _ => rfl
  have HPA : Hid (∀ (wx : World) (ob : Obj) (x f : Nat), x < wx.heap.size → (wx.alloc ob).cell? ⟨x, f, none⟩ = wx.cell? ⟨x, f, none⟩) := Lib.hid fun wx ob x f h => cell_past x wx ob f h
  obtain ⟨⟨p0, p1, p2, p3⟩, _⟩ := blk_cells HXA2.out
  obtain ⟨⟨q0, q1, q2, q3⟩, _⟩ := blk_cells HXD.out
  have HTP := Lib.hid HTA2.out
  have hAD := Lib.hid (Below.refl D.heap.size D)
  go_cut [5] (fun s5 X => ∃ T5 S6 S5 : Nat, s5 = .pointer (some ⟨T5, 0, none⟩) ∧ X.heap[T5]? = some (.cells #[.int .i64 2, .string ⟨#[102]⟩, .slice none 0 0, .slice (some ⟨S6, 0, none⟩) 3 3] 54 (0, 0)) ∧
    X.heap[S6]? = some (.cells #[.int .i64 3, .string ⟨#[]⟩, .slice none 0 0, .slice (some ⟨S5, 0, none⟩) 1 1, .int .i64 5, .string ⟨#[105, 110, 116]⟩, .slice none 0 0, .slice none 0 0, .int .i64 6, .string ⟨#[]⟩, .slice none 0 0, .slice (some ⟨nD, 0, none⟩) 2 2] 54 (0, 0)) ∧
    X.heap[S5]? = some (.cells #[.int .i64 4, .string ⟨#[98]⟩, .slice none 0 0, .slice (some ⟨nA, 0, none⟩) 1 1] 54 (0, 0)) ∧ Below D.heap.size D X)
  case first =>
    go_region_held3 (fun w' => (∀ f : Nat, w'.cell? ⟨nA + 1, f, none⟩ = D.cell? ⟨nA + 1, f, none⟩) ∧ ∀ f : Nat, w'.cell? ⟨nD + 1, f, none⟩ = D.cell? ⟨nD + 1, f, none⟩)
      ((refine ⟨?_, ?_⟩ <;> (intro f; iterate 8 (first
        | (with_reducible exact rfl)
        | (with_reducible exact HQ.out _ f hlA2)
        | (with_reducible exact HQ.out _ f hlD)
        | (with_reducible refine (HDR.out _ _ _).trans ?_)
        | (with_reducible refine (HPA.out _ _ _ _ ?_).trans ?_; focus (first | omega | (simp; done) | (simp; omega)))
        | (with_reducible refine (cell_set4 ?_).trans ?_; focus omega)
        | skip))))
      ((go_at_call 54; refine (HLf.out _ _ _).mono ?_; rintro e w7 ⟨rfl, hb7'⟩;
         have hb7 : Below D.heap.size D w7 := (by first | exact (Below.refl D.heap.size D).drew.trans hb7' | exact (below_11 D _).drew.trans (hb7'.mono (below_11 D _).drew.size) | exact (below_22 D _ _).drew.trans (hb7'.mono (below_22 D _ _).drew.size));
         have HQ : Hid (∀ x f : Nat, x < D.heap.size → w7.cell? ⟨x, f, none⟩ = D.cell? ⟨x, f, none⟩) := Lib.hid (fun x f hx => hb7.cell (p := ⟨x, f, none⟩) hx);
         have hz7 := hb7.size; have hz8 := hb7'.size; simp at hz8;
         (first
          | (have K0 := (hb7'.block D.heap.size (by show D.heap.size < ((D.alloc _).alloc _).heap.size; simp; omega)).trans (two_new D _ _).1; have K1 := (hb7'.block (D.heap.size + 1) (by show D.heap.size + 1 < ((D.alloc _).alloc _).heap.size; simp)).trans (two_new D _ _).2; obtain ⟨⟨g0, g1, g2, g3⟩, f0, f1, f2, f3⟩ := blk_cells K0; obtain ⟨⟨g4, g5, g6, g7⟩, f4, f5, f6, f7⟩ := blk_cells K1; have HK0 := Lib.hid K0; have HK1 := Lib.hid K1; have pa0 := cell_past D.heap.size; have pf0 := frozen_past D.heap.size; have pa1 := cell_past (D.heap.size + 1); have pf1 := frozen_past (D.heap.size + 1); have lz0 : D.heap.size < w7.heap.size := lt_blk K0; have lz1 : D.heap.size + 1 < w7.heap.size := lt_blk K1; clear K0 K1)
          | (have K0 := (hb7'.block D.heap.size (by show D.heap.size < (D.alloc _).heap.size; simp)).trans (heap_alloc_new D _); obtain ⟨⟨g0, g1, g2, g3⟩, f0, f1, f2, f3⟩ := blk_cells K0; have HK0 := Lib.hid K0; have pa0 := cell_past D.heap.size; have pf0 := frozen_past D.heap.size; have lz0 : D.heap.size < w7.heap.size := lt_blk K0; clear K0)
          | skip);
         have HB7 := Lib.hid hb7; clear hb7 hb7'))
    all_goals go_wp2_with fail
    all_goals go_meet
    all_goals apply samp_fin
    all_goals (iterate 8 (first
          | (with_reducible refine at_new ?_; focus (first | (simp; done) | omega))
          | with_reducible exact HK0.out
          | with_reducible exact HK1.out
          | with_reducible exact heap_set4_eq HK0.out
          | with_reducible exact heap_set4_eq HK1.out
          | with_reducible exact HB7.out
          | with_reducible refine below_a ?_ _
          | (with_reducible refine below_s4 ?_ ?_; focus omega)
          | (with_reducible refine (Below.heap_alloc _ _ _ ?_).trans ?_; focus (first | omega | (simp; done) | (simp; omega)))
          | (with_reducible refine (heap_set4 ?_).trans ?_; focus omega)
          | skip))
  case rest =>
    obtain ⟨T5, S6, S5, rfl, hT5, hS6, hS5, hB5⟩ := hcut
    have HBody := Lib.hid (HTD.out.later hB5)
    have HPar := HTP.out.later hB5
    have HPars : Hid (IsT wc Pl.tPars ⟨none, 0, some ⟨S5, 0, none⟩, 1⟩) := Lib.hid (node_is 3 ⟨#[]⟩ (by decide) [(Pl.tPar, ⟨none, 0, some ⟨nA, 0, none⟩, 1⟩)] (by simp) hS5 (fun x hx => by simp at hx; subst hx; exact HPar) 1 rfl 1)
    have HFun : Hid (IsT wc Pl.tFun ⟨none, 0, some ⟨S6, 0, none⟩, 3⟩) := Lib.hid (node_is 2 ⟨#[102]⟩ (by decide) [(Pl.tPars, ⟨none, 0, some ⟨S5, 0, none⟩, 1⟩), (Pl.tInt, nilSl), (Pl.tBody, ⟨none, 0, some ⟨nD, 0, none⟩, 2⟩)] (by simp) hS6 (fun x hx => by
      simp at hx
      rcases hx with rfl | rfl | rfl
      · exact HPars.out
      · exact leaf_is _ _ _ (by decide)
      · exact HBody.out) 3 rfl 3)
    have HT5 := Lib.hid hT5
    have HBC := Lib.hid (HBD.out.trans (hB5.mono HBD.out.size))
    clear hT5 hS6 hS5 hB5 HPar
    go_wp2_with (refine wpList_load_mid rfl 54 _ rfl T5 0 rfl [.int .i64 2, .string ⟨#[102]⟩, .slice none 0 0, .slice (some ⟨S6, 0, none⟩) 3 3] _ (blk_range HT5.out) Try.underlying54 rfl sizeN ?_)
    go_ret
    obtain ⟨b1, b2⟩ := two_new wc (.cells #[.int .i64 2, .string ⟨#[102]⟩, .slice none 0 0, .slice (some ⟨S6, 0, none⟩) 3 3] 54) (.cells (cells7 Pl.smp ⟨none, 0, some ⟨wc.heap.size, 0, none⟩, 1⟩).toArray 56)
    have hbl := below_22 wc (.cells #[.int .i64 2, .string ⟨#[102]⟩, .slice none 0 0, .slice (some ⟨S6, 0, none⟩) 3 3] 54) (.cells (cells7 Pl.smp ⟨none, 0, some ⟨wc.heap.size, 0, none⟩, 1⟩).toArray 56)
    refine ⟨wc.heap.size + 1, fun _ => ⟨none, 0, some ⟨wc.heap.size, 0, none⟩, 1⟩, rfl, b2, ?_, HBC.out.trans (hbl.mono HBC.out.size)⟩
    exact node_is 1 ⟨#[]⟩ (by decide) [(Pl.tFun, ⟨none, 0, some ⟨S6, 0, none⟩, 3⟩)] (by simp) b1 (fun x hx => by simp at hx; subst hx; exact HFun.out.later hbl) 1 rfl 1
end Go.Proofs.Ytoelfiendfemaaa
