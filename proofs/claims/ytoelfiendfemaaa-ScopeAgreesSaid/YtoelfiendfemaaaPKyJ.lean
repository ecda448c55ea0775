/- The walk of the program's keyOf. -/
import Derived.Test.YtoelfiendfemaaaPTbsJ
import Derived.Test.YtoelfiendfemaaaMapF
import Derived.RangeFuncNested
import Derived.RangeFuncBound
import Derived.RangeFuncCalls
import Derived.RangeFuncLeaves
import Derived.Shelf.Abstract
import Derived.OwnWalkIn
import Derived.TacticsInMore
import Derived.LoopNIn
import Derived.LoopIn
import Derived.OrdersHeld
import Derived.OrdersIn
namespace Go.Proofs.Ytoelfiendfemaaa
open Go.RowKit Go.Deep
set_option linter.unusedVariables false
set_option linter.unusedSimpArgs false
set_option maxRecDepth 100000

/-- Is it a declaration that is seen in one place alone? -/
def loc (k : Int) : Bool := decide (k = 4 ∨ k = 5 ∨ k = 6)
/-- The key of a declaration. -/
def kyOf (T : List (List Pl.Rw)) (d : Pl.Dc) : Value := kyV d.kind d.name (if loc d.kind then d.unit else 0) (if loc d.kind then Pl.parOf T d.unit d.node else 0)
/-- Its node is there. -/
def Here (T : List (List Pl.Rw)) (d : Pl.Dc) : Prop := ∃ (u i : Nat) (l : List Pl.Rw), d.unit = u ∧ d.node = i ∧ T[u]? = some l ∧ i < l.length
theorem set4_same {w : World} {b : Nat} {c0 c1 c2 c3 v0 v1 v2 v3 : Value} {T : TypeId} (h : w.heap[b]? = some (.cells #[c0, c1, c2, c3] T (0, 0))) :
    ((((w.setCell ⟨b, 0, none⟩ v0).setCell ⟨b, 1, none⟩ v1).setCell ⟨b, 2, none⟩ v2).setCell ⟨b, 3, none⟩ v3).heap[b]? = some (.cells #[v0, v1, v2, v3] T (0, 0)) := by
  rw [heap_setCell_same _ _ _ _ _ _ (heap_setCell_same _ _ _ _ _ _ (heap_setCell_same _ _ _ _ _ _ (heap_setCell_same _ _ _ _ _ _ h)))]
  rfl
set_option maxHeartbeats 3200000 in
theorem keyOf_glob (kd : Int) (h4 : kd ≠ 4) (h5 : kd ≠ 5) (h6 : kd ≠ 6) (ow nm : ByteArray) (u i : Int) (ta : Option Addr) (n tc : Nat) (w : World) :
    Calls Try.prog 51 #[decV ⟨kd, ow, nm, u, i⟩, .slice ta n tc] w fun e w' => e = .returned (kyV kd nm 0 0) ∧ Below w.heap.size w w' := by
  have e4 := (int_no h4).1
  have e5 := (int_no h5).1
  have e6 := (int_no h6).1
  clear h4 h5 h6
  go_enter Try.func51, Try.ntmps51
  go_wp2_with fail
  obtain ⟨W, hW⟩ : ∃ W, W = ((w.alloc (.cells #[.int .i64 kd, .string ow, .string nm, .int .i64 u, .int .i64 i] 77)).alloc (.cells #[.int .i64 kd, .string nm, .int .i64 0, .int .i64 0] 68)).alloc (.cells #[.int .i64 kd, .string nm, .int .i64 0, .int .i64 0] 68) := ⟨_, rfl⟩
  have hb : Below w.heap.size w W := by rw [hW]; exact below_3 _ _ _ _
  have v1 : W.heap[w.heap.size + 1]? = some (.cells #[.int .i64 kd, .string nm, .int .i64 0, .int .i64 0] 68 (0, 0)) := by rw [hW]; exact (Below.heap_alloc _ _ _ (by simp)).trans (heap_at2 w _ _)
  obtain ⟨c0, c1, c2, c3⟩ := (blk_cells v1).1
  rw [← hW]
  exact bodyPost_ret (v := kyV kd nm 0 0) (by simp [results, Try.results51, go_sem, c0, c1, c2, c3]) rfl ⟨rfl, hb⟩
set_option maxHeartbeats 3200000 in
theorem keyOf_loc (kd : Int) (hk : kd = 4 ∨ kd = 5 ∨ kd = 6) (ow nm : ByteArray) (u i : Nat) (ta : Option Addr) (n tc : Nat) (T : List (List Pl.Rw)) (l : List Pl.Rw) (w : World) (hT : TabsIn w ta T) (hn : n = T.length) (hl : T[u]? = some l) (hi : i < l.length) (hl2 : l.length ≤ maxLen) :
    Calls Try.prog 51 #[decV ⟨kd, ow, nm, u, i⟩, .slice ta n tc] w fun e w' => e = .returned (kyV kd nm u (Pl.rw l i).parent) ∧ Below w.heap.size w w' := by
  unfold maxLen at hl2
  have hnm : n ≤ maxLen := by obtain ⟨L, e1, e2, _⟩ := hT; rw [hn, ← e1, List.length_map]; exact e2.1
  unfold maxLen at hnm
  have hun : u < n := by rw [hn]; exact (List.getElem?_eq_some_iff.1 hl).1
  obtain ⟨tb, tof, la, lc, LR, rfl, htb, htc, hti⟩ := hT.one hl
  obtain ⟨rb, ro, rfl, hTb⟩ := tb_of hti (by omega)
  have hrb := hTb.1
  obtain ⟨x, r, hgx, hxr, c0, c1, c2, c3, c4, _, _⟩ := hTb.row hi
  rw [hxr]
  obtain ⟨m, hm⟩ : ∃ m, m = l.length := ⟨_, rfl⟩
  rw [← hm] at htc hi hl2
  have hu0 : (0 : Int) ≤ (u : Int) := Int.natCast_nonneg _
  have hu1 : (u : Int) < (n : Int) := by omega
  have hi0 : (0 : Int) ≤ (i : Int) := Int.natCast_nonneg _
  have hi1 : (i : Int) < (m : Int) := by omega
  obtain ⟨W, hW⟩ : ∃ W, W = ((w.alloc (.cells #[.int .i64 kd, .string ow, .string nm, .int .i64 u, .int .i64 i] 77)).alloc (.cells #[.int .i64 0, .string ⟨#[]⟩, .int .i64 0, .int .i64 0] 68)).alloc (.cells #[.int .i64 kd, .string nm, .int .i64 0, .int .i64 0] 68) := ⟨_, rfl⟩
  have hz : W.heap.size = w.heap.size + 3 := by rw [hW]; simp
  have hb : Below w.heap.size w W := by rw [hW]; exact below_3 _ _ _ _
  have v0 : W.heap[w.heap.size]? = some (.cells #[.int .i64 kd, .string ow, .string nm, .int .i64 u, .int .i64 i] 77 (0, 0)) := by rw [hW]; exact (Below.heap_alloc _ _ _ (by simp; omega)).trans ((Below.heap_alloc _ _ _ (by simp)).trans (heap_alloc_new _ _))
  have v1 : W.heap[w.heap.size + 1]? = some (.cells #[.int .i64 0, .string ⟨#[]⟩, .int .i64 0, .int .i64 0] 68 (0, 0)) := by rw [hW]; exact (Below.heap_alloc _ _ _ (by simp)).trans (heap_at2 w _ _)
  have v2 : W.heap[w.heap.size + 1 + 1]? = some (.cells #[.int .i64 kd, .string nm, .int .i64 0, .int .i64 0] 68 (0, 0)) := by
    rw [hW]
    have := heap_alloc_new ((w.alloc (.cells #[.int .i64 kd, .string ow, .string nm, .int .i64 u, .int .i64 i] 77)).alloc (.cells #[.int .i64 0, .string ⟨#[]⟩, .int .i64 0, .int .i64 0] 68)) (.cells #[.int .i64 kd, .string nm, .int .i64 0, .int .i64 0] 68)
    simpa using this
  have HW := Lib.hid hW
  have HB := Lib.hid hb
  have HV1 := Lib.hid v1
  have HV2 := Lib.hid v2
  have t1 := (hb.cell (p := ⟨tb, tof + u, none⟩) htb).trans htc
  have p1 := (hb.cell (p := ⟨rb, ro + i * 5, none⟩) hrb).trans c0
  obtain ⟨⟨a0, a1, a2, a3, a4⟩, al⟩ := blk_five v0
  obtain ⟨⟨b0, b1, b2, b3⟩, y0, y1, y2, y3⟩ := blk_cells v2
  obtain ⟨⟨d0, d1, d2, d3⟩, z0, z1, z2, z3⟩ := blk_cells v1
  have HDR : Hid (∀ (wx : World) (x f : Nat), wx.drew.cell? ⟨x, f, none⟩ = wx.cell? ⟨x, f, none⟩) := Lib.hid fun _ _ _ => rfl
  have HS : Hid (∀ (wx : World) (v : Value) (x f g : Nat), x ≠ w.heap.size + 1 + 1 → (wx.setCell ⟨w.heap.size + 1 + 1, g, none⟩ v).cell? ⟨x, f, none⟩ = wx.cell? ⟨x, f, none⟩) := Lib.hid fun wx v x f g h => World.cell?_of_block (w := wx) (a := ⟨x, f, none⟩) (Below.heap_setCell _ _ _ _ h)
  generalize x.parent = pp at *
  clear hW hb v0 v1 v2 hT hl hti hTb hgx hxr c0 c1 c2 c3 c4 htc hm hn
  rcases hk with rfl | rfl | rfl
  · go_enter Try.func51, Try.ntmps51
    go_upto_region 6 with fail
    rw [← HW.out]
    go_region_held3 (fun w' => (∀ f : Nat, w'.cell? ⟨w.heap.size, f, none⟩ = W.cell? ⟨w.heap.size, f, none⟩) ∧ (∀ f : Nat, w'.cell? ⟨tb, f, none⟩ = W.cell? ⟨tb, f, none⟩) ∧ ∀ f : Nat, w'.cell? ⟨rb, f, none⟩ = W.cell? ⟨rb, f, none⟩)
      ((refine ⟨?_, ?_, ?_⟩ <;> (intro f; iterate 8 (first
        | (with_reducible exact rfl)
        | (with_reducible refine (HDR.out _ _ _).trans ?_)
        | (with_reducible refine (HS.out _ _ _ _ _ ?_).trans ?_; focus omega)
        | skip))))
      (fail)

    obtain ⟨V, hV⟩ : ∃ V, V = ((W.setCell ⟨w.heap.size + 1 + 1, 2, none⟩ (.int .i64 u)).setCell ⟨w.heap.size + 1 + 1, 3, none⟩ (.int .i64 pp)).drew := ⟨_, rfl⟩
    have hbV : Below w.heap.size w V := by rw [hV]; exact ((HB.out.setCell (p := ⟨w.heap.size + 1 + 1, 2, none⟩) (by show w.heap.size ≤ w.heap.size + 1 + 1; omega) _).setCell (p := ⟨w.heap.size + 1 + 1, 3, none⟩) (by show w.heap.size ≤ w.heap.size + 1 + 1; omega) _).drew
    have x2 := heap_setCell_same _ _ 3 _ _ (.int .i64 pp) (heap_setCell_same _ _ 2 _ _ (.int .i64 u) HV2.out)
    have x1 : V.heap[w.heap.size + 1]? = W.heap[w.heap.size + 1]? := by rw [hV]; exact (Below.heap_setCell _ _ _ _ (by show w.heap.size + 1 ≠ w.heap.size + 1 + 1; omega)).trans (Below.heap_setCell _ _ _ _ (by show w.heap.size + 1 ≠ w.heap.size + 1 + 1; omega))
    have u2 : V.heap[w.heap.size + 1 + 1]? = _ := (congrArg (fun z => z.heap[w.heap.size + 1 + 1]?) hV).trans x2
    obtain ⟨⟨f0, f1, f2, f3⟩, _⟩ := blk_cells u2
    have HX1 := Lib.hid (x1.trans HV1.out)
    obtain ⟨⟨g0, g1, g2, g3⟩, m0, m1, m2, m3⟩ := blk_cells HX1.out
    rw [← hV]
    have HBV := Lib.hid hbV
    clear hV hbV x1 x2 u2 a0 a1 a2 a3 a4 al b0 b1 b2 b3 y0 y1 y2 y3 d0 d1 d2 d3 z0 z1 z2 z3 t1 p1
    go_wp2_with fail
    obtain ⟨⟨k0, k1, k2, k3⟩, _⟩ := blk_cells (set4_same (v0 := .int .i64 4) (v1 := .string nm) (v2 := .int .i64 u) (v3 := .int .i64 pp) HX1.out)
    exact bodyPost_ret (v := kyV 4 nm u pp) (by simp [results, Try.results51, go_sem, k0, k1, k2, k3]) rfl ⟨rfl, below_set4 HBV.out (by omega)⟩
  · go_enter Try.func51, Try.ntmps51
    go_upto_region 6 with fail
    rw [← HW.out]
    go_region_held3 (fun w' => (∀ f : Nat, w'.cell? ⟨w.heap.size, f, none⟩ = W.cell? ⟨w.heap.size, f, none⟩) ∧ (∀ f : Nat, w'.cell? ⟨tb, f, none⟩ = W.cell? ⟨tb, f, none⟩) ∧ ∀ f : Nat, w'.cell? ⟨rb, f, none⟩ = W.cell? ⟨rb, f, none⟩)
      ((refine ⟨?_, ?_, ?_⟩ <;> (intro f; iterate 8 (first
        | (with_reducible exact rfl)
        | (with_reducible refine (HDR.out _ _ _).trans ?_)
        | (with_reducible refine (HS.out _ _ _ _ _ ?_).trans ?_; focus omega)
        | skip))))
      (fail)

    obtain ⟨V, hV⟩ : ∃ V, V = ((W.setCell ⟨w.heap.size + 1 + 1, 2, none⟩ (.int .i64 u)).setCell ⟨w.heap.size + 1 + 1, 3, none⟩ (.int .i64 pp)).drew := ⟨_, rfl⟩
    have hbV : Below w.heap.size w V := by rw [hV]; exact ((HB.out.setCell (p := ⟨w.heap.size + 1 + 1, 2, none⟩) (by show w.heap.size ≤ w.heap.size + 1 + 1; omega) _).setCell (p := ⟨w.heap.size + 1 + 1, 3, none⟩) (by show w.heap.size ≤ w.heap.size + 1 + 1; omega) _).drew
    have x2 := heap_setCell_same _ _ 3 _ _ (.int .i64 pp) (heap_setCell_same _ _ 2 _ _ (.int .i64 u) HV2.out)
    have x1 : V.heap[w.heap.size + 1]? = W.heap[w.heap.size + 1]? := by rw [hV]; exact (Below.heap_setCell _ _ _ _ (by show w.heap.size + 1 ≠ w.heap.size + 1 + 1; omega)).trans (Below.heap_setCell _ _ _ _ (by show w.heap.size + 1 ≠ w.heap.size + 1 + 1; omega))
    have u2 : V.heap[w.heap.size + 1 + 1]? = _ := (congrArg (fun z => z.heap[w.heap.size + 1 + 1]?) hV).trans x2
    obtain ⟨⟨f0, f1, f2, f3⟩, _⟩ := blk_cells u2
    have HX1 := Lib.hid (x1.trans HV1.out)
    obtain ⟨⟨g0, g1, g2, g3⟩, m0, m1, m2, m3⟩ := blk_cells HX1.out
    rw [← hV]
    have HBV := Lib.hid hbV
    clear hV hbV x1 x2 u2 a0 a1 a2 a3 a4 al b0 b1 b2 b3 y0 y1 y2 y3 d0 d1 d2 d3 z0 z1 z2 z3 t1 p1
    go_wp2_with fail
    obtain ⟨⟨k0, k1, k2, k3⟩, _⟩ := blk_cells (set4_same (v0 := .int .i64 5) (v1 := .string nm) (v2 := .int .i64 u) (v3 := .int .i64 pp) HX1.out)
    exact bodyPost_ret (v := kyV 5 nm u pp) (by simp [results, Try.results51, go_sem, k0, k1, k2, k3]) rfl ⟨rfl, below_set4 HBV.out (by omega)⟩
  · go_enter Try.func51, Try.ntmps51
    go_upto_region 6 with fail
    rw [← HW.out]
    go_region_held3 (fun w' => (∀ f : Nat, w'.cell? ⟨w.heap.size, f, none⟩ = W.cell? ⟨w.heap.size, f, none⟩) ∧ (∀ f : Nat, w'.cell? ⟨tb, f, none⟩ = W.cell? ⟨tb, f, none⟩) ∧ ∀ f : Nat, w'.cell? ⟨rb, f, none⟩ = W.cell? ⟨rb, f, none⟩)
      ((refine ⟨?_, ?_, ?_⟩ <;> (intro f; iterate 8 (first
        | (with_reducible exact rfl)
        | (with_reducible refine (HDR.out _ _ _).trans ?_)
        | (with_reducible refine (HS.out _ _ _ _ _ ?_).trans ?_; focus omega)
        | skip))))
      (fail)

    obtain ⟨V, hV⟩ : ∃ V, V = ((W.setCell ⟨w.heap.size + 1 + 1, 2, none⟩ (.int .i64 u)).setCell ⟨w.heap.size + 1 + 1, 3, none⟩ (.int .i64 pp)).drew := ⟨_, rfl⟩
    have hbV : Below w.heap.size w V := by rw [hV]; exact ((HB.out.setCell (p := ⟨w.heap.size + 1 + 1, 2, none⟩) (by show w.heap.size ≤ w.heap.size + 1 + 1; omega) _).setCell (p := ⟨w.heap.size + 1 + 1, 3, none⟩) (by show w.heap.size ≤ w.heap.size + 1 + 1; omega) _).drew
    have x2 := heap_setCell_same _ _ 3 _ _ (.int .i64 pp) (heap_setCell_same _ _ 2 _ _ (.int .i64 u) HV2.out)
    have x1 : V.heap[w.heap.size + 1]? = W.heap[w.heap.size + 1]? := by rw [hV]; exact (Below.heap_setCell _ _ _ _ (by show w.heap.size + 1 ≠ w.heap.size + 1 + 1; omega)).trans (Below.heap_setCell _ _ _ _ (by show w.heap.size + 1 ≠ w.heap.size + 1 + 1; omega))
    have u2 : V.heap[w.heap.size + 1 + 1]? = _ := (congrArg (fun z => z.heap[w.heap.size + 1 + 1]?) hV).trans x2
    obtain ⟨⟨f0, f1, f2, f3⟩, _⟩ := blk_cells u2
    have HX1 := Lib.hid (x1.trans HV1.out)
    obtain ⟨⟨g0, g1, g2, g3⟩, m0, m1, m2, m3⟩ := blk_cells HX1.out
    rw [← hV]
    have HBV := Lib.hid hbV
    clear hV hbV x1 x2 u2 a0 a1 a2 a3 a4 al b0 b1 b2 b3 y0 y1 y2 y3 d0 d1 d2 d3 z0 z1 z2 z3 t1 p1
    go_wp2_with fail
    obtain ⟨⟨k0, k1, k2, k3⟩, _⟩ := blk_cells (set4_same (v0 := .int .i64 6) (v1 := .string nm) (v2 := .int .i64 u) (v3 := .int .i64 pp) HX1.out)
    exact bodyPost_ret (v := kyV 6 nm u pp) (by simp [results, Try.results51, go_sem, k0, k1, k2, k3]) rfl ⟨rfl, below_set4 HBV.out (by omega)⟩
theorem keyOf_any (T : List (List Pl.Rw)) (d : Pl.Dc) (hk : Here T d) (ta : Option Addr) (n tc : Nat) (w : World) (hT : TabsIn w ta T) (hn : n = T.length) (hl2 : ∀ l ∈ T, l.length ≤ maxLen) :
    Calls Try.prog 51 #[decV d, .slice ta n tc] w fun e w' => e = .returned (kyOf T d) ∧ Below w.heap.size w w' := by
  obtain ⟨kd, ow, nm, u, i⟩ := d
  unfold kyOf
  simp only
  by_cases h : kd = 4 ∨ kd = 5 ∨ kd = 6
  · have hl : loc kd = true := by simp [loc, h]
    obtain ⟨u', i', l, h1, h2, h3, h4⟩ := hk
    simp only at h1 h2
    subst h1 h2
    rw [if_pos hl, if_pos hl]
    have e : Pl.parOf T u' i' = (Pl.rw l i').parent := by unfold Pl.parOf; rw [Int.toNat_natCast, h3]; rfl
    rw [e]
    exact keyOf_loc kd h ow nm u' i' ta n tc T l w hT hn h3 h4 (hl2 l (List.mem_of_getElem? h3))
  · have hl : loc kd = false := by simp [loc, h]
    rw [if_neg (by simp [hl]), if_neg (by simp [hl])]
    exact keyOf_glob kd (fun e => h (.inl e)) (fun e => h (.inr (.inl e))) (fun e => h (.inr (.inr e))) ow nm u i ta n tc w
end Go.Proofs.Ytoelfiendfemaaa

namespace Go.Proofs.Ytoelfiendfemaaa
open Go.RowKit Go.Deep Go.Shelf
set_option linter.unusedVariables false
set_option linter.unusedSimpArgs false
set_option maxRecDepth 100000
attribute [local go_sem] Oper.semAt_some

/-- A declaration with its place in the list. -/
abbrev DcAt (D : List Pl.Dc) := { x : Nat × Pl.Dc // D[x.1]? = some x.2 }
/-- The list from its end. -/
def backs (D : List Pl.Dc) : List (DcAt D) := List.ofFn fun k : Fin D.length => ⟨(D.length - 1 - k.1, D[D.length - 1 - k.1]'(by have := k.2; omega)), List.getElem?_eq_getElem _⟩
theorem backs_len (D : List Pl.Dc) : (backs D).length = D.length := by simp [backs]
theorem backs_get (D : List Pl.Dc) (k : Nat) (h : k < D.length) : ∃ x : DcAt D, (backs D)[k]? = some x ∧ x.1.1 = D.length - 1 - k ∧ D[D.length - 1 - k]? = some x.1.2 := by
  refine ⟨(backs D)[k]'(by rw [backs_len]; exact h), List.getElem?_eq_getElem _, ?_, ?_⟩
  · simp [backs]
  · have h2 := ((backs D)[k]'(by rw [backs_len]; exact h)).2
    have e : ((backs D)[k]'(by rw [backs_len]; exact h)).1.1 = D.length - 1 - k := by simp [backs]
    rw [e] at h2
    exact h2
def encD {D : List Pl.Dc} (x : DcAt D) : Array Value := #[.int .i64 (x.1.1 : Nat), decV x.1.2]
set_option maxHeartbeats 1600000 in
theorem back1_in (F : Fence) (n : Nat) (h6 : F.fn 68) (hro : F.round = none) (hn : 1 ≤ n) (l Bn : Nat) (S : Nat → Prop) (D : List Pl.Dc) (da : Option Addr) (m dc : Nat) (hm : m = D.length) (hmx : m ≤ 100000) (J Jx : List (DcAt D) → World → Prop)
    (hY : ∀ pre x W, J pre W → pre.length < m → YieldAt F (n - 1) Try.prog l (encD x) W fun e W' =>
      (e = .returned (.bool true) ∧ J (pre ++ [x]) W' ∧ Kp S W W') ∨ (e = .returned (.bool false) ∧ Jx (pre ++ [x]) W'))
    (W : World) (hBl : Bn < W.heap.size ∧ S Bn) (hBn : W.cell? ⟨Bn, 0, none⟩ = some (.slice da m dc)) (hL : Flat 5 cellsD (fun b => b < W.heap.size ∧ S b) W da D) (h0 : J [] W) :
    CallsIn F n Try.prog 68 #[.func (.yield l) #[] #[], .pointer (some ⟨Bn, 0, none⟩)] W fun e W' => (∃ v, e = .returned v) ∧
      ((∃ ys, ys = backs D ∧ J ys W') ∨ (∃ pre, pre <+: backs D ∧ Jx pre W')) := by
  have HM := Lib.hid hm
  have HBL := Lib.hid (backs_len D)
  have HL := Lib.hid hL
  clear hm hL
  refine callsIn_of_wp Try.func68 rfl h6 ?_ hro
  simp only [Try.ntmps68, List.size_toArray, List.length_cons, List.length_nil, Nat.reduceAdd, Nat.reduceSub, Array.replicate_succ, Array.replicate_zero, List.push_toArray, List.append_toArray, List.nil_append, List.cons_append]
  gi_wp2
  gi_loopw [3] (fun p wr => ∃ (k : Nat), k ≤ m ∧ p = .int .i64 ((m : Int) - 1 - k) ∧ J ((backs D).take k) wr ∧ Kp S W wr) (fun p wr => (intOf p + 1).toNat)
  case atStart =>
    exact ⟨0, Nat.zero_le _, by simp, h0, Kp.refl _ _⟩
  case round =>
    obtain ⟨k, hk, rfl, hJs, hb⟩ := hrel
    have hBn' := (hb.cell (o := 0) hBl.1 hBl.2).trans hBn
    by_cases hlt : k < m
    · obtain ⟨x, hx, hx1, hx2⟩ := backs_get D k (by have := HM.out; omega)
      have HX := Lib.hid hx
      obtain ⟨b, o, rfl, hbl, hcl⟩ := HL.out.one hx2
      obtain ⟨fn, tmps, assign, body, hy, hR⟩ := hY _ x wr hJs (by rw [List.length_take, HBL.out, ← HM.out]; omega)
      obtain ⟨q, hq⟩ : ∃ q : Nat, q = m - 1 - k := ⟨_, rfl⟩
      rw [← HM.out, ← hq] at hx1 hcl
      have hqe : (m : Int) - 1 - k = q := by omega
      have c0 := (hb.cell (o := o + q * 5) hbl.1 hbl.2).trans (hcl 0 _ rfl)
      have c1 := (hb.cell (o := o + q * 5 + 1) hbl.1 hbl.2).trans (hcl 1 _ rfl)
      have c2 := (hb.cell (o := o + q * 5 + 2) hbl.1 hbl.2).trans (hcl 2 _ rfl)
      have c3 := (hb.cell (o := o + q * 5 + 3) hbl.1 hbl.2).trans (hcl 3 _ rfl)
      have c4 := (hb.cell (o := o + q * 5 + 4) hbl.1 hbl.2).trans (hcl 4 _ rfl)
      have hq0 : (0 : Int) ≤ (q : Int) := Int.natCast_nonneg _
      have hq1 : (q : Int) < (m : Int) := by omega
      unfold encD at hy
      rw [hx1] at hy
      simp only [decV] at hy
      rw [hqe]
      have HQ : Hid ((m : Int) - 1 - ((k + 1 : Nat) : Int) = (q : Int) - 1) := Lib.hid (by omega)
      have HQ2 : Hid (q = m - 1 - k) := Lib.hid hq
      have hmeas : ((q : Int) - 1 + 1).toNat < ((q : Int) + 1).toNat := by omega
      have hqb : q ≤ 100000 := by omega
      clear hq hqe hx hx1 hx2 hcl hBn
      generalize x.1.2.kind = d0 at *
      generalize x.1.2.owner = d1 at *
      generalize x.1.2.name = d2 at *
      generalize x.1.2.unit = d3 at *
      generalize x.1.2.node = d4 at *
      gi_wp2
      refine hR.mono ?_
      rintro e W3 (⟨rfl, hJ3, hk3⟩ | ⟨rfl, hJx3⟩)
      · gi_wp2
        go_roundw
        case rel => exact ⟨k + 1, by omega, by rw [HQ.out], by rw [List.take_add_one, HX.out]; exact hJ3, hb.trans hk3⟩
        case measure => simp [intOf]
      · gi_wp2
        refine bodyPost_ret (results_none rfl _ _ _) rfl ?_
        exact ⟨⟨_, rfl⟩, .inr ⟨(backs D).take k ++ [x], by
          have : (backs D).take (k + 1) = (backs D).take k ++ [x] := by rw [List.take_add_one, HX.out]; rfl
          rw [← this]; exact List.take_prefix _ _, hJx3⟩⟩
    · have hkm : k = m := by omega
      subst hkm
      have HE : Hid ((backs D).take k = backs D) := Lib.hid (List.take_of_length_le (by rw [HBL.out, ← HM.out]; exact Nat.le_refl _))
      rw [show (k : Int) - 1 - k = -1 by omega]
      rw [HE.out] at hJs
      gi_wp2
      go_end0
      exact ⟨⟨_, rfl⟩, .inl ⟨_, rfl, hJs⟩⟩
set_option maxHeartbeats 1000000 in
/-- What Backward hands back. -/
theorem back_in (F : Fence) (n : Nat) (h5 : F.fn 55) (hro : F.round = none) (da : Option Addr) (m dc : Nat) (w : World) :
    CallsIn F n Try.prog 55 #[.slice da m dc] w fun e w' => e = .returned (.func (.func 68) #[] #[.pointer (some ⟨w.heap.size, 0, none⟩)]) ∧ w' = w.alloc (.cells #[.slice da m dc] 61) := by
  refine callsIn_of_wp Try.func55 rfl h5 ?_ hro
  simp only [Try.ntmps55, List.size_toArray, List.length_cons, List.length_nil, Nat.reduceAdd, Nat.reduceSub, Array.replicate_succ, Array.replicate_zero, List.push_toArray, List.append_toArray, List.nil_append, List.cons_append]
  gi_wp2
  go_ret
  exact ⟨rfl, rfl⟩
/-- It hands over all declarations, the last one first. -/
theorem back_stops (F : Fence) (n : Nat) (h6 : F.fn 68) (hro : F.round = none) (hn : 1 ≤ n) (Bn : Nat) (S : Nat → Prop) (D : List Pl.Dc) (da : Option Addr) (m dc : Nat) (hm : m = D.length) (hmx : m ≤ 100000) (w : World) (hBn : Bn < w.heap.size ∧ S Bn)
    (hc : w.cell? ⟨Bn, 0, none⟩ = some (.slice da m dc)) (hL : Flat 5 cellsD (fun b => b < w.heap.size ∧ S b) w da D) :
    SeqStopsK F n Try.prog 68 #[.pointer (some ⟨Bn, 0, none⟩)] (encD (D := D)) (Kp S) (fun ys => ys = backs D) (fun pre => pre <+: backs D) m w := fun l J Jx W hW _ _ hY h0 =>
  back1_in F n h6 hro hn l Bn S D da m dc hm hmx J Jx hY W ⟨Nat.lt_of_lt_of_le hBn.1 hW.size, hBn.2⟩ ((hW.cell (p := ⟨Bn, 0, none⟩) hBn.1).trans hc) (hL.keep (fun b hb => hW.block b hb.1) fun b h => ⟨Nat.lt_of_lt_of_le h.1 hW.size, h.2⟩) h0
/- ### A region that draws its order, in a round -/
theorem wpOpIn_of_wpOp {l n : Nat} {P : Program} {ops : Array Oper} {Q : Exit → Act → World → Prop} (hQ : ¬ LetsOut Q) (hnd : ∀ (j : Nat) (o : Oper), ops[j]? = some o → ∀ c, o.op ≠ .defer c)
    {i : Nat} {K K' : Act → World → Prop} (hK : ∀ a w, K a w → K' a w) {a : Act} {w : World} (h : wpOp P ops Q i K a w) : wpOpIn (Fence.wide.inRound l) n P ops Q i K' a w := by
  unfold wpOp at h
  unfold wpOpIn
  cases ho : ops[i]? with
  | none => rw [ho] at h; exact hK _ _ h
  | some o =>
    rw [ho] at h
    have hd := hnd i o ho
    by_cases hw : Region.wanted o (yielded ops a.tmps) = true
    · simp only [hw, if_true] at h ⊢
      rcases h with h | ⟨_, h⟩
      · refine ⟨fun _ _ => trivial, ?_⟩
        rw [Fence.inRound_round, Oper.semAt_some l _ _ hd]
        unfold Oper.wp at h
        generalize (execOp a.eval o).run P w = r at *
        cases r with
        | ok x w' =>
          cases x with
          | value v => exact hK _ _ h
          | skip => exact hK _ _ h
          | defer d => exact hK _ _ h
          | enter f args =>
            refine ⟨(fun h => by cases h), CallsIn.inRound l (callsIn_wide.2 (Calls.mono h fun e w'' he => ?_))⟩
            cases e with
            | returned u => exact hK _ _ he
            | panicked c => exact he
            | outgrown => exact absurd he hQ
          | row row args => exact ⟨(fun h => by cases h), fun c cs _ => by
              obtain ⟨v, w2, r, s⟩ := h c cs
              exact ⟨v, w2, hK _ _ r, stepsIn_wide.2 s⟩⟩
          | _ => exact h.elim
        | halt x w' =>
          cases x <;> exact h
      · exact absurd h hQ
    · simp only [hw] at h ⊢
      exact ⟨fun _ _ => trivial, hK _ _ h⟩
theorem wpAnyIn_of_wpAny {l n : Nat} {P : Program} {md : Region.Mode} {ops : Array Oper} {Q : Exit → Act → World → Prop} (hQ : ¬ LetsOut Q) (hnd : ∀ (j : Nat) (o : Oper), ops[j]? = some o → ∀ c, o.op ≠ .defer c) :
    ∀ (fuel : Nat) (listed : Array Bool) (a : Act) (w : World), wpAny P md ops Q fuel listed a w → wpAnyIn (Fence.wide.inRound l) n P md ops Q fuel listed a w
  | 0, _, _, _, h => h
  | fuel + 1, _, _, _, h => ⟨h.1, fun i hi => wpOpIn_of_wpOp hQ hnd (fun a w => wpAnyIn_of_wpAny hQ hnd fuel _ a w) (h.2 i hi)⟩
theorem region_round {l n id : Nat} {P : Program} {ops : Array Oper} {Q : Exit → Act → World → Prop} {a : Act} {w : World} (hm : P.follows .mixedOrders = true) (hQ : ¬ LetsOut Q) (hnd : ∀ (j : Nat) (o : Oper), ops[j]? = some o → ∀ c, o.op ≠ .defer c)
    (S : World → Prop) (h : wpAnyH P .any ops Q S ops.size (Array.replicate ops.size false) a w.drew) : (Code.region id ops true).wpIn (Fence.wide.inRound l) n P Q a w :=
  wpIn_region_any hm (wpAnyIn_of_wpAny hQ hnd _ _ _ _ (wpAny_of_held _ _ _ _ h))
end Go.Proofs.Ytoelfiendfemaaa

namespace Go.Proofs.Ytoelfiendfemaaa
open Go.RowKit Go.Deep Go.Shelf
set_option linter.unusedVariables false
set_option linter.unusedSimpArgs false
set_option maxRecDepth 100000
attribute [local go_sem] Oper.semAt_some

theorem make_firsts (n : Int) (w : World) : (Instr.makeMap 59 (some (.int .i64 n))).run Try.prog w = .ok (.map (some w.heap.size)) (w.alloc (.map #[] 0)) := by
  simp [Instr.makeMap, run_underlying Try.underlying59, asInt, asIntOf, Result.andThen]
abbrev refA (d : Pl.Dc) : Value := .agg #[.int .i64 d.unit, .int .i64 d.node]
open Classical in
/-- The first declaration with a key. -/
noncomputable def fstOf (T : List (List Pl.Rw)) : List Pl.Dc → Value → Option Value
  | [], _ => none
  | d :: D, k => if kyOf T d = k then some (refA d) else fstOf T D k
/-- What the map holds when some of them have been stored. -/
noncomputable def stF (T : List (List Pl.Rw)) (l : List Pl.Dc) : Value → Option Value := l.foldl (fun f d => upd f (kyOf T d) (refA d)) (fun _ => none)
theorem stF_snoc (T : List (List Pl.Rw)) (l : List Pl.Dc) (d : Pl.Dc) : stF T (l ++ [d]) = upd (stF T l) (kyOf T d) (refA d) := by simp [stF, List.foldl_append]
theorem stF_rev (T : List (List Pl.Rw)) (D : List Pl.Dc) : stF T D.reverse = fstOf T D := by
  induction D with
  | nil => rfl
  | cons d D ih =>
    rw [List.reverse_cons, stF_snoc, ih]
    funext k
    by_cases e : k = kyOf T d
    · subst e; rw [upd_same]; unfold fstOf; rw [if_pos rfl]
    · rw [upd_other _ _ e]
      conv => rhs; unfold fstOf
      rw [if_neg (fun h => e h.symm)]
theorem backs_map (D : List Pl.Dc) : (backs D).map (fun x => x.1.2) = D.reverse := by
  apply List.ext_getElem?
  intro k
  rw [List.getElem?_map]
  by_cases h : k < D.length
  · obtain ⟨x, hx, _, h2⟩ := backs_get D k h
    rw [hx, List.getElem?_reverse h, h2]; rfl
  · rw [List.getElem?_eq_none (by rw [backs_len]; omega), List.getElem?_eq_none (by rw [List.length_reverse]; omega)]; rfl
set_option maxHeartbeats 4000000 in
theorem firsts_any (D : List Pl.Dc) (T : List (List Pl.Rw)) (da : Option Addr) (m dc : Nat) (ta : Option Addr) (n tc : Nat) (w : World) (hD : FlatW 5 cellsD w da D) (hm : m = D.length) (hmx : m ≤ 100000) (hT : TabsIn w ta T) (hn : n = T.length) (hl2 : ∀ l ∈ T, l.length ≤ maxLen) (hH : ∀ d ∈ D, Here T d)
    (hK : ∀ d ∈ D, ∃ kl, keyOf Try.prog 68 (kyOf T d) = some kl) :
    Calls Try.prog 33 #[.slice da m dc, .slice ta n tc] w fun e w' => ∃ b, e = .returned (.map (some b)) ∧ w.heap.size ≤ b ∧ MapF w' 68 b m (fstOf T D) ∧ Below w.heap.size w w' := by
  have hmm := make_firsts
  have HKy := Lib.hid (fun (d : Pl.Dc) (hd : d ∈ D) (wx : World) (hb : Below w.heap.size w wx) => keyOf_any T d (hH d hd) ta n tc wx (hT.later hb) hn hl2)
  have HK := Lib.hid hK
  have HD := Lib.hid hD
  have HM := Lib.hid hm
  clear hT hn hl2 hH hK hD hm
  refine (callsIn_wide (n := 6)).1 ?_
  refine callsIn_of_wp_marks Try.func33 rfl trivial ?_ rfl
  simp only [Try.ntmps33, List.size_toArray, List.length_cons, List.length_nil, Nat.reduceAdd, Nat.reduceSub, Array.replicate_succ, Array.replicate_zero, List.push_toArray, List.append_toArray, List.nil_append, List.cons_append]
  gi_wp2_with (refine ⟨trivial, ?_⟩; gi_at_call 55; refine (back_in Fence.wide _ trivial rfl _ _ _ _).mono ?_; rintro e w' ⟨rfl, rfl⟩)
  obtain ⟨W0, hW0⟩ : ∃ W0, W0 = (((w.alloc (.cells #[.slice ta n tc] 39)).alloc (.map #[] 0)).alloc (.cells #[.map (some (w.heap.size + 1))] 59)).alloc (.cells #[.slice da m dc] 61) := ⟨_, rfl⟩
  have hz0 : W0.heap.size = w.heap.size + 4 := by rw [hW0]; simp
  have hb0 : Below w.heap.size w W0 := by rw [hW0]; exact below_4 _ _ _ _ _
  have b0 : W0.heap[w.heap.size]? = some (.cells #[.slice ta n tc] 39 (0, 0)) := by rw [hW0]; exact (Below.heap_alloc _ _ _ (by simp; omega)).trans ((Below.heap_alloc _ _ _ (by simp; omega)).trans ((Below.heap_alloc _ _ _ (by simp)).trans (heap_alloc_new _ _)))
  have b1 : MapF W0 68 (w.heap.size + 1) 0 (stF T []) := by
    refine (MapF.keep (w := (w.alloc (.cells #[.slice ta n tc] 39)).alloc (.map #[] 0)) ?_ ?_)
    · have := mapF_made (w.alloc (.cells #[.slice ta n tc] 39)) 68
      rw [World.size_alloc] at this
      exact this
    · rw [hW0]; exact (Below.heap_alloc _ _ _ (by simp)).trans (Below.heap_alloc _ _ _ (by simp))
  have b2 : W0.heap[w.heap.size + 1 + 1]? = some (.cells #[.map (some (w.heap.size + 1))] 59 (0, 0)) := by
    rw [hW0]
    have := heap_alloc_new ((w.alloc (.cells #[.slice ta n tc] 39)).alloc (.map #[] 0)) (.cells #[.map (some (w.heap.size + 1))] 59)
    simp only [World.size_alloc] at this
    exact (Below.heap_alloc _ _ _ (by simp)).trans this
  have b3 : W0.cell? ⟨w.heap.size + 1 + 1 + 1, 0, none⟩ = some (.slice da m dc) := by
    rw [hW0]
    have := heap_alloc_new (((w.alloc (.cells #[.slice ta n tc] 39)).alloc (.map #[] 0)).alloc (.cells #[.map (some (w.heap.size + 1))] 59)) (.cells #[.slice da m dc] 61)
    simp only [World.size_alloc] at this
    exact (blk_one this 0 _ rfl).1
  rw [← hW0]
  clear hW0 hmm
  refine wpIn_rangeFunc_ownH rfl (by decide) (gf := 68) (lb := #[.pointer (some ⟨w.heap.size + 1 + 1 + 1, 0, none⟩)]) rfl trivial (enters_of Try.func68 (by kernel_rfl) rfl)
    (back_stops Fence.wide (6 - 1) trivial rfl (by decide) (w.heap.size + 1 + 1 + 1) (fun b => b < W0.heap.size ∧ b ≠ w.heap.size + 1) D da m dc HM.out hmx W0 ⟨by omega, by omega, by omega⟩ b3 (Flat.keep HD.out (Same.below hb0 fun _ h => h) (fun b hb => ⟨by omega, by omega, by omega⟩)))
    (fun h k => Kp.trans h k) (fun W l o o' hl h1 h2 h3 => ⟨rfl, rfl, rfl, (grownBy_putObj' W l o').size, fun b hb hs => (grownBy_putObj' W l o').block b hb (fun e => by cases e; omega)⟩) (Below.refl _ _) (fun _ => rfl)
    (fun pre W => (W.heap[w.heap.size]? = some (.cells #[.slice ta n tc] 39 (0, 0)) ∧ MapF W 68 (w.heap.size + 1) pre.length (stF T (pre.map fun x => x.1.2)) ∧ W.heap[w.heap.size + 1 + 1]? = some (.cells #[.map (some (w.heap.size + 1))] 59 (0, 0)) ∧ W0.heap.size ≤ W.heap.size) ∧ Below w.heap.size w W)
    (fun _ _ _ => False)
    (OwnFrom.and (fun s X Y row hs hg hr => ?own) (ownFrom_below (Nat.le_refl _) (by omega)))
    (fun _ _ _ _ _ hs _ _ => hs)
    ⟨⟨b0, b1, b2, Nat.le_refl _⟩, hb0⟩
    (fun x a' W => ∃ Bx, w.heap.size + 1 + 1 + 1 < Bx ∧ W.heap[Bx]? = some (.cells #[.int .i64 x.1.2.kind, .string x.1.2.owner, .string x.1.2.name, .int .i64 x.1.2.unit, .int .i64 x.1.2.node] 77 (0, 0)) ∧ a' = { tmps := #[.slice da m dc, .slice ta n tc, undef, .pointer (some ⟨w.heap.size, 0, none⟩), .map none, .pointer (some ⟨w.heap.size + 1 + 1, 0, none⟩), undef, .pointer (some ⟨Bx, 0, none⟩), .slice da m dc, .int .i64 m, .map (some (w.heap.size + 1)), .slice da m dc, .func (.func 68) #[] #[.pointer (some ⟨w.heap.size + 1 + 1 + 1, 0, none⟩)], .int .i64 x.1.1, decV x.1.2, undef, undef, undef, undef, undef, undef, undef], defers := [] })
    (fun x a' _ X Y row hs hg hr => ?box)
    ?assign ?body ?done ?stop
  case own =>
    obtain ⟨h0, h1, h2, h3⟩ := hs
    have keep : ∀ b, b < W0.heap.size → b < X.heap.size → Y.heap[b]? = X.heap[b]? := fun b hb hx => hg.block b hx (fun e => by have := (hr b e.symm).1; omega)
    exact ⟨(keep _ (by omega) (lt_blk h0)).trans h0, h1.keep (keep _ (by omega) h1.lt), (keep _ (by omega) (lt_blk h2)).trans h2, Nat.le_trans h3 hg.size⟩
  case box =>
    obtain ⟨Bx, h1, h2, h3⟩ := hs
    exact ⟨Bx, h1, (hg.block Bx (lt_blk h2) (fun e => by obtain ⟨_, o, ho, hc⟩ := hr Bx e.symm; rw [h2] at ho; cases ho; cases hc)).trans h2, h3⟩
  case assign =>
    rintro l pre x W K ⟨⟨h0, h1, h2, h3⟩, hB⟩ hK
    have hsz := h1.lt
    have hsz2 := lt_blk h2
    have hW4 : w.heap.size + 1 + 1 + 1 < W.heap.size := by omega
    unfold encD
    simp only [decV] at hK ⊢
    gi_wp2
    exact hK _ _ ((KeepsOthers.alloc _ _).from _) (Kp.below (below_1 _ _)) ⟨⟨(Below.heap_alloc _ _ _ (lt_blk h0)).trans h0, h1.keep (Below.heap_alloc _ _ _ hsz), (Below.heap_alloc _ _ _ hsz2).trans h2, Nat.le_trans h3 (by simp)⟩, hB.alloc hB.size _⟩ ⟨W.heap.size, hW4, heap_alloc_new _ _, rfl⟩
  case body =>
    rintro l pre x a' W hl ⟨r, hr⟩ ⟨⟨h0, h1, h2, h3⟩, hB⟩ ⟨Bx, hBx, hbx, rfl⟩ hlt
    refine wpIn_block ?_
    have hBl := lt_blk hbx
    have hdm : x.1.2 ∈ D := List.mem_of_getElem? x.2
    obtain ⟨kl, hkl⟩ := HK.out _ hdm
    have hQ : ¬ LetsOut (Exit.inBlock 1 (ownPostG W0.heap.size (Kp fun b => b < W0.heap.size ∧ b ≠ w.heap.size + 1) (fun (pre : List (DcAt D)) W => (W.heap[w.heap.size]? = some (.cells #[.slice ta n tc] 39 (0, 0)) ∧ MapF W 68 (w.heap.size + 1) pre.length (stF T (pre.map fun x => x.1.2)) ∧ W.heap[w.heap.size + 1 + 1]? = some (.cells #[.map (some (w.heap.size + 1))] 59 (0, 0)) ∧ W0.heap.size ≤ W.heap.size) ∧ Below w.heap.size w W) (fun _ _ _ => False) (pre ++ [x]) W)) := by
      rintro ⟨a, w, h⟩; exact h
    have c0 : ∀ V : World, (∀ b, b < W.heap.size → b ≠ w.heap.size + 1 → V.heap[b]? = W.heap[b]?) → V.cell? ⟨w.heap.size + 1 + 1, 0, none⟩ = some (.map (some (w.heap.size + 1))) := fun V hV => (World.cell?_of_block (w := W) (a := ⟨w.heap.size + 1 + 1, 0, none⟩) (hV (w.heap.size + 1 + 1) (lt_blk h2) (by omega))).trans (blk_one h2 0 _ rfl).1
    have c1 : ∀ V : World, (∀ b, b < W.heap.size → b ≠ w.heap.size + 1 → V.heap[b]? = W.heap[b]?) → V.cell? ⟨w.heap.size, 0, none⟩ = some (.slice ta n tc) := fun V hV => (World.cell?_of_block (w := W) (a := ⟨w.heap.size, 0, none⟩) (hV w.heap.size (lt_blk h0) (by omega))).trans (blk_one h0 0 _ rfl).1
    have c2 : ∀ V : World, (∀ b, b < W.heap.size → b ≠ w.heap.size + 1 → V.heap[b]? = W.heap[b]?) → V.heap[Bx]? = some (.cells #[.int .i64 x.1.2.kind, .string x.1.2.owner, .string x.1.2.name, .int .i64 x.1.2.unit, .int .i64 x.1.2.node] 77 (0, 0)) := fun V hV => (hV Bx hBl (by omega)).trans hbx
    refine region_round (by kernel_rfl) hQ ?nd (fun V => ∀ b, b < W.heap.size → b ≠ w.heap.size + 1 → V.heap[b]? = W.heap[b]?) ?_
    case nd =>
      intro j o h c
      rcases j with _ | _ | _ | _ | _ | _ | _ | j <;> simp at h <;> subst h <;> simp
    have hS0 : ∀ b, b < W.heap.size → b ≠ w.heap.size + 1 → W.drew.heap[b]? = W.heap[b]? := fun _ _ _ => rfl
    refine wpAnyH_take (i := 0) (v := .map (some (w.heap.size + 1))) rfl (by kernel_rfl) (by kernel_rfl) (by kernel_rfl) (fun _ _ _ h => h) (Or.inl ⟨by rfl, fun V hV => ?l0⟩) hS0 ?_
    case l0 =>
      have := c0 V hV
      go_simp
    simp only [Act.put, List.setIfInBounds_toArray, List.set_cons_zero, List.set_cons_succ]
    refine wpAnyH_take (i := 1) (v := .agg #[.int .i64 x.1.2.kind, .string x.1.2.owner, .string x.1.2.name, .int .i64 x.1.2.unit, .int .i64 x.1.2.node]) rfl (by kernel_rfl) (by kernel_rfl) (by kernel_rfl) (fun _ _ _ h => h) (Or.inl ⟨by rfl, fun V hV => ?l1⟩) hS0 ?_
    case l1 =>
      obtain ⟨⟨p0, p1, p2, p3, p4⟩, pl⟩ := blk_five (c2 V hV)
      go_simp
    simp only [Act.put, List.setIfInBounds_toArray, List.set_cons_zero, List.set_cons_succ]
    refine wpAnyH_take (i := 2) (v := .slice ta n tc) rfl (by kernel_rfl) (by kernel_rfl) (by kernel_rfl) (fun _ _ _ h => h) (Or.inl ⟨by rfl, fun V hV => ?l2⟩) hS0 ?_
    case l2 =>
      have := c1 V hV
      go_simp
    simp only [Act.put, List.setIfInBounds_toArray, List.set_cons_zero, List.set_cons_succ]
    refine wpAnyH_take (i := 4) (v := .pointer (some ⟨Bx, 3, none⟩)) rfl (by kernel_rfl) (by kernel_rfl) (by kernel_rfl) (fun _ _ _ h => h) (Or.inl ⟨by rfl, fun V hV => ?l4⟩) hS0 ?_
    case l4 => go_simp
    simp only [Act.put, List.setIfInBounds_toArray, List.set_cons_zero, List.set_cons_succ]
    refine wpAnyH_take (i := 5) (v := refA x.1.2) rfl (by kernel_rfl) (by kernel_rfl) (by kernel_rfl) (fun _ _ _ h => h) (Or.inl ⟨by rfl, fun V hV => ?l5⟩) hS0 ?_
    case l5 =>
      obtain ⟨⟨p0, p1, p2, p3, p4⟩, pl⟩ := blk_five (c2 V hV)
      go_simp
    simp only [Act.put, List.setIfInBounds_toArray, List.set_cons_zero, List.set_cons_succ]
    refine wpAnyH_all (rs := [3]) (by kernel_rfl) (by simp) (fun i hi => ?_)
    obtain rfl : i = 3 := by simpa using hi
    unfold wpOp
    simp only [List.getElem?_toArray, List.getElem?_cons_succ, List.getElem?_cons_zero]
    rw [if_pos (by rfl)]
    left
    unfold Oper.wp
    go_simp
    refine (HKy.out x.1.2 hdm W.drew (hB.drew)).mono ?_
    rintro e V ⟨rfl, hbV⟩
    have hSV : ∀ b, b < W.heap.size → b ≠ w.heap.size + 1 → V.heap[b]? = W.heap[b]? := fun b hb _ => hbV.block b hb
    have hbWV : Below W.heap.size W V := (Below.refl _ _).drew.trans hbV
    refine ⟨hSV, ?_⟩
    obtain ⟨V2, hrun, hm2, hg2⟩ := (h1.keep (hbWV.block _ h1.lt)).store (t := 59) kyKeyed Try.underlying59 (by unfold maxLen; omega) hkl (refA x.1.2)
    refine wpAnyH_all (rs := [6]) (by kernel_rfl) (by simp) (fun i hi => ?_)
    obtain rfl : i = 6 := by simpa using hi
    unfold wpOp
    simp only [List.getElem?_toArray, List.getElem?_cons_succ, List.getElem?_cons_zero]
    rw [if_pos (by rfl)]
    left
    unfold Oper.wp
    have hrun2 := hrun
    simp only [refA] at hrun2
    simp [execOp, hrun, hrun2, Result.andThen, Oper.upon, Act.eval, Act.put]
    have hSV2 : ∀ b, b < W.heap.size → b ≠ w.heap.size + 1 → V2.heap[b]? = W.heap[b]? := fun b hb hne => (hg2.block b (Nat.lt_of_lt_of_le hb hbWV.size) (fun e => hne (by cases e; rfl))).trans (hSV b hb hne)
    have hsz2 : W.heap.size ≤ V2.heap.size := Nat.le_trans hbWV.size hg2.size
    refine ⟨hSV2, wpAnyH_done (by kernel_rfl) ?_ _⟩
    refine ⟨⟨hsz2, fun k o hk ho hc => (hSV2 k (Array.getElem?_eq_some_iff.1 ho).1 (by omega)).trans ho⟩, ⟨hg2.os.trans hbWV.os, hg2.tape.trans hbWV.tape, hg2.output.trans hbWV.output, hsz2, fun b hb hs => hSV2 b hb hs.2⟩, ⟨(hSV2 _ (lt_blk h0) (by omega)).trans h0, ?_, (hSV2 _ (lt_blk h2) (by omega)).trans h2, (by omega)⟩, (hB.trans (hbWV.mono hB.size)).grown hg2 (Nat.le_trans hB.size hbWV.size) (fun k e => by cases e; omega)⟩
    rw [List.length_append, List.map_append, List.map_cons, List.map_nil, stF_snoc]
    exact hm2
  case done =>
    rintro Dd ys W hD rfl ⟨⟨h0, h1, h2, h3⟩, hB⟩ hK2
    have cm := (blk_one h2 0 _ rfl).1
    gi_wp2
    refine ⟨by simp, .inl ⟨_, _, rfl, run_takeDeferred hK2, ?_⟩⟩
    refine ⟨_, results_tmp rfl _ _ _, w.heap.size + 1, rfl, by omega, ?_, hB.trans (belowK_b (w := W0) (n₀ := w.heap.size) (by omega) W Dd _ _ hD hK2 rfl rfl)⟩
    rw [backs_len, ← HM.out, backs_map, stF_rev] at h1
    exact h1.keep ((grownBy_putObj' W Dd _).block _ h1.lt (fun e => by cases e; omega))
  case stop =>
    rintro Dd c pre W _ _ h _
    exact h.elim
end Go.Proofs.Ytoelfiendfemaaa
