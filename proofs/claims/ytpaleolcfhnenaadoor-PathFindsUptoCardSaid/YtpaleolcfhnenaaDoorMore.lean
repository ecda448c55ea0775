/- Boxes of nodes, rows that a call makes by append, and what lies in them. -/
import Derived.Test.YtpaleolcfhnenaaDoorBRCheck
import Derived.Deep.AppendLies
import Derived.Deep.DeepCutAuto
import Derived.Deep.RegionLaw
import Derived.Deep.RegionWith
import Derived.Deep.RegionHeld3
import Derived.Laws.OwnMore
namespace Go.Proofs.YtpaleolcfhnenaaDoor
open Go.RowKit
set_option linter.unusedVariables false
set_option linter.unusedSimpArgs false

theorem blk_cells {w : World} {b : Nat} {v0 v1 v2 v3 : Value} {T : TypeId} (h : w.heap[b]? = some (.cells #[v0, v1, v2, v3] T (0, 0))) :
    (w.cell? ⟨b, 0, none⟩ = some v0 ∧ w.cell? ⟨b, 1, none⟩ = some v1 ∧ w.cell? ⟨b, 2, none⟩ = some v2 ∧ w.cell? ⟨b, 3, none⟩ = some v3) ∧
    (w.frozen? ⟨b, 0, none⟩ = false ∧ w.frozen? ⟨b, 1, none⟩ = false ∧ w.frozen? ⟨b, 2, none⟩ = false ∧ w.frozen? ⟨b, 3, none⟩ = false) := by
  refine ⟨⟨?_, ?_, ?_, ?_⟩, ?_, ?_, ?_, ?_⟩
  · rw [cell_of_row _ _ _ _ _ _ h]; rfl
  · rw [cell_of_row _ _ _ _ _ _ h]; rfl
  · rw [cell_of_row _ _ _ _ _ _ h]; rfl
  · rw [cell_of_row _ _ _ _ _ _ h]; rfl
  all_goals simp [World.frozen?, h]
theorem heap_at2 (w : World) (o1 o2 : Obj) : ((w.alloc o1).alloc o2).heap[w.heap.size + 1]? = some o2 := by
  have h := heap_alloc_new (w.alloc o1) o2
  rw [show (w.alloc o1).heap.size = w.heap.size + 1 from by simp] at h
  exact h
theorem two_after {w w2 : World} {o1 o2 : Obj} (hb : Below ((w.alloc o1).alloc o2).heap.size ((w.alloc o1).alloc o2) w2) :
    w2.heap[w.heap.size]? = some o1 ∧ w2.heap[w.heap.size + 1]? = some o2 ∧ Below w.heap.size w w2 ∧ w.heap.size + 1 < w2.heap.size := by
  have hz := hb.size
  simp at hz
  have e1 : w2.heap[w.heap.size]? = (w.alloc o1).heap[w.heap.size]? := (hb.block _ (by simp <;> omega)).trans (Below.heap_alloc _ _ _ (by simp))
  have e2 := hb.block (w.heap.size + 1) (by simp)
  exact ⟨e1.trans (heap_alloc_new _ _), e2.trans (heap_at2 _ _ _), (((Below.refl _ _).alloc (Nat.le_refl _) _).alloc (by simp) _).trans (hb.mono (by simp <;> omega)), by omega⟩
theorem below_set4 {B b : Nat} {w w2 : World} {v0 v1 v2 v3 : Value} (h : Below B w w2) (hb : B ≤ b) : Below B w ((((w2.setCell ⟨b, 0, none⟩ v0).setCell ⟨b, 1, none⟩ v1).setCell ⟨b, 2, none⟩ v2).setCell ⟨b, 3, none⟩ v3) :=
  (((h.setCell (p := ⟨b, 0, none⟩) hb _).setCell (p := ⟨b, 1, none⟩) hb _).setCell (p := ⟨b, 2, none⟩) hb _).setCell (p := ⟨b, 3, none⟩) hb _
theorem heap_set4 {b x : Nat} {w2 : World} {v0 v1 v2 v3 : Value} (hb : x ≠ b) : ((((w2.setCell ⟨b, 0, none⟩ v0).setCell ⟨b, 1, none⟩ v1).setCell ⟨b, 2, none⟩ v2).setCell ⟨b, 3, none⟩ v3).heap[x]? = w2.heap[x]? :=
  (Below.heap_setCell _ ⟨b, 3, none⟩ _ x hb).trans ((Below.heap_setCell _ ⟨b, 2, none⟩ _ x hb).trans ((Below.heap_setCell _ ⟨b, 1, none⟩ _ x hb).trans (Below.heap_setCell _ ⟨b, 0, none⟩ _ x hb)))
theorem infoN : (Tryd.prog.info? 25).map (fun i => (i.zero, i.size, i.bytes)) = some (some (.agg #[.int .i64 0, .string ⟨#[]⟩, .slice none 0 0, .slice none 0 0]), 4, 72) := by kernel_rfl
theorem lt_blk {w : World} {b : Nat} {o : Obj} (h : w.heap[b]? = some o) : b < w.heap.size := (Array.getElem?_eq_some_iff.1 h).1
theorem owns_later {w w' : World} {B : Nat} {e : TypeId} {size n : Nat} {v : Value} {xs : List Value} (h : w.ownsRow B e size v n xs) (hb : Below w.heap.size w w') : w'.ownsRow B e size v n xs := by
  refine ⟨h.1, ?_⟩
  rcases h.2 with h2 | ⟨g, cap, cur, h1, h2, h3, h4⟩
  · exact .inl h2
  · exact .inr ⟨g, cap, cur, h1, h2, by rw [hb.block g (lt_blk h3)]; exact h3, h4⟩
theorem info_parts {sz by' : Nat} {z : Value} {o : Option TypeInfo} (h : o.map (fun i => (i.zero, i.size, i.bytes)) = some (some z, sz, by')) : ∃ i, o = some i ∧ i.zero = some z ∧ i.size = sz ∧ i.bytes = by' := by
  obtain ⟨i, hi, hzz⟩ := Option.map_eq_some_iff.1 h
  simp only [Prod.mk.injEq] at hzz
  exact ⟨i, hi, hzz.1, hzz.2.1, hzz.2.2⟩
theorem news_at {w : World} {o : Obj} {T : TypeId} (n : Nat) (vs : List Value) (h : vs.length = n) : ∀ (j : Nat) u, vs[j]? = some u → ((w.alloc o).alloc (.cells vs.toArray T)).cell? ((⟨w.heap.size + 1, 0, none⟩ : Addr).add j) = some u := by
  have := World.news_of_block (w := (w.alloc o).alloc (.cells vs.toArray T)) (cs := vs.toArray) (t := T) (fr := (0, 0)) (heap_alloc_new (w.alloc o) _)
  simpa using this
theorem kids_node (k : Int) (s : ByteArray) (g : List ByteArray) (ks : List Pl.Tr) : (Pl.Tr.node k s g ks).kids = ks := rfl
theorem gaps_node (k : Int) (s : ByteArray) (g : List ByteArray) (ks : List Pl.Tr) : (Pl.Tr.node k s g ks).gaps = g := rfl
theorem text_node (k : Int) (s : ByteArray) (g : List ByteArray) (ks : List Pl.Tr) : (Pl.Tr.node k s g ks).text = s := rfl
theorem kind_node (k : Int) (s : ByteArray) (g : List ByteArray) (ks : List Pl.Tr) : (Pl.Tr.node k s g ks).kind = k := rfl
theorem cell_past (b : Nat) : ∀ (wx : World) (ob : Obj) (f : Nat), b < wx.heap.size → (wx.alloc ob).cell? ⟨b, f, none⟩ = wx.cell? ⟨b, f, none⟩ :=
  fun wx ob f h => World.cell?_of_block (w := wx) (a := ⟨b, f, none⟩) (Below.heap_alloc _ _ _ h)
def cells4 (x : Pl.Tr × Sl) : List Value := [.int .i64 x.1.kind, .string x.1.text, .slice x.2.ga x.1.gaps.length x.2.gc, .slice x.2.da x.1.kids.length x.2.dc]
def row4 (L : List (Pl.Tr × Sl)) : List Value := L.flatMap cells4
theorem row4_snoc (L : List (Pl.Tr × Sl)) (t : Pl.Tr × Sl) : row4 (L ++ [t]) = row4 L ++ cells4 t := by unfold row4; simp
theorem row4_len (L : List (Pl.Tr × Sl)) : (row4 L).length = L.length * 4 := by
  induction L with
  | nil => rfl
  | cons t L ih => unfold row4 at ih ⊢; rw [List.flatMap_cons, List.length_append, ih, List.length_cons]; show 4 + _ = _; omega
theorem row4_get (L : List (Pl.Tr × Sl)) (j : Nat) (t : Pl.Tr × Sl) (h : L[j]? = some t) (f : Nat) (hf : f < 4) : (row4 L)[j * 4 + f]? = (cells4 t)[f]? := by
  induction L generalizing j with
  | nil => simp at h
  | cons a L ih =>
    have e : row4 (a :: L) = cells4 a ++ row4 L := by unfold row4; rw [List.flatMap_cons]
    rw [e]
    match j, h with
    | 0, h =>
      obtain rfl : a = t := by simpa using h
      rw [List.getElem?_append_left (by show 0 * 4 + f < 4; omega)]
      congr 1; omega
    | j + 1, h =>
      rw [List.getElem?_append_right (by show 4 ≤ _; omega)]
      have := ih j (by simpa using h)
      rw [← this]
      congr 1; show (j + 1) * 4 + f - 4 = _; omega
/-- What lies in a row of the call's own. -/
theorem owns_at {w : World} {B n : Nat} {v : Value} {L : List (Pl.Tr × Sl)} (h : w.ownsRow B 25 4 v n (row4 L)) (hn : n = L.length) (h0 : 0 < n) :
    ∃ g cap, v = .slice (some ⟨g, 0, none⟩) n cap ∧ B ≤ g ∧ g < w.heap.size ∧ n ≤ maxLen ∧ ∀ (j : Nat) x, L[j]? = some x → AtT w g (0 + j * 4) x.1 x.2 := by
  rcases h.2 with ⟨rfl, h3⟩ | ⟨g, cap, cur, rfl, hg, hh, hn1, hm, hz, ht⟩
  · omega
  · refine ⟨g, cap, rfl, hg, lt_blk hh, by omega, fun j x hj => ?_⟩
    have hjl := (List.getElem?_eq_some_iff.1 hj).1
    have one : ∀ f, f < 4 → w.cell? ⟨g, 0 + j * 4 + f, none⟩ = (cells4 x)[f]? := by
      intro f hf
      have h4 := row4_get L j x hj f hf
      rw [← ht, List.getElem?_take, if_pos (by omega)] at h4
      rw [cell_of_row w g _ cur _ _ hh, ← h4, Nat.zero_add]
      simp
    exact ⟨one 0 (by decide), one 1 (by decide), one 2 (by decide), one 3 (by decide)⟩
theorem three_new (w : World) (o1 o2 o3 : Obj) : (((w.alloc o1).alloc o2).alloc o3).heap[w.heap.size]? = some o1 ∧ (((w.alloc o1).alloc o2).alloc o3).heap[w.heap.size + 1]? = some o2 ∧ (((w.alloc o1).alloc o2).alloc o3).heap[w.heap.size + 2]? = some o3 ∧
    Below w.heap.size w (((w.alloc o1).alloc o2).alloc o3) ∧ (((w.alloc o1).alloc o2).alloc o3).heap.size = w.heap.size + 3 := by
  obtain ⟨h1, h2, h3, h4⟩ := two_after (w := w) (o1 := o1) (o2 := o2) (Below.refl _ _)
  refine ⟨(Below.heap_alloc _ _ _ (by simp; omega)).trans h1, (Below.heap_alloc _ _ _ (by simp)).trans h2, ?_, h3.alloc (by simp; omega) _, by simp⟩
  have h := heap_alloc_new ((w.alloc o1).alloc o2) o3
  rw [show ((w.alloc o1).alloc o2).heap.size = w.heap.size + 2 from by simp] at h
  exact h
/-- Behind a box: what was there is as it was. -/
theorem same_box {P : Nat → Prop} {w w1 : World} {o : Obj} (hs : Same P w w1) (hP : ∀ b, P b → b < w.heap.size) (hge : w.heap.size ≤ w1.heap.size) : Same P w (w1.alloc o) :=
  hs.trans (Same.below ((Below.refl _ _).alloc (Nat.le_refl _) _) fun b hb => Nat.lt_of_lt_of_le (hP b hb) hge)
end Go.Proofs.YtpaleolcfhnenaaDoor
