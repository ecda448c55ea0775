/- The walk of Layout's step. -/
import Derived.Test.YtiaajpdcacdngaaGreatDoorWNodeL
import Derived.Test.YtiaajpdcacdngaaGreatDoorWStepW
import Derived.Test.YtiaajpdcacdngaaGreatDoorWBare
import Derived.Deep.RegionLaw
namespace Go.Proofs.YtiaajpdcacdngaaGreatDoor
open Go.RowKit
set_option linter.unusedVariables false
set_option linter.unusedSimpArgs false

/-- What Layout's step leaves. -/
def Lay1 (b o n c : Nat) (a : Option Addr) (R0 : Nat) (xs : List ByteArray) (gap : ByteArray) (w : World) (e : Ending) (w' : World) : Prop :=
  e = .returned (.tuple #[]) ∧ ∃ (gg cap : Nat) (W w3 : World), w' = w3.setCell ⟨b, o + 2, none⟩ (.slice (some ⟨gg, 0, none⟩) (n + 1) cap) ∧ w3.ownsRow R0 9 1 (.slice (some ⟨gg, 0, none⟩) (n + 1) cap) (n + 1) (strV xs ++ [.string gap]) ∧
    Below w.heap.size w W ∧ W.grownBy w3 (Value.slice a n c).ownBlock ∧ ((Value.slice a n c).ownBlock = some gg ∨ w.heap.size ≤ gg)
set_option maxRecDepth 100000 in
set_option maxHeartbeats 1600000 in
theorem layout1_any (b o n c : Nat) (own : Int) (gap t : ByteArray) (a : Option Addr) (R0 : Nat) (xs : List ByteArray) (w : World) (hc : w.cell? ⟨b, o + 2, none⟩ = some (.slice a n c)) (hf : w.frozen? ⟨b, o + 2, none⟩ = false) (hrow : w.ownsRow R0 9 1 (.slice a n c) n (strV xs)) (hb : b < R0) (hR : R0 ≤ w.heap.size) (hn : n ≤ 1000000) :
    Calls Tryz.prog 36 #[.agg #[.pointer (some ⟨b, o, none⟩), .int .i64 own, .string gap, .string t]] w (Lay1 b o n c a R0 xs gap w) := by
  obtain ⟨i0, hi0, hz0, hz1, hz2⟩ := info_parts infoS
  have hbw : b < w.heap.size := by omega
  have hne : some b ≠ (Value.slice a n c).ownBlock := fun e => by have := (hrow.lt b e.symm).1; omega
  obtain ⟨W0, hW0⟩ : ∃ W0, W0 = w.alloc (.cells #[.pointer (some ⟨b, o, none⟩), .int .i64 own, .string gap, .string t] 46) := ⟨_, rfl⟩
  have hs0 : W0.heap.size = w.heap.size + 1 := by rw [hW0]; simp
  have hbl : W0.heap[b]? = w.heap[b]? := by rw [hW0]; exact Below.heap_alloc _ _ _ hbw
  have hlow : Below w.heap.size w W0 := by rw [hW0]; exact box_low _ _
  have hbox : W0.heap[w.heap.size]? = some (.cells #[.pointer (some ⟨b, o, none⟩), .int .i64 own, .string gap, .string t] 46 (0, 0)) := by rw [hW0]; exact heap_alloc_new _ _
  have x2 : W0.drew.cell? ⟨b, o + 2, none⟩ = some (.slice a n c) := (World.cell?_of_block (w := w) (w' := W0) (a := ⟨b, o + 2, none⟩) hbl).trans hc
  have f2 : W0.drew.frozen? ⟨b, o + 2, none⟩ = false := (World.frozen?_of_block (w := w) (w' := W0) (a := ⟨b, o + 2, none⟩) hbl).trans hf
  have p0 : W0.drew.cell? ⟨w.heap.size, 0, none⟩ = some (.pointer (some ⟨b, o, none⟩)) := (cell_of_row W0 w.heap.size 0 _ _ _ hbox)
  have p2 : W0.drew.cell? ⟨w.heap.size, 2, none⟩ = some (.string gap) := (cell_of_row W0 w.heap.size 2 _ _ _ hbox)
  have x2a : (W0.alloc (.cells #[.string gap] 9)).cell? ⟨b, o + 2, none⟩ = some (.slice a n c) := (World.cell?_of_block (w := W0) (a := ⟨b, o + 2, none⟩) (Below.heap_alloc W0 _ b (by omega))).trans x2
  have p0a : (W0.alloc (.cells #[.string gap] 9)).cell? ⟨w.heap.size, 0, none⟩ = some (.pointer (some ⟨b, o, none⟩)) := (World.cell?_of_block (w := W0) (a := ⟨w.heap.size, 0, none⟩) (Below.heap_alloc W0 _ _ (by show w.heap.size < _; omega))).trans p0
  have p2a : (W0.alloc (.cells #[.string gap] 9)).cell? ⟨w.heap.size, 2, none⟩ = some (.string gap) := (World.cell?_of_block (w := W0) (a := ⟨w.heap.size, 2, none⟩) (Below.heap_alloc W0 _ _ (by show w.heap.size < _; omega))).trans p2
  have HR : Hid ((W0.alloc (.cells #[.string gap] 9)).drew.ownsRow R0 9 1 (.slice a n c) n (strV xs)) := Lib.hid ((owns_later hrow hlow).alloc (.cells #[.string gap] 9))
  have HNews : Hid (∀ j u, ([.string gap] : List Value)[j]? = some u → (W0.alloc (.cells #[.string gap] 9)).drew.cell? ((⟨W0.heap.size, 0, none⟩ : Addr).add j) = some u) := Lib.hid (news_str W0 gap)
  have HBX : Hid (((W0.alloc (.cells #[.string gap] 9)).drew).heap[w.heap.size]? = some (.cells #[.pointer (some ⟨b, o, none⟩), .int .i64 own, .string gap, .string t] 46 (0, 0))) := Lib.hid ((Below.heap_alloc W0 _ _ (by omega)).trans hbox)
  have HNE2 : Hid (some w.heap.size ≠ (Value.slice a n c).ownBlock) := Lib.hid (fun e => by have := (hrow.lt _ e.symm).2; omega)
  have HLow := Lib.hid hlow
  have HBL : Hid (((W0.alloc (.cells #[.string gap] 9)).drew).heap[b]? = w.heap[b]?) := Lib.hid ((Below.heap_alloc W0 _ b (by omega)).trans hbl)
  have HX := Lib.hid hc
  have HFR := Lib.hid hf
  have HNE := Lib.hid hne
  have HS0 := Lib.hid hs0
  have hge : w.heap.size < W0.heap.size := by omega
  clear hlow hbl hrow hbox hs0 hne
  go_enter Tryz.func36, Tryz.ntmps36
  go_wp2_with fail
  rw [← hW0]
  clear hW0 hc hf
  go_region_law
    ((refine step_append_lies _ (by rfl) _ _ _ (by rfl) R0 9 i0 _ 1 16 Tryz.underlying22 hi0 hz0 hz1 hz2 rfl (by decide) (.slice a n c) n (strV xs) (by rfl) HR.out ⟨W0.heap.size, 0, none⟩ 1 1 [.string gap] (by rfl) (by rfl) HNews.out (one_str _) (by decide) (by unfold maxLen; omega) (by omega) (by show R0 ≤ (W0.alloc _).heap.size; simp; omega) (W0.heap.size + 1) (by show (W0.alloc _).heap.size = _; simp) ?_; intro gg cap w3 hown hgrow hat3 hlt3; have hblk3 := (hgrow.block b (by show b < (W0.alloc _).heap.size; simp; omega) HNE.out).trans HBL.out; have y2 := (World.cell?_of_block (w := w) (w' := w3) (a := ⟨b, o + 2, none⟩) hblk3).trans HX.out; have z2 := (World.frozen?_of_block (w := w) (w' := w3) (a := ⟨b, o + 2, none⟩) hblk3).trans HFR.out; have hbx3 := (hgrow.block w.heap.size (by show _ < (W0.alloc _).heap.size; simp; omega) HNE2.out).trans HBX.out; have q0 := (cell_of_row w3 w.heap.size 0 _ _ _ hbx3); have q2 := (cell_of_row w3 w.heap.size 2 _ _ _ hbx3); have HOwn := Lib.hid hown; have HGrow := Lib.hid hgrow; have HAt := Lib.hid hat3; clear hown hgrow hat3 hblk3 hbx3))
  all_goals go_wp2_with fail
  all_goals go_end0
  all_goals exact ⟨rfl, gg, cap, (W0.alloc (.cells #[.string gap] 9)).drew, w3, rfl, HOwn.out, (HLow.out.alloc (Nat.le_of_lt hge) _).drew, HGrow.out, HAt.out.elim .inl fun h => .inr (by omega)⟩
end Go.Proofs.YtiaajpdcacdngaaGreatDoor
