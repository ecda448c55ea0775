/- The walk of copyTexts. -/
import Derived.Test.YtidmbdilediplaaWalkFind
import Derived.Deep.OwnRows
import Derived.Laws.CopyOwn
namespace Go.Proofs.Ytidmbdilediplaa
open Go.RowKit Go.Deep
set_option linter.unusedVariables false
set_option linter.unusedSimpArgs false

theorem infoS : (Try.prog.info? 9).map (fun i => (i.zero, i.size, i.bytes)) = some (some (.string ⟨#[]⟩), 1, 16) := by kernel_rfl
theorem sizeS : (Try.prog.info? 9).map (·.size) = some 1 := by kernel_rfl
/-- Strings in new memory. -/
def TextsP (xs : List ByteArray) (w1 : World) (e : Ending) (w' : World) : Prop :=
  ∃ b, e = .returned (.slice (some ⟨b, 0, none⟩) xs.length xs.length) ∧ b = w1.heap.size ∧ Strs (fun x => x = b) w' (some ⟨b, 0, none⟩) xs ∧ Below w1.heap.size w1 w' ∧ b < w'.heap.size
theorem splice_all {α : Type} (a b : List α) (h : a.length = b.length) : splice a 0 b = b := by
  unfold splice
  rw [List.take_zero, Nat.zero_add, List.drop_of_length_le (by omega)]; simp
set_option maxHeartbeats 400000 in
theorem texts_any {P : Nat → Prop} {w1 : World} (a : Option Addr) (c : Nat) (xs : List ByteArray) (h : Strs P w1 a xs) (hn : xs.length ≤ 1099511627776) :
    Calls Try.prog 48 #[.slice a xs.length c] w1 (TextsP xs w1) := by
  have hmk := run_make_row' (P := Try.prog) 22 9 (.string ⟨#[]⟩) 16 Try.underlying22 infoS rfl .i64 .i64 xs.length (by omega) (by omega)
  have HX := Lib.hid h
  have hlen : ((xs.map Value.string).length) = xs.length := List.length_map _
  have HL := Lib.hid hlen
  clear h hlen
  go_enter Try.func48, Try.ntmps48
  go_wp2_with (refine wpList_copy_splice rfl _ _ 22 22 rfl 9 Try.underlying22 sizeS _ _ _ _ _ _ rfl rfl w1.heap.size 0 (madeCells #[.string ⟨#[]⟩] xs.length).toList 9 (by simpa using heap_alloc_new _ _) (xs.map Value.string) (by simp) ?hpos (by simp [size_madeCells]) (by simp [Value.oneCell']) w1.heap.size w1 ((Below.refl _ _).alloc (Nat.le_refl _) _) (Nat.le_refl _) ?next)
  case hpos =>
    intro h0
    rcases HX.out.2.2 with h1 | ⟨b, o, rfl, _, hat⟩
    · rw [h1] at h0; cases h0
    · refine ⟨_, rfl, fun j v hv => ?_⟩
      rw [Addr.add_mid]
      have hc := hat j v hv
      have hlt := World.block_lt_of_cell? w1 _ hc
      exact (World.cell?_of_block (w := w1) (a := ⟨b, o + j, none⟩) (Below.heap_alloc _ _ _ hlt)).trans hc
  case next =>
    intro w2 hblk hb
    have HB := Lib.hid hb
    clear hb
    go_wp2_with fail
    go_ret
    have hblk2 := hblk.out
    rw [splice_all _ _ (by simp [size_madeCells])] at hblk2
    refine ⟨_, rfl, rfl, ⟨HX.out.1, HX.out.2.1, .inr ⟨_, 0, rfl, rfl, fun j x hx => ?_⟩⟩, HB.out, lt_of_block hblk2⟩
    rw [cell_of_row _ _ _ _ _ _ hblk2]
    simp [hx]
end Go.Proofs.Ytidmbdilediplaa
