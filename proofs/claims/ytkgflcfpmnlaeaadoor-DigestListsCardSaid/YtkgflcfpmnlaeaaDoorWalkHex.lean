/- The walk of digest.Hex. -/
import Derived.Test.YtkgflcfpmnlaeaaDoorWalkPar
namespace Go.Proofs.YtkgflcfpmnlaeaaDoor
open Go.RowKit
set_option linter.unusedVariables false
set_option linter.unusedSimpArgs false

theorem ret_str {a b : ByteArray} (h : a = b) : Ending.returned (.string a) = .returned (.string b) := by rw [h]

set_option maxHeartbeats 800000 in
theorem hex_any (d : Nat) (w : World) (hg : Digs w) (hd : d < 18446744073709551616) :
    Calls Tryd.prog 19 #[.int .u64 d] w fun e w' => e = .returned (.string (Pl.hexS d)) ∧ Below w.heap.size w w' := by
  have HD := Lib.hid hd
  clear hd
  go_enter Tryd.func19, Tryd.ntmps19
  go_wp2
  go_loopw [5] (fun i wr => ∃ k : Nat, k ≤ 16 ∧ i = .int .i64 k ∧ wr.heap[w.heap.size]? = some (.cells (Pl.hexA d k) 41 (0, 0)) ∧ Below w.heap.size w wr) (fun i _ => (16 - intOf i).toNat)
  case atStart => exact ⟨0, by omega, rfl, heap_alloc_new _ _, (Below.refl _ _).alloc (Nat.le_refl _) _⟩
  case round =>
    obtain ⟨k, hk, rfl, hrow, hbel⟩ := hrel
    have HR := Lib.hid hrow
    clear hrow
    by_cases hp : k < 16
    · have hn := Pl.nib_bits d k HD.out
      have hn2 := Pl.nib_lt d k
      have hc : wr.cell? ⟨0, Pl.nib d k, none⟩ = some (.int .u8 (Pl.hx (Pl.nib d k))) := (hg.later hbel).cell _ hn2
      have hf : wr.frozen? ⟨w.heap.size, k, none⟩ = false := frozen_of_row _ _ _ _ _ HR.out
      have hc2 : wr.cell? ⟨w.heap.size, k, none⟩ = some (.int .u8 0) := by rw [cell_of_row _ _ _ _ _ _ HR.out]; simp [Pl.hexA, hp]
      go_wp2
      refine ⟨⟨k + 1, by omega, by go_num, ?_, hbel.setCell (Nat.le_refl _) _⟩, by simp [intOf]; omega⟩
      rw [heap_setCell_same _ _ _ _ _ _ HR.out, Pl.hexA_succ _ _ hp]
    · have hk16 : k = 16 := by omega
      subst hk16
      have hcv := run_convert_bytes_arg (P := Tryd.prog) wr 36 5 Tryd.underlying36 Tryd.underlying5 w.heap.size 0 16 16 (List.map (fun k => (Pl.hx (Pl.nib d k) : Int)) (List.range 16)) (by simp) (fun i hi => by
        rw [Nat.zero_add, cell_of_row _ _ _ _ _ _ HR.out, Pl.hexA_at _ _ hi]) 9 Tryd.underlying9
      rw [Pl.hexA_str] at hcv
      go_wp2
      go_ret
      exact ⟨rfl, hbel⟩
end Go.Proofs.YtkgflcfpmnlaeaaDoor
