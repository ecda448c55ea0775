/- The walk of the law's examples. -/
import Derived.Test.YtkgflcfpmnlaeaaDoorWalkList
namespace Go.Proofs.YtkgflcfpmnlaeaaDoor
open Go.RowKit
set_option linter.unusedVariables false
set_option linter.unusedSimpArgs false

def s255 : ByteArray := ⟨#[48, 48, 48, 48, 48, 48, 48, 48, 48, 48, 48, 48, 48, 48, 102, 102]⟩

theorem parse_255 (w : World) (hg : Digs w) : Calls Tryd.prog 17 #[.string ⟨#[48, 48, 48, 48, 48, 48, 48, 48, 48, 48, 48, 48, 48, 48, 102, 102]⟩] w fun e w' => e = .returned (.tuple #[.int .u64 255, .int .i64 0]) ∧ w = w' :=
  (parse_any _ w hg (by decide)).mono fun e w' ⟨h1, h2⟩ => ⟨by rw [h1]; exact ret_par Pl.par_255.1 Pl.par_255.2, h2⟩
theorem parse_FF (w : World) (hg : Digs w) : Calls Tryd.prog 17 #[.string ⟨#[48, 48, 48, 48, 48, 48, 48, 48, 48, 48, 48, 48, 48, 48, 70, 70]⟩] w fun e w' => e = .returned (.tuple #[.int .u64 (Pl.parV ⟨#[48, 48, 48, 48, 48, 48, 48, 48, 48, 48, 48, 48, 48, 48, 70, 70]⟩), .int .i64 1]) ∧ w = w' :=
  (parse_any _ w hg (by decide)).mono fun e w' ⟨h1, h2⟩ => ⟨by rw [h1]; exact ret_par rfl Pl.par_FF, h2⟩
theorem parse_ff (w : World) (hg : Digs w) : Calls Tryd.prog 17 #[.string ⟨#[102, 102]⟩] w fun e w' => e = .returned (.tuple #[.int .u64 (Pl.parV ⟨#[102, 102]⟩), .int .i64 1]) ∧ w = w' :=
  (parse_any _ w hg (by decide)).mono fun e w' ⟨h1, h2⟩ => ⟨by rw [h1]; exact ret_par rfl Pl.par_ff, h2⟩
theorem sum_none (w : World) : Calls Tryd.prog 10 #[.string ⟨#[]⟩] w fun e w' => e = .returned (.int .u64 14695981039346656037) ∧ w = w' :=
  sum_any _ w (by decide)
theorem sum_one (w : World) : Calls Tryd.prog 10 #[.string ⟨#[97]⟩] w fun e w' => e = .returned (.int .u64 12638187200555641996) ∧ w = w' :=
  (sum_any _ w (by decide)).mono fun e w' ⟨h1, h2⟩ => ⟨by rw [h1]; exact ret_u64 Pl.sum_a, h2⟩
theorem hex_ff (w : World) (hg : Digs w) : Calls Tryd.prog 19 #[.int .u64 255] w fun e w' => e = .returned (.string ⟨#[48, 48, 48, 48, 48, 48, 48, 48, 48, 48, 48, 48, 48, 48, 102, 102]⟩) ∧ Below w.heap.size w w' :=
  (hex_any 255 w hg (by omega)).mono fun e w' ⟨h1, h2⟩ => ⟨by rw [h1]; exact ret_str Pl.hex_255, h2⟩
theorem hex_one (w : World) (hg : Digs w) : Calls Tryd.prog 19 #[.int .u64 12638187200555641996] w fun e w' => e = .returned (.string ⟨#[97, 102, 54, 51, 100, 99, 52, 99, 56, 54, 48, 49, 101, 99, 56, 99]⟩) ∧ Below w.heap.size w w' :=
  (hex_any 12638187200555641996 w hg (by omega)).mono fun e w' ⟨h1, h2⟩ => ⟨by rw [h1]; exact ret_str Pl.hex_a, h2⟩

set_option maxHeartbeats 800000 in
theorem awake_any (w : World) (hg : Digs w) : Calls Tryd.prog 9 #[] w fun e w' => e = .returned (.bool true) ∧ Below w.heap.size w w' := by
  go_enter Tryd.func9, Tryd.ntmps9
  go_wp2_with fail
  refine (parse_255 _ hg).mono ?_
  rintro e w' ⟨rfl, rfl⟩
  go_wp2_with fail
  refine (parse_FF _ hg).mono ?_
  rintro e w' ⟨rfl, rfl⟩
  go_wp2_with fail
  refine (parse_ff _ hg).mono ?_
  rintro e w' ⟨rfl, rfl⟩
  go_wp2_with fail
  refine (sum_none _).mono ?_
  rintro e w' ⟨rfl, rfl⟩
  go_wp2_with fail
  refine (sum_one _).mono ?_
  rintro e w' ⟨rfl, rfl⟩
  go_wp2_with fail
  refine (hex_ff _ hg).mono ?_
  rintro e w1 ⟨rfl, hb1⟩
  have hg1 := hg.later hb1
  go_wp2_with fail
  refine (sum_one _).mono ?_
  rintro e w' ⟨rfl, rfl⟩
  go_wp2_with fail
  refine (hex_one _ hg1).mono ?_
  rintro e w2 ⟨rfl, hb2⟩
  go_wp2
  go_ret
  exact ⟨rfl, hb1.trans (hb2.mono hb1.size)⟩
end Go.Proofs.YtkgflcfpmnlaeaaDoor
