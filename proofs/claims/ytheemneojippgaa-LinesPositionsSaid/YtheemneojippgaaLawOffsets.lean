/- The walks of the laws on positions and offsets. -/
import Derived.Test.YtheemneojippgaaWalkAwake
namespace Go.Proofs.Ytheemneojippgaa
open Go.RowKit
set_option linter.unusedVariables false
set_option linter.unusedSimpArgs false

/-- A line number or a column below 1 is none. -/
theorem off_line0 (s : ByteArray) (cl : Int) : Pl.offV s.data.toList (0, cl) = 0 ∧ Pl.offE s.data.toList (0, cl) = 2 :=
  Pl.offL_never s _ (fun a ha h => by
    have := congrArg Prod.fst h
    simp only [Pl.lineOf] at this
    omega)
theorem off_col0 (s : ByteArray) (ln : Int) : Pl.offV s.data.toList (ln, 0) = 0 ∧ Pl.offE s.data.toList (ln, 0) = 2 :=
  Pl.offL_never s _ (fun a ha h => by
    have := congrArg Prod.snd h
    simp only [Pl.colOf] at this
    omega)
theorem offset_line0 (s : ByteArray) (cl : Int) (w : World) (hs : s.size ≤ 140737488351232) :
    Calls Try.prog 21 #[.string s, .int .i64 0, .int .i64 cl] w fun e w' => e = .returned (.tuple #[.int .i64 0, .int .i64 2]) ∧ Below w.heap.size w w' :=
  (offset_any s 0 cl w hs).mono fun e w' ⟨h1, h2⟩ => ⟨by rw [h1]; exact ret_two (off_line0 s cl).1 (off_line0 s cl).2, h2⟩
theorem offset_col0 (s : ByteArray) (ln : Int) (w : World) (hs : s.size ≤ 140737488351232) :
    Calls Try.prog 21 #[.string s, .int .i64 ln, .int .i64 0] w fun e w' => e = .returned (.tuple #[.int .i64 0, .int .i64 2]) ∧ Below w.heap.size w w' :=
  (offset_any s ln 0 w hs).mono fun e w' ⟨h1, h2⟩ => ⟨by rw [h1]; exact ret_two (off_col0 s ln).1 (off_col0 s ln).2, h2⟩
theorem offset_back (s : ByteArray) (a : Nat) (w : World) (hs : s.size ≤ 140737488351232) (ha : a ≤ s.size) :
    Calls Try.prog 21 #[.string s, .int .i64 (Pl.lineOf s a), .int .i64 (Pl.colOf s a)] w fun e w' => e = .returned (.tuple #[.int .i64 a, .int .i64 0]) ∧ Below w.heap.size w w' :=
  (offset_any s _ _ w hs).mono fun e w' ⟨h1, h2⟩ => ⟨by rw [h1]; exact ret_two (Pl.offL_at s a ha _ rfl).1 (Pl.offL_at s a ha _ rfl).2, h2⟩

set_option maxHeartbeats 800000 in
theorem lawOffsets_out (s : ByteArray) (at' : Int) (w : World) (hs : s.size ≤ 140737488351232) (h : at' < 0 ∨ (s.size : Int) < at') :
    Calls Try.prog 6 #[.string s, .int .i64 at'] w fun e w' => e = .returned (.bool true) ∧ Below w.heap.size w w' := by
  have HP := Lib.hid (fun wx => position_out s at' wx hs h)
  rcases h with h | h
  · go_enter Try.func6, Try.ntmps6
    go_wp2_with fail
    refine (HP.out _).mono ?_
    rintro e w1 ⟨rfl, hb1⟩
    go_wp2_with fail
    refine (offset_line0 s _ _ hs).mono ?_
    rintro e w2 ⟨rfl, hb2⟩
    go_wp2_with fail
    refine (offset_col0 s _ _ hs).mono ?_
    rintro e w3 ⟨rfl, hb3⟩
    go_wp2_with fail
    refine (awake_any _).mono ?_
    rintro e w4 ⟨rfl, hb4⟩
    go_wp2
    go_ret
    exact ⟨rfl, hb1.trans ((hb2.trans ((hb3.trans (hb4.mono hb3.size)).mono hb2.size)).mono hb1.size)⟩
  · by_cases h0 : at' < 0
    · omega
    go_enter Try.func6, Try.ntmps6
    go_wp2_with fail
    refine (HP.out _).mono ?_
    rintro e w1 ⟨rfl, hb1⟩
    go_wp2_with fail
    refine (offset_line0 s _ _ hs).mono ?_
    rintro e w2 ⟨rfl, hb2⟩
    go_wp2_with fail
    refine (offset_col0 s _ _ hs).mono ?_
    rintro e w3 ⟨rfl, hb3⟩
    go_wp2_with fail
    refine (awake_any _).mono ?_
    rintro e w4 ⟨rfl, hb4⟩
    go_wp2
    go_ret
    exact ⟨rfl, hb1.trans ((hb2.trans ((hb3.trans (hb4.mono hb3.size)).mono hb2.size)).mono hb1.size)⟩

set_option maxHeartbeats 800000 in
theorem lawOffsets_in (s : ByteArray) (a : Nat) (w : World) (hs : s.size ≤ 140737488351232) (ha : a ≤ s.size) :
    Calls Try.prog 6 #[.string s, .int .i64 a] w fun e w' => e = .returned (.bool true) ∧ Below w.heap.size w w' := by
  have HP := Lib.hid (fun wx => position_in s a wx hs ha)
  have HB := Lib.hid (fun wx => offset_back s a wx hs ha)
  have hl : 1 ≤ Pl.lineOf s a := by unfold Pl.lineOf; omega
  have hc : 1 ≤ Pl.colOf s a := by unfold Pl.colOf; omega
  have hle := Pl.line_le s a ha
  generalize Pl.lineOf s a = ln at *
  generalize Pl.colOf s a = cl at *
  have h1 : ¬ (a : Int) < 0 := by omega
  have h2 : ¬ (s.size : Int) < (a : Int) := by omega
  go_enter Try.func6, Try.ntmps6
  go_wp2_with fail
  refine (HP.out _).mono ?_
  rintro e w1 ⟨rfl, hb1⟩
  go_wp2_with fail
  refine (offset_line0 s _ _ hs).mono ?_
  rintro e w2 ⟨rfl, hb2⟩
  go_wp2_with fail
  refine (offset_col0 s _ _ hs).mono ?_
  rintro e w3 ⟨rfl, hb3⟩
  go_wp2_with fail
  refine (HB.out _).mono ?_
  rintro e w4 ⟨rfl, hb4⟩
  go_wp2_with fail
  refine (awake_any _).mono ?_
  rintro e w5 ⟨rfl, hb5⟩
  go_wp2
  go_ret
  exact ⟨rfl, hb1.trans ((hb2.trans ((hb3.trans ((hb4.trans (hb5.mono hb4.size)).mono hb3.size)).mono hb2.size)).mono hb1.size)⟩

theorem lawOffsets (s : ByteArray) (at' : Int) (w : World) (hs : s.size ≤ 140737488351232) :
    Calls Try.prog 6 #[.string s, .int .i64 at'] w fun e w' => e = .returned (.bool true) ∧ Below w.heap.size w w' := by
  by_cases h : at' < 0 ∨ (s.size : Int) < at'
  · exact lawOffsets_out s at' w hs h
  · obtain ⟨a, rfl⟩ : ∃ a : Nat, at' = a := ⟨at'.toNat, by omega⟩
    exact lawOffsets_in s a w hs (by omega)

set_option maxHeartbeats 800000 in
theorem lawPositions_big (s : ByteArray) (at' ln cl : Int) (w : World) (h : 400 < s.size) (hs : s.size ≤ 140737488351232) :
    Calls Try.prog 4 #[.string s, .int .i64 at', .int .i64 ln, .int .i64 cl] w fun e w' => e = .returned (.bool true) ∧ Below w.heap.size w w' := by
  have h1 : (400 : Int) < s.size := by omega
  go_enter Try.func4, Try.ntmps4
  go_wp2_with fail
  refine (awake_any _).mono ?_
  rintro e w5 ⟨rfl, hb5⟩
  go_wp2
  go_ret
  exact ⟨rfl, hb5⟩

/-- Position, the program's and the reference's, give one and the same. -/
theorem positions_same (s : ByteArray) (at' : Int) (hs : s.size ≤ 140737488351232) : ∃ x y z : Int, (∀ w, Calls Try.prog 19 #[.string s, .int .i64 at'] w fun e w' => e = .returned (.tuple #[.int .i64 x, .int .i64 y, .int .i64 z]) ∧ Below w.heap.size w w') ∧
    (∀ w, Calls Try.prog 20 #[.string s, .int .i64 at'] w fun e w' => e = .returned (.tuple #[.int .i64 x, .int .i64 y, .int .i64 z]) ∧ w = w') := by
  by_cases h : at' < 0 ∨ (s.size : Int) < at'
  · exact ⟨0, 0, 2, fun w => position_out s at' w hs h, fun w => rposition_out s at' w hs h⟩
  · obtain ⟨a, rfl⟩ : ∃ a : Nat, at' = a := ⟨at'.toNat, by omega⟩
    exact ⟨_, _, _, fun w => position_in s a w hs (by omega), fun w => rposition_in s a w hs (by omega)⟩

set_option maxHeartbeats 800000 in
theorem lawPositions_small (s : ByteArray) (at' ln cl : Int) (w : World) (h : ¬ 400 < s.size) (hs : s.size ≤ 140737488351232) :
    Calls Try.prog 4 #[.string s, .int .i64 at', .int .i64 ln, .int .i64 cl] w fun e w' => e = .returned (.bool true) ∧ Below w.heap.size w w' := by
  have h1 : ¬ (400 : Int) < s.size := by omega
  obtain ⟨x, y, z, hp, hrp⟩ := positions_same s at' hs
  have HP := Lib.hid hp
  have HRP := Lib.hid hrp
  have HO := Lib.hid (fun wx => offset_any s ln cl wx hs)
  have HRO := Lib.hid (fun wx => roffset_any s ln cl wx hs)
  generalize Pl.offV s.data.toList (ln, cl) = ov at HO HRO
  generalize Pl.offE s.data.toList (ln, cl) = oe at HO HRO
  clear hp hrp
  go_enter Try.func4, Try.ntmps4
  go_wp2_with fail
  refine (HP.out _).mono ?_
  rintro e w1 ⟨rfl, hb1⟩
  go_wp2_with fail
  refine (HRP.out _).mono ?_
  rintro e w2 ⟨rfl, rfl⟩
  go_wp2_with fail
  refine (HO.out _).mono ?_
  rintro e w3 ⟨rfl, hb3⟩
  go_wp2_with fail
  refine (HRO.out _).mono ?_
  rintro e w4 ⟨rfl, rfl⟩
  go_wp2_with fail
  refine (awake_any _).mono ?_
  rintro e w5 ⟨rfl, hb5⟩
  go_wp2
  go_ret
  exact ⟨rfl, hb1.trans ((hb3.trans (hb5.mono hb3.size)).mono hb1.size)⟩

theorem lawPositions (s : ByteArray) (at' ln cl : Int) (w : World) (hs : s.size ≤ 140737488351232) :
    Calls Try.prog 4 #[.string s, .int .i64 at', .int .i64 ln, .int .i64 cl] w fun e w' => e = .returned (.bool true) ∧ Below w.heap.size w w' := by
  by_cases h : 400 < s.size
  · exact lawPositions_big s at' ln cl w h hs
  · exact lawPositions_small s at' ln cl w h hs
end Go.Proofs.Ytheemneojippgaa
