/- The walk of the law TriviaReads. -/
import Derived.Test.YtceoleddijnieaaDoorWalkAwake
import Derived.Test.YtceoleddijnieaaDoorWalkRefComs
namespace Go.Proofs.YtceoleddijnieaaDoor
open Go.RowKit
set_option linter.unusedVariables false
set_option linter.unusedSimpArgs false

/-- End and the reference's End give the same number, whatever the offset. -/
theorem both_ends (s : ByteArray) (n : Int) (hs : s.size ≤ maxLen) : ∃ E : Int, (∀ w, Calls Tryd.prog 11 #[.string s, .int .i64 n] w fun e w' => e = .returned (.int .i64 E) ∧ Below w.heap.size w w') ∧
    ∀ w, Calls Tryd.prog 12 #[.string s, .int .i64 n] w fun e w' => e = .returned (.int .i64 E) ∧ w = w' := by
  by_cases h : n < 0 ∨ (s.size : Int) < n
  · exact ⟨n, fun w => (end_out s n w hs h).mono fun e w' ⟨he, hw⟩ => ⟨he, hw ▸ Below.refl _ _⟩, fun w => rend_out s n w hs h⟩
  · obtain ⟨k, rfl⟩ : ∃ k : Nat, n = k := ⟨n.toNat, by omega⟩
    exact ⟨_, fun w => end_in s k w hs (by omega), fun w => rend_in s k w hs (by omega)⟩

set_option maxHeartbeats 1600000 in
theorem lawReads (s : ByteArray) (n : Int) (w : World) (hs : s.size ≤ 1048576) :
    Calls Tryd.prog 3 #[.string s, .int .i64 n] w fun e w' => e = .returned (.bool true) ∧ Below w.heap.size w w' := by
  have hsm : s.size ≤ maxLen := by unfold maxLen; omega
  obtain ⟨b, hb⟩ : ∃ b, val s.data.toList = b := ⟨_, rfl⟩
  have HV := Lib.hid (fun w => valid_is s b hb w hsm)
  have HRV := Lib.hid (fun w => rvalid_is s b hb w hsm)
  obtain ⟨E, he1, he2⟩ := both_ends s n hsm
  have HE := Lib.hid he1
  have HRE := Lib.hid he2
  obtain ⟨L, hL⟩ : ∃ L, L = Pl.coms s.data.toList := ⟨_, rfl⟩
  have hLl : L.length ≤ 1099511627776 := by rw [hL]; have := Pl.coms_le s.data.toList; rw [← Lib.size_eq] at this; omega
  have HC := Lib.hid (fun w => coms_any s w L hL (by omega))
  have HRC := Lib.hid (fun w => rcoms_any s w L hL (by omega))
  obtain ⟨q, hq⟩ : ∃ q, Pl.ti s.data.toList = q := ⟨_, rfl⟩
  have hi : ∀ w, Calls Tryd.prog 16 #[.string s] w fun e w' => e = .returned (.int .i64 q) ∧ w = w' := fun w => hq ▸ indent_any s w (by omega)
  have hri : ∀ w, Calls Tryd.prog 17 #[.string s] w fun e w' => e = .returned (.int .i64 q) ∧ w = w' := fun w => hq ▸ rindent_any s w hsm
  have HI := Lib.hid hi
  have HRI := Lib.hid hri
  clear hb he1 he2 hL hi hri hsm hq
  have hbb : (b == b) = true := beq_self_eq_true b
  go_enter Tryd.func3, Tryd.ntmps3
  go_wp2_with fail
  refine (HV.out _).mono ?_
  rintro e w1 ⟨rfl, hb1⟩
  go_wp2_with fail
  refine (HRV.out _).mono ?_
  rintro e w' ⟨rfl, rfl⟩
  go_wp2_with fail
  refine (HE.out _).mono ?_
  rintro e w2 ⟨rfl, hb2⟩
  have hb12 := hb1.trans (hb2.mono hb1.size)
  clear hb1 hb2
  go_wp2_with fail
  refine (HRE.out _).mono ?_
  rintro e w' ⟨rfl, rfl⟩
  go_wp2_with fail
  refine (HC.out _).mono ?_
  rintro e w3 ⟨u, rfl, hu, hb3⟩
  have HU := Lib.hid hu
  have hb13 := hb12.trans (hb3.mono hb12.size)
  clear hb12 hb3 hu
  go_wp2_with fail
  refine (HRC.out _).mono ?_
  rintro e w4 ⟨v, rfl, hv, hb4⟩
  have HW := Lib.hid hv
  have HU4 := Lib.hid (HU.out.later hb4)
  have hb14 := hb13.trans (hb4.mono hb13.size)
  clear hb13 hb4 hv
  go_wp2_with fail
  refine (same_any u v L _ hLl HU4.out HW.out).mono ?_
  rintro e w5 ⟨rfl, hb5⟩
  have hb15 := hb14.trans (hb5.mono hb14.size)
  clear hb14 hb5
  go_wp2_with fail
  refine (HI.out _).mono ?_
  rintro e w' ⟨rfl, rfl⟩
  go_wp2_with fail
  refine (HRI.out _).mono ?_
  rintro e w' ⟨rfl, rfl⟩
  go_wp2_with fail
  refine (awake_any _).mono ?_
  rintro e w6 ⟨rfl, hb6⟩
  have hb16 := hb15.trans (hb6.mono hb15.size)
  clear hb15 hb6
  go_wp2_with fail
  go_ret
  exact ⟨rfl, hb16⟩
end Go.Proofs.YtceoleddijnieaaDoor
