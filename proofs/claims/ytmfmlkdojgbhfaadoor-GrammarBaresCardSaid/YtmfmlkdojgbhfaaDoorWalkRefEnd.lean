/- The walk of the reference's End. -/
import Derived.Test.YtmfmlkdojgbhfaaDoorWalkStep
import Derived.Test.YtmfmlkdojgbhfaaDoorWalkEnd
namespace Go.Proofs.YtmfmlkdojgbhfaaDoor
open Go.RowKit
set_option linter.unusedVariables false
set_option linter.unusedSimpArgs false

theorem step_at (s : ByteArray) (k : Nat) (n m : Int) (w : World) (hs : s.size ≤ maxLen) (hk : k ≤ s.size) (hn : n = k) (hm : m = (k : Int) + (Pl.hop (rest s k) : Nat)) :
    Calls Tryd.prog 68 #[.string s, .int .i64 n] w fun e w' => e = .returned (.int .i64 m) ∧ w = w' := by
  subst hn
  refine (step_any s k w hs hk).mono fun e w' ⟨he, hw⟩ => ⟨by rw [he, hm]; exact ret_int (by omega), hw⟩

set_option maxHeartbeats 800000 in
theorem rend_in (s : ByteArray) (k0 : Nat) (w : World) (hs : s.size ≤ maxLen) (hk0 : k0 ≤ s.size) :
    Calls Tryd.prog 63 #[.string s, .int .i64 k0] w fun e w' => e = .returned (.int .i64 ((k0 + Pl.eo (rest s k0) : Nat) : Int)) ∧ w = w' := by
  have HS := Lib.hid hs
  unfold maxLen at hs
  obtain ⟨T, hT⟩ : ∃ T : Nat, T = k0 + Pl.eo (rest s k0) := ⟨_, rfl⟩
  rw [← hT]
  have HT := Lib.hid hT
  clear hT
  have hd0 : decide (s.size < k0) = false := by simpa using hk0
  have hd1 : decide ((k0 : Int) < 0) = false := by simp
  go_enter Tryd.func63, Tryd.ntmps63
  go_wp2_with fail
  go_loop [1] (fun u => ∃ k : Nat, k ≤ s.size ∧ u = .int .i64 k ∧ k + Pl.eo (rest s k) = T) (fun u => s.size - (intOf u).toNat)
  case atStart => exact ⟨k0, hk0, rfl, HT.out.symm⟩
  case round =>
    obtain ⟨k, hk, rfl, hsum⟩ := hrel
    have hle := Pl.hop_le (rest s k)
    rw [rest_len] at hle
    obtain ⟨h, hh⟩ : ∃ h, h = Pl.hop (rest s k) := ⟨_, rfl⟩
    have HH : Hid ((k : Int) + (h : Nat) = (k : Int) + (Pl.hop (rest s k) : Nat)) := Lib.hid (by rw [hh])
    rw [← hh] at hle
    by_cases hz : h = 0
    · have e : k = T := by rw [← hsum, Pl.eo_stop _ (by rw [← hh]; exact hz)]; rfl
      clear hsum hh
      subst hz
      subst e
      go_wp2_with (go_at_call 68; refine (step_at s k _ _ _ HS.out hk rfl HH.out).mono ?_; rintro e w' ⟨rfl, rfl⟩)
      go_ret
      exact ⟨rfl, rfl⟩
    · have hsum2 : (k + h) + Pl.eo (rest s (k + h)) = T := by
        rw [hh] at hz ⊢
        rw [← hsum, eo_next s k hz]
      have HS2 := Lib.hid hsum2
      have hpos : 1 ≤ h := by omega
      clear hsum hh hsum2 hz
      go_wp2_with (go_at_call 68; refine (step_at s k _ _ _ HS.out hk rfl HH.out).mono ?_; rintro e w' ⟨rfl, rfl⟩)
      exact ⟨⟨k + h, by omega, by go_num, HS2.out⟩, by simp [intOf]; omega⟩
set_option maxHeartbeats 400000 in
theorem rend_out (s : ByteArray) (n : Int) (w : World) (hs : s.size ≤ maxLen) (h : n < 0 ∨ (s.size : Int) < n) :
    Calls Tryd.prog 63 #[.string s, .int .i64 n] w fun e w' => e = .returned (.int .i64 n) ∧ w = w' := by
  unfold maxLen at hs
  rcases h with h | h
  · go_enter Tryd.func63, Tryd.ntmps63
    go_wp2_with fail
    go_ret
    exact ⟨rfl, rfl⟩
  · have h2 : ¬ n < 0 := by omega
    go_enter Tryd.func63, Tryd.ntmps63
    go_wp2_with fail
    go_ret
    exact ⟨rfl, rfl⟩
set_option maxHeartbeats 400000 in
theorem rtvalid_any (s : ByteArray) (w : World) (hs : s.size ≤ maxLen) :
    Calls Tryd.prog 51 #[.string s] w fun e w' => e = .returned (.bool (val s.data.toList)) ∧ w = w' := by
  have HC := Lib.hid (rend_in s 0 w hs (Nat.zero_le _))
  have hv : val s.data.toList = (((0 + Pl.eo (rest s 0) : Nat) : Int) == (s.size : Int)) := by
    unfold val rest
    rw [Lib.size_eq, List.drop_zero, Bool.eq_iff_iff]
    simp only [beq_iff_eq]; omega
  obtain ⟨T, hT⟩ : ∃ T : Int, ((0 + Pl.eo (rest s 0) : Nat) : Int) = T := ⟨_, rfl⟩
  rw [hT] at HC hv
  have HV := Lib.hid hv
  clear hT hv
  unfold maxLen at hs
  go_enter Tryd.func51, Tryd.ntmps51
  go_wp2_with (go_at_call 63; refine HC.out.mono ?_; rintro e w' ⟨rfl, rfl⟩)
  go_ret
  exact ⟨ret_bool HV.out.symm, rfl⟩
theorem rtvalid_is (s : ByteArray) (b : Bool) (h : val s.data.toList = b) (w : World) (hs : s.size ≤ maxLen) :
    Calls Tryd.prog 51 #[.string s] w fun e w' => e = .returned (.bool b) ∧ w = w' := h ▸ rtvalid_any s w hs
end Go.Proofs.YtmfmlkdojgbhfaaDoor
