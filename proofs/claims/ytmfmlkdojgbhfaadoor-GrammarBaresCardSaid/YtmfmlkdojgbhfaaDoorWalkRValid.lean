/- The walks of the reference's Valid and of the parts of a path. -/
import Derived.Test.YtmfmlkdojgbhfaaDoorWalkValid
namespace Go.Proofs.YtmfmlkdojgbhfaaDoor
open Go.RowKit
set_option linter.unusedVariables false
set_option linter.unusedSimpArgs false

theorem rletter_is (c : Nat) (b : Bool) (h : Pl.lt c = b) (w : World) :
    Calls Tryd.prog 62 #[.int .u8 c] w fun e w' => e = .returned (.bool b) ∧ w = w' := h ▸ rletter_any c w
theorem rdigit_is (c : Nat) (b : Bool) (h : Pl.dg c = b) (w : World) :
    Calls Tryd.prog 60 #[.int .u8 c] w fun e w' => e = .returned (.bool b) ∧ w = w' := h ▸ rdigit_any c w
theorem rkw_is (s : ByteArray) (b : Bool) (h : Pl.kw s = b) (w : World) :
    Calls Tryd.prog 61 #[.string s] w fun e w' => e = .returned (.bool b) ∧ w = w' := h ▸ rkw_any s w

theorem rvalid_zero (w : World) :
    Calls Tryd.prog 50 #[.string ⟨#[]⟩] w fun e w' => e = .returned (.bool false) ∧ w = w' := by
  go_enter Tryd.func50, Tryd.ntmps50
  go_wp2_with fail
  go_ret
  exact ⟨rfl, rfl⟩
theorem rvalid_long (s : ByteArray) (w : World) (hs : s.size ≤ maxLen) (h : 32 < s.size) :
    Calls Tryd.prog 50 #[.string s] w fun e w' => e = .returned (.bool false) ∧ w = w' := by
  unfold maxLen at hs
  go_enter Tryd.func50, Tryd.ntmps50
  go_wp2_with fail
  go_ret
  exact ⟨rfl, rfl⟩
theorem rvalid_dg (s : ByteArray) (w : World) (hs : s.size ≤ 32) (h : 1 ≤ s.size) (hd : Pl.dg s[0].toNat = true) :
    Calls Tryd.prog 50 #[.string s] w fun e w' => e = .returned (.bool false) ∧ w = w' := by
  have HD := Lib.hid hd
  clear hd
  go_enter Tryd.func50, Tryd.ntmps50
  go_wp2_with (go_at_call 60; refine (rdigit_is _ _ HD.out _).mono ?_; rintro e w' ⟨rfl, rfl⟩)
  go_ret
  exact ⟨rfl, rfl⟩
theorem rvalid_kw (s : ByteArray) (w : World) (hs : s.size ≤ 32) (h : 1 ≤ s.size) (hd : Pl.dg s[0].toNat = false) (hk : Pl.kw s = true) :
    Calls Tryd.prog 50 #[.string s] w fun e w' => e = .returned (.bool false) ∧ w = w' := by
  have HD := Lib.hid hd
  have HK := Lib.hid hk
  clear hd hk
  go_enter Tryd.func50, Tryd.ntmps50
  go_wp2_with (first | (go_at_call 60; refine (rdigit_is _ _ HD.out _).mono ?_; rintro e w' ⟨rfl, rfl⟩) | (go_at_call 61; refine (rkw_is _ _ HK.out _).mono ?_; rintro e w' ⟨rfl, rfl⟩))
  go_ret
  exact ⟨rfl, rfl⟩
theorem rvalid_run (s : ByteArray) (w : World) (hs : s.size ≤ 32) (h : 1 ≤ s.size) (hd : Pl.dg s[0].toNat = false) (hk : Pl.kw s = false) :
    Calls Tryd.prog 50 #[.string s] w fun e w' => e = .returned (.bool (Pl.nm s)) ∧ w = w' := by
  have HD := Lib.hid hd
  have HK := Lib.hid hk
  clear hd hk
  go_enter Tryd.func50, Tryd.ntmps50
  go_wp2_with (first | (go_at_call 60; refine (rdigit_is _ _ HD.out _).mono ?_; rintro e w' ⟨rfl, rfl⟩) | (go_at_call 61; refine (rkw_is _ _ HK.out _).mono ?_; rintro e w' ⟨rfl, rfl⟩))
  go_loop [3] (fun i => ∃ k : Nat, k ≤ s.size ∧ i = .int .i64 k ∧ Pl.Wds s k) (fun i => s.size - (intOf i).toNat)
  case atStart => exact ⟨0, Nat.zero_le _, rfl, fun k hk h => absurd h (Nat.not_lt_zero _)⟩
  case round =>
    obtain ⟨k, hkk, rfl, hwd⟩ := hrel
    have HW := Lib.hid hwd
    clear hwd
    by_cases hp : k < s.size
    · cases hl : Pl.lt s[k].toNat
      · cases hg : Pl.dg s[k].toNat
        · have HN := Lib.hid (Pl.nm_wd s k hp (by unfold Pl.wd; rw [hl, hg]; rfl))
          have HL := Lib.hid hl
          have HG := Lib.hid hg
          clear hl hg
          go_wp2_with (first | (go_at_call 62; refine (rletter_is _ _ HL.out _).mono ?_; rintro e w' ⟨rfl, rfl⟩) | (go_at_call 60; refine (rdigit_is _ _ HG.out _).mono ?_; rintro e w' ⟨rfl, rfl⟩))
          go_ret
          exact ⟨ret_bool HN.out.symm, rfl⟩
        · have HS := Lib.hid (Pl.wds_step s k hp HW.out (by unfold Pl.wd; rw [hl, hg]; rfl))
          have HL := Lib.hid hl
          have HG := Lib.hid hg
          clear hl hg
          go_wp2_with (first | (go_at_call 62; refine (rletter_is _ _ HL.out _).mono ?_; rintro e w' ⟨rfl, rfl⟩) | (go_at_call 60; refine (rdigit_is _ _ HG.out _).mono ?_; rintro e w' ⟨rfl, rfl⟩))
          exact ⟨⟨k + 1, by omega, by go_num, HS.out⟩, by simp [intOf]; omega⟩
      · have HS := Lib.hid (Pl.wds_step s k hp HW.out (by unfold Pl.wd; rw [hl]; rfl))
        have HL := Lib.hid hl
        clear hl
        go_wp2_with (go_at_call 62; refine (rletter_is _ _ HL.out _).mono ?_; rintro e w' ⟨rfl, rfl⟩)
        exact ⟨⟨k + 1, by omega, by go_num, HS.out⟩, by simp [intOf]; omega⟩
    · obtain rfl : k = s.size := by omega
      have HN := Lib.hid (Pl.nm_yes s h hs HK.out HD.out HW.out)
      go_wp2
      go_ret
      exact ⟨ret_bool HN.out.symm, rfl⟩
theorem rvalid_any (s : ByteArray) (w : World) (hs : s.size ≤ maxLen) :
    Calls Tryd.prog 50 #[.string s] w fun e w' => e = .returned (.bool (Pl.nm s)) ∧ w = w' := by
  by_cases h0 : s.size = 0
  · rw [Pl.nm_zero s h0]
    obtain rfl := Pl.size_zero s h0
    exact rvalid_zero w
  · by_cases h1 : 32 < s.size
    · rw [Pl.nm_long s h1]
      exact rvalid_long s w hs h1
    · cases hd : Pl.dg (s[0]'(by omega)).toNat
      · cases hk : Pl.kw s
        · exact rvalid_run s w (by omega) (by omega) hd hk
        · rw [Pl.nm_kw s hk]
          exact rvalid_kw s w (by omega) (by omega) hd hk
      · rw [Pl.nm_dg s (by omega) hd]
        exact rvalid_dg s w (by omega) (by omega) hd
theorem rvalid_is (s : ByteArray) (b : Bool) (h : Pl.nm s = b) (w : World) (hs : s.size ≤ maxLen) :
    Calls Tryd.prog 50 #[.string s] w fun e w' => e = .returned (.bool b) ∧ w = w' := h ▸ rvalid_any s w hs
end Go.Proofs.YtmfmlkdojgbhfaaDoor
