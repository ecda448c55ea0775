/- The walks of Indent and of the reference's Indent. -/
import Derived.Test.YtceoleddijnieaaDoorWalkSkip
namespace Go.Proofs.YtceoleddijnieaaDoor
open Go.RowKit
set_option linter.unusedVariables false
set_option linter.unusedSimpArgs false

theorem last_is (y : ByteArray) (n : Int) (h : Lib.lastIndexByte y 10 = n) (hs : y.size ≤ 140737488351232) (w : World) :
    Calls Tryd.prog 27 #[.string y, .int .u8 10] w fun e w' => e = .returned (.int .i64 n) ∧ w = w' :=
  (Tryd.strings_LastIndexByte y 10 (by omega) w).mono fun e w' ⟨he, hw⟩ => ⟨by rw [he]; exact ret_int h, hw.symm⟩
theorem tabs_is (y : ByteArray) (n : Nat) (h : Pl.tb y.data.toList = n) (hs : y.size ≤ maxLen) (w : World) :
    Calls Tryd.prog 28 #[.string y] w fun e w' => e = .returned (.int .i64 n) ∧ w = w' := h ▸ tabs_any y w hs

set_option maxHeartbeats 400000 in
theorem indent_any (s : ByteArray) (w : World) (hs : s.size ≤ 140737488351232) :
    Calls Tryd.prog 16 #[.string s] w fun e w' => e = .returned (.int .i64 (Pl.ti s.data.toList)) ∧ w = w' := by
  by_cases hl : Lib.lastIndexByte s 10 < 0
  · have hn := Pl.last_none s (by rcases Lib.lastIndexByte_spec s 10 with ⟨h, _⟩ | ⟨i, _, h, _⟩ <;> omega)
    have hm : Lib.lastIndexByte s 10 = -1 := by rcases Lib.lastIndexByte_spec s 10 with ⟨h, _⟩ | ⟨i, _, h, _⟩ <;> omega
    rw [hn]
    have HM := Lib.hid hm
    clear hn hm hl
    go_enter Tryd.func16, Tryd.ntmps16
    go_wp2_with (go_at_call 27; refine (last_is _ _ HM.out hs _).mono ?_; rintro e w' ⟨rfl, rfl⟩)
    go_ret
    exact ⟨rfl, rfl⟩
  · obtain ⟨i, hi, hlt, ht⟩ := Pl.last_some s hl
    have he : Pl.tb (s.extract (i + 1) s.size).data.toList = Pl.ti s.data.toList := by rw [rest_ext, ht]; rfl
    have hz : (s.extract (i + 1) s.size).size ≤ maxLen := by rw [Lib.size_eq, rest_ext, rest_len]; unfold maxLen; omega
    generalize Pl.ti s.data.toList = n at he ⊢
    have HI := Lib.hid hi
    have HE := Lib.hid he
    have HZ := Lib.hid hz
    clear hi he hz ht hl
    go_enter Tryd.func16, Tryd.ntmps16
    go_wp2_with (first
      | (go_at_call 27; refine (last_is _ _ HI.out hs _).mono ?_; rintro e w' ⟨rfl, rfl⟩)
      | (go_at_call 28; refine (tabs_is _ n HE.out HZ.out _).mono ?_; rintro e w' ⟨rfl, rfl⟩))
    go_ret
    exact ⟨rfl, rfl⟩

theorem take_snoc (s : ByteArray) (k : Nat) (h : k < s.size) : s.data.toList.take (k + 1) = s.data.toList.take k ++ [s[k]] := by
  rw [List.take_succ_eq_append_getElem (by rw [← Lib.size_eq]; exact h)]; rfl
theorem ist (s : ByteArray) (k : Nat) (h : k < s.size) : Pl.isl (s.data.toList.take (k + 1)) = Pl.istep (Pl.isl (s.data.toList.take k)) s[k] := by rw [take_snoc s k h, Pl.isl_snoc]

set_option maxHeartbeats 800000 in
theorem rindent_any (s : ByteArray) (w : World) (hs : s.size ≤ maxLen) :
    Calls Tryd.prog 17 #[.string s] w fun e w' => e = .returned (.int .i64 (Pl.ti s.data.toList)) ∧ w = w' := by
  unfold maxLen at hs
  go_enter Tryd.func17, Tryd.ntmps17
  go_wp2_with fail
  go_loop [3, 4, 5] (fun n b i => ∃ k : Nat, ∃ p : Nat × Bool, k ≤ s.size ∧ i = .int .i64 k ∧ n = .int .i64 p.1 ∧ b = .bool p.2 ∧ Pl.isl (s.data.toList.take k) = p) (fun _ _ i => s.size - (intOf i).toNat)
  case atStart => exact ⟨0, (0, false), Nat.zero_le _, rfl, rfl, rfl, rfl⟩
  case round =>
    obtain ⟨k, ⟨m, b⟩, hk, rfl, rfl, rfl, hp⟩ := hrel
    by_cases hlt : k < s.size
    · have hn := ist s k hlt
      have hmk : m ≤ k := by
        have := Pl.isl_le (s.data.toList.take k)
        rw [hp, List.length_take] at this
        simp only at this; omega
      rw [hp] at hn
      clear hp
      by_cases h10 : s[k] = 10
      · have hb : ((s[k].toNat : Int) == 10) = true := by simp [h10]
        have HN : Hid (Pl.isl (s.data.toList.take (k + 1)) = (0, true)) := Lib.hid (by rw [hn, Pl.istep, if_pos h10])
        clear hn h10
        go_wp2_with fail
        exact ⟨⟨k + 1, (0, true), by omega, by go_num, rfl, rfl, HN.out⟩, by simp [intOf]; omega⟩
      · have hb : ((s[k].toNat : Int) == 10) = false := by
          have : s[k].toNat ≠ 10 := fun e => h10 (UInt8.toNat_inj.1 e)
          simp; omega
        by_cases h9 : s[k] = 9
        · have hb9 : ((s[k].toNat : Int) == 9) = true := by simp [h9]
          cases b
          · have HN : Hid (Pl.isl (s.data.toList.take (k + 1)) = (m, false)) := Lib.hid (by rw [hn, Pl.istep, if_neg h10, if_neg (by simp)])
            clear hn h10 h9
            go_wp2_with fail
            exact ⟨⟨k + 1, (m, false), by omega, by go_num, rfl, rfl, HN.out⟩, by simp [intOf]; omega⟩
          · have HN : Hid (Pl.isl (s.data.toList.take (k + 1)) = (m + 1, true)) := Lib.hid (by rw [hn, Pl.istep, if_neg h10, if_pos ⟨h9, rfl⟩])
            clear hn h10 h9
            go_wp2_with fail
            exact ⟨⟨k + 1, (m + 1, true), by omega, by go_num, by go_num, rfl, HN.out⟩, by simp [intOf]; omega⟩
        · have hb9 : ((s[k].toNat : Int) == 9) = false := by
            have : s[k].toNat ≠ 9 := fun e => h9 (UInt8.toNat_inj.1 e)
            simp; omega
          have HN : Hid (Pl.isl (s.data.toList.take (k + 1)) = (m, false)) := Lib.hid (by rw [hn, Pl.istep, if_neg h10, if_neg (by simp [h9])])
          clear hn h10 h9
          go_wp2_with fail
          exact ⟨⟨k + 1, (m, false), by omega, by go_num, rfl, rfl, HN.out⟩, by simp [intOf]; omega⟩
    · obtain rfl : k = s.size := by omega
      rw [List.take_of_length_le (by rw [← Lib.size_eq]; exact Nat.le_refl _)] at hp
      have HP : Hid (Pl.ti s.data.toList = m) := Lib.hid (by unfold Pl.ti; rw [hp])
      clear hp
      go_wp2_with fail
      go_ret
      exact ⟨ret_int (by rw [HP.out]), rfl⟩
end Go.Proofs.YtceoleddijnieaaDoor
