/- The walks of isInteger and of the reference's Integer. -/
import Derived.Test.YtmfmlkdojgbhfaaDoorMem
import Derived.Test.YtmfmlkdojgbhfaaDoorPlainInt
import Derived.Laws.Rows
namespace Go.Proofs.YtmfmlkdojgbhfaaDoor
open Go.RowKit
set_option linter.unusedVariables false
set_option linter.unusedSimpArgs false

theorem int_zero (w : World) :
    Calls Tryd.prog 55 #[.string ⟨#[]⟩] w fun e w' => e = .returned (.bool false) ∧ w = w' := by
  go_enter Tryd.func55, Tryd.ntmps55
  go_wp2_with fail
  go_ret
  exact ⟨rfl, rfl⟩
theorem int_lead (s : ByteArray) (w : World) (hs : s.size ≤ maxLen) (h : 1 < s.size) (h0 : s[0].toNat = 48) :
    Calls Tryd.prog 55 #[.string s] w fun e w' => e = .returned (.bool false) ∧ w = w' := by
  unfold maxLen at hs
  obtain ⟨s1, s2, s3⟩ := Pl.not_empty s (by omega)
  have b0 : ((s[0].toNat : Int) == 48) = true := by simp [h0]
  go_enter Tryd.func55, Tryd.ntmps55
  go_wp2_with fail
  go_ret
  exact ⟨rfl, rfl⟩
set_option maxHeartbeats 1600000 in
theorem int_run (s : ByteArray) (w : World) (hs : s.size ≤ maxLen) (h : 0 < s.size) (b1 : ((s[0].toNat : Int) == 48) = true ∧ ((1 : Int) < s.size) = False ∧ s.size = 1 ∨ ((s[0].toNat : Int) == 48) = false)
    (b : Bool) (hb : b = (Pl.dgs s.data.toList && decide (Pl.numL 0 s.data.toList ≤ 1000000000000))) :
    Calls Tryd.prog 55 #[.string s] w fun e w' => e = .returned (.bool b) ∧ w = w' := by
  unfold maxLen at hs
  obtain ⟨s1, s2, s3⟩ := Pl.not_empty s (by omega)
  have HB := Lib.hid hb
  clear hb
  have hlen : s.data.toList.length = s.size := (Lib.size_eq s).symm
  have HL := Lib.hid hlen
  clear hlen
  rcases b1 with ⟨b0, b1, bz⟩ | b0
  all_goals
    go_enter Tryd.func55, Tryd.ntmps55
    go_wp2_with fail
    go_loop [3, 19] (fun v i => ∃ j n : Nat, j ≤ s.size ∧ i = .int .i64 j ∧ v = .int .i64 n ∧ n ≤ 1000000000000 ∧ n = Pl.numL 0 (s.data.toList.take j) ∧ Pl.dgs (s.data.toList.take j) = true) (fun _ i => s.size - (intOf i).toNat)
    case atStart => exact ⟨0, 0, Nat.zero_le _, rfl, rfl, by omega, rfl, rfl⟩
    case round =>
      obtain ⟨j, n, hj, rfl, rfl, hn, hnum, hdg⟩ := hrel
      have HN := Lib.hid hnum
      have HD := Lib.hid hdg
      clear hnum hdg
      by_cases hlt : j < s.size
      · have hjl : j < s.data.toList.length := by rw [HL.out]; exact hlt
        have hge : s.data.toList[j] = s[j] := Pl.get_list s j hlt hjl
        have HT := Lib.hid (Pl.numL_take s.data.toList j hjl)
        have HU := Lib.hid (Pl.dgs_take s.data.toList j hjl)
        have HX := Lib.hid (Pl.dgs_no s.data.toList j hjl)
        rw [hge] at HT HU HX
        have hpart := Pl.numL_part s.data.toList (j + 1)
        have HP := Lib.hid hpart
        clear hge hpart
        have hc := s[j].toNat_lt
        by_cases h1 : s[j].toNat < 48
        · have HF : Hid (b = false) := Lib.hid (by rw [HB.out, HX.out (by unfold Pl.dg; simp; omega)]; rfl)
          go_wp2_with fail
          go_ret
          exact ⟨ret_bool HF.out.symm, rfl⟩
        · by_cases h2 : 57 < s[j].toNat
          · have HF : Hid (b = false) := Lib.hid (by rw [HB.out, HX.out (by unfold Pl.dg; simp; omega)]; rfl)
            go_wp2_with fail
            go_ret
            exact ⟨ret_bool HF.out.symm, rfl⟩
          · have hd : Pl.dg s[j].toNat = true := by unfold Pl.dg; simp; omega
            have HDD := Lib.hid hd
            clear hd
            by_cases h3 : n * 10 + (s[j].toNat - 48) ≤ 1000000000000
            · go_wp2_with fail
              exact ⟨⟨j + 1, n * 10 + (s[j].toNat - 48), by omega, by go_num, by go_num, h3, by rw [HT.out, HN.out], by rw [HU.out, HD.out, HDD.out]; rfl⟩, by simp [intOf]; omega⟩
            · have HF : Hid (b = false) := Lib.hid (by
                rw [HB.out]
                have e1 := HT.out
                have e2 := HN.out
                have e3 := HP.out
                have : ¬ Pl.numL 0 s.data.toList ≤ 1000000000000 := by omega
                rw [decide_eq_false this, Bool.and_false])
              go_wp2_with fail
              go_ret
              exact ⟨ret_bool HF.out.symm, rfl⟩
      · obtain rfl : j = s.size := by omega
        have HF : Hid (b = true) := Lib.hid (by
          have e : s.data.toList.take s.size = s.data.toList := by rw [List.take_of_length_le]; rw [HL.out]; exact Nat.le_refl _
          have e1 := HN.out
          have e2 := HD.out
          rw [e] at e1 e2
          rw [HB.out, e2, ← e1, decide_eq_true hn]; rfl)
        go_wp2_with fail
        go_ret
        exact ⟨ret_bool HF.out.symm, rfl⟩
theorem int_any (s : ByteArray) (w : World) (hs : s.size ≤ maxLen) :
    Calls Tryd.prog 55 #[.string s] w fun e w' => e = .returned (.bool (Pl.isI s)) ∧ w = w' := by
  by_cases hz : s.size = 0
  · rw [Pl.isI_zero s hz]
    obtain rfl := Pl.size_zero s hz
    exact int_zero w
  by_cases h0 : s[0].toNat = 48
  · by_cases h1 : 1 < s.size
    · rw [Pl.isI_lead s h1 h0]
      exact int_lead s w hs h1 h0
    · exact int_run s w hs (by omega) (.inl ⟨by simp [h0], by simp; omega, by omega⟩) _ (Pl.isI_rest s (by omega) (fun _ => by omega))
  · exact int_run s w hs (by omega) (.inr (by simp; omega)) _ (Pl.isI_rest s (by omega) (fun e => absurd e h0))
theorem int_is (s : ByteArray) (b : Bool) (h : Pl.isI s = b) (w : World) (hs : s.size ≤ maxLen) :
    Calls Tryd.prog 55 #[.string s] w fun e w' => e = .returned (.bool b) ∧ w = w' := h ▸ int_any s w hs

theorem rint_zero (w : World) :
    Calls Tryd.prog 48 #[.string ⟨#[]⟩] w fun e w' => e = .returned (.bool false) ∧ w = w' := by
  go_enter Tryd.func48, Tryd.ntmps48
  go_wp2_with fail
  go_ret
  exact ⟨rfl, rfl⟩
theorem rint_long (s : ByteArray) (w : World) (hs : s.size ≤ maxLen) (h : 13 < s.size) :
    Calls Tryd.prog 48 #[.string s] w fun e w' => e = .returned (.bool false) ∧ w = w' := by
  unfold maxLen at hs
  have z0 : ((s.size : Int) == 0) = false := beq_eq_false_iff_ne.2 (by omega)
  have z1 : decide (13 < (s.size : Int)) = true := by simp; omega
  go_enter Tryd.func48, Tryd.ntmps48
  go_wp2_with fail
  go_ret
  exact ⟨rfl, rfl⟩
theorem rint_lead (s : ByteArray) (w : World) (hs : s.size ≤ 13) (h : 1 < s.size) (h0 : s[0].toNat = 48) :
    Calls Tryd.prog 48 #[.string s] w fun e w' => e = .returned (.bool false) ∧ w = w' := by
  have b0 : ((s[0].toNat : Int) == 48) = true := by simp [h0]
  have z0 : ((s.size : Int) == 0) = false := beq_eq_false_iff_ne.2 (by omega)
  have z1 : decide (13 < (s.size : Int)) = false := by simp; omega
  have z2 : decide (1 < (s.size : Int)) = true := by simp; omega
  go_enter Tryd.func48, Tryd.ntmps48
  go_wp2_with fail
  go_ret
  exact ⟨rfl, rfl⟩
set_option maxHeartbeats 1600000 in
theorem rint_run (s : ByteArray) (w : World) (hs : s.size ≤ 13) (h : 0 < s.size) (b1 : ((s[0].toNat : Int) == 48) = true ∧ decide (1 < (s.size : Int)) = false ∨ ((s[0].toNat : Int) == 48) = false ∧ decide (1 < (s.size : Int)) = true ∨ ((s[0].toNat : Int) == 48) = false ∧ decide (1 < (s.size : Int)) = false)
    (b : Bool) (hb : b = (Pl.dgs s.data.toList && decide (Pl.numL 0 s.data.toList ≤ 1000000000000))) :
    Calls Tryd.prog 48 #[.string s] w fun e w' => e = .returned (.bool b) ∧ w = w' := by
  have z0 : ((s.size : Int) == 0) = false := beq_eq_false_iff_ne.2 (by omega)
  have z1 : decide (13 < (s.size : Int)) = false := by simp; omega
  have HB := Lib.hid hb
  clear hb
  have hlen : s.data.toList.length = s.size := (Lib.size_eq s).symm
  have HL := Lib.hid hlen
  clear hlen
  rcases b1 with ⟨b0, z2⟩ | ⟨b0, z2⟩ | ⟨b0, z2⟩
  all_goals
    go_enter Tryd.func48, Tryd.ntmps48
    go_wp2_with fail
    go_loop [3, 4] (fun v i => ∃ j n : Nat, j ≤ s.size ∧ i = .int .i64 j ∧ v = .int .i64 n ∧ n < 10 ^ j ∧ n = Pl.numL 0 (s.data.toList.take j) ∧ Pl.dgs (s.data.toList.take j) = true) (fun _ i => s.size - (intOf i).toNat)
    case atStart => exact ⟨0, 0, Nat.zero_le _, rfl, rfl, by decide, rfl, rfl⟩
    case round =>
      obtain ⟨j, n, hj, rfl, rfl, hn0, hnum, hdg⟩ := hrel
      have hn : n ≤ 10000000000000 := by
        have : 10 ^ j ≤ 10 ^ 13 := Nat.pow_le_pow_right (by decide) (by omega)
        omega
      clear hn0
      have HN := Lib.hid hnum
      have HD := Lib.hid hdg
      clear hnum hdg
      by_cases hlt : j < s.size
      · have hjl : j < s.data.toList.length := by rw [HL.out]; exact hlt
        have hge : s.data.toList[j] = s[j] := Pl.get_list s j hlt hjl
        have HT := Lib.hid (Pl.numL_take s.data.toList j hjl)
        have HU := Lib.hid (Pl.dgs_take s.data.toList j hjl)
        have HX := Lib.hid (Pl.dgs_no s.data.toList j hjl)
        rw [hge] at HT HU HX
        clear hge
        have hc := s[j].toNat_lt
        by_cases h1 : s[j].toNat < 48
        · have HF : Hid (b = false) := Lib.hid (by rw [HB.out, HX.out (by unfold Pl.dg; simp; omega)]; rfl)
          go_wp2_with fail
          go_ret
          exact ⟨ret_bool HF.out.symm, rfl⟩
        · by_cases h2 : 57 < s[j].toNat
          · have HF : Hid (b = false) := Lib.hid (by rw [HB.out, HX.out (by unfold Pl.dg; simp; omega)]; rfl)
            go_wp2_with fail
            go_ret
            exact ⟨ret_bool HF.out.symm, rfl⟩
          · have hd : Pl.dg s[j].toNat = true := by unfold Pl.dg; simp; omega
            have HDD := Lib.hid hd
            have HLT : Hid (10 * n + (s[j].toNat - 48) < 10 ^ (j + 1)) := Lib.hid (by
              have e1 := Pl.numL_lt (s.data.toList.take (j + 1)) (by rw [HU.out, HD.out, hd]; rfl)
              rw [HT.out, ← HN.out, List.length_take] at e1
              have e2 : min (j + 1) s.data.toList.length = j + 1 := by omega
              rw [e2] at e1
              omega)
            clear hd
            go_wp2_with fail
            exact ⟨⟨j + 1, 10 * n + (s[j].toNat - 48), by omega, by go_num, by go_num, HLT.out, by rw [HT.out, ← HN.out]; omega, by rw [HU.out, HD.out, HDD.out]; rfl⟩, by simp [intOf]; omega⟩
      · obtain rfl : j = s.size := by omega
        have HF : Hid (b = decide (n ≤ 1000000000000)) := Lib.hid (by
          have e : s.data.toList.take s.size = s.data.toList := by rw [List.take_of_length_le]; rw [HL.out]; exact Nat.le_refl _
          have e1 := HN.out
          have e2 := HD.out
          rw [e] at e1 e2
          rw [HB.out, e2, ← e1]; rfl)
        go_wp2_with fail
        go_ret
        exact ⟨ret_bool (by rw [HF.out, Bool.eq_iff_iff]; simp; omega), rfl⟩
theorem rint_any (s : ByteArray) (w : World) (hs : s.size ≤ maxLen) :
    Calls Tryd.prog 48 #[.string s] w fun e w' => e = .returned (.bool (Pl.isI s)) ∧ w = w' := by
  by_cases hz : s.size = 0
  · rw [Pl.isI_zero s hz]
    obtain rfl := Pl.size_zero s hz
    exact rint_zero w
  by_cases hl : 13 < s.size
  · rw [Pl.isI_long s hl]
    exact rint_long s w hs hl
  by_cases h0 : s[0].toNat = 48
  · by_cases h1 : 1 < s.size
    · rw [Pl.isI_lead s h1 h0]
      exact rint_lead s w (by omega) h1 h0
    · exact rint_run s w (by omega) (by omega) (.inl ⟨by simp [h0], by simp; omega⟩) _ (Pl.isI_rest s (by omega) (fun _ => by omega))
  · have b0 : ((s[0].toNat : Int) == 48) = false := by simp; omega
    exact rint_run s w (by omega) (by omega) (by
      by_cases h1 : 1 < (s.size : Int)
      · exact .inr (.inl ⟨b0, decide_eq_true h1⟩)
      · exact .inr (.inr ⟨b0, decide_eq_false h1⟩)) _ (Pl.isI_rest s (by omega) (fun e => absurd e h0))
theorem rint_is (s : ByteArray) (b : Bool) (h : Pl.isI s = b) (w : World) (hs : s.size ≤ maxLen) :
    Calls Tryd.prog 48 #[.string s] w fun e w' => e = .returned (.bool b) ∧ w = w' := h ▸ rint_any s w hs
end Go.Proofs.YtmfmlkdojgbhfaaDoor
