/- The walks of the reference's mark, next, Kind. -/
import Derived.Test.YtebmmpepniokjaaDoorWalkNext
namespace Go.Proofs.YtebmmpepniokjaaDoor
open Go.RowKit
set_option linter.unusedVariables false
set_option linter.unusedSimpArgs false

/-- The reference's marks of one byte. -/
def mks5 : Pl.Bs := [40, 41, 123, 125, 44, 59, 58, 46, 61, 60, 43, 45, 42, 47, 33, 38, 124]
def mk5 (c : UInt8) : Bool := mks5.contains c
theorem mk5_eq (c : UInt8) : mk5 c = (decide (c = 61) || decide (c = 47) || Pl.mks.contains c) := by
  rw [Bool.eq_iff_iff]
  unfold mk5 mks5 Pl.mks
  simp only [List.contains_iff_mem, List.mem_cons, List.not_mem_nil, or_false, Bool.or_eq_true, decide_eq_true_eq]
  constructor
  · rintro (h | h | h | h | h | h | h | h | h | h | h | h | h | h | h | h | h) <;> simp [h]
  · rintro ((h | h) | h | h | h | h | h | h | h | h | h | h | h | h | h | h | h) <;> simp [h]
def mkS : ByteArray := ⟨#[40, 41, 123, 125, 44, 59, 58, 46, 61, 60, 43, 45, 42, 47, 33, 38, 124]⟩
theorem mkS_size : mkS.size = 17 := rfl
theorem mkS_list : mkS.data.toList = mks5 := rfl
def NoneOf (c : UInt8) (k : Nat) : Prop := ∀ j, (hj : j < mkS.size) → j < k → mkS[j] ≠ c
theorem none_step (c : UInt8) (k : Nat) (hk : k < mkS.size) (h : NoneOf c k) (hc : ((mkS[k].toNat : Int) == (c.toNat : Int)) = false) : NoneOf c (k + 1) := by
  intro j hj hlt
  by_cases e : j = k
  · subst e; rintro e2; rw [e2] at hc; simp at hc
  · exact h j hj (by omega)
theorem none_all (c : UInt8) (h : NoneOf c 17) : mk5 c = false := by
  rw [Bool.eq_false_iff]
  intro hm
  unfold mk5 at hm
  have hm2 : c ∈ mks5 := by simpa using hm
  rw [← mkS_list] at hm2
  obtain ⟨j, hj, e⟩ := List.getElem_of_mem hm2
  have hj2 : j < mkS.size := by rw [Lib.size_eq]; exact hj
  rw [Pl.get_list mkS j hj2 hj] at e
  exact h j hj2 (by rw [mkS_size] at hj2; exact hj2) e
theorem some_yes (c : UInt8) (k : Nat) (hk : k < mkS.size) (hc : ((mkS[k].toNat : Int) == (c.toNat : Int)) = true) : mk5 c = true := by
  have e : mkS[k] = c := UInt8.toNat_inj.1 (by have : (mkS[k].toNat : Int) = c.toNat := by simpa using hc
                                               omega)
  unfold mk5
  have : c ∈ mks5 := by
    rw [← mkS_list, ← e, ← Pl.get_list mkS k hk (by rw [← Lib.size_eq]; exact hk)]
    exact List.getElem_mem _
  simpa using this
set_option maxHeartbeats 800000 in
theorem mark5_any (c : UInt8) (w : World) :
    Calls Tryd.prog 39 #[.int .u8 c.toNat] w fun e w' => e = .returned (.bool (mk5 c)) ∧ w = w' := by
  obtain ⟨m, hm⟩ : ∃ m : ByteArray, m = mkS := ⟨_, rfl⟩
  have hsz : m.size = 17 := by rw [hm]; rfl
  go_enter Tryd.func39, Tryd.ntmps39
  go_wp2_with fail
  rw [show (⟨#[40, 41, 123, 125, 44, 59, 58, 46, 61, 60, 43, 45, 42, 47, 33, 38, 124]⟩ : ByteArray) = m from hm.symm]
  have HM := Lib.hid hm
  clear hm
  go_loop [4] (fun i => ∃ k : Nat, k ≤ 17 ∧ i = .int .i64 k ∧ NoneOf c k) (fun i => 17 - (intOf i).toNat)
  case atStart => exact ⟨0, Nat.zero_le _, rfl, fun j _ h => absurd h (Nat.not_lt_zero _)⟩
  case round =>
    obtain ⟨k, hk, rfl, hno⟩ := hrel
    have HO := Lib.hid hno
    clear hno
    by_cases hlt : k < 17
    · have hkm : k < m.size := by omega
      cases hb : ((m[k].toNat : Int) == (c.toNat : Int))
      · have HS : Hid (NoneOf c (k + 1)) := Lib.hid (by
          have e := HM.out
          subst e
          exact none_step c k hkm HO.out hb)
        generalize c.toNat = n at *
        go_wp2_with fail
        exact ⟨⟨k + 1, by omega, by go_num, HS.out⟩, by simp [intOf]; omega⟩
      · have HS : Hid (mk5 c = true) := Lib.hid (by
          have e := HM.out
          subst e
          exact some_yes c k hkm hb)
        generalize c.toNat = n at *
        go_wp2_with fail
        go_ret
        exact ⟨ret_bool HS.out.symm, rfl⟩
    · obtain rfl : k = 17 := by omega
      have HS := Lib.hid (none_all c HO.out)
      go_wp2_with fail
      go_ret
      exact ⟨ret_bool HS.out.symm, rfl⟩
theorem mark5_is (c : UInt8) (b : Bool) (h : mk5 c = b) (w : World) :
    Calls Tryd.prog 39 #[.int .u8 c.toNat] w fun e w' => e = .returned (.bool b) ∧ w = w' := h ▸ mark5_any c w

/- ### next -/
/-- What next answers at an offset. -/
def nextOf (a : Nat) (p : Nat × Nat) : Ending := .returned (.tuple #[.int .i64 ((a + p.2 : Nat) : Int), .int .i64 (p.1 : Nat)])
theorem next_end (s : ByteArray) (a : Nat) (w : World) (hs : s.size ≤ maxLen) (ha : s.size ≤ a) (ha2 : a ≤ maxLen) :
    Calls Tryd.prog 25 #[.string s, .int .i64 a] w fun e w' => e = nextOf a (Pl.fst (rest s a)) ∧ w = w' := by
  rw [rest_end s a ha]
  unfold maxLen at hs ha2
  go_enter Tryd.func25, Tryd.ntmps25
  go_wp2_with fail
  go_ret2
  exact ⟨rfl, rfl⟩
theorem sub_list (s : ByteArray) (a n : Nat) : (s.extract a (a + n)).data.toList = (rest s a).take n := by
  rw [Pl.extract_list]; unfold rest; rw [List.drop_take, Nat.add_sub_cancel_left]

set_option maxHeartbeats 1600000 in
theorem next_word (s : ByteArray) (a : Nat) (w : World) (hs : s.size ≤ maxLen) (ha : a < s.size) (hw : Pl.wb s[a] = true) :
    Calls Tryd.prog 25 #[.string s, .int .i64 a] w fun e w' => e = nextOf a (Pl.fst (rest s a)) ∧ w = w' := by
  have hv : Pl.fst (rest s a) = Pl.frun s[a] (rest s a) := by rw [rest_cons s a ha, Pl.fst_cons, if_pos hw]
  rw [hv]
  obtain ⟨n, hn⟩ : ∃ n, Pl.rl (rest s a) = n := ⟨_, rfl⟩
  have hnl := Pl.rl_le (rest s a)
  rw [rest_len, hn] at hnl
  have HR := Lib.hid (fun w => run5_any s a (a + n) w hs (Nat.le_of_lt ha) (by rw [hn]))
  have HL := Lib.hid (letter5_is s[a] true hw)
  unfold Pl.frun
  rw [hn]
  clear hv hn hw
  cases hd : Pl.db s[a]
  · have HD := Lib.hid (digit5_is s[a] false hd)
    rw [if_neg (by decide)]
    clear hd
    unfold maxLen at hs
    by_cases h32 : n ≤ 32
    · rw [if_pos h32]
      go_enter Tryd.func25, Tryd.ntmps25
      go_wp2_with (first | (go_at_call 27; refine (HL.out _).mono ?_; rintro e w' ⟨rfl, rfl⟩) | (go_at_call 36; refine (HR.out _).mono ?_; rintro e w' ⟨rfl, rfl⟩) | (go_at_call 37; refine (HD.out _).mono ?_; rintro e w' ⟨rfl, rfl⟩))
      go_ret2
      exact ⟨rfl, rfl⟩
    · rw [if_neg h32]
      go_enter Tryd.func25, Tryd.ntmps25
      go_wp2_with (first | (go_at_call 27; refine (HL.out _).mono ?_; rintro e w' ⟨rfl, rfl⟩) | (go_at_call 36; refine (HR.out _).mono ?_; rintro e w' ⟨rfl, rfl⟩) | (go_at_call 37; refine (HD.out _).mono ?_; rintro e w' ⟨rfl, rfl⟩))
      go_ret2
      exact ⟨rfl, rfl⟩
  · have HD := Lib.hid (digit5_is s[a] true hd)
    rw [if_pos rfl]
    clear hd
    have hz : (s.extract a (a + n)).size ≤ maxLen := by
      rw [Lib.size_eq, sub_list, List.length_take, rest_len]; omega
    cases hi : Pl.isInt ((rest s a).take n)
    · have HI := Lib.hid (fun w => int5_is (s.extract a (a + n)) false (by rw [sub_list]; exact hi) w hz)
      rw [if_neg (by decide)]
      clear hi hz
      unfold maxLen at hs
      go_enter Tryd.func25, Tryd.ntmps25
      go_wp2_with (first | (go_at_call 27; refine (HL.out _).mono ?_; rintro e w' ⟨rfl, rfl⟩) | (go_at_call 36; refine (HR.out _).mono ?_; rintro e w' ⟨rfl, rfl⟩) | (go_at_call 37; refine (HD.out _).mono ?_; rintro e w' ⟨rfl, rfl⟩) | (go_at_call 38; refine (HI.out _).mono ?_; rintro e w' ⟨rfl, rfl⟩))
      go_ret2
      exact ⟨rfl, rfl⟩
    · have HI := Lib.hid (fun w => int5_is (s.extract a (a + n)) true (by rw [sub_list]; exact hi) w hz)
      rw [if_pos rfl]
      clear hi hz
      unfold maxLen at hs
      go_enter Tryd.func25, Tryd.ntmps25
      go_wp2_with (first | (go_at_call 27; refine (HL.out _).mono ?_; rintro e w' ⟨rfl, rfl⟩) | (go_at_call 36; refine (HR.out _).mono ?_; rintro e w' ⟨rfl, rfl⟩) | (go_at_call 37; refine (HD.out _).mono ?_; rintro e w' ⟨rfl, rfl⟩) | (go_at_call 38; refine (HI.out _).mono ?_; rintro e w' ⟨rfl, rfl⟩))
      go_ret2
      exact ⟨rfl, rfl⟩

theorem rest_head (s : ByteArray) (a : Nat) (c : UInt8) : (rest s (a + 1)).head? = some c ↔ ∃ h : a + 1 < s.size, s[a + 1] = c := by
  by_cases h : a + 1 < s.size
  · rw [rest_cons s _ h, List.head?_cons, Option.some.injEq]; exact ⟨fun e => ⟨h, e⟩, fun ⟨_, e⟩ => e⟩
  · rw [rest_end s _ (by omega)]; simp; omega
theorem byte_eq (c d : UInt8) (n : Nat) (hd : d.toNat = n) : ((c.toNat : Int) == (n : Int)) = decide (c = d) := by
  rw [Bool.eq_iff_iff]; simp only [beq_iff_eq, decide_eq_true_eq]
  exact ⟨fun h => UInt8.toNat_inj.1 (by omega), fun h => by rw [h, hd]⟩
set_option maxHeartbeats 3200000 in
theorem next_mark (s : ByteArray) (a : Nat) (w : World) (hs : s.size ≤ maxLen) (ha : a < s.size) (hw : Pl.wb s[a] = false) :
    Calls Tryd.prog 25 #[.string s, .int .i64 a] w fun e w' => e = nextOf a (Pl.fst (rest s a)) ∧ w = w' := by
  have hv : Pl.fst (rest s a) = if s[a] = 61 then (3, if (rest s (a + 1)).head? = some 61 then 2 else 1) else if s[a] = 47 then (if (rest s (a + 1)).head? = some 47 then (0, 0) else (3, 1)) else if Pl.mks.contains s[a] = true then (3, 1) else (0, 0) := by
    rw [rest_cons s a ha, Pl.fst_cons, if_neg (by simp [hw])]
  rw [hv]
  clear hv
  have HL := Lib.hid (letter5_is s[a] false hw)
  have hm := mk5_eq s[a]
  have b61 := byte_eq s[a] 61 61 rfl
  have b47 := byte_eq s[a] 47 47 rfl
  unfold maxLen at hs
  have fin : ∀ (b : Bool) (p : Nat × Nat), True := fun _ _ => trivial
  by_cases e1 : s[a] = 61
  · rw [if_pos e1]
    rw [e1] at hm
    have HM := Lib.hid (mark5_is s[a] true (by rw [e1]; decide))
    have b61t : ((s[a].toNat : Int) == 61) = true := by rw [e1]; decide
    have b47f : ((s[a].toNat : Int) == 47) = false := by rw [e1]; decide
    clear hm b61 b47 hw e1
    by_cases hq : a + 1 < s.size
    · by_cases e2 : s[a + 1] = 61
      · rw [if_pos ((rest_head s a 61).2 ⟨hq, e2⟩)]
        have c61 : ((s[a + 1].toNat : Int) == 61) = true := by rw [e2]; decide
        clear e2
        go_enter Tryd.func25, Tryd.ntmps25
        go_wp2_with (first | (go_at_call 27; refine (HL.out _).mono ?_; rintro e w' ⟨rfl, rfl⟩) | (go_at_call 39; refine (HM.out _).mono ?_; rintro e w' ⟨rfl, rfl⟩))
        go_ret2
        exact ⟨rfl, rfl⟩
      · rw [if_neg (fun h => e2 ((rest_head s a 61).1 h).2)]
        have c61 : ((s[a + 1].toNat : Int) == 61) = false := by rw [show ((61 : Int) = ((61 : Nat) : Int)) from rfl, byte_eq s[a + 1] 61 61 rfl]; simpa using e2
        clear e2
        go_enter Tryd.func25, Tryd.ntmps25
        go_wp2_with (first | (go_at_call 27; refine (HL.out _).mono ?_; rintro e w' ⟨rfl, rfl⟩) | (go_at_call 39; refine (HM.out _).mono ?_; rintro e w' ⟨rfl, rfl⟩))
        go_ret2
        exact ⟨rfl, rfl⟩
    · rw [if_neg (fun h => hq ((rest_head s a 61).1 h).1)]
      go_enter Tryd.func25, Tryd.ntmps25
      go_wp2_with (first | (go_at_call 27; refine (HL.out _).mono ?_; rintro e w' ⟨rfl, rfl⟩) | (go_at_call 39; refine (HM.out _).mono ?_; rintro e w' ⟨rfl, rfl⟩))
      go_ret2
      exact ⟨rfl, rfl⟩
  · rw [if_neg e1]
    have b61f : ((s[a].toNat : Int) == 61) = false := by
      have := b61
      rw [decide_eq_false e1] at this
      exact this
    by_cases e2 : s[a] = 47
    · rw [if_pos e2]
      have HM := Lib.hid (mark5_is s[a] true (by rw [e2]; decide))
      have b47t : ((s[a].toNat : Int) == 47) = true := by rw [e2]; decide
      clear hm b61 b47 hw e1 e2
      by_cases hq : a + 1 < s.size
      · by_cases e2 : s[a + 1] = 47
        · rw [if_pos ((rest_head s a 47).2 ⟨hq, e2⟩)]
          have c47 : ((s[a + 1].toNat : Int) == 47) = true := by rw [e2]; decide
          clear e2
          go_enter Tryd.func25, Tryd.ntmps25
          go_wp2_with (first | (go_at_call 27; refine (HL.out _).mono ?_; rintro e w' ⟨rfl, rfl⟩) | (go_at_call 39; refine (HM.out _).mono ?_; rintro e w' ⟨rfl, rfl⟩))
          go_ret2
          exact ⟨rfl, rfl⟩
        · rw [if_neg (fun h => e2 ((rest_head s a 47).1 h).2)]
          have c47 : ((s[a + 1].toNat : Int) == 47) = false := by
            have := byte_eq s[a + 1] 47 47 rfl
            rw [decide_eq_false e2] at this
            exact this
          clear e2
          go_enter Tryd.func25, Tryd.ntmps25
          go_wp2_with (first | (go_at_call 27; refine (HL.out _).mono ?_; rintro e w' ⟨rfl, rfl⟩) | (go_at_call 39; refine (HM.out _).mono ?_; rintro e w' ⟨rfl, rfl⟩))
          go_ret2
          exact ⟨rfl, rfl⟩
      · rw [if_neg (fun h => hq ((rest_head s a 47).1 h).1)]
        go_enter Tryd.func25, Tryd.ntmps25
        go_wp2_with (first | (go_at_call 27; refine (HL.out _).mono ?_; rintro e w' ⟨rfl, rfl⟩) | (go_at_call 39; refine (HM.out _).mono ?_; rintro e w' ⟨rfl, rfl⟩))
        go_ret2
        exact ⟨rfl, rfl⟩
    · rw [if_neg e2]
      have b47f : ((s[a].toNat : Int) == 47) = false := by
        have := b47
        rw [decide_eq_false e2] at this
        exact this
      rw [decide_eq_false e1, decide_eq_false e2, Bool.false_or, Bool.false_or] at hm
      cases hb : Pl.mks.contains s[a]
      · rw [if_neg (by decide)]
        rw [hb] at hm
        have HM := Lib.hid (mark5_is s[a] false hm)
        clear hm hb b61 b47 hw e1 e2
        go_enter Tryd.func25, Tryd.ntmps25
        go_wp2_with (first | (go_at_call 27; refine (HL.out _).mono ?_; rintro e w' ⟨rfl, rfl⟩) | (go_at_call 39; refine (HM.out _).mono ?_; rintro e w' ⟨rfl, rfl⟩))
        go_ret2
        exact ⟨rfl, rfl⟩
      · rw [if_pos rfl]
        rw [hb] at hm
        have HM := Lib.hid (mark5_is s[a] true hm)
        clear hm hb b61 b47 hw e1 e2
        go_enter Tryd.func25, Tryd.ntmps25
        go_wp2_with (first | (go_at_call 27; refine (HL.out _).mono ?_; rintro e w' ⟨rfl, rfl⟩) | (go_at_call 39; refine (HM.out _).mono ?_; rintro e w' ⟨rfl, rfl⟩))
        go_ret2
        exact ⟨rfl, rfl⟩
theorem next_any (s : ByteArray) (a : Nat) (w : World) (hs : s.size ≤ maxLen) (ha : a ≤ maxLen) :
    Calls Tryd.prog 25 #[.string s, .int .i64 a] w fun e w' => e = nextOf a (Pl.fst (rest s a)) ∧ w = w' := by
  by_cases h : a < s.size
  · cases hw : Pl.wb s[a]
    · exact next_mark s a w hs h hw
    · exact next_word s a w hs h hw
  · exact next_end s a w hs (by omega) ha
theorem next_is (s : ByteArray) (a k n : Nat) (h : Pl.fst (rest s a) = (k, n)) (w : World) (hs : s.size ≤ maxLen) (ha : a ≤ maxLen) :
    Calls Tryd.prog 25 #[.string s, .int .i64 a] w fun e w' => e = .returned (.tuple #[.int .i64 ((a : Int) + (n : Int)), .int .i64 k]) ∧ w = w' := by
  have := next_any s a w hs ha
  rw [h] at this
  exact this
theorem kind5_any (s : ByteArray) (w : World) (hs : s.size ≤ maxLen) :
    Calls Tryd.prog 17 #[.string s] w fun e w' => e = .returned (.int .i64 (Pl.kd s.data.toList)) ∧ w = w' := by
  obtain ⟨k, n, h⟩ : ∃ k n, Pl.fst s.data.toList = (k, n) := ⟨_, _, rfl⟩
  have hle := Pl.fst_le s.data.toList
  rw [h, ← Lib.size_eq] at hle
  simp only at hle
  have h0 : rest s 0 = s.data.toList := by unfold rest; rw [List.drop_zero]
  have HF := Lib.hid (fun w => next_is s 0 k n (by rw [h0]; exact h) w hs (Nat.zero_le _))
  have hk : Pl.kd s.data.toList = if n = s.size then k else 0 := by unfold Pl.kd; rw [h, Lib.size_eq]
  rw [hk]
  clear h hk h0
  unfold maxLen at hs
  by_cases hn : n = s.size
  · rw [if_pos hn]
    subst hn
    go_enter Tryd.func17, Tryd.ntmps17
    go_wp2_with (go_at_call 25; refine (HF.out _).mono ?_; rintro e w' ⟨rfl, rfl⟩)
    go_ret
    exact ⟨rfl, rfl⟩
  · rw [if_neg hn]
    go_enter Tryd.func17, Tryd.ntmps17
    go_wp2_with (go_at_call 25; refine (HF.out _).mono ?_; rintro e w' ⟨rfl, rfl⟩)
    go_ret
    exact ⟨rfl, rfl⟩
end Go.Proofs.YtebmmpepniokjaaDoor
