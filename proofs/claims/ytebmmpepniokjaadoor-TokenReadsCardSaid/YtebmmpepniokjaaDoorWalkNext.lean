/- The walks of the reference's run, integer, mark, next, Kind. -/
import Derived.Test.YtebmmpepniokjaaDoorWalkClass
namespace Go.Proofs.YtebmmpepniokjaaDoor
open Go.RowKit
set_option linter.unusedVariables false
set_option linter.unusedSimpArgs false

/-- The bytes from a to k are of a run. -/
def WbsIn (s : ByteArray) (a k : Nat) : Prop := ∀ j, (hj : j < s.size) → a ≤ j → j < k → Pl.wb s[j] = true
theorem wbsIn_step (s : ByteArray) (a k : Nat) (hk : k < s.size) (h : WbsIn s a k) (hw : Pl.wb s[k] = true) : WbsIn s a (k + 1) := by
  intro j hj ha hlt
  by_cases e : j = k
  · subst e; exact hw
  · exact h j hj ha (by omega)
theorem rest_at (s : ByteArray) (k j : Nat) (h : j < (rest s k).length) : ∃ h2 : k + j < s.size, (rest s k)[j] = s[k + j] :=
  ⟨by rw [rest_len] at h; omega, List.getElem_drop (xs := s.data.toList) (i := k) (j := j) (h := h)⟩
theorem wbsIn_end (s : ByteArray) (a k : Nat) (ha : a ≤ k) (hk : k ≤ s.size) (h : WbsIn s a k) (hn : ∀ h : k < s.size, Pl.wb s[k] = false) : a + Pl.rl (rest s a) = k := by
  have : Pl.rl (rest s a) = k - a := by
    refine Pl.rl_eq _ _ (by rw [rest_len]; omega) (fun j hj hlt => ?_) (fun hj => ?_)
    · obtain ⟨h2, e⟩ := rest_at s a j hj
      rw [e]; exact h (a + j) h2 (by omega) (by omega)
    · obtain ⟨h2, e⟩ := rest_at s a _ hj
      rw [e]
      have : ∀ m, (hm : m < s.size) → m = k → Pl.wb s[m] = false := fun m hm e => by subst e; exact hn hm
      exact this _ h2 (by omega)
  omega
set_option maxHeartbeats 800000 in
theorem run5_any (s : ByteArray) (a n : Nat) (w : World) (hs : s.size ≤ maxLen) (ha : a ≤ s.size) (hn : a + Pl.rl (rest s a) = n) :
    Calls Tryd.prog 36 #[.string s, .int .i64 a] w fun e w' => e = .returned (.int .i64 n) ∧ w = w' := by
  have HN := Lib.hid hn
  clear hn
  unfold maxLen at hs
  go_enter Tryd.func36, Tryd.ntmps36
  go_wp2_with fail
  go_loop [5] (fun i => ∃ k : Nat, a ≤ k ∧ k ≤ s.size ∧ i = .int .i64 k ∧ WbsIn s a k) (fun i => s.size - (intOf i).toNat)
  case atStart => exact ⟨a, Nat.le_refl _, ha, rfl, fun j _ h1 h2 => absurd h2 (by omega)⟩
  case round =>
    obtain ⟨k, hak, hk, rfl, hwb⟩ := hrel
    have HW := Lib.hid hwb
    clear hwb
    by_cases hlt : k < s.size
    · cases hc : Pl.wb s[k]
      · obtain rfl : n = k := by rw [← HN.out]; exact wbsIn_end s a k hak hk HW.out (fun _ => hc)
        have HC := Lib.hid (letter5_is s[n] false hc)
        clear hc
        go_wp2_with (go_at_call 27; refine (HC.out _).mono ?_; rintro e w' ⟨rfl, rfl⟩)
        go_ret
        exact ⟨rfl, rfl⟩
      · have HC := Lib.hid (letter5_is s[k] true hc)
        have HS := Lib.hid (wbsIn_step s a k hlt HW.out hc)
        clear hc
        go_wp2_with (go_at_call 27; refine (HC.out _).mono ?_; rintro e w' ⟨rfl, rfl⟩)
        exact ⟨⟨k + 1, by omega, by omega, by go_num, HS.out⟩, by simp [intOf]; omega⟩
    · obtain rfl : n = k := by rw [← HN.out]; exact wbsIn_end s a k hak hk HW.out (fun h => absurd h hlt)
      go_wp2_with fail
      go_ret
      exact ⟨rfl, rfl⟩

/- ### integer -/
/-- The first k bytes are digits, which spell n. -/
def Digs (s : ByteArray) (k n : Nat) : Prop := (s.data.toList.take k).all Pl.db = true ∧ n = Pl.numF 0 (s.data.toList.take k)
theorem digs_step (s : ByteArray) (k n : Nat) (hk : k < s.size) (h : Digs s k n) (hd : Pl.db s[k] = true) : Digs s (k + 1) (n * 10 + s[k].toNat - 48) ∧ 48 ≤ s[k].toNat ∧ s[k].toNat ≤ 57 := by
  obtain ⟨h1, h2⟩ := h
  have hc := (Pl.db_iff _).1 hd
  have hl : k < s.data.toList.length := by rw [← Lib.size_eq]; exact hk
  have e := Pl.take_snoc s.data.toList k hl
  rw [Pl.get_list s k hk hl] at e
  refine ⟨⟨?_, ?_⟩, hc⟩
  · rw [e, List.all_append, h1]; simp [hd]
  · rw [e, Pl.numF_snoc, ← h2]; omega
theorem digs_lt (s : ByteArray) (k n : Nat) (hk : k ≤ 13) (h : Digs s k n) : n ≤ 10000000000000 := by
  have := Pl.numF_lt _ h.1
  rw [← h.2, List.length_take] at this
  have h2 : 10 ^ min k s.data.toList.length ≤ 10 ^ 13 := Nat.pow_le_pow_right (by decide) (by omega)
  omega
theorem digs_no (s : ByteArray) (k : Nat) (hk : k < s.size) (hd : Pl.db s[k] = false) : Pl.isInt s.data.toList = false := by
  have hl : k < s.data.toList.length := by rw [← Lib.size_eq]; exact hk
  have : s.data.toList.all Pl.db = false := by
    rw [List.all_eq_false]
    exact ⟨s.data.toList[k], List.getElem_mem _, by rw [Pl.get_list s k hk hl, hd]; simp⟩
  unfold Pl.isInt
  rw [this]; simp
theorem digs_all (s : ByteArray) (n : Nat) (h : Digs s s.size n) (h1 : 1 ≤ s.size) (hz : s.data.toList = [48] ∨ s.data.toList.head? ≠ some 48) : Pl.isInt s.data.toList = decide (n ≤ 1000000000000) := by
  obtain ⟨h2, h3⟩ := h
  rw [Lib.size_eq, List.take_length] at h2 h3
  have hne : s.data.toList ≠ [] := by intro e; rw [Lib.size_eq, e] at h1; simp at h1
  rw [Pl.isInt_eq _ hne hz, h2, h3, Bool.true_and]
theorem head5 (s : ByteArray) (h : 0 < s.size) : s.data.toList.head? = some s[0] := by
  have hl : 0 < s.data.toList.length := by rw [← Lib.size_eq]; exact h
  rw [← Pl.get_list s 0 h hl]
  match s.data.toList, hl with
  | c :: r, _ => rfl
theorem one_list (s : ByteArray) (h : s.size = 1) : s.data.toList = [s[0]] := by
  have hh := head5 s (by omega)
  rw [Lib.size_eq] at h
  match s.data.toList, h, hh with
  | [c], _, hh =>
    have : c = s[0] := by simpa using hh
    rw [this]

set_option maxHeartbeats 1600000 in
theorem int5_loop (s : ByteArray) (w : World) (h1 : 1 ≤ s.size) (h2 : s.size ≤ 13) (hz : s.size ≤ 1 ∨ ((s[0].toNat : Int) == 48) = false) :
    Calls Tryd.prog 38 #[.string s] w fun e w' => e = .returned (.bool (Pl.isInt s.data.toList)) ∧ w = w' := by
  have hz2 : s.data.toList = [48] ∨ s.data.toList.head? ≠ some 48 := by
    by_cases e : s[0] = 48
    · rcases hz with hz | hz
      · left; rw [one_list s (by omega), e]
      · rw [e] at hz; cases hz
    · right; rw [head5 s (by omega)]; simpa using e
  have HZ := Lib.hid hz2
  clear hz2
  have hb0 : ((s.size : Int) == 0) = false := beq_eq_false_iff_ne.2 (by omega)
  have hb13 : decide (13 < (s.size : Int)) = false := decide_eq_false (by omega)
  by_cases hs1 : s.size ≤ 1
  all_goals
    try have hz0 : ((s[0].toNat : Int) == 48) = false := hz.resolve_left hs1
    clear hz
    go_enter Tryd.func38, Tryd.ntmps38
    go_wp2_with fail
    go_loop [4, 3] (fun i m => ∃ k n : Nat, k ≤ s.size ∧ i = .int .i64 k ∧ m = .int .i64 n ∧ Digs s k n) (fun i _ => s.size - (intOf i).toNat)
    case atStart => exact ⟨0, 0, Nat.zero_le _, rfl, rfl, rfl, rfl⟩
    case round =>
      obtain ⟨k, n, hk, rfl, rfl, hd⟩ := hrel
      have hn := digs_lt s k n (by omega) hd
      have HD := Lib.hid hd
      clear hd
      by_cases hlt : k < s.size
      · cases hc : Pl.db s[k]
        · have HC := Lib.hid (digit5_is s[k] false hc)
          have HF := Lib.hid (digs_no s k hlt hc)
          clear hc
          go_wp2_with (go_at_call 37; refine (HC.out _).mono ?_; rintro e w' ⟨rfl, rfl⟩)
          go_ret
          exact ⟨ret_bool HF.out.symm, rfl⟩
        · have HC := Lib.hid (digit5_is s[k] true hc)
          obtain ⟨hs3, hc1, hc2⟩ := digs_step s k n hlt HD.out hc
          have HS := Lib.hid hs3
          clear hc hs3
          go_wp2_with (go_at_call 37; refine (HC.out _).mono ?_; rintro e w' ⟨rfl, rfl⟩)
          exact ⟨⟨k + 1, n * 10 + s[k].toNat - 48, by omega, by go_num, by go_num, HS.out⟩, by simp [intOf]; omega⟩
      · obtain rfl : k = s.size := by omega
        have HF := Lib.hid (digs_all s n HD.out h1 HZ.out)
        go_wp2_with fail
        go_ret
        exact ⟨ret_bool (by rw [HF.out, Bool.eq_iff_iff]; simp; omega), rfl⟩
theorem int5_any (s : ByteArray) (w : World) (hs : s.size ≤ maxLen) :
    Calls Tryd.prog 38 #[.string s] w fun e w' => e = .returned (.bool (Pl.isInt s.data.toList)) ∧ w = w' := by
  unfold maxLen at hs
  by_cases h0 : s.size = 0
  · obtain rfl : s = ⟨#[]⟩ := Pl.size_zero s h0
    go_enter Tryd.func38, Tryd.ntmps38
    go_wp2_with fail
    go_ret
    exact ⟨rfl, rfl⟩
  · by_cases h13 : 13 < s.size
    · have hf := Pl.isInt_long s.data.toList (by rw [← Lib.size_eq]; exact h13)
      rw [hf]
      clear hf
      go_enter Tryd.func38, Tryd.ntmps38
      go_wp2_with fail
      go_ret
      exact ⟨rfl, rfl⟩
    · have h00 : 0 < s.size := by omega
      by_cases hz : s.size ≤ 1 ∨ ((s[0].toNat : Int) == 48) = false
      · exact int5_loop s w (by omega) (by omega) hz
      · have h1 : 1 < s.size := by omega
        have h2 : ((s[0].toNat : Int) == 48) = true := by
          cases hb : ((s[0].toNat : Int) == 48)
          · exact absurd (.inr hb) hz
          · rfl
        have hf : Pl.isInt s.data.toList = false := by
          refine Pl.isInt_zero _ (fun e => ?_) ?_
          · rw [Lib.size_eq, e] at h1; simp at h1
          · rw [head5 s h00]
            have : s[0].toNat = 48 := by simp at h2; omega
            exact congrArg some (UInt8.toNat_inj.1 this)
        rw [hf]
        clear hz hf
        go_enter Tryd.func38, Tryd.ntmps38
        go_wp2_with fail
        go_ret
        exact ⟨rfl, rfl⟩
theorem int5_is (s : ByteArray) (b : Bool) (h : Pl.isInt s.data.toList = b) (w : World) (hs : s.size ≤ maxLen) :
    Calls Tryd.prog 38 #[.string s] w fun e w' => e = .returned (.bool b) ∧ w = w' := h ▸ int5_any s w hs
end Go.Proofs.YtebmmpepniokjaaDoor
