/- The walk of the law TriviaEnds. -/
import Derived.Test.YtceoleddijnieaaDoorWalkAwake
namespace Go.Proofs.YtceoleddijnieaaDoor
open Go.RowKit
set_option linter.unusedVariables false
set_option linter.unusedSimpArgs false

theorem ext_size (s : ByteArray) (a b : Nat) (h : a ≤ b) (hb : b ≤ s.size) : (s.extract a b).size = b - a := by
  rw [ByteArray.size_extract]; omega
theorem no_blank (s : ByteArray) (k : Nat) (hk : k < s.size) (h : Pl.hop (rest s k) = 0) : s[k] ≠ 32 ∧ s[k] ≠ 9 ∧ s[k] ≠ 10 := by
  rw [rest_cons s k hk] at h
  have hb : Pl.blank s[k] = false := by
    cases hb : Pl.blank s[k] with
    | false => rfl
    | true => rw [Pl.hop_blank _ _ hb] at h; cases h
  have h2 : ∀ c : UInt8, Pl.blank c = false → c ≠ 32 ∧ c ≠ 9 ∧ c ≠ 10 := by
    intro c hc
    refine ⟨fun e => ?_, fun e => ?_, fun e => ?_⟩ <;> (subst e; exact absurd hc (by decide))
  exact h2 _ hb

set_option maxHeartbeats 1600000 in
theorem ends_out (s : ByteArray) (n : Int) (w : World) (hs : s.size ≤ maxLen) (h : n < 0 ∨ (s.size : Int) < n) :
    Calls Tryd.prog 6 #[.string s, .int .i64 n] w fun e w' => e = .returned (.bool true) ∧ Below w.heap.size w w' := by
  have HE := Lib.hid (fun w => end_out s n w hs h)
  unfold maxLen at hs
  rcases h with h | h
  · go_enter Tryd.func6, Tryd.ntmps6
    go_wp2_with fail
    refine (HE.out _).mono ?_
    rintro e w' ⟨rfl, rfl⟩
    go_wp2_with fail
    refine (awake_any _).mono ?_
    rintro e w1 ⟨rfl, hb1⟩
    go_wp2_with fail
    go_ret
    exact ⟨rfl, hb1⟩
  · have h2 : ¬ n < 0 := by omega
    go_enter Tryd.func6, Tryd.ntmps6
    go_wp2_with fail
    refine (HE.out _).mono ?_
    rintro e w' ⟨rfl, rfl⟩
    go_wp2_with fail
    refine (awake_any _).mono ?_
    rintro e w1 ⟨rfl, hb1⟩
    go_wp2_with fail
    go_ret
    exact ⟨rfl, hb1⟩

set_option maxHeartbeats 3200000 in
theorem ends_in (s : ByteArray) (k : Nat) (w : World) (hs : s.size ≤ maxLen) (hk : k ≤ s.size) :
    Calls Tryd.prog 6 #[.string s, .int .i64 k] w fun e w' => e = .returned (.bool true) ∧ Below w.heap.size w w' := by
  obtain ⟨N, hN⟩ : ∃ N, N = k + Pl.eo (rest s k) := ⟨_, rfl⟩
  have hle := Pl.eo_le (rest s k)
  rw [rest_len] at hle
  have hN1 : k ≤ N := by omega
  have hN2 : N ≤ s.size := by omega
  have hE : ∀ w, Calls Tryd.prog 11 #[.string s, .int .i64 k] w fun e w' => e = .returned (.int .i64 N) ∧ Below w.heap.size w w' := fun w => hN ▸ end_in s k w hs hk
  have hop0 : Pl.hop (rest s N) = 0 := by rw [hN, ← rest_rest]; exact Pl.eo_rest _
  have hE2 : ∀ w, Calls Tryd.prog 11 #[.string s, .int .i64 N] w fun e w' => e = .returned (.int .i64 N) ∧ Below w.heap.size w w' := fun w => by
    have := end_in s N w hs hN2
    rw [Pl.eo_stop _ hop0] at this
    exact this
  have v1 : val (s.extract k N).data.toList = true := by
    rw [ext_take, Pl.mk_list, show N - k = Pl.eo (rest s k) from by omega]
    unfold val
    rw [Pl.eo_take, List.length_take, rest_len]
    simp; omega
  have v2 : val (s.extract k s.size).data.toList = decide (N = s.size) := by
    rw [rest_ext]; unfold val
    rw [rest_len, Bool.eq_iff_iff]
    simp only [beq_iff_eq, decide_eq_true_eq]; omega
  have z1 := ext_size s k N hN1 hN2
  have z2 := ext_size s k s.size hk (Nat.le_refl _)
  have HV1 := Lib.hid (fun w => valid_is (s.extract k N) true v1 w (by rw [z1]; unfold maxLen at hs ⊢; omega))
  have HV2 := Lib.hid (fun w => valid_is (s.extract k s.size) _ v2 w (by rw [z2]; unfold maxLen at hs ⊢; omega))
  have HE := Lib.hid hE
  have HE2 := Lib.hid hE2
  have hp := hop0
  clear hE hE2 v1 v2 z1 z2 hN hle hop0
  unfold maxLen at hs
  by_cases hz : N = s.size
  · have e : decide (N = s.size) = true := by simpa using hz
    rw [e] at HV2
    clear e hp
    subst hz
    go_enter Tryd.func6, Tryd.ntmps6
    go_wp2_with fail
    refine (HE.out _).mono ?_
    rintro e w1 ⟨rfl, hb1⟩
    go_wp2_with fail
    refine (HV1.out _).mono ?_
    rintro e w2 ⟨rfl, hb2⟩
    have hb12 := hb1.trans (hb2.mono hb1.size)
    clear hb1 hb2
    go_wp2_with fail
    refine (HV2.out _).mono ?_
    rintro e w3 ⟨rfl, hb3⟩
    have hb13 := hb12.trans (hb3.mono hb12.size)
    clear hb12 hb3
    go_wp2_with fail
    refine (HE2.out _).mono ?_
    rintro e w4 ⟨rfl, hb4⟩
    have hb14 := hb13.trans (hb4.mono hb13.size)
    clear hb13 hb4
    go_wp2_with fail
    refine (awake_any _).mono ?_
    rintro e w5 ⟨rfl, hb5⟩
    have hb15 := hb14.trans (hb5.mono hb14.size)
    clear hb14 hb5
    go_wp2_with fail
    go_ret
    exact ⟨rfl, hb15⟩
  · have e : decide (N = s.size) = false := by simpa using hz
    rw [e] at HV2
    have hlt : N < s.size := by omega
    obtain ⟨b1, b2, b3⟩ := no_blank s N hlt hp
    have c1 : ((s[N].toNat : Int) != 32) = true := by
      have : s[N].toNat ≠ 32 := fun e => b1 (UInt8.toNat_inj.1 e)
      simp; omega
    have c2 : ((s[N].toNat : Int) != 9) = true := by
      have : s[N].toNat ≠ 9 := fun e => b2 (UInt8.toNat_inj.1 e)
      simp; omega
    have c3 : ((s[N].toNat : Int) != 10) = true := by
      have : s[N].toNat ≠ 10 := fun e => b3 (UInt8.toNat_inj.1 e)
      simp; omega
    have hzb : ((N : Int) == (s.size : Int)) = false := by simp; omega
    clear e hp b1 b2 b3 hz
    go_enter Tryd.func6, Tryd.ntmps6
    go_wp2_with fail
    refine (HE.out _).mono ?_
    rintro e w1 ⟨rfl, hb1⟩
    go_wp2_with fail
    refine (HV1.out _).mono ?_
    rintro e w2 ⟨rfl, hb2⟩
    have hb12 := hb1.trans (hb2.mono hb1.size)
    clear hb1 hb2
    go_wp2_with fail
    refine (HV2.out _).mono ?_
    rintro e w3 ⟨rfl, hb3⟩
    have hb13 := hb12.trans (hb3.mono hb12.size)
    clear hb12 hb3
    go_wp2_with fail
    refine (HE2.out _).mono ?_
    rintro e w4 ⟨rfl, hb4⟩
    have hb14 := hb13.trans (hb4.mono hb13.size)
    clear hb13 hb4
    go_wp2_with fail
    refine (awake_any _).mono ?_
    rintro e w5 ⟨rfl, hb5⟩
    have hb15 := hb14.trans (hb5.mono hb14.size)
    clear hb14 hb5
    go_wp2_with fail
    go_ret
    exact ⟨rfl, hb15⟩
theorem lawEnds (s : ByteArray) (n : Int) (w : World) (hs : s.size ≤ maxLen) :
    Calls Tryd.prog 6 #[.string s, .int .i64 n] w fun e w' => e = .returned (.bool true) ∧ Below w.heap.size w w' := by
  by_cases h : n < 0 ∨ (s.size : Int) < n
  · exact ends_out s n w hs h
  · obtain ⟨k, rfl⟩ : ∃ k : Nat, n = k := ⟨n.toNat, by omega⟩
    exact ends_in s k w hs (by omega)
end Go.Proofs.YtceoleddijnieaaDoor
