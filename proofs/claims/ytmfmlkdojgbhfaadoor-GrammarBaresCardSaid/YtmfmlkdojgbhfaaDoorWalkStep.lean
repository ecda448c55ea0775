/- The walk of the reference's step. -/
import Derived.Test.YtmfmlkdojgbhfaaDoorWalkSkip
namespace Go.Proofs.YtmfmlkdojgbhfaaDoor
open Go.RowKit
set_option linter.unusedVariables false
set_option linter.unusedSimpArgs false

theorem hop_one' (s : ByteArray) (k : Nat) (hk : k < s.size) (h : (s[k].toNat : Int) = 32 ∨ (s[k].toNat : Int) = 9 ∨ (s[k].toNat : Int) = 10) : Pl.hop (rest s k) = 1 := by
  rw [rest_cons s k hk]
  refine Pl.hop_blank _ _ ((Pl.blank_iff _).2 ?_)
  rcases h with h | h | h
  · exact .inl (UInt8.toNat_inj.1 (by show _ = 32; omega))
  · exact .inr (.inl (UInt8.toNat_inj.1 (by show _ = 9; omega)))
  · exact .inr (.inr (UInt8.toNat_inj.1 (by show _ = 10; omega)))
def NoFeed (s : ByteArray) (k j : Nat) : Prop := ∀ m, (hm : m < s.size) → k ≤ m → m < j → s[m].toNat ≠ 10
theorem rest_get (s : ByteArray) (k j : Nat) (h : j < (rest s k).length) (h2 : k + j < s.size) : (rest s k)[j] = s[k + j] := List.getElem_drop (xs := s.data.toList) (i := k) (j := j) (h := h)
theorem hop_zero' (s : ByteArray) (k : Nat) (hk : k < s.size) (h1 : ((s[k].toNat : Int) == 32) = false) (h2 : ((s[k].toNat : Int) == 9) = false) (h3 : ((s[k].toNat : Int) == 10) = false)
    (h : ¬ (s[k].toNat : Int) = 47 ∨ s.size ≤ k + 1 ∨ (∃ hq : k + 1 < s.size, ((s[k + 1].toNat : Int) != 47) = true) ∨ NoFeed s k s.size) : Pl.hop (rest s k) = 0 := by
  refine Pl.hop_none _ (fun c r e => ?_) ?_
  · rw [rest_cons s k hk] at e
    injection e with e1 _
    rw [← e1]; exact blank_off _ h1 h2 h3
  · have two : ∀ r, rest s k = 47 :: 47 :: r → s[k] = 47 ∧ ∃ hq : k + 1 < s.size, s[k + 1] = 47 := by
      intro r e
      rw [rest_cons s k hk] at e
      injection e with e1 e2
      have hq : k + 1 < s.size := by
        rcases Nat.lt_or_ge (k + 1) s.size with h | h
        · exact h
        · rw [rest_end s _ h] at e2; cases e2
      rw [rest_cons s _ hq] at e2
      injection e2 with e2 _
      exact ⟨e1, hq, e2⟩
    rcases h with h | h | ⟨hq, h⟩ | h
    · left; intro r e
      have := (two r e).1
      rw [this] at h; exact h rfl
    · left; intro r e
      obtain ⟨_, hq, _⟩ := two r e
      omega
    · left; intro r e
      obtain ⟨_, hq, e2⟩ := two r e
      rw [e2] at h; simp at h
    · right; intro j hj e
      have hj2 : k + j < s.size := by rw [rest_len] at hj; omega
      rw [rest_get s k j hj hj2] at e
      exact h (k + j) hj2 (by omega) hj2 (by rw [e]; rfl)
theorem hop_feed (s : ByteArray) (k j : Nat) (hk : k ≤ j) (hj : j < s.size) (h47 : (s[k].toNat : Int) = 47) (hq : k + 1 < s.size) (h2 : ((s[k + 1].toNat : Int) != 47) = false) (h10 : ((s[j].toNat : Int) = 10)) (h : NoFeed s k j) : k + Pl.hop (rest s k) = j + 1 := by
  have e1 : s[k] = 47 := UInt8.toNat_inj.1 (by show _ = 47; omega)
  have e2 : s[k + 1] = 47 := UInt8.toNat_inj.1 (by show _ = 47; simp at h2; omega)
  have hl : j - k < (rest s k).length := by rw [rest_len]; omega
  have := Pl.hop_found (rest s k) ⟨rest s (k + 1 + 1), by rw [rest_cons s k (by omega), rest_cons s (k + 1) hq, e1, e2]⟩ (j - k) hl (by
    rw [rest_get s k (j - k) hl (by omega)]
    have : ∀ m, (hm : m < s.size) → m = j → s[m] = 10 := fun m hm e => by subst e; exact UInt8.toNat_inj.1 (by show _ = 10; omega)
    exact this _ _ (by omega)) (fun i hi hlt e => by
    have hi2 : k + i < s.size := by omega
    rw [rest_get s k i hi hi2] at e
    exact h (k + i) hi2 (by omega) (by omega) (by rw [e]; rfl))
  omega
theorem NoFeed.next {s : ByteArray} {k j : Nat} (h : NoFeed s k j) (hj : j < s.size) (hc : ¬ (s[j].toNat : Int) = 10) : NoFeed s k (j + 1) := by
  intro m hm h1 h2
  by_cases e : m = j
  · subst e; omega
  · exact h m hm h1 (by omega)

set_option maxHeartbeats 1600000 in
theorem step_any (s : ByteArray) (k : Nat) (w : World) (hs : s.size ≤ maxLen) (hk : k ≤ s.size) :
    Calls Tryd.prog 68 #[.string s, .int .i64 k] w fun e w' => e = .returned (.int .i64 ((k + Pl.hop (rest s k) : Nat) : Int)) ∧ w = w' := by
  unfold maxLen at hs
  obtain ⟨R, hR⟩ : ∃ R : Int, R = ((k + Pl.hop (rest s k) : Nat) : Int) := ⟨_, rfl⟩
  rw [← hR]
  have HR := Lib.hid hR
  clear hR
  go_enter Tryd.func68, Tryd.ntmps68
  go_wp2_with fail
  · have h : s.size ≤ k := by assumption
    go_ret
    exact ⟨ret_int (by rw [HR.out, rest_end s k h]; rfl), rfl⟩
  · have hlt : k < s.size := by assumption
    have h : (s[k].toNat : Int) = 32 := by assumption
    go_ret
    exact ⟨ret_int (by rw [HR.out, hop_one' s k hlt (.inl h)]; rfl), rfl⟩
  · have hlt : k < s.size := by assumption
    have h : (s[k].toNat : Int) = 9 := by assumption
    go_ret
    exact ⟨ret_int (by rw [HR.out, hop_one' s k hlt (.inr (.inl h))]; rfl), rfl⟩
  · have hlt : k < s.size := by assumption
    have h : (((s[k].toNat : Int) == 32) = true ∨ ((s[k].toNat : Int) == 9) = true) ∨ ((s[k].toNat : Int) == 10) = true := by assumption
    go_ret
    refine ⟨ret_int ?_, rfl⟩
    have h2 : (s[k].toNat : Int) = 32 ∨ (s[k].toNat : Int) = 9 ∨ (s[k].toNat : Int) = 10 := by
      simp only [beq_iff_eq] at h; omega
    rw [HR.out, hop_one' s k hlt h2]; rfl
  · have hlt : k < s.size := by assumption
    have h : (((s[k].toNat : Int) == 32) = false ∧ ((s[k].toNat : Int) == 9) = false) ∧ ((s[k].toNat : Int) == 10) = false := by assumption
    have hq : (k : Int) + 1 < s.size := by assumption
    have hq2 : k + 1 < s.size := by omega
    have h2 : (s.size : Int) ≤ (k : Int) + 1 ∨ ((s[k + 1].toNat : Int) != 47) = true := by assumption
    go_ret
    refine ⟨ret_int ?_, rfl⟩
    rw [HR.out, hop_zero' s k hlt h.1.1 h.1.2 h.2 (by
      rcases h2 with h2 | h2
      · omega
      · exact .inr (.inr (.inl ⟨hq2, h2⟩)))]; rfl
  · have hlt : k < s.size := by assumption
    have h : (((s[k].toNat : Int) == 32) = false ∧ ((s[k].toNat : Int) == 9) = false) ∧ ((s[k].toNat : Int) == 10) = false := by assumption
    have hq : (k : Int) + 1 < s.size := by assumption
    have hq2 : k + 1 < s.size := by omega
    have h47 : (s[k].toNat : Int) = 47 := by assumption
    have h2 : (k : Int) + 1 < s.size ∧ ((s[k + 1].toNat : Int) != 47) = false := by assumption
    have HB := Lib.hid h
    have H47 := Lib.hid h47
    have H2 := Lib.hid h2.2
    clear h h47 h2
    go_loop [5] (fun i => ∃ j : Nat, k ≤ j ∧ j ≤ s.size ∧ i = .int .i64 j ∧ NoFeed s k j) (fun i => s.size - (intOf i).toNat)
    case atStart => exact ⟨k, Nat.le_refl _, by omega, rfl, fun m _ h1 h2 => by omega⟩
    case round =>
      obtain ⟨j, hkj, hjs, rfl, hno⟩ := hrel
      have HN := Lib.hid hno
      clear hno
      by_cases hj : j < s.size
      · by_cases h10 : (s[j].toNat : Int) = 10
        · have H10 := Lib.hid h10
          have hb : ((s[j].toNat : Int) == 10) = true := by simp [h10]
          clear h10
          go_wp2_with fail
          go_ret
          exact ⟨ret_int (by rw [HR.out, hop_feed s k j hkj hj H47.out hq2 H2.out H10.out HN.out]; rfl), rfl⟩
        · have HX := Lib.hid (HN.out.next hj h10)
          have hb : ((s[j].toNat : Int) == 10) = false := by simpa using h10
          clear h10
          go_wp2_with fail
          exact ⟨⟨j + 1, by omega, by omega, by go_num, HX.out⟩, by simp [intOf]; omega⟩
      · obtain rfl : j = s.size := by omega
        go_wp2_with fail
        go_ret
        exact ⟨ret_int (by rw [HR.out, hop_zero' s k hlt HB.out.1.1 HB.out.1.2 HB.out.2 (.inr (.inr (.inr HN.out)))]; rfl), rfl⟩
  · have hlt : k < s.size := by assumption
    have h : (((s[k].toNat : Int) == 32) = false ∧ ((s[k].toNat : Int) == 9) = false) ∧ ((s[k].toNat : Int) == 10) = false := by assumption
    have hq : (s.size : Int) ≤ (k : Int) + 1 := by assumption
    go_ret
    exact ⟨ret_int (by rw [HR.out, hop_zero' s k hlt h.1.1 h.1.2 h.2 (.inr (.inl (by omega)))]; rfl), rfl⟩
  · have hlt : k < s.size := by assumption
    have h : (((s[k].toNat : Int) == 32) = false ∧ ((s[k].toNat : Int) == 9) = false) ∧ ((s[k].toNat : Int) == 10) = false := by assumption
    have hq : ¬ (s[k].toNat : Int) = 47 := by assumption
    go_ret
    exact ⟨ret_int (by rw [HR.out, hop_zero' s k hlt h.1.1 h.1.2 h.2 (.inl hq)]; rfl), rfl⟩
end Go.Proofs.YtmfmlkdojgbhfaaDoor
