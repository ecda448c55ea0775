/- The walk of the laws' begins. -/
import Derived.Test.YtpaleolcfhnenaaDoorLaw
namespace Go.Proofs.YtpaleolcfhnenaaDoor.Rt
open Go.RowKit
set_option linter.unusedVariables false
set_option linter.unusedSimpArgs false

theorem prefix_get {xs ys : List Int} (h : ys <+: xs) {k : Nat} {x y : Int} (hx : xs[k]? = some x) (hy : ys[k]? = some y) : x = y := by
  obtain ⟨r, rfl⟩ := h
  have hk : k < ys.length := by
    rcases Nat.lt_or_ge k ys.length with h | h
    · exact h
    · rw [List.getElem?_eq_none h] at hy; cases hy
  rw [List.getElem?_append_left hk, hy] at hx
  exact (Option.some.inj hx).symm
set_option maxHeartbeats 800000 in
theorem begins_is (xs ys : List Int) (a b : Option Addr) (c d : Nat) (w : World) (hx : IsI w a xs) (hy : IsI w b ys) (v : Bool) (hv : decide (ys <+: xs) = v) :
    Calls Tryd.prog 26 #[.slice a xs.length c, .slice b ys.length d] w fun e w' => e = .returned (.bool v) ∧ Below w.heap.size w w' := by
  have HX := Lib.hid hx
  have HY := Lib.hid hy
  have HV := Lib.hid hv
  have hn1 : xs.length ≤ maxLen := hx.1
  have hn2 : ys.length ≤ maxLen := hy.1
  unfold maxLen at hn1 hn2
  clear hx hy hv
  by_cases hl : xs.length < ys.length
  · have HF : v = false := by
      rw [← HV.out]; exact decide_eq_false fun h => by have := h.length_le; omega
    subst HF
    obtain ⟨n, hn⟩ : ∃ n, n = xs.length := ⟨_, rfl⟩
    obtain ⟨m, hm⟩ : ∃ m, m = ys.length := ⟨_, rfl⟩
    rw [← hn, ← hm] at hl ⊢
    have hl2 : (n : Int) < (m : Int) := by omega
    clear hn hm hl
    go_enter Tryd.func26, Tryd.ntmps26
    go_wp2_with fail
    go_ret
    exact ⟨rfl, Below.refl _ _⟩
  · obtain ⟨n, hn⟩ : ∃ n, n = ys.length := ⟨_, rfl⟩
    obtain ⟨m, hm⟩ : ∃ m, m = xs.length := ⟨_, rfl⟩
    have HN := Lib.hid hn
    have HM := Lib.hid hm
    rw [← hn] at hl hn2 ⊢
    rw [← hm] at hl hn1 ⊢
    have hl2 : ¬ (m : Int) < (n : Int) := by omega
    clear hn hm
    go_enter Tryd.func26, Tryd.ntmps26
    go_wp2_with fail
    go_loopw [5] (fun i wr => ∃ k nq : Nat, k ≤ n ∧ i = .int .i64 k ∧ Hid (xs.take k = ys.take k) ∧ wr = w.drewN nq) (fun i _ => n - (intOf i).toNat)
    case atStart => exact ⟨0, 0, Nat.zero_le _, rfl, Lib.hid rfl, rfl⟩
    case round =>
      obtain ⟨k, nq, hk, rfl, HE, rfl⟩ := hrel
      by_cases hlt : k < n
      · have hky : k < ys.length := by rw [← HN.out]; exact hlt
        have hkx : k < xs.length := by rw [← HM.out]; omega
        have hgx := List.getElem?_eq_getElem hkx
        have hgy := List.getElem?_eq_getElem hky
        have hi0 : (0 : Int) ≤ (k : Int) := Int.natCast_nonneg _
        have hi1 : (k : Int) < (n : Int) := by omega
        have hi2 : (k : Int) < (m : Int) := by omega
        rcases HX.out.2 with h0 | ⟨b1, o1, rfl, _, hat1⟩
        · rw [h0] at hkx; simp at hkx
        · rcases HY.out.2 with h0 | ⟨b2, o2, rfl, _, hat2⟩
          · rw [h0] at hky; simp at hky
          · have c1 := hat1 k _ hgx
            have c2 := hat2 k _ hgy
            have HGX := Lib.hid hgx
            have HGY := Lib.hid hgy
            generalize xs[k] = x at *
            generalize ys[k] = y at *
            clear hat1 hat2 hgx hgy
            by_cases hxy : x = y
            · subst hxy
              have HT := Lib.hid (take_same HE.out HGX.out HGY.out)
              have hb : (x != x) = false := by simp
              go_wp2_with fail
              go_quiet (fail)
              go_wp2_with fail
              exact ⟨⟨k + 1, _, by omega, by go_num, HT, rfl⟩, by simp [intOf]; omega⟩
            · have HD := Lib.hid (show ¬ ys <+: xs from fun h => hxy (prefix_get h HGX.out HGY.out))
              obtain ⟨hb2, hb⟩ := int_ne hxy
              clear hxy
              go_wp2_with fail
              go_quiet (fail)
              go_wp2_with fail
              go_ret
              exact ⟨ret_bool (by rw [← HV.out]; exact (decide_eq_false HD.out).symm), ⟨rfl, rfl, rfl, Nat.le_refl _, fun _ _ => rfl⟩⟩
      · have hkn : k = n := by omega
        subst hkn
        have HD : Hid (ys <+: xs) := Lib.hid (by have := HE.out; rw [HN.out, List.take_length] at this; rw [← this]; exact List.take_prefix _ _)
        go_wp2_with fail
        go_ret
        exact ⟨ret_bool (by rw [← HV.out]; exact (decide_eq_true HD.out).symm), below_drewN _ _⟩
end Go.Proofs.YtpaleolcfhnenaaDoor.Rt
