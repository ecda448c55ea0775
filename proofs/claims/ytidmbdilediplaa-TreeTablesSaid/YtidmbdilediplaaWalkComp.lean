/- The walks of the comparisons of lists of strings and of numbers. -/
import Derived.Test.YtidmbdilediplaaWalkLit
namespace Go.Proofs.Ytidmbdilediplaa
open Go.RowKit
set_option linter.unusedVariables false
set_option linter.unusedSimpArgs false

theorem mem_ne {α : Type} {a b : List α} (h : a ≠ b) (hl : a.length = b.length) : ∃ (j : Nat) (x y : α), a[j]? = some x ∧ b[j]? = some y ∧ x ≠ y := by
  induction a generalizing b with
  | nil =>
    cases b with
    | nil => exact absurd rfl h
    | cons _ _ => cases hl
  | cons x a ih =>
    cases b with
    | nil => cases hl
    | cons y b =>
      by_cases hxy : x = y
      · subst hxy
        obtain ⟨j, u, v, h1, h2, h3⟩ := ih (fun e => h (by rw [e])) (by simpa using hl)
        exact ⟨j + 1, u, v, h1, h2, h3⟩
      · exact ⟨0, x, y, rfl, rfl, hxy⟩
theorem take_same {α : Type} {a b : List α} {k : Nat} {x : α} (h : a.take k = b.take k) (ha : a[k]? = some x) (hb : b[k]? = some x) : a.take (k + 1) = b.take (k + 1) := by
  rw [List.take_add_one, List.take_add_one, ha, hb, h]
theorem take_differ {α : Type} {a b : List α} {k : Nat} {x y : α} (ha : a[k]? = some x) (hb : b[k]? = some y) (h : x ≠ y) : a ≠ b := by
  rintro rfl; rw [ha] at hb; exact h (Option.some.inj hb)
theorem str_ne {x y : ByteArray} (h : x ≠ y) : (x.toList == y.toList) = false := by
  have : x.toList ≠ y.toList := fun e => h (by
    have e2 : x.data.toList = y.data.toList := by
      rw [← ByteArray.toList_eq, ← ByteArray.toList_eq] <;> exact e
    cases x; cases y; simp at e2; rw [e2])
  simpa using this
/- LISTS -/
set_option maxHeartbeats 400000 in
theorem rstrings_any {P Q : Nat → Prop} {w : World} (a b : Option Addr) (c d : Nat) (xs ys : List ByteArray) (hx : Strs P w a xs) (hy : Strs Q w b ys) :
    Calls Try.prog 35 #[.slice a xs.length c, .slice b ys.length d] w fun e w' => e = .returned (.bool (decide (xs = ys))) ∧ Below w.heap.size w w' := by
  have hn1 : xs.length ≤ maxLen := hx.1
  have hn2 : ys.length ≤ maxLen := hy.1
  unfold maxLen at hn1 hn2
  by_cases hl : xs.length = ys.length
  · have HX := Lib.hid hx
    have HY := Lib.hid hy
    have HLen := Lib.hid hl
    clear hx hy
    rw [← hl]
    obtain ⟨n, hn⟩ : ∃ n, n = xs.length := ⟨_, rfl⟩
    have HN := Lib.hid hn
    rw [← hn] at hn1 ⊢
    clear hl hn hn2
    go_enter Try.func35, Try.ntmps35
    go_wp2_with fail
    go_loopw [5] (fun i wr => ∃ k nq : Nat, k ≤ n ∧ i = .int .i64 k ∧ xs.take k = ys.take k ∧ wr = w.drewN nq) (fun i _ => n - (intOf i).toNat)
    case atStart => exact ⟨0, 0, Nat.zero_le _, rfl, rfl, rfl⟩
    case round =>
      obtain ⟨k, nq, hk, rfl, heq, rfl⟩ := hrel
      have HE := Lib.hid heq
      clear heq
      by_cases hlt : k < n
      · have hkx : k < xs.length := by rw [← HN.out]; exact hlt
        have hky : k < ys.length := by rw [← HLen.out]; exact hkx
        have hgx := List.getElem?_eq_getElem hkx
        have hgy := List.getElem?_eq_getElem hky
        have hi0 : (0 : Int) ≤ (k : Int) := Int.natCast_nonneg _
        have hi1 : (k : Int) < (n : Int) := by omega
        rcases HX.out.2.2 with h0 | ⟨b1, o1, rfl, _, hat1⟩
        · rw [h0] at hkx; simp at hkx
        · rcases HY.out.2.2 with h0 | ⟨b2, o2, rfl, _, hat2⟩
          · rw [h0] at hky; simp at hky
          · have c1 := hat1 k _ hgx
            have c2 := hat2 k _ hgy
            have HGX := Lib.hid hgx
            have HGY := Lib.hid hgy
            generalize xs[k] = x at *
            generalize ys[k] = y at *
            clear hat1 hat2 hgx hgy
            by_cases hxy : x = y
            · subst hxy
              have HT := Lib.hid (take_same HE.out HGX.out HGY.out)
              have hb : (x.toList != x.toList) = false := by simp
              go_wp2_with fail
              go_quiet (fail)
              go_wp2_with fail
              exact ⟨⟨k + 1, _, by omega, by go_num, HT.out, rfl⟩, by simp [intOf]; omega⟩
            · have HD := Lib.hid (take_differ HGX.out HGY.out hxy)
              have hb := str_ne hxy
              have hb2 : (x.toList != y.toList) = true := by rw [bne, hb]; rfl
              clear hxy
              go_wp2_with fail
              go_quiet (fail)
              go_wp2_with fail
              go_ret
              exact ⟨ret_bool (decide_eq_false HD.out).symm, ⟨rfl, rfl, rfl, Nat.le_refl _, fun _ _ => rfl⟩⟩
      · have hkn : k = n := by omega
        subst hkn
        have HD : Hid (xs = ys) := Lib.hid (by have := HE.out; rw [HN.out, List.take_length] at this; rw [this, HLen.out, List.take_length])
        go_wp2_with fail
        go_ret
        exact ⟨ret_bool (decide_eq_true HD.out).symm, below_drewN _ _⟩
  · have HD := Lib.hid (show xs ≠ ys from fun e => hl (by rw [e]))
    obtain ⟨n, hn⟩ : ∃ n, n = xs.length := ⟨_, rfl⟩
    obtain ⟨m, hm⟩ : ∃ m, m = ys.length := ⟨_, rfl⟩
    rw [← hn, ← hm] at hl ⊢
    have hl2 : ((n : Int) == (m : Int)) = false := by simpa using fun h : (n : Int) = m => hl (by omega)
    have hl3 : ((n : Int) != (m : Int)) = true := by simpa using fun h : (n : Int) = m => hl (by omega)
    clear hn hm hx hy hl
    go_enter Try.func35, Try.ntmps35
    go_wp2_with fail
    go_ret
    exact ⟨ret_bool (decide_eq_false HD.out).symm, Below.refl _ _⟩
set_option maxHeartbeats 400000 in
theorem rints_any {P Q : Nat → Prop} {w : World} (a b : Option Addr) (c d : Nat) (xs ys : List Int) (hx : Ints P w a xs) (hy : Ints Q w b ys) :
    Calls Try.prog 36 #[.slice a xs.length c, .slice b ys.length d] w fun e w' => e = .returned (.bool (decide (xs = ys))) ∧ Below w.heap.size w w' := by
  have hn1 : xs.length ≤ maxLen := hx.1
  have hn2 : ys.length ≤ maxLen := hy.1
  unfold maxLen at hn1 hn2
  by_cases hl : xs.length = ys.length
  · have HX := Lib.hid hx
    have HY := Lib.hid hy
    have HLen := Lib.hid hl
    clear hx hy
    rw [← hl]
    obtain ⟨n, hn⟩ : ∃ n, n = xs.length := ⟨_, rfl⟩
    have HN := Lib.hid hn
    rw [← hn] at hn1 ⊢
    clear hl hn hn2
    go_enter Try.func36, Try.ntmps36
    go_wp2_with fail
    go_loopw [5] (fun i wr => ∃ k nq : Nat, k ≤ n ∧ i = .int .i64 k ∧ xs.take k = ys.take k ∧ wr = w.drewN nq) (fun i _ => n - (intOf i).toNat)
    case atStart => exact ⟨0, 0, Nat.zero_le _, rfl, rfl, rfl⟩
    case round =>
      obtain ⟨k, nq, hk, rfl, heq, rfl⟩ := hrel
      have HE := Lib.hid heq
      clear heq
      by_cases hlt : k < n
      · have hkx : k < xs.length := by rw [← HN.out]; exact hlt
        have hky : k < ys.length := by rw [← HLen.out]; exact hkx
        have hgx := List.getElem?_eq_getElem hkx
        have hgy := List.getElem?_eq_getElem hky
        have hi0 : (0 : Int) ≤ (k : Int) := Int.natCast_nonneg _
        have hi1 : (k : Int) < (n : Int) := by omega
        rcases HX.out.2 with h0 | ⟨b1, o1, rfl, _, hat1⟩
        · rw [h0] at hkx; simp at hkx
        · rcases HY.out.2 with h0 | ⟨b2, o2, rfl, _, hat2⟩
          · rw [h0] at hky; simp at hky
          · have c1 := hat1 k _ hgx
            have c2 := hat2 k _ hgy
            have HGX := Lib.hid hgx
            have HGY := Lib.hid hgy
            generalize xs[k] = x at *
            generalize ys[k] = y at *
            clear hat1 hat2 hgx hgy
            by_cases hxy : x = y
            · subst hxy
              have HT := Lib.hid (take_same HE.out HGX.out HGY.out)
              have hb : (x != x) = false := by simp
              go_wp2_with fail
              go_quiet (fail)
              go_wp2_with fail
              exact ⟨⟨k + 1, _, by omega, by go_num, HT.out, rfl⟩, by simp [intOf]; omega⟩
            · have HD := Lib.hid (take_differ HGX.out HGY.out hxy)
              have hb : (x == y) = false := by simpa using hxy
              have hb2 : (x != y) = true := by simpa using hxy
              clear hxy
              go_wp2_with fail
              go_quiet (fail)
              go_wp2_with fail
              go_ret
              exact ⟨ret_bool (decide_eq_false HD.out).symm, ⟨rfl, rfl, rfl, Nat.le_refl _, fun _ _ => rfl⟩⟩
      · have hkn : k = n := by omega
        subst hkn
        have HD : Hid (xs = ys) := Lib.hid (by have := HE.out; rw [HN.out, List.take_length] at this; rw [this, HLen.out, List.take_length])
        go_wp2_with fail
        go_ret
        exact ⟨ret_bool (decide_eq_true HD.out).symm, below_drewN _ _⟩
  · have HD := Lib.hid (show xs ≠ ys from fun e => hl (by rw [e]))
    obtain ⟨n, hn⟩ : ∃ n, n = xs.length := ⟨_, rfl⟩
    obtain ⟨m, hm⟩ : ∃ m, m = ys.length := ⟨_, rfl⟩
    rw [← hn, ← hm] at hl ⊢
    have hl2 : ((n : Int) == (m : Int)) = false := by simpa using fun h : (n : Int) = m => hl (by omega)
    have hl3 : ((n : Int) != (m : Int)) = true := by simpa using fun h : (n : Int) = m => hl (by omega)
    clear hn hm hx hy hl
    go_enter Try.func36, Try.ntmps36
    go_wp2_with fail
    go_ret
    exact ⟨ret_bool (decide_eq_false HD.out).symm, Below.refl _ _⟩
set_option maxHeartbeats 400000 in
theorem sequal_any {P Q : Nat → Prop} {w : World} (a b : Option Addr) (c d : Nat) (xs ys : List ByteArray) (hx : Strs P w a xs) (hy : Strs Q w b ys) :
    Calls Try.prog 44 #[.slice a xs.length c, .slice b ys.length d] w fun e w' => e = .returned (.bool (decide (xs = ys))) ∧ Below w.heap.size w w' := by
  have hn1 : xs.length ≤ maxLen := hx.1
  have hn2 : ys.length ≤ maxLen := hy.1
  unfold maxLen at hn1 hn2
  by_cases hl : xs.length = ys.length
  · have HX := Lib.hid hx
    have HY := Lib.hid hy
    have HLen := Lib.hid hl
    clear hx hy
    rw [← hl]
    obtain ⟨n, hn⟩ : ∃ n, n = xs.length := ⟨_, rfl⟩
    have HN := Lib.hid hn
    rw [← hn] at hn1 ⊢
    clear hl hn hn2
    go_enter Try.func44, Try.ntmps44
    go_wp2_with fail
    go_loopw [13] (fun i wr => ∃ k nq : Nat, k ≤ n ∧ i = .int .i64 k ∧ xs.take k = ys.take k ∧ wr = w.drewN nq) (fun i _ => n - (intOf i).toNat)
    case atStart => exact ⟨0, 0, Nat.zero_le _, rfl, rfl, rfl⟩
    case round =>
      obtain ⟨k, nq, hk, rfl, heq, rfl⟩ := hrel
      have HE := Lib.hid heq
      clear heq
      by_cases hlt : k < n
      · have hkx : k < xs.length := by rw [← HN.out]; exact hlt
        have hky : k < ys.length := by rw [← HLen.out]; exact hkx
        have hgx := List.getElem?_eq_getElem hkx
        have hgy := List.getElem?_eq_getElem hky
        have hi0 : (0 : Int) ≤ (k : Int) := Int.natCast_nonneg _
        have hi1 : (k : Int) < (n : Int) := by omega
        rcases HX.out.2.2 with h0 | ⟨b1, o1, rfl, _, hat1⟩
        · rw [h0] at hkx; simp at hkx
        · rcases HY.out.2.2 with h0 | ⟨b2, o2, rfl, _, hat2⟩
          · rw [h0] at hky; simp at hky
          · have c1 := hat1 k _ hgx
            have c2 := hat2 k _ hgy
            have HGX := Lib.hid hgx
            have HGY := Lib.hid hgy
            generalize xs[k] = x at *
            generalize ys[k] = y at *
            clear hat1 hat2 hgx hgy
            by_cases hxy : x = y
            · subst hxy
              have HT := Lib.hid (take_same HE.out HGX.out HGY.out)
              have hb : (x.toList != x.toList) = false := by simp
              go_wp2_with fail
              go_quiet (fail)
              go_wp2_with fail
              exact ⟨⟨k + 1, _, by omega, by go_num, HT.out, rfl⟩, by simp [intOf]; omega⟩
            · have HD := Lib.hid (take_differ HGX.out HGY.out hxy)
              have hb := str_ne hxy
              have hb2 : (x.toList != y.toList) = true := by rw [bne, hb]; rfl
              clear hxy
              go_wp2_with fail
              go_quiet (fail)
              go_wp2_with fail
              go_ret
              exact ⟨ret_bool (decide_eq_false HD.out).symm, ⟨rfl, rfl, rfl, Nat.le_refl _, fun _ _ => rfl⟩⟩
      · have hkn : k = n := by omega
        subst hkn
        have HD : Hid (xs = ys) := Lib.hid (by have := HE.out; rw [HN.out, List.take_length] at this; rw [this, HLen.out, List.take_length])
        go_wp2_with fail
        go_ret
        exact ⟨ret_bool (decide_eq_true HD.out).symm, below_drewN _ _⟩
  · have HD := Lib.hid (show xs ≠ ys from fun e => hl (by rw [e]))
    obtain ⟨n, hn⟩ : ∃ n, n = xs.length := ⟨_, rfl⟩
    obtain ⟨m, hm⟩ : ∃ m, m = ys.length := ⟨_, rfl⟩
    rw [← hn, ← hm] at hl ⊢
    have hl2 : ((n : Int) == (m : Int)) = false := by simpa using fun h : (n : Int) = m => hl (by omega)
    have hl3 : ((n : Int) != (m : Int)) = true := by simpa using fun h : (n : Int) = m => hl (by omega)
    clear hn hm hx hy hl
    go_enter Try.func44, Try.ntmps44
    go_wp2_with fail
    go_ret
    exact ⟨ret_bool (decide_eq_false HD.out).symm, Below.refl _ _⟩
end Go.Proofs.Ytidmbdilediplaa
