/- The walk of short. -/
import Derived.Test.YtidmbdilediplaaWalkSRows
namespace Go.Proofs.Ytidmbdilediplaa
open Go.RowKit Go.Deep
set_option linter.unusedVariables false
set_option linter.unusedSimpArgs false

/-- A table of moderate size. -/
def Sht (l : List Pl.Rw) : Prop := l.length ≤ 80 ∧ ∀ x ∈ l, x.kids.length ≤ 80 ∧ x.gaps.length ≤ 20
def ShortP (l : List Pl.Rw) (w : World) (e : Ending) (w' : World) : Prop := ∃ b : Bool, (b = true → Sht l) ∧ e = .returned (.bool b) ∧ w = w'
set_option maxHeartbeats 1600000 in
theorem short_any {P : Nat → Prop} {w : World} (a : Option Addr) (c : Nat) (xs : List Pl.Rw) (R : Nat → Sl) (hx : TabIn P w a xs R) :
    Calls Try.prog 22 #[.slice a xs.length c] w (ShortP xs w) := by
  have hn1 : xs.length ≤ maxLen := hx.1
  unfold maxLen at hn1
  have HX := Lib.hid hx
  clear hx
  obtain ⟨n, hn⟩ : ∃ n, n = xs.length := ⟨_, rfl⟩
  have HN := Lib.hid hn
  rw [← hn] at hn1 ⊢
  clear hn
  by_cases hbig : 80 < n
  · go_enter Try.func22, Try.ntmps22
    go_wp2_with fail
    go_ret
    exact ⟨false, (fun h => by cases h), rfl, rfl⟩
  go_enter Try.func22, Try.ntmps22
  go_wp2_with fail
  go_loop [3] (fun i => ∃ k : Nat, k ≤ n ∧ i = .int .i64 k ∧ ∀ x ∈ xs.take k, x.kids.length ≤ 80 ∧ x.gaps.length ≤ 20) (fun i => n - (intOf i).toNat)
  case atStart => exact ⟨0, Nat.zero_le _, rfl, fun x hx => by simp at hx⟩
  case round =>
    obtain ⟨k, hk, rfl, hall⟩ := hrel
    have HA := Lib.hid hall
    clear hall
    by_cases hlt : k < n
    · have hkx : k < xs.length := by rw [← HN.out]; exact hlt
      have hgx := List.getElem?_eq_getElem hkx
      have HT := Lib.hid (List.take_succ_eq_append_getElem hkx)
      have hi0 : (0 : Int) ≤ (k : Int) := Int.natCast_nonneg _
      have hi1 : (k : Int) < (n : Int) := by omega
      rcases HX.out.2.1 with h0 | ⟨b1, o1, rfl, hb1, hat1⟩
      · rw [h0] at hkx; simp at hkx
      obtain ⟨_, _, x2, x3, x4⟩ := (hat1 k _ hgx).cells
      obtain ⟨htl, hgs, hks⟩ := HX.out.2.2 k _ hgx
      generalize xs[k] = x at *
      generalize R k = r1 at *
      obtain ⟨ga1, gc1, ka1, kc1⟩ := r1
      simp only at x3 x4
      have hkl : x.kids.length ≤ maxLen := hks.1
      have hgl : x.gaps.length ≤ maxLen := hgs.1
      unfold maxLen at htl hkl hgl
      have HGS := Lib.hid hgs
      clear hat1 hgx hks hgs
      by_cases h1 : 80 < x.kids.length
      · go_wp2_with fail
        go_ret
        exact ⟨false, (fun h => by cases h), rfl, rfl⟩
      by_cases h2 : 20 < x.gaps.length
      · go_wp2_with fail
        go_ret
        exact ⟨false, (fun h => by cases h), rfl, rfl⟩
      by_cases h3 : 1000 < x.text.size
      · go_wp2_with fail
        go_ret
        exact ⟨false, (fun h => by cases h), rfl, rfl⟩
      have HAll : Hid (∀ y ∈ xs.take (k + 1), y.kids.length ≤ 80 ∧ y.gaps.length ≤ 20) := Lib.hid fun y hy => by
        rw [HT.out] at hy
        rcases List.mem_append.1 hy with hy | hy
        · exact HA.out y hy
        · simp at hy; subst hy; omega
      go_wp2_with fail
      go_loop [4] (fun i => ∃ q : Nat, q ≤ x.gaps.length ∧ i = .int .i64 q) (fun i => x.gaps.length - (intOf i).toNat)
      case atStart => exact ⟨0, Nat.zero_le _, rfl⟩
      case round =>
        obtain ⟨q, hq, rfl⟩ := hrel
        by_cases hql : q < x.gaps.length
        · have hgq := List.getElem?_eq_getElem hql
          rcases HGS.out.2.2 with h0 | ⟨b2, o2, hga, _, hat2⟩
          · rw [h0] at hql; simp at hql
          obtain rfl : ga1 = some ⟨b2, o2, none⟩ := hga
          have hc2 := hat2 q _ hgq
          have hsz2 := HGS.out.2.1 _ (List.getElem_mem hql)
          generalize x.gaps[q] = s at *
          unfold maxLen at hsz2
          clear hat2 hgq
          by_cases h4 : 1000 < s.size
          · go_wp2_with fail
            go_ret
            exact ⟨false, (fun h => by cases h), rfl, rfl⟩
          · go_wp2_with fail
            exact ⟨⟨q + 1, by omega, by go_num⟩, by simp [intOf]; omega⟩
        · go_wp2_with fail
          exact ⟨⟨k + 1, by omega, by go_num, HAll.out⟩, by simp [intOf]; omega⟩
    · have hkn : k = n := by omega
      subst hkn
      have HD : Hid (Sht xs) := Lib.hid (by have := HA.out; rw [HN.out, List.take_length] at this; exact ⟨by rw [← HN.out]; omega, this⟩)
      go_wp2_with fail
      go_ret
      exact ⟨true, fun _ => HD.out, rfl, rfl⟩
end Go.Proofs.Ytidmbdilediplaa
