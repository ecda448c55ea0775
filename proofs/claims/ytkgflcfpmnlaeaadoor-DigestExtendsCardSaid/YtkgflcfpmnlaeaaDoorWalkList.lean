/- The walks over a list of strings: digest.All, the reference's, the law's short. -/
import Derived.Test.YtkgflcfpmnlaeaaDoorWalkHex
import Derived.Deep.QuietTactic
import Derived.BigQuiet
namespace Go.Proofs.YtkgflcfpmnlaeaaDoor
open Go.RowKit
set_option linter.unusedVariables false
set_option linter.unusedSimpArgs false

/-- The strings lie one after the other in a block. -/
def StrsAt (w : World) (b o : Nat) (xs : List ByteArray) : Prop := ∀ (j : Nat) x, xs[j]? = some x → w.cell? ⟨b, o + j, none⟩ = some (.string x)
def Fits (xs : List ByteArray) : Prop := ∀ x ∈ xs, x.size ≤ maxLen
def AllOf (xs : List ByteArray) : Int := Pl.mix (Pl.lst xs) xs.length

set_option maxHeartbeats 400000 in
theorem all_none (a : Option Addr) (c : Nat) (w : World) :
    Calls Tryd.prog 15 #[.slice a 0 c] w fun e w' => e = .returned (.int .u64 (AllOf [])) ∧ w = w' := by
  go_enter Tryd.func15, Tryd.ntmps15
  go_wp2_with (go_at_call 10; refine (sum_any _ _ (by decide)).mono ?_; rintro e w' ⟨rfl, rfl⟩)
  refine wp_loop_rounds 1 ?_; rw [rounds_succ]
  go_wp2_with (go_at_call 12; refine (mix_any _ _ _).mono ?_; rintro e w' ⟨rfl, rfl⟩)
  go_ret
  exact ⟨rfl, rfl⟩

set_option maxHeartbeats 400000 in
theorem rall_none (a : Option Addr) (c : Nat) (w : World) :
    Calls Tryd.prog 16 #[.slice a 0 c] w fun e w' => e = .returned (.int .u64 (AllOf [])) ∧ w = w' := by
  go_enter Tryd.func16, Tryd.ntmps16
  go_wp2_with (go_at_call 11; refine (rsum_any _ _ (by decide)).mono ?_; rintro e w' ⟨rfl, rfl⟩)
  refine wp_loop_rounds 1 ?_; rw [rounds_succ]
  go_wp2_with (go_at_call 13; refine (rmix_any _ _ _).mono ?_; rintro e w' ⟨rfl, rfl⟩)
  go_ret
  exact ⟨rfl, rfl⟩

set_option maxHeartbeats 800000 in
theorem all_some (b o c n : Nat) (xs : List ByteArray) (w : World) (hc : StrsAt w b o xs) (hf : Fits xs) (hn : n = xs.length) (h50 : n ≤ 50) :
    Calls Tryd.prog 15 #[.slice (some ⟨b, o, none⟩) n c] w fun e w' => e = .returned (.int .u64 (AllOf xs)) ∧ w = w' := by
  have HN := Lib.hid hn
  clear hn
  go_enter Tryd.func15, Tryd.ntmps15
  go_wp2_with (go_at_call 10; refine (sum_any _ _ (by decide)).mono ?_; rintro e w' ⟨rfl, rfl⟩)
  go_loop [3, 9] (fun d i => ∃ k : Nat, k ≤ n ∧ i = .int .i64 k ∧ d = .int .u64 (Pl.lst (xs.take k))) (fun _ i => n - (intOf i).toNat)
  case atStart => exact ⟨0, Nat.zero_le _, rfl, rfl⟩
  case round =>
    obtain ⟨k, hk, rfl, rfl⟩ := hrel
    by_cases hp : k < n
    · have hkx : k < xs.length := by rw [← HN.out]; exact hp
      have hcl := hc k _ (List.getElem?_eq_getElem hkx)
      have HT := Lib.hid (Pl.lst_take xs k hkx)
      have hsz := hf xs[k] (List.getElem_mem _)
      go_wp2_with (first | (go_at_call 10; refine (sum_any _ _ hsz).mono ?_; rintro e w' ⟨rfl, rfl⟩) | (go_at_call 12; refine (mix_any _ _ _).mono ?_; rintro e w' ⟨rfl, rfl⟩))
      refine ⟨⟨k + 1, by omega, by go_num, by rw [HT.out]⟩, by simp [intOf]; omega⟩
    · have hkn : k = n := by omega
      subst hkn
      have HL : Hid (xs.take k = xs) := Lib.hid (by rw [HN.out, List.take_length])
      have hw : IntKind.u64.wrap (k : Int) = k := by rw [IntKind.wrap_u64]; omega
      go_wp2_with (go_at_call 12; refine (mix_any _ _ _).mono ?_; rintro e w' ⟨rfl, rfl⟩)
      go_ret
      exact ⟨ret_u64 (by unfold AllOf; rw [HL.out, ← HN.out]), rfl⟩

set_option maxHeartbeats 800000 in
theorem rall_some (b o c n : Nat) (xs : List ByteArray) (w : World) (hc : StrsAt w b o xs) (hf : Fits xs) (hn : n = xs.length) (h50 : n ≤ 50) :
    Calls Tryd.prog 16 #[.slice (some ⟨b, o, none⟩) n c] w fun e w' => e = .returned (.int .u64 (AllOf xs)) ∧ w = w' := by
  have HN := Lib.hid hn
  clear hn
  go_enter Tryd.func16, Tryd.ntmps16
  go_wp2_with (go_at_call 11; refine (rsum_any _ _ (by decide)).mono ?_; rintro e w' ⟨rfl, rfl⟩)
  go_loop [3, 4] (fun d i => ∃ k : Nat, k ≤ n ∧ i = .int .i64 k ∧ d = .int .u64 (Pl.lst (xs.take k))) (fun _ i => n - (intOf i).toNat)
  case atStart => exact ⟨0, Nat.zero_le _, rfl, rfl⟩
  case round =>
    obtain ⟨k, hk, rfl, rfl⟩ := hrel
    by_cases hp : k < n
    · have hkx : k < xs.length := by rw [← HN.out]; exact hp
      have hcl := hc k _ (List.getElem?_eq_getElem hkx)
      have HT := Lib.hid (Pl.lst_take xs k hkx)
      have hsz := hf xs[k] (List.getElem_mem _)
      go_wp2_with (first | (go_at_call 11; refine (rsum_any _ _ hsz).mono ?_; rintro e w' ⟨rfl, rfl⟩) | (go_at_call 13; refine (rmix_any _ _ _).mono ?_; rintro e w' ⟨rfl, rfl⟩))
      refine ⟨⟨k + 1, by omega, by go_num, by rw [HT.out]⟩, by simp [intOf]; omega⟩
    · have hkn : k = n := by omega
      subst hkn
      have HL : Hid (xs.take k = xs) := Lib.hid (by rw [HN.out, List.take_length])
      have hw : IntKind.u64.wrap (k : Int) = k := by rw [IntKind.wrap_u64]; omega
      go_wp2_with (go_at_call 13; refine (rmix_any _ _ _).mono ?_; rintro e w' ⟨rfl, rfl⟩)
      go_ret
      exact ⟨ret_u64 (by unfold AllOf; rw [HL.out, ← HN.out]), rfl⟩

/-- The answer of short, of which the length alone is wanted. -/
def SomeShort (n : Nat) (w : World) (e : Ending) (w' : World) : Prop := ∃ s : Bool, e = .returned (.bool s) ∧ (s = true → n ≤ 50) ∧ w = w'

set_option maxHeartbeats 400000 in
theorem short_none (a : Option Addr) (c : Nat) (w : World) :
    Calls Tryd.prog 14 #[.slice a 0 c] w (SomeShort 0 w) := by
  go_enter Tryd.func14, Tryd.ntmps14
  go_wp2
  refine wp_loop_rounds 1 ?_; rw [rounds_succ]
  go_wp2
  go_ret
  exact ⟨_, rfl, fun _ => by omega, rfl⟩

set_option maxHeartbeats 800000 in
theorem short_some (b o c n : Nat) (xs : List ByteArray) (w : World) (hc : StrsAt w b o xs) (hn : n = xs.length) (hm : n ≤ maxLen) :
    Calls Tryd.prog 14 #[.slice (some ⟨b, o, none⟩) n c] w (SomeShort n w) := by
  have HN := Lib.hid hn
  clear hn
  unfold maxLen at hm
  by_cases h50 : (n : Int) > 50
  · go_enter Tryd.func14, Tryd.ntmps14
    go_wp2
    go_ret
    exact ⟨_, rfl, (fun h => by cases h), rfl⟩
  · go_enter Tryd.func14, Tryd.ntmps14
    go_wp2
    go_loop [3] (fun i => ∃ k : Nat, k ≤ n ∧ i = .int .i64 k) (fun i => n - (intOf i).toNat)
    case atStart => exact ⟨0, Nat.zero_le _, rfl⟩
    case round =>
      obtain ⟨k, hk, rfl⟩ := hrel
      by_cases hp : k < n
      · have hkx : k < xs.length := by rw [← HN.out]; exact hp
        have hcl := hc k _ (List.getElem?_eq_getElem hkx)
        generalize xs[k] = x at hcl
        by_cases hx : (x.size : Int) > 200
        · go_wp2
          go_ret
          exact ⟨_, rfl, (fun h => by cases h), rfl⟩
        · go_wp2
          refine ⟨⟨k + 1, by omega, by go_num⟩, by simp [intOf]; omega⟩
      · go_wp2
        go_ret
        exact ⟨_, rfl, fun _ => by omega, rfl⟩
end Go.Proofs.YtkgflcfpmnlaeaaDoor
