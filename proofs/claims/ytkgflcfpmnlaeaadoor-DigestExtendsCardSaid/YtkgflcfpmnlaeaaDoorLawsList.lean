/- The walks of the two laws on lists. -/
import Derived.Test.YtkgflcfpmnlaeaaDoorLaws
namespace Go.Proofs.YtkgflcfpmnlaeaaDoor
open Go.RowKit
set_option linter.unusedVariables false
set_option linter.unusedSimpArgs false

set_option maxHeartbeats 800000 in
theorem lawLists_none (a : Option Addr) (c : Nat) (w : World) (hg : Digs w) :
    Calls Tryd.prog 4 #[.slice a 0 c] w fun e w' => e = .returned (.bool true) ∧ Below w.heap.size w w' := by
  go_enter Tryd.func4, Tryd.ntmps4
  go_wp2_with fail
  refine (short_none _ _ _).mono ?_
  rintro e w' ⟨b, rfl, hb, rfl⟩
  cases b
  · go_wp2_with fail
    refine (awake_any _ hg).mono ?_
    rintro e w' ⟨rfl, hb⟩
    go_wp2
    go_ret
    exact ⟨rfl, hb⟩
  · clear hb
    go_wp2_with fail
    refine (all_none _ _ _).mono ?_
    rintro e w' ⟨rfl, rfl⟩
    go_wp2_with fail
    refine (rall_none _ _ _).mono ?_
    rintro e w' ⟨rfl, rfl⟩
    go_wp2_with fail
    refine (awake_any _ hg).mono ?_
    rintro e w' ⟨rfl, hb⟩
    go_wp2
    go_ret
    exact ⟨rfl, hb⟩

set_option maxHeartbeats 800000 in
theorem lawLists_some (b o c n : Nat) (xs : List ByteArray) (w : World) (hg : Digs w) (hc : StrsAt w b o xs) (hf : Fits xs) (hn : n = xs.length) (hm : n ≤ maxLen) :
    Calls Tryd.prog 4 #[.slice (some ⟨b, o, none⟩) n c] w fun e w' => e = .returned (.bool true) ∧ Below w.heap.size w w' := by
  have H1 := Lib.hid (short_some b o c n xs w hc hn hm)
  have H2 := Lib.hid (all_some b o c n xs w hc hf hn)
  have H3 := Lib.hid (rall_some b o c n xs w hc hf hn)
  clear hc hf hn hm
  go_enter Tryd.func4, Tryd.ntmps4
  go_wp2_with fail
  refine (H1.out).mono ?_
  rintro e w' ⟨s, rfl, hs, rfl⟩
  cases s
  · go_wp2_with fail
    refine (awake_any _ hg).mono ?_
    rintro e w' ⟨rfl, hb⟩
    go_wp2
    go_ret
    exact ⟨rfl, hb⟩
  · have h50 := hs rfl
    clear hs
    go_wp2_with fail
    refine (H2.out h50).mono ?_
    rintro e w' ⟨rfl, rfl⟩
    go_wp2_with fail
    refine (H3.out h50).mono ?_
    rintro e w' ⟨rfl, rfl⟩
    go_wp2_with fail
    refine (awake_any _ hg).mono ?_
    rintro e w' ⟨rfl, hb⟩
    go_wp2
    go_ret
    exact ⟨rfl, hb⟩

set_option maxHeartbeats 800000 in
theorem lawExtends_none (a : Option Addr) (c : Nat) (w : World) (hg : Digs w) :
    Calls Tryd.prog 8 #[.slice a 0 c] w fun e w' => e = .returned (.bool true) ∧ Below w.heap.size w w' := by
  go_enter Tryd.func8, Tryd.ntmps8
  go_wp2_with fail
  refine (short_none _ _ _).mono ?_
  rintro e w' ⟨b, rfl, hb, rfl⟩
  cases b
  · go_wp2_with fail
    refine (awake_any _ hg).mono ?_
    rintro e w' ⟨rfl, hb⟩
    go_wp2
    go_ret
    exact ⟨rfl, hb⟩
  · clear hb
    go_wp2_with fail
    refine (sum_none _).mono ?_
    rintro e w' ⟨rfl, rfl⟩
    go_wp2_with fail
    refine wp_loop_rounds 1 ?_; rw [rounds_succ]
    go_wp2_with fail
    refine (all_none _ _ _).mono ?_
    rintro e w' ⟨rfl, rfl⟩
    have hz : AllOf [] = Pl.mix 14695981039346656037 0 := rfl
    have hb0 : (AllOf [] == Pl.mix 14695981039346656037 0) = true := by rw [hz]; exact beq_self_eq_true _
    clear hz
    go_wp2_with fail
    refine (mix_any _ _ _).mono ?_
    rintro e w' ⟨rfl, rfl⟩
    go_wp2_with fail
    refine (awake_any _ hg).mono ?_
    rintro e w' ⟨rfl, hb⟩
    go_wp2
    go_ret
    exact ⟨rfl, hb⟩

set_option maxHeartbeats 800000 in
theorem lawExtends_some (b o c n : Nat) (xs : List ByteArray) (w : World) (hg : Digs w) (hc : StrsAt w b o xs) (hf : Fits xs) (hn : n = xs.length) (hm : n ≤ maxLen) :
    Calls Tryd.prog 8 #[.slice (some ⟨b, o, none⟩) n c] w fun e w' => e = .returned (.bool true) ∧ Below w.heap.size w w' := by
  have H1 := Lib.hid (short_some b o c n xs w hc hn hm)
  have H2 := Lib.hid (all_some b o c n xs w hc hf hn)
  have HN := Lib.hid hn
  clear hn hm
  go_enter Tryd.func8, Tryd.ntmps8
  go_wp2_with fail
  refine (H1.out).mono ?_
  rintro e w' ⟨s, rfl, hs, rfl⟩
  cases s
  · go_wp2_with fail
    refine (awake_any _ hg).mono ?_
    rintro e w' ⟨rfl, hb⟩
    go_wp2
    go_ret
    exact ⟨rfl, hb⟩
  · have h50 := hs rfl
    clear hs
    go_wp2_with fail
    refine (sum_none _).mono ?_
    rintro e w' ⟨rfl, rfl⟩
    go_wp2_with fail
    go_loop [3, 4] (fun d i => ∃ k : Nat, k ≤ n ∧ i = .int .i64 k ∧ d = .int .u64 (Pl.lst (xs.take k))) (fun _ i => n - (intOf i).toNat)
    case atStart => exact ⟨0, Nat.zero_le _, rfl, rfl⟩
    case round =>
      obtain ⟨k, hk, rfl, rfl⟩ := hrel
      by_cases hp : k < n
      · have hkx : k < xs.length := by rw [← HN.out]; exact hp
        have hcl := hc k _ (List.getElem?_eq_getElem hkx)
        have HT := Lib.hid (Pl.lst_take xs k hkx)
        have hsz := hf xs[k] (List.getElem_mem _)
        go_wp2_with (first | (go_at_call 10; refine (sum_any _ _ hsz).mono ?_; rintro e w' ⟨rfl, rfl⟩) | (go_at_call 12; refine (mix_any _ _ _).mono ?_; rintro e w' ⟨rfl, rfl⟩))
        refine ⟨⟨k + 1, by omega, by go_num, by rw [HT.out]⟩, by simp [intOf]; omega⟩
      · have hkn : k = n := by omega
        subst hkn
        have hb : (AllOf xs == Pl.mix (Pl.lst (xs.take k)) k) = true := by
          have e : AllOf xs = Pl.mix (Pl.lst (xs.take k)) k := by unfold AllOf; rw [HN.out, List.take_length]
          rw [e]; exact beq_self_eq_true _
        have hw : IntKind.u64.wrap (k : Int) = k := by rw [IntKind.wrap_u64]; omega
        go_wp2_with fail
        refine (H2.out h50).mono ?_
        rintro e w' ⟨rfl, rfl⟩
        go_wp2_with fail
        refine (mix_any _ _ _).mono ?_
        rintro e w' ⟨rfl, rfl⟩
        go_wp2_with fail
        refine (awake_any _ hg).mono ?_
        rintro e w' ⟨rfl, hb⟩
        go_wp2
        go_ret
        exact ⟨rfl, hb⟩
end Go.Proofs.YtkgflcfpmnlaeaaDoor
