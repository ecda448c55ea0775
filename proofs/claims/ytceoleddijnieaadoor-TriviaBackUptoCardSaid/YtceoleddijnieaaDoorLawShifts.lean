/- The walks of the laws TriviaShifts and TriviaIndents. -/
import Derived.Test.YtceoleddijnieaaDoorWalkAwake
import Derived.Test.YtceoleddijnieaaDoorWalkRefShift
namespace Go.Proofs.YtceoleddijnieaaDoor
open Go.RowKit
set_option linter.unusedVariables false
set_option linter.unusedSimpArgs false

set_option maxHeartbeats 1600000 in
theorem lawShifts (s : ByteArray) (n : Int) (w : World) (hs : s.size ≤ maxLen) :
    Calls Tryd.prog 4 #[.string s, .int .i64 n] w fun e w' => e = .returned (.bool true) ∧ Below w.heap.size w w' := by
  unfold maxLen at hs
  by_cases h4 : 400 < s.size
  · go_enter Tryd.func4, Tryd.ntmps4
    go_wp2_with fail
    refine (awake_any _).mono ?_
    rintro e w1 ⟨rfl, hb1⟩
    go_wp2_with fail
    go_ret
    exact ⟨rfl, hb1⟩
  · have h5 : s.size ≤ 400 := by omega
    obtain ⟨d, hd⟩ : ∃ d, max (-60) (min n 60) = d := ⟨_, rfl⟩
    have hd2 : max (min n 60) (-60) = d := by omega
    have h1 : ∀ w, Calls Tryd.prog 19 #[.string s, .int .i64 n] w fun e w' => e = .returned (.string (Pl.mk (Pl.sh d s.data.toList))) ∧ Below w.heap.size w w' := fun w => shift_any s n d w (by omega) hd
    have h2 : ∀ w, Calls Tryd.prog 20 #[.string s, .int .i64 n] w fun e w' => e = .returned (.string (Pl.mk (Pl.sh d s.data.toList))) ∧ w = w' := fun w => rshift_any s n d w h5 hd2
    generalize Pl.mk (Pl.sh d s.data.toList) = x at h1 h2
    have H1 := Lib.hid h1
    have H2 := Lib.hid h2
    clear hd hd2 h1 h2
    go_enter Tryd.func4, Tryd.ntmps4
    go_wp2_with fail
    refine (H1.out _).mono ?_
    rintro e w1 ⟨rfl, hb1⟩
    go_wp2_with fail
    refine (H2.out _).mono ?_
    rintro e w' ⟨rfl, rfl⟩
    go_wp2_with fail
    refine (awake_any _).mono ?_
    rintro e w2 ⟨rfl, hb2⟩
    have hb12 := hb1.trans (hb2.mono hb1.size)
    clear hb1 hb2
    go_wp2_with fail
    go_ret
    exact ⟨rfl, hb12⟩

theorem cat_x (s : ByteArray) : (s ++ ⟨#[120]⟩ : ByteArray).data.toList = s.data.toList ++ [120] := by rw [ByteArray.data_append, Array.toList_append]
theorem count_x (s : ByteArray) (m : Nat) (hm : s.data.toList.count 10 = m) (hs : s.size ≤ 1000000000) (w : World) :
    Calls Tryd.prog 22 #[.string (s ++ ⟨#[120]⟩)] w fun e w' => e = .returned (.int .i64 ((m : Int) + 1)) ∧ Below w.heap.size w w' := by
  have hone : (⟨#[120]⟩ : ByteArray).size = 1 := rfl
  have hz : (s ++ ⟨#[120]⟩ : ByteArray).size ≤ 140737488351232 := by rw [ByteArray.size_append, hone]; omega
  have hl : (Pl.lns (s ++ ⟨#[120]⟩ : ByteArray).data.toList).length = m + 1 := by rw [cat_x, Pl.lns_x, hm]
  have h := count_any (s ++ ⟨#[120]⟩) w hz
  rw [hl] at h
  refine h.mono ?_
  rintro e w' ⟨rfl, hb⟩
  exact ⟨ret_int (by omega), hb⟩

set_option maxHeartbeats 1600000 in
theorem lawIndents (s : ByteArray) (n : Int) (w : World) (hs : s.size ≤ 1048576) :
    Calls Tryd.prog 8 #[.string s, .int .i64 n] w fun e w' => e = .returned (.bool true) ∧ Below w.heap.size w w' := by
  have hone : (⟨#[120]⟩ : ByteArray).size = 1 := rfl
  by_cases hn : n < 0
  · go_enter Tryd.func8, Tryd.ntmps8
    go_wp2_with fail
    refine (awake_any _).mono ?_
    rintro e w1 ⟨rfl, hb1⟩
    go_wp2_with fail
    go_ret
    exact ⟨rfl, hb1⟩
  · by_cases hn2 : 60 < n
    · go_enter Tryd.func8, Tryd.ntmps8
      go_wp2_with fail
      refine (awake_any _).mono ?_
      rintro e w1 ⟨rfl, hb1⟩
      go_wp2_with fail
      go_ret
      exact ⟨rfl, hb1⟩
    · obtain ⟨k, rfl⟩ : ∃ k : Nat, n = k := ⟨n.toNat, by omega⟩
      have hk : k ≤ 60 := by omega
      have hd : max (-60) (min (k : Int) 60) = k := by omega
      obtain ⟨m, hm⟩ : ∃ m, s.data.toList.count 10 = m := ⟨_, rfl⟩
      have hml : m ≤ 1048576 := by
        have := List.count_le_length (a := (10 : UInt8)) (l := s.data.toList)
        rw [hm, ← Lib.size_eq] at this; omega
      have HN := Lib.hid (fun w => count_x s m hm (by omega) w)
      have h1 : ∀ w, Calls Tryd.prog 19 #[.string s, .int .i64 k] w fun e w' => e = .returned (.string (Pl.mk (Pl.sh k s.data.toList))) ∧ Below w.heap.size w w' := fun w => shift_any s k k w (by omega) hd
      by_cases h0 : m = 0
      · have hno : (10 : UInt8) ∉ s.data.toList := by rw [← List.count_eq_zero]; omega
        have hsame : Pl.mk (Pl.sh k s.data.toList) = s := Pl.list_ext (by rw [Pl.mk_list, Pl.sh_same _ _ hno])
        have hi : ∀ w, Calls Tryd.prog 16 #[.string s] w fun e w' => e = .returned (.int .i64 0) ∧ w = w' := fun w => (indent_any s w (by omega)).mono fun e w' ⟨he, hw⟩ => ⟨by rw [he, Pl.ti_none _ hno]; rfl, hw⟩
        rw [hsame] at h1
        have H1 := Lib.hid h1
        have HI := Lib.hid hi
        clear hm h1 hi hsame hno hd
        subst h0
        go_enter Tryd.func8, Tryd.ntmps8
        go_wp2_with fail
        refine (HN.out _).mono ?_
        rintro e w1 ⟨rfl, hb1⟩
        go_wp2_with fail
        refine (H1.out _).mono ?_
        rintro e w2 ⟨rfl, hb2⟩
        have hb12 := hb1.trans (hb2.mono hb1.size)
        clear hb1 hb2
        go_wp2_with fail
        refine (HI.out _).mono ?_
        rintro e w' ⟨rfl, rfl⟩
        go_wp2_with fail
        refine (awake_any _).mono ?_
        rintro e w3 ⟨rfl, hb3⟩
        have hb13 := hb12.trans (hb3.mono hb12.size)
        clear hb12 hb3
        go_wp2_with fail
        go_ret
        exact ⟨rfl, hb13⟩
      · have hyes : (10 : UInt8) ∈ s.data.toList := by
          refine Classical.byContradiction fun h => h0 ?_
          rw [← hm]; exact List.count_eq_zero.2 h
        have hxl : (Pl.mk (Pl.sh k s.data.toList)).size ≤ 1000000000 := by
          rw [Pl.mk_size]
          have := Pl.sh_len k s.data.toList (by omega)
          rw [← Lib.size_eq] at this; omega
        have hti : Pl.ti (Pl.mk (Pl.sh k s.data.toList)).data.toList = Pl.ti s.data.toList + k := by rw [Pl.mk_list]; exact Pl.ti_sh k _ hyes
        have htl : Pl.ti s.data.toList ≤ 1048576 := by have := Pl.isl_le s.data.toList; rw [← Lib.size_eq] at this; unfold Pl.ti; omega
        generalize Pl.mk (Pl.sh k s.data.toList) = x at h1 hxl hti
        obtain ⟨q, hq⟩ : ∃ q, Pl.ti s.data.toList = q := ⟨_, rfl⟩
        rw [hq] at hti htl
        have hi : ∀ w, Calls Tryd.prog 16 #[.string s] w fun e w' => e = .returned (.int .i64 q) ∧ w = w' := fun w => hq ▸ indent_any s w (by omega)
        have hx : ∀ w, Calls Tryd.prog 16 #[.string x] w fun e w' => e = .returned (.int .i64 ((q : Int) + k)) ∧ w = w' := fun w => (indent_any x w (by omega)).mono fun e w' ⟨he, hw⟩ => ⟨by rw [he, hti]; exact ret_int (by omega), hw⟩
        have H1 := Lib.hid h1
        have HI := Lib.hid hi
        have HX := Lib.hid hx
        have hm1 : ((m : Int) + 1 == 1) = false := by simp; omega
        clear hm h1 hi hx hti hq hyes hd hxl
        go_enter Tryd.func8, Tryd.ntmps8
        go_wp2_with fail
        refine (HN.out _).mono ?_
        rintro e w1 ⟨rfl, hb1⟩
        go_wp2_with fail
        refine (H1.out _).mono ?_
        rintro e w2 ⟨rfl, hb2⟩
        have hb12 := hb1.trans (hb2.mono hb1.size)
        clear hb1 hb2
        go_wp2_with fail
        refine (HX.out _).mono ?_
        rintro e w' ⟨rfl, rfl⟩
        go_wp2_with fail
        refine (HI.out _).mono ?_
        rintro e w' ⟨rfl, rfl⟩
        go_wp2_with fail
        refine (awake_any _).mono ?_
        rintro e w3 ⟨rfl, hb3⟩
        have hb13 := hb12.trans (hb3.mono hb12.size)
        clear hb12 hb3
        go_wp2_with fail
        go_ret
        exact ⟨rfl, hb13⟩
end Go.Proofs.YtceoleddijnieaaDoor
