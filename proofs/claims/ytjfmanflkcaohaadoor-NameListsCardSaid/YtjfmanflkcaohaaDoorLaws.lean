/- The walks of the laws on names, paths, fresh names and lists. -/
import Derived.Test.YtjfmanflkcaohaaDoorWalkAwake
namespace Go.Proofs.YtjfmanflkcaohaaDoor
open Go.RowKit
set_option linter.unusedVariables false
set_option linter.unusedSimpArgs false

set_option maxHeartbeats 800000 in
theorem lawValids (s : ByteArray) (w : World) (hm : Mx w) (hs : s.size ≤ maxLen) :
    Calls Tryd.prog 3 #[.string s] w fun e w' => e = .returned (.bool true) ∧ Below w.heap.size w w' := by
  have HS := Lib.hid hs
  unfold maxLen at hs
  by_cases h : (s.size : Int) > 2000
  · go_enter Tryd.func3, Tryd.ntmps3
    go_wp2_with fail
    refine (awake_any _ hm).mono ?_
    rintro e w' ⟨rfl, hb⟩
    go_wp2_with fail
    go_ret
    exact ⟨rfl, hb⟩
  · go_enter Tryd.func3, Tryd.ntmps3
    go_wp2_with fail
    refine (awake_any _ hm).mono ?_
    rintro e w1 ⟨rfl, hb1⟩
    go_wp2_with fail
    refine (valid_any _ _ HS.out).mono ?_
    rintro e w2 ⟨rfl, hb2⟩
    go_wp2_with fail
    refine (rvalid_any _ _ HS.out).mono ?_
    rintro e w' ⟨rfl, rfl⟩
    go_wp2_with fail
    refine (kw_any _ _).mono ?_
    rintro e w' ⟨rfl, rfl⟩
    go_wp2_with fail
    refine (rkw_any _ _).mono ?_
    rintro e w' ⟨rfl, rfl⟩
    go_wp2_with fail
    go_ret
    exact ⟨rfl, hb1.trans (hb2.mono hb1.size)⟩

set_option maxHeartbeats 800000 in
theorem lawPaths (s : ByteArray) (w : World) (hm : Mx w) (hs : s.size ≤ maxLen) :
    Calls Tryd.prog 4 #[.string s] w fun e w' => e = .returned (.bool true) ∧ Below w.heap.size w w' := by
  have HS := Lib.hid hs
  unfold maxLen at hs
  by_cases h : (s.size : Int) > 2000
  · go_enter Tryd.func4, Tryd.ntmps4
    go_wp2_with fail
    refine (awake_any _ hm).mono ?_
    rintro e w' ⟨rfl, hb⟩
    go_wp2_with fail
    go_ret
    exact ⟨rfl, hb⟩
  · go_enter Tryd.func4, Tryd.ntmps4
    go_wp2_with fail
    refine (awake_any _ hm).mono ?_
    rintro e w1 ⟨rfl, hb1⟩
    have hm1 := hm.later hb1
    go_wp2_with fail
    refine (path_any _ _ hm1 HS.out).mono ?_
    rintro e w2 ⟨rfl, hb2⟩
    go_wp2_with fail
    refine (rpath_any _ _ HS.out).mono ?_
    rintro e w' ⟨rfl, rfl⟩
    go_wp2_with fail
    go_ret
    exact ⟨rfl, hb1.trans (hb2.mono hb1.size)⟩

theorem fits_of {xs : List ByteArray} {M : Int} (hM : M ≤ 1000) (h : ∀ x ∈ xs, (x.size : Int) ≤ M) : ∀ x ∈ xs, x.size ≤ maxLen := fun x hx => by have := h x hx; unfold maxLen; omega

set_option maxHeartbeats 800000 in
theorem lawCandidates (base : ByteArray) (v : Value) (xs : List ByteArray) (w : World) (hm : Mx w) (hs : base.size ≤ maxLen) (hv : Reads w v xs) :
    Calls Tryd.prog 5 #[.string base, v] w fun e w' => e = .returned (.bool true) ∧ Below w.heap.size w w' := by
  have HS := Lib.hid hs
  have HV := Lib.hid hv
  have HSH := Lib.hid (short_any v xs 60 100 (by decide) w hv)
  unfold maxLen at hs
  clear hv
  by_cases h : (base.size : Int) > 100
  · go_enter Tryd.func5, Tryd.ntmps5
    go_wp2_with fail
    refine (awake_any _ hm).mono ?_
    rintro e w' ⟨rfl, hb⟩
    go_wp2_with fail
    go_ret
    exact ⟨rfl, hb⟩
  · go_enter Tryd.func5, Tryd.ntmps5
    go_wp2_with fail
    refine HSH.out.mono ?_
    rintro e w' ⟨b, rfl, hsh, rfl⟩
    cases b
    · clear hsh
      go_wp2_with fail
      refine (awake_any _ hm).mono ?_
      rintro e w' ⟨rfl, hb⟩
      go_wp2_with fail
      go_ret
      exact ⟨rfl, hb⟩
    · obtain ⟨h60, h100⟩ := hsh.1 rfl
      have hl : xs.length ≤ 60 := by omega
      have HF := Lib.hid (fits_of (by decide) h100)
      clear hsh h60 h100
      cases hn : Pl.nm base
      · have HN := Lib.hid hn
        clear hn
        go_wp2_with fail
        refine (fresh_bad _ _ _ HS.out HN.out).mono ?_
        rintro e w1 ⟨rfl, hb1⟩
        go_wp2_with fail
        refine (rfresh_bad _ _ _ HS.out HN.out).mono ?_
        rintro e w2 ⟨rfl, hb2⟩
        have hb12 := hb1.trans (hb2.mono hb1.size)
        clear hb1 hb2
        go_wp2_with fail
        refine (awake_any _ (hm.later hb12)).mono ?_
        rintro e w3 ⟨rfl, hb3⟩
        go_wp2_with fail
        go_ret
        exact ⟨rfl, hb12.trans (hb3.mono hb12.size)⟩
      · have HN := Lib.hid hn
        clear hn
        obtain ⟨r, hr⟩ := Pl.fresh_some base xs hl
        have HR := Lib.hid hr
        clear hr
        go_wp2_with fail
        refine (fresh_any _ _ _ _ _ HN.out HV.out hl HF.out HR.out).mono ?_
        rintro e w1 ⟨rfl, hb1⟩
        go_wp2_with fail
        refine (rfresh_any _ _ _ _ _ HN.out (HV.out.later hb1) hl HR.out).mono ?_
        rintro e w2 ⟨rfl, hb2⟩
        have hb12 := hb1.trans (hb2.mono hb1.size)
        clear hb1 hb2
        go_wp2_with fail
        refine (awake_any _ (hm.later hb12)).mono ?_
        rintro e w3 ⟨rfl, hb3⟩
        go_wp2_with fail
        go_ret
        exact ⟨rfl, hb12.trans (hb3.mono hb12.size)⟩

set_option maxHeartbeats 800000 in
theorem lawLists (v : Value) (xs : List ByteArray) (s : ByteArray) (w : World) (hm : Mx w) (hs : s.size ≤ maxLen) (hv : Reads w v xs) :
    Calls Tryd.prog 6 #[v, .string s] w fun e w' => e = .returned (.bool true) ∧ Below w.heap.size w w' := by
  have HV := Lib.hid hv
  have HSH := Lib.hid (short_any v xs 60 100 (by decide) w hv)
  unfold maxLen at hs
  clear hv
  by_cases h : (s.size : Int) > 100
  · go_enter Tryd.func6, Tryd.ntmps6
    go_wp2_with fail
    refine (awake_any _ hm).mono ?_
    rintro e w' ⟨rfl, hb⟩
    go_wp2_with fail
    go_ret
    exact ⟨rfl, hb⟩
  · go_enter Tryd.func6, Tryd.ntmps6
    go_wp2_with fail
    refine HSH.out.mono ?_
    rintro e w' ⟨b, rfl, hsh, rfl⟩
    cases b
    · clear hsh
      go_wp2_with fail
      refine (awake_any _ hm).mono ?_
      rintro e w' ⟨rfl, hb⟩
      go_wp2_with fail
      go_ret
      exact ⟨rfl, hb⟩
    · obtain ⟨h60, _⟩ := hsh.1 rfl
      have hl : xs.length ≤ 900 := by omega
      clear hsh h60
      go_wp2_with fail
      refine (awake_any _ hm).mono ?_
      rintro e w1 ⟨rfl, hb1⟩
      go_wp2_with fail
      refine (insert_any _ _ _ _ (HV.out.later hb1) hl).mono ?_
      rintro e w2 ⟨u, rfl, hr2, hb2⟩
      have hb12 := hb1.trans (hb2.mono hb1.size)
      have HR2 := Lib.hid hr2
      clear hb1 hb2 hr2
      go_wp2_with fail
      refine (rinsert_any _ _ _ _ (HV.out.later hb12) hl).mono ?_
      rintro e w3 ⟨u3, rfl, hr3, hb3⟩
      have hb13 := hb12.trans (hb3.mono hb12.size)
      have HR3 := Lib.hid hr3
      have HR23 := Lib.hid (HR2.out.later hb3)
      clear hb12 hb3 hr3
      go_wp2_with fail
      refine (same_any _ _ _ _ HR23.out HR3.out).mono ?_
      rintro e w4 ⟨rfl, hb4⟩
      have hb14 := hb13.trans (hb4.mono hb13.size)
      clear hb13 hb4
      go_wp2_with fail
      refine (has_any _ _ _ _ (HV.out.later hb14)).mono ?_
      rintro e w' ⟨rfl, rfl⟩
      go_wp2_with fail
      refine (rhas_any _ _ _ _ (HV.out.later hb14)).mono ?_
      rintro e w' ⟨rfl, rfl⟩
      go_wp2_with fail
      go_ret
      exact ⟨rfl, hb14⟩

set_option maxHeartbeats 1600000 in
theorem lawFresh (base : ByteArray) (v : Value) (xs : List ByteArray) (w : World) (hm : Mx w) (hs : base.size ≤ maxLen) (hv : Reads w v xs) :
    Calls Tryd.prog 7 #[.string base, v] w fun e w' => e = .returned (.bool true) ∧ Below w.heap.size w w' := by
  have HS := Lib.hid hs
  have HV := Lib.hid hv
  have HSH := Lib.hid (short_any v xs 60 100 (by decide) w hv)
  unfold maxLen at hs
  clear hv
  by_cases h : (base.size : Int) > 100
  · go_enter Tryd.func7, Tryd.ntmps7
    go_wp2_with fail
    refine (awake_any _ hm).mono ?_
    rintro e w' ⟨rfl, hb⟩
    go_wp2_with fail
    go_ret
    exact ⟨rfl, hb⟩
  · go_enter Tryd.func7, Tryd.ntmps7
    go_wp2_with fail
    refine HSH.out.mono ?_
    rintro e w' ⟨b, rfl, hsh, rfl⟩
    cases b
    · clear hsh
      go_wp2_with fail
      refine (awake_any _ hm).mono ?_
      rintro e w' ⟨rfl, hb⟩
      go_wp2_with fail
      go_ret
      exact ⟨rfl, hb⟩
    · obtain ⟨h60, h100⟩ := hsh.1 rfl
      have hl : xs.length ≤ 60 := by omega
      have HF := Lib.hid (fits_of (by decide) h100)
      clear hsh h60 h100
      cases hn : Pl.nm base
      · have HN := Lib.hid hn
        clear hn
        go_wp2_with fail
        refine (fresh_bad _ _ _ HS.out HN.out).mono ?_
        rintro e w1 ⟨rfl, hb1⟩
        go_wp2_with fail
        refine (valid_is _ _ HN.out _ HS.out).mono ?_
        rintro e w2 ⟨rfl, hb2⟩
        have hb12 := hb1.trans (hb2.mono hb1.size)
        clear hb1 hb2
        go_wp2_with fail
        refine (awake_any _ (hm.later hb12)).mono ?_
        rintro e w3 ⟨rfl, hb3⟩
        go_wp2_with fail
        go_ret
        exact ⟨rfl, hb12.trans (hb3.mono hb12.size)⟩
      · have HN := Lib.hid hn
        clear hn
        obtain ⟨r, hr⟩ := Pl.fresh_some base xs hl
        have HR := Lib.hid hr
        have HRN := Lib.hid (Pl.fresh_nm base xs r hl HN.out hr)
        have HRF := Lib.hid (Pl.inL_no _ _ (Pl.fresh_free base xs r hr))
        have HRZ : Hid (r.size ≤ maxLen) := Lib.hid (by have := (Pl.nm_parts r HRN.out).2.1; unfold maxLen; omega)
        clear hr
        go_wp2_with fail
        refine (fresh_any _ _ _ _ _ HN.out HV.out hl HF.out HR.out).mono ?_
        rintro e w1 ⟨rfl, hb1⟩
        go_wp2_with fail
        refine (valid_is _ _ HN.out _ HS.out).mono ?_
        rintro e w2 ⟨rfl, hb2⟩
        have hb12 := hb1.trans (hb2.mono hb1.size)
        clear hb1 hb2
        go_wp2_with fail
        refine (valid_is _ _ HRN.out _ HRZ.out).mono ?_
        rintro e w3 ⟨rfl, hb3⟩
        have hb13 := hb12.trans (hb3.mono hb12.size)
        clear hb12 hb3
        go_wp2_with fail
        refine (has_is _ _ _ _ HRF.out _ (HV.out.later hb13)).mono ?_
        rintro e w' ⟨rfl, rfl⟩
        go_wp2_with fail
        refine (awake_any _ (hm.later hb13)).mono ?_
        rintro e w4 ⟨rfl, hb4⟩
        have hb14 := hb13.trans (hb4.mono hb13.size)
        clear hb13 hb4
        cases hh : Pl.inL xs base
        · have HH := Lib.hid hh
          have hrb : r = base := Pl.fresh_base base xs r HR.out (fun hx => by rw [Pl.inL_yes xs base hx] at hh; cases hh)
          have hbt : (r.toList == base.toList) = true := by rw [hrb]; exact beq_self_eq_true _
          clear hh hrb
          go_wp2_with fail
          refine (has_is _ _ _ _ HH.out _ (HV.out.later hb14)).mono ?_
          rintro e w' ⟨rfl, rfl⟩
          go_wp2_with fail
          go_ret
          exact ⟨rfl, hb14⟩
        · have HH := Lib.hid hh
          clear hh
          go_wp2_with fail
          refine (has_is _ _ _ _ HH.out _ (HV.out.later hb14)).mono ?_
          rintro e w' ⟨rfl, rfl⟩
          go_wp2_with fail
          go_ret
          exact ⟨rfl, hb14⟩
end Go.Proofs.YtjfmanflkcaohaaDoor
