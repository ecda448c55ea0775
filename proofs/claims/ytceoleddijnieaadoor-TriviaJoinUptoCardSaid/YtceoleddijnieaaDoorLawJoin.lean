/- The walk of the law TriviaJoin. -/
import Derived.Test.YtceoleddijnieaaDoorWalkAwake
namespace Go.Proofs.YtceoleddijnieaaDoor
open Go.RowKit
set_option linter.unusedVariables false
set_option linter.unusedSimpArgs false

theorem cat_list (s t : ByteArray) : (s ++ t : ByteArray).data.toList = s.data.toList ++ t.data.toList := by rw [ByteArray.data_append, Array.toList_append]

set_option maxHeartbeats 3200000 in
theorem lawJoin (s t : ByteArray) (w : World) (hs : s.size ≤ 1048576) (ht : t.size ≤ 1048576) :
    Calls Tryd.prog 5 #[.string s, .string t] w fun e w' => e = .returned (.bool true) ∧ Below w.heap.size w w' := by
  have hsm : s.size ≤ maxLen := by unfold maxLen; omega
  have htm : t.size ≤ maxLen := by unfold maxLen; omega
  by_cases hv : val s.data.toList = true
  · have he : Pl.eo s.data.toList = s.data.toList.length := by unfold val at hv; simpa using hv
    have hl := Lib.size_eq s
    have hu : (s ++ t : ByteArray).size = s.size + t.size := ByteArray.size_append
    have hum : (s ++ t : ByteArray).size ≤ maxLen := by rw [hu]; unfold maxLen; omega
    have e1 : Pl.eo (s ++ t : ByteArray).data.toList = s.size + Pl.eo t.data.toList := by rw [cat_list, Pl.eo_append _ _ he, ← hl]
    have e2 : Pl.coms (s ++ t : ByteArray).data.toList = Pl.coms s.data.toList ++ Pl.coms t.data.toList := by rw [cat_list, Pl.coms_append _ _ he]
    have ev : val (s ++ t : ByteArray).data.toList = val t.data.toList := by
      unfold val
      rw [e1, cat_list, List.length_append, ← hl, Bool.eq_iff_iff]
      simp only [beq_iff_eq]; omega
    have r0 : rest (s ++ t) 0 = (s ++ t : ByteArray).data.toList := by unfold rest; rw [List.drop_zero]
    have r1 : rest (s ++ t) s.size = t.data.toList := by unfold rest; rw [cat_list]; exact List.drop_left' hl.symm
    have r2 : rest t 0 = t.data.toList := by unfold rest; rw [List.drop_zero]
    obtain ⟨E, hE⟩ : ∃ E, E = Pl.eo t.data.toList := ⟨_, rfl⟩
    have hEl : E ≤ t.size := by rw [hE, Lib.size_eq]; exact Pl.eo_le _
    have c1 : ∀ w, Calls Tryd.prog 11 #[.string (s ++ t), .int .i64 0] w fun e w' => e = .returned (.int .i64 ((s.size : Int) + E)) ∧ Below w.heap.size w w' := fun w => by
      refine (end_in (s ++ t) 0 w hum (Nat.zero_le _)).mono ?_
      rintro e w' ⟨rfl, hb⟩
      exact ⟨ret_int (by rw [r0, e1, ← hE]; omega), hb⟩
    have c2 : ∀ w, Calls Tryd.prog 11 #[.string (s ++ t), .int .i64 s.size] w fun e w' => e = .returned (.int .i64 ((s.size : Int) + E)) ∧ Below w.heap.size w w' := fun w => by
      refine (end_in (s ++ t) s.size w hum (by omega)).mono ?_
      rintro e w' ⟨rfl, hb⟩
      exact ⟨ret_int (by rw [r1, ← hE]; omega), hb⟩
    have c3 : ∀ w, Calls Tryd.prog 11 #[.string t, .int .i64 0] w fun e w' => e = .returned (.int .i64 E) ∧ Below w.heap.size w w' := fun w => by
      refine (end_in t 0 w htm (Nat.zero_le _)).mono ?_
      rintro e w' ⟨rfl, hb⟩
      exact ⟨ret_int (by rw [r2, ← hE]; omega), hb⟩
    obtain ⟨b, hb⟩ : ∃ b, val t.data.toList = b := ⟨_, rfl⟩
    have HV := Lib.hid (fun w => valid_is s true hv w hsm)
    have HVT := Lib.hid (fun w => valid_is t b hb w htm)
    have HVU := Lib.hid (fun w => valid_is (s ++ t) b (by rw [ev, hb]) w hum)
    have HC1 := Lib.hid c1
    have HC2 := Lib.hid c2
    have HC3 := Lib.hid c3
    have hsl := Pl.coms_le s.data.toList
    have htl := Pl.coms_le t.data.toList
    rw [← Lib.size_eq] at hsl htl
    have HKS := Lib.hid (fun w => coms_any s w _ rfl (by omega))
    have HKT := Lib.hid (fun w => coms_any t w _ rfl (by omega))
    have HKU := Lib.hid (fun w => coms_any (s ++ t) w _ e2.symm (by rw [hu]; omega))
    generalize Pl.coms s.data.toList = xs at HKS HKU hsl
    generalize Pl.coms t.data.toList = ys at HKT HKU htl
    have hxy : xs.length + ys.length ≤ 1099511627776 := by omega
    have hbb : (b == b) = true := beq_self_eq_true b
    clear hv he hu hum e1 e2 ev r0 r1 r2 hE c1 c2 c3 hb hsm htm hl hsl htl
    go_enter Tryd.func5, Tryd.ntmps5
    go_wp2_with fail
    refine (HV.out _).mono ?_
    rintro e w1 ⟨rfl, hb1⟩
    go_wp2_with fail
    refine (HVU.out _).mono ?_
    rintro e w2 ⟨rfl, hb2⟩
    have hb12 := hb1.trans (hb2.mono hb1.size)
    clear hb1 hb2
    go_wp2_with fail
    refine (HVT.out _).mono ?_
    rintro e w3 ⟨rfl, hb3⟩
    have hb13 := hb12.trans (hb3.mono hb12.size)
    clear hb12 hb3
    go_wp2_with fail
    refine (HC1.out _).mono ?_
    rintro e w4 ⟨rfl, hb4⟩
    have hb14 := hb13.trans (hb4.mono hb13.size)
    clear hb13 hb4
    go_wp2_with fail
    refine (HC3.out _).mono ?_
    rintro e w5 ⟨rfl, hb5⟩
    have hb15 := hb14.trans (hb5.mono hb14.size)
    clear hb14 hb5
    go_wp2_with fail
    refine (HC2.out _).mono ?_
    rintro e w6 ⟨rfl, hb6⟩
    have hb16 := hb15.trans (hb6.mono hb15.size)
    clear hb15 hb6
    go_wp2_with fail
    refine (HC1.out _).mono ?_
    rintro e w7 ⟨rfl, hb7⟩
    have hb17 := hb16.trans (hb7.mono hb16.size)
    clear hb16 hb7
    go_wp2_with fail
    refine (HKU.out _).mono ?_
    rintro e w8 ⟨u, rfl, hu, hb8⟩
    have HU := Lib.hid hu
    have hb18 := hb17.trans (hb8.mono hb17.size)
    clear hb17 hb8 hu
    go_wp2_with fail
    refine (HKS.out _).mono ?_
    rintro e w9 ⟨v, rfl, hv, hb9⟩
    have HVV := Lib.hid hv
    have HU9 := Lib.hid (HU.out.later hb9)
    have hb19 := hb18.trans (hb9.mono hb18.size)
    clear hb18 hb9 hv
    go_wp2_with fail
    refine (HKT.out _).mono ?_
    rintro e w10 ⟨z, rfl, hz, hb10⟩
    have HZ := Lib.hid hz
    have HU10 := Lib.hid (HU9.out.later hb10)
    have HV10 := Lib.hid (HVV.out.later hb10)
    have hb110 := hb19.trans (hb10.mono hb19.size)
    clear hb19 hb10 hz
    go_wp2_with fail
    refine (cat_any u v z xs ys _ hxy HU10.out HV10.out HZ.out).mono ?_
    rintro e w11 ⟨rfl, hb11⟩
    have hb111 := hb110.trans (hb11.mono hb110.size)
    clear hb110 hb11
    go_wp2_with fail
    refine (awake_any _).mono ?_
    rintro e w12 ⟨rfl, hb12⟩
    have hb112 := hb111.trans (hb12.mono hb111.size)
    clear hb111 hb12
    go_wp2_with fail
    go_ret
    exact ⟨rfl, hb112⟩
  · have HV := Lib.hid (fun w => valid_is s false (by simpa using hv) w hsm)
    clear hv hsm htm
    go_enter Tryd.func5, Tryd.ntmps5
    go_wp2_with fail
    refine (HV.out _).mono ?_
    rintro e w1 ⟨rfl, hb1⟩
    go_wp2_with fail
    refine (awake_any _).mono ?_
    rintro e w2 ⟨rfl, hb2⟩
    have hb12 := hb1.trans (hb2.mono hb1.size)
    clear hb1 hb2
    go_wp2_with fail
    go_ret
    exact ⟨rfl, hb12⟩
end Go.Proofs.YtceoleddijnieaaDoor
