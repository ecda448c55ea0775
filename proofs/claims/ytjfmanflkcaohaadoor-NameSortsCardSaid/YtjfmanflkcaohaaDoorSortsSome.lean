/- The walk of the law on sorted lists: some strings came in. -/
import Derived.Test.YtjfmanflkcaohaaDoorSorts
namespace Go.Proofs.YtjfmanflkcaohaaDoor
open Go.RowKit
set_option linter.unusedVariables false
set_option linter.unusedSimpArgs false

set_option maxHeartbeats 3200000 in
theorem sorts_some (b2 o2 c2 n2 : Nat) (xs : List ByteArray) (s t : ByteArray) (w : World) (hm : Mx w) (hs : s.size ≤ 100) (ht : t.size ≤ 100) (hn2x : n2 = xs.length) (hb2w : b2 < w.heap.size) (hst2 : StrsAt w b2 o2 xs) (hv : Reads w (.slice (some ⟨b2, o2, none⟩) n2 c2) xs) (hl : xs.length ≤ 40)
    (HSH : Hid (Calls Tryd.prog 17 #[.slice (some ⟨b2, o2, none⟩) n2 c2, .int .i64 40, .int .i64 100] w fun e w' => e = .returned (.bool true) ∧ w = w')) :
    Calls Tryd.prog 8 #[.slice (some ⟨b2, o2, none⟩) n2 c2, .string s, .string t] w fun e w' => e = .returned (.bool true) ∧ Below w.heap.size w w' := by
  have HV := Lib.hid hv
  have HN2 := Lib.hid hn2x
  have HS2 := Lib.hid hst2
  have hn2s : n2 ≤ 40 := by omega
  clear hv hn2x hst2
  go_enter Tryd.func8, Tryd.ntmps8
  go_wp2_with fail
  refine HSH.out.mono ?_
  rintro e w' ⟨rfl, rfl⟩
  go_wp2_with fail
  refine (insert_any _ _ _ _ HV.out (by omega)).mono ?_
  rintro e w1 ⟨u, rfl, hr, hb1⟩
  have hr' := hr
  have hne : Pl.insB xs s ≠ [] := fun h => by have := (Pl.insB_mem xs s s).2 (.inr rfl); rw [h] at this; cases this
  obtain ⟨g, o, n, c, rfl, hn, hg, hstr⟩ := hr.some hne
  have hlen := Pl.insB_len xs s
  have HMem := Lib.hid (Pl.insB_mem xs s)
  have HRise := Lib.hid (rises_ins xs s)
  obtain ⟨ys, hys⟩ : ∃ ys, ys = Pl.insB xs s := ⟨_, rfl⟩
  rw [← hys] at hn hlen hstr HMem HRise hr'
  have HN := Lib.hid hn
  have HYS := Lib.hid hys
  have HTW : Hid (Pl.insB ys s = ys) := Lib.hid (by rw [hys, Pl.insB_twice])
  have HSW : Hid (Pl.insB ys t = Pl.insB (Pl.insB xs t) s) := Lib.hid (by rw [hys, Pl.insB_swap])
  have hn2 : n ≤ 41 := by omega
  have hK : Keeps (.slice (some ⟨b2, o2, none⟩) n2 c2) xs (.slice (some ⟨g, o, none⟩) n c) ys g o w w1 := ⟨hstr, HV.out.later hb1, hr', hg, hb1⟩
  have HK := Lib.hid hK
  clear hne hn hstr hys hlen hr' hK hg hb1
  go_wp2_with fail
  go_loopw [8] (fun i wr => ∃ k : Nat, k ≤ n ∧ i = .int .i64 k ∧ Keeps (.slice (some ⟨b2, o2, none⟩) n2 c2) xs (.slice (some ⟨g, o, none⟩) n c) ys g o w wr) (fun i _ => n - (intOf i).toNat)
  case atStart => exact ⟨0, Nat.zero_le _, rfl, HK.out⟩
  case round =>
    obtain ⟨k, hk, rfl, hK⟩ := hrel
    have HK := Lib.hid hK
    clear hK
    by_cases hp : k < n
    · have hkx : k < ys.length := by rw [← HN.out]; exact hp
      have hcl := HK.out.1 k _ (List.getElem?_eq_getElem hkx)
      have h0 : (0 : Int) ≤ k := by omega
      have h1 : (k : Int) < n := by omega
      have HIn := Lib.hid ((HMem.out ys[k]).1 (List.getElem_mem _))
      have HRd := Lib.hid HK.out.2.1
      by_cases hk0 : k = 0
      · have hb0 : decide (0 < k) = false := by simp; omega
        have HK0 := Lib.hid hk0
        clear hk0
        by_cases he : ys[k] = s
        · have hbn : (ys[k].toList == s.toList) = true := by rw [he]; exact beq_self_eq_true _
          clear he
          generalize ys[k] = x at *
          go_wp2_with fail
          go_quiet (fail)
          go_wp2_with fail
          exact ⟨⟨k + 1, by omega, by go_num, HK.out.drewN _⟩, by simp [intOf]; omega⟩
        · have hbn := eq_no ys[k] s he
          have HL := Lib.hid (Pl.inL_yes xs ys[k] (HIn.out.resolve_right he))
          clear he
          generalize ys[k] = x at *
          go_wp2_with fail
          go_quiet ((go_at_call 25; exact lhas_q _ _ _ _ HL.out _ HRd.out _))
          go_wp2_with fail
          exact ⟨⟨k + 1, by omega, by go_num, HK.out.drewN _⟩, by simp [intOf]; omega⟩
      · have hb0 : decide (0 < k) = true := by simp; omega
        obtain ⟨j, hj⟩ : ∃ j, j = k - 1 := ⟨_, rfl⟩
        have e1 : IntKind.i64.wrap ((k : Int) - 1) = (j : Int) := by rw [IntWalk.i64_in _ (by omega)]; omega
        have hj0 : (0 : Int) ≤ j := by omega
        have hjn : (j : Int) < n := by omega
        have hjx : j < ys.length := by omega
        have hclj := HK.out.1 j _ (List.getElem?_eq_getElem hjx)
        have hlt : ys[j].toList < ys[k].toList := by
          have := HRise.out k (by omega) hkx
          have e : ys[k - 1] = ys[j] := by congr 1; exact hj.symm
          rw [e] at this; exact this
        have hl1 : Op.bytesLess ys[k].toList ys[j].toList = false := less_no _ _ (by rw [← Pl.toList_eq, ← Pl.toList_eq]; exact hlt)
        have hl2 : (ys[k].toList == ys[j].toList) = false := eq_no _ _ (fun e => by rw [e] at hlt; exact Pl.lt_irrefl _ hlt)
        have HK0 := Lib.hid hk0
        have HJ := Lib.hid hj
        clear hk0 hlt hj
        by_cases he : ys[k] = s
        · have hbn : (ys[k].toList == s.toList) = true := by rw [he]; exact beq_self_eq_true _
          clear he
          generalize ys[k] = x at *
          generalize ys[j] = y at *
          go_wp2_with fail
          go_quiet (fail)
          go_wp2_with fail
          exact ⟨⟨k + 1, by omega, by go_num, HK.out.drewN _⟩, by simp [intOf]; omega⟩
        · have hbn := eq_no ys[k] s he
          have HL := Lib.hid (Pl.inL_yes xs ys[k] (HIn.out.resolve_right he))
          clear he
          generalize ys[k] = x at *
          generalize ys[j] = y at *
          go_wp2_with fail
          go_quiet ((go_at_call 25; exact lhas_q _ _ _ _ HL.out _ HRd.out _))
          go_wp2_with fail
          exact ⟨⟨k + 1, by omega, by go_num, HK.out.drewN _⟩, by simp [intOf]; omega⟩
    · obtain rfl : k = n := by omega
      go_wp2_with fail
      go_loopw [9] (fun i wx => ∃ k2 : Nat, k2 ≤ n2 ∧ i = .int .i64 k2 ∧ Keeps (.slice (some ⟨b2, o2, none⟩) n2 c2) xs (.slice (some ⟨g, o, none⟩) k c) ys g o w wx) (fun i _ => n2 - (intOf i).toNat)
      case atStart => exact ⟨0, Nat.zero_le _, rfl, HK.out⟩
      case round =>
        obtain ⟨k2, hk2, rfl, hK2⟩ := hrel
        have HKE := Lib.hid hK2
        clear hK2
        by_cases hp2 : k2 < n2
        · have hkx : k2 < xs.length := by rw [← HN2.out]; exact hp2
          have hcl := (HS2.out.later hb2w HKE.out.2.2.2.2) k2 _ (List.getElem?_eq_getElem hkx)
          have HI := Lib.hid (Pl.inL_yes ys xs[k2] ((HMem.out _).2 (.inl (List.getElem_mem _))))
          have HU := Lib.hid HKE.out.2.2.1
          generalize xs[k2] = x at *
          go_wp2_with fail
          refine (lhas_is _ ys x true HI.out _ HU.out).mono ?_
          rintro e w' ⟨rfl, rfl⟩
          go_wp2_with fail
          exact ⟨⟨k2 + 1, by omega, by go_num, HKE.out⟩, by simp [intOf]; omega⟩
        · obtain rfl : k2 = n2 := by omega
          have HK2 := Lib.hid HKE.out
          have hmx := hm.later HKE.out.2.2.2.2
          have hbx := HKE.out.2.2.2.2
          have HV2 := Lib.hid HKE.out.2.1
          have HU2 := Lib.hid HKE.out.2.2.1
          go_wp2_with fail
          refine (awake_any _ hmx).mono ?_
          rintro e w2 ⟨rfl, hb2⟩
          have hbx2 := hbx.trans (hb2.mono hbx.size)
          have HV3 := Lib.hid (HV2.out.later hb2)
          have HU3 := Lib.hid (HU2.out.later hb2)
          clear hb2 hbx hmx
          go_wp2_with fail
          refine (lhas_is _ ys _ true (Pl.inL_yes _ _ ((HMem.out s).2 (.inr rfl))) _ HU3.out).mono ?_
          rintro e w' ⟨rfl, rfl⟩
          go_wp2_with fail
          refine (insert_any _ ys _ _ HU3.out (by rw [← HN.out]; omega)).mono ?_
          rintro e w3 ⟨u3, rfl, hr3, hb3⟩
          have HR3 : Hid (Reads w3 u3 ys) := Lib.hid (by rw [HTW.out] at hr3; exact hr3)
          have hbx3 := hbx2.trans (hb3.mono hbx2.size)
          have HV4 := Lib.hid (HV3.out.later hb3)
          have HU4 := Lib.hid (HU3.out.later hb3)
          clear hb3 hbx2 hr3
          go_wp2_with fail
          refine (same_any _ _ ys _ HR3.out HU4.out).mono ?_
          rintro e w4 ⟨rfl, hb4⟩
          have hbx4 := hbx3.trans (hb4.mono hbx3.size)
          have HV5 := Lib.hid (HV4.out.later hb4)
          have HU5 := Lib.hid (HU4.out.later hb4)
          clear hb4 hbx3
          go_wp2_with fail
          refine (insert_any _ ys _ _ HU5.out (by rw [← HN.out]; omega)).mono ?_
          rintro e w5 ⟨u5, rfl, hr5, hb5⟩
          have hbx5 := hbx4.trans (hb5.mono hbx4.size)
          have HV6 := Lib.hid (HV5.out.later hb5)
          have HR5 := Lib.hid hr5
          clear hb5 hbx4 hr5
          go_wp2_with fail
          refine (insert_any _ xs _ _ HV6.out (by omega)).mono ?_
          rintro e w6 ⟨u6', rfl, hr6, hb6⟩
          have hbx6 := hbx5.trans (hb6.mono hbx5.size)
          have HR6 := Lib.hid hr6
          have HR5b := Lib.hid (HR5.out.later hb6)
          clear hb6 hbx5 hr6
          go_wp2_with fail
          refine (insert_any _ (Pl.insB xs t) _ _ HR6.out (by have := Pl.insB_len xs t; omega)).mono ?_
          rintro e w7 ⟨u7, rfl, hr7, hb7⟩
          have hbx7 := hbx6.trans (hb7.mono hbx6.size)
          have HR7 : Hid (Reads w7 u7 (Pl.insB ys t)) := Lib.hid (by rw [HSW.out]; exact hr7)
          have HR5c := Lib.hid (HR5b.out.later hb7)
          clear hb7 hbx6 hr7
          go_wp2_with fail
          refine (same_any _ _ _ _ HR5c.out HR7.out).mono ?_
          rintro e w8 ⟨rfl, hb8⟩
          go_wp2_with fail
          go_ret
          exact ⟨rfl, hbx7.trans (hb8.mono hbx7.size)⟩
end Go.Proofs.YtjfmanflkcaohaaDoor
