/- The walks of the law's declares and around. -/
import Derived.Test.YtoelfiendfemaaaTbJ
import Derived.Test.YtoelfiendfemaaaPRes
namespace Go.Proofs.Ytoelfiendfemaaa
open Go.RowKit Go.Deep
set_option linter.unusedVariables false
set_option linter.unusedSimpArgs false

set_option maxHeartbeats 800000 in
theorem declares_any (k d : Int) (w : World) :
    Calls Try.prog 26 #[.int .i64 k, .int .i64 d] w fun e w' => e = .returned (.bool (Pl.declares k d)) ∧ Below w.heap.size w w' := by
  obtain ⟨g, hg⟩ : ∃ g, g = Pl.declares k d := ⟨_, rfl⟩
  rw [← hg]
  have HG := Lib.hid hg
  clear hg
  go_enter Try.func26, Try.ntmps26
  go_wp2
  all_goals go_ret
  all_goals refine ⟨ret_bool ?_, Below.refl _ _⟩
  all_goals rw [HG.out]
  all_goals unfold Pl.declares
  all_goals clear HG
  all_goals simp only [beq_iff_eq, beq_eq_false_iff_ne, ne_eq, bne_iff_ne, bne_eq_false_iff_eq, Bool.not_eq_true', Bool.not_eq_false'] at *
  all_goals (simp_all <;> first | done | omega | (rw [Bool.eq_iff_iff]; simp_all))
set_option maxHeartbeats 1600000 in
set_option maxRecDepth 100000 in
theorem around_any (b o c n : Nat) (l : List Pl.Rw) (R : Nat → Sl) (w : World) (hT : Tb w b o l R) (hok : Pl.Ok l) (hn : n = l.length) (q : Int) (k0 : Nat) (hk0 : k0 < n) :
    Calls Try.prog 27 #[.slice (some ⟨b, o, none⟩) n c, .int .i64 q, .int .i64 k0] w fun e w' => e = .returned (.bool (Pl.around l q k0)) ∧ Below w.heap.size w w' := by
  obtain ⟨x, r, hx, hrw, c0, _⟩ := hT.row (i := k0) (by omega)
  have HT := Lib.hid hT
  have HN := Lib.hid hn
  have HOk := Lib.hid hok
  have hp0 : (0 : Int) ≤ (k0 : Int) := Int.natCast_nonneg _
  have hp1 : (k0 : Int) < (n : Int) := by omega
  have hll2 : n ≤ 1000000 := by rw [hn]; exact hok.1
  have hpar := ok_par hok (k := k0) (by omega) (by omega)
  rw [hrw] at hpar
  obtain ⟨hpa, hpb⟩ := hpar
  have HA : Hid (Pl.around l q k0 = Pl.ar l q x.parent) := Lib.hid (by unfold Pl.around; rw [hrw])
  clear hT hok hn hx hrw
  go_enter Try.func27, Try.ntmps27
  go_wp2_with fail
  go_loopw [7] (fun v wr => ∃ p : Int, -1 ≤ p ∧ p < n ∧ v = .int .i64 p ∧ Pl.around l q k0 = Pl.ar l q p ∧ w = wr) (fun v _ => (intOf v + 1).toNat)
  case atStart => exact ⟨x.parent, hpa, by omega, rfl, HA.out, rfl⟩
  case round =>
    obtain ⟨p, hg1, hg2, rfl, hv, rfl⟩ := hrel
    have HV := Lib.hid hv
    have HS := Lib.hid (Pl.ar_step HOk.out q p (by rw [← HN.out]; exact hg2))
    clear hv c0 hpa hpb
    by_cases h0 : p < 0
    · have HF : Hid (Pl.around l q k0 = false) := Lib.hid (by rw [HV.out, HS.out, if_pos h0])
      have g0 : decide ((0 : Int) ≤ p) = false := decide_eq_false (by omega)
      go_wp2_with fail
      go_ret
      exact ⟨ret_bool (by rw [HF.out]), Below.refl _ _⟩
    · obtain ⟨i, rfl⟩ : ∃ i : Nat, p = i := ⟨p.toNat, by omega⟩
      have g0 : decide ((0 : Int) ≤ (i : Int)) = true := decide_eq_true (by omega)
      have hi0 : (0 : Int) ≤ (i : Int) := Int.natCast_nonneg _
      obtain ⟨y, ry, _, hyr, y0, _⟩ := HT.out.row (i := i) (by rw [← HN.out]; omega)
      have hpar := ok_par HOk.out (k := i) (by omega) (by rw [← HN.out]; exact hg2)
      rw [hyr] at hpar HS
      obtain ⟨hpa, hpb⟩ := hpar
      clear hyr
      by_cases he : (i : Int) = q
      · have HF : Hid (Pl.around l q k0 = true) := Lib.hid (by rw [HV.out, HS.out, if_neg h0, if_pos he])
        have ge := (int_yes he).1
        clear he
        go_wp2_with fail
        go_ret
        exact ⟨ret_bool (by rw [HF.out]), Below.refl _ _⟩
      · have HF : Hid (Pl.around l q k0 = Pl.ar l q y.parent) := Lib.hid (by rw [HV.out, HS.out, if_neg h0, if_neg he])
        have ge := (int_no he).1
        clear he
        go_wp2_with fail
        exact ⟨⟨y.parent, hpa, by omega, rfl, HF.out, by trivial⟩, by simp [intOf]; omega⟩
end Go.Proofs.Ytoelfiendfemaaa
