/- The walks of the laws TokenReads, TokenKinds. -/
import Derived.Test.YtebmmpepniokjaaDoorWalkAwake
import Derived.Test.YtebmmpepniokjaaDoorWalkRefToks
namespace Go.Proofs.YtebmmpepniokjaaDoor
open Go.RowKit
set_option linter.unusedVariables false
set_option linter.unusedSimpArgs false

set_option maxHeartbeats 1600000 in
theorem lawReads (s : ByteArray) (w : World) (hE : Errs w) (hs : s.size ≤ maxLen) :
    Calls Tryd.prog 3 #[.string s] w fun e w' => e = .returned (.bool true) ∧ Below w.heap.size w w' := by
  have HE := Lib.hid hE
  clear hE
  unfold maxLen at hs
  by_cases h1 : 1000 < s.size
  · go_enter Tryd.func3, Tryd.ntmps3
    go_wp2_with (go_at_call 10; refine (awake_any _ HE.out).mono ?_; rintro e w1 ⟨rfl, k1⟩)
    go_ret
    exact ⟨rfl, k1⟩
  · have HA := Lib.hid (fun w hE => toks_any s w (by omega) hE)
    have HB := Lib.hid (fun w => rtoks_any s w (by omega))
    have hlen := Pl.tk_len s.data.toList 0
    rw [← Lib.size_eq] at hlen
    cases hR : (Pl.tk s.data.toList 0).2 with
    | some off =>
      have HR := Lib.hid hR
      clear hR
      go_enter Tryd.func3, Tryd.ntmps3
      go_wp2_with (first
        | (go_at_call 11; refine (HA.out _ HE.out).mono ?_; intro e w1 hx; obtain ⟨rfl, k1⟩ := lexed_err hx off HR.out; clear hx)
        | (go_at_call 12; refine (HB.out _).mono ?_; intro e w2 hx; obtain ⟨rfl, k2⟩ := lexed_err hx off HR.out; clear hx)
        | (go_at_call 13; refine (same_none none none 0 0 _).mono ?_; rintro e w' ⟨rfl, rfl⟩; have k12 := k1.trans (k2.mono k1.size); have HE2 := Lib.hid (HE.out.later k12))
        | (go_at_call 10; refine (awake_any _ HE2.out).mono ?_; rintro e w3 ⟨rfl, k3⟩; have k13 := k12.trans (k3.mono k12.size)))
      go_ret
      exact ⟨rfl, k13⟩
    | none =>
      have HR := Lib.hid hR
      have hlm : ((Pl.tk s.data.toList 0).1.map t4).length ≤ 1099511627776 := by rw [List.length_map]; omega
      clear hR
      go_enter Tryd.func3, Tryd.ntmps3
      go_wp2_with (first
        | (go_at_call 11; refine (HA.out _ HE.out).mono ?_; intro e w1 hx; obtain ⟨v1, rfl, r1⟩ := hx.2.1 HR.out; have k1 := hx.2.2; have R1 := Lib.hid r1; clear hx r1)
        | (go_at_call 12; refine (HB.out _).mono ?_; intro e w2 hx; obtain ⟨v2, rfl, r2⟩ := hx.2.1 HR.out; have k2 := hx.2.2; have R2 := Lib.hid r2; clear hx r2)
        | (go_at_call 13; refine (same_any v1 v2 _ _ hlm (R1.out.later k2) R2.out).mono ?_; rintro e w' ⟨rfl, k3⟩; have k12 := k1.trans (k2.mono k1.size); have k13 := k12.trans (k3.mono k12.size); have HE2 := Lib.hid (HE.out.later k13))
        | (go_at_call 10; refine (awake_any _ HE2.out).mono ?_; rintro e w4 ⟨rfl, k4⟩; have k14 := k13.trans (k4.mono k13.size)))
      go_ret
      exact ⟨rfl, k14⟩

set_option maxHeartbeats 1600000 in
theorem lawKinds (a b : ByteArray) (w : World) (hE : Errs w) (ha : a.size ≤ maxLen) (hb : b.size ≤ maxLen) :
    Calls Tryd.prog 4 #[.string a, .string b] w fun e w' => e = .returned (.bool true) ∧ Below w.heap.size w w' := by
  have HE := Lib.hid hE
  clear hE
  have ha2 := ha
  unfold maxLen at ha hb
  by_cases h1 : 100 < a.size
  · have hb1 : decide (100 < (a.size : Int)) = true := decide_eq_true (by omega)
    go_enter Tryd.func4, Tryd.ntmps4
    go_wp2_with (go_at_call 10; refine (awake_any _ HE.out).mono ?_; rintro e w1 ⟨rfl, k1⟩)
    go_ret
    exact ⟨rfl, k1⟩
  · have hb1 : decide (100 < (a.size : Int)) = false := decide_eq_false (by omega)
    by_cases h2 : 100 < b.size
    · have hb2 : decide (100 < (b.size : Int)) = true := decide_eq_true (by omega)
      go_enter Tryd.func4, Tryd.ntmps4
      go_wp2_with (go_at_call 10; refine (awake_any _ HE.out).mono ?_; rintro e w1 ⟨rfl, k1⟩)
      go_ret
      exact ⟨rfl, k1⟩
    · have hb2 : decide (100 < (b.size : Int)) = false := decide_eq_false (by omega)
      have HG := Lib.hid (fun w => glue_any a b w ha2)
      have HR := Lib.hid (fun w => rglue_any a b w ha2)
      have HK := Lib.hid (fun w hE => kind_any a w (by omega) hE)
      have HL := Lib.hid (fun w => kind5_any a w ha2)
      clear ha2
      generalize Pl.glue a.data.toList b.data.toList = g at *
      generalize Pl.kd a.data.toList = kd at *
      go_enter Tryd.func4, Tryd.ntmps4
      go_wp2_with (first
        | (go_at_call 14; refine (HG.out _).mono ?_; rintro e w' ⟨rfl, rfl⟩)
        | (go_at_call 15; refine (HR.out _).mono ?_; rintro e w' ⟨rfl, rfl⟩)
        | (go_at_call 16; refine (HK.out _ HE.out).mono ?_; rintro e w1 ⟨rfl, k1⟩; have HE1 := Lib.hid (HE.out.later k1))
        | (go_at_call 17; refine (HL.out _).mono ?_; rintro e w' ⟨rfl, rfl⟩)
        | (go_at_call 10; refine (awake_any _ HE1.out).mono ?_; rintro e w2 ⟨rfl, k2⟩; have k12 := k1.trans (k2.mono k1.size)))
      go_ret
      exact ⟨rfl, k12⟩
end Go.Proofs.YtebmmpepniokjaaDoor
