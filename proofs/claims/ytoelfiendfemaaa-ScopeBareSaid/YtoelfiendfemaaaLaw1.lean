/- The walks of the laws ScopeUses, ScopePlaces, ScopeLists. -/
import Derived.Test.YtoelfiendfemaaaAwk
namespace Go.Proofs.Ytoelfiendfemaaa
open Go.RowKit Go.Deep
set_option linter.unusedVariables false
set_option linter.unusedSimpArgs false

/-- A law's answer. -/
def YesP (w : World) (e : Ending) (w' : World) : Prop := e = .returned (.bool true) ∧ Below w.heap.size w w'
set_option maxHeartbeats 1600000 in
set_option maxRecDepth 100000 in
theorem law_uses (HP : Prg) (HSm : SampC) (a : Option Addr) (n c : Nat) (us : List Pl.Un) (R : Nat → Sl) (w : World) (hG : Good w) (hU : IsU w a us R) (hn : n = us.length) :
    Calls Try.prog 3 #[.slice a n c] w (YesP w) := by
  have HAw := Lib.hid (awake_any HP HSm w hG)
  have HFt := Lib.hid (fun z (h : Below w.heap.size w z) => fit_any a n c us R z (hU.later h) hn)
  have HPu := Lib.hid (fun z (h : Below w.heap.size w z) hF => HP.1 a n c us R z (hG.later h) (hU.later h) hF hn)
  have HRu := Lib.hid (fun z (h : Below w.heap.size w z) hF => ruses_any a n c us R z (hU.later h) hF hn)
  clear hU hn hG
  go_enter Try.func3, Try.ntmps3
  go_wp2_with (first
    | (go_at_call 9; refine HAw.out.mono ?_; rintro e w1 ⟨rfl, hb1⟩; have HB1 := Lib.hid hb1; clear hb1)
    | (go_at_call 10; refine (HFt.out w1 HB1.out).mono ?_; rintro e w2 ⟨bb, hbb, rfl, hb2⟩; have HBB := Lib.hid hbb; have HB2 := Lib.hid (HB1.out.trans (hb2.mono HB1.out.size)); clear hbb hb2; cases bb)
    | (go_at_call 12; refine (HPu.out w2 HB2.out (HBB.out (by trivial))).mono ?_; rintro e w3 ⟨la, lc, rfl, hl, hb3⟩; have HL := Lib.hid hl; have HB3 := Lib.hid (HB2.out.trans (hb3.mono HB2.out.size)); clear hl hb3)
    | (go_at_call 13; refine (HRu.out w3 HB3.out (HBB.out (by trivial))).mono ?_; rintro e w4 ⟨ma, mc, rfl, hm, hb4⟩; have HM := Lib.hid hm; have HL4 := Lib.hid (FlatW.later HL.out hb4); have HB4 := Lib.hid (HB3.out.trans (hb4.mono HB3.out.size)); clear hm hb4)
    | (go_at_call 11; refine (sameUses_any la ma _ _ lc mc _ _ w4 HL4.out HM.out rfl rfl).mono ?_; rintro e w5 ⟨rfl, hb5⟩; have HB5 := Lib.hid (HB4.out.trans (hb5.mono HB4.out.size)); clear hb5))
  · go_ret
    exact ⟨rfl, HB2.out⟩
  · go_ret
    exact ⟨ret_bool (by simp), HB5.out⟩
set_option maxHeartbeats 1600000 in
set_option maxRecDepth 100000 in
theorem law_lists (HP : Prg) (HSm : SampC) (a : Option Addr) (n c : Nat) (us : List Pl.Un) (R : Nat → Sl) (w : World) (hG : Good w) (hU : IsU w a us R) (hn : n = us.length) :
    Calls Try.prog 5 #[.slice a n c] w (YesP w) := by
  have HAw := Lib.hid (fun z (h : Below w.heap.size w z) => awake_any HP HSm z (hG.later h))
  have HFt := Lib.hid (fit_any a n c us R w hU hn)
  have HPu := Lib.hid (fun z (h : Below w.heap.size w z) hF => HP.2.2.2.1 a n c us R z (hG.later h) (hU.later h) hF hn)
  have HRu := Lib.hid (fun z (h : Below w.heap.size w z) hF => runbound_any a n c us R z (hU.later h) hF hn)
  have HPd := Lib.hid (fun z (h : Below w.heap.size w z) hF => HP.2.2.2.2 a n c us R z (hG.later h) (hU.later h) hF hn)
  have HRd := Lib.hid (fun z (h : Below w.heap.size w z) hF => rdoubles_any a n c us R z (hU.later h) hF hn)
  clear hU hn hG
  generalize Pl.unbound us = UB at *
  generalize Pl.doubles us = DB at *
  go_enter Try.func5, Try.ntmps5
  go_wp2_with (first
    | (go_at_call 10; refine HFt.out.mono ?_; rintro e w1 ⟨bb, hbb, rfl, hb1⟩; have HBB := Lib.hid hbb; have HB1 := Lib.hid hb1; clear hbb hb1; cases bb)
    | (go_at_call 9; refine (HAw.out w1 HB1.out).mono ?_; rintro e w2 ⟨rfl, hb2⟩; have HB2 := Lib.hid (HB1.out.trans (hb2.mono HB1.out.size)); clear hb2)
    | (go_at_call 20; refine (HPu.out w2 HB2.out (HBB.out (by trivial))).mono ?_; rintro e w3 ⟨la, lc, rfl, hl, hb3⟩; have HL := Lib.hid hl; have HB3 := Lib.hid (HB2.out.trans (hb3.mono HB2.out.size)); clear hl hb3)
    | (go_at_call 21; refine (HRu.out w3 HB3.out (HBB.out (by trivial))).mono ?_; rintro e w4 ⟨ma, mc, rfl, hm, hb4⟩; have HM := Lib.hid hm; have HL4 := Lib.hid (FlatW.later HL.out hb4); have HB4 := Lib.hid (HB3.out.trans (hb4.mono HB3.out.size)); clear hm hb4)
    | (go_at_call 22; refine (HPd.out w5 HB5.out (HBB.out (by trivial))).mono ?_; rintro e w6 ⟨pa, pc, rfl, hl, hb6⟩; have HL6 := Lib.hid hl; have HB6 := Lib.hid (HB5.out.trans (hb6.mono HB5.out.size)); clear hl hb6)
    | (go_at_call 23; refine (HRd.out w6 HB6.out (HBB.out (by trivial))).mono ?_; rintro e w7 ⟨qa, qc, rfl, hm, hb7⟩; have HM7 := Lib.hid hm; have HL7 := Lib.hid (FlatW.later HL6.out hb7); have HB7 := Lib.hid (HB6.out.trans (hb7.mono HB6.out.size)); clear hm hb7)
    | (go_at_call 19; refine (sameRefs_any pa qa _ _ pc qc _ _ w7 HL7.out HM7.out rfl rfl).mono ?_; rintro e w8 ⟨rfl, hb8⟩; have HB8 := Lib.hid (HB7.out.trans (hb8.mono HB7.out.size)); clear hb8)
    | (go_at_call 19; refine (sameRefs_any la ma _ _ lc mc _ _ w4 HL4.out HM.out rfl rfl).mono ?_; rintro e w5 ⟨he, hb5⟩; replace he : e = .returned (.bool true) := he.trans (by simp); subst he; have HB5 := Lib.hid (HB4.out.trans (hb5.mono HB4.out.size)); clear hb5))
  · go_ret
    exact ⟨rfl, HB2.out⟩
  · go_ret
    exact ⟨ret_bool (by simp), HB8.out⟩
end Go.Proofs.Ytoelfiendfemaaa
