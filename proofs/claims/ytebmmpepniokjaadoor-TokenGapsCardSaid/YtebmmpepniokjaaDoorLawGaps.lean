/- The walk of the law TokenGaps. -/
import Derived.Test.YtebmmpepniokjaaDoorWalkAwake
namespace Go.Proofs.YtebmmpepniokjaaDoor
open Go.RowKit
set_option linter.unusedVariables false
set_option linter.unusedSimpArgs false

theorem mk_eq (x : Pl.Bs) (a : ByteArray) (h : x = a.data.toList) : Pl.mk x = a := by subst h; exact Pl.list_ext (by rw [Pl.mk_list])
/-- Three tokens, the first two with the texts a, b. -/
def Three (a b : ByteArray) (w : World) (e : Ending) (w' : World) : Prop := ∃ g o c, e = .returned (.tuple #[.slice (some ⟨g, o, none⟩) 3 c, .int .i64 0, .int .i64 0]) ∧ w'.cell? ⟨g, o + 2, none⟩ = some (.string a) ∧ w'.cell? ⟨g, o + 4 + 2, none⟩ = some (.string b) ∧ Below w.heap.size w w'
theorem three_of (s a b : ByteArray) (w : World) (hs : s.size ≤ 65536) (hE : Errs w) (h : Pl.Two (Pl.tk s.data.toList 0).1 (Pl.tk s.data.toList 0).2 a.data.toList b.data.toList) :
    Calls Tryd.prog 11 #[.string s] w (Three a b w) := by
  refine (toks_any s w hs hE).mono fun e w' hx => ?_
  obtain ⟨hn, x, y, z, hL, ht1, ht2⟩ := h
  have hT : Pl.tk s.data.toList 0 = ([x, y, z], none) := Prod.ext hL hn
  obtain ⟨g, o, c, h1, _, h3, h4⟩ := lexed_row hx [x, y, z] hT (by simp)
  refine ⟨g, o, c, h1, ?_, ?_, h4⟩
  · have := (h3 0 _ rfl).2.2.1
    rw [show (t4 x).text = a from mk_eq _ a ht1] at this
    exact this
  · have := (h3 1 _ rfl).2.2.1
    rw [show (t4 y).text = b from mk_eq _ b ht2] at this
    exact this
set_option maxHeartbeats 800000 in
theorem two_yes (s a b : ByteArray) (w : World) (hs : s.size ≤ 65536) (hE : Errs w) (h : Pl.Two (Pl.tk s.data.toList 0).1 (Pl.tk s.data.toList 0).2 a.data.toList b.data.toList) :
    Calls Tryd.prog 21 #[.string s, .string a, .string b] w fun e w' => e = .returned (.bool true) ∧ Below w.heap.size w w' := by
  have HT := Lib.hid (three_of s a b w hs hE h)
  clear hE h
  go_enter Tryd.func21, Tryd.ntmps21
  go_wp2_with (go_at_call 11; refine HT.out.mono ?_; rintro e w1 ⟨g, o, c, rfl, f0, f1, k1⟩)
  go_ret
  exact ⟨rfl, k1⟩
theorem cat_list (s t : ByteArray) : (s ++ t : ByteArray).data.toList = s.data.toList ++ t.data.toList := by rw [ByteArray.data_append, Array.toList_append]

set_option maxHeartbeats 3200000 in
theorem lawGaps (a b : ByteArray) (w : World) (hE : Errs w) (ha : a.size ≤ maxLen) (hb : b.size ≤ maxLen) :
    Calls Tryd.prog 8 #[.string a, .string b] w fun e w' => e = .returned (.bool true) ∧ Below w.heap.size w w' := by
  have HE := Lib.hid hE
  clear hE
  have ha2 := ha
  unfold maxLen at ha hb
  by_cases h1 : 100 < a.size
  · have hb1 : decide (100 < (a.size : Int)) = true := decide_eq_true (by omega)
    go_enter Tryd.func8, Tryd.ntmps8
    go_wp2_with (go_at_call 10; refine (awake_any _ HE.out).mono ?_; rintro e w1 ⟨rfl, k1⟩)
    go_ret
    exact ⟨rfl, k1⟩
  · have hb1 : decide (100 < (a.size : Int)) = false := decide_eq_false (by omega)
    by_cases h2 : 100 < b.size
    · have hb2 : decide (100 < (b.size : Int)) = true := decide_eq_true (by omega)
      go_enter Tryd.func8, Tryd.ntmps8
      go_wp2_with (go_at_call 10; refine (awake_any _ HE.out).mono ?_; rintro e w1 ⟨rfl, k1⟩)
      go_ret
      exact ⟨rfl, k1⟩
    · have hb2 : decide (100 < (b.size : Int)) = false := decide_eq_false (by omega)
      obtain ⟨ka, hka⟩ : ∃ k, Pl.kd a.data.toList = k := ⟨_, rfl⟩
      obtain ⟨kb, hkb⟩ : ∃ k, Pl.kd b.data.toList = k := ⟨_, rfl⟩
      have HA := Lib.hid (fun w hE => kind_is a ka hka w (by omega) hE)
      have HB := Lib.hid (fun w hE => kind_is b kb hkb w (by omega) hE)
      by_cases za : ka = 0
      · subst za
        clear hka hkb
        go_enter Tryd.func8, Tryd.ntmps8
        go_wp2_with (first
          | (go_at_call 16; refine (HA.out _ HE.out).mono ?_; rintro e w1 ⟨rfl, k1⟩; have HE1 := Lib.hid (HE.out.later k1))
          | (go_at_call 10; refine (awake_any _ HE1.out).mono ?_; rintro e w2 ⟨rfl, k2⟩; have k12 := k1.trans (k2.mono k1.size)))
        go_ret
        exact ⟨rfl, k12⟩
      · have zab : ((ka : Int) == 0) = false := beq_eq_false_iff_ne.2 (by omega)
        by_cases zb : kb = 0
        · subst zb
          clear hka hkb za
          go_enter Tryd.func8, Tryd.ntmps8
          go_wp2_with fail
          refine (HA.out _ HE.out).mono ?_
          rintro e w1 ⟨rfl, k1⟩
          have HE1 := Lib.hid (HE.out.later k1)
          go_wp2_with fail
          refine (HB.out _ HE1.out).mono ?_
          rintro e w2 ⟨rfl, k2⟩
          have HE2 := Lib.hid (HE1.out.later k2)
          have k12 := k1.trans (k2.mono k1.size)
          go_wp2_with (go_at_call 10; refine (awake_any _ HE2.out).mono ?_; rintro e w3 ⟨rfl, k3⟩; have k13 := k12.trans (k3.mono k12.size))
          go_ret
          exact ⟨rfl, k13⟩
        · have zbb : ((kb : Int) == 0) = false := beq_eq_false_iff_ne.2 (by omega)
          have wa := Pl.whole_kd a.data.toList (by rw [hka]; exact za)
          have wbb := Pl.whole_kd b.data.toList (by rw [hkb]; exact zb)
          have hsp := Pl.two_space _ _ _ _ wa wbb
          have e1 : (a ++ ⟨#[32]⟩ ++ b : ByteArray).data.toList = a.data.toList ++ 32 :: b.data.toList := by rw [cat_list, cat_list]; simp
          rw [← e1] at hsp
          have z1 : (a ++ ⟨#[32]⟩ ++ b : ByteArray).size ≤ 65536 := by rw [ByteArray.size_append, ByteArray.size_append]; show a.size + 1 + b.size ≤ _; omega
          have HS := Lib.hid (fun w hE => two_yes (a ++ ⟨#[32]⟩ ++ b) a b w z1 hE hsp)
          have s1 : a.size + (⟨#[32]⟩ : ByteArray).size ≤ 1099511627776 := by show a.size + 1 ≤ _; omega
          have s2 : (a ++ ⟨#[32]⟩ : ByteArray).size + b.size ≤ 1099511627776 := by rw [ByteArray.size_append]; show a.size + 1 + b.size ≤ _; omega
          have s3 : a.size + b.size ≤ 1099511627776 := by omega
          obtain ⟨g, hg⟩ : ∃ g, Pl.glue a.data.toList b.data.toList = g := ⟨_, rfl⟩
          have HG := Lib.hid (fun w => glue_is a b g hg w ha2)
          cases g
          · have hno := Pl.two_none _ _ _ _ wa wbb hg
            rw [← cat_list] at hno
            have z2 : (a ++ b : ByteArray).size ≤ 65536 := by rw [ByteArray.size_append]; omega
            have HN := Lib.hid (fun w hE => two_yes (a ++ b) a b w z2 hE hno)
            clear hka hkb za zb wa wbb hsp e1 z1 hg hno z2
            go_enter Tryd.func8, Tryd.ntmps8
            go_wp2_with fail
            refine (HA.out _ HE.out).mono ?_
            rintro e w1 ⟨rfl, k1⟩
            have HE1 := Lib.hid (HE.out.later k1)
            go_wp2_with fail
            refine (HB.out _ HE1.out).mono ?_
            rintro e w2 ⟨rfl, k2⟩
            have HE2 := Lib.hid (HE1.out.later k2)
            have k12 := k1.trans (k2.mono k1.size)
            go_wp2_with fail
            refine (HS.out _ HE2.out).mono ?_
            rintro e w3 ⟨rfl, k3⟩
            have HE3 := Lib.hid (HE2.out.later k3)
            have k13 := k12.trans (k3.mono k12.size)
            go_wp2_with fail
            refine (HG.out _).mono ?_
            rintro e w' ⟨rfl, rfl⟩
            go_wp2_with fail
            refine (HN.out _ HE3.out).mono ?_
            rintro e w4 ⟨rfl, k4⟩
            have HE4 := Lib.hid (HE3.out.later k4)
            have k14 := k13.trans (k4.mono k13.size)
            go_wp2_with (go_at_call 10; refine (awake_any _ HE4.out).mono ?_; rintro e w5 ⟨rfl, k5⟩; have k15 := k14.trans (k5.mono k14.size))
            go_ret
            exact ⟨rfl, k15⟩
          · clear hka hkb za zb wa wbb hsp e1 z1 hg
            go_enter Tryd.func8, Tryd.ntmps8
            go_wp2_with fail
            refine (HA.out _ HE.out).mono ?_
            rintro e w1 ⟨rfl, k1⟩
            have HE1 := Lib.hid (HE.out.later k1)
            go_wp2_with fail
            refine (HB.out _ HE1.out).mono ?_
            rintro e w2 ⟨rfl, k2⟩
            have HE2 := Lib.hid (HE1.out.later k2)
            have k12 := k1.trans (k2.mono k1.size)
            go_wp2_with fail
            refine (HS.out _ HE2.out).mono ?_
            rintro e w3 ⟨rfl, k3⟩
            have HE3 := Lib.hid (HE2.out.later k3)
            have k13 := k12.trans (k3.mono k12.size)
            go_wp2_with fail
            refine (HG.out _).mono ?_
            rintro e w' ⟨rfl, rfl⟩
            go_wp2_with (go_at_call 10; refine (awake_any _ HE3.out).mono ?_; rintro e w5 ⟨rfl, k5⟩; have k15 := k13.trans (k5.mono k13.size))
            go_ret
            exact ⟨rfl, k15⟩
end Go.Proofs.YtebmmpepniokjaaDoor
