/- The walk of the law GrammarOperators. -/
import Derived.Test.YtmfmlkdojgbhfaaDoorLawKinds
namespace Go.Proofs.YtmfmlkdojgbhfaaDoor
open Go.RowKit
set_option linter.unusedVariables false
set_option linter.unusedSimpArgs false

/-- The two boxes of the law. -/
structure Ops (w : World) (b1 b2 ga gb : Nat) (s z : ByteArray) (V : World) : Prop where
  low : Below w.heap.size w V
  a : At4 V b1 0 24 s (.slice none 0 0) (.slice (some ⟨ga, 0, none⟩) 2 2)
  b : At4 V b2 0 24 z (.slice none 0 0) (.slice (some ⟨gb, 0, none⟩) 2 2)
  ta : IsT V (Pl.bin s Pl.n1 Pl.n2) (sl2 ga)
  tb : IsT V (Pl.bin z Pl.n3 Pl.n4) (sl2 gb)
theorem Ops.later {w V V' : World} {b1 b2 ga gb : Nat} {s z : ByteArray} (h : Ops w b1 b2 ga gb s z V) (hb : Below V.heap.size V V') : Ops w b1 b2 ga gb s z V' :=
  ⟨h.low.trans (hb.mono h.low.size), at4_below h.a hb, at4_below h.b hb, h.ta.later hb, h.tb.later hb⟩
set_option maxHeartbeats 3200000 in
set_option maxRecDepth 100000 in
theorem ops_00 (s z : ByteArray) (w : World) (hT : Tabs w) (hs : s.size ≤ maxLen) (hz : z.size ≤ maxLen) (HL : Hid (0 = Pl.lvo s)) (HM : Hid (0 = Pl.lvo z)) (ca : Pl.chk (Pl.bin s Pl.n1 Pl.n2) = 7) (cb : Pl.chk (Pl.bin z Pl.n3 Pl.n4) = 7) :
    Calls Tryd.prog 9 #[.string s, .string z] w fun e w' => e = .returned (.bool true) ∧ Below w.heap.size w w' := by
  have HT := Lib.hid hT
  have HS := Lib.hid hs
  have HZ := Lib.hid hz
  clear hT hs hz
  go_enter Tryd.func9, Tryd.ntmps9
  go_upto_region 3 with (first
    | (go_at_call 26; (with_reducible refine (number_any ⟨#[49]⟩ _).mono ?_); rintro e w1 ⟨rfl, hb1⟩; have B1 := Lib.hid hb1; clear hb1)
    | (go_at_call 26; (with_reducible refine (number_any ⟨#[50]⟩ _).mono ?_); rintro e w2 ⟨rfl, hb2⟩; have B2 := Lib.hid (B1.out.trans (hb2.mono B1.out.size)); clear hb2)
    | (go_at_call 26; (with_reducible refine (number_any ⟨#[51]⟩ _).mono ?_); rintro e w4 ⟨rfl, hb4⟩; have T4 := Lib.hid ((T3.out.later (box_below _ _)).later hb4); have B4 := Lib.hid (B3.out.trans ((after_call hb4).2.mono B3.out.size)); have X4 := Lib.hid (at4_below X3.out hb4); clear hb4)
    | (go_at_call 26; (with_reducible refine (number_any ⟨#[52]⟩ _).mono ?_); rintro e w5 ⟨rfl, hb5⟩; have T5 := Lib.hid (T4.out.later hb5); have B5 := Lib.hid (B4.out.trans (hb5.mono B4.out.size)); have X5 := Lib.hid (at4_below X4.out hb5); clear hb5)
    | (go_at_call 25; have g9 := T5.out; clear g9; refine (binary_any z Pl.n3 Pl.n4 ⟨none, 0, none, 0⟩ ⟨none, 0, none, 0⟩ _ (num_at ⟨#[51]⟩ _ (by decide)) (num_at ⟨#[52]⟩ _ (by decide)) HZ.out).mono ?_; rintro e w6 ⟨gb, rfl, hb6, T6⟩; have T6a := Lib.hid (T5.out.later hb6); have B6 := Lib.hid (B5.out.trans (hb6.mono B5.out.size)); have X6 := Lib.hid (at4_below X5.out hb6); clear hb6)
    | (go_at_call 25; refine (binary_any s Pl.n1 Pl.n2 ⟨none, 0, none, 0⟩ ⟨none, 0, none, 0⟩ _ (num_at ⟨#[49]⟩ _ (by decide)) (num_at ⟨#[50]⟩ _ (by decide)) HS.out).mono ?_; rintro e w3 ⟨ga, rfl, hb3, T3⟩; have B3 := Lib.hid (B2.out.trans (hb3.mono B2.out.size)); have X3 := Lib.hid (at4_new w3 24 s (.slice none 0 0) (.slice (some ⟨ga, 0, none⟩) 2 2)); clear hb3))
  have HOP : Hid (Ops w w3.heap.size w6.heap.size ga gb s z (w6.alloc (.cells #[.int .i64 24, .string z, .slice none 0 0, .slice (some ⟨gb, 0, none⟩) 2 2] 25))) :=
    Lib.hid ⟨B6.out.trans ((box_below _ _).mono B6.out.size), at4_below X6.out (box_below _ _), at4_new w6 24 z _ _, T6a.out.later (box_below _ _), T6.out.later (box_below _ _)⟩
  obtain ⟨W, hW⟩ : ∃ W, W = w6.alloc (.cells #[.int .i64 24, .string z, .slice none 0 0, .slice (some ⟨gb, 0, none⟩) 2 2] 25) := ⟨_, rfl⟩
  rw [← hW] at HOP ⊢
  generalize w3.heap.size = b1 at *
  generalize w6.heap.size = b2 at *
  clear X3 X4 X5 X6 T3 T4 T5 T6 T6a B1 B2 B3 B4 B5 B6 hW
  have HTW := Lib.hid (HT.out.later HOP.out.low)
  have GA : Hid (∀ wz, Hid (Below W.heap.size W wz) → At4 wz b1 0 24 s (.slice none 0 0) (.slice (some ⟨ga, 0, none⟩) 2 2)) := Lib.hid fun wz hz => at4_below HOP.out.a hz.out
  have GB : Hid (∀ wz, Hid (Below W.heap.size W wz) → At4 wz b2 0 24 z (.slice none 0 0) (.slice (some ⟨gb, 0, none⟩) 2 2)) := Lib.hid fun wz hz => at4_below HOP.out.b hz.out
  have CLA : Hid (Ans W 15 #[.agg #[.int .i64 24, .string s, .slice none 0 0, .slice (some ⟨ga, 0, none⟩) 2 2]] (.int .i64 0)) := Lib.hid (ans_of fun wz hz => level_is 24 s _ (HL.out.symm) 0 2 0 2 none _ wz (HTW.out.later hz))
  have CLB : Hid (Ans W 15 #[.agg #[.int .i64 24, .string z, .slice none 0 0, .slice (some ⟨gb, 0, none⟩) 2 2]] (.int .i64 0)) := Lib.hid (ans_of fun wz hz => level_is 24 z _ (HM.out.symm) 0 2 0 2 none _ wz (HTW.out.later hz))
  have CW : Hid (Ans W 12 #[] (.bool true)) := Lib.hid (ans_of fun wz hz => awake_any wz (HTW.out.later hz))
  have BW : Hid (Below w.heap.size w W) := Lib.hid HOP.out.low
  have W0 : Hid (Below W.heap.size W W) := Lib.hid (Below.refl _ _)
  obtain ⟨e0, e1, e2, e3⟩ := GA.out _ W0
  have CKA : Hid (Pl.chk (Pl.bin s Pl.n1 Pl.n2) = 7 → Ans W 10 #[.agg #[.int .i64 24, .string s, .slice none 0 0, .slice (some ⟨ga, 0, none⟩) 2 2]] (.int .i64 7)) := Lib.hid (fun hc => ans_of fun wz hz => check_is (Pl.bin s Pl.n1 Pl.n2) wz (sl2 ga) 7 hc (HTW.out.later hz) (HOP.out.ta.later hz))
  have CKB : Hid (Pl.chk (Pl.bin z Pl.n3 Pl.n4) = 7 → Ans W 10 #[.agg #[.int .i64 24, .string z, .slice none 0 0, .slice (some ⟨gb, 0, none⟩) 2 2]] (.int .i64 7)) := Lib.hid (fun hc => ans_of fun wz hz => check_is (Pl.bin z Pl.n3 Pl.n4) wz (sl2 gb) 7 hc (HTW.out.later hz) (HOP.out.tb.later hz))
  go_wp2_with (first
    | (go_at_call 15; (with_reducible refine (CLA.out _ (by assumption)).mono ?_); rintro e wa ⟨rfl, ha⟩; obtain ⟨f0, f1, f2, f3⟩ := GB.out _ ha)
    | (go_at_call 15; (with_reducible refine (CLB.out _ (by assumption)).mono ?_); rintro e wb ⟨rfl, hb⟩; obtain ⟨e0, e1, e2, e3⟩ := GA.out _ hb; obtain ⟨f0, f1, f2, f3⟩ := GB.out _ hb)
    | (go_at_call 12; (with_reducible refine (CW.out _ (by assumption)).mono ?_); rintro e wc ⟨rfl, hc⟩)
    | (go_at_call 10; (with_reducible refine (CKA.out (by assumption) _ (by assumption)).mono ?_); rintro e wd ⟨rfl, hd⟩; obtain ⟨f0, f1, f2, f3⟩ := GB.out _ hd)
    | (go_at_call 10; (with_reducible refine (CKB.out (by assumption) _ (by assumption)).mono ?_); rintro e wf ⟨rfl, hf⟩))
  go_ret
  exact ⟨rfl, BW.out.trans (hc.out.mono BW.out.size)⟩
set_option maxHeartbeats 3200000 in
set_option maxRecDepth 100000 in
theorem ops_01 (s z : ByteArray) (m : Int) (w : World) (hT : Tabs w) (hs : s.size ≤ maxLen) (hz : z.size ≤ maxLen) (HL : Hid (0 = Pl.lvo s)) (HM : Hid (m = Pl.lvo z)) (hm : 0 < m) (ca : Pl.chk (Pl.bin s Pl.n1 Pl.n2) = 7) :
    Calls Tryd.prog 9 #[.string s, .string z] w fun e w' => e = .returned (.bool true) ∧ Below w.heap.size w w' := by
  have HT := Lib.hid hT
  have HS := Lib.hid hs
  have HZ := Lib.hid hz
  clear hT hs hz
  go_enter Tryd.func9, Tryd.ntmps9
  go_upto_region 3 with (first
    | (go_at_call 26; (with_reducible refine (number_any ⟨#[49]⟩ _).mono ?_); rintro e w1 ⟨rfl, hb1⟩; have B1 := Lib.hid hb1; clear hb1)
    | (go_at_call 26; (with_reducible refine (number_any ⟨#[50]⟩ _).mono ?_); rintro e w2 ⟨rfl, hb2⟩; have B2 := Lib.hid (B1.out.trans (hb2.mono B1.out.size)); clear hb2)
    | (go_at_call 26; (with_reducible refine (number_any ⟨#[51]⟩ _).mono ?_); rintro e w4 ⟨rfl, hb4⟩; have T4 := Lib.hid ((T3.out.later (box_below _ _)).later hb4); have B4 := Lib.hid (B3.out.trans ((after_call hb4).2.mono B3.out.size)); have X4 := Lib.hid (at4_below X3.out hb4); clear hb4)
    | (go_at_call 26; (with_reducible refine (number_any ⟨#[52]⟩ _).mono ?_); rintro e w5 ⟨rfl, hb5⟩; have T5 := Lib.hid (T4.out.later hb5); have B5 := Lib.hid (B4.out.trans (hb5.mono B4.out.size)); have X5 := Lib.hid (at4_below X4.out hb5); clear hb5)
    | (go_at_call 25; have g9 := T5.out; clear g9; refine (binary_any z Pl.n3 Pl.n4 ⟨none, 0, none, 0⟩ ⟨none, 0, none, 0⟩ _ (num_at ⟨#[51]⟩ _ (by decide)) (num_at ⟨#[52]⟩ _ (by decide)) HZ.out).mono ?_; rintro e w6 ⟨gb, rfl, hb6, T6⟩; have T6a := Lib.hid (T5.out.later hb6); have B6 := Lib.hid (B5.out.trans (hb6.mono B5.out.size)); have X6 := Lib.hid (at4_below X5.out hb6); clear hb6)
    | (go_at_call 25; refine (binary_any s Pl.n1 Pl.n2 ⟨none, 0, none, 0⟩ ⟨none, 0, none, 0⟩ _ (num_at ⟨#[49]⟩ _ (by decide)) (num_at ⟨#[50]⟩ _ (by decide)) HS.out).mono ?_; rintro e w3 ⟨ga, rfl, hb3, T3⟩; have B3 := Lib.hid (B2.out.trans (hb3.mono B2.out.size)); have X3 := Lib.hid (at4_new w3 24 s (.slice none 0 0) (.slice (some ⟨ga, 0, none⟩) 2 2)); clear hb3))
  have HOP : Hid (Ops w w3.heap.size w6.heap.size ga gb s z (w6.alloc (.cells #[.int .i64 24, .string z, .slice none 0 0, .slice (some ⟨gb, 0, none⟩) 2 2] 25))) :=
    Lib.hid ⟨B6.out.trans ((box_below _ _).mono B6.out.size), at4_below X6.out (box_below _ _), at4_new w6 24 z _ _, T6a.out.later (box_below _ _), T6.out.later (box_below _ _)⟩
  obtain ⟨W, hW⟩ : ∃ W, W = w6.alloc (.cells #[.int .i64 24, .string z, .slice none 0 0, .slice (some ⟨gb, 0, none⟩) 2 2] 25) := ⟨_, rfl⟩
  rw [← hW] at HOP ⊢
  generalize w3.heap.size = b1 at *
  generalize w6.heap.size = b2 at *
  clear X3 X4 X5 X6 T3 T4 T5 T6 T6a B1 B2 B3 B4 B5 B6 hW
  have HTW := Lib.hid (HT.out.later HOP.out.low)
  have GA : Hid (∀ wz, Hid (Below W.heap.size W wz) → At4 wz b1 0 24 s (.slice none 0 0) (.slice (some ⟨ga, 0, none⟩) 2 2)) := Lib.hid fun wz hz => at4_below HOP.out.a hz.out
  have GB : Hid (∀ wz, Hid (Below W.heap.size W wz) → At4 wz b2 0 24 z (.slice none 0 0) (.slice (some ⟨gb, 0, none⟩) 2 2)) := Lib.hid fun wz hz => at4_below HOP.out.b hz.out
  have CLA : Hid (Ans W 15 #[.agg #[.int .i64 24, .string s, .slice none 0 0, .slice (some ⟨ga, 0, none⟩) 2 2]] (.int .i64 0)) := Lib.hid (ans_of fun wz hz => level_is 24 s _ (HL.out.symm) 0 2 0 2 none _ wz (HTW.out.later hz))
  have CLB : Hid (Ans W 15 #[.agg #[.int .i64 24, .string z, .slice none 0 0, .slice (some ⟨gb, 0, none⟩) 2 2]] (.int .i64 m)) := Lib.hid (ans_of fun wz hz => level_is 24 z _ (HM.out.symm) 0 2 0 2 none _ wz (HTW.out.later hz))
  have CW : Hid (Ans W 12 #[] (.bool true)) := Lib.hid (ans_of fun wz hz => awake_any wz (HTW.out.later hz))
  have BW : Hid (Below w.heap.size w W) := Lib.hid HOP.out.low
  have W0 : Hid (Below W.heap.size W W) := Lib.hid (Below.refl _ _)
  obtain ⟨e0, e1, e2, e3⟩ := GA.out _ W0
  have CKA : Hid (Pl.chk (Pl.bin s Pl.n1 Pl.n2) = 7 → Ans W 10 #[.agg #[.int .i64 24, .string s, .slice none 0 0, .slice (some ⟨ga, 0, none⟩) 2 2]] (.int .i64 7)) := Lib.hid (fun hc => ans_of fun wz hz => check_is (Pl.bin s Pl.n1 Pl.n2) wz (sl2 ga) 7 hc (HTW.out.later hz) (HOP.out.ta.later hz))
  have CKB : Hid (Pl.chk (Pl.bin z Pl.n3 Pl.n4) = 7 → Ans W 10 #[.agg #[.int .i64 24, .string z, .slice none 0 0, .slice (some ⟨gb, 0, none⟩) 2 2]] (.int .i64 7)) := Lib.hid (fun hc => ans_of fun wz hz => check_is (Pl.bin z Pl.n3 Pl.n4) wz (sl2 gb) 7 hc (HTW.out.later hz) (HOP.out.tb.later hz))
  have d1 : decide (0 < m) = true := decide_eq_true hm
  go_wp2_with (first
    | (go_at_call 15; (with_reducible refine (CLA.out _ (by assumption)).mono ?_); rintro e wa ⟨rfl, ha⟩; obtain ⟨f0, f1, f2, f3⟩ := GB.out _ ha)
    | (go_at_call 15; (with_reducible refine (CLB.out _ (by assumption)).mono ?_); rintro e wb ⟨rfl, hb⟩; obtain ⟨e0, e1, e2, e3⟩ := GA.out _ hb; obtain ⟨f0, f1, f2, f3⟩ := GB.out _ hb)
    | (go_at_call 12; (with_reducible refine (CW.out _ (by assumption)).mono ?_); rintro e wc ⟨rfl, hc⟩)
    | (go_at_call 10; (with_reducible refine (CKA.out (by assumption) _ (by assumption)).mono ?_); rintro e wd ⟨rfl, hd⟩; obtain ⟨f0, f1, f2, f3⟩ := GB.out _ hd)
    | (go_at_call 10; (with_reducible refine (CKB.out (by assumption) _ (by assumption)).mono ?_); rintro e wf ⟨rfl, hf⟩))
  go_ret
  exact ⟨rfl, BW.out.trans (hc.out.mono BW.out.size)⟩
set_option maxHeartbeats 3200000 in
set_option maxRecDepth 100000 in
theorem ops_10 (s z : ByteArray) (l : Int) (w : World) (hT : Tabs w) (hs : s.size ≤ maxLen) (hz : z.size ≤ maxLen) (HL : Hid (l = Pl.lvo s)) (HM : Hid (0 = Pl.lvo z)) (hm : 0 < l) (cb : Pl.chk (Pl.bin z Pl.n3 Pl.n4) = 7) :
    Calls Tryd.prog 9 #[.string s, .string z] w fun e w' => e = .returned (.bool true) ∧ Below w.heap.size w w' := by
  have HT := Lib.hid hT
  have HS := Lib.hid hs
  have HZ := Lib.hid hz
  clear hT hs hz
  go_enter Tryd.func9, Tryd.ntmps9
  go_upto_region 3 with (first
    | (go_at_call 26; (with_reducible refine (number_any ⟨#[49]⟩ _).mono ?_); rintro e w1 ⟨rfl, hb1⟩; have B1 := Lib.hid hb1; clear hb1)
    | (go_at_call 26; (with_reducible refine (number_any ⟨#[50]⟩ _).mono ?_); rintro e w2 ⟨rfl, hb2⟩; have B2 := Lib.hid (B1.out.trans (hb2.mono B1.out.size)); clear hb2)
    | (go_at_call 26; (with_reducible refine (number_any ⟨#[51]⟩ _).mono ?_); rintro e w4 ⟨rfl, hb4⟩; have T4 := Lib.hid ((T3.out.later (box_below _ _)).later hb4); have B4 := Lib.hid (B3.out.trans ((after_call hb4).2.mono B3.out.size)); have X4 := Lib.hid (at4_below X3.out hb4); clear hb4)
    | (go_at_call 26; (with_reducible refine (number_any ⟨#[52]⟩ _).mono ?_); rintro e w5 ⟨rfl, hb5⟩; have T5 := Lib.hid (T4.out.later hb5); have B5 := Lib.hid (B4.out.trans (hb5.mono B4.out.size)); have X5 := Lib.hid (at4_below X4.out hb5); clear hb5)
    | (go_at_call 25; have g9 := T5.out; clear g9; refine (binary_any z Pl.n3 Pl.n4 ⟨none, 0, none, 0⟩ ⟨none, 0, none, 0⟩ _ (num_at ⟨#[51]⟩ _ (by decide)) (num_at ⟨#[52]⟩ _ (by decide)) HZ.out).mono ?_; rintro e w6 ⟨gb, rfl, hb6, T6⟩; have T6a := Lib.hid (T5.out.later hb6); have B6 := Lib.hid (B5.out.trans (hb6.mono B5.out.size)); have X6 := Lib.hid (at4_below X5.out hb6); clear hb6)
    | (go_at_call 25; refine (binary_any s Pl.n1 Pl.n2 ⟨none, 0, none, 0⟩ ⟨none, 0, none, 0⟩ _ (num_at ⟨#[49]⟩ _ (by decide)) (num_at ⟨#[50]⟩ _ (by decide)) HS.out).mono ?_; rintro e w3 ⟨ga, rfl, hb3, T3⟩; have B3 := Lib.hid (B2.out.trans (hb3.mono B2.out.size)); have X3 := Lib.hid (at4_new w3 24 s (.slice none 0 0) (.slice (some ⟨ga, 0, none⟩) 2 2)); clear hb3))
  have HOP : Hid (Ops w w3.heap.size w6.heap.size ga gb s z (w6.alloc (.cells #[.int .i64 24, .string z, .slice none 0 0, .slice (some ⟨gb, 0, none⟩) 2 2] 25))) :=
    Lib.hid ⟨B6.out.trans ((box_below _ _).mono B6.out.size), at4_below X6.out (box_below _ _), at4_new w6 24 z _ _, T6a.out.later (box_below _ _), T6.out.later (box_below _ _)⟩
  obtain ⟨W, hW⟩ : ∃ W, W = w6.alloc (.cells #[.int .i64 24, .string z, .slice none 0 0, .slice (some ⟨gb, 0, none⟩) 2 2] 25) := ⟨_, rfl⟩
  rw [← hW] at HOP ⊢
  generalize w3.heap.size = b1 at *
  generalize w6.heap.size = b2 at *
  clear X3 X4 X5 X6 T3 T4 T5 T6 T6a B1 B2 B3 B4 B5 B6 hW
  have HTW := Lib.hid (HT.out.later HOP.out.low)
  have GA : Hid (∀ wz, Hid (Below W.heap.size W wz) → At4 wz b1 0 24 s (.slice none 0 0) (.slice (some ⟨ga, 0, none⟩) 2 2)) := Lib.hid fun wz hz => at4_below HOP.out.a hz.out
  have GB : Hid (∀ wz, Hid (Below W.heap.size W wz) → At4 wz b2 0 24 z (.slice none 0 0) (.slice (some ⟨gb, 0, none⟩) 2 2)) := Lib.hid fun wz hz => at4_below HOP.out.b hz.out
  have CLA : Hid (Ans W 15 #[.agg #[.int .i64 24, .string s, .slice none 0 0, .slice (some ⟨ga, 0, none⟩) 2 2]] (.int .i64 l)) := Lib.hid (ans_of fun wz hz => level_is 24 s _ (HL.out.symm) 0 2 0 2 none _ wz (HTW.out.later hz))
  have CLB : Hid (Ans W 15 #[.agg #[.int .i64 24, .string z, .slice none 0 0, .slice (some ⟨gb, 0, none⟩) 2 2]] (.int .i64 0)) := Lib.hid (ans_of fun wz hz => level_is 24 z _ (HM.out.symm) 0 2 0 2 none _ wz (HTW.out.later hz))
  have CW : Hid (Ans W 12 #[] (.bool true)) := Lib.hid (ans_of fun wz hz => awake_any wz (HTW.out.later hz))
  have BW : Hid (Below w.heap.size w W) := Lib.hid HOP.out.low
  have W0 : Hid (Below W.heap.size W W) := Lib.hid (Below.refl _ _)
  obtain ⟨e0, e1, e2, e3⟩ := GA.out _ W0
  have CKA : Hid (Pl.chk (Pl.bin s Pl.n1 Pl.n2) = 7 → Ans W 10 #[.agg #[.int .i64 24, .string s, .slice none 0 0, .slice (some ⟨ga, 0, none⟩) 2 2]] (.int .i64 7)) := Lib.hid (fun hc => ans_of fun wz hz => check_is (Pl.bin s Pl.n1 Pl.n2) wz (sl2 ga) 7 hc (HTW.out.later hz) (HOP.out.ta.later hz))
  have CKB : Hid (Pl.chk (Pl.bin z Pl.n3 Pl.n4) = 7 → Ans W 10 #[.agg #[.int .i64 24, .string z, .slice none 0 0, .slice (some ⟨gb, 0, none⟩) 2 2]] (.int .i64 7)) := Lib.hid (fun hc => ans_of fun wz hz => check_is (Pl.bin z Pl.n3 Pl.n4) wz (sl2 gb) 7 hc (HTW.out.later hz) (HOP.out.tb.later hz))
  have d1 : decide (0 < l) = true := decide_eq_true hm
  have d2 : (l == 0) = false := beq_eq_false_iff_ne.2 (by omega)
  go_wp2_with (first
    | (go_at_call 15; (with_reducible refine (CLA.out _ (by assumption)).mono ?_); rintro e wa ⟨rfl, ha⟩; obtain ⟨f0, f1, f2, f3⟩ := GB.out _ ha)
    | (go_at_call 15; (with_reducible refine (CLB.out _ (by assumption)).mono ?_); rintro e wb ⟨rfl, hb⟩; obtain ⟨e0, e1, e2, e3⟩ := GA.out _ hb; obtain ⟨f0, f1, f2, f3⟩ := GB.out _ hb)
    | (go_at_call 12; (with_reducible refine (CW.out _ (by assumption)).mono ?_); rintro e wc ⟨rfl, hc⟩)
    | (go_at_call 10; (with_reducible refine (CKA.out (by assumption) _ (by assumption)).mono ?_); rintro e wd ⟨rfl, hd⟩; obtain ⟨f0, f1, f2, f3⟩ := GB.out _ hd)
    | (go_at_call 10; (with_reducible refine (CKB.out (by assumption) _ (by assumption)).mono ?_); rintro e wf ⟨rfl, hf⟩))
  go_ret
  exact ⟨rfl, BW.out.trans (hc.out.mono BW.out.size)⟩
set_option maxHeartbeats 3200000 in
set_option maxRecDepth 100000 in
theorem ops_lt (s z : ByteArray) (l m : Int) (w : World) (hT : Tabs w) (hs : s.size ≤ maxLen) (hz : z.size ≤ maxLen) (HL : Hid (l = Pl.lvo s)) (HM : Hid (m = Pl.lvo z)) (hl : 0 < l) (hlm : l < m) (HV7 : Hid (Pl.chk (Pl.bin s Pl.n1 (Pl.bin z Pl.n3 Pl.n4)) = 0)) (HV8 : Hid (Pl.chk (Pl.bin s (Pl.bin z Pl.n3 Pl.n4) Pl.n1) = 0)) :
    Calls Tryd.prog 9 #[.string s, .string z] w fun e w' => e = .returned (.bool true) ∧ Below w.heap.size w w' := by
  have HT := Lib.hid hT
  have HS := Lib.hid hs
  have HZ := Lib.hid hz
  clear hT hs hz
  go_enter Tryd.func9, Tryd.ntmps9
  go_upto_region 3 with (first
    | (go_at_call 26; (with_reducible refine (number_any ⟨#[49]⟩ _).mono ?_); rintro e w1 ⟨rfl, hb1⟩; have B1 := Lib.hid hb1; clear hb1)
    | (go_at_call 26; (with_reducible refine (number_any ⟨#[50]⟩ _).mono ?_); rintro e w2 ⟨rfl, hb2⟩; have B2 := Lib.hid (B1.out.trans (hb2.mono B1.out.size)); clear hb2)
    | (go_at_call 26; (with_reducible refine (number_any ⟨#[51]⟩ _).mono ?_); rintro e w4 ⟨rfl, hb4⟩; have T4 := Lib.hid ((T3.out.later (box_below _ _)).later hb4); have B4 := Lib.hid (B3.out.trans ((after_call hb4).2.mono B3.out.size)); have X4 := Lib.hid (at4_below X3.out hb4); clear hb4)
    | (go_at_call 26; (with_reducible refine (number_any ⟨#[52]⟩ _).mono ?_); rintro e w5 ⟨rfl, hb5⟩; have T5 := Lib.hid (T4.out.later hb5); have B5 := Lib.hid (B4.out.trans (hb5.mono B4.out.size)); have X5 := Lib.hid (at4_below X4.out hb5); clear hb5)
    | (go_at_call 25; have g9 := T5.out; clear g9; refine (binary_any z Pl.n3 Pl.n4 ⟨none, 0, none, 0⟩ ⟨none, 0, none, 0⟩ _ (num_at ⟨#[51]⟩ _ (by decide)) (num_at ⟨#[52]⟩ _ (by decide)) HZ.out).mono ?_; rintro e w6 ⟨gb, rfl, hb6, T6⟩; have T6a := Lib.hid (T5.out.later hb6); have B6 := Lib.hid (B5.out.trans (hb6.mono B5.out.size)); have X6 := Lib.hid (at4_below X5.out hb6); clear hb6)
    | (go_at_call 25; refine (binary_any s Pl.n1 Pl.n2 ⟨none, 0, none, 0⟩ ⟨none, 0, none, 0⟩ _ (num_at ⟨#[49]⟩ _ (by decide)) (num_at ⟨#[50]⟩ _ (by decide)) HS.out).mono ?_; rintro e w3 ⟨ga, rfl, hb3, T3⟩; have B3 := Lib.hid (B2.out.trans (hb3.mono B2.out.size)); have X3 := Lib.hid (at4_new w3 24 s (.slice none 0 0) (.slice (some ⟨ga, 0, none⟩) 2 2)); clear hb3))
  have HOP : Hid (Ops w w3.heap.size w6.heap.size ga gb s z (w6.alloc (.cells #[.int .i64 24, .string z, .slice none 0 0, .slice (some ⟨gb, 0, none⟩) 2 2] 25))) :=
    Lib.hid ⟨B6.out.trans ((box_below _ _).mono B6.out.size), at4_below X6.out (box_below _ _), at4_new w6 24 z _ _, T6a.out.later (box_below _ _), T6.out.later (box_below _ _)⟩
  obtain ⟨W, hW⟩ : ∃ W, W = w6.alloc (.cells #[.int .i64 24, .string z, .slice none 0 0, .slice (some ⟨gb, 0, none⟩) 2 2] 25) := ⟨_, rfl⟩
  rw [← hW] at HOP ⊢
  generalize w3.heap.size = b1 at *
  generalize w6.heap.size = b2 at *
  clear X3 X4 X5 X6 T3 T4 T5 T6 T6a B1 B2 B3 B4 B5 B6 hW
  have HTW := Lib.hid (HT.out.later HOP.out.low)
  have GA : Hid (∀ wz, Hid (Below W.heap.size W wz) → At4 wz b1 0 24 s (.slice none 0 0) (.slice (some ⟨ga, 0, none⟩) 2 2)) := Lib.hid fun wz hz => at4_below HOP.out.a hz.out
  have GB : Hid (∀ wz, Hid (Below W.heap.size W wz) → At4 wz b2 0 24 z (.slice none 0 0) (.slice (some ⟨gb, 0, none⟩) 2 2)) := Lib.hid fun wz hz => at4_below HOP.out.b hz.out
  have CLA : Hid (Ans W 15 #[.agg #[.int .i64 24, .string s, .slice none 0 0, .slice (some ⟨ga, 0, none⟩) 2 2]] (.int .i64 l)) := Lib.hid (ans_of fun wz hz => level_is 24 s _ (HL.out.symm) 0 2 0 2 none _ wz (HTW.out.later hz))
  have CLB : Hid (Ans W 15 #[.agg #[.int .i64 24, .string z, .slice none 0 0, .slice (some ⟨gb, 0, none⟩) 2 2]] (.int .i64 m)) := Lib.hid (ans_of fun wz hz => level_is 24 z _ (HM.out.symm) 0 2 0 2 none _ wz (HTW.out.later hz))
  have CW : Hid (Ans W 12 #[] (.bool true)) := Lib.hid (ans_of fun wz hz => awake_any wz (HTW.out.later hz))
  have BW : Hid (Below w.heap.size w W) := Lib.hid HOP.out.low
  have W0 : Hid (Below W.heap.size W W) := Lib.hid (Below.refl _ _)
  obtain ⟨e0, e1, e2, e3⟩ := GA.out _ W0
  have d1 : (l == 0) = false := beq_eq_false_iff_ne.2 (by omega)
  have d2 : (m == 0) = false := beq_eq_false_iff_ne.2 (by omega)
  have d3 : decide (l < m) = true := decide_eq_true hlm
  go_upto_region 7 with (first
    | (go_at_call 15; (with_reducible refine (CLA.out _ (by assumption)).mono ?_); rintro e wa ⟨rfl, ha⟩; obtain ⟨f0, f1, f2, f3⟩ := GB.out _ ha)
    | (go_at_call 15; (with_reducible refine (CLB.out _ (by assumption)).mono ?_); rintro e wb ⟨rfl, hb⟩; obtain ⟨e0, e1, e2, e3⟩ := GA.out _ hb; obtain ⟨f0, f1, f2, f3⟩ := GB.out _ hb)
    | (go_at_call 12; (with_reducible refine (CW.out _ (by assumption)).mono ?_); rintro e wc ⟨rfl, hc⟩))
  have O7 := Lib.hid (HOP.out.later hb.out)
  have HB7 : b2 < wb.heap.size := O7.out.b.lt
  obtain ⟨c0, c1, c2, c3⟩ := O7.out.b
  have HDR7 : Hid (∀ (wx : World) (f : Nat), wx.drew.cell? ⟨b2, f, none⟩ = wx.cell? ⟨b2, f, none⟩) := Lib.hid fun _ _ => rfl
  go_region_held3 (fun w' => ∀ f : Nat, w'.cell? ⟨b2, f, none⟩ = wb.cell? ⟨b2, f, none⟩)
    ((intro f
      iterate 3 (first
        | (with_reducible exact rfl)
        | (with_reducible exact HQC7.out f)
        | (with_reducible exact HQB7.out f)
        | (with_reducible exact HQA7.out f)
        | (with_reducible refine (HDR7.out _ _).trans ?_)
        | skip)))
    ((first
      | (go_at_call 26; refine (number_any ⟨#[49]⟩ wb.drew).mono ?_; rintro e wn7 ⟨rfl, hbn⟩;
         have hL : Below wb.heap.size wb wn7 := ((Below.refl wb.heap.size wb).drew).trans hbn;
         have HQA7 : Hid (∀ f : Nat, wn7.cell? ⟨b2, f, none⟩ = wb.cell? ⟨b2, f, none⟩) := Lib.hid (fun f => hL.cell (p := ⟨b2, f, none⟩) HB7);
         have LA7 := Lib.hid hL; have TB7 := Lib.hid (O7.out.tb.later hL); clear hbn hL)
      | (go_at_call 25; refine (binary_any s Pl.n1 (Pl.bin z Pl.n3 Pl.n4) ⟨none, 0, none, 0⟩ (sl2 gb) wn7 (num_at ⟨#[49]⟩ _ (by decide)) (TB7.out) HS.out).mono ?_; rintro e wm7 ⟨gx7, rfl, hbn, TX7⟩;
         have hL := LA7.out.trans (hbn.mono LA7.out.size);
         have HQB7 : Hid (∀ f : Nat, wm7.cell? ⟨b2, f, none⟩ = wb.cell? ⟨b2, f, none⟩) := Lib.hid (fun f => hL.cell (p := ⟨b2, f, none⟩) HB7);
         have LB7 := Lib.hid hL; clear hbn hL)
      | (go_at_call 10; refine (check_is (Pl.bin s Pl.n1 (Pl.bin z Pl.n3 Pl.n4)) wm7 (sl2 gx7) 0 HV7.out ((HTW.out.later hb.out).later LB7.out) TX7.out).mono ?_; rintro e wo7 ⟨rfl, hbn⟩;
         have hL := LB7.out.trans (hbn.mono LB7.out.size);
         have HQC7 : Hid (∀ f : Nat, wo7.cell? ⟨b2, f, none⟩ = wb.cell? ⟨b2, f, none⟩) := Lib.hid (fun f => hL.cell (p := ⟨b2, f, none⟩) HB7);
         have LC7 := Lib.hid (hb.out.trans (hL.mono hb.out.size)); clear hbn hL)))
  clear c0 c1 c2 c3
  go_upto_region 8 with fail
  have O8 := Lib.hid (HOP.out.later LC7.out)
  have HB8 : b2 < wo7.heap.size := O8.out.b.lt
  obtain ⟨c0, c1, c2, c3⟩ := O8.out.b
  have HDR8 : Hid (∀ (wx : World) (f : Nat), wx.drew.cell? ⟨b2, f, none⟩ = wx.cell? ⟨b2, f, none⟩) := Lib.hid fun _ _ => rfl
  go_region_held3 (fun w' => ∀ f : Nat, w'.cell? ⟨b2, f, none⟩ = wo7.cell? ⟨b2, f, none⟩)
    ((intro f
      iterate 3 (first
        | (with_reducible exact rfl)
        | (with_reducible exact HQC8.out f)
        | (with_reducible exact HQB8.out f)
        | (with_reducible exact HQA8.out f)
        | (with_reducible refine (HDR8.out _ _).trans ?_)
        | skip)))
    ((first
      | (go_at_call 26; refine (number_any ⟨#[49]⟩ wo7.drew).mono ?_; rintro e wn8 ⟨rfl, hbn⟩;
         have hL : Below wo7.heap.size wo7 wn8 := ((Below.refl wo7.heap.size wo7).drew).trans hbn;
         have HQA8 : Hid (∀ f : Nat, wn8.cell? ⟨b2, f, none⟩ = wo7.cell? ⟨b2, f, none⟩) := Lib.hid (fun f => hL.cell (p := ⟨b2, f, none⟩) HB8);
         have LA8 := Lib.hid hL; have TB8 := Lib.hid (O8.out.tb.later hL); clear hbn hL)
      | (go_at_call 25; refine (binary_any s (Pl.bin z Pl.n3 Pl.n4) Pl.n1 (sl2 gb) ⟨none, 0, none, 0⟩ wn8 (TB8.out) (num_at ⟨#[49]⟩ _ (by decide)) HS.out).mono ?_; rintro e wm8 ⟨gx8, rfl, hbn, TX8⟩;
         have hL := LA8.out.trans (hbn.mono LA8.out.size);
         have HQB8 : Hid (∀ f : Nat, wm8.cell? ⟨b2, f, none⟩ = wo7.cell? ⟨b2, f, none⟩) := Lib.hid (fun f => hL.cell (p := ⟨b2, f, none⟩) HB8);
         have LB8 := Lib.hid hL; clear hbn hL)
      | (go_at_call 10; refine (check_is (Pl.bin s (Pl.bin z Pl.n3 Pl.n4) Pl.n1) wm8 (sl2 gx8) 0 HV8.out ((HTW.out.later LC7.out).later LB8.out) TX8.out).mono ?_; rintro e wo8 ⟨rfl, hbn⟩;
         have hL := LB8.out.trans (hbn.mono LB8.out.size);
         have HQC8 : Hid (∀ f : Nat, wo8.cell? ⟨b2, f, none⟩ = wo7.cell? ⟨b2, f, none⟩) := Lib.hid (fun f => hL.cell (p := ⟨b2, f, none⟩) HB8);
         have LC8 := Lib.hid (LC7.out.trans (hL.mono LC7.out.size)); clear hbn hL)))
  clear c0 c1 c2 c3
  go_wp2_with (go_at_call 12; refine (CW.out _ LC8).mono ?_; rintro e wc ⟨rfl, hc⟩)
  go_ret
  exact ⟨rfl, BW.out.trans (hc.out.mono BW.out.size)⟩
set_option maxHeartbeats 3200000 in
set_option maxRecDepth 100000 in
theorem ops_gt (s z : ByteArray) (l m : Int) (w : World) (hT : Tabs w) (hs : s.size ≤ maxLen) (hz : z.size ≤ maxLen) (HL : Hid (l = Pl.lvo s)) (HM : Hid (m = Pl.lvo z)) (hm : 0 < m) (hlm : m < l) (HV7 : Hid (Pl.chk (Pl.bin s Pl.n1 (Pl.bin z Pl.n3 Pl.n4)) = 7)) (HV8 : Hid (Pl.chk (Pl.bin s (Pl.bin z Pl.n3 Pl.n4) Pl.n1) = 7)) :
    Calls Tryd.prog 9 #[.string s, .string z] w fun e w' => e = .returned (.bool true) ∧ Below w.heap.size w w' := by
  have HT := Lib.hid hT
  have HS := Lib.hid hs
  have HZ := Lib.hid hz
  clear hT hs hz
  go_enter Tryd.func9, Tryd.ntmps9
  go_upto_region 3 with (first
    | (go_at_call 26; (with_reducible refine (number_any ⟨#[49]⟩ _).mono ?_); rintro e w1 ⟨rfl, hb1⟩; have B1 := Lib.hid hb1; clear hb1)
    | (go_at_call 26; (with_reducible refine (number_any ⟨#[50]⟩ _).mono ?_); rintro e w2 ⟨rfl, hb2⟩; have B2 := Lib.hid (B1.out.trans (hb2.mono B1.out.size)); clear hb2)
    | (go_at_call 26; (with_reducible refine (number_any ⟨#[51]⟩ _).mono ?_); rintro e w4 ⟨rfl, hb4⟩; have T4 := Lib.hid ((T3.out.later (box_below _ _)).later hb4); have B4 := Lib.hid (B3.out.trans ((after_call hb4).2.mono B3.out.size)); have X4 := Lib.hid (at4_below X3.out hb4); clear hb4)
    | (go_at_call 26; (with_reducible refine (number_any ⟨#[52]⟩ _).mono ?_); rintro e w5 ⟨rfl, hb5⟩; have T5 := Lib.hid (T4.out.later hb5); have B5 := Lib.hid (B4.out.trans (hb5.mono B4.out.size)); have X5 := Lib.hid (at4_below X4.out hb5); clear hb5)
    | (go_at_call 25; have g9 := T5.out; clear g9; refine (binary_any z Pl.n3 Pl.n4 ⟨none, 0, none, 0⟩ ⟨none, 0, none, 0⟩ _ (num_at ⟨#[51]⟩ _ (by decide)) (num_at ⟨#[52]⟩ _ (by decide)) HZ.out).mono ?_; rintro e w6 ⟨gb, rfl, hb6, T6⟩; have T6a := Lib.hid (T5.out.later hb6); have B6 := Lib.hid (B5.out.trans (hb6.mono B5.out.size)); have X6 := Lib.hid (at4_below X5.out hb6); clear hb6)
    | (go_at_call 25; refine (binary_any s Pl.n1 Pl.n2 ⟨none, 0, none, 0⟩ ⟨none, 0, none, 0⟩ _ (num_at ⟨#[49]⟩ _ (by decide)) (num_at ⟨#[50]⟩ _ (by decide)) HS.out).mono ?_; rintro e w3 ⟨ga, rfl, hb3, T3⟩; have B3 := Lib.hid (B2.out.trans (hb3.mono B2.out.size)); have X3 := Lib.hid (at4_new w3 24 s (.slice none 0 0) (.slice (some ⟨ga, 0, none⟩) 2 2)); clear hb3))
  have HOP : Hid (Ops w w3.heap.size w6.heap.size ga gb s z (w6.alloc (.cells #[.int .i64 24, .string z, .slice none 0 0, .slice (some ⟨gb, 0, none⟩) 2 2] 25))) :=
    Lib.hid ⟨B6.out.trans ((box_below _ _).mono B6.out.size), at4_below X6.out (box_below _ _), at4_new w6 24 z _ _, T6a.out.later (box_below _ _), T6.out.later (box_below _ _)⟩
  obtain ⟨W, hW⟩ : ∃ W, W = w6.alloc (.cells #[.int .i64 24, .string z, .slice none 0 0, .slice (some ⟨gb, 0, none⟩) 2 2] 25) := ⟨_, rfl⟩
  rw [← hW] at HOP ⊢
  generalize w3.heap.size = b1 at *
  generalize w6.heap.size = b2 at *
  clear X3 X4 X5 X6 T3 T4 T5 T6 T6a B1 B2 B3 B4 B5 B6 hW
  have HTW := Lib.hid (HT.out.later HOP.out.low)
  have GA : Hid (∀ wz, Hid (Below W.heap.size W wz) → At4 wz b1 0 24 s (.slice none 0 0) (.slice (some ⟨ga, 0, none⟩) 2 2)) := Lib.hid fun wz hz => at4_below HOP.out.a hz.out
  have GB : Hid (∀ wz, Hid (Below W.heap.size W wz) → At4 wz b2 0 24 z (.slice none 0 0) (.slice (some ⟨gb, 0, none⟩) 2 2)) := Lib.hid fun wz hz => at4_below HOP.out.b hz.out
  have CLA : Hid (Ans W 15 #[.agg #[.int .i64 24, .string s, .slice none 0 0, .slice (some ⟨ga, 0, none⟩) 2 2]] (.int .i64 l)) := Lib.hid (ans_of fun wz hz => level_is 24 s _ (HL.out.symm) 0 2 0 2 none _ wz (HTW.out.later hz))
  have CLB : Hid (Ans W 15 #[.agg #[.int .i64 24, .string z, .slice none 0 0, .slice (some ⟨gb, 0, none⟩) 2 2]] (.int .i64 m)) := Lib.hid (ans_of fun wz hz => level_is 24 z _ (HM.out.symm) 0 2 0 2 none _ wz (HTW.out.later hz))
  have CW : Hid (Ans W 12 #[] (.bool true)) := Lib.hid (ans_of fun wz hz => awake_any wz (HTW.out.later hz))
  have BW : Hid (Below w.heap.size w W) := Lib.hid HOP.out.low
  have W0 : Hid (Below W.heap.size W W) := Lib.hid (Below.refl _ _)
  obtain ⟨e0, e1, e2, e3⟩ := GA.out _ W0
  have d1 : (l == 0) = false := beq_eq_false_iff_ne.2 (by omega)
  have d2 : (m == 0) = false := beq_eq_false_iff_ne.2 (by omega)
  have d3 : decide (l < m) = false := decide_eq_false (by omega)
  have d4 : (m == l) = false := beq_eq_false_iff_ne.2 (by omega)
  go_upto_region 7 with (first
    | (go_at_call 15; (with_reducible refine (CLA.out _ (by assumption)).mono ?_); rintro e wa ⟨rfl, ha⟩; obtain ⟨f0, f1, f2, f3⟩ := GB.out _ ha)
    | (go_at_call 15; (with_reducible refine (CLB.out _ (by assumption)).mono ?_); rintro e wb ⟨rfl, hb⟩; obtain ⟨e0, e1, e2, e3⟩ := GA.out _ hb; obtain ⟨f0, f1, f2, f3⟩ := GB.out _ hb)
    | (go_at_call 12; (with_reducible refine (CW.out _ (by assumption)).mono ?_); rintro e wc ⟨rfl, hc⟩))
  have O7 := Lib.hid (HOP.out.later hb.out)
  have HB7 : b2 < wb.heap.size := O7.out.b.lt
  obtain ⟨c0, c1, c2, c3⟩ := O7.out.b
  have HDR7 : Hid (∀ (wx : World) (f : Nat), wx.drew.cell? ⟨b2, f, none⟩ = wx.cell? ⟨b2, f, none⟩) := Lib.hid fun _ _ => rfl
  go_region_held3 (fun w' => ∀ f : Nat, w'.cell? ⟨b2, f, none⟩ = wb.cell? ⟨b2, f, none⟩)
    ((intro f
      iterate 3 (first
        | (with_reducible exact rfl)
        | (with_reducible exact HQC7.out f)
        | (with_reducible exact HQB7.out f)
        | (with_reducible exact HQA7.out f)
        | (with_reducible refine (HDR7.out _ _).trans ?_)
        | skip)))
    ((first
      | (go_at_call 26; refine (number_any ⟨#[49]⟩ wb.drew).mono ?_; rintro e wn7 ⟨rfl, hbn⟩;
         have hL : Below wb.heap.size wb wn7 := ((Below.refl wb.heap.size wb).drew).trans hbn;
         have HQA7 : Hid (∀ f : Nat, wn7.cell? ⟨b2, f, none⟩ = wb.cell? ⟨b2, f, none⟩) := Lib.hid (fun f => hL.cell (p := ⟨b2, f, none⟩) HB7);
         have LA7 := Lib.hid hL; have TB7 := Lib.hid (O7.out.tb.later hL); clear hbn hL)
      | (go_at_call 25; refine (binary_any s Pl.n1 (Pl.bin z Pl.n3 Pl.n4) ⟨none, 0, none, 0⟩ (sl2 gb) wn7 (num_at ⟨#[49]⟩ _ (by decide)) (TB7.out) HS.out).mono ?_; rintro e wm7 ⟨gx7, rfl, hbn, TX7⟩;
         have hL := LA7.out.trans (hbn.mono LA7.out.size);
         have HQB7 : Hid (∀ f : Nat, wm7.cell? ⟨b2, f, none⟩ = wb.cell? ⟨b2, f, none⟩) := Lib.hid (fun f => hL.cell (p := ⟨b2, f, none⟩) HB7);
         have LB7 := Lib.hid hL; clear hbn hL)
      | (go_at_call 10; refine (check_is (Pl.bin s Pl.n1 (Pl.bin z Pl.n3 Pl.n4)) wm7 (sl2 gx7) 7 HV7.out ((HTW.out.later hb.out).later LB7.out) TX7.out).mono ?_; rintro e wo7 ⟨rfl, hbn⟩;
         have hL := LB7.out.trans (hbn.mono LB7.out.size);
         have HQC7 : Hid (∀ f : Nat, wo7.cell? ⟨b2, f, none⟩ = wb.cell? ⟨b2, f, none⟩) := Lib.hid (fun f => hL.cell (p := ⟨b2, f, none⟩) HB7);
         have LC7 := Lib.hid (hb.out.trans (hL.mono hb.out.size)); clear hbn hL)))
  clear c0 c1 c2 c3
  go_upto_region 8 with fail
  have O8 := Lib.hid (HOP.out.later LC7.out)
  have HB8 : b2 < wo7.heap.size := O8.out.b.lt
  obtain ⟨c0, c1, c2, c3⟩ := O8.out.b
  have HDR8 : Hid (∀ (wx : World) (f : Nat), wx.drew.cell? ⟨b2, f, none⟩ = wx.cell? ⟨b2, f, none⟩) := Lib.hid fun _ _ => rfl
  go_region_held3 (fun w' => ∀ f : Nat, w'.cell? ⟨b2, f, none⟩ = wo7.cell? ⟨b2, f, none⟩)
    ((intro f
      iterate 3 (first
        | (with_reducible exact rfl)
        | (with_reducible exact HQC8.out f)
        | (with_reducible exact HQB8.out f)
        | (with_reducible exact HQA8.out f)
        | (with_reducible refine (HDR8.out _ _).trans ?_)
        | skip)))
    ((first
      | (go_at_call 26; refine (number_any ⟨#[49]⟩ wo7.drew).mono ?_; rintro e wn8 ⟨rfl, hbn⟩;
         have hL : Below wo7.heap.size wo7 wn8 := ((Below.refl wo7.heap.size wo7).drew).trans hbn;
         have HQA8 : Hid (∀ f : Nat, wn8.cell? ⟨b2, f, none⟩ = wo7.cell? ⟨b2, f, none⟩) := Lib.hid (fun f => hL.cell (p := ⟨b2, f, none⟩) HB8);
         have LA8 := Lib.hid hL; have TB8 := Lib.hid (O8.out.tb.later hL); clear hbn hL)
      | (go_at_call 25; refine (binary_any s (Pl.bin z Pl.n3 Pl.n4) Pl.n1 (sl2 gb) ⟨none, 0, none, 0⟩ wn8 (TB8.out) (num_at ⟨#[49]⟩ _ (by decide)) HS.out).mono ?_; rintro e wm8 ⟨gx8, rfl, hbn, TX8⟩;
         have hL := LA8.out.trans (hbn.mono LA8.out.size);
         have HQB8 : Hid (∀ f : Nat, wm8.cell? ⟨b2, f, none⟩ = wo7.cell? ⟨b2, f, none⟩) := Lib.hid (fun f => hL.cell (p := ⟨b2, f, none⟩) HB8);
         have LB8 := Lib.hid hL; clear hbn hL)
      | (go_at_call 10; refine (check_is (Pl.bin s (Pl.bin z Pl.n3 Pl.n4) Pl.n1) wm8 (sl2 gx8) 7 HV8.out ((HTW.out.later LC7.out).later LB8.out) TX8.out).mono ?_; rintro e wo8 ⟨rfl, hbn⟩;
         have hL := LB8.out.trans (hbn.mono LB8.out.size);
         have HQC8 : Hid (∀ f : Nat, wo8.cell? ⟨b2, f, none⟩ = wo7.cell? ⟨b2, f, none⟩) := Lib.hid (fun f => hL.cell (p := ⟨b2, f, none⟩) HB8);
         have LC8 := Lib.hid (LC7.out.trans (hL.mono LC7.out.size)); clear hbn hL)))
  clear c0 c1 c2 c3
  go_wp2_with (go_at_call 12; refine (CW.out _ LC8).mono ?_; rintro e wc ⟨rfl, hc⟩)
  go_ret
  exact ⟨rfl, BW.out.trans (hc.out.mono BW.out.size)⟩
set_option maxHeartbeats 3200000 in
set_option maxRecDepth 100000 in
theorem ops_33 (s z : ByteArray) (w : World) (hT : Tabs w) (hs : s.size ≤ maxLen) (hz : z.size ≤ maxLen) (HL : Hid (3 = Pl.lvo s)) (HM : Hid (3 = Pl.lvo z)) (HV7 : Hid (Pl.chk (Pl.bin s Pl.n1 (Pl.bin z Pl.n3 Pl.n4)) = 7)) (HV8 : Hid (Pl.chk (Pl.bin s (Pl.bin z Pl.n3 Pl.n4) Pl.n1) = 7)) :
    Calls Tryd.prog 9 #[.string s, .string z] w fun e w' => e = .returned (.bool true) ∧ Below w.heap.size w w' := by
  have HT := Lib.hid hT
  have HS := Lib.hid hs
  have HZ := Lib.hid hz
  clear hT hs hz
  go_enter Tryd.func9, Tryd.ntmps9
  go_upto_region 3 with (first
    | (go_at_call 26; (with_reducible refine (number_any ⟨#[49]⟩ _).mono ?_); rintro e w1 ⟨rfl, hb1⟩; have B1 := Lib.hid hb1; clear hb1)
    | (go_at_call 26; (with_reducible refine (number_any ⟨#[50]⟩ _).mono ?_); rintro e w2 ⟨rfl, hb2⟩; have B2 := Lib.hid (B1.out.trans (hb2.mono B1.out.size)); clear hb2)
    | (go_at_call 26; (with_reducible refine (number_any ⟨#[51]⟩ _).mono ?_); rintro e w4 ⟨rfl, hb4⟩; have T4 := Lib.hid ((T3.out.later (box_below _ _)).later hb4); have B4 := Lib.hid (B3.out.trans ((after_call hb4).2.mono B3.out.size)); have X4 := Lib.hid (at4_below X3.out hb4); clear hb4)
    | (go_at_call 26; (with_reducible refine (number_any ⟨#[52]⟩ _).mono ?_); rintro e w5 ⟨rfl, hb5⟩; have T5 := Lib.hid (T4.out.later hb5); have B5 := Lib.hid (B4.out.trans (hb5.mono B4.out.size)); have X5 := Lib.hid (at4_below X4.out hb5); clear hb5)
    | (go_at_call 25; have g9 := T5.out; clear g9; refine (binary_any z Pl.n3 Pl.n4 ⟨none, 0, none, 0⟩ ⟨none, 0, none, 0⟩ _ (num_at ⟨#[51]⟩ _ (by decide)) (num_at ⟨#[52]⟩ _ (by decide)) HZ.out).mono ?_; rintro e w6 ⟨gb, rfl, hb6, T6⟩; have T6a := Lib.hid (T5.out.later hb6); have B6 := Lib.hid (B5.out.trans (hb6.mono B5.out.size)); have X6 := Lib.hid (at4_below X5.out hb6); clear hb6)
    | (go_at_call 25; refine (binary_any s Pl.n1 Pl.n2 ⟨none, 0, none, 0⟩ ⟨none, 0, none, 0⟩ _ (num_at ⟨#[49]⟩ _ (by decide)) (num_at ⟨#[50]⟩ _ (by decide)) HS.out).mono ?_; rintro e w3 ⟨ga, rfl, hb3, T3⟩; have B3 := Lib.hid (B2.out.trans (hb3.mono B2.out.size)); have X3 := Lib.hid (at4_new w3 24 s (.slice none 0 0) (.slice (some ⟨ga, 0, none⟩) 2 2)); clear hb3))
  have HOP : Hid (Ops w w3.heap.size w6.heap.size ga gb s z (w6.alloc (.cells #[.int .i64 24, .string z, .slice none 0 0, .slice (some ⟨gb, 0, none⟩) 2 2] 25))) :=
    Lib.hid ⟨B6.out.trans ((box_below _ _).mono B6.out.size), at4_below X6.out (box_below _ _), at4_new w6 24 z _ _, T6a.out.later (box_below _ _), T6.out.later (box_below _ _)⟩
  obtain ⟨W, hW⟩ : ∃ W, W = w6.alloc (.cells #[.int .i64 24, .string z, .slice none 0 0, .slice (some ⟨gb, 0, none⟩) 2 2] 25) := ⟨_, rfl⟩
  rw [← hW] at HOP ⊢
  generalize w3.heap.size = b1 at *
  generalize w6.heap.size = b2 at *
  clear X3 X4 X5 X6 T3 T4 T5 T6 T6a B1 B2 B3 B4 B5 B6 hW
  have HTW := Lib.hid (HT.out.later HOP.out.low)
  have GA : Hid (∀ wz, Hid (Below W.heap.size W wz) → At4 wz b1 0 24 s (.slice none 0 0) (.slice (some ⟨ga, 0, none⟩) 2 2)) := Lib.hid fun wz hz => at4_below HOP.out.a hz.out
  have GB : Hid (∀ wz, Hid (Below W.heap.size W wz) → At4 wz b2 0 24 z (.slice none 0 0) (.slice (some ⟨gb, 0, none⟩) 2 2)) := Lib.hid fun wz hz => at4_below HOP.out.b hz.out
  have CLA : Hid (Ans W 15 #[.agg #[.int .i64 24, .string s, .slice none 0 0, .slice (some ⟨ga, 0, none⟩) 2 2]] (.int .i64 3)) := Lib.hid (ans_of fun wz hz => level_is 24 s _ (HL.out.symm) 0 2 0 2 none _ wz (HTW.out.later hz))
  have CLB : Hid (Ans W 15 #[.agg #[.int .i64 24, .string z, .slice none 0 0, .slice (some ⟨gb, 0, none⟩) 2 2]] (.int .i64 3)) := Lib.hid (ans_of fun wz hz => level_is 24 z _ (HM.out.symm) 0 2 0 2 none _ wz (HTW.out.later hz))
  have CW : Hid (Ans W 12 #[] (.bool true)) := Lib.hid (ans_of fun wz hz => awake_any wz (HTW.out.later hz))
  have BW : Hid (Below w.heap.size w W) := Lib.hid HOP.out.low
  have W0 : Hid (Below W.heap.size W W) := Lib.hid (Below.refl _ _)
  obtain ⟨e0, e1, e2, e3⟩ := GA.out _ W0
  go_upto_region 7 with (first
    | (go_at_call 15; (with_reducible refine (CLA.out _ (by assumption)).mono ?_); rintro e wa ⟨rfl, ha⟩; obtain ⟨f0, f1, f2, f3⟩ := GB.out _ ha)
    | (go_at_call 15; (with_reducible refine (CLB.out _ (by assumption)).mono ?_); rintro e wb ⟨rfl, hb⟩; obtain ⟨e0, e1, e2, e3⟩ := GA.out _ hb; obtain ⟨f0, f1, f2, f3⟩ := GB.out _ hb)
    | (go_at_call 12; (with_reducible refine (CW.out _ (by assumption)).mono ?_); rintro e wc ⟨rfl, hc⟩))
  have O7 := Lib.hid (HOP.out.later hb.out)
  have HB7 : b2 < wb.heap.size := O7.out.b.lt
  obtain ⟨c0, c1, c2, c3⟩ := O7.out.b
  have HDR7 : Hid (∀ (wx : World) (f : Nat), wx.drew.cell? ⟨b2, f, none⟩ = wx.cell? ⟨b2, f, none⟩) := Lib.hid fun _ _ => rfl
  go_region_held3 (fun w' => ∀ f : Nat, w'.cell? ⟨b2, f, none⟩ = wb.cell? ⟨b2, f, none⟩)
    ((intro f
      iterate 3 (first
        | (with_reducible exact rfl)
        | (with_reducible exact HQC7.out f)
        | (with_reducible exact HQB7.out f)
        | (with_reducible exact HQA7.out f)
        | (with_reducible refine (HDR7.out _ _).trans ?_)
        | skip)))
    ((first
      | (go_at_call 26; refine (number_any ⟨#[49]⟩ wb.drew).mono ?_; rintro e wn7 ⟨rfl, hbn⟩;
         have hL : Below wb.heap.size wb wn7 := ((Below.refl wb.heap.size wb).drew).trans hbn;
         have HQA7 : Hid (∀ f : Nat, wn7.cell? ⟨b2, f, none⟩ = wb.cell? ⟨b2, f, none⟩) := Lib.hid (fun f => hL.cell (p := ⟨b2, f, none⟩) HB7);
         have LA7 := Lib.hid hL; have TB7 := Lib.hid (O7.out.tb.later hL); clear hbn hL)
      | (go_at_call 25; refine (binary_any s Pl.n1 (Pl.bin z Pl.n3 Pl.n4) ⟨none, 0, none, 0⟩ (sl2 gb) wn7 (num_at ⟨#[49]⟩ _ (by decide)) (TB7.out) HS.out).mono ?_; rintro e wm7 ⟨gx7, rfl, hbn, TX7⟩;
         have hL := LA7.out.trans (hbn.mono LA7.out.size);
         have HQB7 : Hid (∀ f : Nat, wm7.cell? ⟨b2, f, none⟩ = wb.cell? ⟨b2, f, none⟩) := Lib.hid (fun f => hL.cell (p := ⟨b2, f, none⟩) HB7);
         have LB7 := Lib.hid hL; clear hbn hL)
      | (go_at_call 10; refine (check_is (Pl.bin s Pl.n1 (Pl.bin z Pl.n3 Pl.n4)) wm7 (sl2 gx7) 7 HV7.out ((HTW.out.later hb.out).later LB7.out) TX7.out).mono ?_; rintro e wo7 ⟨rfl, hbn⟩;
         have hL := LB7.out.trans (hbn.mono LB7.out.size);
         have HQC7 : Hid (∀ f : Nat, wo7.cell? ⟨b2, f, none⟩ = wb.cell? ⟨b2, f, none⟩) := Lib.hid (fun f => hL.cell (p := ⟨b2, f, none⟩) HB7);
         have LC7 := Lib.hid (hb.out.trans (hL.mono hb.out.size)); clear hbn hL)))
  clear c0 c1 c2 c3
  go_upto_region 8 with fail
  have O8 := Lib.hid (HOP.out.later LC7.out)
  have HB8 : b2 < wo7.heap.size := O8.out.b.lt
  obtain ⟨c0, c1, c2, c3⟩ := O8.out.b
  have HDR8 : Hid (∀ (wx : World) (f : Nat), wx.drew.cell? ⟨b2, f, none⟩ = wx.cell? ⟨b2, f, none⟩) := Lib.hid fun _ _ => rfl
  go_region_held3 (fun w' => ∀ f : Nat, w'.cell? ⟨b2, f, none⟩ = wo7.cell? ⟨b2, f, none⟩)
    ((intro f
      iterate 3 (first
        | (with_reducible exact rfl)
        | (with_reducible exact HQC8.out f)
        | (with_reducible exact HQB8.out f)
        | (with_reducible exact HQA8.out f)
        | (with_reducible refine (HDR8.out _ _).trans ?_)
        | skip)))
    ((first
      | (go_at_call 26; refine (number_any ⟨#[49]⟩ wo7.drew).mono ?_; rintro e wn8 ⟨rfl, hbn⟩;
         have hL : Below wo7.heap.size wo7 wn8 := ((Below.refl wo7.heap.size wo7).drew).trans hbn;
         have HQA8 : Hid (∀ f : Nat, wn8.cell? ⟨b2, f, none⟩ = wo7.cell? ⟨b2, f, none⟩) := Lib.hid (fun f => hL.cell (p := ⟨b2, f, none⟩) HB8);
         have LA8 := Lib.hid hL; have TB8 := Lib.hid (O8.out.tb.later hL); clear hbn hL)
      | (go_at_call 25; refine (binary_any s (Pl.bin z Pl.n3 Pl.n4) Pl.n1 (sl2 gb) ⟨none, 0, none, 0⟩ wn8 (TB8.out) (num_at ⟨#[49]⟩ _ (by decide)) HS.out).mono ?_; rintro e wm8 ⟨gx8, rfl, hbn, TX8⟩;
         have hL := LA8.out.trans (hbn.mono LA8.out.size);
         have HQB8 : Hid (∀ f : Nat, wm8.cell? ⟨b2, f, none⟩ = wo7.cell? ⟨b2, f, none⟩) := Lib.hid (fun f => hL.cell (p := ⟨b2, f, none⟩) HB8);
         have LB8 := Lib.hid hL; clear hbn hL)
      | (go_at_call 10; refine (check_is (Pl.bin s (Pl.bin z Pl.n3 Pl.n4) Pl.n1) wm8 (sl2 gx8) 7 HV8.out ((HTW.out.later LC7.out).later LB8.out) TX8.out).mono ?_; rintro e wo8 ⟨rfl, hbn⟩;
         have hL := LB8.out.trans (hbn.mono LB8.out.size);
         have HQC8 : Hid (∀ f : Nat, wo8.cell? ⟨b2, f, none⟩ = wo7.cell? ⟨b2, f, none⟩) := Lib.hid (fun f => hL.cell (p := ⟨b2, f, none⟩) HB8);
         have LC8 := Lib.hid (LC7.out.trans (hL.mono LC7.out.size)); clear hbn hL)))
  clear c0 c1 c2 c3
  go_wp2_with (go_at_call 12; refine (CW.out _ LC8).mono ?_; rintro e wc ⟨rfl, hc⟩)
  go_ret
  exact ⟨rfl, BW.out.trans (hc.out.mono BW.out.size)⟩
set_option maxHeartbeats 3200000 in
set_option maxRecDepth 100000 in
theorem ops_eq (s z : ByteArray) (l : Int) (w : World) (hT : Tabs w) (hs : s.size ≤ maxLen) (hz : z.size ≤ maxLen) (HL : Hid (l = Pl.lvo s)) (HM : Hid (l = Pl.lvo z)) (hl : 0 < l) (h3 : ¬ l = 3) (HV7 : Hid (Pl.chk (Pl.bin s Pl.n1 (Pl.bin z Pl.n3 Pl.n4)) = 7)) (HV8 : Hid (Pl.chk (Pl.bin s (Pl.bin z Pl.n3 Pl.n4) Pl.n1) = 0)) :
    Calls Tryd.prog 9 #[.string s, .string z] w fun e w' => e = .returned (.bool true) ∧ Below w.heap.size w w' := by
  have HT := Lib.hid hT
  have HS := Lib.hid hs
  have HZ := Lib.hid hz
  clear hT hs hz
  go_enter Tryd.func9, Tryd.ntmps9
  go_upto_region 3 with (first
    | (go_at_call 26; (with_reducible refine (number_any ⟨#[49]⟩ _).mono ?_); rintro e w1 ⟨rfl, hb1⟩; have B1 := Lib.hid hb1; clear hb1)
    | (go_at_call 26; (with_reducible refine (number_any ⟨#[50]⟩ _).mono ?_); rintro e w2 ⟨rfl, hb2⟩; have B2 := Lib.hid (B1.out.trans (hb2.mono B1.out.size)); clear hb2)
    | (go_at_call 26; (with_reducible refine (number_any ⟨#[51]⟩ _).mono ?_); rintro e w4 ⟨rfl, hb4⟩; have T4 := Lib.hid ((T3.out.later (box_below _ _)).later hb4); have B4 := Lib.hid (B3.out.trans ((after_call hb4).2.mono B3.out.size)); have X4 := Lib.hid (at4_below X3.out hb4); clear hb4)
    | (go_at_call 26; (with_reducible refine (number_any ⟨#[52]⟩ _).mono ?_); rintro e w5 ⟨rfl, hb5⟩; have T5 := Lib.hid (T4.out.later hb5); have B5 := Lib.hid (B4.out.trans (hb5.mono B4.out.size)); have X5 := Lib.hid (at4_below X4.out hb5); clear hb5)
    | (go_at_call 25; have g9 := T5.out; clear g9; refine (binary_any z Pl.n3 Pl.n4 ⟨none, 0, none, 0⟩ ⟨none, 0, none, 0⟩ _ (num_at ⟨#[51]⟩ _ (by decide)) (num_at ⟨#[52]⟩ _ (by decide)) HZ.out).mono ?_; rintro e w6 ⟨gb, rfl, hb6, T6⟩; have T6a := Lib.hid (T5.out.later hb6); have B6 := Lib.hid (B5.out.trans (hb6.mono B5.out.size)); have X6 := Lib.hid (at4_below X5.out hb6); clear hb6)
    | (go_at_call 25; refine (binary_any s Pl.n1 Pl.n2 ⟨none, 0, none, 0⟩ ⟨none, 0, none, 0⟩ _ (num_at ⟨#[49]⟩ _ (by decide)) (num_at ⟨#[50]⟩ _ (by decide)) HS.out).mono ?_; rintro e w3 ⟨ga, rfl, hb3, T3⟩; have B3 := Lib.hid (B2.out.trans (hb3.mono B2.out.size)); have X3 := Lib.hid (at4_new w3 24 s (.slice none 0 0) (.slice (some ⟨ga, 0, none⟩) 2 2)); clear hb3))
  have HOP : Hid (Ops w w3.heap.size w6.heap.size ga gb s z (w6.alloc (.cells #[.int .i64 24, .string z, .slice none 0 0, .slice (some ⟨gb, 0, none⟩) 2 2] 25))) :=
    Lib.hid ⟨B6.out.trans ((box_below _ _).mono B6.out.size), at4_below X6.out (box_below _ _), at4_new w6 24 z _ _, T6a.out.later (box_below _ _), T6.out.later (box_below _ _)⟩
  obtain ⟨W, hW⟩ : ∃ W, W = w6.alloc (.cells #[.int .i64 24, .string z, .slice none 0 0, .slice (some ⟨gb, 0, none⟩) 2 2] 25) := ⟨_, rfl⟩
  rw [← hW] at HOP ⊢
  generalize w3.heap.size = b1 at *
  generalize w6.heap.size = b2 at *
  clear X3 X4 X5 X6 T3 T4 T5 T6 T6a B1 B2 B3 B4 B5 B6 hW
  have HTW := Lib.hid (HT.out.later HOP.out.low)
  have GA : Hid (∀ wz, Hid (Below W.heap.size W wz) → At4 wz b1 0 24 s (.slice none 0 0) (.slice (some ⟨ga, 0, none⟩) 2 2)) := Lib.hid fun wz hz => at4_below HOP.out.a hz.out
  have GB : Hid (∀ wz, Hid (Below W.heap.size W wz) → At4 wz b2 0 24 z (.slice none 0 0) (.slice (some ⟨gb, 0, none⟩) 2 2)) := Lib.hid fun wz hz => at4_below HOP.out.b hz.out
  have CLA : Hid (Ans W 15 #[.agg #[.int .i64 24, .string s, .slice none 0 0, .slice (some ⟨ga, 0, none⟩) 2 2]] (.int .i64 l)) := Lib.hid (ans_of fun wz hz => level_is 24 s _ (HL.out.symm) 0 2 0 2 none _ wz (HTW.out.later hz))
  have CLB : Hid (Ans W 15 #[.agg #[.int .i64 24, .string z, .slice none 0 0, .slice (some ⟨gb, 0, none⟩) 2 2]] (.int .i64 l)) := Lib.hid (ans_of fun wz hz => level_is 24 z _ (HM.out.symm) 0 2 0 2 none _ wz (HTW.out.later hz))
  have CW : Hid (Ans W 12 #[] (.bool true)) := Lib.hid (ans_of fun wz hz => awake_any wz (HTW.out.later hz))
  have BW : Hid (Below w.heap.size w W) := Lib.hid HOP.out.low
  have W0 : Hid (Below W.heap.size W W) := Lib.hid (Below.refl _ _)
  obtain ⟨e0, e1, e2, e3⟩ := GA.out _ W0
  have d1 : (l == 0) = false := beq_eq_false_iff_ne.2 (by omega)
  have d2 : decide (l < l) = false := decide_eq_false (by omega)
  have d3 : (l == l) = true := by simp
  have d4 : (l != 3) = true := by simpa using h3
  go_upto_region 7 with (first
    | (go_at_call 15; (with_reducible refine (CLA.out _ (by assumption)).mono ?_); rintro e wa ⟨rfl, ha⟩; obtain ⟨f0, f1, f2, f3⟩ := GB.out _ ha)
    | (go_at_call 15; (with_reducible refine (CLB.out _ (by assumption)).mono ?_); rintro e wb ⟨rfl, hb⟩; obtain ⟨e0, e1, e2, e3⟩ := GA.out _ hb; obtain ⟨f0, f1, f2, f3⟩ := GB.out _ hb)
    | (go_at_call 12; (with_reducible refine (CW.out _ (by assumption)).mono ?_); rintro e wc ⟨rfl, hc⟩))
  have O7 := Lib.hid (HOP.out.later hb.out)
  have HB7 : b2 < wb.heap.size := O7.out.b.lt
  obtain ⟨c0, c1, c2, c3⟩ := O7.out.b
  have HDR7 : Hid (∀ (wx : World) (f : Nat), wx.drew.cell? ⟨b2, f, none⟩ = wx.cell? ⟨b2, f, none⟩) := Lib.hid fun _ _ => rfl
  go_region_held3 (fun w' => ∀ f : Nat, w'.cell? ⟨b2, f, none⟩ = wb.cell? ⟨b2, f, none⟩)
    ((intro f
      iterate 3 (first
        | (with_reducible exact rfl)
        | (with_reducible exact HQC7.out f)
        | (with_reducible exact HQB7.out f)
        | (with_reducible exact HQA7.out f)
        | (with_reducible refine (HDR7.out _ _).trans ?_)
        | skip)))
    ((first
      | (go_at_call 26; refine (number_any ⟨#[49]⟩ wb.drew).mono ?_; rintro e wn7 ⟨rfl, hbn⟩;
         have hL : Below wb.heap.size wb wn7 := ((Below.refl wb.heap.size wb).drew).trans hbn;
         have HQA7 : Hid (∀ f : Nat, wn7.cell? ⟨b2, f, none⟩ = wb.cell? ⟨b2, f, none⟩) := Lib.hid (fun f => hL.cell (p := ⟨b2, f, none⟩) HB7);
         have LA7 := Lib.hid hL; have TB7 := Lib.hid (O7.out.tb.later hL); clear hbn hL)
      | (go_at_call 25; refine (binary_any s Pl.n1 (Pl.bin z Pl.n3 Pl.n4) ⟨none, 0, none, 0⟩ (sl2 gb) wn7 (num_at ⟨#[49]⟩ _ (by decide)) (TB7.out) HS.out).mono ?_; rintro e wm7 ⟨gx7, rfl, hbn, TX7⟩;
         have hL := LA7.out.trans (hbn.mono LA7.out.size);
         have HQB7 : Hid (∀ f : Nat, wm7.cell? ⟨b2, f, none⟩ = wb.cell? ⟨b2, f, none⟩) := Lib.hid (fun f => hL.cell (p := ⟨b2, f, none⟩) HB7);
         have LB7 := Lib.hid hL; clear hbn hL)
      | (go_at_call 10; refine (check_is (Pl.bin s Pl.n1 (Pl.bin z Pl.n3 Pl.n4)) wm7 (sl2 gx7) 7 HV7.out ((HTW.out.later hb.out).later LB7.out) TX7.out).mono ?_; rintro e wo7 ⟨rfl, hbn⟩;
         have hL := LB7.out.trans (hbn.mono LB7.out.size);
         have HQC7 : Hid (∀ f : Nat, wo7.cell? ⟨b2, f, none⟩ = wb.cell? ⟨b2, f, none⟩) := Lib.hid (fun f => hL.cell (p := ⟨b2, f, none⟩) HB7);
         have LC7 := Lib.hid (hb.out.trans (hL.mono hb.out.size)); clear hbn hL)))
  clear c0 c1 c2 c3
  go_upto_region 8 with fail
  have O8 := Lib.hid (HOP.out.later LC7.out)
  have HB8 : b2 < wo7.heap.size := O8.out.b.lt
  obtain ⟨c0, c1, c2, c3⟩ := O8.out.b
  have HDR8 : Hid (∀ (wx : World) (f : Nat), wx.drew.cell? ⟨b2, f, none⟩ = wx.cell? ⟨b2, f, none⟩) := Lib.hid fun _ _ => rfl
  go_region_held3 (fun w' => ∀ f : Nat, w'.cell? ⟨b2, f, none⟩ = wo7.cell? ⟨b2, f, none⟩)
    ((intro f
      iterate 3 (first
        | (with_reducible exact rfl)
        | (with_reducible exact HQC8.out f)
        | (with_reducible exact HQB8.out f)
        | (with_reducible exact HQA8.out f)
        | (with_reducible refine (HDR8.out _ _).trans ?_)
        | skip)))
    ((first
      | (go_at_call 26; refine (number_any ⟨#[49]⟩ wo7.drew).mono ?_; rintro e wn8 ⟨rfl, hbn⟩;
         have hL : Below wo7.heap.size wo7 wn8 := ((Below.refl wo7.heap.size wo7).drew).trans hbn;
         have HQA8 : Hid (∀ f : Nat, wn8.cell? ⟨b2, f, none⟩ = wo7.cell? ⟨b2, f, none⟩) := Lib.hid (fun f => hL.cell (p := ⟨b2, f, none⟩) HB8);
         have LA8 := Lib.hid hL; have TB8 := Lib.hid (O8.out.tb.later hL); clear hbn hL)
      | (go_at_call 25; refine (binary_any s (Pl.bin z Pl.n3 Pl.n4) Pl.n1 (sl2 gb) ⟨none, 0, none, 0⟩ wn8 (TB8.out) (num_at ⟨#[49]⟩ _ (by decide)) HS.out).mono ?_; rintro e wm8 ⟨gx8, rfl, hbn, TX8⟩;
         have hL := LA8.out.trans (hbn.mono LA8.out.size);
         have HQB8 : Hid (∀ f : Nat, wm8.cell? ⟨b2, f, none⟩ = wo7.cell? ⟨b2, f, none⟩) := Lib.hid (fun f => hL.cell (p := ⟨b2, f, none⟩) HB8);
         have LB8 := Lib.hid hL; clear hbn hL)
      | (go_at_call 10; refine (check_is (Pl.bin s (Pl.bin z Pl.n3 Pl.n4) Pl.n1) wm8 (sl2 gx8) 0 HV8.out ((HTW.out.later LC7.out).later LB8.out) TX8.out).mono ?_; rintro e wo8 ⟨rfl, hbn⟩;
         have hL := LB8.out.trans (hbn.mono LB8.out.size);
         have HQC8 : Hid (∀ f : Nat, wo8.cell? ⟨b2, f, none⟩ = wo7.cell? ⟨b2, f, none⟩) := Lib.hid (fun f => hL.cell (p := ⟨b2, f, none⟩) HB8);
         have LC8 := Lib.hid (LC7.out.trans (hL.mono LC7.out.size)); clear hbn hL)))
  clear c0 c1 c2 c3
  go_wp2_with (go_at_call 12; refine (CW.out _ LC8).mono ?_; rintro e wc ⟨rfl, hc⟩)
  go_ret
  exact ⟨rfl, BW.out.trans (hc.out.mono BW.out.size)⟩
theorem lawOperators (s z : ByteArray) (w : World) (hT : Tabs w) (hs : s.size ≤ maxLen) (hz : z.size ≤ maxLen) :
    Calls Tryd.prog 9 #[.string s, .string z] w fun e w' => e = .returned (.bool true) ∧ Below w.heap.size w w' := by
  have h1 := Pl.lvo_small s
  have h2 := Pl.lvo_small z
  have ca : Pl.chk (Pl.bin s Pl.n1 Pl.n2) = _ := Pl.bin_two s _ _ Pl.small1 Pl.small2
  have cb : Pl.chk (Pl.bin z Pl.n3 Pl.n4) = _ := Pl.bin_two z _ _ Pl.small3 Pl.small4
  by_cases hl : 0 < Pl.lvo s
  · by_cases hm : 0 < Pl.lvo z
    · have hb := Pl.bin_small z _ _ Pl.small3 Pl.small4 hm
      have cr : Pl.chk (Pl.bin s Pl.n1 (Pl.bin z Pl.n3 Pl.n4)) = _ := Pl.bin_right s z ⟨#[49]⟩ _ Pl.small1 hb rfl hl
      have cl : Pl.chk (Pl.bin s (Pl.bin z Pl.n3 Pl.n4) Pl.n1) = _ := Pl.bin_left s z ⟨#[49]⟩ _ Pl.small1 hb rfl hl
      by_cases h3 : Pl.lvo s < Pl.lvo z
      · rw [if_pos h3] at cr
        rw [if_pos (.inl h3)] at cl
        exact ops_lt s z _ _ w hT hs hz (Lib.hid rfl) (Lib.hid rfl) hl h3 (Lib.hid cr) (Lib.hid cl)
      rw [if_neg h3] at cr
      by_cases h4 : Pl.lvo z < Pl.lvo s
      · rw [if_neg (by omega)] at cl
        exact ops_gt s z _ _ w hT hs hz (Lib.hid rfl) (Lib.hid rfl) hm h4 (Lib.hid cr) (Lib.hid cl)
      have h5 : Pl.lvo s = Pl.lvo z := by omega
      by_cases h6 : Pl.lvo s = 3
      · rw [if_neg (by omega)] at cl
        exact ops_33 s z w hT hs hz (Lib.hid h6.symm) (Lib.hid (by omega)) (Lib.hid cr) (Lib.hid cl)
      · rw [if_pos (by omega)] at cl
        exact ops_eq s z _ w hT hs hz (Lib.hid rfl) (Lib.hid h5) hl h6 (Lib.hid cr) (Lib.hid cl)
    · rw [if_neg hm] at cb
      exact ops_10 s z _ w hT hs hz (Lib.hid rfl) (Lib.hid (by omega)) hl cb
  · rw [if_neg hl] at ca
    by_cases hm : 0 < Pl.lvo z
    · exact ops_01 s z _ w hT hs hz (Lib.hid (by omega)) (Lib.hid rfl) hm ca
    · rw [if_neg hm] at cb
      exact ops_00 s z w hT hs hz (Lib.hid (by omega)) (Lib.hid (by omega)) ca cb
end Go.Proofs.YtmfmlkdojgbhfaaDoor
