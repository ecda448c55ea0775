/- The walk of the law's examples. -/
import Derived.Test.YtebmmpepniokjaaDoorWalkToks
import Derived.Test.YtebmmpepniokjaaDoorWalkJoin
import Derived.Test.YtebmmpepniokjaaDoorWalkGlue
namespace Go.Proofs.YtebmmpepniokjaaDoor
open Go.RowKit
set_option linter.unusedVariables false
set_option linter.unusedSimpArgs false

theorem tk_step (l : Pl.Bs) (off k n : Nat) (h0 : Pl.hop l = 0) (hl : 0 < l.length) (hf : Pl.fst l = (k, n)) (hk : k ≠ 0) :
    Pl.tk l off = (⟨k, [], l.take n, off⟩ :: (Pl.tk (l.drop n) (off + n)).1, (Pl.tk (l.drop n) (off + n)).2) := by
  have e := Pl.eo_stop l h0
  have := Pl.tk_go l off (by omega) k n (by rw [e]; exact hf) hk
  rw [e, Nat.zero_add, Nat.add_zero] at this
  exact this
theorem tk_bad1 (l : Pl.Bs) (off : Nat) (h0 : Pl.hop l = 0) (hl : 0 < l.length) (hk : (Pl.fst l).1 = 0) : Pl.tk (32 :: l) off = ([], some (off + 1)) := by
  have e : Pl.eo (32 :: l) = 1 := by rw [Pl.eo_space, Pl.eo_stop l h0]
  have := Pl.tk_bad (32 :: l) off (by rw [e]; simp only [List.length_cons]; omega) (by rw [e]; exact hk)
  rw [e] at this
  exact this
def T1 : List Pl.Tok := [⟨1, [], [97], 0⟩, ⟨3, [], [61], 1⟩, ⟨2, [], [49], 2⟩, ⟨3, [], [59], 3⟩, ⟨4, [], [], 4⟩]
theorem tk_1 : Pl.tk [97, 61, 49, 59] 0 = (T1, none) := by
  rw [tk_step [97, 61, 49, 59] 0 1 1 (by decide) (by decide) (by decide) (by decide)]
  show (_ :: (Pl.tk [61, 49, 59] 1).1, (Pl.tk [61, 49, 59] 1).2) = _
  rw [tk_step [61, 49, 59] 1 3 1 (by decide) (by decide) (by decide) (by decide)]
  show (_ :: _ :: (Pl.tk [49, 59] 2).1, (Pl.tk [49, 59] 2).2) = _
  rw [tk_step [49, 59] 2 2 1 (by decide) (by decide) (by decide) (by decide)]
  show (_ :: _ :: _ :: (Pl.tk [59] 3).1, (Pl.tk [59] 3).2) = _
  rw [tk_step [59] 3 3 1 (by decide) (by decide) (by decide) (by decide)]
  show (_ :: _ :: _ :: _ :: (Pl.tk [] 4).1, (Pl.tk [] 4).2) = _
  rw [Pl.tk_nil]; rfl
theorem tk_2 : (Pl.tk [97, 32, 48, 49] 0).2 = some 2 := by
  rw [tk_step [97, 32, 48, 49] 0 1 1 (by decide) (by decide) (by decide) (by decide)]
  show (Pl.tk [32, 48, 49] 1).2 = _
  rw [tk_bad1 [48, 49] 1 (by decide) (by decide) (by decide)]
theorem tk_3 : (Pl.tk [97, 32, 47, 47, 32, 120] 0).2 = some 2 := by
  rw [tk_step [97, 32, 47, 47, 32, 120] 0 1 1 (by decide) (by decide) (by decide) (by decide)]
  show (Pl.tk [32, 47, 47, 32, 120] 1).2 = _
  rw [tk_bad1 [47, 47, 32, 120] 1 (by decide) (by decide) (by decide)]
theorem tk_4 : Pl.tk [32] 0 = ([⟨4, [32], [], 1⟩], none) := by
  have e : Pl.eo [32] = 1 := by rw [Pl.eo_space, Pl.eo_stop [] rfl]
  have := Pl.tk_end [32] 0 (by rw [e]; decide)
  rw [e] at this
  exact this
/-- A row of n tokens, somewhere. -/
def Rowed (L : List T4) (w : World) (e : Ending) (w' : World) : Prop := ∃ b o c, e = .returned (.tuple #[.slice (some ⟨b, o, none⟩) L.length c, .int .i64 0, .int .i64 0]) ∧ b < w'.heap.size ∧ Toks w' b o L ∧ Below w.heap.size w w'
theorem lexed_row {s : ByteArray} {w : World} {e : Ending} {w' : World} (h : Lexed s w e w') (T : List Pl.Tok) (hT : Pl.tk s.data.toList 0 = (T, none)) (h0 : 0 < T.length) : Rowed (T.map t4) w e w' := by
  obtain ⟨_, h2, h3⟩ := h
  rw [hT] at h2
  obtain ⟨v, rfl, hr⟩ := h2 rfl
  rcases hr with ⟨h1, _⟩ | ⟨b, o, c, rfl, h4, h5, _⟩
  · have := congrArg List.length h1
    rw [List.length_map] at this
    simp only [List.length_nil] at this
    omega
  · exact ⟨b, o, c, rfl, h4, h5, h3⟩
theorem lexed_err {s : ByteArray} {w : World} {e : Ending} {w' : World} (h : Lexed s w e w') (off : Nat) (hT : (Pl.tk s.data.toList 0).2 = some off) : e = .returned (.tuple #[.slice none 0 0, .int .i64 1, .int .i64 (off : Nat)]) ∧ Below w.heap.size w w' :=
  ⟨h.1 off hT, h.2.2⟩
/-- The five tokens of the first example. -/
def Five (w : World) (e : Ending) (w' : World) : Prop := ∃ b o c, e = .returned (.tuple #[.slice (some ⟨b, o, none⟩) 5 c, .int .i64 0, .int .i64 0]) ∧ b < w'.heap.size ∧ Toks w' b o (T1.map t4) ∧ Below w.heap.size w w'
theorem ex_1 (w : World) (hE : Errs w) : Calls Tryd.prog 11 #[.string ⟨#[97, 61, 49, 59]⟩] w (Five w) :=
  (toks_any ⟨#[97, 61, 49, 59]⟩ w (by decide) hE).mono fun e w' h => lexed_row h T1 tk_1 (by decide)
theorem ex_2 (w : World) (hE : Errs w) : Calls Tryd.prog 11 #[.string ⟨#[97, 32, 48, 49]⟩] w fun e w' => e = .returned (.tuple #[.slice none 0 0, .int .i64 1, .int .i64 2]) ∧ Below w.heap.size w w' :=
  (toks_any ⟨#[97, 32, 48, 49]⟩ w (by decide) hE).mono fun e w' h => lexed_err h 2 tk_2
theorem ex_3 (w : World) (hE : Errs w) : Calls Tryd.prog 11 #[.string ⟨#[97, 32, 47, 47, 32, 120]⟩] w fun e w' => e = .returned (.tuple #[.slice none 0 0, .int .i64 1, .int .i64 2]) ∧ Below w.heap.size w w' :=
  (toks_any ⟨#[97, 32, 47, 47, 32, 120]⟩ w (by decide) hE).mono fun e w' h => lexed_err h 2 tk_3
/-- The only token of the last one. -/
def One (w : World) (e : Ending) (w' : World) : Prop := ∃ b o c, e = .returned (.tuple #[.slice (some ⟨b, o, none⟩) 1 c, .int .i64 0, .int .i64 0]) ∧ b < w'.heap.size ∧ w'.cell? ⟨b, o + 1, none⟩ = some (.string ⟨#[32]⟩) ∧ Below w.heap.size w w'
theorem ex_4 (w : World) (hE : Errs w) : Calls Tryd.prog 11 #[.string ⟨#[32]⟩] w (One w) := by
  refine (toks_any ⟨#[32]⟩ w (by decide) hE).mono fun e w' h => ?_
  obtain ⟨b, o, c, h1, h2, h3, h4⟩ := lexed_row h [⟨4, [32], [], 1⟩] tk_4 (by decide)
  exact ⟨b, o, c, h1, h2, (h3 0 _ rfl).2.1, h4⟩
theorem jn_1 : Pl.mk (jn (T1.map t4)) = ⟨#[97, 61, 49, 59]⟩ := by rfl

set_option maxHeartbeats 3200000 in
theorem awake_any (w : World) (hE : Errs w) : Calls Tryd.prog 10 #[] w fun e w' => e = .returned (.bool true) ∧ Below w.heap.size w w' := by
  have HE := Lib.hid hE
  clear hE
  go_enter Tryd.func10, Tryd.ntmps10
  go_wp2_with fail
  refine (ex_1 _ HE.out).mono ?_
  rintro e w1 ⟨b, o, c, rfl, hb1, ht1, k1⟩
  have HE1 := Lib.hid (HE.out.later k1)
  have HT1 := Lib.hid ht1
  clear ht1
  go_wp2_with fail
  refine (ex_2 _ HE1.out).mono ?_
  rintro e w2 ⟨rfl, k2⟩
  have HE2 := Lib.hid (HE1.out.later k2)
  have HT2 := Lib.hid (HT1.out.later hb1 k2)
  have hb2 := Nat.lt_of_lt_of_le hb1 k2.size
  have K2 := Lib.hid (k1.trans (k2.mono k1.size))
  clear k1 k2 hb1
  go_wp2_with fail
  refine (ex_3 _ HE2.out).mono ?_
  rintro e w3 ⟨rfl, k3⟩
  have HE3 := Lib.hid (HE2.out.later k3)
  have HT3 := Lib.hid (HT2.out.later hb2 k3)
  have hb3 := Nat.lt_of_lt_of_le hb2 k3.size
  have K3 := Lib.hid (K2.out.trans (k3.mono K2.out.size))
  clear k3 hb2
  go_wp2_with fail
  refine (ex_4 _ HE3.out).mono ?_
  rintro e w4 ⟨b', o', c', rfl, hb', hc', k4⟩
  have HE4 := Lib.hid (HE3.out.later k4)
  have HT4 := Lib.hid (HT3.out.later hb3 k4)
  have hb4 := Nat.lt_of_lt_of_le hb3 k4.size
  have K4 := Lib.hid (K3.out.trans (k4.mono K3.out.size))
  have f20 : w4.cell? ⟨b, o + 8, none⟩ = some (.int .i64 2) := (HT4.out 2 _ rfl).1
  have f22 : w4.cell? ⟨b, o + 8 + 2, none⟩ = some (.string ⟨#[49]⟩) := (HT4.out 2 _ rfl).2.2.1
  have f40 : w4.cell? ⟨b, o + 16, none⟩ = some (.int .i64 4) := (HT4.out 4 _ rfl).1
  have f43 : w4.cell? ⟨b, o + 16 + 3, none⟩ = some (.int .i64 4) := (HT4.out 4 _ rfl).2.2.2
  have HJ := Lib.hid (join_is (.slice (some ⟨b, o, none⟩) 5 c) (T1.map t4) ⟨#[97, 61, 49, 59]⟩ jn_1 w4 (.inr ⟨b, o, c, rfl, hb4, HT4.out, by decide⟩) (by decide) (by decide))
  clear k4 hb3
  go_wp2_with (first
    | (go_at_call 18; refine HJ.out.mono ?_; rintro e w5 ⟨rfl, k5⟩; have HE5 := Lib.hid (HE4.out.later k5); have K5 := Lib.hid (K4.out.trans (k5.mono K4.out.size)))
    | (go_at_call 14; first | (with_reducible refine (glue_is ⟨#[97]⟩ ⟨#[49]⟩ true (by decide) _ (by decide)).mono ?_; rintro e w' ⟨rfl, rfl⟩) | (with_reducible refine (glue_is ⟨#[61, 61]⟩ ⟨#[61]⟩ false (by decide) _ (by decide)).mono ?_; rintro e w' ⟨rfl, rfl⟩))
    | (go_at_call 16; first | (with_reducible refine (kind_is ⟨#[102, 110]⟩ 1 (by decide) _ (by decide) HE5.out).mono ?_; rintro e w6 ⟨rfl, k6⟩; have HE6 := Lib.hid (HE5.out.later k6); have K6 := Lib.hid (K5.out.trans (k6.mono K5.out.size))) | (with_reducible refine (kind_is ⟨#[49, 48, 48, 48, 48, 48, 48, 48, 48, 48, 48, 48, 49]⟩ 0 (by decide) _ (by decide) HE6.out).mono ?_; rintro e w7 ⟨rfl, k7⟩; have K7 := Lib.hid (K6.out.trans (k7.mono K6.out.size)))))
  go_ret
  exact ⟨rfl, K7.out⟩
end Go.Proofs.YtebmmpepniokjaaDoor
