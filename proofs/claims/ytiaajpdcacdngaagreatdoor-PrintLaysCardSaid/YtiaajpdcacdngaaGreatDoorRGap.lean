/- The walks of the printer's reference: line, inner, gap, kid, put. -/
import Derived.Test.YtiaajpdcacdngaaGreatDoorRPlain
import Derived.Test.YtiaajpdcacdngaaGreatDoorWText
namespace Go.Proofs.YtiaajpdcacdngaaGreatDoor.Rf
open Go.RowKit
set_option linter.unusedVariables false
set_option linter.unusedSimpArgs false
set_option maxRecDepth 100000

/-- What a call answers that gives a string. -/
def RetS (x : ByteArray) (w : World) (e : Ending) (w' : World) : Prop := e = .returned (.string x) ∧ Below w.heap.size w w'
theorem nl_succ (j : Nat) : Pl.nl j ++ ⟨#[9]⟩ = Pl.nl (j + 1) := by
  refine Pl.list_ext ?_
  have e : (Pl.nl j ++ (⟨#[9]⟩ : ByteArray)).data.toList = (Pl.nl j).data.toList ++ [9] := by simp
  rw [e]
  unfold Pl.nl
  rw [Pl.mk_list, Pl.mk_list, List.replicate_succ', List.cons_append]
set_option maxHeartbeats 800000 in
theorem line_any (L : Nat) (hL : L ≤ 100000) (w : World) :
    Calls Tryz.prog 78 #[.int .i64 (L : Nat)] w (RetS (Pl.nl L) w) := by
  go_enter Tryz.func78, Tryz.ntmps78
  go_wp2_with fail
  go_loopw [3, 4] (fun v i wr => ∃ (j : Nat) (x : ByteArray), j ≤ L ∧ i = .int .i64 (j : Int) ∧ v = .string x ∧ Hid (x = Pl.nl j) ∧ Hid (Below w.heap.size w wr)) (fun _ i _ => L - (intOf i).toNat)
  case atStart => exact ⟨0, _, Nat.zero_le _, rfl, rfl, Lib.hid rfl, Lib.hid (Below.refl _ _)⟩
  case round =>
    obtain ⟨j, x, hj, rfl, rfl, HX, HB⟩ := hrel
    have hsz : x.size ≤ 200000 := by rw [HX.out, Pl.nl_size]; omega
    by_cases hlt : j < L
    · have hlt2 : (j : Int) < (L : Int) := by omega
      go_wp2_with fail
      exact ⟨⟨j + 1, _, by omega, by go_num, rfl, Lib.hid (by rw [HX.out]; exact nl_succ j), HB⟩, by simp [intOf]; omega⟩
    · have HJ : Hid (j = L) := Lib.hid (by omega)
      have hlt2 : ¬ (j : Int) < (L : Int) := by omega
      go_wp2_with fail
      go_ret
      exact ⟨(show _ = Ending.returned (.string x) from rfl).trans (by rw [HX.out, HJ.out]), HB.out⟩
theorem line_succ (L : Nat) (hL : L ≤ 99999) (w : World) :
    Calls Tryz.prog 78 #[.int .i64 ((L : Int) + 1)] w (RetS (Pl.nl (L + 1)) w) := by
  rw [show (L : Int) + 1 = ((L + 1 : Nat) : Int) from by omega]
  exact line_any (L + 1) (by omega) w
set_option maxHeartbeats 800000 in
theorem gap_1p (s f : ByteArray) (n m gc dc i L : Nat) (ga da : Option Addr) (w : World) (h : 0 < m) :
    Calls Tryz.prog 60 #[.agg #[.int .i64 1, .string s, .slice ga n gc, .slice da m dc], .int .i64 (i : Nat), .string f, .int .i64 (L : Nat)] w (RetS ⟨#[10]⟩ w) := by
  have d1 : decide ((0 : Int) < (m : Int)) = true := decide_eq_true (by omega)
  have d2 : decide ((0 : Nat) < m) = true := decide_eq_true (by omega)
  go_enter Tryz.func60, Tryz.ntmps60
  go_wp2_with fail
  go_ret
  exact ⟨rfl, box_low _ _⟩
set_option maxHeartbeats 800000 in
theorem gap_1z (s f : ByteArray) (n m gc dc i L : Nat) (ga da : Option Addr) (w : World) (h : m = 0) :
    Calls Tryz.prog 60 #[.agg #[.int .i64 1, .string s, .slice ga n gc, .slice da m dc], .int .i64 (i : Nat), .string f, .int .i64 (L : Nat)] w (RetS f w) := by
  subst h
  go_enter Tryz.func60, Tryz.ntmps60
  go_wp2_with fail
  go_ret
  exact ⟨rfl, box_low _ _⟩
set_option maxHeartbeats 800000 in
theorem gap_24 (s f : ByteArray) (n m gc dc i L : Nat) (ga da : Option Addr) (w : World) :
    Calls Tryz.prog 60 #[.agg #[.int .i64 24, .string s, .slice ga n gc, .slice da m dc], .int .i64 (i : Nat), .string f, .int .i64 (L : Nat)] w (RetS ⟨#[32]⟩ w) := by
  go_enter Tryz.func60, Tryz.ntmps60
  go_wp2_with fail
  go_ret
  exact ⟨rfl, box_low _ _⟩
set_option maxHeartbeats 800000 in
theorem gap_21 (s f : ByteArray) (n m gc dc i L : Nat) (ga da : Option Addr) (w : World) :
    Calls Tryz.prog 60 #[.agg #[.int .i64 21, .string s, .slice ga n gc, .slice da m dc], .int .i64 (i : Nat), .string f, .int .i64 (L : Nat)] w (RetS ⟨#[]⟩ w) := by
  go_enter Tryz.func60, Tryz.ntmps60
  go_wp2_with fail
  go_ret
  exact ⟨rfl, box_low _ _⟩
set_option maxHeartbeats 800000 in
theorem gap_16 (s f : ByteArray) (n m gc dc i L : Nat) (ga da : Option Addr) (w : World) :
    Calls Tryz.prog 60 #[.agg #[.int .i64 16, .string s, .slice ga n gc, .slice da m dc], .int .i64 (i : Nat), .string f, .int .i64 (L : Nat)] w (RetS ⟨#[]⟩ w) := by
  go_enter Tryz.func60, Tryz.ntmps60
  go_wp2_with fail
  go_ret
  exact ⟨rfl, box_low _ _⟩
set_option maxHeartbeats 800000 in
theorem gap_0 (k : Int) (s f : ByteArray) (n m gc dc i L : Nat) (ga da : Option Addr) (w : World) (h : i = 0) (n1 : ¬ k = 1) (n24 : ¬ k = 24) (n21 : ¬ k = 21) (n16 : ¬ k = 16) :
    Calls Tryz.prog 60 #[.agg #[.int .i64 k, .string s, .slice ga n gc, .slice da m dc], .int .i64 (i : Nat), .string f, .int .i64 (L : Nat)] w (RetS f w) := by
  subst h
  have b1 : (k == 1) = false := by simpa using n1
  have b24 : (k == 24) = false := by simpa using n24
  have b21 : (k == 21) = false := by simpa using n21
  have b16 : (k == 16) = false := by simpa using n16
  go_enter Tryz.func60, Tryz.ntmps60
  go_wp2_with fail
  go_ret
  exact ⟨rfl, box_low _ _⟩
set_option maxHeartbeats 800000 in
theorem gap_6p (s f : ByteArray) (n m gc dc i L : Nat) (ga da : Option Addr) (w : World) (hi : 0 < i) (h : 0 < m) (hL : L ≤ 10000) :
    Calls Tryz.prog 60 #[.agg #[.int .i64 6, .string s, .slice ga n gc, .slice da m dc], .int .i64 (i : Nat), .string f, .int .i64 (L : Nat)] w (RetS (Pl.nl L) w) := by
  have i1 : ((i : Int) == 0) = false := by simp; omega
  have i2 : (i == 0) = false := by simp; omega
  have d1 : decide ((0 : Int) < (m : Int)) = true := decide_eq_true (by omega)
  have d2 : decide ((0 : Nat) < m) = true := decide_eq_true (by omega)
  go_enter Tryz.func60, Tryz.ntmps60
  go_wp2_with (go_at_call 78; refine (line_any L (by omega) _).mono ?_; rintro e w1 ⟨rfl, hb1⟩)
  go_ret
  exact ⟨rfl, (box_low w _).trans (hb1.mono (by simp))⟩
set_option maxHeartbeats 800000 in
theorem gap_6z (s f : ByteArray) (n m gc dc i L : Nat) (ga da : Option Addr) (w : World) (hi : 0 < i) (h : m = 0) :
    Calls Tryz.prog 60 #[.agg #[.int .i64 6, .string s, .slice ga n gc, .slice da m dc], .int .i64 (i : Nat), .string f, .int .i64 (L : Nat)] w (RetS ⟨#[]⟩ w) := by
  subst h
  have i1 : ((i : Int) == 0) = false := by simp; omega
  have i2 : (i == 0) = false := by simp; omega
  go_enter Tryz.func60, Tryz.ntmps60
  go_wp2_with fail
  go_ret
  exact ⟨rfl, box_low _ _⟩
set_option maxHeartbeats 800000 in
theorem gap_7a (s f : ByteArray) (n m gc dc i L : Nat) (ga da : Option Addr) (w : World) (hi : 0 < i) (h : i < 3) :
    Calls Tryz.prog 60 #[.agg #[.int .i64 7, .string s, .slice ga n gc, .slice da m dc], .int .i64 (i : Nat), .string f, .int .i64 (L : Nat)] w (RetS ⟨#[32]⟩ w) := by
  have i1 : ((i : Int) == 0) = false := by simp; omega
  have i2 : (i == 0) = false := by simp; omega
  have d1 : decide ((i : Int) < (3 : Int)) = true := decide_eq_true (by omega)
  have d2 : decide ((i : Nat) < 3) = true := decide_eq_true (by omega)
  go_enter Tryz.func60, Tryz.ntmps60
  go_wp2_with fail
  go_ret
  exact ⟨rfl, box_low _ _⟩
set_option maxHeartbeats 800000 in
theorem gap_7p (s f : ByteArray) (n m gc dc i L : Nat) (ga da : Option Addr) (w : World) (hi : 0 < i) (h : ¬ i < 3) (hm : 1 < m) (hL : L ≤ 10000) :
    Calls Tryz.prog 60 #[.agg #[.int .i64 7, .string s, .slice ga n gc, .slice da m dc], .int .i64 (i : Nat), .string f, .int .i64 (L : Nat)] w (RetS (Pl.nl L) w) := by
  have i1 : ((i : Int) == 0) = false := by simp; omega
  have i2 : (i == 0) = false := by simp; omega
  have d1 : decide ((i : Int) < (3 : Int)) = false := decide_eq_false (by omega)
  have d2 : decide ((i : Nat) < 3) = false := decide_eq_false (by omega)
  have g1 : decide ((1 : Int) < (m : Int)) = true := decide_eq_true (by omega)
  have g2 : decide ((1 : Nat) < m) = true := decide_eq_true (by omega)
  go_enter Tryz.func60, Tryz.ntmps60
  go_wp2_with (go_at_call 78; refine (line_any L (by omega) _).mono ?_; rintro e w1 ⟨rfl, hb1⟩)
  go_ret
  exact ⟨rfl, (box_low w _).trans (hb1.mono (by simp))⟩
set_option maxHeartbeats 800000 in
theorem gap_7z (s f : ByteArray) (n m gc dc i L : Nat) (ga da : Option Addr) (w : World) (hi : 0 < i) (h : ¬ i < 3) (hm : ¬ 1 < m) :
    Calls Tryz.prog 60 #[.agg #[.int .i64 7, .string s, .slice ga n gc, .slice da m dc], .int .i64 (i : Nat), .string f, .int .i64 (L : Nat)] w (RetS ⟨#[]⟩ w) := by
  have i1 : ((i : Int) == 0) = false := by simp; omega
  have i2 : (i == 0) = false := by simp; omega
  have d1 : decide ((i : Int) < (3 : Int)) = false := decide_eq_false (by omega)
  have d2 : decide ((i : Nat) < 3) = false := decide_eq_false (by omega)
  have g1 : decide ((1 : Int) < (m : Int)) = false := decide_eq_false (by omega)
  have g2 : decide ((1 : Nat) < m) = false := decide_eq_false (by omega)
  go_enter Tryz.func60, Tryz.ntmps60
  go_wp2_with fail
  go_ret
  exact ⟨rfl, box_low _ _⟩
set_option maxHeartbeats 800000 in
theorem gap_2 (s f : ByteArray) (n m gc dc i L : Nat) (ga da : Option Addr) (w : World) (hi : 0 < i) :
    Calls Tryz.prog 60 #[.agg #[.int .i64 2, .string s, .slice ga n gc, .slice da m dc], .int .i64 (i : Nat), .string f, .int .i64 (L : Nat)] w (RetS ⟨#[32]⟩ w) := by
  have i1 : ((i : Int) == 0) = false := by simp; omega
  have i2 : (i == 0) = false := by simp; omega
  go_enter Tryz.func60, Tryz.ntmps60
  go_wp2_with fail
  go_ret
  exact ⟨rfl, box_low _ _⟩
set_option maxHeartbeats 800000 in
theorem gap_8 (s f : ByteArray) (n m gc dc i L : Nat) (ga da : Option Addr) (w : World) (hi : 0 < i) :
    Calls Tryz.prog 60 #[.agg #[.int .i64 8, .string s, .slice ga n gc, .slice da m dc], .int .i64 (i : Nat), .string f, .int .i64 (L : Nat)] w (RetS ⟨#[32]⟩ w) := by
  have i1 : ((i : Int) == 0) = false := by simp; omega
  have i2 : (i == 0) = false := by simp; omega
  go_enter Tryz.func60, Tryz.ntmps60
  go_wp2_with fail
  go_ret
  exact ⟨rfl, box_low _ _⟩
set_option maxHeartbeats 800000 in
theorem gap_9a (s f : ByteArray) (n m gc dc i L : Nat) (ga da : Option Addr) (w : World) (hi : 0 < i) (h : i < 3) :
    Calls Tryz.prog 60 #[.agg #[.int .i64 9, .string s, .slice ga n gc, .slice da m dc], .int .i64 (i : Nat), .string f, .int .i64 (L : Nat)] w (RetS ⟨#[32]⟩ w) := by
  have i1 : ((i : Int) == 0) = false := by simp; omega
  have i2 : (i == 0) = false := by simp; omega
  have d1 : decide ((i : Int) < (3 : Int)) = true := decide_eq_true (by omega)
  have d2 : decide ((i : Nat) < 3) = true := decide_eq_true (by omega)
  go_enter Tryz.func60, Tryz.ntmps60
  go_wp2_with fail
  go_ret
  exact ⟨rfl, box_low _ _⟩
set_option maxHeartbeats 800000 in
theorem gap_9b (s f : ByteArray) (n m gc dc i L : Nat) (ga da : Option Addr) (w : World) (hi : 0 < i) (h : ¬ i < 3) :
    Calls Tryz.prog 60 #[.agg #[.int .i64 9, .string s, .slice ga n gc, .slice da m dc], .int .i64 (i : Nat), .string f, .int .i64 (L : Nat)] w (RetS ⟨#[]⟩ w) := by
  have i1 : ((i : Int) == 0) = false := by simp; omega
  have i2 : (i == 0) = false := by simp; omega
  have d1 : decide ((i : Int) < (3 : Int)) = false := decide_eq_false (by omega)
  have d2 : decide ((i : Nat) < 3) = false := decide_eq_false (by omega)
  go_enter Tryz.func60, Tryz.ntmps60
  go_wp2_with fail
  go_ret
  exact ⟨rfl, box_low _ _⟩
set_option maxHeartbeats 800000 in
theorem gap_10a (s f : ByteArray) (n m gc dc i L : Nat) (ga da : Option Addr) (w : World) (hi : 0 < i) (h : i < 3) :
    Calls Tryz.prog 60 #[.agg #[.int .i64 10, .string s, .slice ga n gc, .slice da m dc], .int .i64 (i : Nat), .string f, .int .i64 (L : Nat)] w (RetS ⟨#[32]⟩ w) := by
  have i1 : ((i : Int) == 0) = false := by simp; omega
  have i2 : (i == 0) = false := by simp; omega
  have d1 : decide ((i : Int) < (3 : Int)) = true := decide_eq_true (by omega)
  have d2 : decide ((i : Nat) < 3) = true := decide_eq_true (by omega)
  go_enter Tryz.func60, Tryz.ntmps60
  go_wp2_with fail
  go_ret
  exact ⟨rfl, box_low _ _⟩
set_option maxHeartbeats 800000 in
theorem gap_10b (s f : ByteArray) (n m gc dc i L : Nat) (ga da : Option Addr) (w : World) (hi : 0 < i) (h : ¬ i < 3) :
    Calls Tryz.prog 60 #[.agg #[.int .i64 10, .string s, .slice ga n gc, .slice da m dc], .int .i64 (i : Nat), .string f, .int .i64 (L : Nat)] w (RetS ⟨#[]⟩ w) := by
  have i1 : ((i : Int) == 0) = false := by simp; omega
  have i2 : (i == 0) = false := by simp; omega
  have d1 : decide ((i : Int) < (3 : Int)) = false := decide_eq_false (by omega)
  have d2 : decide ((i : Nat) < 3) = false := decide_eq_false (by omega)
  go_enter Tryz.func60, Tryz.ntmps60
  go_wp2_with fail
  go_ret
  exact ⟨rfl, box_low _ _⟩
set_option maxHeartbeats 800000 in
theorem gap_11a (s f : ByteArray) (n m gc dc i L : Nat) (ga da : Option Addr) (w : World) (h : i = 1) :
    Calls Tryz.prog 60 #[.agg #[.int .i64 11, .string s, .slice ga n gc, .slice da m dc], .int .i64 (i : Nat), .string f, .int .i64 (L : Nat)] w (RetS ⟨#[32]⟩ w) := by
  subst h
  go_enter Tryz.func60, Tryz.ntmps60
  go_wp2_with fail
  go_ret
  exact ⟨rfl, box_low _ _⟩
set_option maxHeartbeats 800000 in
theorem gap_11b (s f : ByteArray) (n m gc dc i L : Nat) (ga da : Option Addr) (w : World) (hi : 0 < i) (h : ¬ i = 1) :
    Calls Tryz.prog 60 #[.agg #[.int .i64 11, .string s, .slice ga n gc, .slice da m dc], .int .i64 (i : Nat), .string f, .int .i64 (L : Nat)] w (RetS ⟨#[]⟩ w) := by
  have i1 : ((i : Int) == 0) = false := by simp; omega
  have i2 : (i == 0) = false := by simp; omega
  have d1 : ((i : Int) == 1) = false := by simp; omega
  have d2 : (i == 1) = false := by simp; omega
  go_enter Tryz.func60, Tryz.ntmps60
  go_wp2_with fail
  go_ret
  exact ⟨rfl, box_low _ _⟩
set_option maxHeartbeats 800000 in
theorem gap_22a (s f : ByteArray) (n m gc dc i L : Nat) (ga da : Option Addr) (w : World) (h : i = 1) :
    Calls Tryz.prog 60 #[.agg #[.int .i64 22, .string s, .slice ga n gc, .slice da m dc], .int .i64 (i : Nat), .string f, .int .i64 (L : Nat)] w (RetS ⟨#[32]⟩ w) := by
  subst h
  go_enter Tryz.func60, Tryz.ntmps60
  go_wp2_with fail
  go_ret
  exact ⟨rfl, box_low _ _⟩
set_option maxHeartbeats 800000 in
theorem gap_22b (s f : ByteArray) (n m gc dc i L : Nat) (ga da : Option Addr) (w : World) (hi : 0 < i) (h : ¬ i = 1) :
    Calls Tryz.prog 60 #[.agg #[.int .i64 22, .string s, .slice ga n gc, .slice da m dc], .int .i64 (i : Nat), .string f, .int .i64 (L : Nat)] w (RetS ⟨#[]⟩ w) := by
  have i1 : ((i : Int) == 0) = false := by simp; omega
  have i2 : (i == 0) = false := by simp; omega
  have d1 : ((i : Int) == 1) = false := by simp; omega
  have d2 : (i == 1) = false := by simp; omega
  go_enter Tryz.func60, Tryz.ntmps60
  go_wp2_with fail
  go_ret
  exact ⟨rfl, box_low _ _⟩
set_option maxHeartbeats 800000 in
theorem gap_rest (k : Int) (s f : ByteArray) (n m gc dc i L : Nat) (ga da : Option Addr) (w : World) (hi : 0 < i) (n1 : ¬ k = 1) (n24 : ¬ k = 24) (n21 : ¬ k = 21) (n16 : ¬ k = 16) (n6 : ¬ k = 6) (n7 : ¬ k = 7) (n2 : ¬ k = 2) (n8 : ¬ k = 8) (n9 : ¬ k = 9) (n10 : ¬ k = 10) (n11 : ¬ k = 11) (n22 : ¬ k = 22) :
    Calls Tryz.prog 60 #[.agg #[.int .i64 k, .string s, .slice ga n gc, .slice da m dc], .int .i64 (i : Nat), .string f, .int .i64 (L : Nat)] w (RetS ⟨#[]⟩ w) := by
  have i1 : ((i : Int) == 0) = false := by simp; omega
  have i2 : (i == 0) = false := by simp; omega
  have b1 : (k == 1) = false := by simpa using n1
  have b24 : (k == 24) = false := by simpa using n24
  have b21 : (k == 21) = false := by simpa using n21
  have b16 : (k == 16) = false := by simpa using n16
  have b6 : (k == 6) = false := by simpa using n6
  have b7 : (k == 7) = false := by simpa using n7
  have b2 : (k == 2) = false := by simpa using n2
  have b8 : (k == 8) = false := by simpa using n8
  have b9 : (k == 9) = false := by simpa using n9
  have b10 : (k == 10) = false := by simpa using n10
  have b11 : (k == 11) = false := by simpa using n11
  have b22 : (k == 22) = false := by simpa using n22
  go_enter Tryz.func60, Tryz.ntmps60
  go_wp2_with fail
  go_ret
  exact ⟨rfl, box_low _ _⟩
theorem gap_any (k : Int) (s f : ByteArray) (n m gc dc i L : Nat) (ga da : Option Addr) (w : World) (hL : L ≤ 10000) :
    Calls Tryz.prog 60 #[.agg #[.int .i64 k, .string s, .slice ga n gc, .slice da m dc], .int .i64 (i : Nat), .string f, .int .i64 (L : Nat)] w (RetS (Pl.rgap k m i f L) w) := by
  by_cases e1 : k = 1
  · subst e1
    by_cases h : 0 < m
    · rw [show Pl.rgap 1 m i f L = if 0 < m then _ else _ from rfl, if_pos h]; exact gap_1p s f n m gc dc i L ga da w h
    · rw [show Pl.rgap 1 m i f L = if 0 < m then _ else _ from rfl, if_neg h]; exact gap_1z s f n m gc dc i L ga da w (by omega)
  by_cases e24 : k = 24
  · subst e24; exact gap_24 s f n m gc dc i L ga da w
  by_cases e21 : k = 21
  · subst e21; exact gap_21 s f n m gc dc i L ga da w
  by_cases e16 : k = 16
  · subst e16; exact gap_16 s f n m gc dc i L ga da w
  have hr : Pl.rgap k m i f L = if i = 0 then f else Pl.rgap k m i f L := by
    split
    · rename_i h; unfold Pl.rgap; rw [if_neg e1, if_neg e24, if_neg (by omega), if_pos h]
    · rfl
  rw [hr]
  by_cases h0 : i = 0
  · rw [if_pos h0]; exact gap_0 k s f n m gc dc i L ga da w h0 e1 e24 e21 e16
  rw [if_neg h0]
  have hi : 0 < i := by omega
  unfold Pl.rgap
  rw [if_neg e1, if_neg e24, if_neg (by omega), if_neg h0]
  by_cases e6 : k = 6
  · subst e6
    rw [if_pos rfl]
    by_cases h : 0 < m
    · rw [if_pos h]; exact gap_6p s f n m gc dc i L ga da w hi h hL
    · rw [if_neg h]; exact gap_6z s f n m gc dc i L ga da w hi (by omega)
  rw [if_neg e6]
  by_cases e7 : k = 7
  · subst e7
    rw [if_pos rfl]
    by_cases h : i < 3
    · rw [if_pos h]; exact gap_7a s f n m gc dc i L ga da w hi h
    · rw [if_neg h]
      by_cases hm : 1 < m
      · rw [if_pos hm]; exact gap_7p s f n m gc dc i L ga da w hi h hm hL
      · rw [if_neg hm]; exact gap_7z s f n m gc dc i L ga da w hi h hm
  rw [if_neg e7]
  by_cases e2 : k = 2
  · subst e2; rw [if_pos (by omega)]; exact gap_2 s f n m gc dc i L ga da w hi
  by_cases e8 : k = 8
  · subst e8; rw [if_pos (by omega)]; exact gap_8 s f n m gc dc i L ga da w hi
  rw [if_neg (by omega)]
  by_cases e9 : k = 9
  · subst e9
    rw [if_pos (by omega)]
    by_cases h : i < 3
    · rw [if_pos h]; exact gap_9a s f n m gc dc i L ga da w hi h
    · rw [if_neg h]; exact gap_9b s f n m gc dc i L ga da w hi h
  by_cases e10 : k = 10
  · subst e10
    rw [if_pos (by omega)]
    by_cases h : i < 3
    · rw [if_pos h]; exact gap_10a s f n m gc dc i L ga da w hi h
    · rw [if_neg h]; exact gap_10b s f n m gc dc i L ga da w hi h
  rw [if_neg (by omega)]
  by_cases e11 : k = 11
  · subst e11
    rw [if_pos (by omega)]
    by_cases h : i = 1
    · rw [if_pos h]; exact gap_11a s f n m gc dc i L ga da w h
    · rw [if_neg h]; exact gap_11b s f n m gc dc i L ga da w hi h
  by_cases e22 : k = 22
  · subst e22
    rw [if_pos (by omega)]
    by_cases h : i = 1
    · rw [if_pos h]; exact gap_22a s f n m gc dc i L ga da w h
    · rw [if_neg h]; exact gap_22b s f n m gc dc i L ga da w hi h
  rw [if_neg (by omega)]
  exact gap_rest k s f n m gc dc i L ga da w hi e1 e24 e21 e16 e6 e7 e2 e8 e9 e10 e11 e22
set_option maxHeartbeats 800000 in
theorem kid_1z (s f : ByteArray) (n m gc dc i L : Nat) (ga da : Option Addr) (w : World) (h : i = 0) :
    Calls Tryz.prog 58 #[.agg #[.int .i64 1, .string s, .slice ga n gc, .slice da m dc], .int .i64 (i : Nat), .string f, .int .i64 (L : Nat)] w (RetS f w) := by
  subst h
  go_enter Tryz.func58, Tryz.ntmps58
  go_wp2_with fail
  go_ret
  exact ⟨rfl, box_low _ _⟩
set_option maxHeartbeats 800000 in
theorem kid_1p (s f : ByteArray) (n m gc dc i L : Nat) (ga da : Option Addr) (w : World) (hi : 0 < i) :
    Calls Tryz.prog 58 #[.agg #[.int .i64 1, .string s, .slice ga n gc, .slice da m dc], .int .i64 (i : Nat), .string f, .int .i64 (L : Nat)] w (RetS ⟨#[10, 10]⟩ w) := by
  have i1 : ((i : Int) == 0) = false := by simp; omega
  have i2 : (i == 0) = false := by simp; omega
  go_enter Tryz.func58, Tryz.ntmps58
  go_wp2_with fail
  go_ret
  exact ⟨rfl, box_low _ _⟩
set_option maxHeartbeats 800000 in
theorem kid_2z (s f : ByteArray) (n m gc dc i L : Nat) (ga da : Option Addr) (w : World) (h : i = 0) :
    Calls Tryz.prog 58 #[.agg #[.int .i64 2, .string s, .slice ga n gc, .slice da m dc], .int .i64 (i : Nat), .string f, .int .i64 (L : Nat)] w (RetS ⟨#[]⟩ w) := by
  subst h
  go_enter Tryz.func58, Tryz.ntmps58
  go_wp2_with fail
  go_ret
  exact ⟨rfl, box_low _ _⟩
set_option maxHeartbeats 800000 in
theorem kid_2p (s f : ByteArray) (n m gc dc i L : Nat) (ga da : Option Addr) (w : World) (hi : 0 < i) :
    Calls Tryz.prog 58 #[.agg #[.int .i64 2, .string s, .slice ga n gc, .slice da m dc], .int .i64 (i : Nat), .string f, .int .i64 (L : Nat)] w (RetS ⟨#[32]⟩ w) := by
  have i1 : ((i : Int) == 0) = false := by simp; omega
  have i2 : (i == 0) = false := by simp; omega
  go_enter Tryz.func58, Tryz.ntmps58
  go_wp2_with fail
  go_ret
  exact ⟨rfl, box_low _ _⟩
set_option maxHeartbeats 800000 in
theorem kid_3z (s f : ByteArray) (n m gc dc i L : Nat) (ga da : Option Addr) (w : World) (h : i = 0) :
    Calls Tryz.prog 58 #[.agg #[.int .i64 3, .string s, .slice ga n gc, .slice da m dc], .int .i64 (i : Nat), .string f, .int .i64 (L : Nat)] w (RetS ⟨#[]⟩ w) := by
  subst h
  go_enter Tryz.func58, Tryz.ntmps58
  go_wp2_with fail
  go_ret
  exact ⟨rfl, box_low _ _⟩
set_option maxHeartbeats 800000 in
theorem kid_3p (s f : ByteArray) (n m gc dc i L : Nat) (ga da : Option Addr) (w : World) (hi : 0 < i) :
    Calls Tryz.prog 58 #[.agg #[.int .i64 3, .string s, .slice ga n gc, .slice da m dc], .int .i64 (i : Nat), .string f, .int .i64 (L : Nat)] w (RetS ⟨#[32]⟩ w) := by
  have i1 : ((i : Int) == 0) = false := by simp; omega
  have i2 : (i == 0) = false := by simp; omega
  go_enter Tryz.func58, Tryz.ntmps58
  go_wp2_with fail
  go_ret
  exact ⟨rfl, box_low _ _⟩
set_option maxHeartbeats 800000 in
theorem kid_20z (s f : ByteArray) (n m gc dc i L : Nat) (ga da : Option Addr) (w : World) (h : i = 0) :
    Calls Tryz.prog 58 #[.agg #[.int .i64 20, .string s, .slice ga n gc, .slice da m dc], .int .i64 (i : Nat), .string f, .int .i64 (L : Nat)] w (RetS ⟨#[]⟩ w) := by
  subst h
  go_enter Tryz.func58, Tryz.ntmps58
  go_wp2_with fail
  go_ret
  exact ⟨rfl, box_low _ _⟩
set_option maxHeartbeats 800000 in
theorem kid_20p (s f : ByteArray) (n m gc dc i L : Nat) (ga da : Option Addr) (w : World) (hi : 0 < i) :
    Calls Tryz.prog 58 #[.agg #[.int .i64 20, .string s, .slice ga n gc, .slice da m dc], .int .i64 (i : Nat), .string f, .int .i64 (L : Nat)] w (RetS ⟨#[32]⟩ w) := by
  have i1 : ((i : Int) == 0) = false := by simp; omega
  have i2 : (i == 0) = false := by simp; omega
  go_enter Tryz.func58, Tryz.ntmps58
  go_wp2_with fail
  go_ret
  exact ⟨rfl, box_low _ _⟩
set_option maxHeartbeats 800000 in
theorem kid_24z (s f : ByteArray) (n m gc dc i L : Nat) (ga da : Option Addr) (w : World) (h : i = 0) :
    Calls Tryz.prog 58 #[.agg #[.int .i64 24, .string s, .slice ga n gc, .slice da m dc], .int .i64 (i : Nat), .string f, .int .i64 (L : Nat)] w (RetS f w) := by
  subst h
  go_enter Tryz.func58, Tryz.ntmps58
  go_wp2_with fail
  go_ret
  exact ⟨rfl, box_low _ _⟩
set_option maxHeartbeats 800000 in
theorem kid_24p (s f : ByteArray) (n m gc dc i L : Nat) (ga da : Option Addr) (w : World) (hi : 0 < i) :
    Calls Tryz.prog 58 #[.agg #[.int .i64 24, .string s, .slice ga n gc, .slice da m dc], .int .i64 (i : Nat), .string f, .int .i64 (L : Nat)] w (RetS ⟨#[32]⟩ w) := by
  have i1 : ((i : Int) == 0) = false := by simp; omega
  have i2 : (i == 0) = false := by simp; omega
  go_enter Tryz.func58, Tryz.ntmps58
  go_wp2_with fail
  go_ret
  exact ⟨rfl, box_low _ _⟩
set_option maxHeartbeats 800000 in
theorem kid_21z (s f : ByteArray) (n m gc dc i L : Nat) (ga da : Option Addr) (w : World) (h : i = 0) :
    Calls Tryz.prog 58 #[.agg #[.int .i64 21, .string s, .slice ga n gc, .slice da m dc], .int .i64 (i : Nat), .string f, .int .i64 (L : Nat)] w (RetS f w) := by
  subst h
  go_enter Tryz.func58, Tryz.ntmps58
  go_wp2_with fail
  go_ret
  exact ⟨rfl, box_low _ _⟩
set_option maxHeartbeats 800000 in
theorem kid_21a (s f : ByteArray) (n m gc dc i L : Nat) (ga da : Option Addr) (w : World) (h : i = 1) :
    Calls Tryz.prog 58 #[.agg #[.int .i64 21, .string s, .slice ga n gc, .slice da m dc], .int .i64 (i : Nat), .string f, .int .i64 (L : Nat)] w (RetS ⟨#[]⟩ w) := by
  subst h
  go_enter Tryz.func58, Tryz.ntmps58
  go_wp2_with fail
  go_ret
  exact ⟨rfl, box_low _ _⟩
set_option maxHeartbeats 800000 in
theorem kid_21b (s f : ByteArray) (n m gc dc i L : Nat) (ga da : Option Addr) (w : World) (hi : 0 < i) (h : ¬ i = 1) :
    Calls Tryz.prog 58 #[.agg #[.int .i64 21, .string s, .slice ga n gc, .slice da m dc], .int .i64 (i : Nat), .string f, .int .i64 (L : Nat)] w (RetS ⟨#[32]⟩ w) := by
  have i1 : ((i : Int) == 0) = false := by simp; omega
  have i2 : (i == 0) = false := by simp; omega
  have d1 : ((i : Int) == 1) = false := by simp; omega
  have d2 : (i == 1) = false := by simp; omega
  go_enter Tryz.func58, Tryz.ntmps58
  go_wp2_with fail
  go_ret
  exact ⟨rfl, box_low _ _⟩
set_option maxHeartbeats 800000 in
theorem kid_6 (s f : ByteArray) (n m gc dc i L : Nat) (ga da : Option Addr) (w : World) (hL : L ≤ 10000) :
    Calls Tryz.prog 58 #[.agg #[.int .i64 6, .string s, .slice ga n gc, .slice da m dc], .int .i64 (i : Nat), .string f, .int .i64 (L : Nat)] w (RetS (Pl.nl (L + 1)) w) := by
  go_enter Tryz.func58, Tryz.ntmps58
  go_wp2_with (go_at_call 78; refine (line_succ L (by omega) _).mono ?_; rintro e w1 ⟨rfl, hb1⟩)
  go_ret
  exact ⟨rfl, (box_low w _).trans (hb1.mono (by simp))⟩
set_option maxHeartbeats 800000 in
theorem kid_7z (s f : ByteArray) (n m gc dc i L : Nat) (ga da : Option Addr) (w : World) (h : i = 0) :
    Calls Tryz.prog 58 #[.agg #[.int .i64 7, .string s, .slice ga n gc, .slice da m dc], .int .i64 (i : Nat), .string f, .int .i64 (L : Nat)] w (RetS ⟨#[32]⟩ w) := by
  subst h
  go_enter Tryz.func58, Tryz.ntmps58
  go_wp2_with fail
  go_ret
  exact ⟨rfl, box_low _ _⟩
set_option maxHeartbeats 800000 in
theorem kid_7p (s f : ByteArray) (n m gc dc i L : Nat) (ga da : Option Addr) (w : World) (hi : 0 < i) (hL : L ≤ 10000) :
    Calls Tryz.prog 58 #[.agg #[.int .i64 7, .string s, .slice ga n gc, .slice da m dc], .int .i64 (i : Nat), .string f, .int .i64 (L : Nat)] w (RetS (Pl.nl (L + 1)) w) := by
  have i1 : ((i : Int) == 0) = false := by simp; omega
  have i2 : (i == 0) = false := by simp; omega
  go_enter Tryz.func58, Tryz.ntmps58
  go_wp2_with (go_at_call 78; refine (line_succ L (by omega) _).mono ?_; rintro e w1 ⟨rfl, hb1⟩)
  go_ret
  exact ⟨rfl, (box_low w _).trans (hb1.mono (by simp))⟩
set_option maxHeartbeats 800000 in
theorem kid_16 (s f : ByteArray) (n m gc dc i L : Nat) (ga da : Option Addr) (w : World) :
    Calls Tryz.prog 58 #[.agg #[.int .i64 16, .string s, .slice ga n gc, .slice da m dc], .int .i64 (i : Nat), .string f, .int .i64 (L : Nat)] w (RetS f w) := by
  go_enter Tryz.func58, Tryz.ntmps58
  go_wp2_with fail
  go_ret
  exact ⟨rfl, box_low _ _⟩
set_option maxHeartbeats 800000 in
theorem kid_25 (s f : ByteArray) (n m gc dc i L : Nat) (ga da : Option Addr) (w : World) :
    Calls Tryz.prog 58 #[.agg #[.int .i64 25, .string s, .slice ga n gc, .slice da m dc], .int .i64 (i : Nat), .string f, .int .i64 (L : Nat)] w (RetS ⟨#[]⟩ w) := by
  go_enter Tryz.func58, Tryz.ntmps58
  go_wp2_with fail
  go_ret
  exact ⟨rfl, box_low _ _⟩
set_option maxHeartbeats 800000 in
theorem kid_26 (s f : ByteArray) (n m gc dc i L : Nat) (ga da : Option Addr) (w : World) :
    Calls Tryz.prog 58 #[.agg #[.int .i64 26, .string s, .slice ga n gc, .slice da m dc], .int .i64 (i : Nat), .string f, .int .i64 (L : Nat)] w (RetS ⟨#[]⟩ w) := by
  go_enter Tryz.func58, Tryz.ntmps58
  go_wp2_with fail
  go_ret
  exact ⟨rfl, box_low _ _⟩
set_option maxHeartbeats 800000 in
theorem kid_rest (k : Int) (s f : ByteArray) (n m gc dc i L : Nat) (ga da : Option Addr) (w : World) (n1 : ¬ k = 1) (n2 : ¬ k = 2) (n3 : ¬ k = 3) (n20 : ¬ k = 20) (n21 : ¬ k = 21) (n6 : ¬ k = 6) (n7 : ¬ k = 7) (n24 : ¬ k = 24) (n16 : ¬ k = 16) (n25 : ¬ k = 25) (n26 : ¬ k = 26) :
    Calls Tryz.prog 58 #[.agg #[.int .i64 k, .string s, .slice ga n gc, .slice da m dc], .int .i64 (i : Nat), .string f, .int .i64 (L : Nat)] w (RetS ⟨#[32]⟩ w) := by
  have b1 : (k == 1) = false := by simpa using n1
  have b2 : (k == 2) = false := by simpa using n2
  have b3 : (k == 3) = false := by simpa using n3
  have b20 : (k == 20) = false := by simpa using n20
  have b21 : (k == 21) = false := by simpa using n21
  have b6 : (k == 6) = false := by simpa using n6
  have b7 : (k == 7) = false := by simpa using n7
  have b24 : (k == 24) = false := by simpa using n24
  have b16 : (k == 16) = false := by simpa using n16
  have b25 : (k == 25) = false := by simpa using n25
  have b26 : (k == 26) = false := by simpa using n26
  go_enter Tryz.func58, Tryz.ntmps58
  go_wp2_with fail
  go_ret
  exact ⟨rfl, box_low _ _⟩
theorem kid_any (k : Int) (s f : ByteArray) (n m gc dc i L : Nat) (ga da : Option Addr) (w : World) (hL : L ≤ 10000) :
    Calls Tryz.prog 58 #[.agg #[.int .i64 k, .string s, .slice ga n gc, .slice da m dc], .int .i64 (i : Nat), .string f, .int .i64 (L : Nat)] w (RetS (Pl.rkid k i f L) w) := by
  unfold Pl.rkid
  by_cases e1 : k = 1
  · subst e1; rw [if_pos rfl]; by_cases h : i = 0
    · rw [if_pos h]; exact kid_1z s f n m gc dc i L ga da w h
    · rw [if_neg h]; exact kid_1p s f n m gc dc i L ga da w (by omega)
  rw [if_neg e1]
  by_cases e2 : k = 2
  · subst e2; rw [if_pos rfl]; by_cases h : i = 0
    · rw [if_pos h]; exact kid_2z s f n m gc dc i L ga da w h
    · rw [if_neg h]; exact kid_2p s f n m gc dc i L ga da w (by omega)
  rw [if_neg e2]
  by_cases e3 : k = 3
  · subst e3; rw [if_pos (by omega)]; by_cases h : i = 0
    · rw [if_pos h]; exact kid_3z s f n m gc dc i L ga da w h
    · rw [if_neg h]; exact kid_3p s f n m gc dc i L ga da w (by omega)
  by_cases e20 : k = 20
  · subst e20; rw [if_pos (by omega)]; by_cases h : i = 0
    · rw [if_pos h]; exact kid_20z s f n m gc dc i L ga da w h
    · rw [if_neg h]; exact kid_20p s f n m gc dc i L ga da w (by omega)
  rw [if_neg (by omega)]
  by_cases e21 : k = 21
  · subst e21; rw [if_pos rfl]; by_cases h : i = 0
    · rw [if_pos h]; exact kid_21z s f n m gc dc i L ga da w h
    · rw [if_neg h]
      by_cases h1 : i = 1
      · rw [if_pos h1]; exact kid_21a s f n m gc dc i L ga da w h1
      · rw [if_neg h1]; exact kid_21b s f n m gc dc i L ga da w (by omega) h1
  rw [if_neg e21]
  by_cases e6 : k = 6
  · subst e6; rw [if_pos rfl]; exact kid_6 s f n m gc dc i L ga da w hL
  rw [if_neg e6]
  by_cases e7 : k = 7
  · subst e7; rw [if_pos rfl]; by_cases h : i = 0
    · rw [if_pos h]; exact kid_7z s f n m gc dc i L ga da w h
    · rw [if_neg h]; exact kid_7p s f n m gc dc i L ga da w (by omega) hL
  rw [if_neg e7]
  by_cases e24 : k = 24
  · subst e24; rw [if_pos rfl]; by_cases h : i = 0
    · rw [if_pos h]; exact kid_24z s f n m gc dc i L ga da w h
    · rw [if_neg h]; exact kid_24p s f n m gc dc i L ga da w (by omega)
  rw [if_neg e24]
  by_cases e16 : k = 16
  · subst e16; rw [if_pos rfl]; exact kid_16 s f n m gc dc i L ga da w
  rw [if_neg e16]
  by_cases e25 : k = 25
  · subst e25; rw [if_pos (by omega)]; exact kid_25 s f n m gc dc i L ga da w
  by_cases e26 : k = 26
  · subst e26; rw [if_pos (by omega)]; exact kid_26 s f n m gc dc i L ga da w
  rw [if_neg (by omega)]
  exact kid_rest k s f n m gc dc i L ga da w e1 e2 e3 e20 e21 e6 e7 e24 e16 e25 e26
set_option maxHeartbeats 800000 in
theorem inner_6 (s : ByteArray) (n m gc dc L : Nat) (ga da : Option Addr) (w : World) (hL : L ≤ 10000) :
    Calls Tryz.prog 59 #[.agg #[.int .i64 6, .string s, .slice ga n gc, .slice da m dc], .int .i64 (L : Nat)] w fun e w' => e = .returned (.int .i64 ((L : Int) + 1)) ∧ Below w.heap.size w w' := by
  go_enter Tryz.func59, Tryz.ntmps59
  go_wp2_with fail
  go_ret
  exact ⟨rfl, box_low _ _⟩
set_option maxHeartbeats 800000 in
theorem inner_7 (s : ByteArray) (n m gc dc L : Nat) (ga da : Option Addr) (w : World) (hL : L ≤ 10000) :
    Calls Tryz.prog 59 #[.agg #[.int .i64 7, .string s, .slice ga n gc, .slice da m dc], .int .i64 (L : Nat)] w fun e w' => e = .returned (.int .i64 ((L : Int) + 1)) ∧ Below w.heap.size w w' := by
  go_enter Tryz.func59, Tryz.ntmps59
  go_wp2_with fail
  go_ret
  exact ⟨rfl, box_low _ _⟩
set_option maxHeartbeats 800000 in
theorem inner_rest (k : Int) (s : ByteArray) (n m gc dc L : Nat) (ga da : Option Addr) (w : World) (hL : L ≤ 10000) (n6 : ¬ k = 6) (n7 : ¬ k = 7) :
    Calls Tryz.prog 59 #[.agg #[.int .i64 k, .string s, .slice ga n gc, .slice da m dc], .int .i64 (L : Nat)] w fun e w' => e = .returned (.int .i64 ((L : Int))) ∧ Below w.heap.size w w' := by
  have b6 : (k == 6) = false := by simpa using n6
  have b7 : (k == 7) = false := by simpa using n7
  go_enter Tryz.func59, Tryz.ntmps59
  go_wp2_with fail
  go_ret
  exact ⟨rfl, box_low _ _⟩
theorem inner_any (k : Int) (s : ByteArray) (n m gc dc L : Nat) (ga da : Option Addr) (w : World) (hL : L ≤ 10000) :
    Calls Tryz.prog 59 #[.agg #[.int .i64 k, .string s, .slice ga n gc, .slice da m dc], .int .i64 (L : Nat)] w fun e w' => e = .returned (.int .i64 (Pl.inside k L : Nat)) ∧ Below w.heap.size w w' := by
  unfold Pl.inside
  by_cases e6 : k = 6
  · subst e6; rw [if_pos (by omega)]; exact inner_6 s n m gc dc L ga da w hL
  by_cases e7 : k = 7
  · subst e7; rw [if_pos (by omega)]; exact inner_7 s n m gc dc L ga da w hL
  rw [if_neg (by omega)]
  exact inner_rest k s n m gc dc L ga da w hL e6 e7
/-- What put answers. -/
def putS (s last space word : ByteArray) : ByteArray := if Pl.join8 last space word = true then s ++ ⟨#[32]⟩ ++ space ++ word else s ++ space ++ word
theorem toList_ne {s : ByteArray} (h : s.toList ≠ []) : (s.toList == []) = false := by simpa using h
set_option maxHeartbeats 1600000 in
theorem put_any (s last space word : ByteArray) (w : World) (h1 : s.size ≤ 1000000) (h2 : last.size ≤ 1000000) (h3 : space.size ≤ 1000000) (h4 : word.size ≤ 1000000) :
    Calls Tryz.prog 61 #[.string s, .string last, .string space, .string word] w fun e w' => e = .returned (.string (putS s last space word)) ∧ w = w' := by
  obtain ⟨j, hj⟩ : ∃ j, Pl.join8 last space word = j := ⟨_, rfl⟩
  have he : putS s last space word = if j = true then s ++ ⟨#[32]⟩ ++ space ++ word else s ++ space ++ word := by unfold putS; rw [hj]
  rw [he]
  clear he
  unfold Pl.join8 at hj
  rcases Nat.eq_zero_or_pos space.size with h0 | h0
  · rw [if_pos h0] at hj
    obtain rfl := Pl.size_zero space h0
    have HC := Lib.hid (Tk.rglue_is last word j hj w (by unfold maxLen; omega))
    clear hj h0 h3
    cases j with
    | false =>
      by_cases h47 : last.data.toList = [47]
      · obtain rfl : last = ⟨#[47]⟩ := Pl.list_ext h47
        clear h47
        go_enter Tryz.func61, Tryz.ntmps61
        go_wp2_with (go_at_call 79; refine HC.out.mono ?_; rintro e w' ⟨rfl, rfl⟩)
        go_ret
        exact ⟨by simp, rfl⟩
      · have hb8 : (last.toList == [47]) = false := by rw [Pl.toList_eq]; simpa using h47
        clear h47
        go_enter Tryz.func61, Tryz.ntmps61
        go_wp2_with (go_at_call 79; refine HC.out.mono ?_; rintro e w' ⟨rfl, rfl⟩)
        go_ret
        exact ⟨by simp, rfl⟩
    | true =>
      go_enter Tryz.func61, Tryz.ntmps61
      go_wp2_with (go_at_call 79; refine HC.out.mono ?_; rintro e w' ⟨rfl, rfl⟩)
      go_ret
      exact ⟨by simp, rfl⟩
  · rw [if_neg (by omega)] at hj
    obtain ⟨n1, n2, n3⟩ := Pl.not_empty space h0
    have n4 := toList_ne n1
    have n5 : (space.toList != []) = true := by rw [bne, n4]; rfl
    by_cases h47 : last.data.toList = [47]
    · obtain rfl : last = ⟨#[47]⟩ := Pl.list_ext h47
      have hj2 : (space.data.toList.head? == some 47) = j := by rw [← hj]; simp
      have hget : ∀ (h : 0 < space.size), ((((space[0]'h).toNat : Nat) : Int) == 47) = j := fun h => by
        rw [← hj2, Pl.head_get space h, Bool.eq_iff_iff]
        simp only [beq_iff_eq, Option.some.injEq]
        exact ⟨fun h => UInt8.toNat_inj.1 (by show _ = 47; omega), fun h => by rw [h]; rfl⟩
      have h00 := hget h0
      clear hj h47 hj2 hget
      cases j with
      | false =>
        go_enter Tryz.func61, Tryz.ntmps61
        go_wp2_with fail
        go_ret
        exact ⟨by simp, rfl⟩
      | true =>
        go_enter Tryz.func61, Tryz.ntmps61
        go_wp2_with fail
        go_ret
        exact ⟨by simp, rfl⟩
    · have hb7 : (last.data.toList == [47]) = false := by simpa using h47
      have hb8 : (last.toList == [47]) = false := by rw [Pl.toList_eq]; exact hb7
      rw [hb7, Bool.false_and] at hj
      subst hj
      clear h47
      go_enter Tryz.func61, Tryz.ntmps61
      go_wp2_with fail
      go_ret
      exact ⟨by simp, rfl⟩
end Go.Proofs.YtiaajpdcacdngaaGreatDoor.Rf
