/- The walks of isWord, rightWord, rightName, and of the reference's named, word. -/
import Derived.Test.YtmfmlkdojgbhfaaDoorWalkLevel
import Derived.Test.YtmfmlkdojgbhfaaDoorWalkInt
import Derived.Test.YtmfmlkdojgbhfaaDoorWalkValid
namespace Go.Proofs.YtmfmlkdojgbhfaaDoor
open Go.RowKit
set_option linter.unusedVariables false
set_option linter.unusedSimpArgs false

theorem empty_of (s : ByteArray) (h : s.size = 0) : s.toList.isEmpty = true := by rw [Pl.toList_eq, List.isEmpty_iff_length_eq_zero, ← Lib.size_eq]; exact h
theorem box_drewN (w : World) (o : Obj) (n : Nat) : Below w.heap.size w ((w.alloc o).drewN n) := ((Below.refl _ _).alloc (Nat.le_refl _) o).trans ((below_drewN _ n).mono (by simp))
/-- A string against two literals. -/
theorem two_cases (s : ByteArray) (a b : List UInt8) : s = ⟨a.toArray⟩ ∨ s = ⟨b.toArray⟩ ∨ ((s.toList == a) = false ∧ (s.toList == b) = false ∧ (s.data.toList == a) = false ∧ (s.data.toList == b) = false) := by
  by_cases h1 : s.data.toList = a
  · exact .inl (str_of s _ h1)
  by_cases h2 : s.data.toList = b
  · exact .inr (.inl (str_of s _ h2))
  exact .inr (.inr ⟨str_no s _ h1, str_no s _ h2, by simpa using h1, by simpa using h2⟩)
theorem isW_18 (s : ByteArray) : Pl.isW 18 s = (s.data.toList == [116, 114, 117, 101] || s.data.toList == [102, 97, 108, 115, 101]) := rfl
theorem isW_23 (s : ByteArray) : Pl.isW 23 s = (s.data.toList == [115, 101, 108, 102]) := rfl
theorem isW_25 (s : ByteArray) : Pl.isW 25 s = (s.data.toList == [45] || s.data.toList == [33]) := rfl
theorem isW_rest (k : Int) (s : ByteArray) (h1 : ¬ k = 18) (h2 : ¬ k = 23) (h3 : ¬ k = 25) : Pl.isW k s = decide (0 < Pl.lvo s) := by unfold Pl.isW; rw [if_neg h1, if_neg h2, if_neg h3]

theorem isWord_any (k : Int) (s : ByteArray) (n m gc dc : Nat) (ga da : Option Addr) (w : World) :
    Calls Tryd.prog 52 #[.agg #[.int .i64 k, .string s, .slice ga n gc, .slice da m dc]] w fun e w' => e = .returned (.bool (Pl.isW k s)) ∧ Below w.heap.size w w' := by
  by_cases e18 : k = 18
  · subst e18
    rw [isW_18]
    rcases two_cases s [116, 114, 117, 101] [102, 97, 108, 115, 101] with rfl | rfl | ⟨h1, h2, h3, h4⟩
    · go_enter Tryd.func52, Tryd.ntmps52
      go_wp2_with fail
      go_ret
      exact ⟨rfl, (Below.refl _ _).alloc (Nat.le_refl _) _⟩
    · go_enter Tryd.func52, Tryd.ntmps52
      go_wp2_with fail
      go_ret
      exact ⟨rfl, (Below.refl _ _).alloc (Nat.le_refl _) _⟩
    · rw [h3, h4]
      go_enter Tryd.func52, Tryd.ntmps52
      go_wp2_with fail
      go_ret
      exact ⟨rfl, (Below.refl _ _).alloc (Nat.le_refl _) _⟩
  by_cases e23 : k = 23
  · subst e23
    rw [isW_23]
    rcases two_cases s [115, 101, 108, 102] [] with rfl | rfl | ⟨h1, h2, h3, h4⟩
    · go_enter Tryd.func52, Tryd.ntmps52
      go_wp2_with fail
      go_ret
      exact ⟨rfl, (Below.refl _ _).alloc (Nat.le_refl _) _⟩
    · go_enter Tryd.func52, Tryd.ntmps52
      go_wp2_with fail
      go_ret
      exact ⟨rfl, (Below.refl _ _).alloc (Nat.le_refl _) _⟩
    · rw [h3]
      go_enter Tryd.func52, Tryd.ntmps52
      go_wp2_with fail
      go_ret
      exact ⟨rfl, (Below.refl _ _).alloc (Nat.le_refl _) _⟩
  by_cases e25 : k = 25
  · subst e25
    rw [isW_25]
    rcases two_cases s [45] [33] with rfl | rfl | ⟨h1, h2, h3, h4⟩
    · go_enter Tryd.func52, Tryd.ntmps52
      go_wp2_with fail
      go_ret
      exact ⟨rfl, (Below.refl _ _).alloc (Nat.le_refl _) _⟩
    · go_enter Tryd.func52, Tryd.ntmps52
      go_wp2_with fail
      go_ret
      exact ⟨rfl, (Below.refl _ _).alloc (Nat.le_refl _) _⟩
    · rw [h3, h4]
      go_enter Tryd.func52, Tryd.ntmps52
      go_wp2_with fail
      go_ret
      exact ⟨rfl, (Below.refl _ _).alloc (Nat.le_refl _) _⟩
  rw [isW_rest k s e18 e23 e25]
  have b18 : (k == 18) = false := by simpa using e18
  have b23 : (k == 23) = false := by simpa using e23
  have b25 : (k == 25) = false := by simpa using e25
  obtain ⟨v, hv⟩ : ∃ v, v = Pl.lvo s := ⟨_, rfl⟩
  rw [← hv]
  have HV := Lib.hid hv
  clear hv e18 e23 e25
  go_enter Tryd.func52, Tryd.ntmps52
  go_wp2_with (go_at_call 34; refine (levelOf_is _ _ HV.out.symm _).mono ?_; rintro e w' ⟨rfl, rfl⟩)
  all_goals go_ret
  all_goals exact ⟨rfl, (Below.refl _ _).alloc (Nat.le_refl _) _⟩
theorem isWord_is (k : Int) (s : ByteArray) (b : Bool) (h : Pl.isW k s = b) (n m gc dc : Nat) (ga da : Option Addr) (w : World) :
    Calls Tryd.prog 52 #[.agg #[.int .i64 k, .string s, .slice ga n gc, .slice da m dc]] w fun e w' => e = .returned (.bool b) ∧ Below w.heap.size w w' := h ▸ isWord_any k s n m gc dc ga da w

/-- The cell of the table of texts behind the box of a node. -/
theorem txt_cell {w : World} (hT : Tabs w) (k : Nat) (hk : k < 27) (q : Int) (hq : q = Pl.txt k) (o : Obj) : (w.alloc o).cell? ⟨4, k, none⟩ = some (.int .i64 q) := by
  rw [hq]; exact (hT.later ((Below.refl _ _).alloc (Nat.le_refl _) o)).2.2.2.2 k hk
theorem rword_at (k : Nat) (hk : k < 27) (s : ByteArray) (n m gc dc : Nat) (ga da : Option Addr) (w : World) (hT : Tabs w) :
    Calls Tryd.prog 43 #[.agg #[.int .i64 k, .string s, .slice ga n gc, .slice da m dc]] w fun e w' => e = .returned (.bool (Pl.wordOK k s)) ∧ Below w.heap.size w w' := by
  obtain ⟨q, hq⟩ : ∃ q, q = Pl.txt k := ⟨_, rfl⟩
  have c1 := txt_cell hT k hk q hq (.cells #[.int .i64 k, .string s, .slice ga n gc, .slice da m dc] 25)
  unfold Pl.wordOK
  rw [← hq]
  clear hq hT
  by_cases h0 : q = 0
  · subst h0
    by_cases hz : s.size = 0
    · rw [show (if (0 : Int) = 0 then decide (s.size = 0) else if (0 : Int) = 4 then Pl.isW k s else true) = true by rw [if_pos rfl, decide_eq_true hz]]
      have s1 := empty_of s hz
      go_enter Tryd.func43, Tryd.ntmps43
      go_wp2_with fail
      go_ret
      exact ⟨rfl, (Below.refl _ _).alloc (Nat.le_refl _) _⟩
    · rw [show (if (0 : Int) = 0 then decide (s.size = 0) else if (0 : Int) = 4 then Pl.isW k s else true) = false by rw [if_pos rfl, decide_eq_false hz]]
      obtain ⟨s1, s2, s3⟩ := Pl.not_empty s (by omega)
      go_enter Tryd.func43, Tryd.ntmps43
      go_wp2_with fail
      go_ret
      exact ⟨rfl, (Below.refl _ _).alloc (Nat.le_refl _) _⟩
  by_cases h4 : q = 4
  · subst h4
    obtain ⟨b, hb⟩ : ∃ b, b = Pl.isW k s := ⟨_, rfl⟩
    rw [← hb, show (if (4 : Int) = 0 then decide (s.size = 0) else if (4 : Int) = 4 then b else true) = b from rfl]
    have HB := Lib.hid hb
    clear hb h0
    go_enter Tryd.func43, Tryd.ntmps43
    go_wp2_with (go_at_call 52; refine (isWord_is _ _ _ HB.out.symm _ _ _ _ _ _ _).mono ?_; rintro e w' ⟨rfl, hbel⟩)
    go_ret
    exact ⟨rfl, ((Below.refl _ _).alloc (Nat.le_refl _) _).trans (hbel.mono (by simp))⟩
  · rw [if_neg h0, if_neg h4]
    have b0 : (q == 0) = false := by simpa using h0
    have b4 : (q == 4) = false := by simpa using h4
    go_enter Tryd.func43, Tryd.ntmps43
    go_wp2_with fail
    go_ret
    exact ⟨rfl, (Below.refl _ _).alloc (Nat.le_refl _) _⟩
theorem rname_at (k : Nat) (hk : k < 27) (s : ByteArray) (n m gc dc : Nat) (ga da : Option Addr) (w : World) (hT : Tabs w) (hs : s.size ≤ maxLen) :
    Calls Tryd.prog 45 #[.agg #[.int .i64 k, .string s, .slice ga n gc, .slice da m dc]] w fun e w' => e = .returned (.bool (Pl.nameOK k s)) ∧ Below w.heap.size w w' := by
  obtain ⟨q, hq⟩ : ∃ q, q = Pl.txt k := ⟨_, rfl⟩
  have c1 := txt_cell hT k hk q hq (.cells #[.int .i64 k, .string s, .slice ga n gc, .slice da m dc] 25)
  obtain ⟨b, hb⟩ : ∃ b, b = Pl.nameOK k s := ⟨_, rfl⟩
  rw [← hb]
  have hb2 := hb
  unfold Pl.nameOK at hb2
  rw [← hq] at hb2
  clear hq hT hb
  have HS := Lib.hid hs
  unfold maxLen at hs
  by_cases h2 : q = 2
  · subst h2
    rw [if_pos rfl] at hb2
    by_cases hz : s.size = 0
    · rw [decide_eq_true hz, Bool.true_or] at hb2
      subst hb2
      have s1 := empty_of s hz
      go_enter Tryd.func45, Tryd.ntmps45
      go_wp2_with fail
      go_ret
      exact ⟨rfl, (Below.refl _ _).alloc (Nat.le_refl _) _⟩
    · rw [decide_eq_false hz, Bool.false_or] at hb2
      obtain ⟨s1, s2, s3⟩ := Pl.not_empty s (by omega)
      have HB := Lib.hid hb2
      clear hb2
      go_enter Tryd.func45, Tryd.ntmps45
      go_wp2_with (go_at_call 54; refine (valid_is _ _ HB.out.symm _ HS.out).mono ?_; rintro e w' ⟨rfl, hbel⟩)
      go_ret
      exact ⟨rfl, ((Below.refl _ _).alloc (Nat.le_refl _) _).trans (hbel.mono (by simp))⟩
  rw [if_neg h2] at hb2
  by_cases h1 : q = 1
  · subst h1
    rw [if_pos rfl] at hb2
    have HB := Lib.hid hb2
    clear hb2 h2
    go_enter Tryd.func45, Tryd.ntmps45
    go_wp2_with (go_at_call 54; refine (valid_is _ _ HB.out.symm _ HS.out).mono ?_; rintro e w' ⟨rfl, hbel⟩)
    go_ret
    exact ⟨rfl, ((Below.refl _ _).alloc (Nat.le_refl _) _).trans (hbel.mono (by simp))⟩
  rw [if_neg h1] at hb2
  by_cases h3 : q = 3
  · subst h3
    rw [if_pos rfl] at hb2
    have HB := Lib.hid hb2
    clear hb2 h2 h1
    go_enter Tryd.func45, Tryd.ntmps45
    go_wp2_with (go_at_call 55; refine (int_is _ _ HB.out.symm _ HS.out).mono ?_; rintro e w' ⟨rfl, rfl⟩)
    go_ret
    exact ⟨rfl, (Below.refl _ _).alloc (Nat.le_refl _) _⟩
  rw [if_neg h3] at hb2
  subst hb2
  have b1 : (q == 1) = false := by simpa using h1
  have b2 : (q == 2) = false := by simpa using h2
  have b3 : (q == 3) = false := by simpa using h3
  go_enter Tryd.func45, Tryd.ntmps45
  go_wp2_with fail
  go_ret
  exact ⟨rfl, (Below.refl _ _).alloc (Nat.le_refl _) _⟩

/- ### The reference's -/
def namedB (k : Int) (s : ByteArray) : Bool := if k = 8 then decide (s.size ≠ 0) else decide (k = 2 ∨ k = 4 ∨ k = 5 ∨ k = 7 ∨ k = 9 ∨ k = 10 ∨ k = 11 ∨ k = 17 ∨ k = 19 ∨ k = 20 ∨ k = 21 ∨ k = 22)
def rwordB (k : Int) (s : ByteArray) : Bool := if k = 18 ∨ k = 23 ∨ k = 24 ∨ k = 25 then Pl.isW k s else decide (s.size = 0)
set_option maxHeartbeats 800000 in
theorem named_any (k : Int) (s : ByteArray) (n m gc dc : Nat) (ga da : Option Addr) (w : World) :
    Calls Tryd.prog 49 #[.agg #[.int .i64 k, .string s, .slice ga n gc, .slice da m dc]] w fun e w' => e = .returned (.bool (namedB k s)) ∧ Below w.heap.size w w' := by
  by_cases e8 : k = 8
  · subst e8
    rw [show namedB 8 s = decide (s.size ≠ 0) from rfl]
    by_cases hz : s.size = 0
    · rw [decide_eq_false (by omega : ¬ s.size ≠ 0)]
      have s1 := empty_of s hz
      have s2 : (!s.toList.isEmpty) = false := by rw [s1]; rfl
      go_enter Tryd.func49, Tryd.ntmps49
      go_wp2_with fail
      go_ret
      exact ⟨rfl, (Below.refl _ _).alloc (Nat.le_refl _) _⟩
    · rw [decide_eq_true (by omega : s.size ≠ 0)]
      obtain ⟨s1, s2, s3⟩ := Pl.not_empty s (by omega)
      go_enter Tryd.func49, Tryd.ntmps49
      go_wp2_with fail
      go_ret
      exact ⟨rfl, (Below.refl _ _).alloc (Nat.le_refl _) _⟩
  have b8 : (k == 8) = false := by simpa using e8
  obtain ⟨b, hb⟩ : ∃ b, b = namedB k s := ⟨_, rfl⟩
  rw [← hb]
  have hb2 := hb
  unfold namedB at hb2
  rw [if_neg e8] at hb2
  have HB := Lib.hid hb2
  clear hb hb2
  go_enter Tryd.func49, Tryd.ntmps49
  go_wp2_with fail
  all_goals go_ret
  all_goals refine ⟨ret_bool ?_, (Below.refl _ _).alloc (Nat.le_refl _) _⟩
  all_goals rw [HB.out, Bool.eq_iff_iff, decide_eq_true_eq]
  all_goals clear HB
  all_goals try simp only [beq_iff_eq, beq_eq_false_iff_ne, ne_eq] at *
  all_goals simp <;> omega
theorem named_is (k : Int) (s : ByteArray) (b : Bool) (h : namedB k s = b) (n m gc dc : Nat) (ga da : Option Addr) (w : World) :
    Calls Tryd.prog 49 #[.agg #[.int .i64 k, .string s, .slice ga n gc, .slice da m dc]] w fun e w' => e = .returned (.bool b) ∧ Below w.heap.size w w' := h ▸ named_any k s n m gc dc ga da w
theorem rlevel_is (k : Int) (s : ByteArray) (v : Int) (h : Pl.lv k s = v) (n m gc dc : Nat) (ga da : Option Addr) (w : World) :
    Calls Tryd.prog 16 #[.agg #[.int .i64 k, .string s, .slice ga n gc, .slice da m dc]] w fun e w' => e = .returned (.int .i64 v) ∧ Below w.heap.size w w' := h ▸ rlevel_any k s n m gc dc ga da w
theorem level_is (k : Int) (s : ByteArray) (v : Int) (h : Pl.lv k s = v) (n m gc dc : Nat) (ga da : Option Addr) (w : World) (hT : Tabs w) :
    Calls Tryd.prog 15 #[.agg #[.int .i64 k, .string s, .slice ga n gc, .slice da m dc]] w fun e w' => e = .returned (.int .i64 v) ∧ Below w.heap.size w w' := h ▸ level_any k s n m gc dc ga da w hT
set_option maxHeartbeats 800000 in
theorem rword_any (k : Int) (s : ByteArray) (n m gc dc : Nat) (ga da : Option Addr) (w : World) :
    Calls Tryd.prog 58 #[.agg #[.int .i64 k, .string s, .slice ga n gc, .slice da m dc]] w fun e w' => e = .returned (.bool (rwordB k s)) ∧ Below w.heap.size w w' := by
  by_cases e18 : k = 18
  · subst e18
    rw [show rwordB 18 s = Pl.isW 18 s from rfl, isW_18]
    rcases two_cases s [116, 114, 117, 101] [102, 97, 108, 115, 101] with rfl | rfl | ⟨h1, h2, h3, h4⟩
    · go_enter Tryd.func58, Tryd.ntmps58
      go_wp2_with fail
      go_ret
      exact ⟨rfl, (Below.refl _ _).alloc (Nat.le_refl _) _⟩
    · go_enter Tryd.func58, Tryd.ntmps58
      go_wp2_with fail
      go_ret
      exact ⟨rfl, (Below.refl _ _).alloc (Nat.le_refl _) _⟩
    · rw [h3, h4]
      go_enter Tryd.func58, Tryd.ntmps58
      go_wp2_with fail
      go_ret
      exact ⟨rfl, (Below.refl _ _).alloc (Nat.le_refl _) _⟩
  by_cases e23 : k = 23
  · subst e23
    rw [show rwordB 23 s = Pl.isW 23 s from rfl, isW_23]
    rcases two_cases s [115, 101, 108, 102] [] with rfl | rfl | ⟨h1, h2, h3, h4⟩
    · go_enter Tryd.func58, Tryd.ntmps58
      go_wp2_with fail
      go_ret
      exact ⟨rfl, (Below.refl _ _).alloc (Nat.le_refl _) _⟩
    · go_enter Tryd.func58, Tryd.ntmps58
      go_wp2_with fail
      go_ret
      exact ⟨rfl, (Below.refl _ _).alloc (Nat.le_refl _) _⟩
    · rw [h3]
      go_enter Tryd.func58, Tryd.ntmps58
      go_wp2_with fail
      go_ret
      exact ⟨rfl, (Below.refl _ _).alloc (Nat.le_refl _) _⟩
  by_cases e25 : k = 25
  · subst e25
    rw [show rwordB 25 s = Pl.isW 25 s from rfl, isW_25]
    rcases two_cases s [45] [33] with rfl | rfl | ⟨h1, h2, h3, h4⟩
    · go_enter Tryd.func58, Tryd.ntmps58
      go_wp2_with fail
      go_ret
      exact ⟨rfl, (Below.refl _ _).alloc (Nat.le_refl _) _⟩
    · go_enter Tryd.func58, Tryd.ntmps58
      go_wp2_with fail
      go_ret
      exact ⟨rfl, (Below.refl _ _).alloc (Nat.le_refl _) _⟩
    · rw [h3, h4]
      go_enter Tryd.func58, Tryd.ntmps58
      go_wp2_with fail
      go_ret
      exact ⟨rfl, (Below.refl _ _).alloc (Nat.le_refl _) _⟩
  by_cases e24 : k = 24
  · subst e24
    rw [show rwordB 24 s = decide (0 < Pl.lv 24 s) from rfl]
    obtain ⟨v, hv⟩ : ∃ v, v = Pl.lv 24 s := ⟨_, rfl⟩
    rw [← hv]
    have HV := Lib.hid hv
    clear hv e18 e23 e25
    go_enter Tryd.func58, Tryd.ntmps58
    go_wp2_with (go_at_call 16; refine (rlevel_is _ _ _ HV.out.symm _ _ _ _ _ _ _).mono ?_; rintro e w' ⟨rfl, hbel⟩)
    all_goals go_ret
    all_goals exact ⟨rfl, ((Below.refl _ _).alloc (Nat.le_refl _) _).trans (hbel.mono (by simp))⟩
  rw [show rwordB k s = decide (s.size = 0) by unfold rwordB; rw [if_neg (by omega)]]
  have b18 : (k == 18) = false := by simpa using e18
  have b23 : (k == 23) = false := by simpa using e23
  have b25 : (k == 25) = false := by simpa using e25
  have b24 : (k == 24) = false := by simpa using e24
  by_cases hz : s.size = 0
  · rw [decide_eq_true hz]
    have s1 := empty_of s hz
    go_enter Tryd.func58, Tryd.ntmps58
    go_wp2_with fail
    go_ret
    exact ⟨rfl, (Below.refl _ _).alloc (Nat.le_refl _) _⟩
  · rw [decide_eq_false hz]
    obtain ⟨s1, s2, s3⟩ := Pl.not_empty s (by omega)
    go_enter Tryd.func58, Tryd.ntmps58
    go_wp2_with fail
    go_ret
    exact ⟨rfl, (Below.refl _ _).alloc (Nat.le_refl _) _⟩
theorem rword_is (k : Int) (s : ByteArray) (b : Bool) (h : rwordB k s = b) (n m gc dc : Nat) (ga da : Option Addr) (w : World) :
    Calls Tryd.prog 58 #[.agg #[.int .i64 k, .string s, .slice ga n gc, .slice da m dc]] w fun e w' => e = .returned (.bool b) ∧ Below w.heap.size w w' := h ▸ rword_any k s n m gc dc ga da w
end Go.Proofs.YtmfmlkdojgbhfaaDoor
