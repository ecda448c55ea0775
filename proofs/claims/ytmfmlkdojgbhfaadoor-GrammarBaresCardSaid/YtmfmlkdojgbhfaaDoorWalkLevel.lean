/- The walks of levelOf, compares, Level and of the reference's Level. -/
import Derived.Test.YtmfmlkdojgbhfaaDoorWalkKinds
namespace Go.Proofs.YtmfmlkdojgbhfaaDoor
open Go.RowKit
set_option linter.unusedVariables false
set_option linter.unusedSimpArgs false

theorem str_of (s : ByteArray) (l : List UInt8) (h : s.data.toList = l) : s = ⟨l.toArray⟩ := Pl.list_ext (by rw [h])
theorem str_no (s : ByteArray) (l : List UInt8) (h : ¬ s.data.toList = l) : (s.toList == l) = false := by
  rw [Pl.toList_eq]; simpa using h
/-- A string is an operator, or none. -/
theorem lv_cases (s : ByteArray) : s = ⟨#[124]⟩ ∨ s = ⟨#[38]⟩ ∨ s = ⟨#[61, 61]⟩ ∨ s = ⟨#[60]⟩ ∨ s = ⟨#[43]⟩ ∨ s = ⟨#[45]⟩ ∨ s = ⟨#[42]⟩ ∨ s = ⟨#[47]⟩ ∨
    ((s.toList == [124]) = false ∧ (s.toList == [38]) = false ∧ (s.toList == [61, 61]) = false ∧ (s.toList == [60]) = false ∧ (s.toList == [43]) = false ∧ (s.toList == [45]) = false ∧ (s.toList == [42]) = false ∧ (s.toList == [47]) = false ∧ Pl.lvo s = 0) := by
  by_cases h1 : s.data.toList = [124]
  · exact .inl (str_of s _ h1)
  by_cases h2 : s.data.toList = [38]
  · exact .inr (.inl (str_of s _ h2))
  by_cases h3 : s.data.toList = [61, 61]
  · exact .inr (.inr (.inl (str_of s _ h3)))
  by_cases h4 : s.data.toList = [60]
  · exact .inr (.inr (.inr (.inl (str_of s _ h4))))
  by_cases h5 : s.data.toList = [43]
  · exact .inr (.inr (.inr (.inr (.inl (str_of s _ h5)))))
  by_cases h6 : s.data.toList = [45]
  · exact .inr (.inr (.inr (.inr (.inr (.inl (str_of s _ h6))))))
  by_cases h7 : s.data.toList = [42]
  · exact .inr (.inr (.inr (.inr (.inr (.inr (.inl (str_of s _ h7)))))))
  by_cases h8 : s.data.toList = [47]
  · exact .inr (.inr (.inr (.inr (.inr (.inr (.inr (.inl (str_of s _ h8))))))))
  refine .inr (.inr (.inr (.inr (.inr (.inr (.inr (.inr ⟨str_no s _ h1, str_no s _ h2, str_no s _ h3, str_no s _ h4, str_no s _ h5, str_no s _ h6, str_no s _ h7, str_no s _ h8, ?_⟩)))))))
  unfold Pl.lvo Pl.lvL
  simp [h1, h2, h3, h4, h5, h6, h7, h8]
theorem levelOf_any (s : ByteArray) (w : World) :
    Calls Tryd.prog 34 #[.string s] w fun e w' => e = .returned (.int .i64 (Pl.lvo s)) ∧ w = w' := by
  rcases lv_cases s with rfl | rfl | rfl | rfl | rfl | rfl | rfl | rfl | ⟨h1, h2, h3, h4, h5, h6, h7, h8, h⟩
  case inr.inr.inr.inr.inr.inr.inr.inr =>
    rw [h]
    clear h
    go_enter Tryd.func34, Tryd.ntmps34
    go_wp2
    go_ret
    exact ⟨rfl, rfl⟩
  all_goals
    go_enter Tryd.func34, Tryd.ntmps34
    go_wp2
    go_ret
    exact ⟨rfl, rfl⟩
theorem levelOf_is (s : ByteArray) (n : Int) (h : Pl.lvo s = n) (w : World) :
    Calls Tryd.prog 34 #[.string s] w fun e w' => e = .returned (.int .i64 n) ∧ w = w' := h ▸ levelOf_any s w
theorem compares_any (s : ByteArray) (w : World) :
    Calls Tryd.prog 53 #[.string s] w fun e w' => e = .returned (.bool (decide (Pl.lvo s = 3))) ∧ w = w' := by
  rcases lv_cases s with rfl | rfl | rfl | rfl | rfl | rfl | rfl | rfl | ⟨h1, h2, h3, h4, h5, h6, h7, h8, h⟩
  case inr.inr.inr.inr.inr.inr.inr.inr =>
    rw [h]
    clear h
    go_enter Tryd.func53, Tryd.ntmps53
    go_wp2
    go_ret
    exact ⟨rfl, rfl⟩
  all_goals
    go_enter Tryd.func53, Tryd.ntmps53
    go_wp2
    go_ret
    exact ⟨rfl, rfl⟩
theorem compares_is (s : ByteArray) (b : Bool) (h : decide (Pl.lvo s = 3) = b) (w : World) :
    Calls Tryd.prog 53 #[.string s] w fun e w' => e = .returned (.bool b) ∧ w = w' := h ▸ compares_any s w

theorem level_any (k : Int) (s : ByteArray) (n m gc dc : Nat) (ga da : Option Addr) (w : World) (hT : Tabs w) :
    Calls Tryd.prog 15 #[.agg #[.int .i64 k, .string s, .slice ga n gc, .slice da m dc]] w fun e w' => e = .returned (.int .i64 (Pl.lv k s)) ∧ Below w.heap.size w w' := by
  have HT := Lib.hid (hT.later ((Below.refl _ _).alloc (Nat.le_refl _) (.cells #[.int .i64 k, .string s, .slice ga n gc, .slice da m dc] 25)))
  by_cases h24 : k = 24
  · subst h24
    obtain ⟨g, hg⟩ : ∃ g, g = Pl.lvo s := ⟨_, rfl⟩
    rw [show Pl.lv 24 s = Pl.lvo s from rfl, ← hg]
    have HG := Lib.hid hg
    clear hg hT
    go_enter Tryd.func15, Tryd.ntmps15
    go_wp2_with (go_at_call 34; refine (levelOf_is _ _ HG.out.symm _).mono ?_; rintro e w' ⟨rfl, rfl⟩)
    go_ret
    exact ⟨rfl, (Below.refl _ _).alloc (Nat.le_refl _) _⟩
  by_cases h25 : k = 25
  · subst h25
    rw [show Pl.lv 25 s = 6 from rfl]
    clear hT
    go_enter Tryd.func15, Tryd.ntmps15
    go_wp2_with fail
    go_ret
    exact ⟨rfl, (Below.refl _ _).alloc (Nat.le_refl _) _⟩
  have n24 : (k == 24) = false := by simpa using h24
  have n25 : (k == 25) = false := by simpa using h25
  obtain ⟨g, hg⟩ : ∃ g, g = Pl.grp k := ⟨_, rfl⟩
  have hv : Pl.lv k s = if g = 3 then 7 else 0 := by unfold Pl.lv; rw [if_neg h24, if_neg h25, hg]
  rw [hv]
  have HG := Lib.hid hg
  clear hg hv hT h24 h25
  by_cases h3 : g = 3
  · subst h3
    go_enter Tryd.func15, Tryd.ntmps15
    go_wp2_with (go_at_call 21; refine (group_is _ _ HG.out.symm _ HT.out).mono ?_; rintro e w' ⟨rfl, rfl⟩)
    go_ret
    exact ⟨rfl, (Below.refl _ _).alloc (Nat.le_refl _) _⟩
  · have n3 : (g == 3) = false := by simpa using h3
    rw [if_neg h3]
    go_enter Tryd.func15, Tryd.ntmps15
    go_wp2_with (go_at_call 21; refine (group_is _ _ HG.out.symm _ HT.out).mono ?_; rintro e w' ⟨rfl, rfl⟩)
    go_ret
    exact ⟨rfl, (Below.refl _ _).alloc (Nat.le_refl _) _⟩
theorem rlevel_any (k : Int) (s : ByteArray) (n m gc dc : Nat) (ga da : Option Addr) (w : World) :
    Calls Tryd.prog 16 #[.agg #[.int .i64 k, .string s, .slice ga n gc, .slice da m dc]] w fun e w' => e = .returned (.int .i64 (Pl.lv k s)) ∧ Below w.heap.size w w' := by
  by_cases h24 : k = 24
  · subst h24
    rw [show Pl.lv 24 s = Pl.lvo s from rfl]
    rcases lv_cases s with rfl | rfl | rfl | rfl | rfl | rfl | rfl | rfl | ⟨h1, h2, h3, h4, h5, h6, h7, h8, h⟩
    case inr.inr.inr.inr.inr.inr.inr.inr =>
      rw [h]
      clear h
      go_enter Tryd.func16, Tryd.ntmps16
      go_wp2
      go_ret
      exact ⟨rfl, (Below.refl _ _).alloc (Nat.le_refl _) _⟩
    all_goals
      go_enter Tryd.func16, Tryd.ntmps16
      go_wp2
      go_ret
      exact ⟨rfl, (Below.refl _ _).alloc (Nat.le_refl _) _⟩
  by_cases h25 : k = 25
  · subst h25
    rw [show Pl.lv 25 s = 6 from rfl]
    go_enter Tryd.func16, Tryd.ntmps16
    go_wp2_with fail
    go_ret
    exact ⟨rfl, (Below.refl _ _).alloc (Nat.le_refl _) _⟩
  have n24 : (k == 24) = false := by simpa using h24
  have n25 : (k == 25) = false := by simpa using h25
  obtain ⟨g, hg⟩ : ∃ g, g = Pl.grp k := ⟨_, rfl⟩
  have hv : Pl.lv k s = if g = 3 then 7 else 0 := by unfold Pl.lv; rw [if_neg h24, if_neg h25, hg]
  rw [hv]
  have HG := Lib.hid hg
  clear hg hv h24 h25
  by_cases h3 : g = 3
  · subst h3
    go_enter Tryd.func16, Tryd.ntmps16
    go_wp2_with (go_at_call 22; refine (rgroup_is _ _ HG.out.symm _).mono ?_; rintro e w' ⟨rfl, rfl⟩)
    go_ret
    exact ⟨rfl, (Below.refl _ _).alloc (Nat.le_refl _) _⟩
  · have n3 : (g == 3) = false := by simpa using h3
    rw [if_neg h3]
    go_enter Tryd.func16, Tryd.ntmps16
    go_wp2_with (go_at_call 22; refine (rgroup_is _ _ HG.out.symm _).mono ?_; rintro e w' ⟨rfl, rfl⟩)
    go_ret
    exact ⟨rfl, (Below.refl _ _).alloc (Nat.le_refl _) _⟩
end Go.Proofs.YtmfmlkdojgbhfaaDoor
