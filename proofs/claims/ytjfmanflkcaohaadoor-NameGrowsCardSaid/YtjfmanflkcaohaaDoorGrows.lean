/- The walk of the law on names that grow. -/
import Derived.Test.YtjfmanflkcaohaaDoorLaws
namespace Go.Proofs.YtjfmanflkcaohaaDoor
open Go.RowKit
set_option linter.unusedVariables false
set_option linter.unusedSimpArgs false

/-- The law's test of a byte, by classes. -/
theorem classes (c : Nat) : (97 ≤ c ∧ c ≤ 122 ∧ ((c : Int) == 95) = false ∧ Pl.wd c = true) ∨ (65 ≤ c ∧ c ≤ 90 ∧ ((c : Int) == 95) = false ∧ Pl.wd c = true) ∨ (48 ≤ c ∧ c ≤ 57 ∧ ((c : Int) == 95) = false ∧ Pl.wd c = true) ∨ (95 ≤ c ∧ c ≤ 95 ∧ ((c : Int) == 95) = true ∧ Pl.wd c = true) ∨
    (0 ≤ c ∧ c ≤ 47 ∧ ((c : Int) == 95) = false ∧ Pl.wd c = false) ∨ (58 ≤ c ∧ c ≤ 64 ∧ ((c : Int) == 95) = false ∧ Pl.wd c = false) ∨ (91 ≤ c ∧ c ≤ 94 ∧ ((c : Int) == 95) = false ∧ Pl.wd c = false) ∨ (96 ≤ c ∧ c ≤ 96 ∧ ((c : Int) == 95) = false ∧ Pl.wd c = false) ∨ (123 ≤ c ∧ 0 ≤ c ∧ ((c : Int) == 95) = false ∧ Pl.wd c = false) := by
  have e1 : ∀ b, (((c : Int) == 95) = b) ↔ (decide (c = 95) = b) := fun b => by
    have : ((c : Int) == 95) = decide (c = 95) := by rw [Bool.eq_iff_iff]; simp; omega
    rw [this]
  simp only [e1]
  unfold Pl.wd Pl.lt Pl.dg
  simp only [Bool.or_eq_true, Bool.and_eq_true, Bool.or_eq_false_iff, Bool.and_eq_false_iff, decide_eq_true_eq, decide_eq_false_iff_not]
  omega

theorem nm_more (s : ByteArray) (c : Nat) (hc : c < 256) (hn : Pl.nm s = true) (hl : (s ++ oneB c).size ≤ 32) (hk : Pl.kw (s ++ oneB c) = false) : Pl.nm (s ++ oneB c) = Pl.wd c := by
  obtain ⟨b1, b2, b3, b4, b5⟩ := Pl.nm_parts s hn
  have hlist : (s ++ oneB c).data.toList = s.data.toList ++ [UInt8.ofNat c] := by
    rw [ByteArray.data_append, Array.toList_append, oneB_eq c hc]
  have hd0 : Pl.dg0 (s ++ oneB c) = false := by
    unfold Pl.dg0 at b4 ⊢
    rw [hlist]
    cases hl : s.data.toList with
    | nil => rw [Lib.size_eq, hl] at b1; simp at b1
    | cons x l => rw [hl] at b4; exact b4
  have hw : Pl.wds (s ++ oneB c) = Pl.wd c := by
    unfold Pl.wds at b5 ⊢
    rw [hlist, List.all_append, b5, Bool.true_and]
    simp only [List.all_cons, List.all_nil, Bool.and_true]
    rw [UInt8.toNat_ofNat_of_lt' (by simpa using hc)]
  have h1 : 1 ≤ (s ++ oneB c).size := by rw [ByteArray.size_append]; omega
  unfold Pl.nm
  rw [hk, hd0, hw, decide_eq_true h1, decide_eq_true hl]
  rfl
theorem one_size (c : Int) : (oneB c).size = 1 := by unfold oneB; rw [strOfNums_size]; rfl
theorem more_size (s : ByteArray) (c : Int) : (s ++ oneB c).size = s.size + 1 := by
  rw [ByteArray.size_append]
  have : (oneB c).size = 1 := by unfold oneB; rw [strOfNums_size]; rfl
  omega

theorem grows_long (s : ByteArray) (c : Nat) (w : World) (hm : Mx w) (hs : s.size ≤ maxLen) (h : 100 < s.size) :
    Calls Tryd.prog 9 #[.string s, .int .u8 c] w fun e w' => e = .returned (.bool true) ∧ Below w.heap.size w w' := by
  unfold maxLen at hs
  go_enter Tryd.func9, Tryd.ntmps9
  go_wp2_with fail
  refine (awake_any _ hm).mono ?_
  rintro e w' ⟨rfl, hb⟩
  go_wp2_with fail
  go_ret
  exact ⟨rfl, hb⟩
end Go.Proofs.YtjfmanflkcaohaaDoor
