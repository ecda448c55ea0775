/- The walks of Glue and of the reference's. -/
import Derived.Test.YtiaajpdcacdngaaGreatDoorBClass
namespace Go.Proofs.YtiaajpdcacdngaaGreatDoor.Tk
open Go.RowKit
set_option linter.unusedVariables false
set_option linter.unusedSimpArgs false

theorem list_last (s : ByteArray) (h : s.size - 1 < s.size) : s.data.toList.getLast? = some s[s.size - 1] := by
  rw [List.getLast?_eq_getElem?]
  have hl : s.data.toList.length = s.size := by rw [Lib.size_eq]
  rw [hl, List.getElem?_eq_getElem (by rw [hl]; exact h), Pl.get_list s _ h (by rw [hl]; exact h)]
theorem list_first (s : ByteArray) (h : 0 < s.size) : s.data.toList.head? = some s[0] := by
  have hl : 0 < s.data.toList.length := by rw [← Lib.size_eq]; exact h
  rw [← Pl.get_list s 0 h hl]
  match s.data.toList, hl with
  | c :: r, _ => rfl
/-- What both Glues are asked, for two texts that aren't empty. -/
theorem glue_val (a b : ByteArray) (ha : a.size - 1 < a.size) (hb : 0 < b.size) :
    Pl.glue a.data.toList b.data.toList = ((Pl.wb a[a.size - 1] && Pl.wb b[0]) || ((a.toList == [61]) && ((b.toList == [61]) || (b.toList == [61, 61]))) || ((a.toList == [47]) && (b.toList == [47]))) := by
  unfold Pl.glue
  rw [list_last a ha, list_first b hb, Pl.toList_eq, Pl.toList_eq]; rfl
theorem glue_nil (b : Pl.Bs) : Pl.glue [] b = false := by unfold Pl.glue; simp
theorem glue_nil' (a : Pl.Bs) : Pl.glue a [] = false := by unfold Pl.glue; simp

theorem glue_any_nil (b : ByteArray) (w : World) :
    Calls Tryz.prog 76 #[.string ⟨#[]⟩, .string b] w fun e w' => e = .returned (.bool (Pl.glue [] b.data.toList)) ∧ w = w' := by
  rw [glue_nil]
  go_enter Tryz.func76, Tryz.ntmps76
  go_wp2_with fail
  go_ret
  exact ⟨rfl, rfl⟩
theorem glue_any_nil' (a : ByteArray) (w : World) (ha : 1 ≤ a.size) :
    Calls Tryz.prog 76 #[.string a, .string ⟨#[]⟩] w fun e w' => e = .returned (.bool (Pl.glue a.data.toList [])) ∧ w = w' := by
  rw [glue_nil']
  obtain ⟨h1, h2, h3⟩ := Pl.not_empty a ha
  go_enter Tryz.func76, Tryz.ntmps76
  go_wp2_with fail
  go_ret
  exact ⟨rfl, rfl⟩
theorem rglue_any_nil (b : ByteArray) (w : World) :
    Calls Tryz.prog 79 #[.string ⟨#[]⟩, .string b] w fun e w' => e = .returned (.bool (Pl.glue [] b.data.toList)) ∧ w = w' := by
  rw [glue_nil]
  go_enter Tryz.func79, Tryz.ntmps79
  go_wp2_with fail
  go_ret
  exact ⟨rfl, rfl⟩
theorem rglue_any_nil' (a : ByteArray) (w : World) (ha : 1 ≤ a.size) :
    Calls Tryz.prog 79 #[.string a, .string ⟨#[]⟩] w fun e w' => e = .returned (.bool (Pl.glue a.data.toList [])) ∧ w = w' := by
  rw [glue_nil']
  obtain ⟨h1, h2, h3⟩ := Pl.not_empty a ha
  go_enter Tryz.func79, Tryz.ntmps79
  go_wp2_with fail
  go_ret
  exact ⟨rfl, rfl⟩

/-- The five tests on two strings, one of these ways. -/
def Ways (a b : ByteArray) (r : Bool) : Prop :=
  ((a.toList == [61]) = true ∧ (b.toList == [61]) = true ∧ (a.toList == [47]) = false ∧ r = true) ∨
  ((a.toList == [61]) = true ∧ (b.toList == [61]) = false ∧ (b.toList == [61, 61]) = true ∧ (a.toList == [47]) = false ∧ r = true) ∨
  ((a.toList == [61]) = true ∧ (b.toList == [61]) = false ∧ (b.toList == [61, 61]) = false ∧ (a.toList == [47]) = false ∧ r = false) ∨
  ((a.toList == [61]) = false ∧ (a.toList == [47]) = true ∧ (b.toList == [47]) = true ∧ r = true) ∨
  ((a.toList == [61]) = false ∧ (a.toList == [47]) = true ∧ (b.toList == [47]) = false ∧ r = false) ∨
  ((a.toList == [61]) = false ∧ (a.toList == [47]) = false ∧ r = false)
theorem ways (a b : ByteArray) : Ways a b (((a.toList == [61]) && ((b.toList == [61]) || (b.toList == [61, 61]))) || ((a.toList == [47]) && (b.toList == [47]))) := by
  unfold Ways
  cases h1 : (a.toList == [61])
  · cases h2 : (a.toList == [47])
    · simp
    · cases h3 : (b.toList == [47]) <;> simp
  · have h2 : (a.toList == [47]) = false := by
      have : a.toList = [61] := by simpa using h1
      rw [this]; rfl
    rw [h2]
    cases h3 : (b.toList == [61]) <;> cases h4 : (b.toList == [61, 61]) <;> simp

set_option maxHeartbeats 3200000 in
theorem glue_some (a b : ByteArray) (w : World) (hsa : a.size ≤ maxLen) (ha : a.size - 1 < a.size) (hb : 0 < b.size) :
    Calls Tryz.prog 76 #[.string a, .string b] w fun e w' => e = .returned (.bool (Pl.glue a.data.toList b.data.toList)) ∧ w = w' := by
  rw [glue_val a b ha hb]
  obtain ⟨q1, q2, q3⟩ := Pl.not_empty a (by omega)
  obtain ⟨p1, p2, p3⟩ := Pl.not_empty b (by omega)
  have hw := ways a b
  unfold maxLen at hsa
  have hpos : 1 ≤ a.size := by omega
  clear q1 q2 p1 p2
  rw [Bool.or_assoc]
  generalize (((a.toList == [61]) && ((b.toList == [61]) || (b.toList == [61, 61]))) || ((a.toList == [47]) && (b.toList == [47]))) = r at *
  cases h1 : Pl.wb a[a.size - 1]
  · have H1 := Lib.hid (inrun_is a[a.size - 1] false h1)
    clear h1
    rcases hw with ⟨e1, e2, e3, rfl⟩ | ⟨e1, e2, e3, e4, rfl⟩ | ⟨e1, e2, e3, e4, rfl⟩ | ⟨e1, e2, e3, rfl⟩ | ⟨e1, e2, e3, rfl⟩ | ⟨e1, e2, rfl⟩
    all_goals
      go_enter Tryz.func76, Tryz.ntmps76
      go_wp2_with (go_at_call 104; refine (H1.out _).mono ?_; rintro e w' ⟨rfl, rfl⟩)
      go_ret
      exact ⟨rfl, rfl⟩
  · cases h2 : Pl.wb b[0]
    · have H1 := Lib.hid (inrun_is a[a.size - 1] true h1)
      have H2 := Lib.hid (inrun_is b[0] false h2)
      clear h1 h2
      rcases hw with ⟨e1, e2, e3, rfl⟩ | ⟨e1, e2, e3, e4, rfl⟩ | ⟨e1, e2, e3, e4, rfl⟩ | ⟨e1, e2, e3, rfl⟩ | ⟨e1, e2, e3, rfl⟩ | ⟨e1, e2, rfl⟩
      all_goals
        go_enter Tryz.func76, Tryz.ntmps76
        go_wp2_with (go_at_call 104; first | (with_reducible refine (H1.out _).mono ?_; rintro e w' ⟨rfl, rfl⟩) | (with_reducible refine (H2.out _).mono ?_; rintro e w' ⟨rfl, rfl⟩))
        go_ret
        exact ⟨rfl, rfl⟩
    · have H1 := Lib.hid (inrun_is a[a.size - 1] true h1)
      have H2 := Lib.hid (inrun_is b[0] true h2)
      clear h1 h2 hw
      go_enter Tryz.func76, Tryz.ntmps76
      go_wp2_with (go_at_call 104; first | (with_reducible refine (H1.out _).mono ?_; rintro e w' ⟨rfl, rfl⟩) | (with_reducible refine (H2.out _).mono ?_; rintro e w' ⟨rfl, rfl⟩))
      go_ret
      exact ⟨rfl, rfl⟩
set_option maxHeartbeats 3200000 in
theorem rglue_some (a b : ByteArray) (w : World) (hsa : a.size ≤ maxLen) (ha : a.size - 1 < a.size) (hb : 0 < b.size) :
    Calls Tryz.prog 79 #[.string a, .string b] w fun e w' => e = .returned (.bool (Pl.glue a.data.toList b.data.toList)) ∧ w = w' := by
  rw [glue_val a b ha hb]
  obtain ⟨q1, q2, q3⟩ := Pl.not_empty a (by omega)
  obtain ⟨p1, p2, p3⟩ := Pl.not_empty b (by omega)
  have hw := ways a b
  unfold maxLen at hsa
  have hpos : 1 ≤ a.size := by omega
  clear q1 q2 p1 p2
  rw [Bool.or_assoc]
  generalize (((a.toList == [61]) && ((b.toList == [61]) || (b.toList == [61, 61]))) || ((a.toList == [47]) && (b.toList == [47]))) = r at *
  cases h1 : Pl.wb a[a.size - 1]
  · have H1 := Lib.hid (letter5_is a[a.size - 1] false h1)
    clear h1
    rcases hw with ⟨e1, e2, e3, rfl⟩ | ⟨e1, e2, e3, e4, rfl⟩ | ⟨e1, e2, e3, e4, rfl⟩ | ⟨e1, e2, e3, rfl⟩ | ⟨e1, e2, e3, rfl⟩ | ⟨e1, e2, rfl⟩
    all_goals
      go_enter Tryz.func79, Tryz.ntmps79
      go_wp2_with (go_at_call 106; refine (H1.out _).mono ?_; rintro e w' ⟨rfl, rfl⟩)
      go_ret
      exact ⟨rfl, rfl⟩
  · cases h2 : Pl.wb b[0]
    · have H1 := Lib.hid (letter5_is a[a.size - 1] true h1)
      have H2 := Lib.hid (letter5_is b[0] false h2)
      clear h1 h2
      rcases hw with ⟨e1, e2, e3, rfl⟩ | ⟨e1, e2, e3, e4, rfl⟩ | ⟨e1, e2, e3, e4, rfl⟩ | ⟨e1, e2, e3, rfl⟩ | ⟨e1, e2, e3, rfl⟩ | ⟨e1, e2, rfl⟩
      all_goals
        go_enter Tryz.func79, Tryz.ntmps79
        go_wp2_with (go_at_call 106; first | (with_reducible refine (H1.out _).mono ?_; rintro e w' ⟨rfl, rfl⟩) | (with_reducible refine (H2.out _).mono ?_; rintro e w' ⟨rfl, rfl⟩))
        go_ret
        exact ⟨rfl, rfl⟩
    · have H1 := Lib.hid (letter5_is a[a.size - 1] true h1)
      have H2 := Lib.hid (letter5_is b[0] true h2)
      clear h1 h2 hw
      go_enter Tryz.func79, Tryz.ntmps79
      go_wp2_with (go_at_call 106; first | (with_reducible refine (H1.out _).mono ?_; rintro e w' ⟨rfl, rfl⟩) | (with_reducible refine (H2.out _).mono ?_; rintro e w' ⟨rfl, rfl⟩))
      go_ret
      exact ⟨rfl, rfl⟩
theorem glue_any (a b : ByteArray) (w : World) (hsa : a.size ≤ maxLen) :
    Calls Tryz.prog 76 #[.string a, .string b] w fun e w' => e = .returned (.bool (Pl.glue a.data.toList b.data.toList)) ∧ w = w' := by
  by_cases h1 : a.size = 0
  · obtain rfl := Pl.size_zero a h1; exact glue_any_nil b w
  · by_cases h2 : b.size = 0
    · obtain rfl := Pl.size_zero b h2; exact glue_any_nil' a w (by omega)
    · exact glue_some a b w hsa (by omega) (by omega)
theorem rglue_any (a b : ByteArray) (w : World) (hsa : a.size ≤ maxLen) :
    Calls Tryz.prog 79 #[.string a, .string b] w fun e w' => e = .returned (.bool (Pl.glue a.data.toList b.data.toList)) ∧ w = w' := by
  by_cases h1 : a.size = 0
  · obtain rfl := Pl.size_zero a h1; exact rglue_any_nil b w
  · by_cases h2 : b.size = 0
    · obtain rfl := Pl.size_zero b h2; exact rglue_any_nil' a w (by omega)
    · exact rglue_some a b w hsa (by omega) (by omega)
theorem glue_is (a b : ByteArray) (r : Bool) (h : Pl.glue a.data.toList b.data.toList = r) (w : World) (hsa : a.size ≤ maxLen) :
    Calls Tryz.prog 76 #[.string a, .string b] w fun e w' => e = .returned (.bool r) ∧ w = w' := h ▸ glue_any a b w hsa
theorem rglue_is (a b : ByteArray) (r : Bool) (h : Pl.glue a.data.toList b.data.toList = r) (w : World) (hsa : a.size ≤ maxLen) :
    Calls Tryz.prog 79 #[.string a, .string b] w fun e w' => e = .returned (.bool r) ∧ w = w' := h ▸ rglue_any a b w hsa
end Go.Proofs.YtiaajpdcacdngaaGreatDoor.Tk
