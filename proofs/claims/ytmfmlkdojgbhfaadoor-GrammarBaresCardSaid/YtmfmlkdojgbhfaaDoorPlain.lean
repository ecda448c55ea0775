/- Words, as plain functions on strings: nothing of the program. Facts on how a range over a string steps, on names. -/
import Derived.Laws.RangeAny
import Derived.Lib.Strings
namespace Go.Proofs.YtmfmlkdojgbhfaaDoor.Pl
open Go
set_option linter.unusedVariables false
set_option linter.unusedSimpArgs false

abbrev Bs := List UInt8
theorem list_ext {a b : ByteArray} (h : a.data.toList = b.data.toList) : a = b := by
  cases a; cases b; simp at h; rw [h]

/- ### How a range over a string steps -/

theorem get_eq (s : ByteArray) (k : Nat) (h : k < s.size) : s.get! k = s[k] := by
  simp [ByteArray.get!, getElem!_pos, h]
  rfl

/-- A byte of 128 or more: the step ends within the string, and passes such bytes only. -/
theorem decode_wide (s : ByteArray) (pos : Nat) (h : pos < s.size) (ha : 128 ≤ (s[pos]'h).toNat) :
    pos + (Utf8.decode s pos).2 ≤ s.size ∧ ∀ k, (hk : k < s.size) → pos ≤ k → k < pos + (Utf8.decode s pos).2 → 128 ≤ (s[k]'hk).toNat := by
  have hn : ¬ (s[pos]'h).toNat < 128 := by omega
  have one : pos + 1 ≤ s.size ∧ ∀ k, (hk : k < s.size) → pos ≤ k → k < pos + 1 → 128 ≤ (s[k]'hk).toNat := by
    refine ⟨by omega, fun k hk h1 h2 => ?_⟩
    have : k = pos := by omega
    subst this; exact ha
  have cont : ∀ j, (decide (pos + j < s.size) && ((s.get! (pos + j)).toNat / 64 == 2)) = true → pos + j < s.size ∧ ∀ hk : pos + j < s.size, 128 ≤ (s[pos + j]'hk).toNat := by
    intro j hj
    simp only [Bool.and_eq_true, decide_eq_true_eq, beq_iff_eq] at hj
    refine ⟨hj.1, fun hk => ?_⟩
    rw [get_eq s _ hk] at hj
    omega
  simp only [Utf8.decode, get_at s pos h, hn, if_false]
  split
  · rename_i hc
    simp only [Bool.and_eq_true] at hc
    have c1 := cont 1 (by simpa using hc.2)
    split
    · refine ⟨by show pos + 2 ≤ s.size; omega, fun k hk h1 h2 => ?_⟩
      have : k = pos ∨ k = pos + 1 := by simp only at h2; omega
      rcases this with rfl | rfl
      · exact ha
      · exact c1.2 hk
    · exact one
  · split
    · rename_i hc
      simp only [Bool.and_eq_true] at hc
      have c1 := cont 1 (by simpa using hc.1.2)
      have c2 := cont 2 (by simpa using hc.2)
      split
      · refine ⟨by show pos + 3 ≤ s.size; omega, fun k hk h1 h2 => ?_⟩
        have : k = pos ∨ k = pos + 1 ∨ k = pos + 2 := by simp only at h2; omega
        rcases this with rfl | rfl | rfl
        · exact ha
        · exact c1.2 hk
        · exact c2.2 hk
      · exact one
    · split
      · rename_i hc
        simp only [Bool.and_eq_true] at hc
        have c1 := cont 1 (by simpa using hc.1.1.2)
        have c2 := cont 2 (by simpa using hc.1.2)
        have c3 := cont 3 (by simpa using hc.2)
        split
        · refine ⟨by show pos + 4 ≤ s.size; omega, fun k hk h1 h2 => ?_⟩
          have : k = pos ∨ k = pos + 1 ∨ k = pos + 2 ∨ k = pos + 3 := by simp only at h2; omega
          rcases this with rfl | rfl | rfl | rfl
          · exact ha
          · exact c1.2 hk
          · exact c2.2 hk
          · exact c3.2 hk
        · exact one
      · exact one

/-- What a step of a range over a string gives, as one word. -/
def Rune (s : ByteArray) (pos : Nat) (h : pos < s.size) (c n : Nat) : Prop := 1 ≤ n ∧ pos + n ≤ s.size ∧ 
  ((c = (s[pos]'h).toNat ∧ n = 1 ∧ c < 128) ∨ (128 ≤ c ∧ c ≤ 2147483647 ∧ ∀ k, (hk : k < s.size) → pos ≤ k → k < pos + n → 128 ≤ (s[k]'hk).toNat))

/-- A step of a range over a string: the rune is below 128 exactly if the byte is, and is that byte then; the bytes that the step passes are that byte alone, or all 128 or more. -/
theorem rune_step (s : ByteArray) (pos : Nat) (h : pos < s.size) : ∃ c n, Utf8.decode s pos = (c, n) ∧ Rune s pos h c n := by
  refine ⟨(Utf8.decode s pos).1, (Utf8.decode s pos).2, rfl, ?_⟩
  by_cases ha : (s[pos]'h).toNat < 128
  · rw [decode_ascii s pos h ha]
    exact ⟨Nat.le_refl _, by show pos + 1 ≤ s.size; omega, .inl ⟨rfl, rfl, ha⟩⟩
  · have h1 := decode_high s pos h (by omega)
    have h2 := decode_wide s pos h (by omega)
    exact ⟨h1.2, h2.1, .inr ⟨h1.1, decode_le s pos, h2.2⟩⟩


/- ### Names -/

/-- A digit. -/
def dg (c : Nat) : Bool := decide (48 ≤ c) && decide (c ≤ 57)
/-- A letter or an underscore. -/
def lt (c : Nat) : Bool := decide (97 ≤ c) && decide (c ≤ 122) || decide (65 ≤ c) && decide (c ≤ 90) || decide (c = 95)
/-- A letter, a digit or an underscore. -/
def wd (c : Nat) : Bool := lt c || dg c
theorem wd_high (c : Nat) (h : 128 ≤ c) : wd c = false := by
  unfold wd lt dg
  have h1 : decide (c ≤ 122) = false := by simp; omega
  have h2 : decide (c ≤ 90) = false := by simp; omega
  have h3 : decide (c = 95) = false := by simp; omega
  have h4 : decide (c ≤ 57) = false := by simp; omega
  simp [h1, h2, h3, h4]
theorem dg_high (c : Nat) (h : 128 ≤ c) : dg c = false := by
  unfold dg
  have h4 : decide (c ≤ 57) = false := by simp; omega
  simp [h4]

/-- The keywords. -/
def kwL : List (List UInt8) := [[102, 110], [99, 108, 97, 115, 115], [99, 111, 110, 115, 116], [108, 101, 116], [114, 101, 116, 117, 114, 110], [105, 102], [101, 108, 115, 101], [119, 104, 105, 108, 101], [110, 101, 119], [115, 101, 108, 102], [116, 114, 117, 101], [102, 97, 108, 115, 101]]
def kw (s : ByteArray) : Bool := kwL.any (fun k => s.toList == k)
theorem toList_eq (s : ByteArray) : s.toList = s.data.toList := Lib.toList_data s
theorem mk_of (s : ByteArray) (l : List UInt8) (h : s.toList = l) : s = ⟨l.toArray⟩ := by
  rw [toList_eq] at h
  subst h
  cases s; simp
theorem kw_yes (s : ByteArray) (h : kw s = true) : s = ⟨#[102, 110]⟩ ∨ s = ⟨#[99, 108, 97, 115, 115]⟩ ∨ s = ⟨#[99, 111, 110, 115, 116]⟩ ∨ s = ⟨#[108, 101, 116]⟩ ∨ s = ⟨#[114, 101, 116, 117, 114, 110]⟩ ∨ s = ⟨#[105, 102]⟩ ∨ s = ⟨#[101, 108, 115, 101]⟩ ∨ s = ⟨#[119, 104, 105, 108, 101]⟩ ∨ s = ⟨#[110, 101, 119]⟩ ∨ s = ⟨#[115, 101, 108, 102]⟩ ∨ s = ⟨#[116, 114, 117, 101]⟩ ∨ s = ⟨#[102, 97, 108, 115, 101]⟩ := by
  unfold kw kwL at h
  simp only [List.any_cons, List.any_nil, Bool.or_false, Bool.or_eq_true, beq_iff_eq] at h
  rcases h with h | h | h | h | h | h | h | h | h | h | h | h
  · exact .inl (mk_of s _ h)
  · exact .inr (.inl (mk_of s _ h))
  · exact .inr (.inr (.inl (mk_of s _ h)))
  · exact .inr (.inr (.inr (.inl (mk_of s _ h))))
  · exact .inr (.inr (.inr (.inr (.inl (mk_of s _ h)))))
  · exact .inr (.inr (.inr (.inr (.inr (.inl (mk_of s _ h))))))
  · exact .inr (.inr (.inr (.inr (.inr (.inr (.inl (mk_of s _ h)))))))
  · exact .inr (.inr (.inr (.inr (.inr (.inr (.inr (.inl (mk_of s _ h))))))))
  · exact .inr (.inr (.inr (.inr (.inr (.inr (.inr (.inr (.inl (mk_of s _ h)))))))))
  · exact .inr (.inr (.inr (.inr (.inr (.inr (.inr (.inr (.inr (.inl (mk_of s _ h))))))))))
  · exact .inr (.inr (.inr (.inr (.inr (.inr (.inr (.inr (.inr (.inr (.inl (mk_of s _ h)))))))))))
  · exact .inr (.inr (.inr (.inr (.inr (.inr (.inr (.inr (.inr (.inr (.inr (mk_of s _ h)))))))))))
theorem kw_no (s : ByteArray) (h : kw s = false) : (s.toList == [102, 110]) = false ∧ (s.toList == [99, 108, 97, 115, 115]) = false ∧ (s.toList == [99, 111, 110, 115, 116]) = false ∧ (s.toList == [108, 101, 116]) = false ∧ (s.toList == [114, 101, 116, 117, 114, 110]) = false ∧ (s.toList == [105, 102]) = false ∧ (s.toList == [101, 108, 115, 101]) = false ∧ (s.toList == [119, 104, 105, 108, 101]) = false ∧ (s.toList == [110, 101, 119]) = false ∧ (s.toList == [115, 101, 108, 102]) = false ∧ (s.toList == [116, 114, 117, 101]) = false ∧ (s.toList == [102, 97, 108, 115, 101]) = false := by
  unfold kw kwL at h
  simpa only [List.any_cons, List.any_nil, Bool.or_false, Bool.or_eq_false_iff] using h
/-- All bytes are letters, digits or underscores. -/
def wds (s : ByteArray) : Bool := s.data.toList.all fun c => wd c.toNat
def dg0 (s : ByteArray) : Bool := match s.data.toList with | [] => false | c :: _ => dg c.toNat
/-- A name. -/
def nm (s : ByteArray) : Bool := decide (1 ≤ s.size) && decide (s.size ≤ 32) && !kw s && !dg0 s && wds s

theorem get_list (s : ByteArray) (k : Nat) (hk : k < s.size) (hl : k < s.data.toList.length) : s.data.toList[k] = s[k] := rfl
/-- The first k bytes are letters, digits or underscores. -/
def Wds (s : ByteArray) (k : Nat) : Prop := ∀ j, (hj : j < s.size) → j < k → wd s[j].toNat = true
theorem wds_all (s : ByteArray) (k : Nat) (hk : s.size ≤ k) (h : Wds s k) : wds s = true := by
  unfold wds
  rw [List.all_eq_true]
  intro c hc
  obtain ⟨j, hj, rfl⟩ := List.getElem_of_mem hc
  have hj2 : j < s.size := by rw [Lib.size_eq]; exact hj
  rw [get_list s j hj2 hj]
  exact h j hj2 (by omega)
theorem wds_no (s : ByteArray) (k : Nat) (hk : k < s.size) (h : wd s[k].toNat = false) : wds s = false := by
  unfold wds
  rw [List.all_eq_false]
  have hl : k < s.data.toList.length := by rw [← Lib.size_eq]; exact hk
  refine ⟨s.data.toList[k], List.getElem_mem _, ?_⟩
  rw [get_list s k hk hl, h]
  simp
theorem dg0_eq (s : ByteArray) (h : 0 < s.size) : dg0 s = dg s[0].toNat := by
  have hl : 0 < s.data.toList.length := by rw [← Lib.size_eq]; exact h
  rw [← get_list s 0 h hl]
  unfold dg0
  match hm : s.data.toList, hl with
  | c :: r, _ => simp

/-- One step of the range: the rune is judged as the byte is. -/
theorem rune_wd (s : ByteArray) (pos : Nat) (h : pos < s.size) (c n : Nat) (hr : Rune s pos h c n) (hw : wd c = true) : n = 1 ∧ c = s[pos].toNat := by
  rcases hr with ⟨_, _, ⟨h1, h2, _⟩ | ⟨h1, _⟩⟩
  · exact ⟨h2, h1⟩
  · rw [wd_high c h1] at hw; cases hw
theorem rune_no (s : ByteArray) (pos : Nat) (h : pos < s.size) (c n : Nat) (hr : Rune s pos h c n) (hw : wd c = false) : wd s[pos].toNat = false := by
  rcases hr with ⟨_, _, ⟨h1, h2, _⟩ | ⟨h1, _, h2⟩⟩
  · rw [← h1]; exact hw
  · exact wd_high _ (h2 pos h (Nat.le_refl _) (by omega))
theorem rune_le (s : ByteArray) (pos : Nat) (h : pos < s.size) (c n : Nat) (hr : Rune s pos h c n) : c ≤ 2147483647 := by
  rcases hr with ⟨_, _, ⟨h1, h2, _⟩ | ⟨h1, h3, h2⟩⟩ <;> omega
theorem wds_step (s : ByteArray) (k : Nat) (hk : k < s.size) (h : Wds s k) (hw : wd s[k].toNat = true) : Wds s (k + 1) := by
  intro j hj hlt
  by_cases e : j = k
  · subst e; exact hw
  · exact h j hj (by omega)
theorem nm_yes (s : ByteArray) (h1 : 1 ≤ s.size) (h2 : s.size ≤ 32) (h3 : kw s = false) (h4 : dg s[0].toNat = false) (h5 : Wds s s.size) : nm s = true := by
  unfold nm
  rw [dg0_eq s (by omega), h3, h4, wds_all s s.size (Nat.le_refl _) h5]
  simp [h1, h2]
theorem nm_zero (s : ByteArray) (h : s.size = 0) : nm s = false := by unfold nm; simp [h]
theorem nm_long (s : ByteArray) (h : 32 < s.size) : nm s = false := by unfold nm; have : decide (s.size ≤ 32) = false := by simp; omega
                                                                       simp [this]
theorem nm_kw (s : ByteArray) (h : kw s = true) : nm s = false := by unfold nm; simp [h]
theorem nm_dg (s : ByteArray) (hz : 0 < s.size) (h : dg s[0].toNat = true) : nm s = false := by unfold nm; rw [dg0_eq s hz, h]; simp
theorem nm_wd (s : ByteArray) (k : Nat) (hk : k < s.size) (h : wd s[k].toNat = false) : nm s = false := by unfold nm; rw [wds_no s k hk h]; simp
theorem size_zero (s : ByteArray) (h : s.size = 0) : s = ⟨#[]⟩ := by
  apply list_ext
  rw [Lib.size_eq] at h
  exact List.eq_nil_of_length_eq_zero h
theorem not_empty (s : ByteArray) (h : 1 ≤ s.size) : s.toList ≠ [] ∧ (!s.toList.isEmpty) = true ∧ s.toList.isEmpty = false := by
  have h1 : s.toList ≠ [] := by
    intro e
    rw [toList_eq] at e
    rw [Lib.size_eq, e] at h
    simp at h
  refine ⟨h1, ?_, ?_⟩
  · simpa using h1
  · simpa using h1

theorem extract_all (s : ByteArray) : s.extract 0 s.size = s := by
  apply list_ext
  rw [Lib.extract_data, List.drop_zero, Nat.sub_zero, List.take_of_length_le]
  rw [Lib.size_eq]; exact Nat.le_refl _
theorem extract_list (s : ByteArray) (a b : Nat) : (s.extract a b).data.toList = (s.data.toList.take b).drop a := by
  rw [Lib.extract_data, List.drop_take]

theorem take_snoc (l : Bs) (k : Nat) (h : k < l.length) : l.take (k + 1) = l.take k ++ [l[k]] := by
  rw [List.take_succ_eq_append_getElem h]

def mk (l : Bs) : ByteArray := ⟨l.toArray⟩
theorem mk_list (l : Bs) : (mk l).data.toList = l := by simp [mk]
theorem mk_size (l : Bs) : (mk l).size = l.length := by rw [Lib.size_eq, mk_list]

theorem mk_get (y : Bs) (k : Nat) (hk : k < (mk y).size) (hl : k < y.length) : (mk y)[k]'hk = y[k]'hl := by
  rw [← get_list _ _ hk (by rw [mk_list]; exact hl)]
  simp only [mk_list]
end Go.Proofs.YtmfmlkdojgbhfaaDoor.Pl
