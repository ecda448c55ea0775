/- Texts, trees and which trees are programs, as plain data. -/
import Derived.Laws.RangeAny
import Derived.Lib.Strings
import Derived.Lib.IndexLaws
import Derived.WalkKit
import Derived.IntWalk
namespace Go.Proofs.YtpaleolcfhnenaaDoor.Pl
open Go
set_option linter.unusedVariables false
set_option linter.unusedSimpArgs false

abbrev Bs := List UInt8
theorem list_ext {a b : ByteArray} (h : a.data.toList = b.data.toList) : a = b := by
  cases a; cases b; simp at h; rw [h]

/- ### How a range over a string steps -/

theorem get_eq (s : ByteArray) (k : Nat) (h : k < s.size) : s.get! k = s[k] := by
  simp [ByteArray.get!, getElem!_pos, h]
  rfl

/-- A byte of 128 or more: the step ends within the string, and passes such bytes only. -/
theorem decode_wide (s : ByteArray) (pos : Nat) (h : pos < s.size) (ha : 128 ≤ (s[pos]'h).toNat) :
    pos + (Utf8.decode s pos).2 ≤ s.size ∧ ∀ k, (hk : k < s.size) → pos ≤ k → k < pos + (Utf8.decode s pos).2 → 128 ≤ (s[k]'hk).toNat := by
  have hn : ¬ (s[pos]'h).toNat < 128 := by omega
  have one : pos + 1 ≤ s.size ∧ ∀ k, (hk : k < s.size) → pos ≤ k → k < pos + 1 → 128 ≤ (s[k]'hk).toNat := by
    refine ⟨by omega, fun k hk h1 h2 => ?_⟩
    have : k = pos := by omega
    subst this; exact ha
  have cont : ∀ j, (decide (pos + j < s.size) && ((s.get! (pos + j)).toNat / 64 == 2)) = true → pos + j < s.size ∧ ∀ hk : pos + j < s.size, 128 ≤ (s[pos + j]'hk).toNat := by
    intro j hj
    simp only [Bool.and_eq_true, decide_eq_true_eq, beq_iff_eq] at hj
    refine ⟨hj.1, fun hk => ?_⟩
    rw [get_eq s _ hk] at hj
    omega
  simp only [Utf8.decode, get_at s pos h, hn, if_false]
  split
  · rename_i hc
    simp only [Bool.and_eq_true] at hc
    have c1 := cont 1 (by simpa using hc.2)
    split
    · refine ⟨by show pos + 2 ≤ s.size; omega, fun k hk h1 h2 => ?_⟩
      have : k = pos ∨ k = pos + 1 := by simp only at h2; omega
      rcases this with rfl | rfl
      · exact ha
      · exact c1.2 hk
    · exact one
  · split
    · rename_i hc
      simp only [Bool.and_eq_true] at hc
      have c1 := cont 1 (by simpa using hc.1.2)
      have c2 := cont 2 (by simpa using hc.2)
      split
      · refine ⟨by show pos + 3 ≤ s.size; omega, fun k hk h1 h2 => ?_⟩
        have : k = pos ∨ k = pos + 1 ∨ k = pos + 2 := by simp only at h2; omega
        rcases this with rfl | rfl | rfl
        · exact ha
        · exact c1.2 hk
        · exact c2.2 hk
      · exact one
    · split
      · rename_i hc
        simp only [Bool.and_eq_true] at hc
        have c1 := cont 1 (by simpa using hc.1.1.2)
        have c2 := cont 2 (by simpa using hc.1.2)
        have c3 := cont 3 (by simpa using hc.2)
        split
        · refine ⟨by show pos + 4 ≤ s.size; omega, fun k hk h1 h2 => ?_⟩
          have : k = pos ∨ k = pos + 1 ∨ k = pos + 2 ∨ k = pos + 3 := by simp only at h2; omega
          rcases this with rfl | rfl | rfl | rfl
          · exact ha
          · exact c1.2 hk
          · exact c2.2 hk
          · exact c3.2 hk
        · exact one
      · exact one

/-- What a step of a range over a string gives, as one word. -/
def Rune (s : ByteArray) (pos : Nat) (h : pos < s.size) (c n : Nat) : Prop := 1 ≤ n ∧ pos + n ≤ s.size ∧ 
  ((c = (s[pos]'h).toNat ∧ n = 1 ∧ c < 128) ∨ (128 ≤ c ∧ c ≤ 2147483647 ∧ ∀ k, (hk : k < s.size) → pos ≤ k → k < pos + n → 128 ≤ (s[k]'hk).toNat))

/-- A step of a range over a string: the rune is below 128 exactly if the byte is, and is that byte then; the bytes that the step passes are that byte alone, or all 128 or more. -/
theorem rune_step (s : ByteArray) (pos : Nat) (h : pos < s.size) : ∃ c n, Utf8.decode s pos = (c, n) ∧ Rune s pos h c n := by
  refine ⟨(Utf8.decode s pos).1, (Utf8.decode s pos).2, rfl, ?_⟩
  by_cases ha : (s[pos]'h).toNat < 128
  · rw [decode_ascii s pos h ha]
    exact ⟨Nat.le_refl _, by show pos + 1 ≤ s.size; omega, .inl ⟨rfl, rfl, ha⟩⟩
  · have h1 := decode_high s pos h (by omega)
    have h2 := decode_wide s pos h (by omega)
    exact ⟨h1.2, h2.1, .inr ⟨h1.1, decode_le s pos, h2.2⟩⟩


/- ### Names -/

/-- A digit. -/
def dg (c : Nat) : Bool := decide (48 ≤ c) && decide (c ≤ 57)
/-- A letter or an underscore. -/
def lt (c : Nat) : Bool := decide (97 ≤ c) && decide (c ≤ 122) || decide (65 ≤ c) && decide (c ≤ 90) || decide (c = 95)
/-- A letter, a digit or an underscore. -/
def wd (c : Nat) : Bool := lt c || dg c
theorem wd_high (c : Nat) (h : 128 ≤ c) : wd c = false := by
  unfold wd lt dg
  have h1 : decide (c ≤ 122) = false := by simp; omega
  have h2 : decide (c ≤ 90) = false := by simp; omega
  have h3 : decide (c = 95) = false := by simp; omega
  have h4 : decide (c ≤ 57) = false := by simp; omega
  simp [h1, h2, h3, h4]
theorem dg_high (c : Nat) (h : 128 ≤ c) : dg c = false := by
  unfold dg
  have h4 : decide (c ≤ 57) = false := by simp; omega
  simp [h4]

/-- The keywords. -/
def kwL : List (List UInt8) := [[102, 110], [99, 108, 97, 115, 115], [99, 111, 110, 115, 116], [108, 101, 116], [114, 101, 116, 117, 114, 110], [105, 102], [101, 108, 115, 101], [119, 104, 105, 108, 101], [110, 101, 119], [115, 101, 108, 102], [116, 114, 117, 101], [102, 97, 108, 115, 101]]
def kw (s : ByteArray) : Bool := kwL.any (fun k => s.toList == k)
theorem toList_eq (s : ByteArray) : s.toList = s.data.toList := Lib.toList_data s
theorem mk_of (s : ByteArray) (l : List UInt8) (h : s.toList = l) : s = ⟨l.toArray⟩ := by
  rw [toList_eq] at h
  subst h
  cases s; simp
theorem kw_yes (s : ByteArray) (h : kw s = true) : s = ⟨#[102, 110]⟩ ∨ s = ⟨#[99, 108, 97, 115, 115]⟩ ∨ s = ⟨#[99, 111, 110, 115, 116]⟩ ∨ s = ⟨#[108, 101, 116]⟩ ∨ s = ⟨#[114, 101, 116, 117, 114, 110]⟩ ∨ s = ⟨#[105, 102]⟩ ∨ s = ⟨#[101, 108, 115, 101]⟩ ∨ s = ⟨#[119, 104, 105, 108, 101]⟩ ∨ s = ⟨#[110, 101, 119]⟩ ∨ s = ⟨#[115, 101, 108, 102]⟩ ∨ s = ⟨#[116, 114, 117, 101]⟩ ∨ s = ⟨#[102, 97, 108, 115, 101]⟩ := by
  unfold kw kwL at h
  simp only [List.any_cons, List.any_nil, Bool.or_false, Bool.or_eq_true, beq_iff_eq] at h
  rcases h with h | h | h | h | h | h | h | h | h | h | h | h
  · exact .inl (mk_of s _ h)
  · exact .inr (.inl (mk_of s _ h))
  · exact .inr (.inr (.inl (mk_of s _ h)))
  · exact .inr (.inr (.inr (.inl (mk_of s _ h))))
  · exact .inr (.inr (.inr (.inr (.inl (mk_of s _ h)))))
  · exact .inr (.inr (.inr (.inr (.inr (.inl (mk_of s _ h))))))
  · exact .inr (.inr (.inr (.inr (.inr (.inr (.inl (mk_of s _ h)))))))
  · exact .inr (.inr (.inr (.inr (.inr (.inr (.inr (.inl (mk_of s _ h))))))))
  · exact .inr (.inr (.inr (.inr (.inr (.inr (.inr (.inr (.inl (mk_of s _ h)))))))))
  · exact .inr (.inr (.inr (.inr (.inr (.inr (.inr (.inr (.inr (.inl (mk_of s _ h))))))))))
  · exact .inr (.inr (.inr (.inr (.inr (.inr (.inr (.inr (.inr (.inr (.inl (mk_of s _ h)))))))))))
  · exact .inr (.inr (.inr (.inr (.inr (.inr (.inr (.inr (.inr (.inr (.inr (mk_of s _ h)))))))))))
theorem kw_no (s : ByteArray) (h : kw s = false) : (s.toList == [102, 110]) = false ∧ (s.toList == [99, 108, 97, 115, 115]) = false ∧ (s.toList == [99, 111, 110, 115, 116]) = false ∧ (s.toList == [108, 101, 116]) = false ∧ (s.toList == [114, 101, 116, 117, 114, 110]) = false ∧ (s.toList == [105, 102]) = false ∧ (s.toList == [101, 108, 115, 101]) = false ∧ (s.toList == [119, 104, 105, 108, 101]) = false ∧ (s.toList == [110, 101, 119]) = false ∧ (s.toList == [115, 101, 108, 102]) = false ∧ (s.toList == [116, 114, 117, 101]) = false ∧ (s.toList == [102, 97, 108, 115, 101]) = false := by
  unfold kw kwL at h
  simpa only [List.any_cons, List.any_nil, Bool.or_false, Bool.or_eq_false_iff] using h
/-- All bytes are letters, digits or underscores. -/
def wds (s : ByteArray) : Bool := s.data.toList.all fun c => wd c.toNat
def dg0 (s : ByteArray) : Bool := match s.data.toList with | [] => false | c :: _ => dg c.toNat
/-- A name. -/
def nm (s : ByteArray) : Bool := decide (1 ≤ s.size) && decide (s.size ≤ 32) && !kw s && !dg0 s && wds s

theorem get_list (s : ByteArray) (k : Nat) (hk : k < s.size) (hl : k < s.data.toList.length) : s.data.toList[k] = s[k] := rfl
/-- The first k bytes are letters, digits or underscores. -/
def Wds (s : ByteArray) (k : Nat) : Prop := ∀ j, (hj : j < s.size) → j < k → wd s[j].toNat = true
theorem wds_all (s : ByteArray) (k : Nat) (hk : s.size ≤ k) (h : Wds s k) : wds s = true := by
  unfold wds
  rw [List.all_eq_true]
  intro c hc
  obtain ⟨j, hj, rfl⟩ := List.getElem_of_mem hc
  have hj2 : j < s.size := by rw [Lib.size_eq]; exact hj
  rw [get_list s j hj2 hj]
  exact h j hj2 (by omega)
theorem wds_no (s : ByteArray) (k : Nat) (hk : k < s.size) (h : wd s[k].toNat = false) : wds s = false := by
  unfold wds
  rw [List.all_eq_false]
  have hl : k < s.data.toList.length := by rw [← Lib.size_eq]; exact hk
  refine ⟨s.data.toList[k], List.getElem_mem _, ?_⟩
  rw [get_list s k hk hl, h]
  simp
theorem dg0_eq (s : ByteArray) (h : 0 < s.size) : dg0 s = dg s[0].toNat := by
  have hl : 0 < s.data.toList.length := by rw [← Lib.size_eq]; exact h
  rw [← get_list s 0 h hl]
  unfold dg0
  match hm : s.data.toList, hl with
  | c :: r, _ => simp

/-- One step of the range: the rune is judged as the byte is. -/
theorem rune_wd (s : ByteArray) (pos : Nat) (h : pos < s.size) (c n : Nat) (hr : Rune s pos h c n) (hw : wd c = true) : n = 1 ∧ c = s[pos].toNat := by
  rcases hr with ⟨_, _, ⟨h1, h2, _⟩ | ⟨h1, _⟩⟩
  · exact ⟨h2, h1⟩
  · rw [wd_high c h1] at hw; cases hw
theorem rune_no (s : ByteArray) (pos : Nat) (h : pos < s.size) (c n : Nat) (hr : Rune s pos h c n) (hw : wd c = false) : wd s[pos].toNat = false := by
  rcases hr with ⟨_, _, ⟨h1, h2, _⟩ | ⟨h1, _, h2⟩⟩
  · rw [← h1]; exact hw
  · exact wd_high _ (h2 pos h (Nat.le_refl _) (by omega))
theorem rune_le (s : ByteArray) (pos : Nat) (h : pos < s.size) (c n : Nat) (hr : Rune s pos h c n) : c ≤ 2147483647 := by
  rcases hr with ⟨_, _, ⟨h1, h2, _⟩ | ⟨h1, h3, h2⟩⟩ <;> omega
theorem wds_step (s : ByteArray) (k : Nat) (hk : k < s.size) (h : Wds s k) (hw : wd s[k].toNat = true) : Wds s (k + 1) := by
  intro j hj hlt
  by_cases e : j = k
  · subst e; exact hw
  · exact h j hj (by omega)
theorem nm_yes (s : ByteArray) (h1 : 1 ≤ s.size) (h2 : s.size ≤ 32) (h3 : kw s = false) (h4 : dg s[0].toNat = false) (h5 : Wds s s.size) : nm s = true := by
  unfold nm
  rw [dg0_eq s (by omega), h3, h4, wds_all s s.size (Nat.le_refl _) h5]
  simp [h1, h2]
theorem nm_zero (s : ByteArray) (h : s.size = 0) : nm s = false := by unfold nm; simp [h]
theorem nm_long (s : ByteArray) (h : 32 < s.size) : nm s = false := by unfold nm; have : decide (s.size ≤ 32) = false := by simp; omega
                                                                       simp [this]
theorem nm_kw (s : ByteArray) (h : kw s = true) : nm s = false := by unfold nm; simp [h]
theorem nm_dg (s : ByteArray) (hz : 0 < s.size) (h : dg s[0].toNat = true) : nm s = false := by unfold nm; rw [dg0_eq s hz, h]; simp
theorem nm_wd (s : ByteArray) (k : Nat) (hk : k < s.size) (h : wd s[k].toNat = false) : nm s = false := by unfold nm; rw [wds_no s k hk h]; simp
theorem size_zero (s : ByteArray) (h : s.size = 0) : s = ⟨#[]⟩ := by
  apply list_ext
  rw [Lib.size_eq] at h
  exact List.eq_nil_of_length_eq_zero h
theorem not_empty (s : ByteArray) (h : 1 ≤ s.size) : s.toList ≠ [] ∧ (!s.toList.isEmpty) = true ∧ s.toList.isEmpty = false := by
  have h1 : s.toList ≠ [] := by
    intro e
    rw [toList_eq] at e
    rw [Lib.size_eq, e] at h
    simp at h
  refine ⟨h1, ?_, ?_⟩
  · simpa using h1
  · simpa using h1

theorem extract_all (s : ByteArray) : s.extract 0 s.size = s := by
  apply list_ext
  rw [Lib.extract_data, List.drop_zero, Nat.sub_zero, List.take_of_length_le]
  rw [Lib.size_eq]; exact Nat.le_refl _
theorem extract_list (s : ByteArray) (a b : Nat) : (s.extract a b).data.toList = (s.data.toList.take b).drop a := by
  rw [Lib.extract_data, List.drop_take]

theorem take_snoc (l : Bs) (k : Nat) (h : k < l.length) : l.take (k + 1) = l.take k ++ [l[k]] := by
  rw [List.take_succ_eq_append_getElem h]

def mk (l : Bs) : ByteArray := ⟨l.toArray⟩
theorem mk_list (l : Bs) : (mk l).data.toList = l := by simp [mk]
theorem mk_size (l : Bs) : (mk l).size = l.length := by rw [Lib.size_eq, mk_list]

theorem mk_get (y : Bs) (k : Nat) (hk : k < (mk y).size) (hl : k < y.length) : (mk y)[k]'hk = y[k]'hl := by
  rw [← get_list _ _ hk (by rw [mk_list]; exact hl)]
  simp only [mk_list]
end Go.Proofs.YtpaleolcfhnenaaDoor.Pl

namespace Go.Proofs.YtpaleolcfhnenaaDoor.Pl
open Go
set_option linter.unusedVariables false
set_option linter.unusedSimpArgs false


def blank (c : UInt8) : Bool := c == 32 || c == 9 || c == 10
theorem blank_iff (c : UInt8) : blank c = true ↔ c = 32 ∨ c = 9 ∨ c = 10 := by simp [blank, or_assoc]

/-- How many bytes the blank or the complete comment takes with which a text begins; 0 if there is none. -/
def hop : Bs → Nat
  | [] => 0
  | c :: r => if blank c = true then 1 else if c = 47 ∧ r.head? = some 47 ∧ (10 : UInt8) ∈ r then r.idxOf 10 + 2 else 0

theorem idxOf_split (y r : Bs) (h : (10 : UInt8) ∉ y) : (y ++ 10 :: r).idxOf 10 = y.length := by
  induction y with
  | nil => simp
  | cons a t ih =>
    simp only [List.mem_cons, not_or] at h
    rw [List.cons_append, List.idxOf_cons, ih h.2]
    have : (a == 10) = false := by simpa using fun e => h.1 e.symm
    simp [this]
theorem hop_blank (c : UInt8) (r : Bs) (h : blank c = true) : hop (c :: r) = 1 := by simp [hop, h]
theorem hop_comment (y r : Bs) (h : (10 : UInt8) ∉ y) : hop (47 :: 47 :: (y ++ 10 :: r)) = y.length + 3 := by
  have hb : blank 47 = false := by decide
  have e : (47 :: (y ++ 10 :: r) : Bs).idxOf 10 = y.length + 1 := by
    have := idxOf_split (47 :: y) r (by simp [h])
    simpa using this
  rw [hop, if_neg (by simp [hb]), if_pos ⟨rfl, rfl, by simp⟩, e]

/-- What a text begins with. -/
theorem hop_cases (l : Bs) : hop l = 0 ∨ (∃ c r, l = c :: r ∧ blank c = true ∧ hop l = 1) ∨ ∃ y r : Bs, l = 47 :: 47 :: (y ++ 10 :: r) ∧ (10 : UInt8) ∉ y ∧ hop l = y.length + 3 := by
  match l with
  | [] => exact .inl rfl
  | c :: r =>
    by_cases hb : blank c = true
    · exact .inr (.inl ⟨c, r, rfl, hb, hop_blank c r hb⟩)
    · by_cases hc : c = 47 ∧ r.head? = some 47 ∧ (10 : UInt8) ∈ r
      · obtain ⟨rfl, h2, h3⟩ := hc
        cases r with
        | nil => simp at h2
        | cons a t =>
          obtain rfl : a = 47 := by simpa using h2
          have h4 : (10 : UInt8) ∈ t := by simpa using h3
          obtain ⟨y, u, rfl, hy⟩ := List.eq_append_cons_of_mem h4
          exact .inr (.inr ⟨y, u, rfl, hy, hop_comment y u hy⟩)
      · left
        rw [hop, if_neg hb, if_neg hc]

theorem hop_le (l : Bs) : hop l ≤ l.length := by
  rcases hop_cases l with h | ⟨c, r, rfl, _, h⟩ | ⟨y, r, rfl, _, h⟩
  · omega
  · rw [h]; simp
  · rw [h]; simp only [List.length_cons, List.length_append]; omega

theorem hop_append (l m : Bs) (h0 : hop l ≠ 0) : hop (l ++ m) = hop l := by
  rcases hop_cases l with h | ⟨c, r, rfl, hb, h⟩ | ⟨y, r, rfl, hy, h⟩
  · exact absurd h h0
  · rw [h, List.cons_append]; exact hop_blank _ _ hb
  · rw [h]
    have := hop_comment y (r ++ m) hy
    simpa using this
theorem hop_take (l : Bs) (h0 : hop l ≠ 0) : hop (l.take (hop l)) = hop l := by
  rcases hop_cases l with h | ⟨c, r, rfl, hb, h⟩ | ⟨y, r, rfl, hy, h⟩
  · exact absurd h h0
  · rw [h]; exact hop_blank _ _ hb
  · rw [h]
    have e : (47 :: 47 :: (y ++ 10 :: r) : Bs).take (y.length + 3) = 47 :: 47 :: (y ++ 10 :: []) := by
      have : (47 :: 47 :: (y ++ 10 :: r) : Bs) = (47 :: 47 :: (y ++ 10 :: [])) ++ r := by simp
      rw [this]
      exact List.take_left' (by simp)
    rw [e]; exact hop_comment y [] hy

theorem hop_ind {P : Bs → Prop} (h0 : ∀ l, hop l = 0 → P l) (h1 : ∀ l, hop l ≠ 0 → P (l.drop (hop l)) → P l) (l : Bs) : P l := by
  have key : ∀ n (l : Bs), l.length ≤ n → P l := by
    intro n
    induction n with
    | zero =>
      intro l hl
      have : l = [] := List.eq_nil_of_length_eq_zero (by omega)
      subst this; exact h0 [] rfl
    | succ n ih =>
      intro l hl
      by_cases hz : hop l = 0
      · exact h0 l hz
      · have := hop_le l
        exact h1 l hz (ih _ (by rw [List.length_drop]; omega))
  exact key l.length l (Nat.le_refl _)

/-- How many bytes the trivia takes with which a text begins. -/
def eo (l : Bs) : Nat := if h : hop l = 0 then 0 else hop l + eo (l.drop (hop l))
  termination_by l.length
  decreasing_by have := hop_le l; rw [List.length_drop]; omega
theorem eo_stop (l : Bs) (h : hop l = 0) : eo l = 0 := by unfold eo; rw [dif_pos h]
theorem eo_go (l : Bs) (h : hop l ≠ 0) : eo l = hop l + eo (l.drop (hop l)) := by rw [eo, dif_neg h]

theorem eo_le (l : Bs) : eo l ≤ l.length := by
  induction l using hop_ind with
  | h0 l h => rw [eo_stop l h]; omega
  | h1 l h ih => rw [eo_go l h]; have := hop_le l; rw [List.length_drop] at ih; omega
theorem eo_rest (l : Bs) : hop (l.drop (eo l)) = 0 := by
  induction l using hop_ind with
  | h0 l h => rw [eo_stop l h]; simpa using h
  | h1 l h ih => rw [eo_go l h, ← List.drop_drop]; exact ih
theorem eo_take (l : Bs) : eo (l.take (eo l)) = eo l := by
  induction l using hop_ind with
  | h0 l h => rw [eo_stop l h]; rw [List.take_zero]; exact eo_stop [] rfl
  | h1 l h ih =>
    have hl := hop_le l
    have e : l.take (eo l) = l.take (hop l) ++ (l.drop (hop l)).take (eo (l.drop (hop l))) := by rw [eo_go l h, List.take_add]
    have ht := hop_take l h
    have h2 : hop (l.take (eo l)) = hop l := by rw [e, hop_append _ _ (by rw [ht]; exact h), ht]
    rw [eo_go (l.take (eo l)) (by rw [h2]; exact h), h2, eo_go l h]
    congr 1
    rw [← eo_go l h, e, List.drop_left' (by rw [List.length_take]; omega)]
    exact ih
theorem eo_append (s t : Bs) (h : eo s = s.length) : eo (s ++ t) = s.length + eo t := by
  induction s using hop_ind with
  | h0 l hl =>
    rw [eo_stop l hl] at h
    have : l = [] := List.eq_nil_of_length_eq_zero h.symm
    subst this; simp
  | h1 l hl ih =>
    have hle := hop_le l
    have h2 := eo_go l hl
    have h3 := hop_append l t hl
    have h4 : (l ++ t).drop (hop l) = l.drop (hop l) ++ t := by rw [List.drop_append_of_le_length hle]
    rw [eo_go (l ++ t) (by rw [h3]; exact hl), h3, h4, ih (by rw [List.length_drop]; omega), List.length_drop]
    omega

/- ### What the program asks of the rest of a string -/

/-- Behind two slashes: the first line feed's place decides. -/
theorem prefix_iff (m : Bs) : Lib.hasPrefix m [47, 47] = true ↔ ∃ r, m = 47 :: 47 :: r := by
  unfold Lib.hasPrefix
  match m with
  | [] => simp [List.isPrefixOf]
  | [a] => simp [List.isPrefixOf]
  | a :: b :: r =>
    simp [List.isPrefixOf]
    constructor
    · rintro ⟨rfl, rfl⟩; exact ⟨rfl, rfl⟩
    · rintro ⟨rfl, rfl⟩; exact ⟨rfl, rfl⟩
theorem hop_not (c : UInt8) (r : Bs) (hb : blank c = false) (h : Lib.hasPrefix (c :: r) [47, 47] = false) : hop (c :: r) = 0 := by
  rcases hop_cases (c :: r) with h1 | ⟨c', r', e, hb', _⟩ | ⟨y, r', e, _, _⟩
  · exact h1
  · cases e; rw [hb] at hb'; cases hb'
  · have := (prefix_iff (c :: r)).2 ⟨_, e⟩
    rw [h] at this; cases this
theorem hop_idx (m : Bs) (h : Lib.hasPrefix m [47, 47] = true) : (hop m : Int) = Lib.indexByte m 10 + 1 := by
  obtain ⟨r, rfl⟩ := (prefix_iff m).1 h
  by_cases hm : (10 : UInt8) ∈ r
  · obtain ⟨y, u, rfl, hy⟩ := List.eq_append_cons_of_mem hm
    rw [hop_comment y u hy]
    have : ∀ y : Bs, (10 : UInt8) ∉ y → Lib.indexByte (y ++ 10 :: u) 10 = y.length := by
      intro y
      induction y with
      | nil => intro _; simp [Lib.indexByte]
      | cons a t ih =>
        intro hy
        simp only [List.mem_cons, not_or] at hy
        have ha : (a == 10) = false := by simpa using fun e => hy.1 e.symm
        have := ih hy.2
        simp only [List.cons_append, Lib.indexByte, ha, this]
        simp
        try omega
    have := this (47 :: 47 :: y) (by simp [hy])
    rw [List.cons_append, List.cons_append] at this
    rw [this]; simp only [List.length_cons]; omega
  · have e0 : hop (47 :: 47 :: r) = 0 := by
      rcases hop_cases (47 :: 47 :: r) with h1 | ⟨c', r', e, hb', _⟩ | ⟨y, r', e, _, _⟩
      · exact h1
      · cases e; exact absurd hb' (by decide)
      · cases e; exact absurd (by simp) hm
    have : ∀ y : Bs, (10 : UInt8) ∉ y → Lib.indexByte y 10 = -1 := by
      intro y
      induction y with
      | nil => intro _; rfl
      | cons a t ih =>
        intro hy
        simp only [List.mem_cons, not_or] at hy
        have ha : (a == 10) = false := by simpa using fun e => hy.1 e.symm
        simp [Lib.indexByte, ha, ih hy.2]
    rw [e0, this (47 :: 47 :: r) (by simp [hm])]; rfl
/-- As the reference looks for the line feed, byte by byte. -/
theorem hop_found (m : Bs) (h : ∃ r, m = 47 :: 47 :: r) (k : Nat) (hk : k < m.length) (h10 : m[k] = 10) (hno : ∀ j, (hj : j < m.length) → j < k → m[j] ≠ 10) : hop m = k + 1 := by
  obtain ⟨r, rfl⟩ := h
  have hk2 : 2 ≤ k := by
    match k, hk, h10 with
    | 0, _, h10 => simp at h10
    | 1, _, h10 => simp at h10
    | k + 2, _, _ => omega
  have e : (47 :: 47 :: r : Bs) = 47 :: 47 :: (r.take (k - 2) ++ 10 :: r.drop (k - 1)) := by
    congr 2
    have h1 : k - 2 < r.length := by simp only [List.length_cons] at hk; omega
    have h2 : r[k - 2] = 10 := by
      have : (47 :: 47 :: r : Bs)[k] = r[k - 2] := by
        obtain ⟨q, rfl⟩ : ∃ q, k = q + 2 := ⟨k - 2, by omega⟩
        simp
      rw [← this]; exact h10
    rw [show k - 1 = k - 2 + 1 from by omega, ← h2, ← List.drop_eq_getElem_cons h1, List.take_append_drop]
  have hy : (10 : UInt8) ∉ r.take (k - 2) := by
    intro hm
    obtain ⟨j, hj, hj2⟩ := List.getElem_of_mem hm
    rw [List.getElem_take] at hj2
    rw [List.length_take] at hj
    have := hno (j + 2) (by simp only [List.length_cons]; omega) (by omega)
    simp at this
    exact this hj2
  have := hop_comment _ (r.drop (k - 1)) hy
  rw [← e] at this
  rw [this, List.length_take]
  simp only [List.length_cons] at hk
  omega
theorem hop_none (m : Bs) (hb : ∀ c r, m = c :: r → blank c = false) (h : (∀ r, m ≠ 47 :: 47 :: r) ∨ ∀ j, (hj : j < m.length) → m[j] ≠ 10) : hop m = 0 := by
  rcases hop_cases m with h1 | ⟨c', r', e, hb', _⟩ | ⟨y, r', e, _, _⟩
  · exact h1
  · have := hb _ _ e; rw [hb'] at this; cases this
  · rcases h with h | h
    · exact absurd e (h _)
    · subst e
      have := h (y.length + 2) (by simp)
      simp at this
end Go.Proofs.YtpaleolcfhnenaaDoor.Pl

namespace Go.Proofs.YtpaleolcfhnenaaDoor.Pl
set_option linter.unusedVariables false
set_option linter.unusedSimpArgs false

inductive Tr where
  | node (kind : Int) (text : ByteArray) (gaps : List ByteArray) (kids : List Tr)
def Tr.kind : Tr → Int | .node k _ _ _ => k
def Tr.text : Tr → ByteArray | .node _ s _ _ => s
def Tr.gaps : Tr → List ByteArray | .node _ _ g _ => g
def Tr.kids : Tr → List Tr | .node _ _ _ ks => ks
theorem Tr.eta (t : Tr) : t = .node t.kind t.text t.gaps t.kids := by cases t; rfl
theorem Tr.ind {M : Tr → Prop} (h : ∀ k s g ks, (∀ t ∈ ks, M t) → M (.node k s g ks)) : ∀ t, M t
  | .node k s g ks => h k s g ks fun t ht => Tr.ind h t
termination_by t => SizeOf.sizeOf t
decreasing_by
  have := List.sizeOf_lt_of_mem ht
  simp only [Tr.node.sizeOf_spec]
  omega

mutual
def sz : Tr → Nat
  | .node _ _ _ ks => szs ks + 1
def szs : List Tr → Nat
  | [] => 0
  | t :: ts => sz t + szs ts
end
mutual
def ht : Tr → Nat
  | .node _ _ _ ks => hts ks + 1
def hts : List Tr → Nat
  | [] => 0
  | t :: ts => max (ht t) (hts ts)
end
mutual
def pre : Tr → List Tr
  | .node k s g ks => .node k s g ks :: pres ks
def pres : List Tr → List Tr
  | [] => []
  | t :: ts => pre t ++ pres ts
end
mutual
def bare : Tr → Tr
  | .node k s _ ks => .node k s [] (bares ks)
def bares : List Tr → List Tr
  | [] => []
  | t :: ts => bare t :: bares ts
end
theorem sz_pos (t : Tr) : 0 < sz t := by cases t; unfold sz; omega
theorem szs_append (a b : List Tr) : szs (a ++ b) = szs a + szs b := by
  induction a with
  | nil => simp [szs]
  | cons t ts ih => rw [List.cons_append, szs, szs, ih]; omega
theorem szs_take (ks : List Tr) (k : Nat) (h : k < ks.length) : szs (ks.take (k + 1)) = szs (ks.take k) + sz ks[k] := by
  rw [List.take_succ_eq_append_getElem h, szs_append]; simp [szs]
theorem szs_take_le (ks : List Tr) (k : Nat) : szs (ks.take k) ≤ szs ks := by
  have := szs_append (ks.take k) (ks.drop k)
  rw [List.take_append_drop] at this; omega
theorem szs_step (ks : List Tr) (k : Nat) (h : k < ks.length) : szs (ks.take k) + sz ks[k] ≤ szs ks := by
  rw [← szs_take ks k h]; exact szs_take_le _ _
theorem sz_mem {ks : List Tr} {t : Tr} (h : t ∈ ks) : sz t ≤ szs ks := by
  induction ks with
  | nil => cases h
  | cons a ks ih =>
    rw [szs]
    rcases List.mem_cons.1 h with rfl | h
    · omega
    · have := ih h; omega
theorem len_szs (ks : List Tr) : ks.length ≤ szs ks := by
  induction ks with
  | nil => exact Nat.le_refl _
  | cons t ks ih => rw [szs, List.length_cons]; have := sz_pos t; omega
theorem hts_append (a b : List Tr) : hts (a ++ b) = max (hts a) (hts b) := by
  induction a with
  | nil => simp [hts]
  | cons t ts ih => rw [List.cons_append, hts, hts, ih]; omega
theorem hts_take (ks : List Tr) (k : Nat) (h : k < ks.length) : hts (ks.take (k + 1)) = max (hts (ks.take k)) (ht ks[k]) := by
  rw [List.take_succ_eq_append_getElem h, hts_append]; simp [hts]
theorem hts_le (ks : List Tr) (h : ∀ t ∈ ks, ht t ≤ sz t) : hts ks ≤ szs ks := by
  induction ks with
  | nil => exact Nat.le_refl _
  | cons t ks ih =>
    rw [hts, szs]
    have h1 := h t (by simp)
    have h2 := ih (fun u hu => h u (by simp [hu]))
    omega
theorem ht_sz (t : Tr) : ht t ≤ sz t := by
  refine Tr.ind (M := fun t => ht t ≤ sz t) (fun k s g ks ih => ?_) t
  rw [ht, sz]
  have := hts_le ks ih
  omega
theorem bares_map (ks : List Tr) : bares ks = ks.map bare := by
  induction ks with
  | nil => rfl
  | cons t ks ih => rw [bares, ih]; rfl
theorem bare_szs (ks : List Tr) (h : ∀ t ∈ ks, sz (bare t) = sz t) : szs (bares ks) = szs ks := by
  induction ks with
  | nil => rfl
  | cons t ks ih => rw [bares, szs, szs, h t (by simp), ih (fun u hu => h u (by simp [hu]))]
theorem bare_sz (t : Tr) : sz (bare t) = sz t := by
  refine Tr.ind (M := fun t => sz (bare t) = sz t) (fun k s g ks ih => ?_) t
  rw [bare, sz, sz, bare_szs ks ih]
theorem bare_hts (ks : List Tr) (h : ∀ t ∈ ks, ht (bare t) = ht t) : hts (bares ks) = hts ks := by
  induction ks with
  | nil => rfl
  | cons t ks ih => rw [bares, hts, hts, h t (by simp), ih (fun u hu => h u (by simp [hu]))]
theorem bare_ht (t : Tr) : ht (bare t) = ht t := by
  refine Tr.ind (M := fun t => ht (bare t) = ht t) (fun k s g ks ih => ?_) t
  rw [bare, ht, ht, bare_hts ks ih]

end Go.Proofs.YtpaleolcfhnenaaDoor.Pl

namespace Go.Proofs.YtpaleolcfhnenaaDoor.Pl
open Go
set_option linter.unusedVariables false
set_option linter.unusedSimpArgs false

/- ### Kinds -/
def grp (k : Int) : Int := if k = 2 ∨ k = 7 ∨ k = 9 then 1 else if (10 ≤ k ∧ k ≤ 13) ∨ k = 15 ∨ k = 16 then 2 else if 17 ≤ k ∧ k ≤ 26 then 3 else 0
def FitsP (p pos kid : Int) : Prop := 0 ≤ pos ∧ (p = 1 ∧ grp kid = 1 ∨ p = 2 ∧ (pos = 0 ∧ kid = 3 ∨ pos = 1 ∧ kid = 5 ∨ pos = 2 ∧ kid = 6) ∨ p = 3 ∧ kid = 4 ∨ p = 4 ∧ pos = 0 ∧ kid = 5 ∨ p = 6 ∧ grp kid = 2 ∨
  p = 7 ∧ (pos = 0 ∧ kid = 8 ∨ 0 < pos ∧ kid = 2) ∨ p = 13 ∧ (pos = 0 ∧ grp kid = 3 ∨ pos = 1 ∧ kid = 6 ∨ pos = 2 ∧ kid = 14) ∨ p = 14 ∧ pos = 0 ∧ kid = 6 ∨ p = 15 ∧ (pos = 0 ∧ grp kid = 3 ∨ pos = 1 ∧ kid = 6) ∨
  (p = 20 ∨ p = 21) ∧ grp kid = 3 ∨ p = 24 ∧ pos < 2 ∧ grp kid = 3 ∨ (p = 9 ∨ p = 10 ∨ p = 11 ∨ p = 12 ∨ p = 16 ∨ p = 25 ∨ p = 26) ∧ pos = 0 ∧ grp kid = 3)
instance (p pos kid : Int) : Decidable (FitsP p pos kid) := by unfold FitsP; infer_instance
def fits (p pos kid : Int) : Bool := decide (FitsP p pos kid)
def least (k : Int) : Int := if k = 2 ∨ k = 13 then 3 else if k = 15 ∨ k = 24 then 2 else if k = 4 ∨ k = 7 ∨ (9 ≤ k ∧ k ≤ 12) ∨ k = 16 ∨ k = 21 ∨ k = 25 ∨ k = 26 then 1 else 0
def mostK (k : Int) : Int := if k = 3 ∨ k = 20 then 16 else if k = 21 then 17 else 200
/-- What the text of a kind has to be: 0 empty, 1 a name, 2 a name or empty, 3 an integer, 4 a word. -/
def txt (k : Int) : Int := if k = 2 ∨ k = 4 ∨ k = 5 ∨ k = 7 ∨ (9 ≤ k ∧ k ≤ 11) ∨ (19 ≤ k ∧ k ≤ 22) then 1 else if k = 8 then 2 else if k = 17 then 3 else if k = 18 ∨ (23 ≤ k ∧ k ≤ 25) then 4 else 0
def ownT (k : Int) : Int := if k = 7 ∨ k = 9 ∨ k = 10 ∨ k = 21 ∨ k = 22 then 4 else if k = 11 ∨ k = 20 then 3 else if k = 2 ∨ k = 3 ∨ k = 6 ∨ k = 8 ∨ k = 12 ∨ k = 26 then 2 else if 1 ≤ k ∧ k ≤ 26 then 1 else 0

/- ### Texts -/
def lvL (l : Bs) : Int := if l = [124] then 1 else if l = [38] then 2 else if l = [61, 61] ∨ l = [60] then 3 else if l = [43] ∨ l = [45] then 4 else if l = [42] ∨ l = [47] then 5 else 0
def lvo (s : ByteArray) : Int := lvL s.data.toList
def lv (k : Int) (s : ByteArray) : Int := if k = 24 then lvo s else if k = 25 then 6 else if grp k = 3 then 7 else 0
def own (k : Int) (s : ByteArray) (n : Nat) : Int :=
  if k = 8 then (if s.size = 0 then 0 else 2) else if k = 14 then (if n = 0 then 0 else 1) else if k = 3 ∨ k = 20 then RowKit.wrap64 (ownT k + ((n - 1 : Nat) : Int)) else if k = 21 then RowKit.wrap64 (4 + ((n - 2 : Nat) : Int)) else ownT k
def isW (k : Int) (s : ByteArray) : Bool :=
  if k = 18 then s.data.toList == [116, 114, 117, 101] || s.data.toList == [102, 97, 108, 115, 101] else if k = 23 then s.data.toList == [115, 101, 108, 102] else if k = 25 then s.data.toList == [45] || s.data.toList == [33] else decide (0 < lvo s)
def wordOK (k : Int) (s : ByteArray) : Bool := if txt k = 0 then decide (s.size = 0) else if txt k = 4 then isW k s else true
def dgs (l : Bs) : Bool := l.all fun c => dg c.toNat
def numL (n : Nat) (l : Bs) : Nat := l.foldl (fun n c => n * 10 + (c.toNat - 48)) n
def isI (s : ByteArray) : Bool := decide (s.size ≠ 0) && !(decide (s.data.toList.head? = some 48) && decide (1 < s.size)) && dgs s.data.toList && decide (numL 0 s.data.toList ≤ 1000000000000)
def nameOK (k : Int) (s : ByteArray) : Bool := if txt k = 2 then decide (s.size = 0) || nm s else if txt k = 1 then nm s else if txt k = 3 then isI s else true
def triv (s : ByteArray) : Bool := eo s.data.toList == s.data.toList.length
def gapsOK (k : Int) (s : ByteArray) (g : List ByteArray) (n : Nat) : Bool := decide (g = []) || decide ((g.length : Int) = own k s n) && g.all triv

/- ### Nodes -/
def Tr.lev (t : Tr) : Int := lv t.kind t.text
def fitA (k : Int) : Nat → List Tr → Bool
  | _, [] => true
  | i, u :: us => fits k i u.kind && fitA k (i + 1) us
def lvls (k : Int) (s : ByteArray) (ks : List Tr) : Bool :=
  if k = 24 then match ks with
    | a :: b :: _ => !(decide (lvo s = 3) && decide (a.lev = lvo s)) && decide (lvo s ≤ a.lev) && decide (lvo s < b.lev)
    | _ => true
  else if k = 25 then match ks with
    | a :: _ => decide (6 ≤ a.lev)
    | _ => true
  else if k = 21 then match ks with
    | a :: _ => decide (7 ≤ a.lev)
    | _ => true
  else true
/-- The shape of a node: its kind, its kids, its word, its levels. -/
def shape (k : Int) (s : ByteArray) (ks : List Tr) : Bool := decide (1 ≤ k ∧ k ≤ 26) && decide (least k ≤ ks.length) && fitA k 0 ks && wordOK k s && lvls k s ks
def nodeE (k : Int) (s : ByteArray) (g : List ByteArray) (ks : List Tr) : Int :=
  if shape k s ks = false then 7 else if nameOK k s = false then 4 else if gapsOK k s g ks.length = false then 7 else 0
mutual
def firstE : Tr → Int
  | .node k s g ks => if nodeE k s g ks ≠ 0 then nodeE k s g ks else firstsE ks
def firstsE : List Tr → Int
  | [] => 0
  | t :: ts => if firstE t ≠ 0 then firstE t else firstsE ts
end

/- ### Limits -/
mutual
def crowd : Tr → Bool
  | .node k _ _ ks => decide (mostK k < ks.length) || crowds ks
def crowds : List Tr → Bool
  | [] => false
  | t :: ts => crowd t || crowds ts
end
mutual
def szw : Tr → Int
  | .node _ _ _ ks => szws 1 ks
def szws : Int → List Tr → Int
  | a, [] => a
  | a, t :: ts => szws (RowKit.wrap64 (a + szw t)) ts
end
mutual
def htw : Tr → Int
  | .node _ _ _ ks => RowKit.wrap64 (htws 0 ks + 1)
def htws : Int → List Tr → Int
  | a, [] => a
  | a, t :: ts => htws (max a (htw t)) ts
end
mutual
def rsz : Nat → Tr → Nat
  | l, .node k _ _ ks => if 60 < l ∨ mostK k < ks.length then 4001 else min (rszs (l + 1) 1 ks) 4001
def rszs : Nat → Nat → List Tr → Nat
  | _, a, [] => a
  | l, a, t :: ts => if a ≤ 4000 then rszs l (a + rsz l t) ts else a
end
def chk (t : Tr) : Int := if 4000 < szw t ∨ 60 < htw t ∨ crowd t = true then 3 else firstE t
def rchk (t : Tr) : Int := if 4000 < rsz 1 t then 3 else firstE t
end Go.Proofs.YtpaleolcfhnenaaDoor.Pl

namespace Go.Proofs.YtpaleolcfhnenaaDoor.Pl
open Go
set_option linter.unusedVariables false
set_option linter.unusedSimpArgs false

theorem dgb_iff (c : UInt8) : dg c.toNat = true ↔ 48 ≤ c.toNat ∧ c.toNat ≤ 57 := by unfold dg; simp
theorem numL_cons (n : Nat) (c : UInt8) (l : Bs) : numL n (c :: l) = numL (n * 10 + (c.toNat - 48)) l := by unfold numL; rw [List.foldl_cons]
theorem numL_append (n : Nat) (a b : Bs) : numL n (a ++ b) = numL (numL n a) b := by unfold numL; rw [List.foldl_append]
theorem numL_ge (n : Nat) (l : Bs) : n * 10 ^ l.length ≤ numL n l := by
  induction l generalizing n with
  | nil => simp [numL]
  | cons c l ih =>
    rw [numL_cons]
    refine Nat.le_trans ?_ (ih _)
    rw [List.length_cons, Nat.pow_succ, Nat.mul_comm (10 ^ l.length) 10, ← Nat.mul_assoc]
    exact Nat.mul_le_mul_right _ (by omega)
theorem numL_le (n : Nat) (l : Bs) : n ≤ numL n l := by
  refine Nat.le_trans ?_ (numL_ge n l)
  exact Nat.le_mul_of_pos_right _ (Nat.pow_pos (by decide))
theorem numL_take (l : Bs) (k : Nat) (h : k < l.length) : numL 0 (l.take (k + 1)) = numL 0 (l.take k) * 10 + (l[k].toNat - 48) := by
  rw [take_snoc l k h, numL_append, numL_cons]; rfl
theorem numL_part (l : Bs) (k : Nat) : numL 0 (l.take k) ≤ numL 0 l := by
  have := numL_append 0 (l.take k) (l.drop k)
  rw [List.take_append_drop] at this
  rw [this]; exact numL_le _ _
theorem dgs_take (l : Bs) (k : Nat) (h : k < l.length) : dgs (l.take (k + 1)) = (dgs (l.take k) && dg l[k].toNat) := by
  unfold dgs
  rw [take_snoc l k h, List.all_append]; simp
theorem dgs_no (l : Bs) (k : Nat) (h : k < l.length) (hd : dg l[k].toNat = false) : dgs l = false := by
  unfold dgs
  rw [List.all_eq_false]
  exact ⟨l[k], List.getElem_mem h, by simpa using hd⟩
theorem numL_lt (l : Bs) (h : dgs l = true) : numL 0 l < 10 ^ l.length := by
  have key : ∀ (l : Bs) n, dgs l = true → numL n l < (n + 1) * 10 ^ l.length := by
    intro l
    induction l with
    | nil => intro n _; simp [numL]
    | cons c l ih =>
      intro n h
      unfold dgs at h
      rw [List.all_cons, Bool.and_eq_true] at h
      have hc := (dgb_iff c).1 h.1
      rw [numL_cons]
      refine Nat.lt_of_lt_of_le (ih _ h.2) ?_
      rw [List.length_cons, Nat.pow_succ, Nat.mul_comm (10 ^ l.length) 10, ← Nat.mul_assoc]
      exact Nat.mul_le_mul_right _ (by omega)
  have := key l 0 h
  simpa using this
/-- Too many digits, the first one not 0. -/
theorem numL_long (l : Bs) (h : dgs l = true) (h0 : ¬ l.head? = some 48) (hl : 13 < l.length) : ¬ numL 0 l ≤ 1000000000000 := by
  match l, hl, h, h0 with
  | c :: r, hl, h, h0 =>
    unfold dgs at h
    rw [List.all_cons, Bool.and_eq_true] at h
    have hc := (dgb_iff c).1 h.1
    have hn : c.toNat ≠ 48 := fun e => h0 (by rw [List.head?_cons]; congr 1; exact UInt8.toNat_inj.1 e)
    have h1 := numL_ge (0 * 10 + (c.toNat - 48)) r
    rw [numL_cons]
    have hp : 10 ^ 13 ≤ 10 ^ r.length := Nat.pow_le_pow_right (by decide) (by simp at hl; omega)
    have h2 : 1 * 10 ^ 13 ≤ (0 * 10 + (c.toNat - 48)) * 10 ^ r.length := Nat.mul_le_mul (by omega) hp
    omega
theorem head_get (s : ByteArray) (h : 0 < s.size) : s.data.toList.head? = some s[0] := by
  have hl : 0 < s.data.toList.length := by rw [← Lib.size_eq]; exact h
  rw [← get_list s 0 h hl]
  match s.data.toList, hl with
  | c :: r, _ => rfl
theorem isI_zero (s : ByteArray) (h : s.size = 0) : isI s = false := by unfold isI; simp [h]
theorem isI_lead (s : ByteArray) (h : 1 < s.size) (h0 : s[0].toNat = 48) : isI s = false := by
  have e : s[0] = 48 := UInt8.toNat_inj.1 h0
  unfold isI; rw [head_get s (by omega), e]; simp [h]
theorem isI_rest (s : ByteArray) (h : 0 < s.size) (h0 : s[0].toNat = 48 → s.size ≤ 1) : isI s = (dgs s.data.toList && decide (numL 0 s.data.toList ≤ 1000000000000)) := by
  unfold isI; rw [head_get s h]
  have : (decide (some s[0] = some 48) && decide (1 < s.size)) = false := by
    rw [Bool.and_eq_false_iff]
    by_cases e : s[0] = 48
    · right; have := h0 (by rw [e]; rfl); simp; omega
    · left; simpa using e
  rw [this]
  have hz : decide (s.size ≠ 0) = true := decide_eq_true (by omega)
  rw [hz]; rfl
theorem isI_long (s : ByteArray) (h : 13 < s.size) : isI s = false := by
  by_cases h0 : s[0].toNat = 48
  · exact isI_lead s (by omega) h0
  · rw [isI_rest s (by omega) (fun e => absurd e h0)]
    cases hd : dgs s.data.toList with
    | false => rfl
    | true =>
      have := numL_long s.data.toList hd (by rw [head_get s (by omega)]; intro e; exact h0 (by rw [Option.some.inj e]; rfl)) (by rw [← Lib.size_eq]; exact h)
      simpa using this
end Go.Proofs.YtpaleolcfhnenaaDoor.Pl

namespace Go.Proofs.YtpaleolcfhnenaaDoor.Pl
open Go RowKit
set_option linter.unusedVariables false
set_option linter.unusedSimpArgs false

/- ### Sizes without overflow -/
theorem wrap_in (n : Int) (h0 : -9223372036854775808 ≤ n) (h1 : n ≤ 9223372036854775807) : wrap64 n = n := by unfold wrap64; omega
theorem szws_eq (ks : List Tr) (h : ∀ t ∈ ks, sz t ≤ 4611686018427387904 → szw t = sz t) : ∀ a : Int, 0 ≤ a → a + szs ks ≤ 4611686018427387904 → szws a ks = a + szs ks := by
  induction ks with
  | nil => intro a _ _; rw [szws, szs]; simp
  | cons t ts ih =>
    intro a h0 h1
    rw [szs] at h1 ⊢
    have ht := h t (by simp) (by omega)
    rw [szws, ht, wrap_in _ (by omega) (by omega), ih (fun u hu => h u (by simp [hu])) _ (by omega) (by omega)]
    omega
theorem szw_eq (t : Tr) : sz t ≤ 4611686018427387904 → szw t = sz t := by
  refine Tr.ind (M := fun t => sz t ≤ 4611686018427387904 → szw t = sz t) (fun k s g ks ih => ?_) t
  intro h
  rw [sz] at h ⊢
  rw [szw, szws_eq ks ih 1 (by decide) (by omega)]
  omega
theorem htws_eq (ks : List Tr) (h : ∀ t ∈ ks, htw t = ht t) : ∀ a : Nat, htws a ks = max a (hts ks) := by
  induction ks with
  | nil => intro a; rw [htws, hts]; simp
  | cons t ts ih =>
    intro a
    rw [htws, h t (by simp), hts]
    have := ih (fun u hu => h u (by simp [hu])) (max a (ht t))
    have e : ((max a (ht t) : Nat) : Int) = max (a : Int) (ht t : Int) := by omega
    rw [← e, this]
    omega
theorem htw_eq (t : Tr) : sz t ≤ 4611686018427387904 → htw t = ht t := by
  refine Tr.ind (M := fun t => sz t ≤ 4611686018427387904 → htw t = ht t) (fun k s g ks ih => ?_) t
  intro h
  have hz := ht_sz (.node k s g ks)
  rw [sz] at h
  rw [ht] at hz ⊢
  rw [sz] at hz
  have := htws_eq ks (fun t ht => ih t ht (by have := sz_mem ht; omega)) 0
  rw [htw]
  rw [show htws 0 ks = htws ((0 : Nat) : Int) ks from rfl, this, wrap_in _ (by omega) (by omega)]
  omega

/- ### The reference's limits -/
/-- Beyond a limit, seen from a level. -/
def Bad (l : Nat) (t : Tr) : Prop := 4000 < sz t ∨ 61 < ht t + l ∨ crowd t = true
def Bads (l a : Nat) (ks : List Tr) : Prop := 4000 < a + szs ks ∨ 61 < hts ks + l ∨ crowds ks = true
theorem rszs_eq (l : Nat) (hl : l ≤ 61) (ks : List Tr) (h : ∀ t ∈ ks, (Bad l t → rsz l t = 4001) ∧ (¬ Bad l t → rsz l t = sz t)) :
    ∀ a, (Bads l a ks → 4000 < rszs l a ks) ∧ (¬ Bads l a ks → rszs l a ks = a + szs ks) := by
  induction ks with
  | nil =>
    intro a
    unfold Bads
    rw [rszs, szs, hts, crowds]
    constructor
    · rintro (h | h | h)
      · omega
      · omega
      · cases h
    · intro _; rfl
  | cons t ts ih =>
    intro a
    obtain ⟨h1, h2⟩ := h t (by simp)
    have ih1 := ih (fun u hu => h u (by simp [hu])) (a + rsz l t)
    rw [rszs]
    have hp := sz_pos t
    unfold Bads at ih1 ⊢
    unfold Bad at h1 h2
    rw [szs, hts, crowds, Bool.or_eq_true]
    by_cases ha : a ≤ 4000
    · rw [if_pos ha]
      by_cases hb : 4000 < sz t ∨ 61 < ht t + l ∨ crowd t = true
      · have e := h1 hb
        rw [e] at ih1 ⊢
        refine ⟨fun _ => ih1.1 (.inl (by omega)), fun hn => absurd ?_ hn⟩
        rcases hb with hb | hb | hb
        · left; omega
        · right; left; omega
        · right; right; left; exact hb
      · have e := h2 hb
        rw [e] at ih1 ⊢
        constructor
        · rintro (hq | hq | hq)
          · exact ih1.1 (.inl (by omega))
          · refine ih1.1 (.inr (.inl ?_))
            have : ¬ 61 < ht t + l := fun h => hb (.inr (.inl h))
            omega
          · refine ih1.1 (.inr (.inr ?_))
            rcases hq with hq | hq
            · exact absurd (.inr (.inr hq)) hb
            · exact hq
        · intro hn
          rw [ih1.2 (fun hq => hn ?_)]
          · omega
          · rcases hq with hq | hq | hq
            · left; omega
            · right; left; omega
            · right; right; right; exact hq
    · rw [if_neg ha]
      exact ⟨fun _ => by omega, fun hn => absurd (.inl (by omega)) hn⟩
theorem rsz_eq (t : Tr) : ∀ l, l ≤ 61 → (Bad l t → rsz l t = 4001) ∧ (¬ Bad l t → rsz l t = sz t) := by
  refine Tr.ind (M := fun t => ∀ l, l ≤ 61 → (Bad l t → rsz l t = 4001) ∧ (¬ Bad l t → rsz l t = sz t)) (fun k s g ks ih => ?_) t
  intro l hl
  unfold Bad
  rw [rsz, sz, ht, crowd, Bool.or_eq_true, decide_eq_true_eq]
  by_cases h1 : 60 < l ∨ mostK k < ks.length
  · rw [if_pos h1]
    refine ⟨fun _ => rfl, fun hn => absurd ?_ hn⟩
    rcases h1 with h1 | h1
    · right; left; omega
    · right; right; left; exact h1
  · rw [if_neg h1]
    have hl1 : l + 1 ≤ 61 := by omega
    obtain ⟨q1, q2⟩ := rszs_eq (l + 1) hl1 ks (fun t ht => ih t ht (l + 1) hl1) 1
    unfold Bads at q1 q2
    constructor
    · rintro (hq | hq | hq)
      · have := q1 (.inl (by omega)); omega
      · have := q1 (.inr (.inl (by omega))); omega
      · rcases hq with hq | hq
        · exact absurd (.inr hq) h1
        · have := q1 (.inr (.inr hq)); omega
    · intro hn
      have hb : ¬ (4000 < 1 + szs ks ∨ 61 < hts ks + (l + 1) ∨ crowds ks = true) := by
        rintro (hq | hq | hq)
        · exact hn (.inl (by omega))
        · exact hn (.inr (.inl (by omega)))
        · exact hn (.inr (.inr (.inr hq)))
      have := q2 hb
      have : ¬ 4000 < 1 + szs ks := fun h => hb (.inl h)
      omega
theorem chk_rchk (t : Tr) (h : sz t ≤ 1048576) : chk t = rchk t := by
  unfold chk rchk
  rw [szw_eq t (by omega), htw_eq t (by omega)]
  obtain ⟨q1, q2⟩ := rsz_eq t 1 (by decide)
  unfold Bad at q1 q2
  by_cases hb : 4000 < sz t ∨ 61 < ht t + 1 ∨ crowd t = true
  · have : (4000 : Int) < sz t ∨ (60 : Int) < ht t ∨ crowd t = true := by
      rcases hb with hb | hb | hb
      · left; omega
      · right; left; omega
      · right; right; exact hb
    have e := q1 hb
    rw [if_pos this, if_pos (by omega)]
  · have hs := q2 hb
    have hn : ¬ 4000 < sz t := fun h => hb (.inl h)
    have : ¬ ((4000 : Int) < sz t ∨ (60 : Int) < ht t ∨ crowd t = true) := by
      rintro (hq | hq | hq)
      · exact hb (.inl (by omega))
      · exact hb (.inr (.inl (by omega)))
      · exact hb (.inr (.inr hq))
    rw [if_neg this, if_neg (by omega)]

/- ### What is well-formed -/
theorem chk_zero (t : Tr) (h : chk t = 0) : ¬ 4000 < szw t ∧ ¬ 60 < htw t ∧ crowd t = false ∧ firstE t = 0 := by
  unfold chk at h
  by_cases hb : 4000 < szw t ∨ 60 < htw t ∨ crowd t = true
  · rw [if_pos hb] at h; cases h
  · rw [if_neg hb] at h
    refine ⟨fun e => hb (.inl e), fun e => hb (.inr (.inl e)), ?_, h⟩
    cases hc : crowd t
    · rfl
    · exact absurd (.inr (.inr hc)) hb
theorem chk_of (t : Tr) (h1 : ¬ 4000 < szw t) (h2 : ¬ 60 < htw t) (h3 : crowd t = false) : chk t = firstE t := by
  unfold chk
  rw [if_neg]
  rintro (h | h | h)
  · exact h1 h
  · exact h2 h
  · rw [h3] at h; cases h
theorem first_zero (k : Int) (s : ByteArray) (g : List ByteArray) (ks : List Tr) (h : firstE (.node k s g ks) = 0) : nodeE k s g ks = 0 ∧ firstsE ks = 0 := by
  rw [firstE] at h
  by_cases h0 : nodeE k s g ks = 0
  · rw [if_neg (by simpa using h0)] at h
    exact ⟨h0, h⟩
  · rw [if_pos h0] at h; exact absurd h h0
theorem first_node (k : Int) (s : ByteArray) (g : List ByteArray) (ks : List Tr) (h0 : nodeE k s g ks = 0) (h : firstsE ks = 0) : firstE (.node k s g ks) = 0 := by
  rw [firstE, if_neg (by simpa using h0), h]
theorem first_bad (k : Int) (s : ByteArray) (g : List ByteArray) (ks : List Tr) (v : Int) (h0 : nodeE k s g ks = v) (hv : v ≠ 0) : firstE (.node k s g ks) = v := by
  rw [firstE, if_pos (by rw [h0]; exact hv), h0]
theorem firsts_mem (ks : List Tr) (h : firstsE ks = 0) : ∀ t ∈ ks, firstE t = 0 := by
  induction ks with
  | nil => intro t ht; cases ht
  | cons a ks ih =>
    rw [firstsE] at h
    by_cases h0 : firstE a = 0
    · rw [if_neg (by simpa using h0)] at h
      intro t ht
      rcases List.mem_cons.1 ht with rfl | ht
      · exact h0
      · exact ih h t ht
    · rw [if_pos h0] at h; exact absurd h h0
theorem firsts_of (ks : List Tr) (h : ∀ t ∈ ks, firstE t = 0) : firstsE ks = 0 := by
  induction ks with
  | nil => rw [firstsE]
  | cons a ks ih =>
    rw [firstsE, if_neg (by simpa using h a (by simp)), ih (fun t ht => h t (by simp [ht]))]
theorem nodeE_zero (k : Int) (s : ByteArray) (g : List ByteArray) (ks : List Tr) (h : nodeE k s g ks = 0) : shape k s ks = true ∧ nameOK k s = true ∧ gapsOK k s g ks.length = true := by
  unfold nodeE at h
  cases h1 : shape k s ks
  · rw [h1, if_pos rfl] at h; cases h
  cases h2 : nameOK k s
  · rw [h1, h2, if_neg (by decide), if_pos rfl] at h; cases h
  cases h3 : gapsOK k s g ks.length
  · rw [h1, h2, h3, if_neg (by decide), if_neg (by decide), if_pos rfl] at h; cases h
  exact ⟨rfl, rfl, rfl⟩
theorem nodeE_of (k : Int) (s : ByteArray) (g : List ByteArray) (ks : List Tr) (h1 : shape k s ks = true) (h2 : nameOK k s = true) (h3 : gapsOK k s g ks.length = true) : nodeE k s g ks = 0 := by
  unfold nodeE
  rw [h1, h2, h3, if_neg (by decide), if_neg (by decide), if_neg (by decide)]
theorem shape_parts (k : Int) (s : ByteArray) (ks : List Tr) (h : shape k s ks = true) : (1 ≤ k ∧ k ≤ 26) ∧ least k ≤ ks.length ∧ fitA k 0 ks = true ∧ wordOK k s = true ∧ lvls k s ks = true := by
  unfold shape at h
  simp only [Bool.and_eq_true, decide_eq_true_eq] at h
  exact ⟨h.1.1.1.1, h.1.1.1.2, h.1.1.2, h.1.2, h.2⟩
theorem shape_of (k : Int) (s : ByteArray) (ks : List Tr) (h1 : 1 ≤ k ∧ k ≤ 26) (h2 : least k ≤ ks.length) (h3 : fitA k 0 ks = true) (h4 : wordOK k s = true) (h5 : lvls k s ks = true) : shape k s ks = true := by
  unfold shape
  simp only [Bool.and_eq_true, decide_eq_true_eq]
  exact ⟨⟨⟨⟨h1, h2⟩, h3⟩, h4⟩, h5⟩
theorem fitA_get (k : Int) (ks : List Tr) : ∀ i, fitA k i ks = true → ∀ (j : Nat) u, ks[j]? = some u → fits k ((i + j : Nat) : Int) u.kind = true := by
  induction ks with
  | nil => intro i _ j u hu; cases hu
  | cons a ks ih =>
    intro i h j u hu
    rw [fitA, Bool.and_eq_true] at h
    match j, hu with
    | 0, hu => obtain rfl : a = u := by simpa using hu
               exact h.1
    | j + 1, hu =>
      have := ih (i + 1) h.2 j u (by simpa using hu)
      rw [show i + (j + 1) = i + 1 + j by omega]; exact this
theorem fitA_of (k : Int) (ks : List Tr) : ∀ i, (∀ (j : Nat) u, ks[j]? = some u → fits k ((i + j : Nat) : Int) u.kind = true) → fitA k i ks = true := by
  induction ks with
  | nil => intro i _; rfl
  | cons a ks ih =>
    intro i h
    rw [fitA, Bool.and_eq_true]
    refine ⟨h 0 a rfl, ih (i + 1) fun j u hu => ?_⟩
    have := h (j + 1) u (by simpa using hu)
    rw [show i + 1 + j = i + (j + 1) by omega]; exact this
theorem mostK_le (k : Int) : mostK k ≤ 200 := by unfold mostK; omega
theorem crowd_node (k : Int) (s : ByteArray) (g : List ByteArray) (ks : List Tr) (h : crowd (.node k s g ks) = false) : (ks.length : Int) ≤ mostK k ∧ crowds ks = false := by
  rw [crowd, Bool.or_eq_false_iff, decide_eq_false_iff_not] at h
  exact ⟨by omega, h.2⟩
theorem crowds_mem (ks : List Tr) (h : crowds ks = false) : ∀ t ∈ ks, crowd t = false := by
  induction ks with
  | nil => intro t ht; cases ht
  | cons a ks ih =>
    rw [crowds, Bool.or_eq_false_iff] at h
    intro t ht
    rcases List.mem_cons.1 ht with rfl | ht
    · exact h.1
    · exact ih h.2 t ht
theorem hts_mem {ks : List Tr} {t : Tr} (h : t ∈ ks) : ht t ≤ hts ks := by
  induction ks with
  | nil => cases h
  | cons a ks ih =>
    rw [hts]
    rcases List.mem_cons.1 h with rfl | h
    · omega
    · have := ih h; omega
/-- The kids of what is well-formed. -/
theorem chk_parts (k : Int) (s : ByteArray) (g : List ByteArray) (ks : List Tr) (hz : sz (.node k s g ks) ≤ 1048576) (h : chk (.node k s g ks) = 0) :
    ks.length ≤ 200 ∧ (g = [] ∨ (g.length : Int) = own k s ks.length) ∧ ∀ (j : Nat) u, ks[j]? = some u → chk u = 0 ∧ fits k j u.kind = true := by
  obtain ⟨h1, h2, h3, h4⟩ := chk_zero _ h
  obtain ⟨h5, h6⟩ := first_zero k s g ks h4
  obtain ⟨h7, h8, h9⟩ := nodeE_zero k s g ks h5
  obtain ⟨_, _, h10, _, _⟩ := shape_parts k s ks h7
  obtain ⟨h11, h12⟩ := crowd_node k s g ks h3
  have := mostK_le k
  rw [szw_eq _ (by omega)] at h1
  rw [htw_eq _ (by omega)] at h2
  rw [sz] at hz h1
  rw [ht] at h2
  refine ⟨by omega, ?_, fun j u hu => ?_⟩
  · unfold gapsOK at h9
    simp only [Bool.or_eq_true, Bool.and_eq_true, decide_eq_true_eq] at h9
    rcases h9 with h9 | h9
    · exact .inl h9
    · exact .inr h9.1
  · have hm := List.mem_of_getElem? hu
    have e1 := sz_mem hm
    have e2 := hts_mem hm
    refine ⟨?_, ?_⟩
    · rw [chk_of u (by rw [szw_eq u (by omega)]; omega) (by rw [htw_eq u (by omega)]; omega) (crowds_mem ks h12 u hm)]
      exact firsts_mem ks h6 u hm
    · have := fitA_get k ks 0 h10 j u hu
      rwa [Nat.zero_add] at this
end Go.Proofs.YtpaleolcfhnenaaDoor.Pl
