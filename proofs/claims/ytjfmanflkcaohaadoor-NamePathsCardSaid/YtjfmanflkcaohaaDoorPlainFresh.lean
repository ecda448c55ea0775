/- Fresh names, as plain functions: the candidates, and that one of the first is free. -/
import Derived.Test.YtjfmanflkcaohaaDoorPlain
import Derived.Lib.ItoaNum
namespace Go.Proofs.YtjfmanflkcaohaaDoor.Pl
open Go
set_option linter.unusedVariables false
set_option linter.unusedSimpArgs false

def num (n : Nat) : ByteArray := ⟨(Lib.decDigits n).toArray⟩
theorem num_list (n : Nat) : (num n).data.toList = Lib.decDigits n := by simp [num]
theorem num_size (n : Nat) : (num n).size = (Lib.decDigits n).length := by rw [Lib.size_eq, num_list]
theorem dec_one (n : Nat) (h : n < 10) : Lib.decDigits n = [UInt8.ofNat (48 + n)] := by unfold Lib.decDigits; rw [dif_pos h]
theorem dec_two (n : Nat) (h : 10 ≤ n) (h2 : n < 100) : Lib.decDigits n = [UInt8.ofNat (48 + n / 10), UInt8.ofNat (48 + n % 10)] := by
  unfold Lib.decDigits
  rw [dif_neg (by omega), dec_one _ (by omega)]
  rfl
theorem dec_len (n : Nat) (h : n < 100) : 1 ≤ (num n).size ∧ (num n).size ≤ 2 := by
  rw [num_size]
  by_cases h1 : n < 10
  · rw [dec_one n h1]; exact ⟨Nat.le_refl 1, Nat.le_succ 1⟩
  · rw [dec_two n (by omega) h]; exact ⟨Nat.le_succ 1, Nat.le_refl 2⟩
theorem dec_snoc (n : Nat) (h : 10 ≤ n) : num n = num (n / 10) ++ ⟨#[UInt8.ofNat (48 + n % 10)]⟩ := by
  apply list_ext
  rw [ByteArray.data_append, Array.toList_append, num_list, num_list]
  conv => lhs; unfold Lib.decDigits
  rw [dif_neg (by omega)]

/-- base followed by n, with 32 bytes at most. -/
def keep (base : ByteArray) (n : Nat) : Nat := min base.size (32 - (num n).size)
def cand (base : ByteArray) (n : Nat) : ByteArray := base.extract 0 (keep base n) ++ num n
theorem keep_le (base : ByteArray) (n : Nat) : keep base n ≤ base.size := Nat.min_le_left _ _
theorem head_size (base : ByteArray) (n : Nat) : (base.extract 0 (keep base n)).size = keep base n := by
  rw [ByteArray.size_extract]; have := keep_le base n; omega
theorem cand_list (base : ByteArray) (n : Nat) : (cand base n).data.toList = base.data.toList.take (keep base n) ++ Lib.decDigits n := by
  unfold cand
  rw [ByteArray.data_append, Array.toList_append, num_list, Lib.extract_data]
  simp
theorem cand_size (base : ByteArray) (n : Nat) : (cand base n).size = keep base n + (num n).size := by
  unfold cand; rw [ByteArray.size_append, head_size]
theorem cand_le (base : ByteArray) (n : Nat) (h : n < 100) : (cand base n).size ≤ 32 := by
  rw [cand_size]; have := dec_len n h; unfold keep; omega

theorem ofNat_inj {a b : Nat} (ha : a < 256) (hb : b < 256) (h : UInt8.ofNat a = UInt8.ofNat b) : a = b := by
  have := congrArg UInt8.toNat h
  rw [UInt8.toNat_ofNat_of_lt' (by simpa using ha), UInt8.toNat_ofNat_of_lt' (by simpa using hb)] at this
  exact this
theorem cand_inj (base : ByteArray) (m n : Nat) (hm : 10 ≤ m) (hm2 : m < 100) (hn : 10 ≤ n) (hn2 : n < 100) (h : cand base m = cand base n) : m = n := by
  have e := congrArg (fun s : ByteArray => s.data.toList) h
  simp only [cand_list] at e
  have s1 : (num m).size = 2 := by rw [num_size, dec_two m hm hm2]; rfl
  have s2 : (num n).size = 2 := by rw [num_size, dec_two n hn hn2]; rfl
  have k : keep base m = keep base n := by unfold keep; rw [s1, s2]
  rw [k] at e
  have e2 := List.append_cancel_left e
  rw [dec_two m hm hm2, dec_two n hn hn2] at e2
  simp only [List.cons.injEq, and_true] at e2
  have a := ofNat_inj (by omega) (by omega) e2.1
  have b := ofNat_inj (by omega) (by omega) e2.2
  omega

theorem pigeon {α : Type} [DecidableEq α] : ∀ (l xs : List α), l.Nodup → (∀ x ∈ l, x ∈ xs) → l.length ≤ xs.length
  | [], xs, _, _ => Nat.zero_le _
  | a :: l, xs, hn, hs => by
    have ha : a ∈ xs := hs a (by simp)
    obtain ⟨h1, h2⟩ := List.nodup_cons.1 hn
    have ih := pigeon l (xs.erase a) h2 (fun x hx => (List.mem_erase_of_ne (fun e => h1 (by rw [← e]; exact hx))).2 (hs x (by simp [hx])))
    rw [List.length_erase_of_mem ha] at ih
    have := List.length_pos_of_mem ha
    simp only [List.length_cons]
    omega

theorem some_free (base : ByteArray) (xs : List ByteArray) (h : xs.length ≤ 60) : ∃ n, 2 ≤ n ∧ n ≤ 10 + xs.length ∧ cand base n ∉ xs := by
  by_cases hx : ∃ n, 10 ≤ n ∧ n ≤ 10 + xs.length ∧ cand base n ∉ xs
  · obtain ⟨n, h1, h2, h3⟩ := hx
    exact ⟨n, by omega, h2, h3⟩
  · exfalso
    have hall : ∀ n, 10 ≤ n → n ≤ 10 + xs.length → cand base n ∈ xs := fun n h1 h2 => by
      by_cases hc : cand base n ∈ xs
      · exact hc
      · exact absurd ⟨n, h1, h2, hc⟩ hx
    have := pigeon ((List.range (xs.length + 1)).map fun i => cand base (10 + i)) xs (by
      refine List.pairwise_map.2 ((List.nodup_range (n := xs.length + 1)).imp_of_mem ?_)
      intro i j hi hj hne e
      rw [List.mem_range] at hi hj
      have := cand_inj base (10 + i) (10 + j) (by omega) (by omega) (by omega) (by omega) e
      omega) (fun x hx => by
      obtain ⟨i, hi, rfl⟩ := List.mem_map.1 hx
      rw [List.mem_range] at hi
      exact hall _ (by omega) (by omega))
    rw [List.length_map, List.length_range] at this
    omega

theorem least {P : Nat → Prop} : ∀ n, P n → ∃ m, m ≤ n ∧ P m ∧ ∀ k, k < m → ¬ P k := by
  intro n
  induction n using Nat.strongRecOn with
  | ind n ih =>
    intro hn
    by_cases h : ∃ k, k < n ∧ P k
    · obtain ⟨k, hk, hp⟩ := h
      obtain ⟨m, h1, h2, h3⟩ := ih k hk hp
      exact ⟨m, by omega, h2, h3⟩
    · exact ⟨n, Nat.le_refl _, hn, fun k hk hp => h ⟨k, hk, hp⟩⟩

/-- The number of the first free candidate. -/
def First (base : ByteArray) (xs : List ByteArray) (n : Nat) : Prop := 2 ≤ n ∧ n ≤ 10 + xs.length ∧ cand base n ∉ xs ∧ ∀ m, 2 ≤ m → m < n → cand base m ∈ xs
theorem first_some (base : ByteArray) (xs : List ByteArray) (h : xs.length ≤ 60) : ∃ n, First base xs n := by
  obtain ⟨n, h1, h2, h3⟩ := some_free base xs h
  obtain ⟨m, k1, k2, k3⟩ := least (P := fun n => 2 ≤ n ∧ cand base n ∉ xs) n ⟨h1, h3⟩
  refine ⟨m, k2.1, by omega, k2.2, fun j h2 hj => ?_⟩
  by_cases hc : cand base j ∈ xs
  · exact hc
  · exact absurd ⟨h2, hc⟩ (k3 j hj)
/-- What Fresh gives for a name. -/
def Fresh (base : ByteArray) (xs : List ByteArray) (r : ByteArray) : Prop := (base ∉ xs ∧ r = base) ∨ (base ∈ xs ∧ ∃ n, First base xs n ∧ r = cand base n)
theorem fresh_some (base : ByteArray) (xs : List ByteArray) (h : xs.length ≤ 60) : ∃ r, Fresh base xs r := by
  by_cases hb : base ∈ xs
  · obtain ⟨n, hn⟩ := first_some base xs h
    exact ⟨_, .inr ⟨hb, n, hn, rfl⟩⟩
  · exact ⟨_, .inl ⟨hb, rfl⟩⟩
theorem fresh_free (base : ByteArray) (xs : List ByteArray) (r : ByteArray) (h : Fresh base xs r) : r ∉ xs := by
  rcases h with ⟨h, rfl⟩ | ⟨_, n, hn, rfl⟩
  · exact h
  · exact hn.2.2.1
/-- The code's candidate at the head of its loop. -/
def at' (base : ByteArray) (n : Nat) : ByteArray := if n ≤ 2 then base else cand base (n - 1)
theorem at_two (base : ByteArray) : at' base 2 = base := rfl
theorem at_succ (base : ByteArray) (n : Nat) (h : 2 ≤ n) : at' base (n + 1) = cand base n := by unfold at'; rw [if_neg (by omega)]; rfl
theorem at_size (base : ByteArray) (n : Nat) (hb : base.size ≤ 32) (h : n < 100) : (at' base n).size ≤ 32 := by
  unfold at'
  split
  · exact hb
  · exact cand_le base _ (by omega)
theorem fresh_turns (base : ByteArray) (xs : List ByteArray) (r : ByteArray) (hx : xs.length ≤ 60) (h : Fresh base xs r) :
    ∃ T, 2 ≤ T ∧ T ≤ 71 ∧ at' base T = r ∧ r ∉ xs ∧ ∀ m, 2 ≤ m → m < T → at' base m ∈ xs := by
  have hfree := fresh_free base xs r h
  rcases h with ⟨h, rfl⟩ | ⟨hb, n, hn, rfl⟩
  · exact ⟨2, Nat.le_refl _, by omega, rfl, hfree, fun m h1 h2 => by omega⟩
  · obtain ⟨h1, h2, h3, h4⟩ := hn
    refine ⟨n + 1, by omega, by omega, at_succ base n h1, hfree, fun m k1 k2 => ?_⟩
    by_cases e : m = 2
    · subst e; exact hb
    · unfold at'
      rw [if_neg (by omega)]
      exact h4 (m - 1) (by omega) (by omega)

/- A fresh name is a name. -/
theorem dg_wd (c : Nat) (h : dg c = true) : wd c = true := by unfold wd; rw [h, Bool.or_true]
theorem dg_of (n : Nat) (h : n < 10) : dg (UInt8.ofNat (48 + n)).toNat = true := by
  rw [UInt8.toNat_ofNat_of_lt' (by show 48 + n < 256; omega)]
  unfold dg
  have h1 : decide (48 ≤ 48 + n) = true := by simp
  have h2 : decide (48 + n ≤ 57) = true := by simp; omega
  rw [h1, h2]; rfl
theorem dec_digits (n : Nat) (h : n < 100) : ∀ c ∈ Lib.decDigits n, dg c.toNat = true := by
  intro c hc
  by_cases h1 : n < 10
  · rw [dec_one n h1] at hc
    simp only [List.mem_cons, List.not_mem_nil, or_false] at hc
    subst hc; exact dg_of n h1
  · rw [dec_two n (by omega) h] at hc
    simp only [List.mem_cons, List.not_mem_nil, or_false] at hc
    rcases hc with rfl | rfl
    · exact dg_of _ (by omega)
    · exact dg_of _ (by omega)
theorem dec_ne (n : Nat) : Lib.decDigits n ≠ [] := by
  unfold Lib.decDigits
  split <;> simp
theorem kw_digits (s : ByteArray) (h : kw s = true) : ∀ c ∈ s.data.toList, dg c.toNat = false := by
  rcases kw_yes s h with rfl | rfl | rfl | rfl | rfl | rfl | rfl | rfl | rfl | rfl | rfl | rfl
  all_goals decide
theorem nm_parts (s : ByteArray) (h : nm s = true) : 1 ≤ s.size ∧ s.size ≤ 32 ∧ kw s = false ∧ dg0 s = false ∧ wds s = true := by
  unfold nm at h
  simp only [Bool.and_eq_true, decide_eq_true_eq, Bool.not_eq_true'] at h
  exact ⟨h.1.1.1.1, h.1.1.1.2, h.1.1.2, h.1.2, h.2⟩
theorem cand_nm (base : ByteArray) (n : Nat) (hb : nm base = true) (h : n < 100) : nm (cand base n) = true := by
  obtain ⟨b1, b2, b3, b4, b5⟩ := nm_parts base hb
  have hd := dec_len n h
  have hk : 1 ≤ keep base n := by unfold keep; omega
  have hlist := cand_list base n
  have hsz := cand_size base n
  have hle := cand_le base n h
  have hkw : kw (cand base n) = false := by
    cases hc : kw (cand base n)
    · rfl
    · have hdig := kw_digits _ hc
      rw [hlist] at hdig
      obtain ⟨c, hc2⟩ := List.exists_mem_of_ne_nil _ (dec_ne n)
      have h1 := hdig c (by simp [hc2])
      rw [dec_digits n h c hc2] at h1; cases h1
  have hwd : wds (cand base n) = true := by
    unfold wds at b5 ⊢
    rw [hlist, List.all_append, Bool.and_eq_true]
    constructor
    · rw [List.all_eq_true] at b5 ⊢
      exact fun c hc => b5 c (List.mem_of_mem_take hc)
    · rw [List.all_eq_true]
      exact fun c hc => dg_wd _ (dec_digits n h c hc)
  have hd0 : dg0 (cand base n) = false := by
    unfold dg0 at b4 ⊢
    rw [hlist]
    cases hl : base.data.toList with
    | nil => rw [Lib.size_eq, hl] at b1; simp at b1
    | cons c l =>
      rw [hl] at b4
      obtain ⟨k, hk2⟩ : ∃ k, keep base n = k + 1 := ⟨keep base n - 1, by omega⟩
      rw [hk2, List.take_succ_cons]
      exact b4
  unfold nm
  rw [hkw, hwd, hd0]
  have h1 : 1 ≤ (cand base n).size := by omega
  simp [h1, hle]
theorem fresh_nm (base : ByteArray) (xs : List ByteArray) (r : ByteArray) (hx : xs.length ≤ 60) (hb : nm base = true) (h : Fresh base xs r) : nm r = true := by
  rcases h with ⟨h, rfl⟩ | ⟨_, n, hn, rfl⟩
  · exact hb
  · exact cand_nm base n hb (by have := hn.2.1; omega)
theorem fresh_base (base : ByteArray) (xs : List ByteArray) (r : ByteArray) (h : Fresh base xs r) (hb : base ∉ xs) : r = base := by
  rcases h with ⟨h, rfl⟩ | ⟨h, _⟩
  · rfl
  · exact absurd h hb
theorem cand_f (n : Nat) (h : n < 10) : cand ⟨#[102]⟩ n = ⟨#[102, UInt8.ofNat (48 + n)]⟩ := by
  apply list_ext
  have hk : keep ⟨#[102]⟩ n = 1 := by unfold keep; rw [num_size, dec_one n h]; rfl
  rw [cand_list, hk, dec_one n h]; rfl
theorem fresh_f : Fresh ⟨#[102]⟩ [⟨#[103]⟩, ⟨#[102, 50]⟩, ⟨#[102]⟩] ⟨#[102, 51]⟩ := by
  refine .inr ⟨by simp, 3, ⟨by omega, by simp, ?_, fun m h1 h2 => ?_⟩, ?_⟩
  · rw [cand_f 3 (by omega)]
    simp only [List.mem_cons, List.not_mem_nil, or_false, not_or]
    exact ⟨by decide, by decide, by decide⟩
  · obtain rfl : m = 2 := by omega
    rw [cand_f 2 (by omega)]
    exact List.mem_cons_of_mem _ (List.mem_cons.2 (.inl (by decide)))
  · rw [cand_f 3 (by omega)]; decide
end Go.Proofs.YtjfmanflkcaohaaDoor.Pl
