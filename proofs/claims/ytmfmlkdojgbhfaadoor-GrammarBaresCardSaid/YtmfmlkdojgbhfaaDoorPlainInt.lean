/- The integers of the language: plain functions of lists of bytes. -/
import Derived.Test.YtmfmlkdojgbhfaaDoorPlainG
namespace Go.Proofs.YtmfmlkdojgbhfaaDoor.Pl
open Go
set_option linter.unusedVariables false
set_option linter.unusedSimpArgs false

theorem dgb_iff (c : UInt8) : dg c.toNat = true ↔ 48 ≤ c.toNat ∧ c.toNat ≤ 57 := by unfold dg; simp
theorem numL_cons (n : Nat) (c : UInt8) (l : Bs) : numL n (c :: l) = numL (n * 10 + (c.toNat - 48)) l := by unfold numL; rw [List.foldl_cons]
theorem numL_append (n : Nat) (a b : Bs) : numL n (a ++ b) = numL (numL n a) b := by unfold numL; rw [List.foldl_append]
theorem numL_ge (n : Nat) (l : Bs) : n * 10 ^ l.length ≤ numL n l := by
  induction l generalizing n with
  | nil => simp [numL]
  | cons c l ih =>
    rw [numL_cons]
    refine Nat.le_trans ?_ (ih _)
    rw [List.length_cons, Nat.pow_succ, Nat.mul_comm (10 ^ l.length) 10, ← Nat.mul_assoc]
    exact Nat.mul_le_mul_right _ (by omega)
theorem numL_le (n : Nat) (l : Bs) : n ≤ numL n l := by
  refine Nat.le_trans ?_ (numL_ge n l)
  exact Nat.le_mul_of_pos_right _ (Nat.pow_pos (by decide))
theorem numL_take (l : Bs) (k : Nat) (h : k < l.length) : numL 0 (l.take (k + 1)) = numL 0 (l.take k) * 10 + (l[k].toNat - 48) := by
  rw [take_snoc l k h, numL_append, numL_cons]; rfl
theorem numL_part (l : Bs) (k : Nat) : numL 0 (l.take k) ≤ numL 0 l := by
  have := numL_append 0 (l.take k) (l.drop k)
  rw [List.take_append_drop] at this
  rw [this]; exact numL_le _ _
theorem dgs_take (l : Bs) (k : Nat) (h : k < l.length) : dgs (l.take (k + 1)) = (dgs (l.take k) && dg l[k].toNat) := by
  unfold dgs
  rw [take_snoc l k h, List.all_append]; simp
theorem dgs_no (l : Bs) (k : Nat) (h : k < l.length) (hd : dg l[k].toNat = false) : dgs l = false := by
  unfold dgs
  rw [List.all_eq_false]
  exact ⟨l[k], List.getElem_mem h, by simpa using hd⟩
theorem numL_lt (l : Bs) (h : dgs l = true) : numL 0 l < 10 ^ l.length := by
  have key : ∀ (l : Bs) n, dgs l = true → numL n l < (n + 1) * 10 ^ l.length := by
    intro l
    induction l with
    | nil => intro n _; simp [numL]
    | cons c l ih =>
      intro n h
      unfold dgs at h
      rw [List.all_cons, Bool.and_eq_true] at h
      have hc := (dgb_iff c).1 h.1
      rw [numL_cons]
      refine Nat.lt_of_lt_of_le (ih _ h.2) ?_
      rw [List.length_cons, Nat.pow_succ, Nat.mul_comm (10 ^ l.length) 10, ← Nat.mul_assoc]
      exact Nat.mul_le_mul_right _ (by omega)
  have := key l 0 h
  simpa using this
/-- Too many digits, the first one not 0. -/
theorem numL_long (l : Bs) (h : dgs l = true) (h0 : ¬ l.head? = some 48) (hl : 13 < l.length) : ¬ numL 0 l ≤ 1000000000000 := by
  match l, hl, h, h0 with
  | c :: r, hl, h, h0 =>
    unfold dgs at h
    rw [List.all_cons, Bool.and_eq_true] at h
    have hc := (dgb_iff c).1 h.1
    have hn : c.toNat ≠ 48 := fun e => h0 (by rw [List.head?_cons]; congr 1; exact UInt8.toNat_inj.1 e)
    have h1 := numL_ge (0 * 10 + (c.toNat - 48)) r
    rw [numL_cons]
    have hp : 10 ^ 13 ≤ 10 ^ r.length := Nat.pow_le_pow_right (by decide) (by simp at hl; omega)
    have h2 : 1 * 10 ^ 13 ≤ (0 * 10 + (c.toNat - 48)) * 10 ^ r.length := Nat.mul_le_mul (by omega) hp
    omega
theorem head_get (s : ByteArray) (h : 0 < s.size) : s.data.toList.head? = some s[0] := by
  have hl : 0 < s.data.toList.length := by rw [← Lib.size_eq]; exact h
  rw [← get_list s 0 h hl]
  match s.data.toList, hl with
  | c :: r, _ => rfl
theorem isI_zero (s : ByteArray) (h : s.size = 0) : isI s = false := by unfold isI; simp [h]
theorem isI_lead (s : ByteArray) (h : 1 < s.size) (h0 : s[0].toNat = 48) : isI s = false := by
  have e : s[0] = 48 := UInt8.toNat_inj.1 h0
  unfold isI; rw [head_get s (by omega), e]; simp [h]
theorem isI_rest (s : ByteArray) (h : 0 < s.size) (h0 : s[0].toNat = 48 → s.size ≤ 1) : isI s = (dgs s.data.toList && decide (numL 0 s.data.toList ≤ 1000000000000)) := by
  unfold isI; rw [head_get s h]
  have : (decide (some s[0] = some 48) && decide (1 < s.size)) = false := by
    rw [Bool.and_eq_false_iff]
    by_cases e : s[0] = 48
    · right; have := h0 (by rw [e]; rfl); simp; omega
    · left; simpa using e
  rw [this]
  have hz : decide (s.size ≠ 0) = true := decide_eq_true (by omega)
  rw [hz]; rfl
theorem isI_long (s : ByteArray) (h : 13 < s.size) : isI s = false := by
  by_cases h0 : s[0].toNat = 48
  · exact isI_lead s (by omega) h0
  · rw [isI_rest s (by omega) (fun e => absurd e h0)]
    cases hd : dgs s.data.toList with
    | false => rfl
    | true =>
      have := numL_long s.data.toList hd (by rw [head_get s (by omega)]; intro e; exact h0 (by rw [Option.some.inj e]; rfl)) (by rw [← Lib.size_eq]; exact h)
      simpa using this
end Go.Proofs.YtmfmlkdojgbhfaaDoor.Pl
