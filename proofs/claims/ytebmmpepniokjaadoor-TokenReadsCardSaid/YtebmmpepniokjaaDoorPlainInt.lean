/- The integers of the language against the numbers that strconv reads, and against the reference's. Plain functions of lists of bytes: nothing of the program. -/
import Derived.Test.YtebmmpepniokjaaDoorPlainTok
namespace Go.Proofs.YtebmmpepniokjaaDoor.Pl
open Go
set_option linter.unusedVariables false
set_option linter.unusedSimpArgs false

theorem db_iff (c : UInt8) : db c = true ↔ 48 ≤ c.toNat ∧ c.toNat ≤ 57 := by unfold db dg; simp
theorem numF_cons (n : Nat) (c : UInt8) (l : Bs) : numF n (c :: l) = numF (n * 10 + (c.toNat - 48)) l := by unfold numF; rw [List.foldl_cons]
theorem numF_snoc (n : Nat) (c : UInt8) (l : Bs) : numF n (l ++ [c]) = numF n l * 10 + (c.toNat - 48) := by unfold numF; rw [List.foldl_append]; rfl
theorem numF_ge (n : Nat) (l : Bs) : n * 10 ^ l.length ≤ numF n l := by
  induction l generalizing n with
  | nil => simp [numF]
  | cons c l ih =>
    rw [numF_cons]
    refine Nat.le_trans ?_ (ih _)
    rw [List.length_cons, Nat.pow_succ, Nat.mul_comm (10 ^ l.length) 10, ← Nat.mul_assoc]
    exact Nat.mul_le_mul_right _ (by omega)
theorem numF_le (n : Nat) (l : Bs) : n ≤ numF n l := by
  refine Nat.le_trans ?_ (numF_ge n l)
  exact Nat.le_mul_of_pos_right _ (Nat.pow_pos (by decide))
theorem numF_lt (l : Bs) (h : l.all db = true) : numF 0 l < 10 ^ l.length := by
  have key : ∀ (l : Bs) n, l.all db = true → numF n l < (n + 1) * 10 ^ l.length := by
    intro l
    induction l with
    | nil => intro n _; simp [numF]
    | cons c l ih =>
      intro n h
      rw [List.all_cons, Bool.and_eq_true] at h
      have hc := (db_iff c).1 h.1
      rw [numF_cons]
      refine Nat.lt_of_lt_of_le (ih _ h.2) ?_
      rw [List.length_cons, Nat.pow_succ, Nat.mul_comm (10 ^ l.length) 10, ← Nat.mul_assoc]
      exact Nat.mul_le_mul_right _ (by omega)
  have := key l 0 h
  simpa using this

theorem parseM_ok (M acc : Nat) (l : Bs) (u : Nat) (h : Lib.parseUintM M acc l = .ok u) : l.all db = true ∧ u = numF acc l := by
  induction l generalizing acc with
  | nil => rw [Lib.parseUintM] at h; cases h; exact ⟨rfl, rfl⟩
  | cons c r ih =>
    rw [Lib.parseUintM] at h
    split at h
    · rename_i hd
      split at h
      · cases h
      · split at h
        · cases h
        · obtain ⟨h1, h2⟩ := ih _ h
          exact ⟨by rw [List.all_cons, h1, (db_iff c).2 hd]; rfl, h2⟩
    · cases h
theorem parseM_yes (acc : Nat) (l : Bs) (h : l.all db = true) (hn : numF acc l ≤ 1000000000000) : Lib.parseUintM (2 ^ 64 - 1) acc l = .ok (numF acc l) := by
  induction l generalizing acc with
  | nil => rfl
  | cons c r ih =>
    rw [List.all_cons, Bool.and_eq_true] at h
    have hc := (db_iff c).1 h.1
    rw [numF_cons] at hn
    have h1 := numF_le (acc * 10 + (c.toNat - 48)) r
    rw [Lib.parseUintM, if_pos hc, if_neg (by omega), if_neg (by omega), ih _ h.2 hn, numF_cons]
theorem parseI_ok (c : UInt8) (r : Bs) (h43 : ¬ (c.toNat = 43 ∨ c.toNat = 45)) (v : Int) (h : Lib.parseIntB 64 (c :: r) = .ok v) : ∃ u : Nat, Lib.parseUintM (2 ^ 64 - 1) 0 (c :: r) = .ok u ∧ v = u := by
  have h45 : ¬ c.toNat = 45 := fun h => h43 (.inr h)
  unfold Lib.parseIntB at h
  simp only [h43, if_false] at h
  unfold Lib.parseUintB at h
  rw [if_neg (by simp)] at h
  cases hp : Lib.parseUintM (2 ^ 64 - 1) 0 (c :: r)
  · rename_i u
    rw [hp] at h
    simp only [h45, not_false_eq_true, true_and, false_and, if_false] at h
    split at h
    · cases h
    · injection h with h
      exact ⟨u, rfl, h.symm⟩
  · rw [hp] at h; cases h
  · rw [hp] at h; cases h
theorem parseI_yes (c : UInt8) (r : Bs) (h43 : ¬ (c.toNat = 43 ∨ c.toNat = 45)) (u : Nat) (hp : Lib.parseUintM (2 ^ 64 - 1) 0 (c :: r) = .ok u) (hu : u < 2 ^ 63) : Lib.parseIntB 64 (c :: r) = .ok (u : Int) := by
  have h45 : ¬ c.toNat = 45 := fun h => h43 (.inr h)
  unfold Lib.parseIntB
  simp only [h43, if_false]
  unfold Lib.parseUintB
  rw [if_neg (by simp), hp]
  simp only [h45, not_false_eq_true, true_and, false_and, if_false]
  exact if_neg (Nat.not_le_of_lt hu)
/-- What strconv reads of a run: at most 10^12 just if it is digits that spell so much. -/
theorem parse_run (x : Bs) (h0 : x ≠ []) (hw : ∀ a ∈ x, wb a = true) :
    (∃ v : Nat, Lib.parseIntB 64 x = .ok (v : Int) ∧ decide (v ≤ 1000000000000) = (x.all db && decide (numF 0 x ≤ 1000000000000))) ∨
    ((∀ v, Lib.parseIntB 64 x ≠ .ok v) ∧ (x.all db && decide (numF 0 x ≤ 1000000000000)) = false) := by
  match x, h0 with
  | c :: r, _ =>
    have hc := hw c (List.mem_cons_self ..)
    have h43 : ¬ (c.toNat = 43 ∨ c.toNat = 45) := by
      rintro (h | h)
      · have : c = 43 := UInt8.toNat_inj.1 h
        subst this; exact absurd hc (by decide)
      · have : c = 45 := UInt8.toNat_inj.1 h
        subst this; exact absurd hc (by decide)
    by_cases hex : ∃ v, Lib.parseIntB 64 (c :: r) = .ok v
    · obtain ⟨v, hv⟩ := hex
      obtain ⟨u, hp, rfl⟩ := parseI_ok c r h43 v hv
      obtain ⟨h1, h2⟩ := parseM_ok _ _ _ _ hp
      exact .inl ⟨u, hv, by rw [h1, h2]; rfl⟩
    · refine .inr ⟨fun v hv => hex ⟨v, hv⟩, ?_⟩
      rw [Bool.eq_false_iff]
      intro h
      simp only [Bool.and_eq_true, decide_eq_true_eq] at h
      exact hex ⟨_, parseI_yes c r h43 _ (parseM_yes 0 _ h.1 h.2) (by omega)⟩
theorem isInt_eq (x : Bs) (h0 : x ≠ []) (hz : x = [48] ∨ x.head? ≠ some 48) : isInt x = (x.all db && decide (numF 0 x ≤ 1000000000000)) := by
  unfold isInt
  have h1 : (x == []) = false := by simpa using h0
  have h2 : (x == [48] || !(x.head? == some 48)) = true := by
    rcases hz with h | h
    · simp [h]
    · simp [h]
  rw [h1, h2]; simp
theorem isInt_zero (x : Bs) (h1 : x ≠ [48]) (h : x.head? = some 48) : isInt x = false := by
  unfold isInt
  have h2 : (x == [48] || !(x.head? == some 48)) = false := by simp [h1, h]
  rw [h2]; simp
theorem isInt_nil : isInt [] = false := rfl
theorem isInt_long (x : Bs) (h : 13 < x.length) : isInt x = false := by
  rw [Bool.eq_false_iff]
  intro hi
  unfold isInt at hi
  simp only [Bool.and_eq_true, decide_eq_true_eq, Bool.or_eq_true, Bool.not_eq_true', beq_iff_eq] at hi
  obtain ⟨⟨⟨_, hd⟩, hz⟩, hn⟩ := hi
  match x, h with
  | c :: r, h =>
    rcases hz with hz | hz
    · cases hz; simp at h
    · rw [List.all_cons, Bool.and_eq_true] at hd
      have hc := (db_iff c).1 hd.1
      have hc2 : c.toNat ≠ 48 := by
        intro e
        have : c = 48 := UInt8.toNat_inj.1 e
        subst this; simp at hz
      rw [numF_cons] at hn
      have := numF_ge (0 * 10 + (c.toNat - 48)) r
      have h2 : 10 ^ 13 ≤ 10 ^ r.length := Nat.pow_le_pow_right (by decide) (by simp only [List.length_cons] at h; omega)
      have h3 : 1 * 10 ^ r.length ≤ (0 * 10 + (c.toNat - 48)) * 10 ^ r.length := Nat.mul_le_mul_right _ (by omega)
      omega
end Go.Proofs.YtebmmpepniokjaaDoor.Pl
