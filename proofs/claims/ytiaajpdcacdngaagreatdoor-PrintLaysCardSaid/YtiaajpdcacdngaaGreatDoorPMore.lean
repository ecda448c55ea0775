/- How long the source of a tree of moderate size is. -/
import Derived.Test.YtiaajpdcacdngaaGreatDoorPWords
namespace Go.Proofs.YtiaajpdcacdngaaGreatDoor.Pl
open Go
set_option linter.unusedVariables false
set_option linter.unusedSimpArgs false

mutual
/-- The bytes of all texts and gaps. -/
def wt : Tr → Nat
  | .node _ s g ks => s.size + (g.map (·.size)).sum + wts ks
def wts : List Tr → Nat
  | [] => 0
  | t :: ts => wt t + wts ts
end
def cost : List Wd → Nat
  | [] => 0
  | w :: ws => 1 + (gapW w).size + w.text.size + cost ws
theorem cost_append (a b : List Wd) : cost (a ++ b) = cost a + cost b := by
  induction a with
  | nil => simp [cost]
  | cons w a ih => rw [List.cons_append, cost, cost, ih]; omega
theorem src_len (ws : List Wd) : ∀ last, (src last ws).length ≤ cost ws := by
  induction ws with
  | nil => intro last; simp [src, cost]
  | cons w ws ih =>
    intro last
    have := ih w.text
    rw [src, cost, List.length_append]
    unfold piece
    rw [List.length_append, List.length_append, ← Lib.size_eq, ← Lib.size_eq]
    split <;> simp only [List.length_cons, List.length_nil] <;> omega
/-- The gaps of all parts. -/
def gsum (ps : List Part) : Nat := (ps.map (·.gap.size)).sum
def tsum (ps : List Part) : Nat := (ps.map (·.text.size)).sum
theorem gsum_append (a b : List Part) : gsum (a ++ b) = gsum a + gsum b := by unfold gsum; rw [List.map_append, List.sum_append]
theorem gsum_cons (p : Part) (a : List Part) : gsum (p :: a) = p.gap.size + gsum a := by unfold gsum; rw [List.map_cons, List.sum_cons]
theorem gsum_nil : gsum [] = 0 := rfl
theorem tsum_append (a b : List Part) : tsum (a ++ b) = tsum a + tsum b := by unfold tsum; rw [List.map_append, List.sum_append]
theorem tsum_cons (p : Part) (a : List Part) : tsum (p :: a) = p.text.size + tsum a := by unfold tsum; rw [List.map_cons, List.sum_cons]
theorem tsum_nil : tsum [] = 0 := rfl
theorem gsum_fix (f : ByteArray) (ps : List Part) : gsum (fixF f ps) ≤ f.size + gsum ps := by
  cases ps with
  | nil => exact Nat.zero_le _
  | cons p ps => show gsum (⟨f, p.text, p.kid⟩ :: ps) ≤ _; rw [gsum_cons, gsum_cons]; simp only; omega
theorem split_owns (p : Part) (ps : List Part) : (p.kid = -1 ∧ owns (p :: ps) = p :: owns ps ∧ kds (p :: ps) = kds ps) ∨ (p.kid ≠ -1 ∧ owns (p :: ps) = owns ps ∧ kds (p :: ps) = p :: kds ps) := by
  by_cases hk : p.kid = -1
  · exact .inl ⟨hk, by unfold owns; rw [List.filter_cons, if_pos (by simpa using hk)], by unfold kds; rw [List.filter_cons, if_neg (by simpa using hk)]⟩
  · exact .inr ⟨hk, by unfold owns; rw [List.filter_cons, if_neg (by simpa using hk)], by unfold kds; rw [List.filter_cons, if_pos (by simpa using hk)]⟩
theorem gsum_split (ps : List Part) : gsum ps = gsum (owns ps) + gsum (kds ps) := by
  induction ps with
  | nil => rfl
  | cons p ps ih =>
    rcases split_owns p ps with ⟨_, h1, h2⟩ | ⟨_, h1, h2⟩ <;> rw [h1, h2, gsum_cons, gsum_cons, ih] <;> omega
theorem gap_drop (g : List ByteArray) (o : Nat) (gap text : ByteArray) (m : Nat) : (gapW ⟨o, gap, text, g⟩).size + ((g.drop (o + 1)).map (·.size)).sum ≤ gap.size + ((g.drop o).map (·.size)).sum := by
  unfold gapW
  simp only
  by_cases h0 : g.length = 0
  · rw [if_pos h0]
    obtain rfl := List.length_eq_zero_iff.1 h0
    simp
  · rw [if_neg h0]
    by_cases ho : o < g.length
    · rw [List.drop_eq_getElem_cons ho, List.map_cons, List.sum_cons, List.getD_eq_getElem?_getD, List.getElem?_eq_getElem ho]
      show g[o].size + _ ≤ _
      omega
    · rw [List.getD_eq_getElem?_getD, List.getElem?_eq_none (by omega), List.drop_of_length_le (by omega), List.drop_of_length_le (by omega)]
      show (⟨#[]⟩ : ByteArray).size + _ ≤ _
      show 0 + _ ≤ _
      omega
theorem cost_lin (g : List ByteArray) (kid : Nat → ByteArray → List Wd) : ∀ (ps : List Part) (o : Nat),
    cost (lin (fun o p => ⟨o, p.gap, p.text, g⟩) kid o ps) ≤ (owns ps).length + gsum (owns ps) + tsum (owns ps) + ((g.drop o).map (·.size)).sum + ((kds ps).map fun p => cost (kid p.kid.toNat p.gap)).sum := by
  intro ps
  induction ps with
  | nil => intro o; exact Nat.zero_le _
  | cons p ps ih =>
    intro o
    rw [lin]
    rcases split_owns p ps with ⟨hk, h1, h2⟩ | ⟨hk, h1, h2⟩
    · rw [if_pos hk, cost, h1, h2, List.length_cons, gsum_cons, tsum_cons]
      have := ih (o + 1)
      have := gap_drop g o p.gap p.text 0
      simp only at this ⊢
      omega
    · rw [if_neg hk, cost_append, h1, h2, List.map_cons, List.sum_cons]
      have := ih o
      omega

/- ### The constants -/
theorem gsum_rep (g : ByteArray) (n : Nat) (p : Part) (h : p.gap = g) : gsum (List.replicate n p) = n * g.size := by
  induction n with
  | zero => simp [gsum]
  | succ n ih => rw [List.replicate_succ, gsum_cons, ih, h, Nat.succ_mul]; omega
theorem gsum_kidsP (first n : Nat) (g : ByteArray) : gsum (kidsP first n g) = (n - first) * g.size := by
  unfold kidsP
  generalize hl : List.range' first (n - first) = l
  have hlen : l.length = n - first := by rw [← hl]; simp
  rw [← hlen]
  clear hl hlen
  induction l with
  | nil => simp [gsum]
  | cons a l ih => rw [List.map_cons, gsum_cons, ih, List.length_cons, Nat.succ_mul]; show g.size + _ = _; omega
theorem gsum_ckids (first n : Nat) : gsum (ckids first n) ≤ n - first := by
  unfold ckids
  generalize hl : List.range' first (n - first) = l
  have hlen : l.length = n - first := by rw [← hl]; simp
  rw [← hlen]
  clear hl hlen
  induction l with
  | nil => simp [gsum]
  | cons a l ih =>
    rw [List.map_cons, gsum_cons, List.length_cons]
    have : (pkid (if first < a then ⟨#[32]⟩ else ⟨#[]⟩) (a : Nat)).gap.size ≤ 1 := by
      show (if first < a then (⟨#[32]⟩ : ByteArray) else ⟨#[]⟩).size ≤ 1
      split <;> decide
    omega
theorem nl_size (n : Nat) : (nl n).size = n + 1 := by unfold nl; rw [mk_size, List.length_cons, List.length_replicate]
theorem gown_listP (first n : Nat) : gsum (owns (listP first n)) = 0 := by
  rw [owns_listP, gsum_cons, gsum_append, gsum_rep ⟨#[]⟩ _ _ rfl, gsum_cons]
  show 0 + ((n - first - 1) * 0 + (0 + 0)) = 0
  omega
theorem gown_bodyP (first n L : Nat) : gsum (owns (bodyP first n L)) ≤ L + 1 := by
  rw [owns_bodyP, gsum_cons]
  show (if n ≤ first then (⟨#[]⟩ : ByteArray) else nl L).size + 0 ≤ _
  split
  · exact Nat.zero_le _
  · rw [nl_size]; exact Nat.le_refl _
theorem gkid_bodyP (first n L : Nat) : gsum (kds (bodyP first n L)) = (n - first) * (L + 2) := by
  rw [kds_bodyP, gsum_kidsP, nl_size]
theorem rown_size (k : Int) (s : ByteArray) (n : Nat) (h : Ar k n) : ((rown k s n).map (·.size)).sum ≤ 12 + n + s.size ∧ (rown k s n).length ≤ n + 4 := by
  have rl : ∀ (l : List ByteArray) (m : Nat), ((rlist l m).map (·.size)).sum = (l.map (·.size)).sum + (m - 1) + 1 ∧ (rlist l m).length = l.length + (m - 1) + 1 := fun l m => by
    unfold rlist
    rw [List.map_append, List.map_append, List.sum_append, List.sum_append, List.map_replicate, List.sum_replicate_nat]
    refine ⟨?_, by simp only [List.length_append, List.length_replicate, List.length_cons, List.length_nil]⟩
    show _ + (m - 1) * 1 + (1 + 0) = _
    omega
  rcases kinds k ⟨h.lo, h.hi⟩ with rfl | rfl | rfl | rfl | rfl | rfl | rfl | rfl | rfl | rfl | rfl | rfl | rfl | rfl | rfl | rfl | rfl | rfl | rfl | rfl | rfl | rfl | rfl | rfl | rfl | rfl
  case inr.inr.inl =>
    have e : rown 3 s n = rlist [⟨#[40]⟩] n := rfl
    rw [e, (rl _ _).1, (rl _ _).2]
    show (1 + 0) + (n - 1) + 1 ≤ _ ∧ 1 + (n - 1) + 1 ≤ _
    omega
  case inr.inr.inr.inr.inr.inr.inr.inl =>
    have e : rown 8 s n = if s.size = 0 then [] else [⟨#[58]⟩, s] := rfl
    rw [e]
    split
    · simp
    · show 1 + (s.size + 0) ≤ _ ∧ 2 ≤ _; omega
  case inr.inr.inr.inr.inr.inr.inr.inr.inr.inr.inr.inr.inr.inl =>
    have e : rown 14 s n = if n = 0 then [] else [⟨#[101, 108, 115, 101]⟩] := rfl
    rw [e]
    split
    · simp
    · show 4 + 0 ≤ _ ∧ 1 ≤ _; omega
  case inr.inr.inr.inr.inr.inr.inr.inr.inr.inr.inr.inr.inr.inr.inr.inr.inr.inr.inr.inl =>
    have e : rown 20 s n = rlist [s, ⟨#[40]⟩] n := rfl
    rw [e, (rl _ _).1, (rl _ _).2]
    show (s.size + (1 + 0)) + (n - 1) + 1 ≤ _ ∧ 2 + (n - 1) + 1 ≤ _
    omega
  case inr.inr.inr.inr.inr.inr.inr.inr.inr.inr.inr.inr.inr.inr.inr.inr.inr.inr.inr.inr.inl =>
    have e : rown 21 s n = rlist [⟨#[46]⟩, s, ⟨#[40]⟩] (n - 1) := rfl
    rw [e, (rl _ _).1, (rl _ _).2]
    have := h.ap (.inr rfl)
    show (1 + (s.size + (1 + 0))) + (n - 1 - 1) + 1 ≤ _ ∧ 3 + (n - 1 - 1) + 1 ≤ _
    omega
  case inl => show 0 + 0 ≤ _ ∧ 1 ≤ _; omega
  case inr.inl => show 2 + (s.size + 0) ≤ _ ∧ 2 ≤ _; omega
  case inr.inr.inr.inl => show (s.size + 0) ≤ _ ∧ 1 ≤ _; omega
  case inr.inr.inr.inr.inl => show (s.size + 0) ≤ _ ∧ 1 ≤ _; omega
  case inr.inr.inr.inr.inr.inl => show 1 + (1 + 0) ≤ _ ∧ 2 ≤ _; omega
  case inr.inr.inr.inr.inr.inr.inl => show 5 + (s.size + (1 + (1 + 0))) ≤ _ ∧ 4 ≤ _; omega
  case inr.inr.inr.inr.inr.inr.inr.inr.inl => show 5 + (s.size + (1 + (1 + 0))) ≤ _ ∧ 4 ≤ _; omega
  case inr.inr.inr.inr.inr.inr.inr.inr.inr.inl => show 3 + (s.size + (1 + (1 + 0))) ≤ _ ∧ 4 ≤ _; omega
  case inr.inr.inr.inr.inr.inr.inr.inr.inr.inr.inl => show s.size + (1 + (1 + 0)) ≤ _ ∧ 3 ≤ _; omega
  case inr.inr.inr.inr.inr.inr.inr.inr.inr.inr.inr.inl => show 6 + (1 + 0) ≤ _ ∧ 2 ≤ _; omega
  case inr.inr.inr.inr.inr.inr.inr.inr.inr.inr.inr.inr.inl => show 2 + 0 ≤ _ ∧ 1 ≤ _; omega
  case inr.inr.inr.inr.inr.inr.inr.inr.inr.inr.inr.inr.inr.inr.inl => show 5 + 0 ≤ _ ∧ 1 ≤ _; omega
  case inr.inr.inr.inr.inr.inr.inr.inr.inr.inr.inr.inr.inr.inr.inr.inl => show 1 + 0 ≤ _ ∧ 1 ≤ _; omega
  case inr.inr.inr.inr.inr.inr.inr.inr.inr.inr.inr.inr.inr.inr.inr.inr.inl => show s.size + 0 ≤ _ ∧ 1 ≤ _; omega
  case inr.inr.inr.inr.inr.inr.inr.inr.inr.inr.inr.inr.inr.inr.inr.inr.inr.inl => show s.size + 0 ≤ _ ∧ 1 ≤ _; omega
  case inr.inr.inr.inr.inr.inr.inr.inr.inr.inr.inr.inr.inr.inr.inr.inr.inr.inr.inl => show s.size + 0 ≤ _ ∧ 1 ≤ _; omega
  case inr.inr.inr.inr.inr.inr.inr.inr.inr.inr.inr.inr.inr.inr.inr.inr.inr.inr.inr.inr.inr.inl => show 3 + (s.size + (1 + (1 + 0))) ≤ _ ∧ 4 ≤ _; omega
  case inr.inr.inr.inr.inr.inr.inr.inr.inr.inr.inr.inr.inr.inr.inr.inr.inr.inr.inr.inr.inr.inr.inr.inr.inr => show 1 + (1 + 0) ≤ _ ∧ 2 ≤ _; omega
  all_goals (show s.size + 0 ≤ _ ∧ 1 ≤ _; omega)
/-- The gaps of the parts of a node. -/
theorem gsum_parts (k : Int) (s : ByteArray) (n L : Nat) (h : Ar k n) : gsum (parts k s n L) ≤ n * (L + 2) + (L + 1) + 6 := by
  have hmul : ∀ m, m ≤ n → m * (L + 2) ≤ n * (L + 2) := fun m hm => Nat.mul_le_mul_right _ hm
  have h2 : 2 * n ≤ n * (L + 2) := by rw [Nat.mul_add]; have := Nat.zero_le (n * L); omega
  have z0 : ∀ g, pkid g 0 = pkid g ((0 : Nat) : Int) := fun g => rfl
  rw [gsum_split]
  rcases kinds k ⟨h.lo, h.hi⟩ with rfl | rfl | rfl | rfl | rfl | rfl | rfl | rfl | rfl | rfl | rfl | rfl | rfl | rfl | rfl | rfl | rfl | rfl | rfl | rfl | rfl | rfl | rfl | rfl | rfl | rfl
  · show gsum (owns (kidsP 0 n _ ++ _)) + gsum (kds (kidsP 0 n _ ++ _)) ≤ _
    rw [owns_append, owns_kidsP, kds_append, kds_kidsP, kds_own, kds_nil, List.append_nil, gsum_kidsP]
    show (1 + 0) + (n - 0) * 2 ≤ _
    omega
  · show (0 + (1 + 0)) + (0 + (1 + (1 + 0))) ≤ _; omega
  · show gsum (owns (listP 0 n)) + gsum (kds (listP 0 n)) ≤ _
    have := gsum_ckids 0 n
    rw [gown_listP, kds_listP]; omega
  · show (0 + 0) + (1 + 0) ≤ _; omega
  · show (0 + 0) + 0 ≤ _; omega
  · show gsum (owns (pown _ _ :: bodyP 0 n L)) + gsum (kds (pown _ _ :: bodyP 0 n L)) ≤ _
    rw [owns_own, kds_own, gkid_bodyP, gsum_cons]
    have := gown_bodyP 0 n L
    show (0 + _) + _ ≤ _
    rw [Nat.sub_zero]
    omega
  · show gsum (owns ([_, _, _, _] ++ bodyP 1 n L)) + gsum (kds ([_, _, _, _] ++ bodyP 1 n L)) ≤ _
    rw [owns_append, kds_append, gsum_append, gsum_append, gkid_bodyP]
    have := gown_bodyP 1 n L
    have := hmul (n - 1) (by omega)
    show (0 + (1 + (1 + 0))) + _ + ((1 + 0) + _) ≤ _
    omega
  · show gsum (owns (if s.size = 0 then [] else _)) + gsum (kds (if s.size = 0 then [] else _)) ≤ _
    split
    · exact Nat.zero_le _
    · show (0 + (1 + 0)) + 0 ≤ _; omega
  · show (0 + (1 + (1 + (0 + 0)))) + (1 + 0) ≤ _; omega
  · show (0 + (1 + (1 + (0 + 0)))) + (1 + 0) ≤ _; omega
  · show ((1 + (1 + (0 + 0)))) + (1 + 0) ≤ _; omega
  · show (0 + (0 + 0)) + (1 + 0) ≤ _; omega
  · show gsum (owns (pown _ _ :: kidsP 0 n _)) + gsum (kds (pown _ _ :: kidsP 0 n _)) ≤ _
    rw [owns_own, owns_kidsP, kds_own, kds_kidsP, gsum_kidsP]
    show (0 + 0) + (n - 0) * 1 ≤ _
    omega
  · show gsum (owns (if n = 0 then [] else pown _ _ :: kidsP 0 n _)) + gsum (kds (if n = 0 then [] else pown _ _ :: kidsP 0 n _)) ≤ _
    split
    · exact Nat.zero_le _
    · rw [owns_own, owns_kidsP, kds_own, kds_kidsP, gsum_kidsP]
      show (0 + 0) + (n - 0) * 1 ≤ _
      omega
  · show gsum (owns (pown _ _ :: kidsP 0 n _)) + gsum (kds (pown _ _ :: kidsP 0 n _)) ≤ _
    rw [owns_own, owns_kidsP, kds_own, kds_kidsP, gsum_kidsP]
    show (0 + 0) + (n - 0) * 1 ≤ _
    omega
  · show (0 + 0) + (0 + 0) ≤ _; omega
  · show (0 + 0) + 0 ≤ _; omega
  · show (0 + 0) + 0 ≤ _; omega
  · show (0 + 0) + 0 ≤ _; omega
  · show gsum (owns (pown _ _ :: listP 0 n)) + gsum (kds (pown _ _ :: listP 0 n)) ≤ _
    have := gsum_ckids 0 n
    rw [owns_own, kds_own, kds_listP, gsum_cons, gown_listP]
    show (0 + 0) + _ ≤ _
    omega
  · show gsum (owns ([_, _, _] ++ listP 1 n)) + gsum (kds ([_, _, _] ++ listP 1 n)) ≤ _
    have := gsum_ckids 1 n
    rw [owns_append, kds_append, gsum_append, gsum_append, kds_listP, gown_listP]
    show (0 + (0 + 0)) + 0 + ((0 + 0) + _) ≤ _
    omega
  · show gsum (owns ([_, _] ++ listP 0 n)) + gsum (kds ([_, _] ++ listP 0 n)) ≤ _
    have := gsum_ckids 0 n
    rw [owns_append, kds_append, gsum_append, gsum_append, kds_listP, gown_listP]
    show (0 + (1 + 0)) + 0 + (0 + _) ≤ _
    omega
  · show (0 + 0) + 0 ≤ _; omega
  · show (1 + 0) + (0 + (1 + 0)) ≤ _; omega
  · show (0 + 0) + (0 + 0) ≤ _; omega
  · show (0 + (0 + 0)) + (0 + 0) ≤ _; omega

/- ### The bound -/
theorem cost_kids (ks : List Tr) (L C : Nat) (hC : ∀ u ∈ ks, ∀ f, cost (evT u L f) + 100 ≤ f.size + C * sz u + wt u) : ∀ (ps : List Part) (i : Nat), ps.map (·.kid) = (List.range' i ps.length).map (fun j : Nat => (j : Int)) → i + ps.length = ks.length →
    (ps.map fun p => cost ((evF ks).getD p.kid.toNat (fun _ _ => []) L p.gap)).sum + 100 * ps.length ≤ gsum ps + C * szs (ks.drop i) + wts (ks.drop i) := by
  intro ps
  induction ps with
  | nil => intro i _ _; exact Nat.zero_le _
  | cons p ps ih =>
    intro i hm hl
    rw [List.length_cons, List.range'_succ, List.map_cons, List.map_cons] at hm
    injection hm with e1 e2
    have hi : i < ks.length := by rw [← hl, List.length_cons]; omega
    have := ih (i + 1) e2 (by rw [← hl, List.length_cons]; omega)
    rw [List.map_cons, List.sum_cons, gsum_cons, List.length_cons, List.drop_eq_getElem_cons hi, szs, wts, e1, Int.toNat_natCast, evF_get ks i _ (List.getElem?_eq_getElem hi), Nat.mul_add C]
    have := hC _ (List.getElem_mem hi) p.gap
    omega
theorem cost_tree (t : Tr) : ∀ L f, firstE t = 0 → L + ht t ≤ 61 → cost (evT t L f) + 100 ≤ f.size + 250 * sz t + wt t := by
  refine Tr.ind (M := fun t => ∀ L f, firstE t = 0 → L + ht t ≤ 61 → cost (evT t L f) + 100 ≤ f.size + 250 * sz t + wt t) ?_ t
  intro k s g ks ih L f h hL
  obtain ⟨hn, hks⟩ := first_zero k s g ks h
  obtain ⟨h1, h2, h3⟩ := nodeE_zero k s g ks hn
  have har := shape_ar k s ks h1
  rw [ht] at hL
  have hin : inside k L + hts ks ≤ 61 := by unfold inside; split <;> omega
  have hkids := cost_kids ks (inside k L) 250 (fun u hu f => ih u hu _ f (firsts_mem ks hks u hu) (by have := hts_mem hu; omega)) (kds (fixF f (parts k s ks.length L))) 0
  have hkl : (kds (fixF f (parts k s ks.length L))).length = ks.length := by
    have := congrArg List.length (fix_kids f (parts k s ks.length L))
    rw [kds_parts k s ks.length L har] at this
    simpa using this
  have hkids := hkids (by rw [fix_kids, kds_parts k s ks.length L har, hkl]) (by rw [hkl]; omega)
  rw [evT, sz, wt]
  have hc := cost_lin g (fun j gp => (evF ks).getD j (fun _ _ => []) (inside k L) gp) (fixF f (parts k s ks.length L)) 0
  have hg1 := gsum_fix f (parts k s ks.length L)
  have hg2 := gsum_parts k s ks.length L har
  rw [gsum_split] at hg1
  have ht1 : tsum (owns (fixF f (parts k s ks.length L))) = ((rown k s ks.length).map (·.size)).sum := by
    unfold tsum
    rw [show (fun p : Part => p.text.size) = (fun x : ByteArray => x.size) ∘ (fun p : Part => p.text) from rfl, ← List.map_map, owns_fix_text, rown_eq k s ks.length L har]
  have hlen : (owns (fixF f (parts k s ks.length L))).length = (rown k s ks.length).length := by
    rw [← rown_eq k s ks.length L har, ← owns_fix_text f, List.length_map]
  obtain ⟨r1, r2⟩ := rown_size k s ks.length har
  rw [List.drop_zero] at hc hkids
  have hLn : ks.length * (L + 2) ≤ ks.length * 62 := Nat.mul_le_mul_left _ (by omega)
  rw [hkl] at hkids
  simp only at hc ⊢
  omega
/-- Trees of moderate size: the source is short. -/
theorem source_len (t : Tr) (h : firstE t = 0) (h1 : ht t ≤ 60) (h2 : sz t ≤ 250) (h3 : wt t ≤ 3000) : (source t).length ≤ 65536 := by
  have h4 := src_len (evT t 0 ⟨#[]⟩) ⟨#[]⟩
  have h5 := cost_tree t 0 ⟨#[]⟩ h (by omega)
  unfold source
  have : (⟨#[]⟩ : ByteArray).size = 0 := rfl
  omega
end Go.Proofs.YtiaajpdcacdngaaGreatDoor.Pl

namespace Go.Proofs.YtiaajpdcacdngaaGreatDoor.Pl
open Go
set_option linter.unusedVariables false
set_option linter.unusedSimpArgs false

theorem lay_node (k : Int) (s : ByteArray) (g : List ByteArray) (ks : List Tr) (L : Nat) (f : ByteArray) : lay (.node k s g ks) L f = .node k s ((owns (fixF f (parts k s ks.length L))).map (·.gap)) (layF ks (inside k L) (gapK f (parts k s ks.length L)) 0) := by rw [lay]
theorem evT_node (k : Int) (s : ByteArray) (g : List ByteArray) (ks : List Tr) (L : Nat) (f : ByteArray) : evT (.node k s g ks) L f = lin (fun o p => ⟨o, p.gap, p.text, g⟩) (fun j gp => (evF ks).getD j (fun _ _ => []) (inside k L) gp) 0 (fixF f (parts k s ks.length L)) := by rw [evT]
theorem lay_kind (t : Tr) (L : Nat) (f : ByteArray) : (lay t L f).kind = t.kind := by cases t; rfl
theorem lay_text (t : Tr) (L : Nat) (f : ByteArray) : (lay t L f).text = t.text := by cases t; rfl
theorem lay_kids (t : Tr) (L : Nat) (f : ByteArray) : (lay t L f).kids = layF t.kids (inside t.kind L) (gapK f (parts t.kind t.text t.kids.length L)) 0 := by cases t; rfl
theorem lay_gaps (t : Tr) (L : Nat) (f : ByteArray) : (lay t L f).gaps = (owns (fixF f (parts t.kind t.text t.kids.length L))).map (·.gap) := by cases t; rfl
theorem layF_bares (ks : List Tr) (L : Nat) (G : Nat → ByteArray) (h : ∀ u ∈ ks, ∀ L f, bare (lay u L f) = bare u) : ∀ i, bares (layF ks L G i) = bares ks := by
  induction ks with
  | nil => intro i; rfl
  | cons t ts ih => intro i; rw [layF, bares, bares, h t (by simp), ih (fun u hu => h u (by simp [hu]))]
theorem lay_bare (t : Tr) : ∀ L f, bare (lay t L f) = bare t := by
  refine Tr.ind (M := fun t => ∀ L f, bare (lay t L f) = bare t) (fun k s g ks ih L f => ?_) t
  rw [lay_node, bare, bare, layF_bares ks _ _ ih]
theorem layF_lay (ks : List Tr) (L L2 : Nat) (G G2 : Nat → ByteArray) (h : ∀ u ∈ ks, ∀ L f L2 f2, lay (lay u L f) L2 f2 = lay u L2 f2) : ∀ i j, layF (layF ks L G i) L2 G2 j = layF ks L2 G2 j := by
  induction ks with
  | nil => intro i j; rfl
  | cons t ts ih => intro i j; rw [layF, layF, layF, h t (by simp), ih (fun u hu => h u (by simp [hu]))]
theorem lay_lay (t : Tr) : ∀ L f L2 f2, lay (lay t L f) L2 f2 = lay t L2 f2 := by
  refine Tr.ind (M := fun t => ∀ L f L2 f2, lay (lay t L f) L2 f2 = lay t L2 f2) (fun k s g ks ih L f L2 f2 => ?_) t
  rw [lay_node, lay_node, lay_node, layF_len, layF_lay ks _ _ _ _ ih]
theorem layF_bare (ks : List Tr) (L : Nat) (G : Nat → ByteArray) (h : ∀ u ∈ ks, ∀ L f, lay (bare u) L f = lay u L f) : ∀ i, layF (bares ks) L G i = layF ks L G i := by
  induction ks with
  | nil => intro i; rfl
  | cons t ts ih => intro i; rw [bares, layF, layF, h t (by simp), ih (fun u hu => h u (by simp [hu]))]
theorem bares_len (ks : List Tr) : (bares ks).length = ks.length := by rw [bares_map, List.length_map]
theorem bare_lay (t : Tr) : ∀ L f, lay (bare t) L f = lay t L f := by
  refine Tr.ind (M := fun t => ∀ L f, lay (bare t) L f = lay t L f) (fun k s g ks ih L f => ?_) t
  rw [bare, lay_node, lay_node, bares_len, layF_bare ks _ _ ih]
theorem layout_layout (t : Tr) : layout (layout t) = layout t := lay_lay t _ _ _ _

/- ### The words of the layout, of the bare tree -/
def core (w : Wd) : Nat × ByteArray × ByteArray := (w.own, w.gap, w.text)
theorem lin_map {α β γ : Type} (F : α → γ) (H : β → γ) (o1 : Nat → Part → α) (o2 : Nat → Part → β) (k1 : Nat → ByteArray → List α) (k2 : Nat → ByteArray → List β) (ho : ∀ o p, F (o1 o p) = H (o2 o p)) : ∀ (ps : List Part) (o : Nat), (∀ p ∈ kds ps, (k1 p.kid.toNat p.gap).map F = (k2 p.kid.toNat p.gap).map H) → (lin o1 k1 o ps).map F = (lin o2 k2 o ps).map H := by
  intro ps
  induction ps with
  | nil => intro o _; rfl
  | cons p ps ih =>
    intro o h
    rw [lin, lin]
    rcases split_owns p ps with ⟨hk, h1, h2⟩ | ⟨hk, h1, h2⟩
    · rw [if_pos hk, if_pos hk, List.map_cons, List.map_cons, ho, ih _ (by rw [h2] at h; exact h)]
    · rw [h2] at h
      rw [if_neg hk, if_neg hk, List.map_append, List.map_append, h p (List.mem_cons_self ..), ih _ (fun q hq => h q (List.mem_cons_of_mem _ hq))]
/-- Where gaps are canonical: the word's own gap is what the canonical one says. -/
theorem ev_gap (t : Tr) : ∀ L f, firstE t = 0 → sz t ≤ 1000000 → (evT (lay t L f) L f).map (fun w => (gapW w, w.text)) = (evT (bare t) L f).map fun w => (gapW w, w.text) := by
  refine Tr.ind (M := fun t => ∀ L f, firstE t = 0 → sz t ≤ 1000000 → (evT (lay t L f) L f).map (fun w => (gapW w, w.text)) = (evT (bare t) L f).map fun w => (gapW w, w.text)) ?_ t
  intro k s g ks ih L f h hz
  obtain ⟨hn, hks⟩ := first_zero k s g ks h
  obtain ⟨h1, h2, h3⟩ := nodeE_zero k s g ks hn
  have har := shape_ar k s ks h1
  rw [sz] at hz
  rw [lay_node, bare, evT_node, evT_node, layF_len, bares_len]
  have key : ∀ (G : List ByteArray) (K1 K2 : Nat → ByteArray → List Wd) (ps : List Part) (o : Nat), (∀ i p, (owns ps)[i]? = some p → G[o + i]? = some p.gap) →
      (∀ p ∈ kds ps, (K1 p.kid.toNat p.gap).map (fun w => (gapW w, w.text)) = (K2 p.kid.toNat p.gap).map fun w => (gapW w, w.text)) →
      (lin (fun o p => ⟨o, p.gap, p.text, G⟩) K1 o ps).map (fun w => (gapW w, w.text)) = (lin (fun o p => ⟨o, p.gap, p.text, []⟩) K2 o ps).map fun w => (gapW w, w.text) := by
    intro G K1 K2 ps
    induction ps with
    | nil => intro o _ _; rfl
    | cons p ps ihp =>
      intro o hG hK
      rw [lin, lin]
      rcases split_owns p ps with ⟨hk, e1, e2⟩ | ⟨hk, e1, e2⟩
      · rw [e1] at hG
        rw [e2] at hK
        rw [if_pos hk, if_pos hk, List.map_cons, List.map_cons, ihp (o + 1) (fun i q hq => by rw [show o + 1 + i = o + (i + 1) from by omega]; exact hG (i + 1) q hq) hK]
        congr 1
        have hg : G[o]? = some p.gap := hG 0 p rfl
        unfold gapW
        simp only
        have hne : ¬ G.length = 0 := fun e => by rw [List.length_eq_zero_iff.1 e] at hg; simp at hg
        rw [if_neg hne, List.getD_eq_getElem?_getD, hg]; rfl
      · rw [e1] at hG
        rw [e2] at hK
        rw [if_neg hk, if_neg hk, List.map_append, List.map_append, hK p (List.mem_cons_self ..), ihp o hG (fun q hq => hK q (List.mem_cons_of_mem _ hq))]
  refine key _ _ _ _ 0 (fun i p hp => ?_) (fun p hp => ?_)
  · rw [Nat.zero_add, List.getElem?_map, hp]; rfl
  · have hm : p.kid ∈ (kds (fixF f (parts k s ks.length L))).map (·.kid) := List.mem_map_of_mem hp
    obtain ⟨i, hi⟩ := List.getElem?_of_mem hp
    have hkid := congrArg (fun l => l[i]?) (fix_kids f (parts k s ks.length L))
    rw [kds_parts k s ks.length L har] at hkid
    simp only [List.getElem?_map, hi] at hkid
    obtain ⟨hil, _⟩ : i < ks.length ∧ True := by
      have h5 := (List.getElem?_eq_some_iff.1 hi).1
      have := congrArg List.length (fix_kids f (parts k s ks.length L))
      rw [kds_parts k s ks.length L har, List.length_map, List.length_map, List.length_range'] at this
      exact ⟨by omega, trivial⟩
    rw [List.getElem?_range' hil] at hkid
    have e : p.kid = (i : Int) := by simpa using hkid
    have hgap : gapK f (parts k s ks.length L) (0 + i) = p.gap := by
      unfold gapK
      rw [Nat.zero_add, List.getD_eq_getElem?_getD, List.getElem?_map, hi]; rfl
    have hgi := List.getElem?_eq_getElem hil
    have hmem := List.getElem_mem hil
    rw [e, Int.toNat_natCast, evF_get _ i (lay ks[i] (inside k L) p.gap) (by rw [layF_get, hgi, ← hgap]; rfl), evF_get _ i (bare ks[i]) (by rw [bares_map, List.getElem?_map, hgi]; rfl)]
    exact ih _ hmem _ _ (firsts_mem ks hks _ hmem) (by have := sz_mem hmem; omega)
theorem src_congr (a : List Wd) : ∀ (b : List Wd) last, a.map (fun w => (gapW w, w.text)) = b.map (fun w => (gapW w, w.text)) → src last a = src last b := by
  induction a with
  | nil =>
    intro b last h
    cases b with
    | nil => rfl
    | cons x b => simp at h
  | cons w a ih =>
    intro b last h
    cases b with
    | nil => simp at h
    | cons x b =>
      rw [List.map_cons, List.map_cons] at h
      injection h with h1 h2
      have e1 : gapW w = gapW x := congrArg Prod.fst h1
      have e2 : w.text = x.text := congrArg Prod.snd h1
      rw [src, src, ih b w.text h2]
      unfold piece
      rw [e1, e2]
theorem source_layout (t : Tr) (h : firstE t = 0) (hz : sz t ≤ 1000000) : source (layout t) = source (bare t) := src_congr _ _ _ (ev_gap t 0 _ h hz)
/-- The words do not depend on the gaps. -/
theorem words_bare (t : Tr) : ∀ L f, (evT (bare t) L f).map (fun w => w.text) = (evT t L f).map fun w => w.text := by
  refine Tr.ind (M := fun t => ∀ L f, (evT (bare t) L f).map (fun w => w.text) = (evT t L f).map fun w => w.text) (fun k s g ks ih L f => ?_) t
  rw [bare, evT_node, evT_node, bares_len]
  refine lin_map (fun w : Wd => w.text) (fun w : Wd => w.text) _ _ _ _ ?_ _ _ (fun p hp => ?_)
  · intro o p; rfl
  cases hg : ks[p.kid.toNat]? with
  | none =>
    have e1 : (evF (bares ks)).getD p.kid.toNat (fun _ _ => []) = fun _ _ => [] := by rw [evF_map, bares_map, List.map_map, List.getD_eq_getElem?_getD, List.getElem?_map, hg]; rfl
    have e2 : (evF ks).getD p.kid.toNat (fun _ _ => []) = fun _ _ => [] := by rw [evF_map, List.getD_eq_getElem?_getD, List.getElem?_map, hg]; rfl
    rw [e1, e2]
  | some u =>
    rw [evF_get _ _ (bare u) (by rw [bares_map, List.getElem?_map, hg]; rfl), evF_get _ _ u hg]
    exact ih u (List.mem_of_getElem? hg) _ _

/- ### The layout is well-formed -/
theorem szws_congr (ks ks' : List Tr) (h : ks'.map szw = ks.map szw) : ∀ a, szws a ks' = szws a ks := by
  induction ks generalizing ks' with
  | nil => intro a; cases ks' with | nil => rfl | cons x l => simp at h
  | cons t ts ih =>
    intro a
    cases ks' with
    | nil => simp at h
    | cons x l =>
      rw [List.map_cons, List.map_cons] at h
      injection h with h1 h2
      rw [szws, szws, h1, ih l h2]
theorem htws_congr (ks ks' : List Tr) (h : ks'.map htw = ks.map htw) : ∀ a, htws a ks' = htws a ks := by
  induction ks generalizing ks' with
  | nil => intro a; cases ks' with | nil => rfl | cons x l => simp at h
  | cons t ts ih =>
    intro a
    cases ks' with
    | nil => simp at h
    | cons x l =>
      rw [List.map_cons, List.map_cons] at h
      injection h with h1 h2
      rw [htws, htws, h1, ih l h2]
theorem layF_map {α : Type} (F : Tr → α) (ks : List Tr) (L : Nat) (G : Nat → ByteArray) (h : ∀ u ∈ ks, ∀ L f, F (lay u L f) = F u) : ∀ i, (layF ks L G i).map F = ks.map F := by
  induction ks with
  | nil => intro i; rfl
  | cons t ts ih => intro i; rw [layF, List.map_cons, List.map_cons, h t (by simp), ih (fun u hu => h u (by simp [hu]))]
theorem lay_szw (t : Tr) : ∀ L f, szw (lay t L f) = szw t := by
  refine Tr.ind (M := fun t => ∀ L f, szw (lay t L f) = szw t) (fun k s g ks ih L f => ?_) t
  rw [lay_node, szw, szw, szws_congr ks _ (layF_map szw ks _ _ ih 0)]
theorem lay_htw (t : Tr) : ∀ L f, htw (lay t L f) = htw t := by
  refine Tr.ind (M := fun t => ∀ L f, htw (lay t L f) = htw t) (fun k s g ks ih L f => ?_) t
  rw [lay_node, htw, htw, htws_congr ks _ (layF_map htw ks _ _ ih 0)]
theorem lay_sz (t : Tr) : ∀ L f, sz (lay t L f) = sz t := fun L f => by rw [← bare_sz, lay_bare, bare_sz]
theorem lay_ht (t : Tr) : ∀ L f, ht (lay t L f) = ht t := fun L f => by rw [← bare_ht, lay_bare, bare_ht]
theorem crowds_congr (ks ks' : List Tr) (h : ks'.map crowd = ks.map crowd) : crowds ks' = crowds ks := by
  induction ks generalizing ks' with
  | nil => cases ks' with | nil => rfl | cons x l => simp at h
  | cons t ts ih =>
    cases ks' with
    | nil => simp at h
    | cons x l =>
      rw [List.map_cons, List.map_cons] at h
      injection h with h1 h2
      rw [crowds, crowds, h1, ih l h2]
theorem lay_crowd (t : Tr) : ∀ L f, crowd (lay t L f) = crowd t := by
  refine Tr.ind (M := fun t => ∀ L f, crowd (lay t L f) = crowd t) (fun k s g ks ih L f => ?_) t
  rw [lay_node, crowd, crowd, layF_len, crowds_congr ks _ (layF_map crowd ks _ _ ih 0)]
theorem fitA_congr (k : Int) (ks ks' : List Tr) (h : ks'.map (·.kind) = ks.map (·.kind)) : ∀ i, fitA k i ks' = fitA k i ks := by
  induction ks generalizing ks' with
  | nil => intro i; cases ks' with | nil => rfl | cons x l => simp at h
  | cons t ts ih =>
    intro i
    cases ks' with
    | nil => simp at h
    | cons x l =>
      rw [List.map_cons, List.map_cons] at h
      injection h with h1 h2
      rw [fitA, fitA, h1, ih l h2]
theorem lvls_congr (k : Int) (s : ByteArray) (ks ks' : List Tr) (h : ks'.map Tr.lev = ks.map Tr.lev) : lvls k s ks' = lvls k s ks := by
  match ks, ks', h with
  | [], [], _ => rfl
  | [], x :: l, h => simp at h
  | a :: l, [], h => simp at h
  | [a], [x], h =>
    have : x.lev = a.lev := by simpa using h
    unfold lvls
    simp only [this]
  | [a], x :: y :: l, h => simp at h
  | a :: b :: l, [x], h => simp at h
  | a :: b :: l, x :: y :: m, h =>
    rw [List.map_cons, List.map_cons, List.map_cons, List.map_cons] at h
    injection h with h1 h2
    injection h2 with h2 h3
    unfold lvls
    simp only [h1, h2]
theorem shape_congr (k : Int) (s : ByteArray) (ks ks' : List Tr) (h1 : ks'.map (·.kind) = ks.map (·.kind)) (h2 : ks'.map Tr.lev = ks.map Tr.lev) : shape k s ks' = shape k s ks := by
  have hl : ks'.length = ks.length := by have := congrArg List.length h1; simpa using this
  unfold shape
  rw [fitA_congr k ks ks' h1, lvls_congr k s ks ks' h2, hl]
theorem lay_lev (t : Tr) (L : Nat) (f : ByteArray) : (lay t L f).lev = t.lev := by unfold Tr.lev; rw [lay_kind, lay_text]
theorem lay_first (t : Tr) : ∀ L f, ws f → firstE t = 0 → sz t ≤ 1000000 → firstE (lay t L f) = 0 := by
  refine Tr.ind (M := fun t => ∀ L f, ws f → firstE t = 0 → sz t ≤ 1000000 → firstE (lay t L f) = 0) ?_ t
  intro k s g ks ih L f hf h hz
  obtain ⟨hn, hks⟩ := first_zero k s g ks h
  obtain ⟨h1, h2, h3⟩ := nodeE_zero k s g ks hn
  have har := shape_ar k s ks h1
  have hlen := len_szs ks
  rw [sz] at hz
  rw [lay_node]
  refine first_node _ _ _ _ (nodeE_of _ _ _ _ ?_ h2 ?_) (firsts_of _ fun u hu => ?_)
  · rw [shape_congr k s ks _ (layF_map (·.kind) ks _ _ (fun u _ L f => lay_kind u L f) 0) (layF_map Tr.lev ks _ _ (fun u _ L f => lay_lev u L f) 0)]; exact h1
  · unfold gapsOK
    rw [Bool.or_eq_true]
    right
    rw [Bool.and_eq_true, decide_eq_true_eq, layF_len, own_len k s ks.length har (by omega), ← rown_eq k s ks.length L har, List.length_map, List.length_map, owns_len_fix]
    refine ⟨rfl, List.all_eq_true.2 fun x hx => ?_⟩
    obtain ⟨p, hp, rfl⟩ := List.mem_map.1 hx
    exact ws_triv (gapOK_fix hf (gapOK_parts k s ks.length L) p (of_owns hp))
  · obtain ⟨j, hj⟩ := List.getElem?_of_mem hu
    rw [layF_get] at hj
    obtain ⟨v, hv, rfl⟩ := Option.map_eq_some_iff.1 hj
    have hm := List.mem_of_getElem? hv
    refine ih v hm _ _ ?_ (firsts_mem ks hks v hm) (by have := sz_mem hm; omega)
    unfold gapK
    rw [List.getD_eq_getElem?_getD, List.getElem?_map]
    cases hg : (kds (fixF f (parts k s ks.length L)))[0 + j]? with
    | none => exact ws_nil
    | some p => exact gapOK_fix hf (gapOK_parts k s ks.length L) p (of_kds (List.mem_of_getElem? hg))
theorem layout_chk (t : Tr) (h : chk t = 0) (hz : sz t ≤ 1000000) : chk (layout t) = 0 := by
  obtain ⟨h1, h2, h3, h4⟩ := chk_zero t h
  unfold layout
  rw [chk_of _ (by rw [lay_szw]; exact h1) (by rw [lay_htw]; exact h2) (by rw [lay_crowd]; exact h3)]
  exact lay_first t 0 _ ws_nil h4 hz

/- ### Numbers -/
theorem lin_len {α : Type} (o1 : Nat → Part → α) (k1 : Nat → ByteArray → List α) : ∀ (ps : List Part) (o : Nat), (lin o1 k1 o ps).length = (owns ps).length + ((kds ps).map fun p => (k1 p.kid.toNat p.gap).length).sum := by
  intro ps
  induction ps with
  | nil => intro o; rfl
  | cons p ps ih =>
    intro o
    rw [lin]
    rcases split_owns p ps with ⟨hk, h1, h2⟩ | ⟨hk, h1, h2⟩
    · rw [if_pos hk, h1, h2, List.length_cons, List.length_cons, ih]; omega
    · rw [if_neg hk, h1, h2, List.length_append, ih, List.map_cons, List.sum_cons]; omega
/-- The own tokens of all nodes. -/
def many (t : Tr) : Nat := ((pre t).map fun x => (rown x.kind x.text x.kids.length).length).sum
def manys (ks : List Tr) : Nat := ((pres ks).map fun x => (rown x.kind x.text x.kids.length).length).sum
theorem manys_cons (t : Tr) (ks : List Tr) : manys (t :: ks) = many t + manys ks := by unfold manys many; rw [pres, List.map_append, List.sum_append]
theorem many_node (k : Int) (s : ByteArray) (g : List ByteArray) (ks : List Tr) : many (.node k s g ks) = (rown k s ks.length).length + manys ks := by unfold many manys; rw [pre, List.map_cons, List.sum_cons]; rfl
theorem len_kids (ks : List Tr) (L : Nat) (hC : ∀ u ∈ ks, ∀ f, (evT u L f).length = many u) : ∀ (ps : List Part) (i : Nat), ps.map (·.kid) = (List.range' i ps.length).map (fun j : Nat => (j : Int)) → i + ps.length = ks.length →
    (ps.map fun p => ((evF ks).getD p.kid.toNat (fun _ _ => []) L p.gap).length).sum = manys (ks.drop i) := by
  intro ps
  induction ps with
  | nil =>
    intro i _ h
    rw [List.drop_of_length_le (by simp at h; omega)]; rfl
  | cons p ps ih =>
    intro i hm hl
    rw [List.length_cons, List.range'_succ, List.map_cons, List.map_cons] at hm
    injection hm with e1 e2
    have hi : i < ks.length := by rw [← hl, List.length_cons]; omega
    rw [List.map_cons, List.sum_cons, ih (i + 1) e2 (by rw [← hl, List.length_cons]; omega), List.drop_eq_getElem_cons hi, manys_cons, e1, Int.toNat_natCast, evF_get ks i _ (List.getElem?_eq_getElem hi), hC _ (List.getElem_mem hi)]
theorem ev_len (t : Tr) : ∀ L f, firstE t = 0 → (evT t L f).length = many t := by
  refine Tr.ind (M := fun t => ∀ L f, firstE t = 0 → (evT t L f).length = many t) ?_ t
  intro k s g ks ih L f h
  obtain ⟨hn, hks⟩ := first_zero k s g ks h
  obtain ⟨h1, h2, h3⟩ := nodeE_zero k s g ks hn
  have har := shape_ar k s ks h1
  have hkl : (kds (fixF f (parts k s ks.length L))).length = ks.length := by
    have := congrArg List.length (fix_kids f (parts k s ks.length L))
    rw [kds_parts k s ks.length L har] at this
    simpa using this
  have hkids := len_kids ks (inside k L) (fun u hu f => ih u hu _ f (firsts_mem ks hks u hu)) (kds (fixF f (parts k s ks.length L))) 0 (by rw [fix_kids, kds_parts k s ks.length L har, hkl]) (by rw [hkl]; omega)
  rw [evT_node, lin_len, many_node, hkids, List.drop_zero, owns_len_fix, ← rown_eq k s ks.length L har, List.length_map]
end Go.Proofs.YtiaajpdcacdngaaGreatDoor.Pl

namespace Go.Proofs.YtiaajpdcacdngaaGreatDoor.Pl
open Go
set_option linter.unusedVariables false
set_option linter.unusedSimpArgs false

theorem tok_le {x : ByteArray} (h : IsTok x) : x.size ≤ 32 := by
  obtain ⟨k, hk⟩ := h
  rw [Lib.size_eq]
  rcases whole_cases _ k hk with ⟨c, t, e, ha, hk⟩ | ⟨rfl, e | e | e | ⟨c, e, hc⟩⟩
  · rcases hk with ⟨_, hi, _⟩ | ⟨_, hl, _⟩
    · rcases Nat.lt_or_ge 13 (x.data.toList).length with h | h
      · exact absurd (isInt_long _ h) (by rw [hi]; simp)
      · omega
    · exact hl
  all_goals (rw [e]; simp)
theorem wordsOK_mem (l : List Wd) (h : WordsOK l) : ∀ w ∈ l, IsTok w.text ∨ w.text = ⟨#[]⟩ := by
  induction l with
  | nil => intro w hw; cases hw
  | cons a l ih =>
    obtain ⟨_, h2⟩ := h
    intro w hw
    rcases h2 with ⟨h2, h3⟩ | ⟨h2, rfl⟩
    · rcases List.mem_cons.1 hw with rfl | hw
      · exact .inl h2
      · exact ih h3 w hw
    · obtain rfl := List.mem_singleton.1 hw
      exact .inr h2
theorem words_le (t : Tr) (h : firstE t = 0) (hz : sz t ≤ 1000000) : ∀ x ∈ words t, x.size ≤ 32 := by
  intro x hx
  obtain ⟨w, hw, rfl⟩ := List.mem_map.1 hx
  rcases wordsOK_mem _ (tree_words t h hz).1 w hw with h | h
  · exact tok_le h
  · show w.text.size ≤ 32
    rw [h]; decide
theorem manys_le (ks : List Tr) (h : ∀ u ∈ ks, many u + 1 ≤ 5 * sz u) : manys ks + ks.length ≤ 5 * szs ks := by
  induction ks with
  | nil => exact Nat.le_refl _
  | cons t ts ih =>
    rw [manys_cons, szs, List.length_cons]
    have := h t (by simp)
    have := ih (fun u hu => h u (by simp [hu]))
    omega
theorem many_le (t : Tr) : firstE t = 0 → many t + 1 ≤ 5 * sz t := by
  refine Tr.ind (M := fun t => firstE t = 0 → many t + 1 ≤ 5 * sz t) (fun k s g ks ih h => ?_) t
  obtain ⟨hn, hks⟩ := first_zero k s g ks h
  obtain ⟨h1, h2, h3⟩ := nodeE_zero k s g ks hn
  have har := shape_ar k s ks h1
  have := manys_le ks (fun u hu => ih u hu (firsts_mem ks hks u hu))
  have := (rown_size k s ks.length har).2
  rw [many_node, sz]
  omega
theorem words_len (t : Tr) (h : firstE t = 0) : (words t).length = many t := by unfold words; rw [List.length_map]; exact ev_len t 0 _ h
theorem chk_ht (t : Tr) (h : chk t = 0) (hz : sz t ≤ 1000000) : ht t ≤ 60 := by
  have := (chk_zero t h).2.1
  rw [htw_eq t (by omega)] at this
  omega
end Go.Proofs.YtiaajpdcacdngaaGreatDoor.Pl
