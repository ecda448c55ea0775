/- How long the source of a tree of moderate size is. -/
import Derived.Test.YtiaajpdcacdngaaGreatDoorPWords
namespace Go.Proofs.YtiaajpdcacdngaaGreatDoor.Pl
open Go
set_option linter.unusedVariables false
set_option linter.unusedSimpArgs false

mutual
/-- The bytes of all texts and gaps. -/
def wt : Tr → Nat
  | .node _ s g ks => s.size + (g.map (·.size)).sum + wts ks
def wts : List Tr → Nat
  | [] => 0
  | t :: ts => wt t + wts ts
end
def cost : List Wd → Nat
  | [] => 0
  | w :: ws => 1 + (gapW w).size + w.text.size + cost ws
theorem cost_append (a b : List Wd) : cost (a ++ b) = cost a + cost b := by
  induction a with
  | nil => simp [cost]
  | cons w a ih => rw [List.cons_append, cost, cost, ih]; omega
theorem src_len (ws : List Wd) : ∀ last, (src last ws).length ≤ cost ws := by
  induction ws with
  | nil => intro last; simp [src, cost]
  | cons w ws ih =>
    intro last
    have := ih w.text
    rw [src, cost, List.length_append]
    unfold piece
    rw [List.length_append, List.length_append, ← Lib.size_eq, ← Lib.size_eq]
    split <;> simp only [List.length_cons, List.length_nil] <;> omega
/-- The gaps of all parts. -/
def gsum (ps : List Part) : Nat := (ps.map (·.gap.size)).sum
def tsum (ps : List Part) : Nat := (ps.map (·.text.size)).sum
theorem gsum_append (a b : List Part) : gsum (a ++ b) = gsum a + gsum b := by unfold gsum; rw [List.map_append, List.sum_append]
theorem gsum_cons (p : Part) (a : List Part) : gsum (p :: a) = p.gap.size + gsum a := by unfold gsum; rw [List.map_cons, List.sum_cons]
theorem gsum_nil : gsum [] = 0 := rfl
theorem tsum_append (a b : List Part) : tsum (a ++ b) = tsum a + tsum b := by unfold tsum; rw [List.map_append, List.sum_append]
theorem tsum_cons (p : Part) (a : List Part) : tsum (p :: a) = p.text.size + tsum a := by unfold tsum; rw [List.map_cons, List.sum_cons]
theorem tsum_nil : tsum [] = 0 := rfl
theorem gsum_fix (f : ByteArray) (ps : List Part) : gsum (fixF f ps) ≤ f.size + gsum ps := by
  cases ps with
  | nil => exact Nat.zero_le _
  | cons p ps => show gsum (⟨f, p.text, p.kid⟩ :: ps) ≤ _; rw [gsum_cons, gsum_cons]; simp only; omega
theorem split_owns (p : Part) (ps : List Part) : (p.kid = -1 ∧ owns (p :: ps) = p :: owns ps ∧ kds (p :: ps) = kds ps) ∨ (p.kid ≠ -1 ∧ owns (p :: ps) = owns ps ∧ kds (p :: ps) = p :: kds ps) := by
  by_cases hk : p.kid = -1
  · exact .inl ⟨hk, by unfold owns; rw [List.filter_cons, if_pos (by simpa using hk)], by unfold kds; rw [List.filter_cons, if_neg (by simpa using hk)]⟩
  · exact .inr ⟨hk, by unfold owns; rw [List.filter_cons, if_neg (by simpa using hk)], by unfold kds; rw [List.filter_cons, if_pos (by simpa using hk)]⟩
theorem gsum_split (ps : List Part) : gsum ps = gsum (owns ps) + gsum (kds ps) := by
  induction ps with
  | nil => rfl
  | cons p ps ih =>
    rcases split_owns p ps with ⟨_, h1, h2⟩ | ⟨_, h1, h2⟩ <;> rw [h1, h2, gsum_cons, gsum_cons, ih] <;> omega
theorem gap_drop (g : List ByteArray) (o : Nat) (gap text : ByteArray) (m : Nat) : (gapW ⟨o, gap, text, g⟩).size + ((g.drop (o + 1)).map (·.size)).sum ≤ gap.size + ((g.drop o).map (·.size)).sum := by
  unfold gapW
  simp only
  by_cases h0 : g.length = 0
  · rw [if_pos h0]
    obtain rfl := List.length_eq_zero_iff.1 h0
    simp
  · rw [if_neg h0]
    by_cases ho : o < g.length
    · rw [List.drop_eq_getElem_cons ho, List.map_cons, List.sum_cons, List.getD_eq_getElem?_getD, List.getElem?_eq_getElem ho]
      show g[o].size + _ ≤ _
      omega
    · rw [List.getD_eq_getElem?_getD, List.getElem?_eq_none (by omega), List.drop_of_length_le (by omega), List.drop_of_length_le (by omega)]
      show (⟨#[]⟩ : ByteArray).size + _ ≤ _
      show 0 + _ ≤ _
      omega
theorem cost_lin (g : List ByteArray) (kid : Nat → ByteArray → List Wd) : ∀ (ps : List Part) (o : Nat),
    cost (lin (fun o p => ⟨o, p.gap, p.text, g⟩) kid o ps) ≤ (owns ps).length + gsum (owns ps) + tsum (owns ps) + ((g.drop o).map (·.size)).sum + ((kds ps).map fun p => cost (kid p.kid.toNat p.gap)).sum := by
  intro ps
  induction ps with
  | nil => intro o; exact Nat.zero_le _
  | cons p ps ih =>
    intro o
    rw [lin]
    rcases split_owns p ps with ⟨hk, h1, h2⟩ | ⟨hk, h1, h2⟩
    · rw [if_pos hk, cost, h1, h2, List.length_cons, gsum_cons, tsum_cons]
      have := ih (o + 1)
      have := gap_drop g o p.gap p.text 0
      simp only at this ⊢
      omega
    · rw [if_neg hk, cost_append, h1, h2, List.map_cons, List.sum_cons]
      have := ih o
      omega

/- ### The constants -/
theorem gsum_rep (g : ByteArray) (n : Nat) (p : Part) (h : p.gap = g) : gsum (List.replicate n p) = n * g.size := by
  induction n with
  | zero => simp [gsum]
  | succ n ih => rw [List.replicate_succ, gsum_cons, ih, h, Nat.succ_mul]; omega
theorem gsum_kidsP (first n : Nat) (g : ByteArray) : gsum (kidsP first n g) = (n - first) * g.size := by
  unfold kidsP
  generalize hl : List.range' first (n - first) = l
  have hlen : l.length = n - first := by rw [← hl]; simp
  rw [← hlen]
  clear hl hlen
  induction l with
  | nil => simp [gsum]
  | cons a l ih => rw [List.map_cons, gsum_cons, ih, List.length_cons, Nat.succ_mul]; show g.size + _ = _; omega
theorem gsum_ckids (first n : Nat) : gsum (ckids first n) ≤ n - first := by
  unfold ckids
  generalize hl : List.range' first (n - first) = l
  have hlen : l.length = n - first := by rw [← hl]; simp
  rw [← hlen]
  clear hl hlen
  induction l with
  | nil => simp [gsum]
  | cons a l ih =>
    rw [List.map_cons, gsum_cons, List.length_cons]
    have : (pkid (if first < a then ⟨#[32]⟩ else ⟨#[]⟩) (a : Nat)).gap.size ≤ 1 := by
      show (if first < a then (⟨#[32]⟩ : ByteArray) else ⟨#[]⟩).size ≤ 1
      split <;> decide
    omega
theorem nl_size (n : Nat) : (nl n).size = n + 1 := by unfold nl; rw [mk_size, List.length_cons, List.length_replicate]
theorem gown_listP (first n : Nat) : gsum (owns (listP first n)) = 0 := by
  rw [owns_listP, gsum_cons, gsum_append, gsum_rep ⟨#[]⟩ _ _ rfl, gsum_cons]
  show 0 + ((n - first - 1) * 0 + (0 + 0)) = 0
  omega
theorem gown_bodyP (first n L : Nat) : gsum (owns (bodyP first n L)) ≤ L + 1 := by
  rw [owns_bodyP, gsum_cons]
  show (if n ≤ first then (⟨#[]⟩ : ByteArray) else nl L).size + 0 ≤ _
  split
  · exact Nat.zero_le _
  · rw [nl_size]; exact Nat.le_refl _
theorem gkid_bodyP (first n L : Nat) : gsum (kds (bodyP first n L)) = (n - first) * (L + 2) := by
  rw [kds_bodyP, gsum_kidsP, nl_size]
theorem rown_size (k : Int) (s : ByteArray) (n : Nat) (h : Ar k n) : ((rown k s n).map (·.size)).sum ≤ 12 + n + s.size ∧ (rown k s n).length ≤ n + 4 := by
  have rl : ∀ (l : List ByteArray) (m : Nat), ((rlist l m).map (·.size)).sum = (l.map (·.size)).sum + (m - 1) + 1 ∧ (rlist l m).length = l.length + (m - 1) + 1 := fun l m => by
    unfold rlist
    rw [List.map_append, List.map_append, List.sum_append, List.sum_append, List.map_replicate, List.sum_replicate_nat]
    refine ⟨?_, by simp only [List.length_append, List.length_replicate, List.length_cons, List.length_nil]⟩
    show _ + (m - 1) * 1 + (1 + 0) = _
    omega
  rcases kinds k ⟨h.lo, h.hi⟩ with rfl | rfl | rfl | rfl | rfl | rfl | rfl | rfl | rfl | rfl | rfl | rfl | rfl | rfl | rfl | rfl | rfl | rfl | rfl | rfl | rfl | rfl | rfl | rfl | rfl | rfl
  case inr.inr.inl =>
    have e : rown 3 s n = rlist [⟨#[40]⟩] n := rfl
    rw [e, (rl _ _).1, (rl _ _).2]
    show (1 + 0) + (n - 1) + 1 ≤ _ ∧ 1 + (n - 1) + 1 ≤ _
    omega
  case inr.inr.inr.inr.inr.inr.inr.inl =>
    have e : rown 8 s n = if s.size = 0 then [] else [⟨#[58]⟩, s] := rfl
    rw [e]
    split
    · simp
    · show 1 + (s.size + 0) ≤ _ ∧ 2 ≤ _; omega
  case inr.inr.inr.inr.inr.inr.inr.inr.inr.inr.inr.inr.inr.inl =>
    have e : rown 14 s n = if n = 0 then [] else [⟨#[101, 108, 115, 101]⟩] := rfl
    rw [e]
    split
    · simp
    · show 4 + 0 ≤ _ ∧ 1 ≤ _; omega
  case inr.inr.inr.inr.inr.inr.inr.inr.inr.inr.inr.inr.inr.inr.inr.inr.inr.inr.inr.inl =>
    have e : rown 20 s n = rlist [s, ⟨#[40]⟩] n := rfl
    rw [e, (rl _ _).1, (rl _ _).2]
    show (s.size + (1 + 0)) + (n - 1) + 1 ≤ _ ∧ 2 + (n - 1) + 1 ≤ _
    omega
  case inr.inr.inr.inr.inr.inr.inr.inr.inr.inr.inr.inr.inr.inr.inr.inr.inr.inr.inr.inr.inl =>
    have e : rown 21 s n = rlist [⟨#[46]⟩, s, ⟨#[40]⟩] (n - 1) := rfl
    rw [e, (rl _ _).1, (rl _ _).2]
    have := h.ap (.inr rfl)
    show (1 + (s.size + (1 + 0))) + (n - 1 - 1) + 1 ≤ _ ∧ 3 + (n - 1 - 1) + 1 ≤ _
    omega
  case inl => show 0 + 0 ≤ _ ∧ 1 ≤ _; omega
  case inr.inl => show 2 + (s.size + 0) ≤ _ ∧ 2 ≤ _; omega
  case inr.inr.inr.inl => show (s.size + 0) ≤ _ ∧ 1 ≤ _; omega
  case inr.inr.inr.inr.inl => show (s.size + 0) ≤ _ ∧ 1 ≤ _; omega
  case inr.inr.inr.inr.inr.inl => show 1 + (1 + 0) ≤ _ ∧ 2 ≤ _; omega
  case inr.inr.inr.inr.inr.inr.inl => show 5 + (s.size + (1 + (1 + 0))) ≤ _ ∧ 4 ≤ _; omega
  case inr.inr.inr.inr.inr.inr.inr.inr.inl => show 5 + (s.size + (1 + (1 + 0))) ≤ _ ∧ 4 ≤ _; omega
  case inr.inr.inr.inr.inr.inr.inr.inr.inr.inl => show 3 + (s.size + (1 + (1 + 0))) ≤ _ ∧ 4 ≤ _; omega
  case inr.inr.inr.inr.inr.inr.inr.inr.inr.inr.inl => show s.size + (1 + (1 + 0)) ≤ _ ∧ 3 ≤ _; omega
  case inr.inr.inr.inr.inr.inr.inr.inr.inr.inr.inr.inl => show 6 + (1 + 0) ≤ _ ∧ 2 ≤ _; omega
  case inr.inr.inr.inr.inr.inr.inr.inr.inr.inr.inr.inr.inl => show 2 + 0 ≤ _ ∧ 1 ≤ _; omega
  case inr.inr.inr.inr.inr.inr.inr.inr.inr.inr.inr.inr.inr.inr.inl => show 5 + 0 ≤ _ ∧ 1 ≤ _; omega
  case inr.inr.inr.inr.inr.inr.inr.inr.inr.inr.inr.inr.inr.inr.inr.inl => show 1 + 0 ≤ _ ∧ 1 ≤ _; omega
  case inr.inr.inr.inr.inr.inr.inr.inr.inr.inr.inr.inr.inr.inr.inr.inr.inl => show s.size + 0 ≤ _ ∧ 1 ≤ _; omega
  case inr.inr.inr.inr.inr.inr.inr.inr.inr.inr.inr.inr.inr.inr.inr.inr.inr.inl => show s.size + 0 ≤ _ ∧ 1 ≤ _; omega
  case inr.inr.inr.inr.inr.inr.inr.inr.inr.inr.inr.inr.inr.inr.inr.inr.inr.inr.inl => show s.size + 0 ≤ _ ∧ 1 ≤ _; omega
  case inr.inr.inr.inr.inr.inr.inr.inr.inr.inr.inr.inr.inr.inr.inr.inr.inr.inr.inr.inr.inr.inl => show 3 + (s.size + (1 + (1 + 0))) ≤ _ ∧ 4 ≤ _; omega
  case inr.inr.inr.inr.inr.inr.inr.inr.inr.inr.inr.inr.inr.inr.inr.inr.inr.inr.inr.inr.inr.inr.inr.inr.inr => show 1 + (1 + 0) ≤ _ ∧ 2 ≤ _; omega
  all_goals (show s.size + 0 ≤ _ ∧ 1 ≤ _; omega)
/-- The gaps of the parts of a node. -/
theorem gsum_parts (k : Int) (s : ByteArray) (n L : Nat) (h : Ar k n) : gsum (parts k s n L) ≤ n * (L + 2) + (L + 1) + 6 := by
  have hmul : ∀ m, m ≤ n → m * (L + 2) ≤ n * (L + 2) := fun m hm => Nat.mul_le_mul_right _ hm
  have h2 : 2 * n ≤ n * (L + 2) := by rw [Nat.mul_add]; have := Nat.zero_le (n * L); omega
  have z0 : ∀ g, pkid g 0 = pkid g ((0 : Nat) : Int) := fun g => rfl
  rw [gsum_split]
  rcases kinds k ⟨h.lo, h.hi⟩ with rfl | rfl | rfl | rfl | rfl | rfl | rfl | rfl | rfl | rfl | rfl | rfl | rfl | rfl | rfl | rfl | rfl | rfl | rfl | rfl | rfl | rfl | rfl | rfl | rfl | rfl
  · show gsum (owns (kidsP 0 n _ ++ _)) + gsum (kds (kidsP 0 n _ ++ _)) ≤ _
    rw [owns_append, owns_kidsP, kds_append, kds_kidsP, kds_own, kds_nil, List.append_nil, gsum_kidsP]
    show (1 + 0) + (n - 0) * 2 ≤ _
    omega
  · show (0 + (1 + 0)) + (0 + (1 + (1 + 0))) ≤ _; omega
  · show gsum (owns (listP 0 n)) + gsum (kds (listP 0 n)) ≤ _
    have := gsum_ckids 0 n
    rw [gown_listP, kds_listP]; omega
  · show (0 + 0) + (1 + 0) ≤ _; omega
  · show (0 + 0) + 0 ≤ _; omega
  · show gsum (owns (pown _ _ :: bodyP 0 n L)) + gsum (kds (pown _ _ :: bodyP 0 n L)) ≤ _
    rw [owns_own, kds_own, gkid_bodyP, gsum_cons]
    have := gown_bodyP 0 n L
    show (0 + _) + _ ≤ _
    rw [Nat.sub_zero]
    omega
  · show gsum (owns ([_, _, _, _] ++ bodyP 1 n L)) + gsum (kds ([_, _, _, _] ++ bodyP 1 n L)) ≤ _
    rw [owns_append, kds_append, gsum_append, gsum_append, gkid_bodyP]
    have := gown_bodyP 1 n L
    have := hmul (n - 1) (by omega)
    show (0 + (1 + (1 + 0))) + _ + ((1 + 0) + _) ≤ _
    omega
  · show gsum (owns (if s.size = 0 then [] else _)) + gsum (kds (if s.size = 0 then [] else _)) ≤ _
    split
    · exact Nat.zero_le _
    · show (0 + (1 + 0)) + 0 ≤ _; omega
  · show (0 + (1 + (1 + (0 + 0)))) + (1 + 0) ≤ _; omega
  · show (0 + (1 + (1 + (0 + 0)))) + (1 + 0) ≤ _; omega
  · show ((1 + (1 + (0 + 0)))) + (1 + 0) ≤ _; omega
  · show (0 + (0 + 0)) + (1 + 0) ≤ _; omega
  · show gsum (owns (pown _ _ :: kidsP 0 n _)) + gsum (kds (pown _ _ :: kidsP 0 n _)) ≤ _
    rw [owns_own, owns_kidsP, kds_own, kds_kidsP, gsum_kidsP]
    show (0 + 0) + (n - 0) * 1 ≤ _
    omega
  · show gsum (owns (if n = 0 then [] else pown _ _ :: kidsP 0 n _)) + gsum (kds (if n = 0 then [] else pown _ _ :: kidsP 0 n _)) ≤ _
    split
    · exact Nat.zero_le _
    · rw [owns_own, owns_kidsP, kds_own, kds_kidsP, gsum_kidsP]
      show (0 + 0) + (n - 0) * 1 ≤ _
      omega
  · show gsum (owns (pown _ _ :: kidsP 0 n _)) + gsum (kds (pown _ _ :: kidsP 0 n _)) ≤ _
    rw [owns_own, owns_kidsP, kds_own, kds_kidsP, gsum_kidsP]
    show (0 + 0) + (n - 0) * 1 ≤ _
    omega
  · show (0 + 0) + (0 + 0) ≤ _; omega
  · show (0 + 0) + 0 ≤ _; omega
  · show (0 + 0) + 0 ≤ _; omega
  · show (0 + 0) + 0 ≤ _; omega
  · show gsum (owns (pown _ _ :: listP 0 n)) + gsum (kds (pown _ _ :: listP 0 n)) ≤ _
    have := gsum_ckids 0 n
    rw [owns_own, kds_own, kds_listP, gsum_cons, gown_listP]
    show (0 + 0) + _ ≤ _
    omega
  · show gsum (owns ([_, _, _] ++ listP 1 n)) + gsum (kds ([_, _, _] ++ listP 1 n)) ≤ _
    have := gsum_ckids 1 n
    rw [owns_append, kds_append, gsum_append, gsum_append, kds_listP, gown_listP]
    show (0 + (0 + 0)) + 0 + ((0 + 0) + _) ≤ _
    omega
  · show gsum (owns ([_, _] ++ listP 0 n)) + gsum (kds ([_, _] ++ listP 0 n)) ≤ _
    have := gsum_ckids 0 n
    rw [owns_append, kds_append, gsum_append, gsum_append, kds_listP, gown_listP]
    show (0 + (1 + 0)) + 0 + (0 + _) ≤ _
    omega
  · show (0 + 0) + 0 ≤ _; omega
  · show (1 + 0) + (0 + (1 + 0)) ≤ _; omega
  · show (0 + 0) + (0 + 0) ≤ _; omega
  · show (0 + (0 + 0)) + (0 + 0) ≤ _; omega

/- ### The bound -/
theorem cost_kids (ks : List Tr) (L C : Nat) (hC : ∀ u ∈ ks, ∀ f, cost (evT u L f) + 100 ≤ f.size + C * sz u + wt u) : ∀ (ps : List Part) (i : Nat), ps.map (·.kid) = (List.range' i ps.length).map (fun j : Nat => (j : Int)) → i + ps.length = ks.length →
    (ps.map fun p => cost ((evF ks).getD p.kid.toNat (fun _ _ => []) L p.gap)).sum + 100 * ps.length ≤ gsum ps + C * szs (ks.drop i) + wts (ks.drop i) := by
  intro ps
  induction ps with
  | nil => intro i _ _; exact Nat.zero_le _
  | cons p ps ih =>
    intro i hm hl
    rw [List.length_cons, List.range'_succ, List.map_cons, List.map_cons] at hm
    injection hm with e1 e2
    have hi : i < ks.length := by rw [← hl, List.length_cons]; omega
    have := ih (i + 1) e2 (by rw [← hl, List.length_cons]; omega)
    rw [List.map_cons, List.sum_cons, gsum_cons, List.length_cons, List.drop_eq_getElem_cons hi, szs, wts, e1, Int.toNat_natCast, evF_get ks i _ (List.getElem?_eq_getElem hi), Nat.mul_add C]
    have := hC _ (List.getElem_mem hi) p.gap
    omega
theorem cost_tree (t : Tr) : ∀ L f, firstE t = 0 → L + ht t ≤ 61 → cost (evT t L f) + 100 ≤ f.size + 250 * sz t + wt t := by
  refine Tr.ind (M := fun t => ∀ L f, firstE t = 0 → L + ht t ≤ 61 → cost (evT t L f) + 100 ≤ f.size + 250 * sz t + wt t) ?_ t
  intro k s g ks ih L f h hL
  obtain ⟨hn, hks⟩ := first_zero k s g ks h
  obtain ⟨h1, h2, h3⟩ := nodeE_zero k s g ks hn
  have har := shape_ar k s ks h1
  rw [ht] at hL
  have hin : inside k L + hts ks ≤ 61 := by unfold inside; split <;> omega
  have hkids := cost_kids ks (inside k L) 250 (fun u hu f => ih u hu _ f (firsts_mem ks hks u hu) (by have := hts_mem hu; omega)) (kds (fixF f (parts k s ks.length L))) 0
  have hkl : (kds (fixF f (parts k s ks.length L))).length = ks.length := by
    have := congrArg List.length (fix_kids f (parts k s ks.length L))
    rw [kds_parts k s ks.length L har] at this
    simpa using this
  have hkids := hkids (by rw [fix_kids, kds_parts k s ks.length L har, hkl]) (by rw [hkl]; omega)
  rw [evT, sz, wt]
  have hc := cost_lin g (fun j gp => (evF ks).getD j (fun _ _ => []) (inside k L) gp) (fixF f (parts k s ks.length L)) 0
  have hg1 := gsum_fix f (parts k s ks.length L)
  have hg2 := gsum_parts k s ks.length L har
  rw [gsum_split] at hg1
  have ht1 : tsum (owns (fixF f (parts k s ks.length L))) = ((rown k s ks.length).map (·.size)).sum := by
    unfold tsum
    rw [show (fun p : Part => p.text.size) = (fun x : ByteArray => x.size) ∘ (fun p : Part => p.text) from rfl, ← List.map_map, owns_fix_text, rown_eq k s ks.length L har]
  have hlen : (owns (fixF f (parts k s ks.length L))).length = (rown k s ks.length).length := by
    rw [← rown_eq k s ks.length L har, ← owns_fix_text f, List.length_map]
  obtain ⟨r1, r2⟩ := rown_size k s ks.length har
  rw [List.drop_zero] at hc hkids
  have hLn : ks.length * (L + 2) ≤ ks.length * 62 := Nat.mul_le_mul_left _ (by omega)
  rw [hkl] at hkids
  simp only at hc ⊢
  omega
/-- Trees of moderate size: the source is short. -/
theorem source_len (t : Tr) (h : firstE t = 0) (h1 : ht t ≤ 60) (h2 : sz t ≤ 250) (h3 : wt t ≤ 3000) : (source t).length ≤ 65536 := by
  have h4 := src_len (evT t 0 ⟨#[]⟩) ⟨#[]⟩
  have h5 := cost_tree t 0 ⟨#[]⟩ h (by omega)
  unfold source
  have : (⟨#[]⟩ : ByteArray).size = 0 := rfl
  omega
end Go.Proofs.YtiaajpdcacdngaaGreatDoor.Pl
