/- What the parts of a well-formed node are, kind by kind. -/
import Derived.Test.YtiaajpdcacdngaaGreatDoorPParts
import Derived.IntWalk
namespace Go.Proofs.YtiaajpdcacdngaaGreatDoor.Pl
open Go
set_option linter.unusedVariables false
set_option linter.unusedSimpArgs false

/- ### How many kids -/
/-- The numbers of kids that the parts ask for. -/
structure Ar (k : Int) (n : Nat) : Prop where
  lo : 1 ≤ k
  hi : k ≤ 26
  a2 : k = 2 ∨ k = 13 → n = 3
  a1 : k = 4 ∨ k = 9 ∨ k = 10 ∨ k = 11 ∨ k = 12 ∨ k = 16 ∨ k = 25 ∨ k = 26 → n = 1
  a0 : k = 5 ∨ k = 8 ∨ k = 17 ∨ k = 18 ∨ k = 19 ∨ k = 22 ∨ k = 23 → n = 0
  ap : k = 7 ∨ k = 21 → 1 ≤ n
  ae : k = 14 → n ≤ 1
  at2 : k = 15 ∨ k = 24 → n = 2
theorem shape_ar (k : Int) (s : ByteArray) (ks : List Tr) (h : shape k s ks = true) : Ar k ks.length := by
  obtain ⟨⟨h1, h26⟩, hl, hf, _, _⟩ := shape_parts k s ks h
  have hg := fitA_get k ks 0 hf
  have top : ∀ m, m < ks.length → ∃ kid, FitsP k m kid := fun m hm => by
    have := hg m _ (List.getElem?_eq_getElem hm)
    unfold fits at this
    rw [Nat.zero_add] at this
    exact ⟨_, of_decide_eq_true this⟩
  have no : ∀ m : Nat, (∀ kid, ¬ FitsP k m kid) → ks.length ≤ m := fun m hm => by
    rcases Nat.lt_or_ge m ks.length with h | h
    · obtain ⟨kid, hk⟩ := top m h
      exact absurd hk (hm kid)
    · exact h
  unfold least at hl
  refine ⟨h1, h26, fun h => ?_, fun h => ?_, fun h => ?_, fun h => ?_, fun h => ?_, fun h => ?_⟩
  · have := no 3 (fun kid => by unfold FitsP; omega)
    split at hl <;> omega
  · have := no 1 (fun kid => by unfold FitsP; omega)
    split at hl <;> (try split at hl) <;> (try split at hl) <;> omega
  · have := no 0 (fun kid => by unfold FitsP; omega)
    omega
  · split at hl <;> (try split at hl) <;> (try split at hl) <;> omega
  · exact no 1 (fun kid => by unfold FitsP; omega)
  · have := no 2 (fun kid => by unfold FitsP; omega)
    split at hl <;> (try split at hl) <;> (try split at hl) <;> omega

/- ### The kids in their order -/
theorem kds_append (a b : List Part) : kds (a ++ b) = kds a ++ kds b := List.filter_append ..
theorem kid_own (g t : ByteArray) : (pown g t).kid = -1 := rfl
theorem kid_kid (g : ByteArray) (i : Int) : (pkid g i).kid = i := rfl
theorem owns_own (g t : ByteArray) (ps : List Part) : owns (pown g t :: ps) = pown g t :: owns ps := by unfold owns; rw [List.filter_cons, if_pos (by simp [kid_own])]
theorem owns_kid (g : ByteArray) (i : Nat) (ps : List Part) : owns (pkid g (i : Int) :: ps) = owns ps := by
  unfold owns; rw [List.filter_cons, if_neg (by simp [kid_kid] <;> omega)]
theorem kds_own (g t : ByteArray) (ps : List Part) : kds (pown g t :: ps) = kds ps := by unfold kds; rw [List.filter_cons, if_neg (by simp [kid_own])]
theorem kds_kid (g : ByteArray) (i : Nat) (ps : List Part) : kds (pkid g (i : Int) :: ps) = pkid g (i : Int) :: kds ps := by
  unfold kds; rw [List.filter_cons, if_pos (by simp [kid_kid] <;> omega)]
theorem owns_nil : owns [] = [] := rfl
theorem kds_nil : kds [] = [] := rfl
theorem owns_kidsP (first n : Nat) (g : ByteArray) : owns (kidsP first n g) = [] := by
  unfold kidsP
  generalize List.range' first (n - first) = l
  induction l with
  | nil => rfl
  | cons a l ih => rw [List.map_cons, owns_kid, ih]
theorem kds_kidsP (first n : Nat) (g : ByteArray) : kds (kidsP first n g) = kidsP first n g := by
  unfold kidsP
  generalize List.range' first (n - first) = l
  induction l with
  | nil => rfl
  | cons a l ih => rw [List.map_cons, kds_kid, ih]
/-- The kids of a list with commas. -/
def ckids (first n : Nat) : List Part := (List.range' first (n - first)).map fun i => pkid (if first < i then ⟨#[32]⟩ else ⟨#[]⟩) (i : Nat)
theorem kds_commasP (first n : Nat) : kds (commasP first n) = ckids first n := by
  unfold commasP ckids
  generalize List.range' first (n - first) = l
  induction l with
  | nil => rfl
  | cons a l ih =>
    rw [List.flatMap_cons, kds_append, ih, List.map_cons]
    by_cases h : first < a
    · rw [if_pos h, if_pos h, kds_own, kds_kid]; rfl
    · rw [if_neg h, if_neg h, kds_kid]; rfl
theorem owns_commas (first : Nat) (l : List Nat) : owns (l.flatMap fun i => if first < i then [pown ⟨#[]⟩ ⟨#[44]⟩, pkid ⟨#[32]⟩ (i : Nat)] else [pkid ⟨#[]⟩ (i : Nat)]) = List.replicate (l.filter fun i => decide (first < i)).length (pown ⟨#[]⟩ ⟨#[44]⟩) := by
  induction l with
  | nil => rfl
  | cons a l ih =>
    rw [List.flatMap_cons, owns_append, ih, List.filter_cons]
    by_cases h : first < a
    · rw [if_pos h, if_pos (by simpa using h), owns_own, owns_kid]; rfl
    · rw [if_neg h, if_neg (by simpa using h), owns_kid]; rfl
theorem filter_range (first m : Nat) : ((List.range' (first + 1) m).filter fun i => decide (first < i)).length = m := by
  rw [List.filter_eq_self.2 (fun i hi => by simp [List.mem_range'_1] at hi ⊢; omega)]; simp
theorem owns_commasP (first n : Nat) : owns (commasP first n) = List.replicate (n - first - 1) (pown ⟨#[]⟩ ⟨#[44]⟩) := by
  unfold commasP
  rw [owns_commas]
  congr 1
  obtain ⟨m, hm⟩ : ∃ m, m = n - first := ⟨_, rfl⟩
  rw [← hm]
  cases m with
  | zero => rfl
  | succ m =>
    rw [List.range'_succ, List.filter_cons, if_neg (by simp), filter_range]; rfl
theorem owns_listP (first n : Nat) : owns (listP first n) = pown ⟨#[]⟩ ⟨#[40]⟩ :: (List.replicate (n - first - 1) (pown ⟨#[]⟩ ⟨#[44]⟩) ++ [pown ⟨#[]⟩ ⟨#[41]⟩]) := by
  unfold listP; rw [owns_own, owns_append, owns_commasP, owns_own]; rfl
theorem kds_listP (first n : Nat) : kds (listP first n) = ckids first n := by
  unfold listP; rw [kds_own, kds_append, kds_commasP, kds_own, kds_nil, List.append_nil]
theorem owns_bodyP (first n L : Nat) : owns (bodyP first n L) = [pown (if n ≤ first then ⟨#[]⟩ else nl L) ⟨#[125]⟩] := by
  unfold bodyP
  split
  · rfl
  · rw [owns_append, owns_kidsP]; rfl
theorem kds_bodyP (first n L : Nat) : kds (bodyP first n L) = kidsP first n (nl (L + 1)) := by
  unfold bodyP
  split
  · rename_i h
    unfold kidsP
    rw [show n - first = 0 from by omega]; rfl
  · rw [kds_append, kds_kidsP, kds_own, kds_nil, List.append_nil]
theorem kidsP_kids (first n : Nat) (g : ByteArray) : (kidsP first n g).map (·.kid) = (List.range' first (n - first)).map fun i : Nat => (i : Int) := by
  unfold kidsP; rw [List.map_map]; rfl
theorem ckids_kids (first n : Nat) : (ckids first n).map (·.kid) = (List.range' first (n - first)).map fun i : Nat => (i : Int) := by
  unfold ckids; rw [List.map_map]; rfl
theorem kidsP_zero (n : Nat) (g : ByteArray) (h : n = 0) : kidsP 0 n g = [] := by subst h; rfl

/-- The kinds, one by one. -/
theorem kinds (k : Int) (h : 1 ≤ k ∧ k ≤ 26) : k = 1 ∨ k = 2 ∨ k = 3 ∨ k = 4 ∨ k = 5 ∨ k = 6 ∨ k = 7 ∨ k = 8 ∨ k = 9 ∨ k = 10 ∨ k = 11 ∨ k = 12 ∨ k = 13 ∨ k = 14 ∨ k = 15 ∨ k = 16 ∨ k = 17 ∨ k = 18 ∨ k = 19 ∨ k = 20 ∨ k = 21 ∨ k = 22 ∨ k = 23 ∨ k = 24 ∨ k = 25 ∨ k = 26 := by omega

/- ### The kids -/
theorem range'_cons (n : Nat) (h : 1 ≤ n) : List.range' 0 n = 0 :: List.range' 1 (n - 1) := by
  obtain ⟨m, rfl⟩ : ∃ m, n = m + 1 := ⟨n - 1, by omega⟩
  rw [List.range'_succ]; rfl
theorem kds_parts (k : Int) (s : ByteArray) (n L : Nat) (h : Ar k n) : (kds (parts k s n L)).map (·.kid) = (List.range' 0 n).map fun i : Nat => (i : Int) := by
  have z0 : ∀ g, pkid g 0 = pkid g ((0 : Nat) : Int) := fun g => rfl
  have z1 : ∀ g, pkid g 1 = pkid g ((1 : Nat) : Int) := fun g => rfl
  have z2 : ∀ g, pkid g 2 = pkid g ((2 : Nat) : Int) := fun g => rfl
  rcases kinds k ⟨h.lo, h.hi⟩ with rfl | rfl | rfl | rfl | rfl | rfl | rfl | rfl | rfl | rfl | rfl | rfl | rfl | rfl | rfl | rfl | rfl | rfl | rfl | rfl | rfl | rfl | rfl | rfl | rfl | rfl
  · show (kds (kidsP 0 n _ ++ _)).map _ = _
    rw [kds_append, kds_kidsP, kds_own, kds_nil, List.append_nil, kidsP_kids]; rfl
  · obtain rfl := h.a2 (.inl rfl); rfl
  · show (kds (listP 0 n)).map _ = _
    rw [kds_listP, ckids_kids]; rfl
  · obtain rfl := h.a1 (.inl rfl); rfl
  · obtain rfl := h.a0 (.inl rfl); rfl
  · show (kds (_ :: bodyP 0 n L)).map _ = _
    rw [kds_own, kds_bodyP, kidsP_kids]; rfl
  · have hn := h.ap (.inl rfl)
    show (kds ([_, _, _, _] ++ bodyP 1 n L)).map _ = _
    rw [kds_append, kds_bodyP, List.map_append, kidsP_kids, range'_cons n hn]; rfl
  · obtain rfl := h.a0 (.inr (.inl rfl))
    show (kds (if s.size = 0 then [] else _)).map _ = _
    split <;> rfl
  · obtain rfl := h.a1 (by simp); rfl
  · obtain rfl := h.a1 (by simp); rfl
  · obtain rfl := h.a1 (by simp); rfl
  · obtain rfl := h.a1 (by simp); rfl
  · obtain rfl := h.a2 (.inr rfl); rfl
  · have hn := h.ae rfl
    show (kds (if n = 0 then [] else _)).map _ = _
    split
    · rename_i e; subst e; rfl
    · obtain rfl : n = 1 := by omega
      rfl
  · obtain rfl := h.at2 (.inl rfl); rfl
  · obtain rfl := h.a1 (by simp); rfl
  · obtain rfl := h.a0 (by simp); rfl
  · obtain rfl := h.a0 (by simp); rfl
  · obtain rfl := h.a0 (by simp); rfl
  · show (kds (_ :: listP 0 n)).map _ = _
    rw [kds_own, kds_listP, ckids_kids]; rfl
  · have hn := h.ap (.inr rfl)
    show (kds ([_, _, _] ++ listP 1 n)).map _ = _
    rw [kds_append, kds_listP, List.map_append, ckids_kids, range'_cons n hn]; rfl
  · obtain rfl := h.a0 (by simp)
    rfl
  · obtain rfl := h.a0 (by simp); rfl
  · obtain rfl := h.at2 (.inr rfl); rfl
  · obtain rfl := h.a1 (by simp); rfl
  · obtain rfl := h.a1 (by simp); rfl
end Go.Proofs.YtiaajpdcacdngaaGreatDoor.Pl
