/- What the reference's Own, Order, gap and kid say, against the parts. -/
import Derived.Test.YtiaajpdcacdngaaGreatDoorPFacts
namespace Go.Proofs.YtiaajpdcacdngaaGreatDoor.Pl
open Go
set_option linter.unusedVariables false
set_option linter.unusedSimpArgs false

def rlist (l : List ByteArray) (m : Nat) : List ByteArray := l ++ List.replicate (m - 1) ⟨#[44]⟩ ++ [⟨#[41]⟩]
def rown (k : Int) (s : ByteArray) (n : Nat) : List ByteArray :=
  if k = 1 then [⟨#[]⟩]
  else if k = 2 then [⟨#[102, 110]⟩, s]
  else if k = 3 then rlist [⟨#[40]⟩] n
  else if k = 20 then rlist [s, ⟨#[40]⟩] n
  else if k = 21 then rlist [⟨#[46]⟩, s, ⟨#[40]⟩] (n - 1)
  else if k = 6 then [⟨#[123]⟩, ⟨#[125]⟩]
  else if k = 7 then [⟨#[99, 108, 97, 115, 115]⟩, s, ⟨#[123]⟩, ⟨#[125]⟩]
  else if k = 8 then (if s.size = 0 then [] else [⟨#[58]⟩, s])
  else if k = 9 then [⟨#[99, 111, 110, 115, 116]⟩, s, ⟨#[61]⟩, ⟨#[59]⟩]
  else if k = 10 then [⟨#[108, 101, 116]⟩, s, ⟨#[61]⟩, ⟨#[59]⟩]
  else if k = 11 then [s, ⟨#[61]⟩, ⟨#[59]⟩]
  else if k = 12 then [⟨#[114, 101, 116, 117, 114, 110]⟩, ⟨#[59]⟩]
  else if k = 13 then [⟨#[105, 102]⟩]
  else if k = 14 then (if n = 0 then [] else [⟨#[101, 108, 115, 101]⟩])
  else if k = 15 then [⟨#[119, 104, 105, 108, 101]⟩]
  else if k = 16 then [⟨#[59]⟩]
  else if k = 22 then [⟨#[110, 101, 119]⟩, s, ⟨#[40]⟩, ⟨#[41]⟩]
  else if k = 26 then [⟨#[40]⟩, ⟨#[41]⟩]
  else [s]
def rall (first n : Nat) : List Int := (List.range' first (n - first)).map fun i => ((i : Nat) : Int)
def rcommas (first n : Nat) : List Int := (List.range' first (n - first)).flatMap fun i => if first < i then [-1, ((i : Nat) : Int)] else [((i : Nat) : Int)]
def rorder (k : Int) (s : ByteArray) (n : Nat) : List Int :=
  if k = 3 then [-1] ++ rcommas 0 n ++ [-1]
  else if k = 20 then [-1, -1] ++ rcommas 0 n ++ [-1]
  else if k = 21 then [0, -1, -1, -1] ++ rcommas 1 n ++ [-1]
  else if k = 1 ∨ k = 16 then rall 0 n ++ [-1]
  else if k = 2 then [-1, -1, 0, 1, 2]
  else if k = 4 ∨ k = 25 then [-1, 0]
  else if k = 6 ∨ k = 12 ∨ k = 26 then [-1] ++ rall 0 n ++ [-1]
  else if k = 7 then [-1, -1, 0, -1] ++ rall 1 n ++ [-1]
  else if k = 9 ∨ k = 10 then [-1, -1, -1, 0, -1]
  else if k = 11 then [-1, -1, 0, -1]
  else if k = 13 ∨ k = 15 then [-1] ++ rall 0 n
  else if k = 24 then [0, -1, 1]
  else if k = 22 then [-1, -1, -1, -1]
  else if k = 8 then (if s.size = 0 then [] else [-1, -1])
  else if k = 14 then (if n = 0 then [] else [-1, 0])
  else [-1]
def rgap (k : Int) (n i : Nat) (f : ByteArray) (L : Nat) : ByteArray :=
  if k = 1 then (if 0 < n then ⟨#[10]⟩ else f)
  else if k = 24 then ⟨#[32]⟩
  else if k = 21 ∨ k = 16 then ⟨#[]⟩
  else if i = 0 then f
  else if k = 6 then (if 0 < n then nl L else ⟨#[]⟩)
  else if k = 7 then (if i < 3 then ⟨#[32]⟩ else if 1 < n then nl L else ⟨#[]⟩)
  else if k = 2 ∨ k = 8 then ⟨#[32]⟩
  else if k = 9 ∨ k = 10 then (if i < 3 then ⟨#[32]⟩ else ⟨#[]⟩)
  else if k = 11 ∨ k = 22 then (if i = 1 then ⟨#[32]⟩ else ⟨#[]⟩)
  else ⟨#[]⟩
def rkid (k : Int) (j : Nat) (f : ByteArray) (L : Nat) : ByteArray :=
  if k = 1 then (if j = 0 then f else ⟨#[10, 10]⟩)
  else if k = 2 then (if j = 0 then ⟨#[]⟩ else ⟨#[32]⟩)
  else if k = 3 ∨ k = 20 then (if j = 0 then ⟨#[]⟩ else ⟨#[32]⟩)
  else if k = 21 then (if j = 0 then f else if j = 1 then ⟨#[]⟩ else ⟨#[32]⟩)
  else if k = 6 then nl (L + 1)
  else if k = 7 then (if j = 0 then ⟨#[32]⟩ else nl (L + 1))
  else if k = 24 then (if j = 0 then f else ⟨#[32]⟩)
  else if k = 16 then f
  else if k = 25 ∨ k = 26 then ⟨#[]⟩
  else ⟨#[32]⟩

theorem rown_eq (k : Int) (s : ByteArray) (n L : Nat) (h : Ar k n) : (owns (parts k s n L)).map (·.text) = rown k s n := by
  rcases kinds k ⟨h.lo, h.hi⟩ with rfl | rfl | rfl | rfl | rfl | rfl | rfl | rfl | rfl | rfl | rfl | rfl | rfl | rfl | rfl | rfl | rfl | rfl | rfl | rfl | rfl | rfl | rfl | rfl | rfl | rfl
  · show (owns (kidsP 0 n _ ++ _)).map _ = _
    rw [owns_append, owns_kidsP]; rfl
  · rfl
  · show (owns (listP 0 n)).map _ = _
    rw [owns_listP, List.map_cons, List.map_append, List.map_replicate]; rfl
  · rfl
  · rfl
  · show (owns (_ :: bodyP 0 n L)).map _ = _
    rw [owns_own, owns_bodyP]; rfl
  · show (owns ([_, _, _, _] ++ bodyP 1 n L)).map _ = _
    rw [owns_append, owns_bodyP]; rfl
  · show (owns (if s.size = 0 then [] else _)).map _ = if s.size = 0 then [] else _
    split <;> rfl
  · rfl
  · rfl
  · rfl
  · rfl
  · show (owns (_ :: kidsP 0 n _)).map _ = _
    rw [owns_own, owns_kidsP]; rfl
  · show (owns (if n = 0 then [] else _ :: kidsP 0 n _)).map _ = if n = 0 then [] else _
    split
    · rfl
    · rw [owns_own, owns_kidsP]; rfl
  · show (owns (_ :: kidsP 0 n _)).map _ = _
    rw [owns_own, owns_kidsP]; rfl
  · rfl
  · rfl
  · rfl
  · rfl
  · show (owns (_ :: listP 0 n)).map _ = _
    rw [owns_own, owns_listP, List.map_cons, List.map_cons, List.map_append, List.map_replicate]; rfl
  · show (owns ([_, _, _] ++ listP 1 n)).map _ = _
    rw [owns_append, owns_listP, List.map_append, List.map_cons, List.map_append, List.map_replicate]; rfl
  · obtain rfl := h.a0 (by simp); rfl
  · rfl
  · rfl
  · rfl
  · rfl
theorem map_kidsP (first n : Nat) (g : ByteArray) : (kidsP first n g).map (·.kid) = rall first n := by unfold kidsP rall; rw [List.map_map]; rfl
theorem map_commasP (first n : Nat) : (commasP first n).map (·.kid) = rcommas first n := by
  unfold commasP rcommas
  generalize List.range' first (n - first) = l
  induction l with
  | nil => rfl
  | cons a l ih =>
    rw [List.flatMap_cons, List.flatMap_cons, List.map_append, ih]
    by_cases h : first < a
    · rw [if_pos h, if_pos h]; rfl
    · rw [if_neg h, if_neg h]; rfl
theorem map_listP (first n : Nat) : (listP first n).map (·.kid) = -1 :: (rcommas first n ++ [-1]) := by
  unfold listP; rw [List.map_cons, List.map_append, map_commasP]; rfl
theorem map_bodyP (first n L : Nat) : (bodyP first n L).map (·.kid) = rall first n ++ [-1] := by
  unfold bodyP
  split
  · rename_i h
    unfold rall; rw [show n - first = 0 from by omega]; rfl
  · rw [List.map_append, map_kidsP]; rfl
theorem rorder_eq (k : Int) (s : ByteArray) (n L : Nat) (h : Ar k n) : (parts k s n L).map (·.kid) = rorder k s n := by
  rcases kinds k ⟨h.lo, h.hi⟩ with rfl | rfl | rfl | rfl | rfl | rfl | rfl | rfl | rfl | rfl | rfl | rfl | rfl | rfl | rfl | rfl | rfl | rfl | rfl | rfl | rfl | rfl | rfl | rfl | rfl | rfl
  · show (kidsP 0 n _ ++ _).map _ = _
    rw [List.map_append, map_kidsP]; rfl
  · rfl
  · show (listP 0 n).map _ = _
    rw [map_listP]; rfl
  · rfl
  · rfl
  · show (_ :: bodyP 0 n L).map _ = _
    rw [List.map_cons, map_bodyP]; rfl
  · show ([_, _, _, _] ++ bodyP 1 n L).map _ = _
    rw [List.map_append, map_bodyP]; rfl
  · show (if s.size = 0 then [] else _ : List Part).map _ = if s.size = 0 then [] else _
    split <;> rfl
  · rfl
  · rfl
  · rfl
  · obtain rfl := h.a1 (by simp); rfl
  · show (_ :: kidsP 0 n _).map _ = _
    rw [List.map_cons, map_kidsP]; rfl
  · have := h.ae rfl
    show (if n = 0 then [] else _ :: kidsP 0 n _ : List Part).map _ = if n = 0 then [] else _
    split
    · rfl
    · obtain rfl : n = 1 := by omega
      rfl
  · show (_ :: kidsP 0 n _).map _ = _
    rw [List.map_cons, map_kidsP]; rfl
  · obtain rfl := h.a1 (by simp); rfl
  · rfl
  · rfl
  · rfl
  · show (_ :: listP 0 n).map _ = _
    rw [List.map_cons, map_listP]; rfl
  · show ([_, _, _] ++ listP 1 n).map _ = _
    rw [List.map_append, map_listP]; rfl
  · obtain rfl := h.a0 (by simp); rfl
  · rfl
  · rfl
  · rfl
  · obtain rfl := h.a1 (by simp); rfl

/- ### The gaps -/
theorem owns_len_fix (f : ByteArray) (ps : List Part) : (owns (fixF f ps)).length = (owns ps).length := by
  cases ps with
  | nil => rfl
  | cons p ps =>
    show (owns (⟨f, p.text, p.kid⟩ :: ps)).length = _
    unfold owns
    rw [List.filter_cons, List.filter_cons]
    by_cases h : p.kid = -1
    · rw [if_pos (by simpa using h), if_pos (by simpa using h)]; rfl
    · rw [if_neg (by simpa using h), if_neg (by simpa using h)]
theorem range_tail (m : Nat) (G : Nat → ByteArray) (x : ByteArray) (h : ∀ i, 1 ≤ i → i < m + 1 → G i = x) : (List.range (m + 1)).map G = G 0 :: List.replicate m x := by
  rw [List.range_succ_eq_map, List.map_cons, List.map_map]
  congr 1
  rw [List.eq_replicate_iff]
  refine ⟨by simp, fun b hb => ?_⟩
  obtain ⟨i, hi, rfl⟩ := List.mem_map.1 hb
  exact h (i + 1) (by omega) (by have := List.mem_range.1 hi; omega)
theorem rgap_eq (k : Int) (s f : ByteArray) (n L : Nat) (h : Ar k n) : (owns (fixF f (parts k s n L))).map (·.gap) = (List.range (owns (parts k s n L)).length).map fun i => rgap k n i f L := by
  rcases kinds k ⟨h.lo, h.hi⟩ with rfl | rfl | rfl | rfl | rfl | rfl | rfl | rfl | rfl | rfl | rfl | rfl | rfl | rfl | rfl | rfl | rfl | rfl | rfl | rfl | rfl | rfl | rfl | rfl | rfl | rfl
  · cases n with
    | zero => rfl
    | succ n =>
      show (owns (fixF f (kidsP 0 (n + 1) _ ++ _))).map _ = (List.range (owns (kidsP 0 (n + 1) _ ++ _)).length).map _
      rw [owns_append, owns_kidsP]
      have e : kidsP 0 (n + 1) (⟨#[10, 10]⟩ : ByteArray) = pkid ⟨#[10, 10]⟩ ((0 : Nat) : Int) :: (List.range' 1 n).map fun i => pkid ⟨#[10, 10]⟩ ((i : Nat) : Int) := by
        unfold kidsP
        rw [show n + 1 - 0 = n + 1 from rfl, List.range'_succ]; rfl
      rw [e]
      show (owns (pkid f ((0 : Nat) : Int) :: ((List.range' 1 n).map (fun i => pkid ⟨#[10, 10]⟩ ((i : Nat) : Int)) ++ _))).map _ = _
      have e2 : owns ((List.range' 1 n).map (fun i => pkid (⟨#[10, 10]⟩ : ByteArray) ((i : Nat) : Int))) = [] := by
        have := owns_kidsP 1 (n + 1) ⟨#[10, 10]⟩
        unfold kidsP at this
        rwa [show n + 1 - 1 = n from by omega] at this
      rw [owns_kid, owns_append, e2]; rfl
  · rfl
  · show (owns (pown f _ :: (commasP 0 n ++ [_]))).map _ = (List.range (owns (listP 0 n)).length).map _
    rw [owns_own, owns_append, owns_commasP, owns_listP, List.length_cons, List.length_append, List.length_replicate]
    rw [range_tail _ (fun i => rgap 3 n i f L) ⟨#[]⟩ (fun i h1 h2 => by unfold rgap; simp; omega)]
    rw [List.map_cons, List.map_append, List.map_replicate, List.length_singleton, List.replicate_succ']; rfl
  · rfl
  · rfl
  · show (owns (pown f _ :: bodyP 0 n L)).map _ = (List.range (owns (pown _ _ :: bodyP 0 n L)).length).map _
    rw [owns_own, owns_own, owns_bodyP]
    show [f, if n ≤ 0 then _ else _] = [rgap 6 n 0 f L, rgap 6 n 1 f L]
    have e : rgap 6 n 1 f L = if 0 < n then nl L else ⟨#[]⟩ := rfl
    rw [e]
    by_cases h0 : n ≤ 0
    · rw [if_pos h0, if_neg (by omega)]; rfl
    · rw [if_neg h0, if_pos (by omega)]; rfl
  · show (owns ([pown f _, _, _, _] ++ bodyP 1 n L)).map _ = (List.range (owns ([_, _, _, _] ++ bodyP 1 n L)).length).map _
    rw [owns_append, owns_append, owns_bodyP]
    show [f, _, _, if n ≤ 1 then _ else _] = [rgap 7 n 0 f L, rgap 7 n 1 f L, rgap 7 n 2 f L, rgap 7 n 3 f L]
    have e : rgap 7 n 3 f L = if 1 < n then nl L else ⟨#[]⟩ := rfl
    rw [e]
    by_cases h0 : n ≤ 1
    · rw [if_pos h0, if_neg (by omega)]; rfl
    · rw [if_neg h0, if_pos (by omega)]; rfl
  · show (owns (fixF f (if s.size = 0 then [] else _))).map _ = (List.range (owns (if s.size = 0 then [] else _)).length).map _
    split <;> rfl
  · rfl
  · rfl
  · rfl
  · rfl
  · show (owns (pown f _ :: kidsP 0 n _)).map _ = (List.range (owns (pown _ _ :: kidsP 0 n _)).length).map _
    rw [owns_own, owns_own, owns_kidsP]; rfl
  · show (owns (fixF f (if n = 0 then [] else pown _ _ :: kidsP 0 n _))).map _ = (List.range (owns (if n = 0 then [] else pown _ _ :: kidsP 0 n _)).length).map _
    split
    · rfl
    · show (owns (pown f _ :: kidsP 0 n _)).map _ = _
      rw [owns_own, owns_own, owns_kidsP]; rfl
  · show (owns (pown f _ :: kidsP 0 n _)).map _ = (List.range (owns (pown _ _ :: kidsP 0 n _)).length).map _
    rw [owns_own, owns_own, owns_kidsP]; rfl
  · rfl
  · rfl
  · rfl
  · rfl
  · show (owns (pown f _ :: listP 0 n)).map _ = (List.range (owns (pown _ _ :: listP 0 n)).length).map _
    rw [owns_own, owns_own, owns_listP, List.length_cons, List.length_cons, List.length_append, List.length_replicate]
    rw [range_tail _ (fun i => rgap 20 n i f L) ⟨#[]⟩ (fun i h1 h2 => by unfold rgap; simp; omega)]
    rw [List.map_cons, List.map_cons, List.map_append, List.map_replicate, List.replicate_succ, List.length_singleton, List.replicate_succ']; rfl
  · show (owns (pkid f ((0 : Nat) : Int) :: pown _ _ :: pown _ _ :: listP 1 n)).map _ = (List.range (owns (pkid _ ((0 : Nat) : Int) :: pown _ _ :: pown _ _ :: listP 1 n)).length).map _
    rw [owns_kid, owns_kid, owns_own, owns_own, owns_listP, List.length_cons, List.length_cons, List.length_cons, List.length_append, List.length_replicate]
    rw [range_tail _ (fun i => rgap 21 n i f L) ⟨#[]⟩ (fun i h1 h2 => by unfold rgap; simp)]
    rw [List.map_cons, List.map_cons, List.map_cons, List.map_append, List.map_replicate, List.replicate_succ, List.replicate_succ, List.length_singleton, List.replicate_succ']; rfl
  · obtain rfl := h.a0 (by simp); rfl
  · rfl
  · rfl
  · rfl
  · rfl
theorem fix_kids (f : ByteArray) (ps : List Part) : (kds (fixF f ps)).map (·.kid) = (kds ps).map (·.kid) := by
  cases ps with
  | nil => rfl
  | cons p ps =>
    show (kds (⟨f, p.text, p.kid⟩ :: ps)).map _ = _
    unfold kds
    rw [List.filter_cons, List.filter_cons]
    by_cases h : p.kid = -1
    · rw [if_neg (by simpa using h), if_neg (by simpa using h)]
    · rw [if_pos (by simpa using h), if_pos (by simpa using h)]; rfl
theorem kidsP_gap (first n : Nat) (g : ByteArray) : (kidsP first n g).map (·.gap) = List.replicate (n - first) g := by
  unfold kidsP
  rw [List.map_map, List.eq_replicate_iff]
  refine ⟨by simp, fun b hb => ?_⟩
  obtain ⟨i, _, rfl⟩ := List.mem_map.1 hb; rfl
theorem ckids_gap (first n : Nat) : (ckids first n).map (·.gap) = (List.range' first (n - first)).map fun i => if first < i then ⟨#[32]⟩ else ⟨#[]⟩ := by
  unfold ckids; rw [List.map_map]; rfl
theorem range_const (n : Nat) (G : Nat → ByteArray) (x : ByteArray) (h : ∀ i, i < n → G i = x) : (List.range n).map G = List.replicate n x := by
  rw [List.eq_replicate_iff]
  refine ⟨by simp, fun b hb => ?_⟩
  obtain ⟨i, hi, rfl⟩ := List.mem_map.1 hb
  exact h i (List.mem_range.1 hi)
theorem rkid_eq (k : Int) (s f : ByteArray) (n L : Nat) (h : Ar k n) : (kds (fixF f (parts k s n L))).map (·.gap) = (List.range n).map fun j => rkid k j f L := by
  rcases kinds k ⟨h.lo, h.hi⟩ with rfl | rfl | rfl | rfl | rfl | rfl | rfl | rfl | rfl | rfl | rfl | rfl | rfl | rfl | rfl | rfl | rfl | rfl | rfl | rfl | rfl | rfl | rfl | rfl | rfl | rfl
  · cases n with
    | zero => rfl
    | succ n =>
      have e : kidsP 0 (n + 1) (⟨#[10, 10]⟩ : ByteArray) = pkid ⟨#[10, 10]⟩ ((0 : Nat) : Int) :: kidsP 1 (n + 1) ⟨#[10, 10]⟩ := by
        unfold kidsP
        rw [show n + 1 - 0 = n + 1 from rfl, List.range'_succ, show n + 1 - 1 = n from by omega]; rfl
      show (kds (fixF f (kidsP 0 (n + 1) _ ++ _))).map _ = _
      rw [e]
      show (kds (pkid f ((0 : Nat) : Int) :: (kidsP 1 (n + 1) _ ++ _))).map _ = _
      rw [kds_kid, kds_append, kds_kidsP, kds_own, kds_nil, List.append_nil, List.map_cons, kidsP_gap, range_tail n (fun j => rkid 1 j f L) ⟨#[10, 10]⟩ (fun i h1 h2 => by unfold rkid; simp; omega), show n + 1 - 1 = n from by omega]; rfl
  · obtain rfl := h.a2 (.inl rfl); rfl
  · show (kds (pown f _ :: (commasP 0 n ++ [_]))).map _ = _
    rw [kds_own, kds_append, kds_commasP, kds_own, kds_nil, List.append_nil, ckids_gap, List.range_eq_range', Nat.sub_zero]
    refine List.map_congr_left fun i hi => ?_
    unfold rkid
    simp only [show ¬ (3 : Int) = 1 from by decide, show ¬ (3 : Int) = 2 from by decide, if_false, true_or, if_true]
    by_cases h0 : 0 < i
    · rw [if_pos h0, if_neg (by omega)]
    · rw [if_neg h0, if_pos (by omega)]
  · obtain rfl := h.a1 (.inl rfl); rfl
  · obtain rfl := h.a0 (.inl rfl); rfl
  · show (kds (pown f _ :: bodyP 0 n L)).map _ = _
    rw [kds_own, kds_bodyP, kidsP_gap, range_const n (fun j => rkid 6 j f L) (nl (L + 1)) (fun i hi => rfl), Nat.sub_zero]
  · have hn := h.ap (.inl rfl)
    obtain ⟨m, rfl⟩ : ∃ m, n = m + 1 := ⟨n - 1, by omega⟩
    show (kds ([pown f _, _, _, _] ++ bodyP 1 (m + 1) L)).map _ = _
    rw [kds_append, kds_bodyP, List.map_append, kidsP_gap, range_tail m (fun j => rkid 7 j f L) (nl (L + 1)) (fun i h1 h2 => by unfold rkid; simp; omega), show m + 1 - 1 = m from by omega]; rfl
  · obtain rfl := h.a0 (.inr (.inl rfl))
    show (kds (fixF f (if s.size = 0 then [] else _))).map _ = _
    split <;> rfl
  · obtain rfl := h.a1 (by simp); rfl
  · obtain rfl := h.a1 (by simp); rfl
  · obtain rfl := h.a1 (by simp); rfl
  · obtain rfl := h.a1 (by simp); rfl
  · obtain rfl := h.a2 (.inr rfl); rfl
  · have hn := h.ae rfl
    show (kds (fixF f (if n = 0 then [] else _))).map _ = _
    split
    · rename_i e; subst e; rfl
    · obtain rfl : n = 1 := by omega
      rfl
  · obtain rfl := h.at2 (.inl rfl); rfl
  · obtain rfl := h.a1 (by simp); rfl
  · obtain rfl := h.a0 (by simp); rfl
  · obtain rfl := h.a0 (by simp); rfl
  · obtain rfl := h.a0 (by simp); rfl
  · show (kds (pown f _ :: listP 0 n)).map _ = _
    rw [kds_own, kds_listP, ckids_gap, List.range_eq_range', Nat.sub_zero]
    refine List.map_congr_left fun i hi => ?_
    unfold rkid
    simp only [show ¬ (20 : Int) = 1 from by decide, show ¬ (20 : Int) = 2 from by decide, show ¬ (20 : Int) = 3 from by decide, if_false, false_or, if_true]
    by_cases h0 : 0 < i
    · rw [if_pos h0, if_neg (by omega)]
    · rw [if_neg h0, if_pos (by omega)]
  · have hn := h.ap (.inr rfl)
    obtain ⟨m, rfl⟩ : ∃ m, n = m + 1 := ⟨n - 1, by omega⟩
    show (kds (pkid f ((0 : Nat) : Int) :: pown _ _ :: pown _ _ :: listP 1 (m + 1))).map _ = _
    rw [kds_kid, kds_own, kds_own, kds_listP, List.map_cons, ckids_gap, List.range_succ_eq_map, List.map_cons, List.map_map, show m + 1 - 1 = m from by omega]
    congr 1
    rw [List.range'_eq_map_range, List.map_map]
    refine List.map_congr_left fun i hi => ?_
    show (if 1 < 1 + i then _ else _) = rkid 21 (i + 1) f L
    unfold rkid
    simp only [show ¬ (21 : Int) = 1 from by decide, show ¬ (21 : Int) = 2 from by decide, show ¬ (21 : Int) = 3 from by decide, show ¬ (21 : Int) = 20 from by decide, if_false, or_self, if_true, show ¬ i + 1 = 0 from by omega]
    by_cases h0 : 1 < 1 + i
    · rw [if_pos h0, if_neg (by omega)]
    · rw [if_neg h0, if_pos (by omega)]
  · obtain rfl := h.a0 (by simp)
    rfl
  · obtain rfl := h.a0 (by simp); rfl
  · obtain rfl := h.at2 (.inr rfl); rfl
  · obtain rfl := h.a1 (by simp); rfl
  · obtain rfl := h.a1 (by simp); rfl
end Go.Proofs.YtiaajpdcacdngaaGreatDoor.Pl
