/- Strings, and sorted lists of them, as plain lists. -/
import Derived.Lib.SlicesCompact
import Derived.Sort.Walk0
import Derived.Lib.RowBridge
import Derived.Lib.Hide
namespace Go.Proofs.Ytoelfiendfemaaa.Pl
open Go
set_option linter.unusedVariables false
set_option linter.unusedSimpArgs false
abbrev Bs := List UInt8
theorem list_ext {a b : ByteArray} (h : a.data.toList = b.data.toList) : a = b := by
  cases a; cases b; simp at h; rw [h]
theorem toList_eq (s : ByteArray) : s.toList = s.data.toList := Lib.toList_data s
def inL (xs : List ByteArray) (x : ByteArray) : Bool := xs.any fun y => decide (y = x)
theorem inL_iff (xs : List ByteArray) (x : ByteArray) : inL xs x = true ↔ x ∈ xs := by
  unfold inL
  rw [List.any_eq_true]
  constructor
  · rintro ⟨y, h1, h2⟩
    have := of_decide_eq_true h2
    subst this; exact h1
  · exact fun h => ⟨x, h, decide_eq_true rfl⟩
theorem inL_yes (xs : List ByteArray) (x : ByteArray) (h : x ∈ xs) : inL xs x = true := (inL_iff xs x).2 h
theorem inL_no (xs : List ByteArray) (x : ByteArray) (h : x ∉ xs) : inL xs x = false := by
  cases hb : inL xs x
  · rfl
  · exact absurd ((inL_iff xs x).1 hb) h
theorem inL_snoc (xs : List ByteArray) (y x : ByteArray) : inL (xs ++ [y]) x = (inL xs x || decide (y = x)) := by
  unfold inL; rw [List.any_append]; simp
theorem inL_take (xs : List ByteArray) (k : Nat) (h : k < xs.length) (x : ByteArray) : inL (xs.take (k + 1)) x = (inL (xs.take k) x || decide (xs[k] = x)) := by
  rw [List.take_succ_eq_append_getElem h, inL_snoc]
def Strict (l : List Bs) : Prop := l.Pairwise (· < ·)

theorem lt_irrefl (a : Bs) : ¬ a < a := List.lt_irrefl a
theorem lt_trans {a b c : Bs} (h1 : a < b) (h2 : b < c) : a < c := List.lt_trans h1 h2
theorem lt_of_le_lt {a b c : Bs} (h1 : a ≤ b) (h2 : b < c) : a < c := List.lt_of_le_of_lt h1 h2
theorem le_of_lt {a b : Bs} (h : a < b) : a ≤ b := List.le_of_lt h
theorem lt_of_ne {a b : Bs} (h1 : a ≤ b) (h2 : a ≠ b) : a < b := by
  by_cases h : a < b
  · exact h
  · exact absurd (List.le_antisymm h1 (List.not_lt.1 h)) h2

theorem strict_ext : ∀ (l m : List Bs), Strict l → Strict m → (∀ x, x ∈ l ↔ x ∈ m) → l = m
  | [], [], _, _, _ => rfl
  | [], b :: m, _, _, h => absurd ((h b).2 (by simp)) (by simp)
  | a :: l, [], _, _, h => absurd ((h a).1 (by simp)) (by simp)
  | a :: l, b :: m, hl, hm, h => by
    obtain ⟨h1, h2⟩ := List.pairwise_cons.1 hl
    obtain ⟨k1, k2⟩ := List.pairwise_cons.1 hm
    have e : a = b := by
      rcases List.mem_cons.1 ((h a).1 (by simp)) with e | ha
      · exact e
      · rcases List.mem_cons.1 ((h b).2 (by simp)) with e | hb
        · exact e.symm
        · exact absurd (lt_trans (h1 b hb) (k1 a ha)) (lt_irrefl a)
    subst e
    congr 1
    refine strict_ext l m h2 k2 fun x => ⟨fun hx => ?_, fun hx => ?_⟩
    · rcases List.mem_cons.1 ((h x).1 (by simp [hx])) with e | hy
      · subst e; exact absurd (h1 x hx) (lt_irrefl x)
      · exact hy
    · rcases List.mem_cons.1 ((h x).2 (by simp [hx])) with e | hy
      · subst e; exact absurd (k1 x hx) (lt_irrefl x)
      · exact hy

theorem rev_ind {α : Type} {P : List α → Prop} (h0 : P []) (h1 : ∀ l x, P l → P (l ++ [x])) (l : List α) : P l := by
  have h : ∀ m : List α, P m.reverse := by
    intro m
    induction m with
    | nil => exact h0
    | cons a m ih => rw [List.reverse_cons]; exact h1 _ _ ih
  have := h l.reverse
  rwa [List.reverse_reverse] at this

/- ### What the code computes -/
def srt (l : List Bs) : List Bs := l.mergeSort fun x y => decide (x ≤ y)
theorem srt_mem (l : List Bs) (x : Bs) : x ∈ srt l ↔ x ∈ l := List.mem_mergeSort
theorem srt_len (l : List Bs) : (srt l).length = l.length := List.length_mergeSort l
theorem srt_le (l : List Bs) : (srt l).Pairwise (· ≤ ·) := by
  have tr : ∀ a b c : Bs, decide (a ≤ b) = true → decide (b ≤ c) = true → decide (a ≤ c) = true := fun a b c h1 h2 => by
    simp only [decide_eq_true_eq] at *; exact List.le_trans h1 h2
  have to : ∀ a b : Bs, (decide (a ≤ b) || decide (b ≤ a)) = true := fun a b => by
    simp only [Bool.or_eq_true, decide_eq_true_eq]; exact List.le_total a b
  exact (List.pairwise_mergeSort tr to l).imp fun h => by simpa using h

theorem comp_facts (zs : List Bs) (hs : zs.Pairwise (· ≤ ·)) : ∀ m, m ≤ zs.length → Strict (Lib.compactUpTo zs.toArray m) ∧ (∀ x ∈ Lib.compactUpTo zs.toArray m, ∃ j, j < m ∧ x = zs.toArray[j]!) ∧ ∀ j, j < m → zs.toArray[j]! ∈ Lib.compactUpTo zs.toArray m := by
  have hget : ∀ j, (hj : j < zs.length) → zs.toArray[j]! = zs[j] := fun j hj => by simp [hj]
  have hmono : ∀ i j, i < j → j < zs.length → zs.toArray[i]! ≤ zs.toArray[j]! := fun i j hij hj => by
    rw [hget i (by omega), hget j hj]
    exact List.pairwise_iff_getElem.1 hs i j (by omega) hj hij
  intro m
  induction m with
  | zero => intro _; exact ⟨List.Pairwise.nil, fun x hx => by simp [Lib.compactUpTo] at hx, fun j hj => by omega⟩
  | succ m ih =>
    intro hm
    obtain ⟨i1, i2, i3⟩ := ih (by omega)
    rw [Lib.compactUpTo_succ]
    cases hk : Lib.keeps zs.toArray m
    · have hm0 : 0 < m := by
        rcases Nat.eq_zero_or_pos m with e | e
        · subst e; simp [Lib.keeps] at hk
        · exact e
      have he : zs.toArray[m]! = zs.toArray[m - 1]! := by
        simp only [Lib.keeps, decide_eq_false_iff_not, not_or, ne_eq, Decidable.not_not] at hk
        exact hk.2
      simp only [Bool.false_eq_true, if_false, List.append_nil]
      refine ⟨i1, fun x hx => ?_, fun j hj => ?_⟩
      · obtain ⟨j, h1, h2⟩ := i2 x hx; exact ⟨j, by omega, h2⟩
      · by_cases e : j = m
        · subst e; rw [he]; exact i3 _ (by omega)
        · exact i3 j (by omega)
    · simp only [if_true]
      refine ⟨List.pairwise_append.2 ⟨i1, List.pairwise_singleton _ _, fun x hx y hy => ?_⟩, fun x hx => ?_, fun j hj => ?_⟩
      · simp only [List.mem_cons, List.not_mem_nil, or_false] at hy
        subst hy
        obtain ⟨j, hj, rfl⟩ := i2 x hx
        have hne : m = 0 ∨ zs.toArray[m]! ≠ zs.toArray[m - 1]! := by simpa [Lib.keeps] using hk
        have hne2 : zs.toArray[m]! ≠ zs.toArray[m - 1]! := by
          rcases hne with e | e
          · omega
          · exact e
        have h1 : zs.toArray[m - 1]! < zs.toArray[m]! := lt_of_ne (hmono (m - 1) m (by omega) (by omega)) (Ne.symm hne2)
        by_cases e : j = m - 1
        · subst e; exact h1
        · exact lt_of_le_lt (hmono j (m - 1) (by omega) (by omega)) h1
      · rcases List.mem_append.1 hx with h | h
        · obtain ⟨j, h1, h2⟩ := i2 x h; exact ⟨j, by omega, h2⟩
        · simp only [List.mem_cons, List.not_mem_nil, or_false] at h
          exact ⟨m, by omega, h⟩
      · by_cases e : j = m
        · subst e; exact List.mem_append.2 (.inr (by simp))
        · exact List.mem_append.2 (.inl (i3 j (by omega)))
theorem comp_strict (zs : List Bs) (hs : zs.Pairwise (· ≤ ·)) : Strict (Lib.compact zs) := (comp_facts zs hs zs.length (Nat.le_refl _)).1
theorem comp_mem (zs : List Bs) (hs : zs.Pairwise (· ≤ ·)) (x : Bs) : x ∈ Lib.compact zs ↔ x ∈ zs := by
  obtain ⟨_, h2, h3⟩ := comp_facts zs hs zs.length (Nat.le_refl _)
  constructor
  · intro hx
    obtain ⟨j, hj, rfl⟩ := h2 x hx
    simp [hj]
  · intro hx
    obtain ⟨j, hj, rfl⟩ := List.getElem_of_mem hx
    have := h3 j hj
    rw [show zs.toArray[j]! = zs[j] by simp [hj]] at this
    exact this

/-- What Insert gives. -/
def ins (l : List Bs) (s : Bs) : List Bs := Lib.compact (srt (l ++ [s]))
theorem ins_strict (l : List Bs) (s : Bs) : Strict (ins l s) := comp_strict _ (srt_le _)
theorem ins_mem (l : List Bs) (s x : Bs) : x ∈ ins l s ↔ x ∈ l ∨ x = s := by
  unfold ins
  rw [comp_mem _ (srt_le _), srt_mem]
  simp

/- ### What the reference computes -/
def stp (s : Bs) (p : Bool × List Bs) (x : Bs) : Bool × List Bs :=
  if p.1 || decide (x = s) then (true, p.2 ++ [x]) else if s < x then (true, p.2 ++ [s] ++ [x]) else (false, p.2 ++ [x])
def putS (l : List Bs) (s : Bs) : Bool × List Bs := l.foldl (stp s) (false, [])
def put (l : List Bs) (s : Bs) : List Bs := if (putS l s).1 then (putS l s).2 else (putS l s).2 ++ [s]
theorem putS_snoc (l : List Bs) (s x : Bs) : putS (l ++ [x]) s = stp s (putS l s) x := by simp [putS]

def PutOk (s : Bs) (l : List Bs) : Prop := Strict l →
    ((putS l s).1 = false ∧ (putS l s).2 = l ∧ ∀ x ∈ l, x < s) ∨
    ((putS l s).1 = true ∧ Strict (putS l s).2 ∧ (∀ x, x ∈ (putS l s).2 ↔ x ∈ l ∨ x = s) ∧ ∃ y ∈ l, s ≤ y)
theorem putS_facts (s : Bs) (l : List Bs) : PutOk s l := by
  refine rev_ind (P := PutOk s) ?_ ?_ l
  · intro _; exact .inl ⟨rfl, rfl, fun x hx => by simp at hx⟩
  · intro l x ih hl
    obtain ⟨h1, h2, h3⟩ := List.pairwise_append.1 hl
    have hx : ∀ y ∈ l, y < x := fun y hy => h3 y hy x (by simp)
    rw [putS_snoc]
    rcases ih h1 with ⟨a, b, c⟩ | ⟨a, b, c, y, hy, hsy⟩
    · unfold stp
      rw [a, b]
      by_cases e : x = s
      · subst e
        simp only [Bool.false_or, decide_true, if_true]
        refine .inr ⟨trivial, hl, fun z => by simp, x, by simp, List.le_refl _⟩
      · simp only [Bool.false_or, decide_eq_true_eq, if_neg e]
        by_cases hlt : s < x
        · rw [if_pos hlt]
          refine .inr ⟨rfl, ?_, fun z => ?_, x, by simp, le_of_lt hlt⟩
          · refine List.pairwise_append.2 ⟨List.pairwise_append.2 ⟨h1, List.pairwise_singleton _ _, fun y hy z hz => ?_⟩, List.pairwise_singleton _ _, fun y hy z hz => ?_⟩
            · simp only [List.mem_cons, List.not_mem_nil, or_false] at hz
              subst hz; exact c y hy
            · simp only [List.mem_cons, List.not_mem_nil, or_false] at hz
              subst hz
              rcases List.mem_append.1 hy with h | h
              · exact hx y h
              · simp only [List.mem_cons, List.not_mem_nil, or_false] at h
                subst h; exact hlt
          · simp only [List.mem_append, List.mem_cons, List.not_mem_nil, or_false]
            constructor
            · rintro ((h | h) | h)
              · exact .inl (.inl h)
              · exact .inr h
              · exact .inl (.inr h)
            · rintro ((h | h) | h)
              · exact .inl (.inl h)
              · exact .inr h
              · exact .inl (.inr h)
        · rw [if_neg hlt]
          refine .inl ⟨rfl, rfl, fun z hz => ?_⟩
          rcases List.mem_append.1 hz with h | h
          · exact c z h
          · simp only [List.mem_cons, List.not_mem_nil, or_false] at h
            subst h
            exact lt_of_ne (List.not_lt.1 hlt) e
    · unfold stp
      rw [a]
      simp only [Bool.true_or, if_true]
      refine .inr ⟨trivial, ?_, fun z => ?_, y, by simp [hy], hsy⟩
      · refine List.pairwise_append.2 ⟨b, List.pairwise_singleton _ _, fun z hz v hv => ?_⟩
        simp only [List.mem_cons, List.not_mem_nil, or_false] at hv
        subst hv
        rcases (c z).1 hz with h | h
        · exact hx z h
        · subst h; exact lt_of_le_lt hsy (hx y hy)
      · simp only [List.mem_append, List.mem_cons, List.not_mem_nil, or_false, c z]
        constructor
        · rintro ((h | h) | h)
          · exact .inl (.inl h)
          · exact .inr h
          · exact .inl (.inr h)
        · rintro ((h | h) | h)
          · exact .inl (.inl h)
          · exact .inr h
          · exact .inl (.inr h)
theorem put_strict (l : List Bs) (s : Bs) (h : Strict l) : Strict (put l s) := by
  unfold put
  rcases putS_facts s l h with ⟨a, b, c⟩ | ⟨a, b, _⟩
  · rw [a, b]
    exact List.pairwise_append.2 ⟨h, List.pairwise_singleton _ _, fun y hy z hz => by
      simp only [List.mem_cons, List.not_mem_nil, or_false] at hz
      subst hz; exact c y hy⟩
  · rw [a]; exact b
theorem put_mem (l : List Bs) (s : Bs) (h : Strict l) (x : Bs) : x ∈ put l s ↔ x ∈ l ∨ x = s := by
  unfold put
  rcases putS_facts s l h with ⟨a, b, c⟩ | ⟨a, _, b, _⟩
  · rw [a, b]; simp
  · rw [a]; exact b x
/-- The reference's list behind the first elements. -/
def refL (l : List Bs) : List Bs := l.foldl put []
theorem refL_snoc (l : List Bs) (x : Bs) : refL (l ++ [x]) = put (refL l) x := by simp [refL]
theorem refL_facts (l : List Bs) : Strict (refL l) ∧ ∀ x, x ∈ refL l ↔ x ∈ l := by
  refine rev_ind (P := fun l => Strict (refL l) ∧ ∀ x, x ∈ refL l ↔ x ∈ l) ?_ ?_ l
  · exact ⟨List.Pairwise.nil, fun x => Iff.rfl⟩
  · intro l x ih
    rw [refL_snoc]
    refine ⟨put_strict _ _ ih.1, fun z => ?_⟩
    rw [put_mem _ _ ih.1, ih.2]; simp
theorem ref_ins (l : List Bs) (s : Bs) : put (refL l) s = ins l s := by
  refine strict_ext _ _ (put_strict _ _ (refL_facts l).1) (ins_strict l s) fun x => ?_
  rw [put_mem _ _ (refL_facts l).1, (refL_facts l).2, ins_mem]

/- ### The law's facts -/
theorem ins_twice (l : List Bs) (s : Bs) : ins (ins l s) s = ins l s := by
  refine strict_ext _ _ (ins_strict _ _) (ins_strict _ _) fun x => ?_
  simp only [ins_mem]
  constructor
  · rintro (h | h)
    · exact h
    · exact .inr h
  · exact fun h => .inl h
theorem ins_swap (l : List Bs) (s t : Bs) : ins (ins l s) t = ins (ins l t) s := by
  refine strict_ext _ _ (ins_strict _ _) (ins_strict _ _) fun x => ?_
  simp only [ins_mem]
  constructor
  · rintro ((h | h) | h)
    · exact .inl (.inl h)
    · exact .inr h
    · exact .inl (.inr h)
  · rintro ((h | h) | h)
    · exact .inl (.inl h)
    · exact .inr h
    · exact .inl (.inr h)

/- ### As strings -/
def mk (l : Bs) : ByteArray := ⟨l.toArray⟩
theorem mk_list (l : Bs) : (mk l).data.toList = l := by simp [mk]
theorem mk_self (s : ByteArray) : mk s.data.toList = s := list_ext (mk_list _)
def bs (xs : List ByteArray) : List Bs := xs.map (·.data.toList)
theorem bs_mk (l : List Bs) : bs (l.map mk) = l := by
  unfold bs; rw [List.map_map]
  conv => rhs; rw [← List.map_id l]
  apply List.map_congr_left
  intro x _
  exact mk_list x
theorem mk_bs (xs : List ByteArray) : (bs xs).map mk = xs := by
  unfold bs; rw [List.map_map]
  conv => rhs; rw [← List.map_id xs]
  apply List.map_congr_left
  intro x _
  exact mk_self x
/-- What Insert gives, as strings. -/
def insB (xs : List ByteArray) (s : ByteArray) : List ByteArray := (ins (bs xs) s.data.toList).map mk
theorem insB_bs (xs : List ByteArray) (s : ByteArray) : bs (insB xs s) = ins (bs xs) s.data.toList := bs_mk _
theorem insB_mem (xs : List ByteArray) (s x : ByteArray) : x ∈ insB xs s ↔ x ∈ xs ∨ x = s := by
  have h1 : x ∈ insB xs s ↔ x.data.toList ∈ ins (bs xs) s.data.toList := by
    constructor
    · intro h
      obtain ⟨y, hy, rfl⟩ := List.mem_map.1 h
      rw [mk_list]; exact hy
    · intro h
      exact List.mem_map.2 ⟨_, h, mk_self x⟩
  rw [h1, ins_mem]
  constructor
  · rintro (h | h)
    · obtain ⟨y, hy, he⟩ := List.mem_map.1 h
      have : y = x := list_ext he
      subst this; exact .inl hy
    · exact .inr (list_ext h)
  · rintro (h | rfl)
    · exact .inl (List.mem_map.2 ⟨x, h, rfl⟩)
    · exact .inr rfl
theorem insB_twice (xs : List ByteArray) (s : ByteArray) : insB (insB xs s) s = insB xs s := by
  unfold insB; rw [bs_mk, ins_twice]
theorem insB_swap (xs : List ByteArray) (s t : ByteArray) : insB (insB xs s) t = insB (insB xs t) s := by
  unfold insB; rw [bs_mk, bs_mk, ins_swap]
theorem insB_len (xs : List ByteArray) (s : ByteArray) : (insB xs s).length ≤ xs.length + 1 := by
  unfold insB ins
  rw [List.length_map]
  refine Nat.le_trans (Lib.compact_length_le _) ?_
  rw [srt_len]; simp [bs]
theorem map_rises (l : List Bs) (hs : Strict l) (i : Nat) (h0 : 0 < i) (h : i < (l.map mk).length) : (l.map mk)[i - 1].toList < (l.map mk)[i].toList := by
  have hl : i < l.length := by rwa [List.length_map] at h
  have hp := List.pairwise_iff_getElem.1 hs (i - 1) i (by omega) hl (by omega)
  rw [List.getElem_map, List.getElem_map, toList_eq, toList_eq, mk_list, mk_list]
  exact hp
theorem insB_rises (xs : List ByteArray) (s : ByteArray) (i : Nat) (h0 : 0 < i) (h : i < (insB xs s).length) :
    (insB xs s)[i - 1].toList < (insB xs s)[i].toList := map_rises _ (ins_strict (bs xs) s.data.toList) i h0 h

theorem putS_len (s : Bs) (l : List Bs) : (putS l s).2.length ≤ l.length + 1 ∧ ((putS l s).1 = false → (putS l s).2.length ≤ l.length) := by
  refine rev_ind (P := fun l => (putS l s).2.length ≤ l.length + 1 ∧ ((putS l s).1 = false → (putS l s).2.length ≤ l.length)) ?_ ?_ l
  · exact ⟨by simp [putS], fun _ => by simp [putS]⟩
  · intro l x ih
    rw [putS_snoc]
    unfold stp
    split
    · exact ⟨by simp; exact ih.1, fun h => by cases h⟩
    · rename_i hc
      have h1 : (putS l s).1 = false := by
        cases h : (putS l s).1
        · rfl
        · rw [h] at hc; simp at hc
      have := ih.2 h1
      split
      · exact ⟨by simp; exact this, fun h => by cases h⟩
      · exact ⟨by simp; omega, fun _ => by simp; exact this⟩
/-- The reference's state behind the first k strings. -/
def pk (xs : List ByteArray) (s : ByteArray) (k : Nat) : Bool × List ByteArray := ((putS (bs (xs.take k)) s.data.toList).1, (putS (bs (xs.take k)) s.data.toList).2.map mk)
theorem pk_zero (xs : List ByteArray) (s : ByteArray) : pk xs s 0 = (false, []) := rfl
theorem pk_len (xs : List ByteArray) (s : ByteArray) (k : Nat) : (pk xs s k).2.length ≤ k + 1 := by
  unfold pk
  have := (putS_len s.data.toList (bs (xs.take k))).1
  simp only [List.length_map]
  unfold bs at this ⊢
  rw [List.length_map, List.length_take] at this
  omega
theorem pk_succ (xs : List ByteArray) (s : ByteArray) (k : Nat) (h : k < xs.length) :
    pk xs s (k + 1) = if (pk xs s k).1 || decide (xs[k] = s) then (true, (pk xs s k).2 ++ [xs[k]]) else if s.data.toList < xs[k].data.toList then (true, (pk xs s k).2 ++ [s] ++ [xs[k]]) else (false, (pk xs s k).2 ++ [xs[k]]) := by
  unfold pk
  rw [List.take_succ_eq_append_getElem h]
  have e : bs (xs.take k ++ [xs[k]]) = bs (xs.take k) ++ [xs[k].data.toList] := by unfold bs; rw [List.map_append]; rfl
  rw [e, putS_snoc]
  have hd : decide (xs[k].data.toList = s.data.toList) = decide (xs[k] = s) := by
    rw [Bool.eq_iff_iff]
    simp only [decide_eq_true_eq]
    exact ⟨fun h => list_ext h, fun h => by rw [h]⟩
  unfold stp
  rw [hd]
  split
  · rename_i hc
    rw [List.map_append, List.map_cons, mk_self]; rfl
  · split
    · rw [List.map_append, List.map_append, List.map_cons, List.map_cons, mk_self, mk_self]; rfl
    · rw [List.map_append, List.map_cons, mk_self]; rfl
def putB (xs : List ByteArray) (s : ByteArray) : List ByteArray := if (pk xs s xs.length).1 then (pk xs s xs.length).2 else (pk xs s xs.length).2 ++ [s]
theorem putB_eq (xs : List ByteArray) (s : ByteArray) : putB xs s = (put (bs xs) s.data.toList).map mk := by
  unfold putB put pk
  rw [List.take_length]
  split
  · rfl
  · rw [List.map_append, List.map_cons, mk_self]; rfl
theorem putB_nil (s : ByteArray) : putB [] s = [s] := rfl
def refB (xs : List ByteArray) : List ByteArray := (refL (bs xs)).map mk
theorem refB_nil : refB [] = [] := rfl
theorem refB_succ (xs : List ByteArray) (k : Nat) (h : k < xs.length) : refB (xs.take (k + 1)) = putB (refB (xs.take k)) xs[k] := by
  rw [putB_eq]
  unfold refB
  rw [bs_mk, List.take_succ_eq_append_getElem h]
  have e : bs (xs.take k ++ [xs[k]]) = bs (xs.take k) ++ [xs[k].data.toList] := by unfold bs; rw [List.map_append]; rfl
  rw [e, refL_snoc]
theorem ref_insB (xs : List ByteArray) (s : ByteArray) : putB (refB xs) s = insB xs s := by
  rw [putB_eq]
  unfold refB insB
  rw [bs_mk, ref_ins]
theorem putB_len (xs : List ByteArray) (s : ByteArray) : (putB xs s).length ≤ xs.length + 1 := by
  rw [putB_eq, List.length_map]
  unfold put
  have h := putS_len s.data.toList (bs xs)
  have e : (bs xs).length = xs.length := by simp [bs]
  rw [e] at h
  split
  · exact h.1
  · rename_i hc
    have := h.2 (by simpa using hc)
    simp; omega
theorem refB_len (xs : List ByteArray) (k : Nat) : (refB (xs.take k)).length ≤ k := by
  induction k with
  | zero => simp [refB_nil]
  | succ k ih =>
    by_cases h : k < xs.length
    · rw [refB_succ xs k h]
      have := putB_len (refB (xs.take k)) xs[k]
      omega
    · have e : xs.take (k + 1) = xs.take k := by rw [List.take_of_length_le (by omega), List.take_of_length_le (by omega)]
      rw [e]; omega
end Go.Proofs.Ytoelfiendfemaaa.Pl

