/- (As in stage 1.) Lines and positions of a string, as plain functions of lists of bytes: nothing of the program. Facts on splitting, joining, positions, and on how a range over a string steps over bytes that are no characters of one byte. -/
import Derived.Laws.RangeAny
import Derived.Lib.Strings
namespace Go.Proofs.YtceoleddijnieaaDoor.Pl
open Go
set_option linter.unusedVariables false
set_option linter.unusedSimpArgs false

abbrev Bs := List UInt8

/-- One byte: the lines that are complete, and the line under way. -/
def step (p : List Bs × Bs) (c : UInt8) : List Bs × Bs := if c = 10 then (p.1 ++ [p.2 ++ [c]], []) else (p.1, p.2 ++ [c])
def st (l : Bs) : List Bs × Bs := l.foldl step ([], [])
def lns (l : Bs) : List Bs := if (st l).2 = [] then (st l).1 else (st l).1 ++ [(st l).2]

theorem st_nil : st [] = ([], []) := rfl
theorem st_snoc (l : Bs) (c : UInt8) : st (l ++ [c]) = step (st l) c := by simp [st]
theorem st_snoc_nl (l : Bs) : st (l ++ [10]) = ((st l).1 ++ [(st l).2 ++ [10]], []) := by simp [st_snoc, step]
theorem st_snoc_no (l : Bs) (c : UInt8) (h : c ≠ 10) : st (l ++ [c]) = ((st l).1, (st l).2 ++ [c]) := by simp [st_snoc, step, h]

/-- Several bytes without a line feed. -/
theorem st_append_no (l m : Bs) (h : ∀ c ∈ m, c ≠ 10) : st (l ++ m) = ((st l).1, (st l).2 ++ m) := by
  induction m generalizing l with
  | nil => simp
  | cons c r ih =>
    have e : l ++ c :: r = (l ++ [c]) ++ r := by simp
    rw [e, ih _ (fun x hx => h x (by simp [hx])), st_snoc_no _ _ (h c (by simp))]
    simp

/-- Behind a whole line, the state of the rest. -/
theorem st_append_base (l m : Bs) (h : (st l).2 = []) : st (l ++ m) = ((st l).1 ++ (st m).1, (st m).2) := by
  have key : ∀ (m : Bs) (A : List Bs) (p : List Bs × Bs), m.foldl step (A ++ p.1, p.2) = (A ++ (m.foldl step p).1, (m.foldl step p).2) := by
    intro m
    induction m with
    | nil => intro A p; rfl
    | cons c r ih =>
      intro A p
      simp only [List.foldl_cons]
      have : step (A ++ p.1, p.2) c = (A ++ (step p c).1, (step p c).2) := by
        unfold step; split <;> simp
      rw [this]; exact ih A _
  have := key m (st l).1 ([], [])
  simp only [List.append_nil] at this
  unfold st at this h ⊢
  rw [List.foldl_append]
  rw [← this]
  congr 1
  exact Prod.ext rfl h

theorem flat (l : Bs) : (st l).1.flatten ++ (st l).2 = l := by
  have key : ∀ (m : Bs) (p : List Bs × Bs), (m.foldl step p).1.flatten ++ (m.foldl step p).2 = p.1.flatten ++ p.2 ++ m := by
    intro m
    induction m with
    | nil => intro p; simp
    | cons c r ih =>
      intro p
      simp only [List.foldl_cons]
      rw [ih]
      unfold step; split <;> simp
  have := key l ([], [])
  simpa [st] using this

theorem lns_flat (l : Bs) : (lns l).flatten = l := by
  unfold lns
  split
  · rename_i h
    have := flat l
    rw [h] at this; simpa using this
  · have := flat l
    simpa using this

/-- Each complete line ends with its only line feed; the one under way has none. -/
theorem good (l : Bs) : (∀ x ∈ (st l).1, ∃ y : Bs, x = y ++ [10] ∧ ∀ c ∈ y, c ≠ 10) ∧ ∀ c ∈ (st l).2, c ≠ 10 := by
  have key : ∀ (m : Bs) (p : List Bs × Bs), ((∀ x ∈ p.1, ∃ y : Bs, x = y ++ [10] ∧ ∀ c ∈ y, c ≠ 10) ∧ ∀ c ∈ p.2, c ≠ 10) →
      ((∀ x ∈ (m.foldl step p).1, ∃ y : Bs, x = y ++ [10] ∧ ∀ c ∈ y, c ≠ 10) ∧ ∀ c ∈ (m.foldl step p).2, c ≠ 10) := by
    intro m
    induction m with
    | nil => intro p h; exact h
    | cons c r ih =>
      intro p h
      simp only [List.foldl_cons]
      apply ih
      unfold step
      split
      · rename_i hc
        refine ⟨?_, by simp⟩
        intro x hx
        simp only [List.mem_append, List.mem_singleton] at hx
        rcases hx with hx | hx
        · exact h.1 x hx
        · exact ⟨p.2, by rw [hx, hc], h.2⟩
      · rename_i hc
        refine ⟨h.1, ?_⟩
        intro x hx
        simp only [List.mem_append, List.mem_singleton] at hx
        rcases hx with hx | hx
        · exact h.2 x hx
        · rw [hx]; exact hc
  exact key l ([], []) ⟨by simp, by simp⟩

/-- How many bytes are in the line under way, and how many lines there are. -/
theorem cur_le (l : Bs) : (st l).2.length ≤ l.length := by
  have := congrArg List.length (flat l)
  simp only [List.length_append] at this; omega
theorem done_le (l : Bs) : (st l).1.length + (st l).2.length ≤ l.length := by
  have h := congrArg List.length (flat l)
  simp only [List.length_append] at h
  have : ∀ (L : List Bs), (∀ x ∈ L, 1 ≤ x.length) → L.length ≤ L.flatten.length := by
    intro L
    induction L with
    | nil => intro _; simp
    | cons a r ih =>
      intro hh
      have h1 := hh a (by simp)
      have h2 := ih (fun x hx => hh x (by simp [hx]))
      simp only [List.length_cons, List.flatten_cons, List.length_append]; omega
  have := this (st l).1 (fun x hx => by obtain ⟨y, rfl, _⟩ := (good l).1 x hx; simp)
  omega
theorem lns_le (l : Bs) : (lns l).length ≤ l.length := by
  have := done_le l
  unfold lns; split
  · omega
  · rename_i h
    have : 1 ≤ (st l).2.length := by
      cases hh : (st l).2 with
      | nil => exact absurd hh h
      | cons a r => simp
    simp only [List.length_append, List.length_singleton]; omega

theorem list_ext {a b : ByteArray} (h : a.data.toList = b.data.toList) : a = b := by
  apply ByteArray.ext; exact Array.toList_inj.1 h
theorem extract_all (s : ByteArray) : s.extract 0 s.size = s := by
  apply list_ext
  rw [Lib.extract_data, List.drop_zero, Nat.sub_zero, List.take_of_length_le]
  rw [Lib.size_eq]; exact Nat.le_refl _
theorem extract_list (s : ByteArray) (a b : Nat) : (s.extract a b).data.toList = (s.data.toList.take b).drop a := by
  rw [Lib.extract_data, List.drop_take]

/- ### Positions -/

def line (l : Bs) : Nat := (st l).1.length + 1
def col (l : Bs) : Nat := (st l).2.length + 1
def posL (l : Bs) (at' : Nat) : Nat × Nat := (line (l.take at'), col (l.take at'))

theorem take_snoc (l : Bs) (k : Nat) (h : k < l.length) : l.take (k + 1) = l.take k ++ [l[k]] := by
  rw [List.take_succ_eq_append_getElem h]

/-- Each step moves the position on. -/
theorem pos_step (l : Bs) (k : Nat) (h : k < l.length) :
    posL l (k + 1) = if l[k] = 10 then (line (l.take k) + 1, 1) else (line (l.take k), col (l.take k) + 1) := by
  unfold posL
  rw [take_snoc l k h]
  by_cases hc : l[k] = 10
  · rw [if_pos hc, hc, ]
    unfold line col; rw [st_snoc_nl]; simp
  · rw [if_neg hc]
    unfold line col; rw [st_snoc_no _ _ hc]; simp

def before (p q : Nat × Nat) : Prop := p.1 < q.1 ∨ (p.1 = q.1 ∧ p.2 < q.2)

theorem pos_mono (l : Bs) (a b : Nat) (h : a < b) (hb : b ≤ l.length) : before (posL l a) (posL l b) := by
  induction b with
  | zero => omega
  | succ b ih =>
    have hs := pos_step l b (by omega)
    have one : before (posL l b) (posL l (b + 1)) := by
      rw [hs]; unfold before posL
      split
      · left; simp
      · right; simp
    by_cases hab : a = b
    · subst hab; exact one
    · have := ih (by omega) (by omega)
      unfold before at *
      omega

theorem pos_inj (l : Bs) (a b : Nat) (ha : a ≤ l.length) (hb : b ≤ l.length) (h : posL l a = posL l b) : a = b := by
  rcases Nat.lt_trichotomy a b with hh | hh | hh
  · have := pos_mono l a b hh hb; rw [h] at this; unfold before at this; omega
  · exact hh
  · have := pos_mono l b a hh ha; rw [h] at this; unfold before at this; omega

/-- The offset that has a position, if there is one. -/
def offL (l : Bs) (p : Int × Int) : Option Nat := (List.range (l.length + 1)).find? fun a => decide ((((posL l a).1 : Int), ((posL l a).2 : Int)) = p)

theorem offL_some (l : Bs) (p : Int × Int) (a : Nat) (ha : a ≤ l.length) (h : (((posL l a).1 : Int), ((posL l a).2 : Int)) = p) : offL l p = some a := by
  have hs : (offL l p).isSome := by
    unfold offL
    rw [List.find?_isSome]
    exact ⟨a, List.mem_range.2 (by omega), by simp [h]⟩
  obtain ⟨b, hb⟩ := Option.isSome_iff_exists.1 hs
  have h1 := List.find?_some (show List.find? _ _ = some b from hb)
  have h2 := List.mem_of_find?_eq_some hb
  have h2 := List.mem_range.1 h2
  have h1 := of_decide_eq_true h1
  rw [hb]; congr 1
  apply pos_inj l b a (by omega) ha
  rw [← h] at h1
  have e1 := congrArg Prod.fst h1
  have e2 := congrArg Prod.snd h1
  simp only at e1 e2
  exact Prod.ext (by omega) (by omega)

theorem offL_none (l : Bs) (p : Int × Int) (h : ∀ a, a ≤ l.length → (((posL l a).1 : Int), ((posL l a).2 : Int)) ≠ p) : offL l p = none := by
  unfold offL
  rw [List.find?_eq_none]
  intro a ha
  have := List.mem_range.1 ha
  simp only [decide_eq_true_eq]
  exact h a (by omega)

def offV (l : Bs) (p : Int × Int) : Int := match offL l p with | some a => a | none => 0
def offE (l : Bs) (p : Int × Int) : Int := match offL l p with | some _ => 0 | none => 2

/- ### A stretch without a line feed -/

/-- From a to b no line feed: the same line, the columns count on. -/
theorem stretch (l : Bs) (a b : Nat) (hab : a ≤ b) (hb : b ≤ l.length) (h : ∀ k, (hk : k < l.length) → a ≤ k → k < b → l[k] ≠ 10) :
    line (l.take b) = line (l.take a) ∧ col (l.take b) = col (l.take a) + (b - a) := by
  induction b with
  | zero => have : a = 0 := by omega
            subst this; simp
  | succ b ih =>
    by_cases e : a = b + 1
    · subst e; simp
    · have := ih (by omega) (by omega) (fun k hk h1 h2 => h k hk h1 (by omega))
      have hc := h b (by omega) (by omega) (by omega)
      have hs := pos_step l b (by omega)
      rw [if_neg hc] at hs
      unfold posL at hs
      have e1 := congrArg Prod.fst hs
      have e2 := congrArg Prod.snd hs
      simp only at e1 e2
      omega

/- ### How a range over a string steps -/

theorem get_eq (s : ByteArray) (k : Nat) (h : k < s.size) : s.get! k = s[k] := by
  simp [ByteArray.get!, getElem!_pos, h]
  rfl

/-- A byte of 128 or more: the step ends within the string, and passes such bytes only. -/
theorem decode_wide (s : ByteArray) (pos : Nat) (h : pos < s.size) (ha : 128 ≤ (s[pos]'h).toNat) :
    pos + (Utf8.decode s pos).2 ≤ s.size ∧ ∀ k, (hk : k < s.size) → pos ≤ k → k < pos + (Utf8.decode s pos).2 → 128 ≤ (s[k]'hk).toNat := by
  have hn : ¬ (s[pos]'h).toNat < 128 := by omega
  have one : pos + 1 ≤ s.size ∧ ∀ k, (hk : k < s.size) → pos ≤ k → k < pos + 1 → 128 ≤ (s[k]'hk).toNat := by
    refine ⟨by omega, fun k hk h1 h2 => ?_⟩
    have : k = pos := by omega
    subst this; exact ha
  have cont : ∀ j, (decide (pos + j < s.size) && ((s.get! (pos + j)).toNat / 64 == 2)) = true → pos + j < s.size ∧ ∀ hk : pos + j < s.size, 128 ≤ (s[pos + j]'hk).toNat := by
    intro j hj
    simp only [Bool.and_eq_true, decide_eq_true_eq, beq_iff_eq] at hj
    refine ⟨hj.1, fun hk => ?_⟩
    rw [get_eq s _ hk] at hj
    omega
  simp only [Utf8.decode, get_at s pos h, hn, if_false]
  split
  · rename_i hc
    simp only [Bool.and_eq_true] at hc
    have c1 := cont 1 (by simpa using hc.2)
    split
    · refine ⟨by show pos + 2 ≤ s.size; omega, fun k hk h1 h2 => ?_⟩
      have : k = pos ∨ k = pos + 1 := by simp only at h2; omega
      rcases this with rfl | rfl
      · exact ha
      · exact c1.2 hk
    · exact one
  · split
    · rename_i hc
      simp only [Bool.and_eq_true] at hc
      have c1 := cont 1 (by simpa using hc.1.2)
      have c2 := cont 2 (by simpa using hc.2)
      split
      · refine ⟨by show pos + 3 ≤ s.size; omega, fun k hk h1 h2 => ?_⟩
        have : k = pos ∨ k = pos + 1 ∨ k = pos + 2 := by simp only at h2; omega
        rcases this with rfl | rfl | rfl
        · exact ha
        · exact c1.2 hk
        · exact c2.2 hk
      · exact one
    · split
      · rename_i hc
        simp only [Bool.and_eq_true] at hc
        have c1 := cont 1 (by simpa using hc.1.1.2)
        have c2 := cont 2 (by simpa using hc.1.2)
        have c3 := cont 3 (by simpa using hc.2)
        split
        · refine ⟨by show pos + 4 ≤ s.size; omega, fun k hk h1 h2 => ?_⟩
          have : k = pos ∨ k = pos + 1 ∨ k = pos + 2 ∨ k = pos + 3 := by simp only at h2; omega
          rcases this with rfl | rfl | rfl | rfl
          · exact ha
          · exact c1.2 hk
          · exact c2.2 hk
          · exact c3.2 hk
        · exact one
      · exact one

/- ### Indentation -/

def isBlank (c : UInt8) : Bool := c = 32 || c = 9
def ind (l : Bs) : Nat := (l.takeWhile isBlank).length

theorem ind_le (l : Bs) : ind l ≤ l.length := by
  have := (List.takeWhile_sublist (l := l) isBlank).length_le
  exact this
theorem ind_yes (l : Bs) (k : Nat) (h : k < l.length) (hk : k < ind l) : isBlank l[k] = true := by
  induction l generalizing k with
  | nil => simp at h
  | cons a r ih =>
    unfold ind at hk ih
    rw [List.takeWhile_cons] at hk
    by_cases ha : isBlank a = true
    · rw [if_pos ha] at hk
      cases k with
      | zero => simpa using ha
      | succ k => simp only [List.length_cons] at hk h; simpa using ih k (by omega) (by omega)
    · rw [if_neg ha] at hk; simp at hk
theorem ind_no (l : Bs) (h : ind l < l.length) : isBlank l[ind l] = false := by
  induction l with
  | nil => simp at h
  | cons a r ih =>
    unfold ind at *
    by_cases ha : isBlank a = true
    · have e : (List.takeWhile isBlank (a :: r)).length = (List.takeWhile isBlank r).length + 1 := by rw [List.takeWhile_cons, if_pos ha]; simp
      simp only [e]
      simp only [e, List.length_cons] at h
      simpa using ih (by omega)
    · have e : (List.takeWhile isBlank (a :: r)).length = 0 := by rw [List.takeWhile_cons, if_neg ha]; simp
      simp only [e]
      simpa using ha
/-- What determines the indentation. -/
theorem ind_eq (l : Bs) (n : Nat) (hn : n ≤ l.length) (hy : ∀ k, (hk : k < l.length) → k < n → isBlank l[k] = true) (hno : ∀ hk : n < l.length, isBlank l[n] = false) : ind l = n := by
  rcases Nat.lt_trichotomy (ind l) n with h | h | h
  · have := ind_no l (by omega)
    have := hy (ind l) (by omega) h
    simp_all
  · exact h
  · have := ind_le l
    have h1 := ind_yes l n (by omega) h
    have h2 := hno (by omega)
    simp_all

/-- What a step of a range over a string gives, as one word. -/
def Rune (s : ByteArray) (pos : Nat) (h : pos < s.size) (c n : Nat) : Prop := 1 ≤ n ∧ pos + n ≤ s.size ∧ 
  ((c = (s[pos]'h).toNat ∧ n = 1 ∧ c < 128) ∨ (128 ≤ c ∧ c ≤ 2147483647 ∧ ∀ k, (hk : k < s.size) → pos ≤ k → k < pos + n → 128 ≤ (s[k]'hk).toNat))

/-- A step of a range over a string: the rune is below 128 exactly if the byte is, and is that byte then; the bytes that the step passes are that byte alone, or all 128 or more. -/
theorem rune_step (s : ByteArray) (pos : Nat) (h : pos < s.size) : ∃ c n, Utf8.decode s pos = (c, n) ∧ Rune s pos h c n := by
  refine ⟨(Utf8.decode s pos).1, (Utf8.decode s pos).2, rfl, ?_⟩
  by_cases ha : (s[pos]'h).toNat < 128
  · rw [decode_ascii s pos h ha]
    exact ⟨Nat.le_refl _, by show pos + 1 ≤ s.size; omega, .inl ⟨rfl, rfl, ha⟩⟩
  · have h1 := decode_high s pos h (by omega)
    have h2 := decode_wide s pos h (by omega)
    exact ⟨h1.2, h2.1, .inr ⟨h1.1, decode_le s pos, h2.2⟩⟩

theorem get_list (s : ByteArray) (k : Nat) (hk : k < s.size) (hl : k < s.data.toList.length) : s.data.toList[k] = s[k] := rfl

def Blanks (s : ByteArray) (pos : Nat) : Prop := pos ≤ s.size ∧ ∀ k, (hk : k < s.data.toList.length) → k < pos → isBlank s.data.toList[k] = true

theorem blank_go (s : ByteArray) (pos : Nat) (h : pos < s.size) (c n : Nat) (hr : Rune s pos h c n) (hb : Blanks s pos) (hc : (c : Int) = 32 ∨ (c : Int) = 9) : n = 1 ∧ Blanks s (pos + 1) := by
  rcases hr with ⟨_, _, ⟨h1, h2, h3⟩ | ⟨h1, _⟩⟩
  · refine ⟨h2, by omega, fun k hk hlt => ?_⟩
    by_cases e : k = pos
    · subst e
      rw [get_list s k h hk]
      have : s[k] = 32 ∨ s[k] = 9 := by
        rcases hc with hc | hc
        · left; apply UInt8.toNat_inj.1; show _ = 32; omega
        · right; apply UInt8.toNat_inj.1; show _ = 9; omega
      unfold isBlank; rcases this with e | e <;> simp [e]
    · exact hb.2 k hk (by omega)
  · omega

theorem blank_stop (s : ByteArray) (pos : Nat) (h : pos < s.size) (c n : Nat) (hr : Rune s pos h c n) (hb : Blanks s pos) (h1 : ¬ (c : Int) = 32) (h2 : ¬ (c : Int) = 9) : ind s.data.toList = pos := by
  refine ind_eq _ _ (by have := hb.1; simpa using this) (fun k hk hlt => hb.2 k hk hlt) (fun hk => ?_)
  rw [get_list s pos h hk]
  have h3 : s[pos].toNat ≠ 32 ∧ s[pos].toNat ≠ 9 := by
    rcases hr with ⟨hn, _, ⟨e, _, _⟩ | ⟨_, _, e⟩⟩
    · omega
    · have := e pos h (Nat.le_refl _) (by omega); omega
  unfold isBlank
  simp only [Bool.or_eq_false_iff, decide_eq_false_iff_not]
  exact ⟨fun e => h3.1 (by rw [e]; rfl), fun e => h3.2 (by rw [e]; rfl)⟩

theorem blank_end (s : ByteArray) (pos : Nat) (h : ¬ pos < s.size) (hb : Blanks s pos) : ind s.data.toList = pos :=
  ind_eq _ _ (by have := hb.1; simpa using this) (fun k hk hlt => hb.2 k hk hlt) (fun hk => absurd (by simpa using hk) h)

/- ### The state behind the first bytes of a string -/

/-- The state behind the first k bytes. -/
def sk (s : ByteArray) (k : Nat) : List Bs × Bs := st (s.data.toList.take k)

theorem sk_zero (s : ByteArray) : sk s 0 = ([], []) := rfl
theorem sk_all (s : ByteArray) (k : Nat) (h : s.size ≤ k) : sk s k = st s.data.toList := by
  unfold sk; rw [List.take_of_length_le (by rw [← Lib.size_eq]; exact h)]
theorem sk_nl (s : ByteArray) (k : Nat) (h : k < s.size) (hc : s[k].toNat = 10) : sk s (k + 1) = ((sk s k).1 ++ [(sk s k).2 ++ [10]], []) := by
  unfold sk
  rw [take_snoc _ k (by rw [← Lib.size_eq]; exact h), get_list s k h]
  have : s[k] = 10 := by apply UInt8.toNat_inj.1; rw [hc]; rfl
  rw [this, st_snoc_nl]
theorem sk_no (s : ByteArray) (k : Nat) (h : k < s.size) (hc : s[k].toNat ≠ 10) : sk s (k + 1) = ((sk s k).1, (sk s k).2 ++ [s[k]]) := by
  unfold sk
  rw [take_snoc _ k (by rw [← Lib.size_eq]; exact h), get_list s k h]
  exact st_snoc_no _ _ (fun e => hc (by rw [e]; rfl))
theorem sk_len (s : ByteArray) (k : Nat) (h : k ≤ s.size) : (sk s k).1.length + (sk s k).2.length ≤ k := by
  have := done_le (s.data.toList.take k)
  unfold sk
  rw [List.length_take, ← Lib.size_eq] at this; omega

theorem rune_nl (s : ByteArray) (pos : Nat) (h : pos < s.size) (c n : Nat) (hr : Rune s pos h c n) (hc : (c : Int) = 10) : n = 1 ∧ s[pos].toNat = 10 := by
  rcases hr with ⟨_, _, ⟨h1, h2, h3⟩ | ⟨h1, _⟩⟩
  · exact ⟨h2, by omega⟩
  · omega
theorem rune_no (s : ByteArray) (pos : Nat) (h : pos < s.size) (c n : Nat) (hr : Rune s pos h c n) (hc : ¬ (c : Int) = 10) : ∀ k, (hk : k < s.size) → pos ≤ k → k < pos + n → s[k].toNat ≠ 10 := by
  intro k hk h1 h2
  rcases hr with ⟨_, _, ⟨e1, e2, e3⟩ | ⟨e1, _, e3⟩⟩
  · have : k = pos := by omega
    subst this; omega
  · have := e3 k hk h1 h2; omega
/-- A stretch of bytes that are no line feeds. -/
theorem sk_stretch (s : ByteArray) (a n : Nat) (hb : a + n ≤ s.size) (h : ∀ k, (hk : k < s.size) → a ≤ k → k < a + n → s[k].toNat ≠ 10) :
    (sk s (a + n)).1 = (sk s a).1 ∧ (sk s (a + n)).2.length = (sk s a).2.length + n ∧ ∃ m : Bs, (sk s (a + n)).2 = (sk s a).2 ++ m := by
  induction n with
  | zero => exact ⟨rfl, rfl, [], by simp⟩
  | succ n ih =>
    obtain ⟨h1, h2, m, h3⟩ := ih (by omega) (fun k hk x y => h k hk x (by omega))
    have := sk_no s (a + n) (by omega) (h (a + n) (by omega) (by omega) (by omega))
    rw [show a + (n + 1) = a + n + 1 from rfl, this]
    refine ⟨h1, by simp only [List.length_append, List.length_singleton]; omega, m ++ [s[a + n]'(by omega)], by rw [h3]; simp⟩
theorem sk_rune_nl (s : ByteArray) (pos : Nat) (h : pos < s.size) (c n : Nat) (hr : Rune s pos h c n) (hc : (c : Int) = 10) : n = 1 ∧ sk s (pos + 1) = ((sk s pos).1 ++ [(sk s pos).2 ++ [10]], []) := by
  obtain ⟨h1, h2⟩ := rune_nl s pos h c n hr hc
  exact ⟨h1, sk_nl s pos h h2⟩
theorem sk_rune_no (s : ByteArray) (pos : Nat) (h : pos < s.size) (c n : Nat) (hr : Rune s pos h c n) (hc : ¬ (c : Int) = 10) :
    pos + n ≤ s.size ∧ 1 ≤ n ∧ (sk s (pos + n)).1 = (sk s pos).1 ∧ (sk s (pos + n)).2.length = (sk s pos).2.length + n :=
  ⟨hr.2.1, hr.1, (sk_stretch s pos n hr.2.1 (rune_no s pos h c n hr hc)).1, (sk_stretch s pos n hr.2.1 (rune_no s pos h c n hr hc)).2.1⟩

theorem cur_nil_snoc (l : Bs) (c : UInt8) : (st (l ++ [c])).2 = [] ↔ c = 10 := by
  rw [st_snoc]; unfold step; split <;> simp_all
theorem lns_size (s : ByteArray) (h : 0 < s.size) : (lns s.data.toList).length = (sk s s.size).1.length + if (s[s.size - 1]'(by omega)).toNat = 10 then 0 else 1 := by
  rw [sk_all s s.size (Nat.le_refl _)]
  have e : s.data.toList = s.data.toList.take (s.size - 1) ++ [s[s.size - 1]'(by omega)] := by
    have := take_snoc s.data.toList (s.size - 1) (by rw [← Lib.size_eq]; omega)
    rw [get_list s _ (by omega)] at this
    rw [← this, List.take_of_length_le]
    rw [← Lib.size_eq]; omega
  have hn := cur_nil_snoc (s.data.toList.take (s.size - 1)) (s[s.size - 1]'(by omega))
  rw [← e] at hn
  unfold lns
  by_cases hc : s[s.size - 1] = 10
  · rw [if_pos (hn.2 hc), if_pos (by rw [hc]; rfl)]; rfl
  · rw [if_neg (fun x => hc (hn.1 x)), if_neg (fun x => hc (by apply UInt8.toNat_inj.1; rw [x]; rfl))]; simp

theorem size_zero (s : ByteArray) (h : s.toList = []) : s.size = 0 := by
  rw [Lib.size_eq, ← Lib.toList_data, h]; rfl
theorem size_pos (s : ByteArray) (h : ¬ s.toList = []) : 1 ≤ s.size := by
  rw [Lib.size_eq, ← Lib.toList_data]
  cases e : s.toList with
  | nil => exact absurd e h
  | cons a r => simp
theorem lns_empty (s : ByteArray) (h : s.toList = []) : (lns s.data.toList).length = (sk s s.size).1.length := by
  have h0 := size_zero s h
  have : s.data.toList = [] := by apply List.eq_nil_of_length_eq_zero; rw [← Lib.size_eq]; exact h0
  unfold sk; rw [this]; simp [lns, st_nil]

theorem sk_extract (s : ByteArray) (a k : Nat) (h : k ≤ a) : sk (s.extract 0 a) k = sk s k := by
  unfold sk
  rw [extract_list, List.drop_zero, List.take_take, Nat.min_eq_left h]
theorem extract_size (s : ByteArray) (a : Nat) (h : a ≤ s.size) : (s.extract 0 a).size = a := by
  rw [Lib.size_eq, extract_list, List.drop_zero, List.length_take, ← Lib.size_eq]; omega
def lineOf (s : ByteArray) (k : Nat) : Nat := (sk s k).1.length + 1
def colOf (s : ByteArray) (k : Nat) : Nat := (sk s k).2.length + 1

/- ### Which offset has a position -/

theorem posL_sk (s : ByteArray) (k : Nat) : posL s.data.toList k = (lineOf s k, colOf s k) := rfl

theorem sk_step (s : ByteArray) (k : Nat) (h : k < s.size) :
    (s[k].toNat = 10 ∧ (sk s (k + 1)).1.length = (sk s k).1.length + 1 ∧ (sk s (k + 1)).2.length = 0) ∨
    (s[k].toNat ≠ 10 ∧ (sk s (k + 1)).1.length = (sk s k).1.length ∧ (sk s (k + 1)).2.length = (sk s k).2.length + 1) := by
  by_cases hc : s[k].toNat = 10
  · left; rw [sk_nl s k h hc]; exact ⟨hc, by simp, by simp⟩
  · right; rw [sk_no s k h hc]; exact ⟨hc, rfl, by simp⟩

/-- The line of an offset: the offsets before it on its line. -/
theorem seg (s : ByteArray) (pos : Nat) (h : pos ≤ s.size) : ∀ j, j ≤ (sk s pos).2.length →
    (sk s (pos - (sk s pos).2.length + j)).1.length = (sk s pos).1.length ∧ (sk s (pos - (sk s pos).2.length + j)).2.length = j := by
  induction pos with
  | zero =>
    intro j hj
    have : (sk s 0).2.length = 0 := rfl
    have : j = 0 := by omega
    subst this
    exact ⟨rfl, rfl⟩
  | succ k ih =>
    intro j hj
    have hl := sk_len s k (by omega)
    rcases sk_step s k (by omega) with ⟨_, h1, h2⟩ | ⟨_, h1, h2⟩
    · have : j = 0 := by omega
      subst this
      rw [h2]
      exact ⟨rfl, h2⟩
    · by_cases e : j = (sk s (k + 1)).2.length
      · rw [e]
        have hl2 := sk_len s (k + 1) h
        rw [show k + 1 - (sk s (k + 1)).2.length + (sk s (k + 1)).2.length = k + 1 from by omega]
        exact ⟨rfl, rfl⟩
      · have := ih (by omega) j (by omega)
        rw [h2, show k + 1 - ((sk s k).2.length + 1) = k - (sk s k).2.length from by omega, h1]
        exact this

theorem line_mono (s : ByteArray) (a b : Nat) (h : a ≤ b) (hb : b ≤ s.size) : (sk s a).1.length ≤ (sk s b).1.length := by
  induction b with
  | zero => have : a = 0 := by omega
            subst this; exact Nat.le_refl _
  | succ b ih =>
    by_cases e : a = b + 1
    · subst e; exact Nat.le_refl _
    · have := ih (by omega) (by omega)
      rcases sk_step s b (by omega) with ⟨_, h1, _⟩ | ⟨_, h1, _⟩ <;> omega

theorem off_hit (s : ByteArray) (pos st0 : Nat) (h : pos ≤ s.size) (hst : st0 + (sk s pos).2.length = pos) (he : pos = s.size ∨ ∃ hp : pos < s.size, s[pos].toNat = 10) (ln cl : Int) (hl : ((sk s pos).1.length : Int) + 1 = ln) :
    (1 ≤ cl → cl ≤ (pos : Int) - st0 + 1 → offV s.data.toList (ln, cl) = st0 + cl - 1 ∧ offE s.data.toList (ln, cl) = 0) ∧
    ((cl < 1 ∨ (pos : Int) - st0 + 1 < cl) → offV s.data.toList (ln, cl) = 0 ∧ offE s.data.toList (ln, cl) = 2) := by
  have hlen := sk_len s pos h
  have hst2 : pos - (sk s pos).2.length = st0 := by omega
  have hseg := seg s pos h
  rw [hst2] at hseg
  refine ⟨fun h1 h2 => ?_, fun hout => ?_⟩
  · obtain ⟨j, hj⟩ : ∃ j : Nat, cl = (j : Int) + 1 := ⟨(cl - 1).toNat, by omega⟩
    have hs := hseg j (by omega)
    have : offL s.data.toList (ln, cl) = some (st0 + j) := by
      apply offL_some
      · have := Lib.size_eq s; omega
      · rw [posL_sk]; unfold lineOf colOf
        rw [hs.1, hs.2]
        refine Prod.ext ?_ ?_
        · show ((_ : Nat) : Int) = ln; omega
        · show ((_ : Nat) : Int) = cl; omega
    unfold offV offE
    rw [this]
    exact ⟨by show ((st0 + j : Nat) : Int) = _; omega, rfl⟩
  · have : offL s.data.toList (ln, cl) = none := by
      apply offL_none
      intro a ha heq
      rw [posL_sk] at heq
      have ha' : a ≤ s.size := by rw [Lib.size_eq]; exact ha
      have e1 := congrArg Prod.fst heq
      have e2 := congrArg Prod.snd heq
      simp only [lineOf, colOf] at e1 e2
      by_cases hap : a ≤ pos
      · by_cases hlow : a < st0
        · have hm := pos_mono s.data.toList a st0 hlow (by rw [← Lib.size_eq]; omega)
          rw [posL_sk, posL_sk] at hm
          have h0 := hseg 0 (by omega)
          simp only [Nat.add_zero] at h0
          unfold before lineOf colOf at hm
          simp only at hm
          omega
        · have hs := hseg (a - st0) (by omega)
          rw [show st0 + (a - st0) = a from by omega] at hs
          omega
      · rcases he with he | ⟨hp, hc⟩
        · omega
        · have h1 := line_mono s (pos + 1) a (by omega) ha'
          rcases sk_step s pos hp with ⟨_, h2, _⟩ | ⟨h2, _, _⟩
          · omega
          · exact h2 hc
    unfold offV offE
    rw [this]
    exact ⟨rfl, rfl⟩

theorem off_miss (s : ByteArray) (ln cl : Int) (hl : ln < 1 ∨ ((sk s s.size).1.length : Int) + 1 < ln) : offV s.data.toList (ln, cl) = 0 ∧ offE s.data.toList (ln, cl) = 2 := by
  have : offL s.data.toList (ln, cl) = none := by
    apply offL_none
    intro a ha heq
    rw [posL_sk] at heq
    have ha' : a ≤ s.size := by rw [Lib.size_eq]; exact ha
    have e1 := congrArg Prod.fst heq
    simp only [lineOf] at e1
    have := line_mono s a s.size ha' (Nat.le_refl _)
    omega
  unfold offV offE
  rw [this]
  exact ⟨rfl, rfl⟩

/- ### The lines as strings -/

def mk (l : Bs) : ByteArray := ⟨l.toArray⟩
theorem mk_list (l : Bs) : (mk l).data.toList = l := by simp [mk]
theorem mk_size (l : Bs) : (mk l).size = l.length := by rw [Lib.size_eq, mk_list]

theorem drop_done (l : Bs) : l.drop (l.length - (st l).2.length) = (st l).2 := by
  have h := flat l
  have hl := congrArg List.length h
  simp only [List.length_append] at hl
  rw [show l.length - (st l).2.length = (st l).1.flatten.length from by omega]
  have h2 : ((st l).1.flatten ++ (st l).2).drop (st l).1.flatten.length = (st l).2 := by simp
  rw [h] at h2
  exact h2

theorem ext_cur (s : ByteArray) (pos st0 : Nat) (h : pos ≤ s.size) (hst : st0 + (sk s pos).2.length = pos) : s.extract st0 pos = mk (sk s pos).2 := by
  apply list_ext
  rw [extract_list, mk_list]
  have := drop_done (s.data.toList.take pos)
  rw [List.length_take, ← Lib.size_eq, Nat.min_eq_left h] at this
  unfold sk at hst ⊢
  rw [← this]
  congr 1; omega

theorem ext_nl (s : ByteArray) (pos st0 : Nat) (h : pos < s.size) (hc : s[pos].toNat = 10) (hst : st0 + (sk s pos).2.length = pos) : s.extract st0 (pos + 1) = mk ((sk s pos).2 ++ [10]) := by
  have e := sk_nl s pos h hc
  apply list_ext
  rw [extract_list, mk_list, take_snoc _ pos (by rw [← Lib.size_eq]; exact h), get_list s pos h]
  have hb : s[pos] = 10 := by apply UInt8.toNat_inj.1; rw [hc]; rfl
  rw [hb, List.drop_append_of_le_length (by rw [List.length_take, ← Lib.size_eq]; omega)]
  have := ext_cur s pos st0 (by omega) hst
  have h2 := congrArg (fun x : ByteArray => x.data.toList) this
  simp only [extract_list, mk_list] at h2
  rw [h2]

theorem lns_more (s : ByteArray) (h : 1 ≤ (sk s s.size).2.length) : lns s.data.toList = (sk s s.size).1 ++ [(sk s s.size).2] := by
  rw [sk_all s s.size (Nat.le_refl _)] at h ⊢
  unfold lns
  rw [if_neg]
  intro e; rw [e] at h; simp at h
theorem lns_done (s : ByteArray) (h : (sk s s.size).2.length = 0) : lns s.data.toList = (sk s s.size).1 := by
  rw [sk_all s s.size (Nat.le_refl _)] at h ⊢
  unfold lns
  rw [if_pos (List.eq_nil_of_length_eq_zero h)]

theorem blank_byte (s : ByteArray) (pos : Nat) (h : pos < s.size) (hb : Blanks s pos) (hc : s[pos].toNat = 32 ∨ s[pos].toNat = 9) : Blanks s (pos + 1) := by
  refine ⟨by omega, fun k hk hlt => ?_⟩
  by_cases e : k = pos
  · subst e
    rw [get_list s k h hk]
    have : s[k] = 32 ∨ s[k] = 9 := by
      rcases hc with hc | hc
      · left; apply UInt8.toNat_inj.1; rw [hc]; rfl
      · right; apply UInt8.toNat_inj.1; rw [hc]; rfl
    unfold isBlank; rcases this with e | e <;> simp [e]
  · exact hb.2 k hk (by omega)
theorem blank_other (s : ByteArray) (pos : Nat) (h : pos < s.size) (hb : Blanks s pos) (h1 : ¬ s[pos].toNat = 32) (h2 : ¬ s[pos].toNat = 9) : ind s.data.toList = pos := by
  refine ind_eq _ _ (by have := hb.1; simpa using this) (fun k hk hlt => hb.2 k hk hlt) (fun hk => ?_)
  rw [get_list s pos h hk]
  unfold isBlank
  simp only [Bool.or_eq_false_iff, decide_eq_false_iff_not]
  exact ⟨fun e => h1 (by rw [e]; rfl), fun e => h2 (by rw [e]; rfl)⟩

/-- A search from the front, one offset after the other. -/
theorem offL_at (s : ByteArray) (a : Nat) (ha : a ≤ s.size) (p : Int × Int) (h : (((lineOf s a : Nat) : Int), ((colOf s a : Nat) : Int)) = p) : offV s.data.toList p = a ∧ offE s.data.toList p = 0 := by
  have : offL s.data.toList p = some a := offL_some _ _ _ (by rw [← Lib.size_eq]; exact ha) (by rw [posL_sk]; exact h)
  unfold offV offE; rw [this]; exact ⟨rfl, rfl⟩
theorem offL_never (s : ByteArray) (p : Int × Int) (h : ∀ a, a ≤ s.size → (((lineOf s a : Nat) : Int), ((colOf s a : Nat) : Int)) ≠ p) : offV s.data.toList p = 0 ∧ offE s.data.toList p = 2 := by
  have : offL s.data.toList p = none := offL_none _ _ (fun a ha => by rw [posL_sk]; exact h a (by rw [Lib.size_eq]; exact ha))
  unfold offV offE; rw [this]; exact ⟨rfl, rfl⟩
theorem line_le (s : ByteArray) (a : Nat) (ha : a ≤ s.size) : lineOf s a ≤ a + 1 ∧ colOf s a ≤ a + 1 := by
  have := sk_len s a ha
  unfold lineOf colOf; omega

/- ### Two strings, one after the other -/

theorem lns_append (l m : Bs) (h : (st l).2 = []) : lns (l ++ m) = lns l ++ lns m := by
  unfold lns
  rw [st_append_base l m h, if_pos h]
  split
  · rfl
  · rw [List.append_assoc]
theorem lns_append_nl (l m : Bs) : lns (l ++ [10] ++ m) = lns (l ++ [10]) ++ lns m := lns_append _ _ (by rw [st_snoc_nl])
theorem lns_nl_pos (l : Bs) : 0 < (lns (l ++ [10])).length := by
  unfold lns
  rw [if_pos (by rw [st_snoc_nl]), st_snoc_nl]
  simp

/- ### What a line looks like -/

theorem mk_get (y : Bs) (k : Nat) (hk : k < (mk y).size) (hl : k < y.length) : (mk y)[k]'hk = y[k]'hl := by
  rw [← get_list _ _ hk (by rw [mk_list]; exact hl)]
  simp only [mk_list]
theorem whole_line (y : Bs) (hy : ∀ c ∈ y, c ≠ 10) : 1 ≤ (mk (y ++ [10])).size ∧ (∀ h : (mk (y ++ [10])).size - 1 < (mk (y ++ [10])).size, (mk (y ++ [10]))[(mk (y ++ [10])).size - 1].toNat = 10) ∧
    ∀ k, (hk : k < (mk (y ++ [10])).size) → k + 1 < (mk (y ++ [10])).size → (mk (y ++ [10]))[k].toNat ≠ 10 := by
  have hsz : (mk (y ++ [10])).size = y.length + 1 := by rw [mk_size]; simp
  refine ⟨by omega, fun h => ?_, fun k hk h2 => ?_⟩
  · have e : (mk (y ++ [10]))[(mk (y ++ [10])).size - 1] = (y ++ [10])[y.length]'(by simp) := by
      rw [← get_list _ _ h (by rw [mk_list]; simp; omega)]
      simp only [mk_list, hsz]; rfl
    rw [e]; simp
  · have e : (mk (y ++ [10]))[k] = (y ++ [10])[k]'(by simp; omega) := by
      rw [← get_list _ _ hk (by rw [mk_list]; simp; omega)]
      simp only [mk_list]
    rw [e, List.getElem_append_left (by omega)]
    intro h10
    exact hy _ (List.getElem_mem _) (by apply UInt8.toNat_inj.1; rw [h10]; rfl)
theorem part_line (y : Bs) (hy : ∀ c ∈ y, c ≠ 10) : ∀ k, (hk : k < (mk y).size) → (mk y)[k].toNat ≠ 10 := by
  intro k hk h10
  rw [mk_get y k hk (by rw [mk_size] at hk; exact hk)] at h10
  exact hy _ (List.getElem_mem _) (by apply UInt8.toNat_inj.1; rw [h10]; rfl)

theorem lns_good (l : Bs) (i : Nat) (x : Bs) (hx : (lns l)[i]? = some x) : 1 ≤ (mk x).size ∧ (i + 1 < (lns l).length → ∀ h : (mk x).size - 1 < (mk x).size, (mk x)[(mk x).size - 1].toNat = 10) ∧
    ∀ k, (hk : k < (mk x).size) → k + 1 < (mk x).size → (mk x)[k].toNat ≠ 10 := by
  have hg := good l
  have hi : i < (lns l).length := (List.getElem?_eq_some_iff.1 hx).1
  have done : ∀ x, x ∈ (st l).1 → 1 ≤ (mk x).size ∧ (i + 1 < (lns l).length → ∀ h : (mk x).size - 1 < (mk x).size, (mk x)[(mk x).size - 1].toNat = 10) ∧
    ∀ k, (hk : k < (mk x).size) → k + 1 < (mk x).size → (mk x)[k].toNat ≠ 10 := by
    intro x hm
    obtain ⟨y, rfl, hy⟩ := hg.1 x hm
    have h := whole_line y hy
    exact ⟨h.1, fun _ => h.2.1, h.2.2⟩
  by_cases hc : (st l).2 = []
  · have e : lns l = (st l).1 := by unfold lns; rw [if_pos hc]
    rw [e] at hx
    exact done x (List.mem_of_getElem? hx)
  · have e : lns l = (st l).1 ++ [(st l).2] := by unfold lns; rw [if_neg hc]
    by_cases hlt : i < (st l).1.length
    · rw [e, List.getElem?_append_left hlt] at hx
      exact done x (List.mem_of_getElem? hx)
    · have hle : (lns l).length = (st l).1.length + 1 := by rw [e]; simp
      have hie : i = (st l).1.length := by omega
      rw [e, hie, List.getElem?_append_right (Nat.le_refl _)] at hx
      simp only [Nat.sub_self, List.getElem?_cons_zero, Option.some.injEq] at hx
      subst hx
      refine ⟨?_, fun h => absurd h (by omega), fun k hk _ => part_line _ hg.2 k hk⟩
      rw [mk_size]
      exact List.length_pos_iff.2 hc
theorem cat_lns (s : ByteArray) : mk ((lns s.data.toList).map fun x => (mk x).data.toList).flatten = s := by
  apply list_ext
  rw [mk_list]
  have : ((lns s.data.toList).map fun x => (mk x).data.toList) = lns s.data.toList := by
    refine Eq.trans (List.map_congr_left (g := id) ?_) (List.map_id _)
    intro x _; rw [mk_list]; rfl
  rw [this, lns_flat]

theorem flatten_mem_le (L : List Bs) (x : Bs) (h : x ∈ L) : x.length ≤ L.flatten.length := by
  induction L with
  | nil => cases h
  | cons a r ih =>
    simp only [List.flatten_cons, List.length_append]
    rcases List.mem_cons.1 h with rfl | h
    · omega
    · have := ih h; omega
theorem lns_len (l : Bs) (i : Nat) (x : Bs) (hx : (lns l)[i]? = some x) : (mk x).size ≤ l.length := by
  have := flatten_mem_le _ _ (List.mem_of_getElem? hx)
  rw [lns_flat] at this
  rw [mk_size]; exact this
end Go.Proofs.YtceoleddijnieaaDoor.Pl
