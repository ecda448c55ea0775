/- The parts of a path, as plain functions on lists of bytes, and that cutting at every slash gives them. -/
import Derived.Test.YtjfmanflkcaohaaDoorPlain
import Derived.Lib.SplitLaws
import Derived.Lib.IndexLaws
import Derived.Lib.IndexBytes
namespace Go.Proofs.YtjfmanflkcaohaaDoor.Pl
open Go
set_option linter.unusedVariables false
set_option linter.unusedSimpArgs false

/-- What stands between the slashes. -/
def parts : Bs → List Bs
  | [] => [[]]
  | c :: l => if c = 47 then [] :: parts l else match parts l with | [] => [[c]] | p :: ps => (c :: p) :: ps

theorem parts_none : ∀ a : Bs, (∀ c ∈ a, c ≠ 47) → parts a = [a]
  | [], _ => rfl
  | c :: l, h => by
    have ih := parts_none l (fun x hx => h x (by simp [hx]))
    unfold parts
    rw [if_neg (h c (by simp)), ih]
theorem parts_cut : ∀ a b : Bs, (∀ c ∈ a, c ≠ 47) → parts (a ++ 47 :: b) = a :: parts b
  | [], b, _ => by show parts (47 :: b) = _; rw [parts, if_pos rfl]
  | c :: l, b, h => by
    have ih := parts_cut l b (fun x hx => h x (by simp [hx]))
    show parts (c :: (l ++ 47 :: b)) = _
    rw [parts, if_neg (h c (by simp)), ih]

theorem take_no (l : Bs) (o : Nat) (h : ∀ k, k < o → l[k]? ≠ some 47) : ∀ c ∈ l.take o, c ≠ 47 := by
  intro c hc e
  subst e
  obtain ⟨k, hk, he⟩ := List.getElem_of_mem hc
  have hk2 : k < o := by rw [List.length_take] at hk; omega
  apply h k hk2
  rw [List.getElem_take] at he
  rw [← he]
  exact List.getElem?_eq_getElem _
theorem cut_at (l : Bs) (o : Nat) (h : l[o]? = some 47) : l = l.take o ++ 47 :: l.drop (o + 1) := by
  obtain ⟨ho, he⟩ := List.getElem?_eq_some_iff.1 h
  conv => lhs; rw [← List.take_append_drop o l, List.drop_eq_getElem_cons ho, he]

theorem splitK_parts : ∀ (k : Nat) (s : Bs), s.count 47 ≤ k → Lib.splitK [47] 0 k s = parts s
  | 0, s, h => by
    rw [parts_none s fun c hc e => by
      subst e
      have := List.count_pos_iff.2 hc
      omega]
    rfl
  | k + 1, s, h => by
    unfold Lib.splitK
    rw [Lib.index_one]
    split
    · rename_i hm
      have hm2 : Lib.indexByte s 47 = -1 := by simpa using hm
      rw [parts_none s fun c hc e => by
        subst e
        obtain ⟨j, hj, he⟩ := List.getElem_of_mem hc
        exact Lib.indexByte_none hm2 j (by rw [← he]; exact List.getElem?_eq_getElem hj)]
    · rename_i hm
      have hm2 : ¬ Lib.indexByte s 47 = -1 := by simpa using hm
      have hge := Lib.indexByte_ge s 47
      obtain ⟨o, ho⟩ := Int.eq_ofNat_of_zero_le (show 0 ≤ Lib.indexByte s 47 by omega)
      obtain ⟨h1, h2⟩ := Lib.indexByte_some ho
      rw [ho]
      simp only [Int.toNat_natCast, Nat.add_zero, List.length_cons, List.length_nil, Nat.zero_add]
      have hc := cut_at s o h1
      have hcount : (s.drop (o + 1)).count 47 ≤ k := by
        rw [hc, List.count_append, List.count_cons_self] at h
        omega
      rw [splitK_parts k _ hcount]
      conv => rhs; rw [hc]
      rw [parts_cut _ _ (take_no s o h2)]

/-- The pieces of strings.Split at a slash. -/
def pieces (s : ByteArray) : List ByteArray := Lib.splitB ⟨#[47]⟩ 0 (Lib.countB s ⟨#[47]⟩) s
theorem pieces_parts (s : ByteArray) : (pieces s).map (·.data.toList) = parts s.data.toList := by
  unfold pieces
  rw [Lib.splitB_data]
  show Lib.splitK [47] 0 (Lib.count s.data.toList [47]) s.data.toList = _
  rw [Lib.count_one]
  exact splitK_parts _ _ (Nat.le_refl _)
theorem pieces_len (s : ByteArray) : (pieces s).length = Lib.countB s ⟨#[47]⟩ + 1 := Lib.splitB_all _ (by decide) 0 _ s rfl

theorem pieces_small (s : ByteArray) : (pieces s).length ≤ s.size + 1 := by
  rw [pieces_len]
  have := Lib.countB_le ⟨#[47]⟩ (by decide) s.size s (Nat.le_refl _)
  omega

/-- A path. -/
def pathB (s : ByteArray) : Bool := decide (s.size ≤ 64) && (parts s.data.toList).all pt
theorem path_long (s : ByteArray) (h : 64 < s.size) : pathB s = false := by
  unfold pathB
  have : decide (s.size ≤ 64) = false := by simp; omega
  rw [this]; rfl
theorem path_pieces (s : ByteArray) (h : s.size ≤ 64) : pathB s = (pieces s).all fun p => pt p.data.toList := by
  unfold pathB
  rw [← pieces_parts, List.all_map]
  simp [h]
  rfl
theorem path_yes (s : ByteArray) (h : s.size ≤ 64) (hp : ∀ j, (hj : j < (pieces s).length) → pt (pieces s)[j].data.toList = true) : pathB s = true := by
  rw [path_pieces s h, List.all_eq_true]
  intro p hp2
  obtain ⟨j, hj, rfl⟩ := List.getElem_of_mem hp2
  exact hp j hj
theorem path_no (s : ByteArray) (h : s.size ≤ 64) (j : Nat) (hj : j < (pieces s).length) (hp : pt (pieces s)[j].data.toList = false) : pathB s = false := by
  rw [path_pieces s h, List.all_eq_false]
  exact ⟨_, List.getElem_mem hj, by rw [hp]; simp⟩
theorem piece_le (s : ByteArray) : ∀ (k : Nat) (t : ByteArray), ∀ p ∈ Lib.splitB ⟨#[47]⟩ 0 k t, p.size ≤ t.size
  | 0, t, p, hp => by
    rw [Lib.splitB_zero] at hp
    simp at hp; subst hp; exact Nat.le_refl _
  | k + 1, t, p, hp => by
    unfold Lib.splitB at hp
    split at hp
    · simp at hp; subst hp; exact Nat.le_refl _
    · rcases List.mem_cons.1 hp with rfl | hp
      · rw [ByteArray.size_extract]; omega
      · have := piece_le s k _ p hp
        rw [ByteArray.size_extract] at this; omega
theorem pieces_le (s : ByteArray) (p : ByteArray) (hp : p ∈ pieces s) : p.size ≤ s.size := piece_le s _ _ p hp

/-- What the reference has looked at: what stands before is made of parts, and no slash stands between from and i. -/
def Seen (s : ByteArray) (a i : Nat) : Prop := a ≤ i ∧ i ≤ s.size ∧ (parts s.data.toList).all pt = (parts (s.data.toList.drop a)).all pt ∧ ∀ k, (hk : k < s.size) → a ≤ k → k < i → s[k].toNat ≠ 47
theorem seen_start (s : ByteArray) : Seen s 0 0 := ⟨Nat.le_refl _, Nat.zero_le _, by rw [List.drop_zero], fun k hk h1 h2 => absurd h2 (Nat.not_lt_zero _)⟩
theorem seen_step (s : ByteArray) (a i : Nat) (h : Seen s a i) (hi : i < s.size) (hc : s[i].toNat ≠ 47) : Seen s a (i + 1) := by
  obtain ⟨h1, h2, h3, h4⟩ := h
  refine ⟨by omega, by omega, h3, fun k hk ha hlt => ?_⟩
  by_cases e : k = i
  · subst e; exact hc
  · exact h4 k hk ha (by omega)
theorem extract_list (s : ByteArray) (a b : Nat) : (s.extract a b).data.toList = (s.data.toList.drop a).take (b - a) := Lib.extract_data s a b
theorem no_between (s : ByteArray) (a i : Nat) (hi : i ≤ s.size) (h4 : ∀ k, (hk : k < s.size) → a ≤ k → k < i → s[k].toNat ≠ 47) : ∀ c ∈ (s.data.toList.drop a).take (i - a), c ≠ 47 := by
  apply take_no
  intro k hk he
  rw [List.getElem?_drop] at he
  obtain ⟨hl, he⟩ := List.getElem?_eq_some_iff.1 he
  have hk2 : a + k < s.size := by rw [Lib.size_eq]; exact hl
  apply h4 (a + k) hk2 (by omega) (by omega)
  rw [← get_list s (a + k) hk2 hl, he]; rfl
theorem seen_cut (s : ByteArray) (a i : Nat) (h : Seen s a i) (hi : i < s.size) (hc : s[i].toNat = 47) :
    (parts s.data.toList).all pt = (pt (s.extract a i).data.toList && (parts (s.data.toList.drop (i + 1))).all pt) := by
  obtain ⟨h1, h2, h3, h4⟩ := h
  rw [h3, extract_list]
  have hl : i < s.data.toList.length := by rw [← Lib.size_eq]; exact hi
  have e : s.data.toList.drop a = (s.data.toList.drop a).take (i - a) ++ 47 :: s.data.toList.drop (i + 1) := by
    have := cut_at (s.data.toList.drop a) (i - a) (by
      rw [List.getElem?_drop, show a + (i - a) = i by omega, List.getElem?_eq_getElem hl, get_list s i hi hl]
      exact congrArg some (UInt8.toNat_inj.1 hc))
    rw [List.drop_drop, show a + (i - a + 1) = i + 1 by omega] at this
    exact this
  conv => lhs; rw [e]
  rw [parts_cut _ _ (no_between s a i h2 h4), List.all_cons]
theorem seen_on (s : ByteArray) (a i : Nat) (h : Seen s a i) (hi : i < s.size) (hc : s[i].toNat = 47) (hp : pt (s.extract a i).data.toList = true) : Seen s (i + 1) (i + 1) := by
  have hx := seen_cut s a i h hi hc
  rw [hp, Bool.true_and] at hx
  exact ⟨Nat.le_refl _, by omega, hx, fun k hk h1 h2 => by omega⟩
theorem seen_off (s : ByteArray) (a i : Nat) (hs : s.size ≤ 64) (h : Seen s a i) (hi : i < s.size) (hc : s[i].toNat = 47) (hp : pt (s.extract a i).data.toList = false) : pathB s = false := by
  have hx := seen_cut s a i h hi hc
  rw [hp, Bool.false_and] at hx
  unfold pathB; rw [hx, Bool.and_false]
theorem seen_end (s : ByteArray) (a : Nat) (hs : s.size ≤ 64) (h : Seen s a s.size) : pathB s = pt (s.extract a s.size).data.toList := by
  obtain ⟨h1, h2, h3, h4⟩ := h
  have hn := no_between s a s.size (Nat.le_refl _) h4
  have e : (s.data.toList.drop a).take (s.size - a) = s.data.toList.drop a := by
    rw [List.take_of_length_le]; rw [List.length_drop, ← Lib.size_eq]; omega
  rw [e] at hn
  unfold pathB
  rw [h3, parts_none _ hn, extract_list, e]
  simp [hs]
theorem path_zero (s : ByteArray) (h : s.size = 0) : pathB s = false := by
  obtain rfl := size_zero s h
  decide
end Go.Proofs.YtjfmanflkcaohaaDoor.Pl
