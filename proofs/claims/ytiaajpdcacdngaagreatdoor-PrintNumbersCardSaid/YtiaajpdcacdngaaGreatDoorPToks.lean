/- The tokens of a source are its words. -/
import Derived.Test.YtiaajpdcacdngaaGreatDoorPRefs
namespace Go.Proofs.YtiaajpdcacdngaaGreatDoor.Pl
open Go
set_option linter.unusedVariables false
set_option linter.unusedSimpArgs false

/- ### The own tokens of a well-formed node are tokens -/
theorem whole_nm (s : ByteArray) (h : nm s = true) : Whole s.data.toList 1 := by
  unfold nm at h
  simp only [Bool.and_eq_true, decide_eq_true_eq, Bool.not_eq_true'] at h
  obtain ⟨⟨⟨⟨h1, h2⟩, _⟩, h4⟩, h5⟩ := h
  rw [Lib.size_eq] at h1 h2
  unfold dg0 at h4
  unfold wds at h5
  match hl : s.data.toList, h1, h2, h4, h5 with
  | c :: t, h1, h2, h4, h5 =>
    have := whole_run c t 1 (fun a ha => List.all_eq_true.1 h5 a ha) (.inr ⟨h4, h2, rfl⟩) [] (fun a ha => by simp at ha)
    rw [List.append_nil] at this
    exact ⟨this, by decide⟩
theorem whole_isI (s : ByteArray) (h : isI s = true) : Whole s.data.toList 2 := by
  unfold isI at h
  simp only [Bool.and_eq_true, decide_eq_true_eq, Bool.not_eq_true', Bool.and_eq_false_iff, decide_eq_false_iff_not] at h
  obtain ⟨⟨⟨h1, h2⟩, h3⟩, h4⟩ := h
  rw [Lib.size_eq] at h1 h2
  match hl : s.data.toList, h1, h2, h3, h4 with
  | [], h1, h2, h3, h4 => exact absurd rfl h1
  | c :: t, h1, h2, h3, h4 =>
    have hd : (c :: t).all db = true := h3
    have hi : isInt (c :: t) = true := by
      unfold isInt
      rw [hd, show numF 0 (c :: t) = numL 0 (c :: t) from rfl, decide_eq_true h4]
      simp only [Bool.and_true, Bool.and_eq_true, Bool.or_eq_true, Bool.not_eq_true', beq_iff_eq, beq_eq_false_iff_ne, ne_eq]
      refine ⟨by simp, ?_⟩
      rcases h2 with h2 | h2
      · exact .inr h2
      · have : t = [] := List.eq_nil_of_length_eq_zero (by simp only [List.length_cons] at h2; omega)
        subst this
        by_cases hc : c = 48
        · left; rw [hc]
        · right; simpa using hc
    have := whole_run c t 2 (fun a ha => db_wb a (List.all_eq_true.1 hd a ha)) (.inl ⟨List.all_eq_true.1 hd c (List.mem_cons_self ..), hi, rfl⟩) [] (fun a ha => by simp at ha)
    rw [List.append_nil] at this
    exact ⟨this, by decide⟩
/-- A token, of whatever kind. -/
def IsTok (s : ByteArray) : Prop := ∃ k, Whole s.data.toList k
theorem tok_nm {s : ByteArray} (h : nm s = true) : IsTok s := ⟨1, whole_nm s h⟩
theorem tok_lvo (s : ByteArray) (h : 0 < lvo s) : IsTok s := by
  unfold lvo lvL at h
  by_cases h1 : s.data.toList = [124]
  · exact ⟨3, by rw [h1]; exact ⟨by rfl, by decide⟩⟩
  by_cases h2 : s.data.toList = [38]
  · exact ⟨3, by rw [h2]; exact ⟨by rfl, by decide⟩⟩
  by_cases h3 : s.data.toList = [61, 61]
  · exact ⟨3, by rw [h3]; exact ⟨by rfl, by decide⟩⟩
  by_cases h4 : s.data.toList = [60]
  · exact ⟨3, by rw [h4]; exact ⟨by rfl, by decide⟩⟩
  by_cases h5 : s.data.toList = [43]
  · exact ⟨3, by rw [h5]; exact ⟨by rfl, by decide⟩⟩
  by_cases h6 : s.data.toList = [45]
  · exact ⟨3, by rw [h6]; exact ⟨by rfl, by decide⟩⟩
  by_cases h7 : s.data.toList = [42]
  · exact ⟨3, by rw [h7]; exact ⟨by rfl, by decide⟩⟩
  by_cases h8 : s.data.toList = [47]
  · exact ⟨3, by rw [h8]; exact ⟨by rfl, by decide⟩⟩
  simp [h1, h2, h3, h4, h5, h6, h7, h8] at h
/-- What the text of a node says by its kind. -/
theorem tok_text (k : Int) (s : ByteArray) (ks : List Tr) (h1 : shape k s ks = true) (h2 : nameOK k s = true) (hk : k = 2 ∨ k = 4 ∨ k = 5 ∨ k = 7 ∨ (9 ≤ k ∧ k ≤ 11) ∨ (17 ≤ k ∧ k ≤ 25) ∨ (k = 8 ∧ s.size ≠ 0)) : IsTok s := by
  obtain ⟨_, _, _, hw, _⟩ := shape_parts k s ks h1
  unfold nameOK at h2
  unfold wordOK at hw
  have t2 : txt k = 2 ↔ k = 8 := by unfold txt; omega
  by_cases e2 : txt k = 2
  · rw [if_pos e2] at h2
    have := t2.1 e2
    have hz : s.size ≠ 0 := by omega
    rw [decide_eq_false hz, Bool.false_or] at h2
    exact tok_nm h2
  rw [if_neg e2] at h2
  by_cases e1 : txt k = 1
  · rw [if_pos e1] at h2; exact tok_nm h2
  rw [if_neg e1] at h2
  by_cases e3 : txt k = 3
  · rw [if_pos e3] at h2; exact ⟨2, whole_isI s h2⟩
  have e4 : txt k = 4 := by unfold txt at e1 e2 e3 ⊢; omega
  rw [if_neg (by omega), if_pos e4] at hw
  unfold isW at hw
  by_cases k18 : k = 18
  · rw [if_pos k18] at hw
    simp only [Bool.or_eq_true, beq_iff_eq] at hw
    rcases hw with e | e
    · exact ⟨1, by rw [e]; exact ⟨by rfl, by decide⟩⟩
    · exact ⟨1, by rw [e]; exact ⟨by rfl, by decide⟩⟩
  rw [if_neg k18] at hw
  by_cases k23 : k = 23
  · rw [if_pos k23] at hw
    exact ⟨1, by rw [beq_iff_eq.1 hw]; exact ⟨by rfl, by decide⟩⟩
  rw [if_neg k23] at hw
  by_cases k25 : k = 25
  · rw [if_pos k25] at hw
    simp only [Bool.or_eq_true, beq_iff_eq] at hw
    rcases hw with e | e
    · exact ⟨3, by rw [e]; exact ⟨by rfl, by decide⟩⟩
    · exact ⟨3, by rw [e]; exact ⟨by rfl, by decide⟩⟩
  rw [if_neg k25] at hw
  exact tok_lvo s (of_decide_eq_true hw)
theorem tok_const (l : Bs) (k : Nat) (h1 : fst l = (k, l.length)) (h2 : k ≠ 0) : IsTok ⟨l.toArray⟩ := ⟨k, by simpa using h1, h2⟩
theorem rlist_tok (l : List ByteArray) (m : Nat) (h : ∀ x ∈ l, IsTok x) : ∀ x ∈ rlist l m, IsTok x := by
  intro x hx
  unfold rlist at hx
  simp only [List.mem_append, List.mem_replicate, List.mem_singleton] at hx
  rcases hx with (hx | ⟨_, rfl⟩) | rfl
  · exact h x hx
  · exact tok_const [44] 3 rfl (by decide)
  · exact tok_const [41] 3 rfl (by decide)
/-- Every own token of a well-formed node but END is a token. -/
theorem rown_tok (k : Int) (s : ByteArray) (ks : List Tr) (h1 : shape k s ks = true) (h2 : nameOK k s = true) (hk : k ≠ 1) : ∀ x ∈ rown k s ks.length, IsTok x := by
  have hT := tok_text k s ks h1 h2
  obtain ⟨hr, _⟩ := shape_parts k s ks h1
  have c1 := tok_const [102, 110] 1 rfl (by decide)
  have c2 := tok_const [40] 3 rfl (by decide)
  have c3 := tok_const [41] 3 rfl (by decide)
  have c4 := tok_const [46] 3 rfl (by decide)
  have c5 := tok_const [123] 3 rfl (by decide)
  have c6 := tok_const [125] 3 rfl (by decide)
  have c7 := tok_const [99, 108, 97, 115, 115] 1 rfl (by decide)
  have c8 := tok_const [58] 3 rfl (by decide)
  have c9 := tok_const [99, 111, 110, 115, 116] 1 rfl (by decide)
  have c10 := tok_const [61] 3 rfl (by decide)
  have c11 := tok_const [59] 3 rfl (by decide)
  have c12 := tok_const [108, 101, 116] 1 rfl (by decide)
  have c13 := tok_const [114, 101, 116, 117, 114, 110] 1 rfl (by decide)
  have c14 := tok_const [105, 102] 1 rfl (by decide)
  have c15 := tok_const [101, 108, 115, 101] 1 rfl (by decide)
  have c16 := tok_const [119, 104, 105, 108, 101] 1 rfl (by decide)
  have c17 := tok_const [110, 101, 119] 1 rfl (by decide)
  have one : ∀ {a : ByteArray}, IsTok a → ∀ x ∈ [a], IsTok x := fun h x hx => by obtain rfl := List.mem_singleton.1 hx; exact h
  have two : ∀ {a : ByteArray} {l : List ByteArray}, IsTok a → (∀ x ∈ l, IsTok x) → ∀ x ∈ a :: l, IsTok x := fun h h2 x hx => by
    rcases List.mem_cons.1 hx with rfl | hx
    · exact h
    · exact h2 x hx
  rcases kinds k hr with rfl | rfl | rfl | rfl | rfl | rfl | rfl | rfl | rfl | rfl | rfl | rfl | rfl | rfl | rfl | rfl | rfl | rfl | rfl | rfl | rfl | rfl | rfl | rfl | rfl | rfl
  · exact absurd rfl hk
  · exact two c1 (one (hT (by omega)))
  · exact rlist_tok _ _ (one c2)
  · exact one (hT (by omega))
  · exact one (hT (by omega))
  · exact two c5 (one c6)
  · exact two c7 (two (hT (by omega)) (two c5 (one c6)))
  · show ∀ x ∈ (if s.size = 0 then [] else [_, s]), IsTok x
    split
    · intro x hx; cases hx
    · exact two c8 (one (hT (by omega)))
  · exact two c9 (two (hT (by omega)) (two c10 (one c11)))
  · exact two c12 (two (hT (by omega)) (two c10 (one c11)))
  · exact two (hT (by omega)) (two c10 (one c11))
  · exact two c13 (one c11)
  · exact one c14
  · show ∀ x ∈ (if ks.length = 0 then [] else [_]), IsTok x
    split
    · intro x hx; cases hx
    · exact one c15
  · exact one c16
  · exact one c11
  · exact one (hT (by omega))
  · exact one (hT (by omega))
  · exact one (hT (by omega))
  · exact rlist_tok _ _ (two (hT (by omega)) (one c2))
  · exact rlist_tok _ _ (two c4 (two (hT (by omega)) (one c2)))
  · exact two c17 (two (hT (by omega)) (two c2 (one c3)))
  · exact one (hT (by omega))
  · exact one (hT (by omega))
  · exact one (hT (by omega))
  · exact two c2 (one c3)

/- ### The source's tokens -/
/-- The words of a tree's source: each a token behind trivia, but the last one, which may be empty. -/
def WordsOK : List Wd → Prop
  | [] => True
  | w :: ws => triv (gapW w) = true ∧ ((IsTok w.text ∧ WordsOK ws) ∨ (w.text = ⟨#[]⟩ ∧ ws = []))
/-- The texts of the tokens. -/
def txts : List Wd → List Bs
  | [] => [[]]
  | w :: ws => if w.text.size = 0 then [[]] else w.text.data.toList :: txts ws
theorem triv_eo {g : ByteArray} (h : triv g = true) : eo g.data.toList = g.data.toList.length := beq_iff_eq.1 h
theorem triv_head (g : Bs) (h : eo g = g.length) : g = [] ∨ ∃ c r, g = c :: r ∧ (blank c = true ∨ c = 47) := by
  cases g with
  | nil => exact .inl rfl
  | cons c r =>
    right
    refine ⟨c, r, rfl, ?_⟩
    have h0 : hop (c :: r) ≠ 0 := fun h0 => by rw [eo_stop _ h0] at h; cases h
    rcases hop_cases (c :: r) with e | ⟨c', r', e, hb, _⟩ | ⟨y, r', e, _⟩
    · exact absurd e h0
    · injection e with e1 _; subst e1; exact .inl hb
    · injection e with e1 _; exact .inr e1
theorem size_list (x : ByteArray) : x.size = 0 ↔ x.data.toList = [] := by rw [Lib.size_eq]; exact List.length_eq_zero_iff
/-- What follows a token in a source leaves it this token. -/
theorem sep_src (x : ByteArray) (k : Nat) (hx : Whole x.data.toList k) (ws : List Wd) (h : WordsOK ws) : sep x.data.toList (src x ws) := by
  cases ws with
  | nil => exact sep_nil _
  | cons w ws =>
    obtain ⟨hg, hw⟩ := h
    rw [src]
    unfold piece
    by_cases hj : join8 x (gapW w) w.text = true
    · rw [if_pos hj]
      exact sep_space _ _
    rw [if_neg hj, List.nil_append]
    have hj : join8 x (gapW w) w.text = false := by simpa using hj
    unfold join8 at hj
    by_cases h0 : (gapW w).size = 0
    · rw [if_pos h0] at hj
      rw [(size_list _).1 h0, List.nil_append]
      rcases hw with ⟨⟨kb, hb⟩, _⟩ | ⟨hb, rfl⟩
      · exact sep_glue _ _ _ k kb hb hj
      · rw [hb]; exact sep_nil _
    · rw [if_neg h0] at hj
      rcases triv_head _ (triv_eo hg) with e | ⟨c, r, e, hc⟩
      · exact absurd ((size_list _).2 e) h0
      · rw [e] at hj ⊢
        intro c' hc'
        obtain rfl : c = c' := by simpa using hc'
        refine ⟨fun a _ _ => ?_, fun _ => ?_, fun e47 => ?_⟩
        · rcases hc with hc | rfl
          · rcases (blank_iff c).1 hc with rfl | rfl | rfl <;> decide
          · decide
        · rintro rfl
          rcases hc with hc | hc
          · exact absurd hc (by decide)
          · exact absurd hc (by decide)
        · rintro rfl
          rw [e47] at hj
          simp at hj
theorem tk_triv (p x r : Bs) (k off : Nat) (hp : eo p = p.length) (h : Whole x k) (hs : sep x r) :
    tk (p ++ (x ++ r)) off = (⟨k, p, x, off + p.length⟩ :: (tk r (off + p.length + x.length)).1, (tk r (off + p.length + x.length)).2) := by
  have h0 := eo_stop _ (hop_whole x r k h hs)
  have e : eo (p ++ (x ++ r)) = p.length := by rw [eo_append _ _ hp, h0]; rfl
  have hl := whole_pos x k h
  have hd : (p ++ (x ++ r)).drop p.length = x ++ r := List.drop_left' rfl
  have := tk_go (p ++ (x ++ r)) off (by rw [e]; simp only [List.length_append]; omega) k x.length (by rw [e, hd]; exact fst_whole x r k h hs) h.2
  rw [e, hd] at this
  rw [this]
  have e1 : (p ++ (x ++ r)).take p.length = p := List.take_left' rfl
  have e2 : (x ++ r).take x.length = x := List.take_left' rfl
  have e3 : (p ++ (x ++ r)).drop (p.length + x.length) = r := by rw [← List.drop_drop, hd]; exact List.drop_left' rfl
  rw [e1, e2, e3]
/-- The tokens of a source have the words as their texts. -/
theorem tk_src (ws : List Wd) : ∀ last off, WordsOK ws → (tk (src last ws) off).2 = none ∧ (tk (src last ws) off).1.map (·.text) = txts ws := by
  induction ws with
  | nil => intro last off _; rw [src, tk_nil]; exact ⟨rfl, rfl⟩
  | cons w ws ih =>
    intro last off h
    have hall := h
    obtain ⟨hg, hw⟩ := h
    rw [src]
    unfold piece
    have hp : ∀ b : Bool, eo ((if b = true then [32] else []) ++ (gapW w).data.toList) = ((if b = true then [32] else []) ++ (gapW w).data.toList : Bs).length := fun b => by
      cases b with
      | false => exact triv_eo hg
      | true =>
        show eo (32 :: (gapW w).data.toList) = _
        rw [eo_space, triv_eo hg]
        show 1 + (gapW w).data.toList.length = (32 :: (gapW w).data.toList : Bs).length
        rw [List.length_cons]; omega
    have hp := hp (join8 last (gapW w) w.text)
    generalize ((if join8 last (gapW w) w.text = true then [32] else []) ++ (gapW w).data.toList : Bs) = p at hp
    rcases hw with ⟨⟨k, hk⟩, hws⟩ | ⟨he, rfl⟩
    · have hz : ¬ w.text.size = 0 := fun h0 => by
        have := whole_pos _ _ hk
        rw [(size_list _).1 h0] at this
        simp at this
      rw [List.append_assoc, tk_triv p _ _ k off hp hk (sep_src _ k hk ws hws)]
      obtain ⟨h1, h2⟩ := ih w.text (off + p.length + w.text.data.toList.length) hws
      refine ⟨h1, ?_⟩
      rw [txts, if_neg hz, List.map_cons, h2]
    · rw [he]
      show (tk (p ++ [] ++ src ⟨#[]⟩ []) off).2 = none ∧ _
      rw [src, List.append_nil, List.append_nil, tk_end p off (by rw [hp]; exact Nat.le_refl _), txts, he, if_pos (show (⟨#[]⟩ : ByteArray).size = 0 from rfl)]
      exact ⟨rfl, rfl⟩
end Go.Proofs.YtiaajpdcacdngaaGreatDoor.Pl
