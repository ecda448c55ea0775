/- The tokens of a source are its words. -/
import Derived.Test.YtiaajpdcacdngaaGreatDoorPParts
namespace Go.Proofs.YtiaajpdcacdngaaGreatDoor.Pl
open Go
set_option linter.unusedVariables false
set_option linter.unusedSimpArgs false

/- ### The own tokens of a well-formed node are tokens -/
theorem whole_nm (s : ByteArray) (h : nm s = true) : Whole s.data.toList 1 := by
  unfold nm at h
  simp only [Bool.and_eq_true, decide_eq_true_eq, Bool.not_eq_true'] at h
  obtain ⟨⟨⟨⟨h1, h2⟩, _⟩, h4⟩, h5⟩ := h
  rw [Lib.size_eq] at h1 h2
  unfold dg0 at h4
  unfold wds at h5
  match hl : s.data.toList, h1, h2, h4, h5 with
  | c :: t, h1, h2, h4, h5 =>
    have := whole_run c t 1 (fun a ha => List.all_eq_true.1 h5 a ha) (.inr ⟨h4, h2, rfl⟩) [] (fun a ha => by simp at ha)
    rw [List.append_nil] at this
    exact ⟨this, by decide⟩
theorem whole_isI (s : ByteArray) (h : isI s = true) : Whole s.data.toList 2 := by
  unfold isI at h
  simp only [Bool.and_eq_true, decide_eq_true_eq, Bool.not_eq_true', Bool.and_eq_false_iff, decide_eq_false_iff_not] at h
  obtain ⟨⟨⟨h1, h2⟩, h3⟩, h4⟩ := h
  rw [Lib.size_eq] at h1 h2
  match hl : s.data.toList, h1, h2, h3, h4 with
  | [], h1, h2, h3, h4 => exact absurd rfl h1
  | c :: t, h1, h2, h3, h4 =>
    have hd : (c :: t).all db = true := h3
    have hi : isInt (c :: t) = true := by
      unfold isInt
      rw [hd, show numF 0 (c :: t) = numL 0 (c :: t) from rfl, decide_eq_true h4]
      simp only [Bool.and_true, Bool.and_eq_true, Bool.or_eq_true, Bool.not_eq_true', beq_iff_eq, beq_eq_false_iff_ne, ne_eq]
      refine ⟨by simp, ?_⟩
      rcases h2 with h2 | h2
      · exact .inr h2
      · have : t = [] := List.eq_nil_of_length_eq_zero (by simp only [List.length_cons] at h2; omega)
        subst this
        by_cases hc : c = 48
        · left; rw [hc]
        · right; simpa using hc
    have := whole_run c t 2 (fun a ha => db_wb a (List.all_eq_true.1 hd a ha)) (.inl ⟨List.all_eq_true.1 hd c (List.mem_cons_self ..), hi, rfl⟩) [] (fun a ha => by simp at ha)
    rw [List.append_nil] at this
    exact ⟨this, by decide⟩
/-- A token, of whatever kind. -/
def IsTok (s : ByteArray) : Prop := ∃ k, Whole s.data.toList k
theorem tok_nm {s : ByteArray} (h : nm s = true) : IsTok s := ⟨1, whole_nm s h⟩
theorem tok_lvo (s : ByteArray) (h : 0 < lvo s) : IsTok s := by
  unfold lvo lvL at h
  by_cases h1 : s.data.toList = [124]
  · exact ⟨3, by rw [h1]; exact ⟨by rfl, by decide⟩⟩
  by_cases h2 : s.data.toList = [38]
  · exact ⟨3, by rw [h2]; exact ⟨by rfl, by decide⟩⟩
  by_cases h3 : s.data.toList = [61, 61]
  · exact ⟨3, by rw [h3]; exact ⟨by rfl, by decide⟩⟩
  by_cases h4 : s.data.toList = [60]
  · exact ⟨3, by rw [h4]; exact ⟨by rfl, by decide⟩⟩
  by_cases h5 : s.data.toList = [43]
  · exact ⟨3, by rw [h5]; exact ⟨by rfl, by decide⟩⟩
  by_cases h6 : s.data.toList = [45]
  · exact ⟨3, by rw [h6]; exact ⟨by rfl, by decide⟩⟩
  by_cases h7 : s.data.toList = [42]
  · exact ⟨3, by rw [h7]; exact ⟨by rfl, by decide⟩⟩
  by_cases h8 : s.data.toList = [47]
  · exact ⟨3, by rw [h8]; exact ⟨by rfl, by decide⟩⟩
  simp [h1, h2, h3, h4, h5, h6, h7, h8] at h
/-- What the text of a node says by its kind. -/
theorem tok_text (k : Int) (s : ByteArray) (ks : List Tr) (h1 : shape k s ks = true) (h2 : nameOK k s = true) (hk : k = 2 ∨ k = 4 ∨ k = 5 ∨ k = 7 ∨ (9 ≤ k ∧ k ≤ 11) ∨ (17 ≤ k ∧ k ≤ 25) ∨ (k = 8 ∧ s.size ≠ 0)) : IsTok s := by
  obtain ⟨_, _, _, hw, _⟩ := shape_parts k s ks h1
  unfold nameOK at h2
  unfold wordOK at hw
  have t2 : txt k = 2 ↔ k = 8 := by unfold txt; omega
  by_cases e2 : txt k = 2
  · rw [if_pos e2] at h2
    have := t2.1 e2
    have hz : s.size ≠ 0 := by omega
    rw [decide_eq_false hz, Bool.false_or] at h2
    exact tok_nm h2
  rw [if_neg e2] at h2
  by_cases e1 : txt k = 1
  · rw [if_pos e1] at h2; exact tok_nm h2
  rw [if_neg e1] at h2
  by_cases e3 : txt k = 3
  · rw [if_pos e3] at h2; exact ⟨2, whole_isI s h2⟩
  have e4 : txt k = 4 := by unfold txt at e1 e2 e3 ⊢; omega
  rw [if_neg (by omega), if_pos e4] at hw
  unfold isW at hw
  by_cases k18 : k = 18
  · rw [if_pos k18] at hw
    simp only [Bool.or_eq_true, beq_iff_eq] at hw
    rcases hw with e | e
    · exact ⟨1, by rw [e]; exact ⟨by rfl, by decide⟩⟩
    · exact ⟨1, by rw [e]; exact ⟨by rfl, by decide⟩⟩
  rw [if_neg k18] at hw
  by_cases k23 : k = 23
  · rw [if_pos k23] at hw
    exact ⟨1, by rw [beq_iff_eq.1 hw]; exact ⟨by rfl, by decide⟩⟩
  rw [if_neg k23] at hw
  by_cases k25 : k = 25
  · rw [if_pos k25] at hw
    simp only [Bool.or_eq_true, beq_iff_eq] at hw
    rcases hw with e | e
    · exact ⟨3, by rw [e]; exact ⟨by rfl, by decide⟩⟩
    · exact ⟨3, by rw [e]; exact ⟨by rfl, by decide⟩⟩
  rw [if_neg k25] at hw
  exact tok_lvo s (of_decide_eq_true hw)
theorem tok_const (l : Bs) (k : Nat) (h1 : fst l = (k, l.length)) (h2 : k ≠ 0) : IsTok ⟨l.toArray⟩ := ⟨k, by simpa using h1, h2⟩
theorem rlist_tok (l : List ByteArray) (m : Nat) (h : ∀ x ∈ l, IsTok x) : ∀ x ∈ rlist l m, IsTok x := by
  intro x hx
  unfold rlist at hx
  simp only [List.mem_append, List.mem_replicate, List.mem_singleton] at hx
  rcases hx with (hx | ⟨_, rfl⟩) | rfl
  · exact h x hx
  · exact tok_const [44] 3 rfl (by decide)
  · exact tok_const [41] 3 rfl (by decide)
/-- Every own token of a well-formed node but END is a token. -/
theorem rown_tok (k : Int) (s : ByteArray) (ks : List Tr) (h1 : shape k s ks = true) (h2 : nameOK k s = true) (hk : k ≠ 1) : ∀ x ∈ rown k s ks.length, IsTok x := by
  have hT := tok_text k s ks h1 h2
  obtain ⟨hr, _⟩ := shape_parts k s ks h1
  have c1 := tok_const [102, 110] 1 rfl (by decide)
  have c2 := tok_const [40] 3 rfl (by decide)
  have c3 := tok_const [41] 3 rfl (by decide)
  have c4 := tok_const [46] 3 rfl (by decide)
  have c5 := tok_const [123] 3 rfl (by decide)
  have c6 := tok_const [125] 3 rfl (by decide)
  have c7 := tok_const [99, 108, 97, 115, 115] 1 rfl (by decide)
  have c8 := tok_const [58] 3 rfl (by decide)
  have c9 := tok_const [99, 111, 110, 115, 116] 1 rfl (by decide)
  have c10 := tok_const [61] 3 rfl (by decide)
  have c11 := tok_const [59] 3 rfl (by decide)
  have c12 := tok_const [108, 101, 116] 1 rfl (by decide)
  have c13 := tok_const [114, 101, 116, 117, 114, 110] 1 rfl (by decide)
  have c14 := tok_const [105, 102] 1 rfl (by decide)
  have c15 := tok_const [101, 108, 115, 101] 1 rfl (by decide)
  have c16 := tok_const [119, 104, 105, 108, 101] 1 rfl (by decide)
  have c17 := tok_const [110, 101, 119] 1 rfl (by decide)
  have one : ∀ {a : ByteArray}, IsTok a → ∀ x ∈ [a], IsTok x := fun h x hx => by obtain rfl := List.mem_singleton.1 hx; exact h
  have two : ∀ {a : ByteArray} {l : List ByteArray}, IsTok a → (∀ x ∈ l, IsTok x) → ∀ x ∈ a :: l, IsTok x := fun h h2 x hx => by
    rcases List.mem_cons.1 hx with rfl | hx
    · exact h
    · exact h2 x hx
  rcases kinds k hr with rfl | rfl | rfl | rfl | rfl | rfl | rfl | rfl | rfl | rfl | rfl | rfl | rfl | rfl | rfl | rfl | rfl | rfl | rfl | rfl | rfl | rfl | rfl | rfl | rfl | rfl
  · exact absurd rfl hk
  · exact two c1 (one (hT (by omega)))
  · exact rlist_tok _ _ (one c2)
  · exact one (hT (by omega))
  · exact one (hT (by omega))
  · exact two c5 (one c6)
  · exact two c7 (two (hT (by omega)) (two c5 (one c6)))
  · show ∀ x ∈ (if s.size = 0 then [] else [_, s]), IsTok x
    split
    · intro x hx; cases hx
    · exact two c8 (one (hT (by omega)))
  · exact two c9 (two (hT (by omega)) (two c10 (one c11)))
  · exact two c12 (two (hT (by omega)) (two c10 (one c11)))
  · exact two (hT (by omega)) (two c10 (one c11))
  · exact two c13 (one c11)
  · exact one c14
  · show ∀ x ∈ (if ks.length = 0 then [] else [_]), IsTok x
    split
    · intro x hx; cases hx
    · exact one c15
  · exact one c16
  · exact one c11
  · exact one (hT (by omega))
  · exact one (hT (by omega))
  · exact one (hT (by omega))
  · exact rlist_tok _ _ (two (hT (by omega)) (one c2))
  · exact rlist_tok _ _ (two c4 (two (hT (by omega)) (one c2)))
  · exact two c17 (two (hT (by omega)) (two c2 (one c3)))
  · exact one (hT (by omega))
  · exact one (hT (by omega))
  · exact one (hT (by omega))
  · exact two c2 (one c3)

/- ### The source's tokens -/
/-- The words of a tree's source: each a token behind trivia, but the last one, which may be empty. -/
def WordsOK : List Wd → Prop
  | [] => True
  | w :: ws => triv (gapW w) = true ∧ ((IsTok w.text ∧ WordsOK ws) ∨ (w.text = ⟨#[]⟩ ∧ ws = []))
/-- The texts of the tokens. -/
def txts : List Wd → List Bs
  | [] => [[]]
  | w :: ws => if w.text.size = 0 then [[]] else w.text.data.toList :: txts ws
theorem triv_eo {g : ByteArray} (h : triv g = true) : eo g.data.toList = g.data.toList.length := beq_iff_eq.1 h
theorem triv_head (g : Bs) (h : eo g = g.length) : g = [] ∨ ∃ c r, g = c :: r ∧ (blank c = true ∨ c = 47) := by
  cases g with
  | nil => exact .inl rfl
  | cons c r =>
    right
    refine ⟨c, r, rfl, ?_⟩
    have h0 : hop (c :: r) ≠ 0 := fun h0 => by rw [eo_stop _ h0] at h; cases h
    rcases hop_cases (c :: r) with e | ⟨c', r', e, hb, _⟩ | ⟨y, r', e, _⟩
    · exact absurd e h0
    · injection e with e1 _; subst e1; exact .inl hb
    · injection e with e1 _; exact .inr e1
theorem size_list (x : ByteArray) : x.size = 0 ↔ x.data.toList = [] := by rw [Lib.size_eq]; exact List.length_eq_zero_iff
/-- What follows a token in a source leaves it this token. -/
theorem sep_src (x : ByteArray) (k : Nat) (hx : Whole x.data.toList k) (ws : List Wd) (h : WordsOK ws) : sep x.data.toList (src x ws) := by
  cases ws with
  | nil => exact sep_nil _
  | cons w ws =>
    obtain ⟨hg, hw⟩ := h
    rw [src]
    unfold piece
    by_cases hj : join8 x (gapW w) w.text = true
    · rw [if_pos hj]
      exact sep_space _ _
    rw [if_neg hj, List.nil_append]
    have hj : join8 x (gapW w) w.text = false := by simpa using hj
    unfold join8 at hj
    by_cases h0 : (gapW w).size = 0
    · rw [if_pos h0] at hj
      rw [(size_list _).1 h0, List.nil_append]
      rcases hw with ⟨⟨kb, hb⟩, _⟩ | ⟨hb, rfl⟩
      · exact sep_glue _ _ _ k kb hb hj
      · rw [hb]; exact sep_nil _
    · rw [if_neg h0] at hj
      rcases triv_head _ (triv_eo hg) with e | ⟨c, r, e, hc⟩
      · exact absurd ((size_list _).2 e) h0
      · rw [e] at hj ⊢
        intro c' hc'
        obtain rfl : c = c' := by simpa using hc'
        refine ⟨fun a _ _ => ?_, fun _ => ?_, fun e47 => ?_⟩
        · rcases hc with hc | rfl
          · rcases (blank_iff c).1 hc with rfl | rfl | rfl <;> decide
          · decide
        · rintro rfl
          rcases hc with hc | hc
          · exact absurd hc (by decide)
          · exact absurd hc (by decide)
        · rintro rfl
          rw [e47] at hj
          simp at hj
theorem tk_triv (p x r : Bs) (k off : Nat) (hp : eo p = p.length) (h : Whole x k) (hs : sep x r) :
    tk (p ++ (x ++ r)) off = (⟨k, p, x, off + p.length⟩ :: (tk r (off + p.length + x.length)).1, (tk r (off + p.length + x.length)).2) := by
  have h0 := eo_stop _ (hop_whole x r k h hs)
  have e : eo (p ++ (x ++ r)) = p.length := by rw [eo_append _ _ hp, h0]; rfl
  have hl := whole_pos x k h
  have hd : (p ++ (x ++ r)).drop p.length = x ++ r := List.drop_left' rfl
  have := tk_go (p ++ (x ++ r)) off (by rw [e]; simp only [List.length_append]; omega) k x.length (by rw [e, hd]; exact fst_whole x r k h hs) h.2
  rw [e, hd] at this
  rw [this]
  have e1 : (p ++ (x ++ r)).take p.length = p := List.take_left' rfl
  have e2 : (x ++ r).take x.length = x := List.take_left' rfl
  have e3 : (p ++ (x ++ r)).drop (p.length + x.length) = r := by rw [← List.drop_drop, hd]; exact List.drop_left' rfl
  rw [e1, e2, e3]
/-- The tokens of a source have the words as their texts. -/
theorem tk_src (ws : List Wd) : ∀ last off, WordsOK ws → (tk (src last ws) off).2 = none ∧ (tk (src last ws) off).1.map (·.text) = txts ws := by
  induction ws with
  | nil => intro last off _; rw [src, tk_nil]; exact ⟨rfl, rfl⟩
  | cons w ws ih =>
    intro last off h
    have hall := h
    obtain ⟨hg, hw⟩ := h
    rw [src]
    unfold piece
    have hp : ∀ b : Bool, eo ((if b = true then [32] else []) ++ (gapW w).data.toList) = ((if b = true then [32] else []) ++ (gapW w).data.toList : Bs).length := fun b => by
      cases b with
      | false => exact triv_eo hg
      | true =>
        show eo (32 :: (gapW w).data.toList) = _
        rw [eo_space, triv_eo hg]
        show 1 + (gapW w).data.toList.length = (32 :: (gapW w).data.toList : Bs).length
        rw [List.length_cons]; omega
    have hp := hp (join8 last (gapW w) w.text)
    generalize ((if join8 last (gapW w) w.text = true then [32] else []) ++ (gapW w).data.toList : Bs) = p at hp
    rcases hw with ⟨⟨k, hk⟩, hws⟩ | ⟨he, rfl⟩
    · have hz : ¬ w.text.size = 0 := fun h0 => by
        have := whole_pos _ _ hk
        rw [(size_list _).1 h0] at this
        simp at this
      rw [List.append_assoc, tk_triv p _ _ k off hp hk (sep_src _ k hk ws hws)]
      obtain ⟨h1, h2⟩ := ih w.text (off + p.length + w.text.data.toList.length) hws
      refine ⟨h1, ?_⟩
      rw [txts, if_neg hz, List.map_cons, h2]
    · rw [he]
      show (tk (p ++ [] ++ src ⟨#[]⟩ []) off).2 = none ∧ _
      rw [src, List.append_nil, List.append_nil, tk_end p off (by rw [hp]; exact Nat.le_refl _), txts, he, if_pos (show (⟨#[]⟩ : ByteArray).size = 0 from rfl)]
      exact ⟨rfl, rfl⟩
end Go.Proofs.YtiaajpdcacdngaaGreatDoor.Pl

namespace Go.Proofs.YtiaajpdcacdngaaGreatDoor.Pl
open Go
set_option linter.unusedVariables false
set_option linter.unusedSimpArgs false

/- ### Canonical gaps are blanks -/
def ws (g : ByteArray) : Prop := ∀ c ∈ g.data.toList, blank c = true
theorem ws_triv {g : ByteArray} (h : ws g) : triv g = true := by
  unfold triv
  unfold ws at h
  generalize g.data.toList = l at *
  rw [beq_iff_eq]
  induction l with
  | nil => exact eo_stop [] rfl
  | cons c l ih =>
    have hb := hop_blank c l (h c (List.mem_cons_self ..))
    rw [eo_go _ (by rw [hb]; decide), hb, List.drop_succ_cons, List.drop_zero, ih (fun a ha => h a (List.mem_cons_of_mem _ ha)), List.length_cons]; omega
theorem ws_nil : ws ⟨#[]⟩ := fun c h => by cases h
theorem ws_sp : ws ⟨#[32]⟩ := fun c h => by obtain rfl := List.mem_singleton.1 h; decide
theorem ws_lf : ws ⟨#[10]⟩ := fun c h => by obtain rfl := List.mem_singleton.1 h; decide
theorem ws_lf2 : ws ⟨#[10, 10]⟩ := fun c h => by
  have : c = 10 := by simpa using h
  subst this; decide
theorem ws_nl (n : Nat) : ws (nl n) := fun c h => by
  unfold nl at h
  rw [mk_list] at h
  rcases List.mem_cons.1 h with rfl | h
  · decide
  · rw [List.eq_of_mem_replicate h]; decide
/-- Each part's gap is blanks, and short. -/
def gapOK (ps : List Part) : Prop := ∀ p ∈ ps, ws p.gap
theorem gapOK_nil : gapOK [] := fun p h => by cases h
theorem gapOK_own {g t : ByteArray} {ps : List Part} (h : ws g) (hp : gapOK ps) : gapOK (pown g t :: ps) := fun p hm => by
  rcases List.mem_cons.1 hm with rfl | hm
  · exact h
  · exact hp p hm
theorem gapOK_kid {g : ByteArray} {i : Int} {ps : List Part} (h : ws g) (hp : gapOK ps) : gapOK (pkid g i :: ps) := fun p hm => by
  rcases List.mem_cons.1 hm with rfl | hm
  · exact h
  · exact hp p hm
theorem gapOK_append {a b : List Part} (ha : gapOK a) (hb : gapOK b) : gapOK (a ++ b) := fun p hm => by
  rcases List.mem_append.1 hm with hm | hm
  · exact ha p hm
  · exact hb p hm
theorem gapOK_kidsP (first n : Nat) {g : ByteArray} (h : ws g) : gapOK (kidsP first n g) := fun p hm => by
  unfold kidsP at hm
  obtain ⟨i, _, rfl⟩ := List.mem_map.1 hm
  exact h
theorem gapOK_listP (first n : Nat) : gapOK (listP first n) := by
  refine gapOK_own ws_nil (gapOK_append (fun p hm => ?_) (gapOK_own ws_nil gapOK_nil))
  unfold commasP at hm
  obtain ⟨i, _, hm⟩ := List.mem_flatMap.1 hm
  split at hm
  · exact gapOK_own (t := ⟨#[44]⟩) ws_nil (gapOK_kid ws_sp gapOK_nil) p hm
  · exact gapOK_kid ws_nil gapOK_nil p hm
theorem gapOK_bodyP (first n L : Nat) : gapOK (bodyP first n L) := by
  unfold bodyP
  split
  · exact gapOK_own ws_nil gapOK_nil
  · exact gapOK_append (gapOK_kidsP _ _ (ws_nl _)) (gapOK_own (ws_nl _) gapOK_nil)
theorem gapOK_assignP (s : ByteArray) : gapOK (assignP s) := gapOK_own ws_sp (gapOK_own ws_sp (gapOK_kid ws_sp (gapOK_own ws_nil gapOK_nil)))
theorem gapOK_ite {c : Prop} [Decidable c] {a b : List Part} (ha : gapOK a) (hb : gapOK b) : gapOK (if c then a else b) := by
  by_cases h : c
  · rw [if_pos h]; exact ha
  · rw [if_neg h]; exact hb
theorem gapOK_parts (k : Int) (s : ByteArray) (n L : Nat) : gapOK (parts k s n L) := by
  unfold parts stmtP exprP
  repeat' (with_reducible refine gapOK_ite ?_ ?_)
  · exact gapOK_append (gapOK_kidsP _ _ ws_lf2) (gapOK_own ws_lf gapOK_nil)
  · exact gapOK_own ws_nil (gapOK_own ws_sp (gapOK_kid ws_nil (gapOK_kid ws_sp (gapOK_kid ws_sp gapOK_nil))))
  · exact gapOK_listP _ _
  · exact gapOK_own ws_nil (gapOK_kid ws_sp gapOK_nil)
  · exact gapOK_own ws_nil (gapOK_bodyP _ _ _)
  · exact gapOK_append (gapOK_own ws_nil (gapOK_own ws_sp (gapOK_kid ws_sp (gapOK_own ws_sp gapOK_nil)))) (gapOK_bodyP _ _ _)
  · exact gapOK_nil
  · exact gapOK_own ws_nil (gapOK_own ws_sp gapOK_nil)
  · exact gapOK_own ws_nil (gapOK_assignP _)
  · exact gapOK_own ws_nil (gapOK_assignP _)
  · exact gapOK_assignP _
  · exact gapOK_own ws_nil (gapOK_kid ws_sp (gapOK_own ws_nil gapOK_nil))
  · exact gapOK_own ws_nil (gapOK_kidsP _ _ ws_sp)
  · exact gapOK_nil
  · exact gapOK_own ws_nil (gapOK_kidsP _ _ ws_sp)
  · exact gapOK_own ws_nil (gapOK_kidsP _ _ ws_sp)
  · exact gapOK_kid ws_nil (gapOK_own ws_nil gapOK_nil)
  · exact gapOK_own ws_nil (gapOK_listP _ _)
  · exact gapOK_append (gapOK_kid ws_nil (gapOK_own ws_nil (gapOK_own ws_nil gapOK_nil))) (gapOK_listP _ _)
  · exact gapOK_append (gapOK_own ws_nil (gapOK_own ws_sp gapOK_nil)) (gapOK_listP _ _)
  · exact gapOK_kid ws_nil (gapOK_own ws_sp (gapOK_kid ws_sp gapOK_nil))
  · exact gapOK_own ws_nil (gapOK_kid ws_nil gapOK_nil)
  · exact gapOK_own ws_nil (gapOK_kid ws_nil (gapOK_own ws_nil gapOK_nil))
  · exact gapOK_own ws_nil gapOK_nil
theorem gapOK_fix {f : ByteArray} {ps : List Part} (hf : ws f) (h : gapOK ps) : gapOK (fixF f ps) := by
  cases ps with
  | nil => exact h
  | cons p ps =>
    intro q hq
    rcases List.mem_cons.1 hq with rfl | hq
    · exact hf
    · exact h q (List.mem_cons_of_mem _ hq)
theorem gapW_nil (o : Nat) (gap text : ByteArray) : gapW ⟨o, gap, text, []⟩ = gap := rfl

theorem of_owns {ps : List Part} {p : Part} (h : p ∈ owns ps) : p ∈ ps := (List.mem_filter.1 h).1
theorem of_kds {ps : List Part} {p : Part} (h : p ∈ kds ps) : p ∈ ps := (List.mem_filter.1 h).1

/- ### Words one by one -/
theorem mem_lin {α : Type} (own : Nat → Part → α) (kid : Nat → ByteArray → List α) (x : α) : ∀ (ps : List Part) (o : Nat), x ∈ lin own kid o ps →
    (∃ i p, (owns ps)[i]? = some p ∧ x = own (o + i) p) ∨ ∃ p ∈ kds ps, x ∈ kid p.kid.toNat p.gap := by
  intro ps
  induction ps with
  | nil => intro o h; cases h
  | cons p ps ih =>
    intro o h
    rw [lin] at h
    by_cases hk : p.kid = -1
    · rw [if_pos hk] at h
      have eo : owns (p :: ps) = p :: owns ps := by unfold owns; rw [List.filter_cons, if_pos (by simpa using hk)]
      have ek : kds (p :: ps) = kds ps := by unfold kds; rw [List.filter_cons, if_neg (by simpa using hk)]
      rw [eo, ek]
      rcases List.mem_cons.1 h with rfl | h
      · exact .inl ⟨0, p, rfl, rfl⟩
      · rcases ih _ h with ⟨i, q, h1, h2⟩ | h1
        · exact .inl ⟨i + 1, q, h1, by rw [h2, show o + 1 + i = o + (i + 1) from by omega]⟩
        · exact .inr h1
    · rw [if_neg hk] at h
      have eo : owns (p :: ps) = owns ps := by unfold owns; rw [List.filter_cons, if_neg (by simpa using hk)]
      have ek : kds (p :: ps) = p :: kds ps := by unfold kds; rw [List.filter_cons, if_pos (by simpa using hk)]
      rw [eo, ek]
      rcases List.mem_append.1 h with h | h
      · exact .inr ⟨p, List.mem_cons_self .., h⟩
      · rcases ih _ h with h1 | ⟨q, h1, h2⟩
        · exact .inl h1
        · exact .inr ⟨q, List.mem_cons_of_mem _ h1, h2⟩
theorem owns_fix_text (f : ByteArray) (ps : List Part) : (owns (fixF f ps)).map (·.text) = (owns ps).map (·.text) := by
  cases ps with
  | nil => rfl
  | cons p ps =>
    show (owns (⟨f, p.text, p.kid⟩ :: ps)).map _ = _
    unfold owns
    rw [List.filter_cons, List.filter_cons]
    by_cases h : p.kid = -1
    · rw [if_pos (by simpa using h), if_pos (by simpa using h)]; rfl
    · rw [if_neg (by simpa using h), if_neg (by simpa using h)]
/-- The kid of a part. -/
theorem kds_get (k : Int) (s f : ByteArray) (n L : Nat) (h : Ar k n) (p : Part) (hp : p ∈ kds (fixF f (parts k s n L))) : ∃ j : Nat, j < n ∧ p.kid = j := by
  have h1 : p.kid ∈ (kds (fixF f (parts k s n L))).map (·.kid) := List.mem_map_of_mem hp
  rw [fix_kids, kds_parts k s n L h] at h1
  obtain ⟨j, hj, e⟩ := List.mem_map.1 h1
  rw [List.mem_range'_1] at hj
  exact ⟨j, by omega, e.symm⟩
theorem own_len (k : Int) (s : ByteArray) (n : Nat) (h : Ar k n) (hn : n ≤ 1000000) : own k s n = ((rown k s n).length : Nat) := by
  have w : ∀ a : Nat, a ≤ 100000000 → RowKit.wrap64 (a : Int) = a := fun a ha => wrap_in _ (by omega) (by omega)
  have rl : ∀ (l : List ByteArray) (m : Nat), (rlist l m).length = l.length + (m - 1) + 1 := fun l m => by unfold rlist; simp only [List.length_append, List.length_replicate, List.length_cons, List.length_nil]
  have o3 : own 3 s n = RowKit.wrap64 (2 + ((n - 1 : Nat) : Int)) := by unfold own ownT; simp
  have o20 : own 20 s n = RowKit.wrap64 (3 + ((n - 1 : Nat) : Int)) := by unfold own ownT; simp
  have o21 : own 21 s n = RowKit.wrap64 (4 + ((n - 2 : Nat) : Int)) := by unfold own ownT; simp
  have o8 : own 8 s n = if s.size = 0 then 0 else 2 := by unfold own ownT; simp
  have o14 : own 14 s n = if n = 0 then 0 else 1 := by unfold own ownT; simp
  have oc : ∀ k : Int, k ≠ 3 → k ≠ 20 → k ≠ 21 → k ≠ 8 → k ≠ 14 → own k s n = ownT k := fun k h1 h2 h3 h4 h5 => by unfold own; simp [h1, h2, h3, h4, h5]
  rcases kinds k ⟨h.lo, h.hi⟩ with rfl | rfl | rfl | rfl | rfl | rfl | rfl | rfl | rfl | rfl | rfl | rfl | rfl | rfl | rfl | rfl | rfl | rfl | rfl | rfl | rfl | rfl | rfl | rfl | rfl | rfl
  case inr.inr.inl =>
    have e : rown 3 s n = rlist [⟨#[40]⟩] n := rfl
    rw [o3, e, rl, show (2 + ((n - 1 : Nat) : Int)) = ((2 + (n - 1) : Nat) : Int) from by omega, w _ (by omega)]
    simp only [List.length_cons, List.length_nil]; omega
  case inr.inr.inr.inr.inr.inr.inr.inl =>
    have e : rown 8 s n = if s.size = 0 then [] else [⟨#[58]⟩, s] := rfl
    rw [o8, e]
    split <;> rfl
  case inr.inr.inr.inr.inr.inr.inr.inr.inr.inr.inr.inr.inr.inl =>
    have e : rown 14 s n = if n = 0 then [] else [⟨#[101, 108, 115, 101]⟩] := rfl
    rw [o14, e]
    split <;> rfl
  case inr.inr.inr.inr.inr.inr.inr.inr.inr.inr.inr.inr.inr.inr.inr.inr.inr.inr.inr.inl =>
    have e : rown 20 s n = rlist [s, ⟨#[40]⟩] n := rfl
    rw [o20, e, rl, show (3 + ((n - 1 : Nat) : Int)) = ((3 + (n - 1) : Nat) : Int) from by omega, w _ (by omega)]
    simp only [List.length_cons, List.length_nil]; omega
  case inr.inr.inr.inr.inr.inr.inr.inr.inr.inr.inr.inr.inr.inr.inr.inr.inr.inr.inr.inr.inl =>
    have e : rown 21 s n = rlist [⟨#[46]⟩, s, ⟨#[40]⟩] (n - 1) := rfl
    rw [o21, e, rl, show (4 + ((n - 2 : Nat) : Int)) = ((4 + (n - 2) : Nat) : Int) from by omega, w _ (by omega)]
    simp only [List.length_cons, List.length_nil]; omega
  all_goals
    rw [oc _ (by decide) (by decide) (by decide) (by decide) (by decide)]
    rfl
/-- Every word of a well-formed tree that is no file is a token behind trivia. -/
theorem ev_ok (t : Tr) : ∀ L f, firstE t = 0 → sz t ≤ 1000000 → ws f → ∀ w ∈ evT t L f, triv (gapW w) = true ∧ (IsTok w.text ∨ t.kind = 1) ∧ ∀ u ∈ t.kids, u.kind ≠ 1 := by
  refine Tr.ind (M := fun t => ∀ L f, firstE t = 0 → sz t ≤ 1000000 → ws f → ∀ w ∈ evT t L f, triv (gapW w) = true ∧ (IsTok w.text ∨ t.kind = 1) ∧ ∀ u ∈ t.kids, u.kind ≠ 1) ?_ t
  intro k s g ks ih L f h hz hf w hw
  obtain ⟨hn, hks⟩ := first_zero k s g ks h
  obtain ⟨h1, h2, h3⟩ := nodeE_zero k s g ks hn
  have har := shape_ar k s ks h1
  rw [sz] at hz
  have hlen := len_szs ks
  have hno : ∀ u ∈ ks, u.kind ≠ 1 := fun u hu e => by
    obtain ⟨j, hj⟩ := List.getElem?_of_mem hu
    obtain ⟨_, _, hfit, _⟩ := shape_parts k s ks h1
    have := fitA_get k ks 0 hfit j u hj
    unfold fits at this
    have := of_decide_eq_true this
    rw [e] at this
    unfold FitsP grp at this
    omega
  refine ⟨?_, ?_, hno⟩
  all_goals
    rw [evT] at hw
    rcases mem_lin _ _ _ _ _ hw with ⟨i, p, hp, rfl⟩ | ⟨p, hp, hx⟩
  · have hg := gapOK_fix hf (gapOK_parts k s ks.length L)
    by_cases hg0 : g = []
    · subst hg0
      exact ws_triv (hg p (of_owns (List.mem_of_getElem? hp)))
    · unfold gapsOK at h3
      rw [decide_eq_false hg0, Bool.false_or, Bool.and_eq_true, decide_eq_true_eq, own_len k s ks.length har (by omega), ← rown_eq k s ks.length L har, List.length_map, ← owns_len_fix f] at h3
      have hi : i < g.length := by have := (List.getElem?_eq_some_iff.1 hp).1; omega
      unfold gapW
      simp only
      rw [if_neg (by rw [List.length_eq_zero_iff]; exact hg0), Nat.zero_add, List.getD_eq_getElem?_getD, List.getElem?_eq_getElem hi]
      exact List.all_eq_true.1 h3.2 _ (List.getElem_mem hi)
  · obtain ⟨j, hj, e⟩ := kds_get k s f ks.length L har p hp
    rw [e, Int.toNat_natCast, evF_get ks j _ (List.getElem?_eq_getElem hj)] at hx
    have hm := List.getElem_mem hj
    exact (ih _ hm _ _ (firsts_mem ks hks _ hm) (by have := sz_mem hm; omega) (gapOK_fix hf (gapOK_parts k s ks.length L) p (of_kds hp)) w hx).1
  · by_cases hk1 : k = 1
    · exact .inr hk1
    · left
      have ht : p.text ∈ (owns (fixF f (parts k s ks.length L))).map (·.text) := List.mem_map_of_mem (List.mem_of_getElem? hp)
      rw [owns_fix_text, rown_eq k s ks.length L har] at ht
      exact rown_tok k s ks h1 h2 hk1 _ ht
  · obtain ⟨j, hj, e⟩ := kds_get k s f ks.length L har p hp
    rw [e, Int.toNat_natCast, evF_get ks j _ (List.getElem?_eq_getElem hj)] at hx
    have hm := List.getElem_mem hj
    rcases (ih _ hm _ _ (firsts_mem ks hks _ hm) (by have := sz_mem hm; omega) (gapOK_fix hf (gapOK_parts k s ks.length L) p (of_kds hp)) w hx).2.1 with h | h
    · exact .inl h
    · exact absurd h (hno _ hm)
theorem wordsOK_all (l : List Wd) (h : ∀ w ∈ l, triv (gapW w) = true ∧ IsTok w.text) : WordsOK l := by
  induction l with
  | nil => trivial
  | cons w l ih =>
    obtain ⟨h1, h2⟩ := h w (List.mem_cons_self ..)
    exact ⟨h1, .inl ⟨h2, ih fun a ha => h a (List.mem_cons_of_mem _ ha)⟩⟩
theorem wordsOK_end (l : List Wd) (e : Wd) (h : ∀ w ∈ l, triv (gapW w) = true ∧ IsTok w.text) (h1 : triv (gapW e) = true) (h2 : e.text = ⟨#[]⟩) : WordsOK (l ++ [e]) := by
  induction l with
  | nil => exact ⟨h1, .inr ⟨h2, rfl⟩⟩
  | cons w l ih =>
    obtain ⟨h3, h4⟩ := h w (List.mem_cons_self ..)
    exact ⟨h3, .inl ⟨h4, ih fun a ha => h a (List.mem_cons_of_mem _ ha)⟩⟩
theorem tok_size {x : ByteArray} (h : IsTok x) : ¬ x.size = 0 := fun h0 => by
  obtain ⟨k, hk⟩ := h
  have := whole_pos _ _ hk
  rw [(size_list _).1 h0] at this
  simp at this
theorem txts_all (l : List Wd) (h : ∀ w ∈ l, IsTok w.text) : txts l = l.map (fun w => w.text.data.toList) ++ [[]] := by
  induction l with
  | nil => rfl
  | cons w l ih =>
    rw [txts, if_neg (tok_size (h w (List.mem_cons_self ..))), ih fun a ha => h a (List.mem_cons_of_mem _ ha)]; rfl
theorem txts_end (l : List Wd) (e : Wd) (h : ∀ w ∈ l, IsTok w.text) (h2 : e.text = ⟨#[]⟩) : txts (l ++ [e]) = (l ++ [e]).map (fun w => w.text.data.toList) := by
  induction l with
  | nil => rw [List.nil_append, txts, h2, if_pos (show (⟨#[]⟩ : ByteArray).size = 0 from rfl)]; show [[]] = [e.text.data.toList]; rw [h2]
  | cons w l ih =>
    rw [List.cons_append, txts, if_neg (tok_size (h w (List.mem_cons_self ..))), ih fun a ha => h a (List.mem_cons_of_mem _ ha)]; rfl
/-- The texts of the tokens of a tree's source. -/
def readT (t : Tr) : List Bs := if t.kind = 1 then (words t).map (·.data.toList) else (words t).map (·.data.toList) ++ [[]]
theorem tree_words (t : Tr) (h : firstE t = 0) (hz : sz t ≤ 1000000) : WordsOK (evT t 0 ⟨#[]⟩) ∧ txts (evT t 0 ⟨#[]⟩) = readT t := by
  cases t with
  | node k s g ks =>
    have hev := ev_ok (.node k s g ks) 0 ⟨#[]⟩ h hz ws_nil
    unfold readT words
    by_cases hk : k = 1
    · subst hk
      rw [show (Tr.node 1 s g ks).kind = 1 from rfl, if_pos rfl, List.map_map]
      obtain ⟨hn, hks⟩ := first_zero 1 s g ks h
      obtain ⟨h1, h2, h3⟩ := nodeE_zero 1 s g ks hn
      have har := shape_ar 1 s ks h1
      have hmem : ∀ u ∈ ks, u.kind ≠ 1 := fun u hu e => by
        obtain ⟨j, hj⟩ := List.getElem?_of_mem hu
        obtain ⟨_, _, hfit, _⟩ := shape_parts 1 s ks h1
        have := fitA_get 1 ks 0 hfit j u hj
        unfold fits at this
        have := of_decide_eq_true this
        rw [e] at this
        unfold FitsP grp at this
        omega
      obtain ⟨l, e, hl, he, hin⟩ : ∃ l e, evT (.node 1 s g ks) 0 ⟨#[]⟩ = l ++ [e] ∧ e.text = ⟨#[]⟩ ∧ ∀ w ∈ l, IsTok w.text := by
        obtain ⟨ps, f2, e1, e2⟩ : ∃ ps f2, fixF ⟨#[]⟩ (parts 1 s ks.length 0) = ps ++ [pown f2 ⟨#[]⟩] ∧ owns ps = [] := by
          show ∃ ps f2, fixF ⟨#[]⟩ (kidsP 0 ks.length _ ++ [pown _ ⟨#[]⟩]) = _ ∧ _
          cases hc : kidsP 0 ks.length ⟨#[10, 10]⟩ with
          | nil => exact ⟨[], _, rfl, rfl⟩
          | cons a l =>
            refine ⟨⟨⟨#[]⟩, a.text, a.kid⟩ :: l, _, rfl, ?_⟩
            have := owns_kidsP 0 ks.length ⟨#[10, 10]⟩
            rw [hc] at this
            unfold owns at this ⊢
            rw [List.filter_cons] at this ⊢
            by_cases hk : a.kid = -1
            · rw [if_pos (by simpa using hk)] at this; cases this
            · rw [if_neg (by simpa using hk)] at this
              rw [if_neg (by simpa using hk)]; exact this
        have e3 : evT (.node 1 s g ks) 0 ⟨#[]⟩ = lin (fun o p => ⟨o, p.gap, p.text, g⟩) (fun j gp => (evF ks).getD j (fun _ _ => []) (inside 1 0) gp) 0 (ps ++ [pown f2 ⟨#[]⟩]) := by
          rw [evT]
          show lin _ _ 0 (fixF ⟨#[]⟩ (parts 1 s ks.length 0)) = _
          rw [e1]
        rw [lin_append] at e3
        refine ⟨_, _, e3, rfl, fun w hw => ?_⟩
        rcases mem_lin _ _ _ _ _ hw with ⟨i, p, hp, _⟩ | ⟨p, hp, hx⟩
        · rw [e2] at hp; simp at hp
        · have hp2 : p ∈ kds (fixF ⟨#[]⟩ (parts 1 s ks.length 0)) := by rw [e1, kds_append]; exact List.mem_append_left _ hp
          obtain ⟨j, hj, e⟩ := kds_get 1 s _ ks.length 0 har p hp2
          rw [e, Int.toNat_natCast, evF_get ks j _ (List.getElem?_eq_getElem hj)] at hx
          have hm := List.getElem_mem hj
          rw [sz] at hz
          rcases (ev_ok _ _ _ (firsts_mem ks hks _ hm) (by have := sz_mem hm; omega) (gapOK_fix ws_nil (gapOK_parts 1 s ks.length 0) p (of_kds hp2)) w hx).2.1 with h | h
          · exact h
          · exact absurd h (hmem _ hm)
      rw [hl] at hev ⊢
      exact ⟨wordsOK_end l e (fun w hw => ⟨(hev w (List.mem_append_left _ hw)).1, hin w hw⟩) (hev e (by simp)).1 he, txts_end l e hin he⟩
    · rw [show (Tr.node k s g ks).kind = k from rfl, if_neg hk, List.map_map]
      have hin : ∀ w ∈ evT (.node k s g ks) 0 ⟨#[]⟩, triv (gapW w) = true ∧ IsTok w.text := fun w hw => by
        obtain ⟨h1, h2, _⟩ := hev w hw
        rcases h2 with h2 | h2
        · exact ⟨h1, h2⟩
        · exact absurd h2 hk
      exact ⟨wordsOK_all _ hin, txts_all _ fun w hw => (hin w hw).2⟩
/-- The source of a well-formed tree is tokens, whose texts are its words. -/
theorem source_reads (t : Tr) (h : firstE t = 0) (hz : sz t ≤ 1000000) : (tk (source t) 0).2 = none ∧ (tk (source t) 0).1.map (·.text) = readT t := by
  obtain ⟨h1, h2⟩ := tree_words t h hz
  obtain ⟨h3, h4⟩ := tk_src _ ⟨#[]⟩ 0 h1
  exact ⟨h3, h4.trans h2⟩
end Go.Proofs.YtiaajpdcacdngaaGreatDoor.Pl
