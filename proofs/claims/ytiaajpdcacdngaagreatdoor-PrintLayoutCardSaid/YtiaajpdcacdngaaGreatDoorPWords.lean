/- The words of a well-formed tree: tokens behind trivia; how long its source is. -/
import Derived.Test.YtiaajpdcacdngaaGreatDoorPToks
namespace Go.Proofs.YtiaajpdcacdngaaGreatDoor.Pl
open Go
set_option linter.unusedVariables false
set_option linter.unusedSimpArgs false

/- ### Canonical gaps are blanks -/
def ws (g : ByteArray) : Prop := ∀ c ∈ g.data.toList, blank c = true
theorem ws_triv {g : ByteArray} (h : ws g) : triv g = true := by
  unfold triv
  unfold ws at h
  generalize g.data.toList = l at *
  rw [beq_iff_eq]
  induction l with
  | nil => exact eo_stop [] rfl
  | cons c l ih =>
    have hb := hop_blank c l (h c (List.mem_cons_self ..))
    rw [eo_go _ (by rw [hb]; decide), hb, List.drop_succ_cons, List.drop_zero, ih (fun a ha => h a (List.mem_cons_of_mem _ ha)), List.length_cons]; omega
theorem ws_nil : ws ⟨#[]⟩ := fun c h => by cases h
theorem ws_sp : ws ⟨#[32]⟩ := fun c h => by obtain rfl := List.mem_singleton.1 h; decide
theorem ws_lf : ws ⟨#[10]⟩ := fun c h => by obtain rfl := List.mem_singleton.1 h; decide
theorem ws_lf2 : ws ⟨#[10, 10]⟩ := fun c h => by
  have : c = 10 := by simpa using h
  subst this; decide
theorem ws_nl (n : Nat) : ws (nl n) := fun c h => by
  unfold nl at h
  rw [mk_list] at h
  rcases List.mem_cons.1 h with rfl | h
  · decide
  · rw [List.eq_of_mem_replicate h]; decide
/-- Each part's gap is blanks, and short. -/
def gapOK (ps : List Part) : Prop := ∀ p ∈ ps, ws p.gap
theorem gapOK_nil : gapOK [] := fun p h => by cases h
theorem gapOK_own {g t : ByteArray} {ps : List Part} (h : ws g) (hp : gapOK ps) : gapOK (pown g t :: ps) := fun p hm => by
  rcases List.mem_cons.1 hm with rfl | hm
  · exact h
  · exact hp p hm
theorem gapOK_kid {g : ByteArray} {i : Int} {ps : List Part} (h : ws g) (hp : gapOK ps) : gapOK (pkid g i :: ps) := fun p hm => by
  rcases List.mem_cons.1 hm with rfl | hm
  · exact h
  · exact hp p hm
theorem gapOK_append {a b : List Part} (ha : gapOK a) (hb : gapOK b) : gapOK (a ++ b) := fun p hm => by
  rcases List.mem_append.1 hm with hm | hm
  · exact ha p hm
  · exact hb p hm
theorem gapOK_kidsP (first n : Nat) {g : ByteArray} (h : ws g) : gapOK (kidsP first n g) := fun p hm => by
  unfold kidsP at hm
  obtain ⟨i, _, rfl⟩ := List.mem_map.1 hm
  exact h
theorem gapOK_listP (first n : Nat) : gapOK (listP first n) := by
  refine gapOK_own ws_nil (gapOK_append (fun p hm => ?_) (gapOK_own ws_nil gapOK_nil))
  unfold commasP at hm
  obtain ⟨i, _, hm⟩ := List.mem_flatMap.1 hm
  split at hm
  · exact gapOK_own (t := ⟨#[44]⟩) ws_nil (gapOK_kid ws_sp gapOK_nil) p hm
  · exact gapOK_kid ws_nil gapOK_nil p hm
theorem gapOK_bodyP (first n L : Nat) : gapOK (bodyP first n L) := by
  unfold bodyP
  split
  · exact gapOK_own ws_nil gapOK_nil
  · exact gapOK_append (gapOK_kidsP _ _ (ws_nl _)) (gapOK_own (ws_nl _) gapOK_nil)
theorem gapOK_assignP (s : ByteArray) : gapOK (assignP s) := gapOK_own ws_sp (gapOK_own ws_sp (gapOK_kid ws_sp (gapOK_own ws_nil gapOK_nil)))
theorem gapOK_ite {c : Prop} [Decidable c] {a b : List Part} (ha : gapOK a) (hb : gapOK b) : gapOK (if c then a else b) := by
  by_cases h : c
  · rw [if_pos h]; exact ha
  · rw [if_neg h]; exact hb
theorem gapOK_parts (k : Int) (s : ByteArray) (n L : Nat) : gapOK (parts k s n L) := by
  unfold parts stmtP exprP
  repeat' (with_reducible refine gapOK_ite ?_ ?_)
  · exact gapOK_append (gapOK_kidsP _ _ ws_lf2) (gapOK_own ws_lf gapOK_nil)
  · exact gapOK_own ws_nil (gapOK_own ws_sp (gapOK_kid ws_nil (gapOK_kid ws_sp (gapOK_kid ws_sp gapOK_nil))))
  · exact gapOK_listP _ _
  · exact gapOK_own ws_nil (gapOK_kid ws_sp gapOK_nil)
  · exact gapOK_own ws_nil (gapOK_bodyP _ _ _)
  · exact gapOK_append (gapOK_own ws_nil (gapOK_own ws_sp (gapOK_kid ws_sp (gapOK_own ws_sp gapOK_nil)))) (gapOK_bodyP _ _ _)
  · exact gapOK_nil
  · exact gapOK_own ws_nil (gapOK_own ws_sp gapOK_nil)
  · exact gapOK_own ws_nil (gapOK_assignP _)
  · exact gapOK_own ws_nil (gapOK_assignP _)
  · exact gapOK_assignP _
  · exact gapOK_own ws_nil (gapOK_kid ws_sp (gapOK_own ws_nil gapOK_nil))
  · exact gapOK_own ws_nil (gapOK_kidsP _ _ ws_sp)
  · exact gapOK_nil
  · exact gapOK_own ws_nil (gapOK_kidsP _ _ ws_sp)
  · exact gapOK_own ws_nil (gapOK_kidsP _ _ ws_sp)
  · exact gapOK_kid ws_nil (gapOK_own ws_nil gapOK_nil)
  · exact gapOK_own ws_nil (gapOK_listP _ _)
  · exact gapOK_append (gapOK_kid ws_nil (gapOK_own ws_nil (gapOK_own ws_nil gapOK_nil))) (gapOK_listP _ _)
  · exact gapOK_append (gapOK_own ws_nil (gapOK_own ws_sp gapOK_nil)) (gapOK_listP _ _)
  · exact gapOK_kid ws_nil (gapOK_own ws_sp (gapOK_kid ws_sp gapOK_nil))
  · exact gapOK_own ws_nil (gapOK_kid ws_nil gapOK_nil)
  · exact gapOK_own ws_nil (gapOK_kid ws_nil (gapOK_own ws_nil gapOK_nil))
  · exact gapOK_own ws_nil gapOK_nil
theorem gapOK_fix {f : ByteArray} {ps : List Part} (hf : ws f) (h : gapOK ps) : gapOK (fixF f ps) := by
  cases ps with
  | nil => exact h
  | cons p ps =>
    intro q hq
    rcases List.mem_cons.1 hq with rfl | hq
    · exact hf
    · exact h q (List.mem_cons_of_mem _ hq)
theorem gapW_nil (o : Nat) (gap text : ByteArray) : gapW ⟨o, gap, text, []⟩ = gap := rfl

theorem of_owns {ps : List Part} {p : Part} (h : p ∈ owns ps) : p ∈ ps := (List.mem_filter.1 h).1
theorem of_kds {ps : List Part} {p : Part} (h : p ∈ kds ps) : p ∈ ps := (List.mem_filter.1 h).1

/- ### Words one by one -/
theorem mem_lin {α : Type} (own : Nat → Part → α) (kid : Nat → ByteArray → List α) (x : α) : ∀ (ps : List Part) (o : Nat), x ∈ lin own kid o ps →
    (∃ i p, (owns ps)[i]? = some p ∧ x = own (o + i) p) ∨ ∃ p ∈ kds ps, x ∈ kid p.kid.toNat p.gap := by
  intro ps
  induction ps with
  | nil => intro o h; cases h
  | cons p ps ih =>
    intro o h
    rw [lin] at h
    by_cases hk : p.kid = -1
    · rw [if_pos hk] at h
      have eo : owns (p :: ps) = p :: owns ps := by unfold owns; rw [List.filter_cons, if_pos (by simpa using hk)]
      have ek : kds (p :: ps) = kds ps := by unfold kds; rw [List.filter_cons, if_neg (by simpa using hk)]
      rw [eo, ek]
      rcases List.mem_cons.1 h with rfl | h
      · exact .inl ⟨0, p, rfl, rfl⟩
      · rcases ih _ h with ⟨i, q, h1, h2⟩ | h1
        · exact .inl ⟨i + 1, q, h1, by rw [h2, show o + 1 + i = o + (i + 1) from by omega]⟩
        · exact .inr h1
    · rw [if_neg hk] at h
      have eo : owns (p :: ps) = owns ps := by unfold owns; rw [List.filter_cons, if_neg (by simpa using hk)]
      have ek : kds (p :: ps) = p :: kds ps := by unfold kds; rw [List.filter_cons, if_pos (by simpa using hk)]
      rw [eo, ek]
      rcases List.mem_append.1 h with h | h
      · exact .inr ⟨p, List.mem_cons_self .., h⟩
      · rcases ih _ h with h1 | ⟨q, h1, h2⟩
        · exact .inl h1
        · exact .inr ⟨q, List.mem_cons_of_mem _ h1, h2⟩
theorem owns_fix_text (f : ByteArray) (ps : List Part) : (owns (fixF f ps)).map (·.text) = (owns ps).map (·.text) := by
  cases ps with
  | nil => rfl
  | cons p ps =>
    show (owns (⟨f, p.text, p.kid⟩ :: ps)).map _ = _
    unfold owns
    rw [List.filter_cons, List.filter_cons]
    by_cases h : p.kid = -1
    · rw [if_pos (by simpa using h), if_pos (by simpa using h)]; rfl
    · rw [if_neg (by simpa using h), if_neg (by simpa using h)]
/-- The kid of a part. -/
theorem kds_get (k : Int) (s f : ByteArray) (n L : Nat) (h : Ar k n) (p : Part) (hp : p ∈ kds (fixF f (parts k s n L))) : ∃ j : Nat, j < n ∧ p.kid = j := by
  have h1 : p.kid ∈ (kds (fixF f (parts k s n L))).map (·.kid) := List.mem_map_of_mem hp
  rw [fix_kids, kds_parts k s n L h] at h1
  obtain ⟨j, hj, e⟩ := List.mem_map.1 h1
  rw [List.mem_range'_1] at hj
  exact ⟨j, by omega, e.symm⟩
theorem own_len (k : Int) (s : ByteArray) (n : Nat) (h : Ar k n) (hn : n ≤ 1000000) : own k s n = ((rown k s n).length : Nat) := by
  have w : ∀ a : Nat, a ≤ 100000000 → RowKit.wrap64 (a : Int) = a := fun a ha => wrap_in _ (by omega) (by omega)
  have rl : ∀ (l : List ByteArray) (m : Nat), (rlist l m).length = l.length + (m - 1) + 1 := fun l m => by unfold rlist; simp only [List.length_append, List.length_replicate, List.length_cons, List.length_nil]
  have o3 : own 3 s n = RowKit.wrap64 (2 + ((n - 1 : Nat) : Int)) := by unfold own ownT; simp
  have o20 : own 20 s n = RowKit.wrap64 (3 + ((n - 1 : Nat) : Int)) := by unfold own ownT; simp
  have o21 : own 21 s n = RowKit.wrap64 (4 + ((n - 2 : Nat) : Int)) := by unfold own ownT; simp
  have o8 : own 8 s n = if s.size = 0 then 0 else 2 := by unfold own ownT; simp
  have o14 : own 14 s n = if n = 0 then 0 else 1 := by unfold own ownT; simp
  have oc : ∀ k : Int, k ≠ 3 → k ≠ 20 → k ≠ 21 → k ≠ 8 → k ≠ 14 → own k s n = ownT k := fun k h1 h2 h3 h4 h5 => by unfold own; simp [h1, h2, h3, h4, h5]
  rcases kinds k ⟨h.lo, h.hi⟩ with rfl | rfl | rfl | rfl | rfl | rfl | rfl | rfl | rfl | rfl | rfl | rfl | rfl | rfl | rfl | rfl | rfl | rfl | rfl | rfl | rfl | rfl | rfl | rfl | rfl | rfl
  case inr.inr.inl =>
    have e : rown 3 s n = rlist [⟨#[40]⟩] n := rfl
    rw [o3, e, rl, show (2 + ((n - 1 : Nat) : Int)) = ((2 + (n - 1) : Nat) : Int) from by omega, w _ (by omega)]
    simp only [List.length_cons, List.length_nil]; omega
  case inr.inr.inr.inr.inr.inr.inr.inl =>
    have e : rown 8 s n = if s.size = 0 then [] else [⟨#[58]⟩, s] := rfl
    rw [o8, e]
    split <;> rfl
  case inr.inr.inr.inr.inr.inr.inr.inr.inr.inr.inr.inr.inr.inl =>
    have e : rown 14 s n = if n = 0 then [] else [⟨#[101, 108, 115, 101]⟩] := rfl
    rw [o14, e]
    split <;> rfl
  case inr.inr.inr.inr.inr.inr.inr.inr.inr.inr.inr.inr.inr.inr.inr.inr.inr.inr.inr.inl =>
    have e : rown 20 s n = rlist [s, ⟨#[40]⟩] n := rfl
    rw [o20, e, rl, show (3 + ((n - 1 : Nat) : Int)) = ((3 + (n - 1) : Nat) : Int) from by omega, w _ (by omega)]
    simp only [List.length_cons, List.length_nil]; omega
  case inr.inr.inr.inr.inr.inr.inr.inr.inr.inr.inr.inr.inr.inr.inr.inr.inr.inr.inr.inr.inl =>
    have e : rown 21 s n = rlist [⟨#[46]⟩, s, ⟨#[40]⟩] (n - 1) := rfl
    rw [o21, e, rl, show (4 + ((n - 2 : Nat) : Int)) = ((4 + (n - 2) : Nat) : Int) from by omega, w _ (by omega)]
    simp only [List.length_cons, List.length_nil]; omega
  all_goals
    rw [oc _ (by decide) (by decide) (by decide) (by decide) (by decide)]
    rfl
/-- Every word of a well-formed tree that is no file is a token behind trivia. -/
theorem ev_ok (t : Tr) : ∀ L f, firstE t = 0 → sz t ≤ 1000000 → ws f → ∀ w ∈ evT t L f, triv (gapW w) = true ∧ (IsTok w.text ∨ t.kind = 1) ∧ ∀ u ∈ t.kids, u.kind ≠ 1 := by
  refine Tr.ind (M := fun t => ∀ L f, firstE t = 0 → sz t ≤ 1000000 → ws f → ∀ w ∈ evT t L f, triv (gapW w) = true ∧ (IsTok w.text ∨ t.kind = 1) ∧ ∀ u ∈ t.kids, u.kind ≠ 1) ?_ t
  intro k s g ks ih L f h hz hf w hw
  obtain ⟨hn, hks⟩ := first_zero k s g ks h
  obtain ⟨h1, h2, h3⟩ := nodeE_zero k s g ks hn
  have har := shape_ar k s ks h1
  rw [sz] at hz
  have hlen := len_szs ks
  have hno : ∀ u ∈ ks, u.kind ≠ 1 := fun u hu e => by
    obtain ⟨j, hj⟩ := List.getElem?_of_mem hu
    obtain ⟨_, _, hfit, _⟩ := shape_parts k s ks h1
    have := fitA_get k ks 0 hfit j u hj
    unfold fits at this
    have := of_decide_eq_true this
    rw [e] at this
    unfold FitsP grp at this
    omega
  refine ⟨?_, ?_, hno⟩
  all_goals
    rw [evT] at hw
    rcases mem_lin _ _ _ _ _ hw with ⟨i, p, hp, rfl⟩ | ⟨p, hp, hx⟩
  · have hg := gapOK_fix hf (gapOK_parts k s ks.length L)
    by_cases hg0 : g = []
    · subst hg0
      exact ws_triv (hg p (of_owns (List.mem_of_getElem? hp)))
    · unfold gapsOK at h3
      rw [decide_eq_false hg0, Bool.false_or, Bool.and_eq_true, decide_eq_true_eq, own_len k s ks.length har (by omega), ← rown_eq k s ks.length L har, List.length_map, ← owns_len_fix f] at h3
      have hi : i < g.length := by have := (List.getElem?_eq_some_iff.1 hp).1; omega
      unfold gapW
      simp only
      rw [if_neg (by rw [List.length_eq_zero_iff]; exact hg0), Nat.zero_add, List.getD_eq_getElem?_getD, List.getElem?_eq_getElem hi]
      exact List.all_eq_true.1 h3.2 _ (List.getElem_mem hi)
  · obtain ⟨j, hj, e⟩ := kds_get k s f ks.length L har p hp
    rw [e, Int.toNat_natCast, evF_get ks j _ (List.getElem?_eq_getElem hj)] at hx
    have hm := List.getElem_mem hj
    exact (ih _ hm _ _ (firsts_mem ks hks _ hm) (by have := sz_mem hm; omega) (gapOK_fix hf (gapOK_parts k s ks.length L) p (of_kds hp)) w hx).1
  · by_cases hk1 : k = 1
    · exact .inr hk1
    · left
      have ht : p.text ∈ (owns (fixF f (parts k s ks.length L))).map (·.text) := List.mem_map_of_mem (List.mem_of_getElem? hp)
      rw [owns_fix_text, rown_eq k s ks.length L har] at ht
      exact rown_tok k s ks h1 h2 hk1 _ ht
  · obtain ⟨j, hj, e⟩ := kds_get k s f ks.length L har p hp
    rw [e, Int.toNat_natCast, evF_get ks j _ (List.getElem?_eq_getElem hj)] at hx
    have hm := List.getElem_mem hj
    rcases (ih _ hm _ _ (firsts_mem ks hks _ hm) (by have := sz_mem hm; omega) (gapOK_fix hf (gapOK_parts k s ks.length L) p (of_kds hp)) w hx).2.1 with h | h
    · exact .inl h
    · exact absurd h (hno _ hm)
theorem wordsOK_all (l : List Wd) (h : ∀ w ∈ l, triv (gapW w) = true ∧ IsTok w.text) : WordsOK l := by
  induction l with
  | nil => trivial
  | cons w l ih =>
    obtain ⟨h1, h2⟩ := h w (List.mem_cons_self ..)
    exact ⟨h1, .inl ⟨h2, ih fun a ha => h a (List.mem_cons_of_mem _ ha)⟩⟩
theorem wordsOK_end (l : List Wd) (e : Wd) (h : ∀ w ∈ l, triv (gapW w) = true ∧ IsTok w.text) (h1 : triv (gapW e) = true) (h2 : e.text = ⟨#[]⟩) : WordsOK (l ++ [e]) := by
  induction l with
  | nil => exact ⟨h1, .inr ⟨h2, rfl⟩⟩
  | cons w l ih =>
    obtain ⟨h3, h4⟩ := h w (List.mem_cons_self ..)
    exact ⟨h3, .inl ⟨h4, ih fun a ha => h a (List.mem_cons_of_mem _ ha)⟩⟩
theorem tok_size {x : ByteArray} (h : IsTok x) : ¬ x.size = 0 := fun h0 => by
  obtain ⟨k, hk⟩ := h
  have := whole_pos _ _ hk
  rw [(size_list _).1 h0] at this
  simp at this
theorem txts_all (l : List Wd) (h : ∀ w ∈ l, IsTok w.text) : txts l = l.map (fun w => w.text.data.toList) ++ [[]] := by
  induction l with
  | nil => rfl
  | cons w l ih =>
    rw [txts, if_neg (tok_size (h w (List.mem_cons_self ..))), ih fun a ha => h a (List.mem_cons_of_mem _ ha)]; rfl
theorem txts_end (l : List Wd) (e : Wd) (h : ∀ w ∈ l, IsTok w.text) (h2 : e.text = ⟨#[]⟩) : txts (l ++ [e]) = (l ++ [e]).map (fun w => w.text.data.toList) := by
  induction l with
  | nil => rw [List.nil_append, txts, h2, if_pos (show (⟨#[]⟩ : ByteArray).size = 0 from rfl)]; show [[]] = [e.text.data.toList]; rw [h2]
  | cons w l ih =>
    rw [List.cons_append, txts, if_neg (tok_size (h w (List.mem_cons_self ..))), ih fun a ha => h a (List.mem_cons_of_mem _ ha)]; rfl
/-- The texts of the tokens of a tree's source. -/
def readT (t : Tr) : List Bs := if t.kind = 1 then (words t).map (·.data.toList) else (words t).map (·.data.toList) ++ [[]]
theorem tree_words (t : Tr) (h : firstE t = 0) (hz : sz t ≤ 1000000) : WordsOK (evT t 0 ⟨#[]⟩) ∧ txts (evT t 0 ⟨#[]⟩) = readT t := by
  cases t with
  | node k s g ks =>
    have hev := ev_ok (.node k s g ks) 0 ⟨#[]⟩ h hz ws_nil
    unfold readT words
    by_cases hk : k = 1
    · subst hk
      rw [show (Tr.node 1 s g ks).kind = 1 from rfl, if_pos rfl, List.map_map]
      obtain ⟨hn, hks⟩ := first_zero 1 s g ks h
      obtain ⟨h1, h2, h3⟩ := nodeE_zero 1 s g ks hn
      have har := shape_ar 1 s ks h1
      have hmem : ∀ u ∈ ks, u.kind ≠ 1 := fun u hu e => by
        obtain ⟨j, hj⟩ := List.getElem?_of_mem hu
        obtain ⟨_, _, hfit, _⟩ := shape_parts 1 s ks h1
        have := fitA_get 1 ks 0 hfit j u hj
        unfold fits at this
        have := of_decide_eq_true this
        rw [e] at this
        unfold FitsP grp at this
        omega
      obtain ⟨l, e, hl, he, hin⟩ : ∃ l e, evT (.node 1 s g ks) 0 ⟨#[]⟩ = l ++ [e] ∧ e.text = ⟨#[]⟩ ∧ ∀ w ∈ l, IsTok w.text := by
        obtain ⟨ps, f2, e1, e2⟩ : ∃ ps f2, fixF ⟨#[]⟩ (parts 1 s ks.length 0) = ps ++ [pown f2 ⟨#[]⟩] ∧ owns ps = [] := by
          show ∃ ps f2, fixF ⟨#[]⟩ (kidsP 0 ks.length _ ++ [pown _ ⟨#[]⟩]) = _ ∧ _
          cases hc : kidsP 0 ks.length ⟨#[10, 10]⟩ with
          | nil => exact ⟨[], _, rfl, rfl⟩
          | cons a l =>
            refine ⟨⟨⟨#[]⟩, a.text, a.kid⟩ :: l, _, rfl, ?_⟩
            have := owns_kidsP 0 ks.length ⟨#[10, 10]⟩
            rw [hc] at this
            unfold owns at this ⊢
            rw [List.filter_cons] at this ⊢
            by_cases hk : a.kid = -1
            · rw [if_pos (by simpa using hk)] at this; cases this
            · rw [if_neg (by simpa using hk)] at this
              rw [if_neg (by simpa using hk)]; exact this
        have e3 : evT (.node 1 s g ks) 0 ⟨#[]⟩ = lin (fun o p => ⟨o, p.gap, p.text, g⟩) (fun j gp => (evF ks).getD j (fun _ _ => []) (inside 1 0) gp) 0 (ps ++ [pown f2 ⟨#[]⟩]) := by
          rw [evT]
          show lin _ _ 0 (fixF ⟨#[]⟩ (parts 1 s ks.length 0)) = _
          rw [e1]
        rw [lin_append] at e3
        refine ⟨_, _, e3, rfl, fun w hw => ?_⟩
        rcases mem_lin _ _ _ _ _ hw with ⟨i, p, hp, _⟩ | ⟨p, hp, hx⟩
        · rw [e2] at hp; simp at hp
        · have hp2 : p ∈ kds (fixF ⟨#[]⟩ (parts 1 s ks.length 0)) := by rw [e1, kds_append]; exact List.mem_append_left _ hp
          obtain ⟨j, hj, e⟩ := kds_get 1 s _ ks.length 0 har p hp2
          rw [e, Int.toNat_natCast, evF_get ks j _ (List.getElem?_eq_getElem hj)] at hx
          have hm := List.getElem_mem hj
          rw [sz] at hz
          rcases (ev_ok _ _ _ (firsts_mem ks hks _ hm) (by have := sz_mem hm; omega) (gapOK_fix ws_nil (gapOK_parts 1 s ks.length 0) p (of_kds hp2)) w hx).2.1 with h | h
          · exact h
          · exact absurd h (hmem _ hm)
      rw [hl] at hev ⊢
      exact ⟨wordsOK_end l e (fun w hw => ⟨(hev w (List.mem_append_left _ hw)).1, hin w hw⟩) (hev e (by simp)).1 he, txts_end l e hin he⟩
    · rw [show (Tr.node k s g ks).kind = k from rfl, if_neg hk, List.map_map]
      have hin : ∀ w ∈ evT (.node k s g ks) 0 ⟨#[]⟩, triv (gapW w) = true ∧ IsTok w.text := fun w hw => by
        obtain ⟨h1, h2, _⟩ := hev w hw
        rcases h2 with h2 | h2
        · exact ⟨h1, h2⟩
        · exact absurd h2 hk
      exact ⟨wordsOK_all _ hin, txts_all _ fun w hw => (hin w hw).2⟩
/-- The source of a well-formed tree is tokens, whose texts are its words. -/
theorem source_reads (t : Tr) (h : firstE t = 0) (hz : sz t ≤ 1000000) : (tk (source t) 0).2 = none ∧ (tk (source t) 0).1.map (·.text) = readT t := by
  obtain ⟨h1, h2⟩ := tree_words t h hz
  obtain ⟨h3, h4⟩ := tk_src _ ⟨#[]⟩ 0 h1
  exact ⟨h3, h4.trans h2⟩
end Go.Proofs.YtiaajpdcacdngaaGreatDoor.Pl
