/- The canonical layout of a well-formed tree. -/
import Derived.Test.YtiaajpdcacdngaaGreatDoorPSize
namespace Go.Proofs.YtiaajpdcacdngaaGreatDoor.Pl
open Go
set_option linter.unusedVariables false
set_option linter.unusedSimpArgs false

theorem lay_node (k : Int) (s : ByteArray) (g : List ByteArray) (ks : List Tr) (L : Nat) (f : ByteArray) : lay (.node k s g ks) L f = .node k s ((owns (fixF f (parts k s ks.length L))).map (·.gap)) (layF ks (inside k L) (gapK f (parts k s ks.length L)) 0) := by rw [lay]
theorem evT_node (k : Int) (s : ByteArray) (g : List ByteArray) (ks : List Tr) (L : Nat) (f : ByteArray) : evT (.node k s g ks) L f = lin (fun o p => ⟨o, p.gap, p.text, g⟩) (fun j gp => (evF ks).getD j (fun _ _ => []) (inside k L) gp) 0 (fixF f (parts k s ks.length L)) := by rw [evT]
theorem lay_kind (t : Tr) (L : Nat) (f : ByteArray) : (lay t L f).kind = t.kind := by cases t; rfl
theorem lay_text (t : Tr) (L : Nat) (f : ByteArray) : (lay t L f).text = t.text := by cases t; rfl
theorem lay_kids (t : Tr) (L : Nat) (f : ByteArray) : (lay t L f).kids = layF t.kids (inside t.kind L) (gapK f (parts t.kind t.text t.kids.length L)) 0 := by cases t; rfl
theorem lay_gaps (t : Tr) (L : Nat) (f : ByteArray) : (lay t L f).gaps = (owns (fixF f (parts t.kind t.text t.kids.length L))).map (·.gap) := by cases t; rfl
theorem layF_bares (ks : List Tr) (L : Nat) (G : Nat → ByteArray) (h : ∀ u ∈ ks, ∀ L f, bare (lay u L f) = bare u) : ∀ i, bares (layF ks L G i) = bares ks := by
  induction ks with
  | nil => intro i; rfl
  | cons t ts ih => intro i; rw [layF, bares, bares, h t (by simp), ih (fun u hu => h u (by simp [hu]))]
theorem lay_bare (t : Tr) : ∀ L f, bare (lay t L f) = bare t := by
  refine Tr.ind (M := fun t => ∀ L f, bare (lay t L f) = bare t) (fun k s g ks ih L f => ?_) t
  rw [lay_node, bare, bare, layF_bares ks _ _ ih]
theorem layF_lay (ks : List Tr) (L L2 : Nat) (G G2 : Nat → ByteArray) (h : ∀ u ∈ ks, ∀ L f L2 f2, lay (lay u L f) L2 f2 = lay u L2 f2) : ∀ i j, layF (layF ks L G i) L2 G2 j = layF ks L2 G2 j := by
  induction ks with
  | nil => intro i j; rfl
  | cons t ts ih => intro i j; rw [layF, layF, layF, h t (by simp), ih (fun u hu => h u (by simp [hu]))]
theorem lay_lay (t : Tr) : ∀ L f L2 f2, lay (lay t L f) L2 f2 = lay t L2 f2 := by
  refine Tr.ind (M := fun t => ∀ L f L2 f2, lay (lay t L f) L2 f2 = lay t L2 f2) (fun k s g ks ih L f L2 f2 => ?_) t
  rw [lay_node, lay_node, lay_node, layF_len, layF_lay ks _ _ _ _ ih]
theorem layF_bare (ks : List Tr) (L : Nat) (G : Nat → ByteArray) (h : ∀ u ∈ ks, ∀ L f, lay (bare u) L f = lay u L f) : ∀ i, layF (bares ks) L G i = layF ks L G i := by
  induction ks with
  | nil => intro i; rfl
  | cons t ts ih => intro i; rw [bares, layF, layF, h t (by simp), ih (fun u hu => h u (by simp [hu]))]
theorem bares_len (ks : List Tr) : (bares ks).length = ks.length := by rw [bares_map, List.length_map]
theorem bare_lay (t : Tr) : ∀ L f, lay (bare t) L f = lay t L f := by
  refine Tr.ind (M := fun t => ∀ L f, lay (bare t) L f = lay t L f) (fun k s g ks ih L f => ?_) t
  rw [bare, lay_node, lay_node, bares_len, layF_bare ks _ _ ih]
theorem layout_layout (t : Tr) : layout (layout t) = layout t := lay_lay t _ _ _ _

/- ### The words of the layout, of the bare tree -/
def core (w : Wd) : Nat × ByteArray × ByteArray := (w.own, w.gap, w.text)
theorem lin_map {α β γ : Type} (F : α → γ) (H : β → γ) (o1 : Nat → Part → α) (o2 : Nat → Part → β) (k1 : Nat → ByteArray → List α) (k2 : Nat → ByteArray → List β) (ho : ∀ o p, F (o1 o p) = H (o2 o p)) : ∀ (ps : List Part) (o : Nat), (∀ p ∈ kds ps, (k1 p.kid.toNat p.gap).map F = (k2 p.kid.toNat p.gap).map H) → (lin o1 k1 o ps).map F = (lin o2 k2 o ps).map H := by
  intro ps
  induction ps with
  | nil => intro o _; rfl
  | cons p ps ih =>
    intro o h
    rw [lin, lin]
    rcases split_owns p ps with ⟨hk, h1, h2⟩ | ⟨hk, h1, h2⟩
    · rw [if_pos hk, if_pos hk, List.map_cons, List.map_cons, ho, ih _ (by rw [h2] at h; exact h)]
    · rw [h2] at h
      rw [if_neg hk, if_neg hk, List.map_append, List.map_append, h p (List.mem_cons_self ..), ih _ (fun q hq => h q (List.mem_cons_of_mem _ hq))]
/-- Where gaps are canonical: the word's own gap is what the canonical one says. -/
theorem ev_gap (t : Tr) : ∀ L f, firstE t = 0 → sz t ≤ 1000000 → (evT (lay t L f) L f).map (fun w => (gapW w, w.text)) = (evT (bare t) L f).map fun w => (gapW w, w.text) := by
  refine Tr.ind (M := fun t => ∀ L f, firstE t = 0 → sz t ≤ 1000000 → (evT (lay t L f) L f).map (fun w => (gapW w, w.text)) = (evT (bare t) L f).map fun w => (gapW w, w.text)) ?_ t
  intro k s g ks ih L f h hz
  obtain ⟨hn, hks⟩ := first_zero k s g ks h
  obtain ⟨h1, h2, h3⟩ := nodeE_zero k s g ks hn
  have har := shape_ar k s ks h1
  rw [sz] at hz
  rw [lay_node, bare, evT_node, evT_node, layF_len, bares_len]
  have key : ∀ (G : List ByteArray) (K1 K2 : Nat → ByteArray → List Wd) (ps : List Part) (o : Nat), (∀ i p, (owns ps)[i]? = some p → G[o + i]? = some p.gap) →
      (∀ p ∈ kds ps, (K1 p.kid.toNat p.gap).map (fun w => (gapW w, w.text)) = (K2 p.kid.toNat p.gap).map fun w => (gapW w, w.text)) →
      (lin (fun o p => ⟨o, p.gap, p.text, G⟩) K1 o ps).map (fun w => (gapW w, w.text)) = (lin (fun o p => ⟨o, p.gap, p.text, []⟩) K2 o ps).map fun w => (gapW w, w.text) := by
    intro G K1 K2 ps
    induction ps with
    | nil => intro o _ _; rfl
    | cons p ps ihp =>
      intro o hG hK
      rw [lin, lin]
      rcases split_owns p ps with ⟨hk, e1, e2⟩ | ⟨hk, e1, e2⟩
      · rw [e1] at hG
        rw [e2] at hK
        rw [if_pos hk, if_pos hk, List.map_cons, List.map_cons, ihp (o + 1) (fun i q hq => by rw [show o + 1 + i = o + (i + 1) from by omega]; exact hG (i + 1) q hq) hK]
        congr 1
        have hg : G[o]? = some p.gap := hG 0 p rfl
        unfold gapW
        simp only
        have hne : ¬ G.length = 0 := fun e => by rw [List.length_eq_zero_iff.1 e] at hg; simp at hg
        rw [if_neg hne, List.getD_eq_getElem?_getD, hg]; rfl
      · rw [e1] at hG
        rw [e2] at hK
        rw [if_neg hk, if_neg hk, List.map_append, List.map_append, hK p (List.mem_cons_self ..), ihp o hG (fun q hq => hK q (List.mem_cons_of_mem _ hq))]
  refine key _ _ _ _ 0 (fun i p hp => ?_) (fun p hp => ?_)
  · rw [Nat.zero_add, List.getElem?_map, hp]; rfl
  · have hm : p.kid ∈ (kds (fixF f (parts k s ks.length L))).map (·.kid) := List.mem_map_of_mem hp
    obtain ⟨i, hi⟩ := List.getElem?_of_mem hp
    have hkid := congrArg (fun l => l[i]?) (fix_kids f (parts k s ks.length L))
    rw [kds_parts k s ks.length L har] at hkid
    simp only [List.getElem?_map, hi] at hkid
    obtain ⟨hil, _⟩ : i < ks.length ∧ True := by
      have h5 := (List.getElem?_eq_some_iff.1 hi).1
      have := congrArg List.length (fix_kids f (parts k s ks.length L))
      rw [kds_parts k s ks.length L har, List.length_map, List.length_map, List.length_range'] at this
      exact ⟨by omega, trivial⟩
    rw [List.getElem?_range' hil] at hkid
    have e : p.kid = (i : Int) := by simpa using hkid
    have hgap : gapK f (parts k s ks.length L) (0 + i) = p.gap := by
      unfold gapK
      rw [Nat.zero_add, List.getD_eq_getElem?_getD, List.getElem?_map, hi]; rfl
    have hgi := List.getElem?_eq_getElem hil
    have hmem := List.getElem_mem hil
    rw [e, Int.toNat_natCast, evF_get _ i (lay ks[i] (inside k L) p.gap) (by rw [layF_get, hgi, ← hgap]; rfl), evF_get _ i (bare ks[i]) (by rw [bares_map, List.getElem?_map, hgi]; rfl)]
    exact ih _ hmem _ _ (firsts_mem ks hks _ hmem) (by have := sz_mem hmem; omega)
theorem src_congr (a : List Wd) : ∀ (b : List Wd) last, a.map (fun w => (gapW w, w.text)) = b.map (fun w => (gapW w, w.text)) → src last a = src last b := by
  induction a with
  | nil =>
    intro b last h
    cases b with
    | nil => rfl
    | cons x b => simp at h
  | cons w a ih =>
    intro b last h
    cases b with
    | nil => simp at h
    | cons x b =>
      rw [List.map_cons, List.map_cons] at h
      injection h with h1 h2
      have e1 : gapW w = gapW x := congrArg Prod.fst h1
      have e2 : w.text = x.text := congrArg Prod.snd h1
      rw [src, src, ih b w.text h2]
      unfold piece
      rw [e1, e2]
theorem source_layout (t : Tr) (h : firstE t = 0) (hz : sz t ≤ 1000000) : source (layout t) = source (bare t) := src_congr _ _ _ (ev_gap t 0 _ h hz)
/-- The words do not depend on the gaps. -/
theorem words_bare (t : Tr) : ∀ L f, (evT (bare t) L f).map (fun w => w.text) = (evT t L f).map fun w => w.text := by
  refine Tr.ind (M := fun t => ∀ L f, (evT (bare t) L f).map (fun w => w.text) = (evT t L f).map fun w => w.text) (fun k s g ks ih L f => ?_) t
  rw [bare, evT_node, evT_node, bares_len]
  refine lin_map (fun w : Wd => w.text) (fun w : Wd => w.text) _ _ _ _ ?_ _ _ (fun p hp => ?_)
  · intro o p; rfl
  cases hg : ks[p.kid.toNat]? with
  | none =>
    have e1 : (evF (bares ks)).getD p.kid.toNat (fun _ _ => []) = fun _ _ => [] := by rw [evF_map, bares_map, List.map_map, List.getD_eq_getElem?_getD, List.getElem?_map, hg]; rfl
    have e2 : (evF ks).getD p.kid.toNat (fun _ _ => []) = fun _ _ => [] := by rw [evF_map, List.getD_eq_getElem?_getD, List.getElem?_map, hg]; rfl
    rw [e1, e2]
  | some u =>
    rw [evF_get _ _ (bare u) (by rw [bares_map, List.getElem?_map, hg]; rfl), evF_get _ _ u hg]
    exact ih u (List.mem_of_getElem? hg) _ _

/- ### The layout is well-formed -/
theorem szws_congr (ks ks' : List Tr) (h : ks'.map szw = ks.map szw) : ∀ a, szws a ks' = szws a ks := by
  induction ks generalizing ks' with
  | nil => intro a; cases ks' with | nil => rfl | cons x l => simp at h
  | cons t ts ih =>
    intro a
    cases ks' with
    | nil => simp at h
    | cons x l =>
      rw [List.map_cons, List.map_cons] at h
      injection h with h1 h2
      rw [szws, szws, h1, ih l h2]
theorem htws_congr (ks ks' : List Tr) (h : ks'.map htw = ks.map htw) : ∀ a, htws a ks' = htws a ks := by
  induction ks generalizing ks' with
  | nil => intro a; cases ks' with | nil => rfl | cons x l => simp at h
  | cons t ts ih =>
    intro a
    cases ks' with
    | nil => simp at h
    | cons x l =>
      rw [List.map_cons, List.map_cons] at h
      injection h with h1 h2
      rw [htws, htws, h1, ih l h2]
theorem layF_map {α : Type} (F : Tr → α) (ks : List Tr) (L : Nat) (G : Nat → ByteArray) (h : ∀ u ∈ ks, ∀ L f, F (lay u L f) = F u) : ∀ i, (layF ks L G i).map F = ks.map F := by
  induction ks with
  | nil => intro i; rfl
  | cons t ts ih => intro i; rw [layF, List.map_cons, List.map_cons, h t (by simp), ih (fun u hu => h u (by simp [hu]))]
theorem lay_szw (t : Tr) : ∀ L f, szw (lay t L f) = szw t := by
  refine Tr.ind (M := fun t => ∀ L f, szw (lay t L f) = szw t) (fun k s g ks ih L f => ?_) t
  rw [lay_node, szw, szw, szws_congr ks _ (layF_map szw ks _ _ ih 0)]
theorem lay_htw (t : Tr) : ∀ L f, htw (lay t L f) = htw t := by
  refine Tr.ind (M := fun t => ∀ L f, htw (lay t L f) = htw t) (fun k s g ks ih L f => ?_) t
  rw [lay_node, htw, htw, htws_congr ks _ (layF_map htw ks _ _ ih 0)]
theorem lay_sz (t : Tr) : ∀ L f, sz (lay t L f) = sz t := fun L f => by rw [← bare_sz, lay_bare, bare_sz]
theorem lay_ht (t : Tr) : ∀ L f, ht (lay t L f) = ht t := fun L f => by rw [← bare_ht, lay_bare, bare_ht]
theorem crowds_congr (ks ks' : List Tr) (h : ks'.map crowd = ks.map crowd) : crowds ks' = crowds ks := by
  induction ks generalizing ks' with
  | nil => cases ks' with | nil => rfl | cons x l => simp at h
  | cons t ts ih =>
    cases ks' with
    | nil => simp at h
    | cons x l =>
      rw [List.map_cons, List.map_cons] at h
      injection h with h1 h2
      rw [crowds, crowds, h1, ih l h2]
theorem lay_crowd (t : Tr) : ∀ L f, crowd (lay t L f) = crowd t := by
  refine Tr.ind (M := fun t => ∀ L f, crowd (lay t L f) = crowd t) (fun k s g ks ih L f => ?_) t
  rw [lay_node, crowd, crowd, layF_len, crowds_congr ks _ (layF_map crowd ks _ _ ih 0)]
theorem fitA_congr (k : Int) (ks ks' : List Tr) (h : ks'.map (·.kind) = ks.map (·.kind)) : ∀ i, fitA k i ks' = fitA k i ks := by
  induction ks generalizing ks' with
  | nil => intro i; cases ks' with | nil => rfl | cons x l => simp at h
  | cons t ts ih =>
    intro i
    cases ks' with
    | nil => simp at h
    | cons x l =>
      rw [List.map_cons, List.map_cons] at h
      injection h with h1 h2
      rw [fitA, fitA, h1, ih l h2]
theorem lvls_congr (k : Int) (s : ByteArray) (ks ks' : List Tr) (h : ks'.map Tr.lev = ks.map Tr.lev) : lvls k s ks' = lvls k s ks := by
  match ks, ks', h with
  | [], [], _ => rfl
  | [], x :: l, h => simp at h
  | a :: l, [], h => simp at h
  | [a], [x], h =>
    have : x.lev = a.lev := by simpa using h
    unfold lvls
    simp only [this]
  | [a], x :: y :: l, h => simp at h
  | a :: b :: l, [x], h => simp at h
  | a :: b :: l, x :: y :: m, h =>
    rw [List.map_cons, List.map_cons, List.map_cons, List.map_cons] at h
    injection h with h1 h2
    injection h2 with h2 h3
    unfold lvls
    simp only [h1, h2]
theorem shape_congr (k : Int) (s : ByteArray) (ks ks' : List Tr) (h1 : ks'.map (·.kind) = ks.map (·.kind)) (h2 : ks'.map Tr.lev = ks.map Tr.lev) : shape k s ks' = shape k s ks := by
  have hl : ks'.length = ks.length := by have := congrArg List.length h1; simpa using this
  unfold shape
  rw [fitA_congr k ks ks' h1, lvls_congr k s ks ks' h2, hl]
theorem lay_lev (t : Tr) (L : Nat) (f : ByteArray) : (lay t L f).lev = t.lev := by unfold Tr.lev; rw [lay_kind, lay_text]
theorem lay_first (t : Tr) : ∀ L f, ws f → firstE t = 0 → sz t ≤ 1000000 → firstE (lay t L f) = 0 := by
  refine Tr.ind (M := fun t => ∀ L f, ws f → firstE t = 0 → sz t ≤ 1000000 → firstE (lay t L f) = 0) ?_ t
  intro k s g ks ih L f hf h hz
  obtain ⟨hn, hks⟩ := first_zero k s g ks h
  obtain ⟨h1, h2, h3⟩ := nodeE_zero k s g ks hn
  have har := shape_ar k s ks h1
  have hlen := len_szs ks
  rw [sz] at hz
  rw [lay_node]
  refine first_node _ _ _ _ (nodeE_of _ _ _ _ ?_ h2 ?_) (firsts_of _ fun u hu => ?_)
  · rw [shape_congr k s ks _ (layF_map (·.kind) ks _ _ (fun u _ L f => lay_kind u L f) 0) (layF_map Tr.lev ks _ _ (fun u _ L f => lay_lev u L f) 0)]; exact h1
  · unfold gapsOK
    rw [Bool.or_eq_true]
    right
    rw [Bool.and_eq_true, decide_eq_true_eq, layF_len, own_len k s ks.length har (by omega), ← rown_eq k s ks.length L har, List.length_map, List.length_map, owns_len_fix]
    refine ⟨rfl, List.all_eq_true.2 fun x hx => ?_⟩
    obtain ⟨p, hp, rfl⟩ := List.mem_map.1 hx
    exact ws_triv (gapOK_fix hf (gapOK_parts k s ks.length L) p (of_owns hp))
  · obtain ⟨j, hj⟩ := List.getElem?_of_mem hu
    rw [layF_get] at hj
    obtain ⟨v, hv, rfl⟩ := Option.map_eq_some_iff.1 hj
    have hm := List.mem_of_getElem? hv
    refine ih v hm _ _ ?_ (firsts_mem ks hks v hm) (by have := sz_mem hm; omega)
    unfold gapK
    rw [List.getD_eq_getElem?_getD, List.getElem?_map]
    cases hg : (kds (fixF f (parts k s ks.length L)))[0 + j]? with
    | none => exact ws_nil
    | some p => exact gapOK_fix hf (gapOK_parts k s ks.length L) p (of_kds (List.mem_of_getElem? hg))
theorem layout_chk (t : Tr) (h : chk t = 0) (hz : sz t ≤ 1000000) : chk (layout t) = 0 := by
  obtain ⟨h1, h2, h3, h4⟩ := chk_zero t h
  unfold layout
  rw [chk_of _ (by rw [lay_szw]; exact h1) (by rw [lay_htw]; exact h2) (by rw [lay_crowd]; exact h3)]
  exact lay_first t 0 _ ws_nil h4 hz

/- ### Numbers -/
theorem lin_len {α : Type} (o1 : Nat → Part → α) (k1 : Nat → ByteArray → List α) : ∀ (ps : List Part) (o : Nat), (lin o1 k1 o ps).length = (owns ps).length + ((kds ps).map fun p => (k1 p.kid.toNat p.gap).length).sum := by
  intro ps
  induction ps with
  | nil => intro o; rfl
  | cons p ps ih =>
    intro o
    rw [lin]
    rcases split_owns p ps with ⟨hk, h1, h2⟩ | ⟨hk, h1, h2⟩
    · rw [if_pos hk, h1, h2, List.length_cons, List.length_cons, ih]; omega
    · rw [if_neg hk, h1, h2, List.length_append, ih, List.map_cons, List.sum_cons]; omega
/-- The own tokens of all nodes. -/
def many (t : Tr) : Nat := ((pre t).map fun x => (rown x.kind x.text x.kids.length).length).sum
def manys (ks : List Tr) : Nat := ((pres ks).map fun x => (rown x.kind x.text x.kids.length).length).sum
theorem manys_cons (t : Tr) (ks : List Tr) : manys (t :: ks) = many t + manys ks := by unfold manys many; rw [pres, List.map_append, List.sum_append]
theorem many_node (k : Int) (s : ByteArray) (g : List ByteArray) (ks : List Tr) : many (.node k s g ks) = (rown k s ks.length).length + manys ks := by unfold many manys; rw [pre, List.map_cons, List.sum_cons]; rfl
theorem len_kids (ks : List Tr) (L : Nat) (hC : ∀ u ∈ ks, ∀ f, (evT u L f).length = many u) : ∀ (ps : List Part) (i : Nat), ps.map (·.kid) = (List.range' i ps.length).map (fun j : Nat => (j : Int)) → i + ps.length = ks.length →
    (ps.map fun p => ((evF ks).getD p.kid.toNat (fun _ _ => []) L p.gap).length).sum = manys (ks.drop i) := by
  intro ps
  induction ps with
  | nil =>
    intro i _ h
    rw [List.drop_of_length_le (by simp at h; omega)]; rfl
  | cons p ps ih =>
    intro i hm hl
    rw [List.length_cons, List.range'_succ, List.map_cons, List.map_cons] at hm
    injection hm with e1 e2
    have hi : i < ks.length := by rw [← hl, List.length_cons]; omega
    rw [List.map_cons, List.sum_cons, ih (i + 1) e2 (by rw [← hl, List.length_cons]; omega), List.drop_eq_getElem_cons hi, manys_cons, e1, Int.toNat_natCast, evF_get ks i _ (List.getElem?_eq_getElem hi), hC _ (List.getElem_mem hi)]
theorem ev_len (t : Tr) : ∀ L f, firstE t = 0 → (evT t L f).length = many t := by
  refine Tr.ind (M := fun t => ∀ L f, firstE t = 0 → (evT t L f).length = many t) ?_ t
  intro k s g ks ih L f h
  obtain ⟨hn, hks⟩ := first_zero k s g ks h
  obtain ⟨h1, h2, h3⟩ := nodeE_zero k s g ks hn
  have har := shape_ar k s ks h1
  have hkl : (kds (fixF f (parts k s ks.length L))).length = ks.length := by
    have := congrArg List.length (fix_kids f (parts k s ks.length L))
    rw [kds_parts k s ks.length L har] at this
    simpa using this
  have hkids := len_kids ks (inside k L) (fun u hu f => ih u hu _ f (firsts_mem ks hks u hu)) (kds (fixF f (parts k s ks.length L))) 0 (by rw [fix_kids, kds_parts k s ks.length L har, hkl]) (by rw [hkl]; omega)
  rw [evT_node, lin_len, many_node, hkids, List.drop_zero, owns_len_fix, ← rown_eq k s ks.length L har, List.length_map]
end Go.Proofs.YtiaajpdcacdngaaGreatDoor.Pl
