/- Trees in memory as trees with places; their gaps. -/
import Derived.Test.YtiaajpdcacdngaaGreatDoorWLoc
import Derived.Test.YtiaajpdcacdngaaGreatDoorBNode
namespace Go.Proofs.YtiaajpdcacdngaaGreatDoor
open Go.RowKit
set_option linter.unusedVariables false
set_option linter.unusedSimpArgs false

mutual
/-- All of a tree lies as it says, its gaps too. -/
def FixG (w : World) : LT → Nat → Nat → Prop
  | .node k s g ks r => fun b o => At4 w b o k s (.slice r.ga g.length r.gc) (.slice r.da ks.length r.dc) ∧ Strs (fun b => b < w.heap.size) w r.ga g ∧ (ks = [] ∨ r.da = some ⟨kb r, ko r, none⟩) ∧ FixH w ks (kb r) (ko r)
def FixH (w : World) : List LT → Nat → Nat → Prop
  | [] => fun _ _ => True
  | a :: ts => fun b o => FixG w a b o ∧ FixH w ts b (o + 4)
end
theorem fixG_node (w : World) (k : Int) (s : ByteArray) (g : List ByteArray) (ks : List LT) (r : Sl) (b o : Nat) : FixG w (.node k s g ks r) b o = (At4 w b o k s (.slice r.ga g.length r.gc) (.slice r.da ks.length r.dc) ∧ Strs (fun b => b < w.heap.size) w r.ga g ∧ (ks = [] ∨ r.da = some ⟨kb r, ko r, none⟩) ∧ FixH w ks (kb r) (ko r)) := by rw [FixG]
theorem fixH_get (w : World) (ks : List LT) (b o : Nat) (h : FixH w ks b o) : ∀ (j : Nat) u, ks[j]? = some u → FixG w u b (o + j * 4) := by
  induction ks generalizing o with
  | nil => intro j u hu; simp at hu
  | cons a ts ih =>
    rw [FixH] at h
    intro j u hu
    cases j with
    | zero => simp at hu; subst hu; simpa using h.1
    | succ j =>
      have := ih (o + 4) h.2 j u (by simpa using hu)
      rw [show o + (j + 1) * 4 = o + 4 + j * 4 from by omega]; exact this
theorem fixH_of (w : World) (ks : List LT) (b o : Nat) (h : ∀ (j : Nat) u, ks[j]? = some u → FixG w u b (o + j * 4)) : FixH w ks b o := by
  induction ks generalizing o with
  | nil => rw [FixH]; trivial
  | cons a ts ih =>
    rw [FixH]
    exact ⟨by simpa using h 0 a rfl, ih (o + 4) fun j u hu => by rw [show o + 4 + j * 4 = o + (j + 1) * 4 from by omega]; exact h (j + 1) u (by simpa using hu)⟩
theorem fixK_of (w : World) (ks : List LT) (b o : Nat) (h : ∀ (j : Nat) u, ks[j]? = some u → FixL w u b (o + j * 4)) : FixK w ks b o := by
  induction ks generalizing o with
  | nil => rw [FixK]; trivial
  | cons a ts ih =>
    rw [FixK]
    exact ⟨by simpa using h 0 a rfl, ih (o + 4) fun j u hu => by rw [show o + 4 + j * 4 = o + (j + 1) * 4 from by omega]; exact h (j + 1) u (by simpa using hu)⟩
theorem FixG.fixL {w : World} {a : LT} : ∀ {b o : Nat}, FixG w a b o → FixL w a b o := by
  refine LT.ind (M := fun a => ∀ {b o : Nat}, FixG w a b o → FixL w a b o) (fun k s g ks r ih b o h => ?_) a
  rw [fixG_node] at h
  rw [fixL_node]
  obtain ⟨h1, h2, h3, h4⟩ := h
  exact ⟨⟨h1.1, h1.2.1, h1.2.2.2⟩, h3, fixK_of w ks _ _ fun j u hu => ih u (List.mem_of_getElem? hu) (fixH_get w ks _ _ h4 j u hu)⟩
theorem FixG.later {w w' : World} {a : LT} (hb : Below w.heap.size w w') : ∀ {b o : Nat}, FixG w a b o → FixG w' a b o := by
  refine LT.ind (M := fun a => ∀ {b o : Nat}, FixG w a b o → FixG w' a b o) (fun k s g ks r ih b o h => ?_) a
  rw [fixG_node] at h ⊢
  obtain ⟨h1, h2, h3, h4⟩ := h
  exact ⟨at4_below h1 hb, h2.later hb, h3, fixH_of w' ks _ _ fun j u hu => ih u (List.mem_of_getElem? hu) (fixH_get w ks _ _ h4 j u hu)⟩
/-- So many, one by one, as a list. -/
theorem choose_list {α : Type} (Q : Nat → α → Prop) (n : Nat) (h : ∀ i, i < n → ∃ t, Q i t) : ∃ L : List α, L.length = n ∧ ∀ (i : Nat) t, L[i]? = some t → Q i t := by
  induction n with
  | zero => exact ⟨[], rfl, fun i t hi => by simp at hi⟩
  | succ n ih =>
    obtain ⟨L, hL, hq⟩ := ih (fun i hi => h i (by omega))
    obtain ⟨t, ht⟩ := h n (by omega)
    refine ⟨L ++ [t], by simp [hL], fun i x hx => ?_⟩
    by_cases hi : i < L.length
    · rw [List.getElem?_append_left hi] at hx; exact hq i x hx
    · rw [List.getElem?_append_right (by omega)] at hx
      have hi2 : i - L.length = 0 := by
        rcases Nat.eq_zero_or_pos (i - L.length) with h | h
        · exact h
        · rw [List.getElem?_eq_none (by simp; omega)] at hx; cases hx
      rw [hi2] at hx
      obtain rfl : t = x := by simpa using hx
      have : i = n := by omega
      subst this; exact ht
/-- A tree that lies somewhere has places; where its root lies, there it lies. -/
theorem isT_lt {w : World} {t : Pl.Tr} {r : Sl} (h : IsT w t r) : ∃ a : LT, er a = t ∧ a.sl = r ∧ ∀ b o, At4 w b o t.kind t.text (.slice r.ga t.gaps.length r.gc) (.slice r.da t.kids.length r.dc) → FixG w a b o := by
  unfold IsT at h
  induction h with
  | mk t r R hs hg hl hk hr ih =>
    cases t with
    | node k s g ks =>
      simp only [Pl.Tr.kids, Pl.Tr.gaps, Pl.Tr.text, Pl.Tr.kind] at *
      obtain ⟨L, hL, hq⟩ := choose_list (fun i (a : LT) => ∃ u, ks[i]? = some u ∧ er a = u ∧ a.sl = R i ∧ ∀ b o, At4 w b o u.kind u.text (.slice (R i).ga u.gaps.length (R i).gc) (.slice (R i).da u.kids.length (R i).dc) → FixG w a b o) ks.length (fun i hi => by
        obtain ⟨a, h1, h2, h3⟩ := ih i _ (List.getElem?_eq_getElem hi)
        exact ⟨a, _, List.getElem?_eq_getElem hi, h1, h2, h3⟩)
      have hers : ers L = ks := by
        rw [ers_map]
        apply List.ext_getElem?
        intro i
        rw [List.getElem?_map]
        cases hi : L[i]? with
        | none =>
          have := List.getElem?_eq_none_iff.1 hi
          rw [List.getElem?_eq_none (by omega)]; rfl
        | some a =>
          obtain ⟨u, hu, he, _⟩ := hq i a hi
          rw [hu, ← he]; rfl
      refine ⟨.node k s g L r, by rw [er, hers], rfl, fun b o h4 => ?_⟩
      rw [fixG_node, hL]
      refine ⟨h4, hg, ?_, ?_⟩
      · rcases hk with h0 | ⟨b2, o2, e, _, _⟩
        · left; rw [h0] at hL; exact List.eq_nil_of_length_eq_zero hL
        · right; unfold kb ko; rw [e]
      · refine fixH_of w L _ _ fun j a ha => ?_
        obtain ⟨u, hu, he, hsl, hfix⟩ := hq j a ha
        rcases hk with h0 | ⟨b2, o2, e, _, hat⟩
        · rw [h0] at hu; simp at hu
        · have e1 : kb r = b2 := by unfold kb; rw [e]
          have e2 : ko r = o2 := by unfold ko; rw [e]
          rw [e1, e2]
          exact hfix _ _ (hat j u hu)
/-- The gaps of the node of each word. -/
theorem ev_gaps {w : World} {a : LT} : ∀ {b o L : Nat} {f : ByteArray}, FixG w a b o → ∀ e ∈ evL a b o L f, w.cell? ⟨e.b, e.o + 2, none⟩ = some (.slice e.r.ga e.g.length e.r.gc) ∧ Strs (fun b => b < w.heap.size) w e.r.ga e.g ∧ e.b < w.heap.size := by
  refine LT.ind (M := fun a => ∀ {b o L : Nat} {f : ByteArray}, FixG w a b o → ∀ e ∈ evL a b o L f, w.cell? ⟨e.b, e.o + 2, none⟩ = some (.slice e.r.ga e.g.length e.r.gc) ∧ Strs (fun b => b < w.heap.size) w e.r.ga e.g ∧ e.b < w.heap.size) (fun k s g ks r ih b o L f h e he => ?_) a
  rw [fixG_node] at h
  obtain ⟨h1, h2, h3, h4⟩ := h
  rw [evL_node] at he
  rcases Pl.mem_lin _ _ _ _ _ he with ⟨i, p, hp, rfl⟩ | ⟨p, hp, hx⟩
  · exact ⟨h1.2.2.1, h2, h1.lt⟩
  · cases hg : ks[p.kid.toNat]? with
    | none =>
      rw [List.getD_eq_getElem?_getD, List.getElem?_eq_none (by rw [evK_len]; exact List.getElem?_eq_none_iff.1 hg)] at hx
      cases hx
    | some u =>
      rw [evK_get ks _ _ _ u hg] at hx
      exact ih u (List.mem_of_getElem? hg) (fixH_get w ks _ _ h4 _ u hg) e hx
theorem fixL_later {W0 w : World} {a : LT} {b o : Nat} (h : FixG W0 a b o) (hb : Below W0.heap.size W0 w) : FixL w a b o := (FixG.later hb h).fixL
theorem er_len (a : LT) (L : Nat) (b o : Nat) (f : ByteArray) : (evL a b o L f).length = (Pl.evT (er a) L f).length := by rw [← evL_wd a b o L f, List.length_map]
theorem ev_texts (a : LT) (b o : Nat) : (evL a b o 0 ⟨#[]⟩).map (·.text) = Pl.words (er a) := by
  unfold Pl.words
  rw [← evL_wd a b o 0 ⟨#[]⟩, List.map_map]; rfl
/-- The index of a word's gap. -/
theorem ev_own (a : LT) : ∀ b o L f, Pl.firstE (er a) = 0 → Pl.sz (er a) ≤ 1000000 → ∀ e ∈ evL a b o L f, e.g = [] ∨ e.own < e.g.length := by
  refine LT.ind (M := fun a => ∀ b o L f, Pl.firstE (er a) = 0 → Pl.sz (er a) ≤ 1000000 → ∀ e ∈ evL a b o L f, e.g = [] ∨ e.own < e.g.length) (fun k s g ks r ih b o L f h hz e he => ?_) a
  rw [er] at h hz
  obtain ⟨hn, hks⟩ := Pl.first_zero k s g (ers ks) h
  obtain ⟨h1, h2, h3⟩ := Pl.nodeE_zero k s g (ers ks) hn
  have har := Pl.shape_ar k s (ers ks) h1
  rw [ers_len] at har
  rw [Pl.sz] at hz
  have hlen := Pl.len_szs (ers ks)
  rw [ers_len] at hlen
  rw [evL_node] at he
  rcases Pl.mem_lin _ _ _ _ _ he with ⟨i, p, hp, rfl⟩ | ⟨p, hp, hx⟩
  · show g = [] ∨ 0 + i < g.length
    by_cases hg0 : g = []
    · exact .inl hg0
    · right
      unfold Pl.gapsOK at h3
      rw [decide_eq_false hg0, Bool.false_or, Bool.and_eq_true, decide_eq_true_eq, ers_len, Pl.own_len k s ks.length har (by omega), ← Pl.rown_eq k s ks.length L har, List.length_map, ← Pl.owns_len_fix f] at h3
      have := (List.getElem?_eq_some_iff.1 hp).1
      omega
  · cases hg : ks[p.kid.toNat]? with
    | none =>
      rw [List.getD_eq_getElem?_getD, List.getElem?_eq_none (by rw [evK_len]; exact List.getElem?_eq_none_iff.1 hg)] at hx
      cases hx
    | some u =>
      rw [evK_get ks _ _ _ u hg] at hx
      have hm : er u ∈ ers ks := by rw [ers_map]; exact List.mem_map_of_mem (List.mem_of_getElem? hg)
      exact ih u (List.mem_of_getElem? hg) _ _ _ _ (Pl.firsts_mem _ hks _ hm) (by have := Pl.sz_mem hm; omega) e hx
end Go.Proofs.YtiaajpdcacdngaaGreatDoor
