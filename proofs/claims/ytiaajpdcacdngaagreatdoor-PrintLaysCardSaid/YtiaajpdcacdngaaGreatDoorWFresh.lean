/- Trees in memory as trees with places; their gaps. -/
import Derived.Test.YtiaajpdcacdngaaGreatDoorWLoc
import Derived.Test.YtiaajpdcacdngaaGreatDoorBNode
import Derived.Deep.Upon
import Derived.Deep.OwnRows
namespace Go.Proofs.YtiaajpdcacdngaaGreatDoor
open Go.RowKit
set_option linter.unusedVariables false
set_option linter.unusedSimpArgs false

mutual
/-- All of a tree lies as it says, its gaps too. -/
def FixG (w : World) : LT → Nat → Nat → Prop
  | .node k s g ks r => fun b o => At4 w b o k s (.slice r.ga g.length r.gc) (.slice r.da ks.length r.dc) ∧ Strs (fun b => b < w.heap.size) w r.ga g ∧ (ks = [] ∨ r.da = some ⟨kb r, ko r, none⟩) ∧ FixH w ks (kb r) (ko r)
def FixH (w : World) : List LT → Nat → Nat → Prop
  | [] => fun _ _ => True
  | a :: ts => fun b o => FixG w a b o ∧ FixH w ts b (o + 4)
end
theorem fixG_node (w : World) (k : Int) (s : ByteArray) (g : List ByteArray) (ks : List LT) (r : Sl) (b o : Nat) : FixG w (.node k s g ks r) b o = (At4 w b o k s (.slice r.ga g.length r.gc) (.slice r.da ks.length r.dc) ∧ Strs (fun b => b < w.heap.size) w r.ga g ∧ (ks = [] ∨ r.da = some ⟨kb r, ko r, none⟩) ∧ FixH w ks (kb r) (ko r)) := by rw [FixG]
theorem fixH_get (w : World) (ks : List LT) (b o : Nat) (h : FixH w ks b o) : ∀ (j : Nat) u, ks[j]? = some u → FixG w u b (o + j * 4) := by
  induction ks generalizing o with
  | nil => intro j u hu; simp at hu
  | cons a ts ih =>
    rw [FixH] at h
    intro j u hu
    cases j with
    | zero => simp at hu; subst hu; simpa using h.1
    | succ j =>
      have := ih (o + 4) h.2 j u (by simpa using hu)
      rw [show o + (j + 1) * 4 = o + 4 + j * 4 from by omega]; exact this
theorem fixH_of (w : World) (ks : List LT) (b o : Nat) (h : ∀ (j : Nat) u, ks[j]? = some u → FixG w u b (o + j * 4)) : FixH w ks b o := by
  induction ks generalizing o with
  | nil => rw [FixH]; trivial
  | cons a ts ih =>
    rw [FixH]
    exact ⟨by simpa using h 0 a rfl, ih (o + 4) fun j u hu => by rw [show o + 4 + j * 4 = o + (j + 1) * 4 from by omega]; exact h (j + 1) u (by simpa using hu)⟩
theorem fixK_of (w : World) (ks : List LT) (b o : Nat) (h : ∀ (j : Nat) u, ks[j]? = some u → FixL w u b (o + j * 4)) : FixK w ks b o := by
  induction ks generalizing o with
  | nil => rw [FixK]; trivial
  | cons a ts ih =>
    rw [FixK]
    exact ⟨by simpa using h 0 a rfl, ih (o + 4) fun j u hu => by rw [show o + 4 + j * 4 = o + (j + 1) * 4 from by omega]; exact h (j + 1) u (by simpa using hu)⟩
theorem FixG.fixL {w : World} {a : LT} : ∀ {b o : Nat}, FixG w a b o → FixL w a b o := by
  refine LT.ind (M := fun a => ∀ {b o : Nat}, FixG w a b o → FixL w a b o) (fun k s g ks r ih b o h => ?_) a
  rw [fixG_node] at h
  rw [fixL_node]
  obtain ⟨h1, h2, h3, h4⟩ := h
  exact ⟨⟨h1.1, h1.2.1, h1.2.2.2⟩, h3, fixK_of w ks _ _ fun j u hu => ih u (List.mem_of_getElem? hu) (fixH_get w ks _ _ h4 j u hu)⟩
theorem FixG.later {w w' : World} {a : LT} (hb : Below w.heap.size w w') : ∀ {b o : Nat}, FixG w a b o → FixG w' a b o := by
  refine LT.ind (M := fun a => ∀ {b o : Nat}, FixG w a b o → FixG w' a b o) (fun k s g ks r ih b o h => ?_) a
  rw [fixG_node] at h ⊢
  obtain ⟨h1, h2, h3, h4⟩ := h
  exact ⟨at4_below h1 hb, h2.later hb, h3, fixH_of w' ks _ _ fun j u hu => ih u (List.mem_of_getElem? hu) (fixH_get w ks _ _ h4 j u hu)⟩
/-- So many, one by one, as a list. -/
theorem choose_list {α : Type} (Q : Nat → α → Prop) (n : Nat) (h : ∀ i, i < n → ∃ t, Q i t) : ∃ L : List α, L.length = n ∧ ∀ (i : Nat) t, L[i]? = some t → Q i t := by
  induction n with
  | zero => exact ⟨[], rfl, fun i t hi => by simp at hi⟩
  | succ n ih =>
    obtain ⟨L, hL, hq⟩ := ih (fun i hi => h i (by omega))
    obtain ⟨t, ht⟩ := h n (by omega)
    refine ⟨L ++ [t], by simp [hL], fun i x hx => ?_⟩
    by_cases hi : i < L.length
    · rw [List.getElem?_append_left hi] at hx; exact hq i x hx
    · rw [List.getElem?_append_right (by omega)] at hx
      have hi2 : i - L.length = 0 := by
        rcases Nat.eq_zero_or_pos (i - L.length) with h | h
        · exact h
        · rw [List.getElem?_eq_none (by simp; omega)] at hx; cases hx
      rw [hi2] at hx
      obtain rfl : t = x := by simpa using hx
      have : i = n := by omega
      subst this; exact ht
/-- A tree that lies somewhere has places; where its root lies, there it lies. -/
theorem isT_lt {w : World} {t : Pl.Tr} {r : Sl} (h : IsT w t r) : ∃ a : LT, er a = t ∧ a.sl = r ∧ ∀ b o, At4 w b o t.kind t.text (.slice r.ga t.gaps.length r.gc) (.slice r.da t.kids.length r.dc) → FixG w a b o := by
  unfold IsT at h
  induction h with
  | mk t r R hs hg hl hk hr ih =>
    cases t with
    | node k s g ks =>
      simp only [Pl.Tr.kids, Pl.Tr.gaps, Pl.Tr.text, Pl.Tr.kind] at *
      obtain ⟨L, hL, hq⟩ := choose_list (fun i (a : LT) => ∃ u, ks[i]? = some u ∧ er a = u ∧ a.sl = R i ∧ ∀ b o, At4 w b o u.kind u.text (.slice (R i).ga u.gaps.length (R i).gc) (.slice (R i).da u.kids.length (R i).dc) → FixG w a b o) ks.length (fun i hi => by
        obtain ⟨a, h1, h2, h3⟩ := ih i _ (List.getElem?_eq_getElem hi)
        exact ⟨a, _, List.getElem?_eq_getElem hi, h1, h2, h3⟩)
      have hers : ers L = ks := by
        rw [ers_map]
        apply List.ext_getElem?
        intro i
        rw [List.getElem?_map]
        cases hi : L[i]? with
        | none =>
          have := List.getElem?_eq_none_iff.1 hi
          rw [List.getElem?_eq_none (by omega)]; rfl
        | some a =>
          obtain ⟨u, hu, he, _⟩ := hq i a hi
          rw [hu, ← he]; rfl
      refine ⟨.node k s g L r, by rw [er, hers], rfl, fun b o h4 => ?_⟩
      rw [fixG_node, hL]
      refine ⟨h4, hg, ?_, ?_⟩
      · rcases hk with h0 | ⟨b2, o2, e, _, _⟩
        · left; rw [h0] at hL; exact List.eq_nil_of_length_eq_zero hL
        · right; unfold kb ko; rw [e]
      · refine fixH_of w L _ _ fun j a ha => ?_
        obtain ⟨u, hu, he, hsl, hfix⟩ := hq j a ha
        rcases hk with h0 | ⟨b2, o2, e, _, hat⟩
        · rw [h0] at hu; simp at hu
        · have e1 : kb r = b2 := by unfold kb; rw [e]
          have e2 : ko r = o2 := by unfold ko; rw [e]
          rw [e1, e2]
          exact hfix _ _ (hat j u hu)
/-- The gaps of the node of each word. -/
theorem ev_gaps {w : World} {a : LT} : ∀ {b o L : Nat} {f : ByteArray}, FixG w a b o → ∀ e ∈ evL a b o L f, w.cell? ⟨e.b, e.o + 2, none⟩ = some (.slice e.r.ga e.g.length e.r.gc) ∧ Strs (fun b => b < w.heap.size) w e.r.ga e.g ∧ e.b < w.heap.size := by
  refine LT.ind (M := fun a => ∀ {b o L : Nat} {f : ByteArray}, FixG w a b o → ∀ e ∈ evL a b o L f, w.cell? ⟨e.b, e.o + 2, none⟩ = some (.slice e.r.ga e.g.length e.r.gc) ∧ Strs (fun b => b < w.heap.size) w e.r.ga e.g ∧ e.b < w.heap.size) (fun k s g ks r ih b o L f h e he => ?_) a
  rw [fixG_node] at h
  obtain ⟨h1, h2, h3, h4⟩ := h
  rw [evL_node] at he
  rcases Pl.mem_lin _ _ _ _ _ he with ⟨i, p, hp, rfl⟩ | ⟨p, hp, hx⟩
  · exact ⟨h1.2.2.1, h2, h1.lt⟩
  · cases hg : ks[p.kid.toNat]? with
    | none =>
      rw [List.getD_eq_getElem?_getD, List.getElem?_eq_none (by rw [evK_len]; exact List.getElem?_eq_none_iff.1 hg)] at hx
      cases hx
    | some u =>
      rw [evK_get ks _ _ _ u hg] at hx
      exact ih u (List.mem_of_getElem? hg) (fixH_get w ks _ _ h4 _ u hg) e hx
theorem fixL_later {W0 w : World} {a : LT} {b o : Nat} (h : FixG W0 a b o) (hb : Below W0.heap.size W0 w) : FixL w a b o := (FixG.later hb h).fixL
theorem er_len (a : LT) (L : Nat) (b o : Nat) (f : ByteArray) : (evL a b o L f).length = (Pl.evT (er a) L f).length := by rw [← evL_wd a b o L f, List.length_map]
theorem ev_texts (a : LT) (b o : Nat) : (evL a b o 0 ⟨#[]⟩).map (·.text) = Pl.words (er a) := by
  unfold Pl.words
  rw [← evL_wd a b o 0 ⟨#[]⟩, List.map_map]; rfl
/-- The index of a word's gap. -/
theorem ev_own (a : LT) : ∀ b o L f, Pl.firstE (er a) = 0 → Pl.sz (er a) ≤ 1000000 → ∀ e ∈ evL a b o L f, e.g = [] ∨ e.own < e.g.length := by
  refine LT.ind (M := fun a => ∀ b o L f, Pl.firstE (er a) = 0 → Pl.sz (er a) ≤ 1000000 → ∀ e ∈ evL a b o L f, e.g = [] ∨ e.own < e.g.length) (fun k s g ks r ih b o L f h hz e he => ?_) a
  rw [er] at h hz
  obtain ⟨hn, hks⟩ := Pl.first_zero k s g (ers ks) h
  obtain ⟨h1, h2, h3⟩ := Pl.nodeE_zero k s g (ers ks) hn
  have har := Pl.shape_ar k s (ers ks) h1
  rw [ers_len] at har
  rw [Pl.sz] at hz
  have hlen := Pl.len_szs (ers ks)
  rw [ers_len] at hlen
  rw [evL_node] at he
  rcases Pl.mem_lin _ _ _ _ _ he with ⟨i, p, hp, rfl⟩ | ⟨p, hp, hx⟩
  · show g = [] ∨ 0 + i < g.length
    by_cases hg0 : g = []
    · exact .inl hg0
    · right
      unfold Pl.gapsOK at h3
      rw [decide_eq_false hg0, Bool.false_or, Bool.and_eq_true, decide_eq_true_eq, ers_len, Pl.own_len k s ks.length har (by omega), ← Pl.rown_eq k s ks.length L har, List.length_map, ← Pl.owns_len_fix f] at h3
      have := (List.getElem?_eq_some_iff.1 hp).1
      omega
  · cases hg : ks[p.kid.toNat]? with
    | none =>
      rw [List.getD_eq_getElem?_getD, List.getElem?_eq_none (by rw [evK_len]; exact List.getElem?_eq_none_iff.1 hg)] at hx
      cases hx
    | some u =>
      rw [evK_get ks _ _ _ u hg] at hx
      have hm : er u ∈ ers ks := by rw [ers_map]; exact List.mem_map_of_mem (List.mem_of_getElem? hg)
      exact ih u (List.mem_of_getElem? hg) _ _ _ _ (Pl.firsts_mem _ hks _ hm) (by have := Pl.sz_mem hm; omega) e hx
end Go.Proofs.YtiaajpdcacdngaaGreatDoor

namespace Go.Proofs.YtiaajpdcacdngaaGreatDoor
open Go.RowKit Go.Deep
set_option linter.unusedVariables false
set_option linter.unusedSimpArgs false

/- ### Boxes -/
theorem blk_cells {w : World} {b : Nat} {v0 v1 v2 v3 : Value} {T : TypeId} (h : w.heap[b]? = some (.cells #[v0, v1, v2, v3] T (0, 0))) :
    (w.cell? ⟨b, 0, none⟩ = some v0 ∧ w.cell? ⟨b, 1, none⟩ = some v1 ∧ w.cell? ⟨b, 2, none⟩ = some v2 ∧ w.cell? ⟨b, 3, none⟩ = some v3) ∧
    (w.frozen? ⟨b, 0, none⟩ = false ∧ w.frozen? ⟨b, 1, none⟩ = false ∧ w.frozen? ⟨b, 2, none⟩ = false ∧ w.frozen? ⟨b, 3, none⟩ = false) := by
  refine ⟨⟨?_, ?_, ?_, ?_⟩, ?_, ?_, ?_, ?_⟩
  · rw [cell_of_row _ _ _ _ _ _ h]; rfl
  · rw [cell_of_row _ _ _ _ _ _ h]; rfl
  · rw [cell_of_row _ _ _ _ _ _ h]; rfl
  · rw [cell_of_row _ _ _ _ _ _ h]; rfl
  all_goals simp [World.frozen?, h]
theorem heap_at2 (w : World) (o1 o2 : Obj) : ((w.alloc o1).alloc o2).heap[w.heap.size + 1]? = some o2 := by
  have h := heap_alloc_new (w.alloc o1) o2
  rw [show (w.alloc o1).heap.size = w.heap.size + 1 from by simp] at h
  exact h
theorem two_after {w w2 : World} {o1 o2 : Obj} (hb : Below ((w.alloc o1).alloc o2).heap.size ((w.alloc o1).alloc o2) w2) :
    w2.heap[w.heap.size]? = some o1 ∧ w2.heap[w.heap.size + 1]? = some o2 ∧ Below w.heap.size w w2 ∧ w.heap.size + 1 < w2.heap.size := by
  have hz := hb.size
  simp at hz
  have e1 : w2.heap[w.heap.size]? = (w.alloc o1).heap[w.heap.size]? := (hb.block _ (by simp <;> omega)).trans (Below.heap_alloc _ _ _ (by simp))
  have e2 := hb.block (w.heap.size + 1) (by simp)
  exact ⟨e1.trans (heap_alloc_new _ _), e2.trans (heap_at2 _ _ _), (((Below.refl _ _).alloc (Nat.le_refl _) _).alloc (by simp) _).trans (hb.mono (by simp <;> omega)), by omega⟩
theorem below_set4 {B b : Nat} {w w2 : World} {v0 v1 v2 v3 : Value} (h : Below B w w2) (hb : B ≤ b) : Below B w ((((w2.setCell ⟨b, 0, none⟩ v0).setCell ⟨b, 1, none⟩ v1).setCell ⟨b, 2, none⟩ v2).setCell ⟨b, 3, none⟩ v3) :=
  (((h.setCell (p := ⟨b, 0, none⟩) hb _).setCell (p := ⟨b, 1, none⟩) hb _).setCell (p := ⟨b, 2, none⟩) hb _).setCell (p := ⟨b, 3, none⟩) hb _
theorem heap_set4 {b x : Nat} {w2 : World} {v0 v1 v2 v3 : Value} (hb : x ≠ b) : ((((w2.setCell ⟨b, 0, none⟩ v0).setCell ⟨b, 1, none⟩ v1).setCell ⟨b, 2, none⟩ v2).setCell ⟨b, 3, none⟩ v3).heap[x]? = w2.heap[x]? :=
  (Below.heap_setCell _ ⟨b, 3, none⟩ _ x hb).trans ((Below.heap_setCell _ ⟨b, 2, none⟩ _ x hb).trans ((Below.heap_setCell _ ⟨b, 1, none⟩ _ x hb).trans (Below.heap_setCell _ ⟨b, 0, none⟩ _ x hb)))
/-- A block of nodes that nobody has frozen. -/
def NBlk (w : World) (b : Nat) : Prop := ∃ cs, w.heap[b]? = some (.cells cs 25 (0, 0))
theorem NBlk.of {w w' : World} {b : Nat} (h : NBlk w b) (e : w'.heap[b]? = w.heap[b]?) : NBlk w' b := by
  obtain ⟨cs, h⟩ := h; exact ⟨cs, e.trans h⟩
theorem NBlk.free {w : World} {b : Nat} (h : NBlk w b) (o : Nat) : w.frozen? ⟨b, o, none⟩ = false := by
  obtain ⟨cs, h⟩ := h; simp [World.frozen?, h]
theorem NBlk.set {w : World} {b x o : Nat} {v : Value} (h : NBlk w b) : NBlk (w.setCell ⟨x, o, none⟩ v) b := by
  obtain ⟨cs, h⟩ := h
  by_cases e : b = x
  · subst e; exact ⟨_, heap_setCell_same w b o cs _ v h⟩
  · exact ⟨cs, (Below.heap_setCell _ _ _ _ e).trans h⟩
theorem NBlk.sets {b : Nat} : ∀ (vs : List Value) {w : World} (x o : Nat), NBlk w b → NBlk (w.setCells x o vs) b := by
  intro vs
  induction vs with
  | nil => intro w x o h; exact h
  | cons v vs ih => intro w x o h; exact ih x (o + 1) (NBlk.set (x := x) (o := o) (v := v) h)

/- ### Fresh trees -/
mutual
/-- A tree without gaps lies as it says; its slices of kids are there, its blocks hold nodes. -/
def FixB (w : World) : LT → Nat → Nat → Prop
  | .node k s g ks r => fun b o => g = [] ∧ NBlk w b ∧ At4 w b o k s (.slice none 0 0) (.slice r.da ks.length r.dc) ∧ r.da = some ⟨kb r, ko r, none⟩ ∧ FixBs w ks (kb r) (ko r)
def FixBs (w : World) : List LT → Nat → Nat → Prop
  | [] => fun _ _ => True
  | a :: ts => fun b o => FixB w a b o ∧ FixBs w ts b (o + 4)
end
theorem fixB_node (w : World) (k : Int) (s : ByteArray) (g : List ByteArray) (ks : List LT) (r : Sl) (b o : Nat) : FixB w (.node k s g ks r) b o = (g = [] ∧ NBlk w b ∧ At4 w b o k s (.slice none 0 0) (.slice r.da ks.length r.dc) ∧ r.da = some ⟨kb r, ko r, none⟩ ∧ FixBs w ks (kb r) (ko r)) := by rw [FixB]
theorem fixBs_get (w : World) (ks : List LT) (b o : Nat) (h : FixBs w ks b o) : ∀ (j : Nat) u, ks[j]? = some u → FixB w u b (o + j * 4) := by
  induction ks generalizing o with
  | nil => intro j u hu; simp at hu
  | cons a ts ih =>
    rw [FixBs] at h
    intro j u hu
    cases j with
    | zero => simp at hu; subst hu; simpa using h.1
    | succ j =>
      have := ih (o + 4) h.2 j u (by simpa using hu)
      rw [show o + (j + 1) * 4 = o + 4 + j * 4 from by omega]; exact this
theorem fixBs_of (w : World) (ks : List LT) (b o : Nat) (h : ∀ (j : Nat) u, ks[j]? = some u → FixB w u b (o + j * 4)) : FixBs w ks b o := by
  induction ks generalizing o with
  | nil => rw [FixBs]; trivial
  | cons a ts ih =>
    rw [FixBs]
    exact ⟨by simpa using h 0 a rfl, ih (o + 4) fun j u hu => by rw [show o + 4 + j * 4 = o + (j + 1) * 4 from by omega]; exact h (j + 1) u (by simpa using hu)⟩
/-- The same of a tree whose root is a value. -/
def KidsB (w : World) (a : LT) : Prop := a.gaps = [] ∧ a.sl.da = some ⟨kb a.sl, ko a.sl, none⟩ ∧ FixBs w a.kids (kb a.sl) (ko a.sl)
theorem kidsB_fix {w : World} {a : LT} {b o : Nat} (h : KidsB w a) (hb : NBlk w b) (h4 : At4 w b o a.kind a.text (.slice none 0 0) (.slice a.sl.da a.kids.length a.sl.dc)) : FixB w a b o := by
  cases a with
  | node k s g ks r => rw [fixB_node]; exact ⟨h.1, hb, h4, h.2.1, h.2.2⟩
theorem fixB_kids {w : World} {a : LT} {b o : Nat} (h : FixB w a b o) : KidsB w a := by
  cases a with
  | node k s g ks r => rw [fixB_node] at h; exact ⟨h.1, h.2.2.2.1, h.2.2.2.2⟩
theorem FixB.fixL {w : World} {a : LT} : ∀ {b o : Nat}, FixB w a b o → FixL w a b o := by
  refine LT.ind (M := fun a => ∀ {b o : Nat}, FixB w a b o → FixL w a b o) (fun k s g ks r ih b o h => ?_) a
  rw [fixB_node] at h
  rw [fixL_node]
  obtain ⟨_, _, h1, h3, h4⟩ := h
  exact ⟨⟨h1.1, h1.2.1, h1.2.2.2⟩, .inr h3, fixK_of w ks _ _ fun j u hu => ih u (List.mem_of_getElem? hu) (fixBs_get w ks _ _ h4 j u hu)⟩
/-- The blocks of a tree's slices of kids lie between two numbers, those of different kids between different ones. -/
inductive Fresh : LT → Nat → Nat → Prop
  | mk (k : Int) (s : ByteArray) (g : List ByteArray) (ks : List LT) (r : Sl) (lo hi : Nat) (H : Nat → Nat) (hk : lo ≤ kb r) (ho : ko r = 0) (h0 : kb r < H 0) (hm : ∀ j, j < ks.length → H j ≤ H (j + 1)) (hh : H ks.length ≤ hi)
      (hr : ∀ (j : Nat) u, ks[j]? = some u → Fresh u (H j) (H (j + 1))) : Fresh (.node k s g ks r) lo hi
theorem Fresh.wide {a : LT} {lo hi lo' hi' : Nat} (h : Fresh a lo hi) (h1 : lo' ≤ lo) (h2 : hi ≤ hi') : Fresh a lo' hi' := by
  cases h with
  | mk k s g ks r lo hi H hk ho h0 hm hh hr => exact .mk k s g ks r lo' hi' H (by omega) ho h0 hm (by omega) hr
theorem mono_to {H : Nat → Nat} {n : Nat} (hm : ∀ j, j < n → H j ≤ H (j + 1)) : ∀ j i, i ≤ j → j ≤ n → H i ≤ H j := by
  intro j
  induction j with
  | zero => intro i hi _; rw [show i = 0 from by omega]; exact Nat.le_refl _
  | succ j ih =>
    intro i hi hj
    rcases Nat.lt_or_ge i (j + 1) with h | h
    · exact Nat.le_trans (ih i (by omega) (by omega)) (hm j (by omega))
    · rw [show i = j + 1 from by omega]; exact Nat.le_refl _
theorem kids_keep {a : LT} {lo hi : Nat} (h : Fresh a lo hi) : ∀ {w w' : World}, KidsB w a → (∀ x, lo ≤ x → x < hi → w'.heap[x]? = w.heap[x]?) → KidsB w' a := by
  induction h with
  | mk k s g ks r lo hi H hk ho h0 hm hh hr ih =>
    intro w w' hb hs
    refine ⟨hb.1, hb.2.1, fixBs_of w' ks _ _ fun j u hu => ?_⟩
    have h1 := fixBs_get w ks _ _ hb.2.2 j u hu
    have hj := (List.getElem?_eq_some_iff.1 hu).1
    have m0 := mono_to hm j 0 (by omega) (by omega)
    have m1 := mono_to hm ks.length (j + 1) (by omega) (Nat.le_refl _)
    have e1 : w'.heap[kb r]? = w.heap[kb r]? := hs _ hk (by have := mono_to hm ks.length 0 (by omega) (Nat.le_refl _); omega)
    have hk2 := ih j u hu (fixB_kids h1) (fun x hx1 hx2 => hs x (by omega) (by omega))
    cases u with
    | node k2 s2 g2 ks2 r2 =>
      rw [fixB_node] at h1
      obtain ⟨q1, q2, q3, q4, q5⟩ := h1
      rw [fixB_node]
      exact ⟨q1, q2.of e1, q3.keep (P := fun x => x = kb r) (fun x hx => by rw [hx]; exact e1) rfl, q4, hk2.2.2⟩

/- ### No two nodes in one place -/
mutual
def refs : LT → Nat → Nat → List (Nat × Nat)
  | .node _ _ _ ks r => fun b o => (b, o) :: refsK ks (kb r) (ko r)
def refsK : List LT → Nat → Nat → List (Nat × Nat)
  | [] => fun _ _ => []
  | a :: ts => fun b o => refs a b o ++ refsK ts b (o + 4)
end
theorem refs_node (k : Int) (s : ByteArray) (g : List ByteArray) (ks : List LT) (r : Sl) (b o : Nat) : refs (.node k s g ks r) b o = (b, o) :: refsK ks (kb r) (ko r) := by rw [refs]
theorem refsK_cons (a : LT) (ts : List LT) (b o : Nat) : refsK (a :: ts) b o = refs a b o ++ refsK ts b (o + 4) := by rw [refsK]
theorem refsK_mem (ks : List LT) (b o : Nat) (x : Nat × Nat) (h : x ∈ refsK ks b o) : ∃ j u, ks[j]? = some u ∧ x ∈ refs u b (o + j * 4) := by
  induction ks generalizing o with
  | nil => rw [refsK] at h; cases h
  | cons a ts ih =>
    rw [refsK] at h
    rcases List.mem_append.1 h with h | h
    · exact ⟨0, a, rfl, by simpa using h⟩
    · obtain ⟨j, u, hu, hx⟩ := ih (o + 4) h
      exact ⟨j + 1, u, by simpa using hu, by rw [show o + (j + 1) * 4 = o + 4 + j * 4 from by omega]; exact hx⟩
theorem refsK_of (ks : List LT) (b o j : Nat) (u : LT) (x : Nat × Nat) (hu : ks[j]? = some u) (h : x ∈ refs u b (o + j * 4)) : x ∈ refsK ks b o := by
  induction ks generalizing o j with
  | nil => simp at hu
  | cons a ts ih =>
    rw [refsK]
    cases j with
    | zero => simp at hu; subst hu; exact List.mem_append_left _ (by simpa using h)
    | succ j => exact List.mem_append_right _ (ih (o + 4) j (by simpa using hu) (by rw [show o + 4 + j * 4 = o + (j + 1) * 4 from by omega]; exact h))
/-- Where the nodes below the root lie. -/
theorem fresh_in {a : LT} {lo hi : Nat} (h : Fresh a lo hi) : ∀ x ∈ refsK a.kids (kb a.sl) (ko a.sl), lo ≤ x.1 ∧ x.1 < hi := by
  induction h with
  | mk k s g ks r lo hi H hk ho h0 hm hh hr ih =>
    intro x hx
    obtain ⟨j, u, hu, hx⟩ := refsK_mem _ _ _ x hx
    have hj := (List.getElem?_eq_some_iff.1 hu).1
    have hj' : j < ks.length := hj
    have m0 := mono_to hm j 0 (by omega) (by omega)
    have m1 := mono_to hm ks.length (j + 1) (by omega) (Nat.le_refl _)
    have m2 := hm j hj'
    cases u with
    | node k2 s2 g2 ks2 r2 =>
      rw [refs_node] at hx
      rcases List.mem_cons.1 hx with rfl | hx
      · show lo ≤ kb r ∧ kb r < hi; omega
      · have := ih j _ hu x hx; omega
theorem fresh_mod {a : LT} {lo hi : Nat} (h : Fresh a lo hi) : ∀ x ∈ refsK a.kids (kb a.sl) (ko a.sl), x.2 % 4 = 0 := by
  induction h with
  | mk k s g ks r lo hi H hk ho h0 hm hh hr ih =>
    intro x hx
    obtain ⟨j, u, hu, hx⟩ := refsK_mem _ _ _ x hx
    cases u with
    | node k2 s2 g2 ks2 r2 =>
      rw [refs_node] at hx
      rcases List.mem_cons.1 hx with rfl | hx
      · show (ko r + j * 4) % 4 = 0; omega
      · exact ih j _ hu x hx
theorem fresh_nodup {a : LT} {lo hi : Nat} (h : Fresh a lo hi) : (refsK a.kids (kb a.sl) (ko a.sl)).Nodup := by
  induction h with
  | mk k s g ks r lo hi H hk ho h0 hm hh hr ih =>
    show (refsK ks (kb r) (ko r)).Nodup
    -- the kids from the j-th one on
    have key : ∀ (ts : List LT) (i o : Nat), (∀ (j : Nat) u, ts[j]? = some u → ks[i + j]? = some u) → o = ko r + i * 4 → (refsK ts (kb r) o).Nodup ∧ ∀ x ∈ refsK ts (kb r) o, (x.1 = kb r ∧ o ≤ x.2) ∨ H i ≤ x.1 := by
      intro ts
      induction ts with
      | nil => intro i o _ _; rw [refsK]; exact ⟨List.nodup_nil, fun x hx => by cases hx⟩
      | cons u ts iht =>
        intro i o hts ho2
        have hu : ks[i]? = some u := by simpa using hts 0 u rfl
        have hi := (List.getElem?_eq_some_iff.1 hu).1
        obtain ⟨n1, n2⟩ := iht (i + 1) (o + 4) (fun j v hv => by rw [show i + 1 + j = i + (j + 1) from by omega]; exact hts (j + 1) v (by simpa using hv)) (by omega)
        have f1 := ih i u hu
        have f2 := fresh_in (hr i u hu)
        have m0 := mono_to hm i 0 (by omega) (by omega)
        have m2 := hm i hi
        rw [refsK_cons]
        cases u with
        | node k2 s2 g2 ks2 r2 =>
          rw [refs_node]
          have f1 : (refsK ks2 (kb r2) (ko r2)).Nodup := f1
          have f2 : ∀ x ∈ refsK ks2 (kb r2) (ko r2), H i ≤ x.1 ∧ x.1 < H (i + 1) := f2
          refine ⟨?_, fun x hx => ?_⟩
          · rw [List.cons_append, List.nodup_cons, List.nodup_append]
            refine ⟨fun hm2 => ?_, f1, n1, fun x hx y hy hxy => ?_⟩
            · rcases List.mem_append.1 hm2 with h | h
              · have := (f2 _ h).1; simp only at this; omega
              · rcases n2 _ h with ⟨_, h⟩ | h
                · simp only at h; omega
                · simp only at h; omega
            · subst hxy
              have := f2 x hx
              rcases n2 x hy with ⟨h, _⟩ | h <;> omega
          · rcases List.mem_append.1 hx with hx | hx
            · rcases List.mem_cons.1 hx with rfl | hx
              · exact .inl ⟨rfl, Nat.le_refl _⟩
              · exact .inr (f2 x hx).1
            · rcases n2 x hx with ⟨h1, h2⟩ | h
              · exact .inl ⟨h1, by omega⟩
              · right; omega
    exact (key ks 0 (ko r) (fun j u hu => by rw [Nat.zero_add]; exact hu) (by omega)).1
/-- With the root in a block of its own. -/
theorem refs_root {a : LT} {lo hi b : Nat} (h : Fresh a lo hi) (hb : b < lo ∨ hi ≤ b) : (refs a b 0).Nodup ∧ ∀ x ∈ refs a b 0, x.2 % 4 = 0 ∧ (x.1 = b ∨ (lo ≤ x.1 ∧ x.1 < hi)) := by
  have h1 := fresh_nodup h
  have h2 := fresh_in h
  have h3 := fresh_mod h
  cases a with
  | node k s g ks r =>
    rw [refs_node]
    refine ⟨List.nodup_cons.2 ⟨fun hm => ?_, h1⟩, fun x hx => ?_⟩
    · have := h2 _ hm; simp only at this; omega
    · rcases List.mem_cons.1 hx with rfl | hx
      · exact ⟨rfl, .inl rfl⟩
      · exact ⟨h3 x hx, .inr (h2 x hx)⟩
end Go.Proofs.YtiaajpdcacdngaaGreatDoor
