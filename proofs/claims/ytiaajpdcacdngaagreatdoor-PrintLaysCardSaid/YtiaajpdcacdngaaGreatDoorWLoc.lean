/- Trees with the places of their slices; the words of such a tree; what a step of the printer keeps. -/
import Derived.Test.YtiaajpdcacdngaaGreatDoorWParts
import Derived.Test.YtiaajpdcacdngaaGreatDoorPMore
namespace Go.Proofs.YtiaajpdcacdngaaGreatDoor
open Go.RowKit
set_option linter.unusedVariables false
set_option linter.unusedSimpArgs false

/-- A tree, and where the slices of its nodes lie. -/
inductive LT where
  | node (k : Int) (s : ByteArray) (g : List ByteArray) (ks : List LT) (r : Sl)
namespace LT
def kind : LT → Int | .node k _ _ _ _ => k
def text : LT → ByteArray | .node _ s _ _ _ => s
def gaps : LT → List ByteArray | .node _ _ g _ _ => g
def kids : LT → List LT | .node _ _ _ ks _ => ks
def sl : LT → Sl | .node _ _ _ _ r => r
theorem ind {M : LT → Prop} (h : ∀ k s g ks r, (∀ t ∈ ks, M t) → M (.node k s g ks r)) : ∀ t, M t
  | .node k s g ks r => h k s g ks r fun t ht => ind h t
termination_by t => SizeOf.sizeOf t
decreasing_by
  have := List.sizeOf_lt_of_mem ht
  simp only [LT.node.sizeOf_spec]
  omega
end LT
mutual
/-- The tree itself. -/
def er : LT → Pl.Tr
  | .node k s g ks _ => .node k s g (ers ks)
def ers : List LT → List Pl.Tr
  | [] => []
  | a :: ts => er a :: ers ts
end
theorem ers_map (ks : List LT) : ers ks = ks.map er := by
  induction ks with
  | nil => rfl
  | cons a ts ih => rw [ers, ih]; rfl
theorem ers_len (ks : List LT) : (ers ks).length = ks.length := by rw [ers_map, List.length_map]
theorem er_kind (a : LT) : (er a).kind = a.kind := by cases a; rw [er]; rfl
theorem er_text (a : LT) : (er a).text = a.text := by cases a; rw [er]; rfl
theorem er_gaps (a : LT) : (er a).gaps = a.gaps := by cases a; rw [er]; rfl
theorem er_kids (a : LT) : (er a).kids = ers a.kids := by cases a; rw [er]; rfl
/-- Where the kids lie. -/
def kb (r : Sl) : Nat := match r.da with | some a => a.block | none => 0
def ko (r : Sl) : Nat := match r.da with | some a => a.off | none => 0
mutual
/-- The kinds, texts and kids of all nodes of a tree lie ts it says; its root lies at (b, o). -/
def FixL (w : World) : LT → Nat → Nat → Prop
  | .node k s _ ks r => fun b o => Nd w b o k s (.slice r.da ks.length r.dc) ∧ (ks = [] ∨ r.da = some ⟨kb r, ko r, none⟩) ∧ FixK w ks (kb r) (ko r)
def FixK (w : World) : List LT → Nat → Nat → Prop
  | [] => fun _ _ => True
  | a :: ts => fun b o => FixL w a b o ∧ FixK w ts b (o + 4)
end
theorem fixL_node (w : World) (k : Int) (s : ByteArray) (g : List ByteArray) (ks : List LT) (r : Sl) (b o : Nat) : FixL w (.node k s g ks r) b o = (Nd w b o k s (.slice r.da ks.length r.dc) ∧ (ks = [] ∨ r.da = some ⟨kb r, ko r, none⟩) ∧ FixK w ks (kb r) (ko r)) := by rw [FixL]
theorem fixK_get (w : World) (ks : List LT) (b o : Nat) (h : FixK w ks b o) : ∀ (j : Nat) u, ks[j]? = some u → FixL w u b (o + j * 4) := by
  induction ks generalizing o with
  | nil => intro j u hu; simp at hu
  | cons a ts ih =>
    rw [FixK] at h
    intro j u hu
    cases j with
    | zero => simp at hu; subst hu; simpa using h.1
    | succ j =>
      have := ih (o + 4) h.2 j u (by simpa using hu)
      rw [show o + (j + 1) * 4 = o + 4 + j * 4 from by omega]; exact this
/-- A word: its node's place, its index, the canonical gap, its text, the gaps of its node and where they lie. -/
structure Ev where
  b : Nat
  o : Nat
  own : Nat
  gap : ByteArray
  text : ByteArray
  g : List ByteArray
  r : Sl
mutual
def evL : LT → Nat → Nat → Nat → ByteArray → List Ev
  | .node k s g ks r => fun b o L f => Pl.lin (fun i p => ⟨b, o, i, p.gap, p.text, g, r⟩) (fun j gp => (evK ks (kb r) (ko r)).getD j (fun _ _ => []) (Pl.inside k L) gp) 0 (Pl.fixF f (Pl.parts k s ks.length L))
def evK : List LT → Nat → Nat → List (Nat → ByteArray → List Ev)
  | [] => fun _ _ => []
  | a :: ts => fun b o => evL a b o :: evK ts b (o + 4)
end
theorem evL_node (k : Int) (s : ByteArray) (g : List ByteArray) (ks : List LT) (r : Sl) (b o L : Nat) (f : ByteArray) : evL (.node k s g ks r) b o L f = Pl.lin (fun i p => ⟨b, o, i, p.gap, p.text, g, r⟩) (fun j gp => (evK ks (kb r) (ko r)).getD j (fun _ _ => []) (Pl.inside k L) gp) 0 (Pl.fixF f (Pl.parts k s ks.length L)) := by rw [evL]
theorem evK_get (ks : List LT) (b o j : Nat) (u : LT) (h : ks[j]? = some u) : (evK ks b o).getD j (fun _ _ => []) = evL u b (o + j * 4) := by
  induction ks generalizing o j with
  | nil => simp at h
  | cons a ts ih =>
    rw [evK]
    cases j with
    | zero => simp at h; subst h; simp
    | succ j =>
      rw [List.getD_cons_succ, ih (o + 4) j (by simpa using h), show o + (j + 1) * 4 = o + 4 + j * 4 from by omega]
theorem evK_len (l : List LT) : ∀ b o, (evK l b o).length = l.length := by
  induction l with
  | nil => intro b o; rw [evK]; rfl
  | cons a ts ih => intro b o; rw [evK, List.length_cons, List.length_cons, ih]
/-- The word alone. -/
def Ev.wd (e : Ev) : Pl.Wd := ⟨e.own, e.gap, e.text, e.g⟩
theorem evL_wd (a : LT) : ∀ b o L f, (evL a b o L f).map Ev.wd = Pl.evT (er a) L f := by
  refine LT.ind (M := fun a => ∀ b o L f, (evL a b o L f).map Ev.wd = Pl.evT (er a) L f) (fun k s g ks r ih b o L f => ?_) a
  rw [evL_node, er, Pl.evT_node, ers_len]
  rw [Pl.lin_map Ev.wd id _ (fun i p => (⟨i, p.gap, p.text, g⟩ : Pl.Wd)) _ (fun j gp => (Pl.evF (ers ks)).getD j (fun _ _ => []) (Pl.inside k L) gp) (fun o p => rfl) _ _ (fun p hp => ?_), List.map_id]
  rw [List.map_id]
  cases hg : ks[p.kid.toNat]? with
  | none =>
    have hlen : ks.length ≤ p.kid.toNat := List.getElem?_eq_none_iff.1 hg
    have e1 : (evK ks (kb r) (ko r)).getD p.kid.toNat (fun _ _ => []) = fun _ _ => [] := by
      rw [List.getD_eq_getElem?_getD, List.getElem?_eq_none (by rw [evK_len]; exact hlen)]; rfl
    have e2 : (Pl.evF (ers ks)).getD p.kid.toNat (fun _ _ => []) = fun _ _ => [] := by rw [Pl.evF_map, ers_map, List.map_map, List.getD_eq_getElem?_getD, List.getElem?_map, hg]; rfl
    rw [e1, e2]; rfl
  | some u =>
    rw [evK_get ks _ _ _ u hg, Pl.evF_get _ _ (er u) (by rw [ers_map, List.getElem?_map, hg]; rfl)]
    exact ih u (List.mem_of_getElem? hg) _ _ _ _

/- ### What changes -/
/-- Of what was there, blocks of Z alone may have changed. -/
structure Apart (Z : Nat → Prop) (w w' : World) : Prop where
  os : w'.os = w.os
  tape : w'.tape = w.tape
  output : w'.output = w.output
  size : w.heap.size ≤ w'.heap.size
  block : ∀ x, x < w.heap.size → ¬ Z x → w'.heap[x]? = w.heap[x]?
theorem Apart.of {Z : Nat → Prop} {w w' : World} (h : Below w.heap.size w w') : Apart Z w w' := ⟨h.os, h.tape, h.output, h.size, fun x hx _ => h.block x hx⟩
theorem Apart.trans {Z Z' : Nat → Prop} {a b c : World} (h : Apart Z a b) (k : Apart Z' b c) (hz : ∀ x, Z' x → Z x ∨ a.heap.size ≤ x) : Apart Z a c :=
  ⟨k.os.trans h.os, k.tape.trans h.tape, k.output.trans h.output, Nat.le_trans h.size k.size, fun x hx hn => (k.block x (Nat.lt_of_lt_of_le hx h.size) (fun hz' => by
    rcases hz x hz' with h1 | h1
    · exact hn h1
    · omega)).trans (h.block x hx hn)⟩
theorem Apart.below {Z : Nat → Prop} {w w' : World} {B : Nat} (h : Apart Z w w') (hB : B ≤ w.heap.size) (hz : ∀ x, Z x → B ≤ x) : Below B w w' := ⟨h.os, h.tape, h.output, h.size, fun x hx => h.block x (by omega) (fun hzx => by have := hz x hzx; omega)⟩
/-- All rows of parts stand as they stood. -/
structure KeepP (w w' : World) : Prop where
  size : w.heap.size ≤ w'.heap.size
  row : ∀ (x : Nat) (c : Array Value) (fz : Nat × Nat), w.heap[x]? = some (.cells c 89 fz) → w'.heap[x]? = some (.cells c 89 fz)
theorem KeepP.of {w w' : World} (h : Below w.heap.size w w') : KeepP w w' := ⟨h.size, fun x c fz hx => (h.block x (lt_blk hx)).trans hx⟩
theorem KeepP.refl (w : World) : KeepP w w := .of (Below.refl _ _)
theorem KeepP.trans {a b c : World} (h : KeepP a b) (k : KeepP b c) : KeepP a c := ⟨Nat.le_trans h.size k.size, fun x d fz hx => k.row x d fz (h.row x d fz hx)⟩
theorem Apart.keepP {Z : Nat → Prop} {w w' : World} (h : Apart Z w w') (hz : ∀ (x : Nat) (c : Array Value) (fz : Nat × Nat), w.heap[x]? = some (.cells c 89 fz) → ¬ Z x) : KeepP w w' := ⟨h.size, fun x c fz hx => (h.block x (lt_blk hx) (hz x c fz hx)).trans hx⟩
/-- The value of a word. -/
def wordV (e : Ev) : Value := .agg #[.pointer (some ⟨e.b, e.o, none⟩), .int .i64 (e.own : Nat), .string e.gap, .string e.text]
/-- What a step of the printer keeps, on the words of T, one after the other: Inv says what holds behind some of them. -/
structure Step (N : FuncId) (args : Value → Array Value) (T : List Ev) (Inv : List Ev → World → Prop) : Prop where
  keep : ∀ D w w', Inv D w → Below w.heap.size w w' → Inv D w'
  call : ∀ D e, (D ++ [e]) <+: T → ∀ w, Inv D w → Calls Tryz.prog N (args (wordV e)) w fun en w' => en = .returned (.tuple #[]) ∧ Inv (D ++ [e]) w' ∧ KeepP w w'
/-- What walkNode answers at a tree. -/
def NodeP (Inv : List Ev → World → Prop) (D E : List Ev) (w : World) (en : Ending) (w' : World) : Prop :=
  en = .returned (.tuple #[]) ∧ Inv (D ++ E) w' ∧ KeepP w w'
theorem lin_take {α : Type} (own : Nat → Pl.Part → α) (kid : Nat → ByteArray → List α) (ps : List Pl.Part) (q : Nat) (h : q < ps.length) :
    Pl.lin own kid 0 (ps.take (q + 1)) = Pl.lin own kid 0 (ps.take q) ++ (if ps[q].kid = -1 then [own (Pl.owns (ps.take q)).length ps[q]] else kid ps[q].kid.toNat ps[q].gap) := by
  rw [List.take_succ_eq_append_getElem h, Pl.lin_append, Nat.zero_add]
  congr 1
  rw [Pl.lin]
  split
  · rfl
  · rw [Pl.lin, List.append_nil]
theorem lin_prefix {α : Type} (own : Nat → Pl.Part → α) (kid : Nat → ByteArray → List α) (ps : List Pl.Part) (q : Nat) : Pl.lin own kid 0 (ps.take q) <+: Pl.lin own kid 0 ps := by
  conv => rhs; rw [← List.take_append_drop q ps, Pl.lin_append]
  exact List.prefix_append _ _
end Go.Proofs.YtiaajpdcacdngaaGreatDoor
