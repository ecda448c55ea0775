/- Nodes stored into a row of nodes of the call's own. -/
import Derived.Test.YtidmbdilediplaaWalkTexts
import Derived.Deep.Upon
namespace Go.Proofs.Ytidmbdilediplaa
open Go.RowKit Go.Deep
set_option linter.unusedVariables false
set_option linter.unusedSimpArgs false

theorem kind_node (k : Int) (s : ByteArray) (g : List ByteArray) (ks : List Pl.Tr) : (Pl.Tr.node k s g ks).kind = k := rfl
theorem text_node (k : Int) (s : ByteArray) (g : List ByteArray) (ks : List Pl.Tr) : (Pl.Tr.node k s g ks).text = s := rfl
theorem gaps_node (k : Int) (s : ByteArray) (g : List ByteArray) (ks : List Pl.Tr) : (Pl.Tr.node k s g ks).gaps = g := rfl
theorem kids_node (k : Int) (s : ByteArray) (g : List ByteArray) (ks : List Pl.Tr) : (Pl.Tr.node k s g ks).kids = ks := rfl
/-- Some cells of one block have been written, from an offset on. -/
structure Wrote (w w' : World) (b o : Nat) (vs : List Value) : Prop where
  os : w'.os = w.os
  tape : w'.tape = w.tape
  output : w'.output = w.output
  size : w'.heap.size = w.heap.size
  other : ∀ x, x ≠ b → w'.heap[x]? = w.heap[x]?
  here : w'.rangeAt b o vs
  apart : ∀ o' cs, o' + cs.length ≤ o ∨ o + vs.length ≤ o' → w.rangeAt b o' cs → w'.rangeAt b o' cs
  there : ∀ o' n, w.there b o' n → w'.there b o' n
theorem wrote_setCells (w : World) (b : Nat) : ∀ (vs : List Value) (o : Nat), (w.setCells b o vs).os = w.os ∧ (w.setCells b o vs).tape = w.tape ∧ (w.setCells b o vs).output = w.output ∧ (w.setCells b o vs).heap.size = w.heap.size ∧ ∀ x, x ≠ b → (w.setCells b o vs).heap[x]? = w.heap[x]? := by
  intro vs
  induction vs generalizing w with
  | nil => intro o; exact ⟨rfl, rfl, rfl, rfl, fun _ _ => rfl⟩
  | cons v vs ih =>
    intro o
    obtain ⟨h1, h2, h3, h4, h5⟩ := ih (w.setCell ⟨b, o, none⟩ v) (o + 1)
    exact ⟨h1, h2, h3, h4.trans (by simp [World.setCell]), fun x hx => (h5 x hx).trans (Below.heap_setCell _ _ _ _ hx)⟩
theorem wrote_mk (w : World) (b o : Nat) (vs : List Value) (ht : w.there b o vs.length) : Wrote w (w.setCells b o vs) b o vs := by
  obtain ⟨h1, h2, h3, h4, h5⟩ := wrote_setCells w b vs o
  exact ⟨h1, h2, h3, h4, h5, World.rangeAt_setCells_same w b o vs ht, fun o' cs hap h => World.rangeAt_setCells_apart h b o vs (.inr hap), fun o' n h => World.there_setCells h b o vs⟩
theorem Wrote.below {w w' w0 : World} {b o B : Nat} {vs : List Value} (h : Wrote w w' b o vs) (hb : Below B w0 w) (hB : B ≤ b) : Below B w0 w' :=
  hb.trans ⟨h.os, h.tape, h.output, by rw [h.size]; exact Nat.le_refl _, fun x hx => h.other x (by omega)⟩
theorem Wrote.same {w w' : World} {b o : Nat} {vs : List Value} {P : Nat → Prop} (h : Wrote w w' b o vs) (hP : ∀ x, P x → x ≠ b) : Same P w w' := fun x hx => h.other x (hP x hx)
/-- A node is stored. -/
theorem wpList_store4 {ops : Array Oper} {rest : List Oper} {op : Oper} {a : Act} {w : World} {Q : Exit → Act → World → Prop} (hgd : op.guard = none) (x y : Operand) (ho : op.op = .store 25 x y)
    (b o : Nat) (k : Int) (s : ByteArray) (ga da : Option Addr) (gn gc dn dc : Nat) (hx : a.eval x = .pointer (some ⟨b, o, none⟩)) (hy : a.eval y = .agg #[.int .i64 k, .string s, .slice ga gn gc, .slice da dn dc])
    (ht : w.there b o 4)
    (h : ∀ w', Wrote w w' b o [.int .i64 k, .string s, .slice ga gn gc, .slice da dn dc] → wpList Try.prog ops Q rest (a.put op.dst undef) w') : wpList Try.prog ops Q (op :: rest) a w :=
  wpList_store_mid hgd 25 x y ho b o _ hx hy ht sizeN (by simp [Value.oneCell']) (h _ (wrote_mk w b o _ ht))
theorem at4_of_range {w : World} {b o : Nat} {k : Int} {s : ByteArray} {gv kv : Value} (h : w.rangeAt b o [.int .i64 k, .string s, gv, kv]) : At4 w b o k s gv kv :=
  ⟨h 0 _ rfl, h 1 _ rfl, h 2 _ rfl, h 3 _ rfl⟩
/-- A block of cells, none of them frozen, is there. -/
theorem there_block {w : World} {b : Nat} {cs : Array Value} {T : TypeId} (h : w.heap[b]? = some (.cells cs T (0, 0))) (o n : Nat) (hn : o + n ≤ cs.size) : w.there b o n := by
  intro j hj
  refine ⟨?_, by simp [World.frozen?, h]⟩
  rw [cell_of_row _ _ _ _ _ _ h, Array.getElem?_eq_getElem (by omega)]; rfl
theorem there_keep {w w' : World} {b o n : Nat} (h : w.there b o n) (hb : w'.heap[b]? = w.heap[b]?) : w'.there b o n := by
  intro j hj
  obtain ⟨h1, h2⟩ := h j hj
  exact ⟨by rw [World.cell?_of_block (w := w) (a := ⟨b, o + j, none⟩) hb]; exact h1, by rw [World.frozen?_of_block (w := w) (a := ⟨b, o + j, none⟩) hb]; exact h2⟩
theorem there_sub {w : World} {b o n : Nat} (h : w.there b 0 n) (m : Nat) (hn : o + m ≤ n) : w.there b o m := by
  intro j hj
  have := h (o + j) (by omega)
  rw [Nat.zero_add] at this
  exact this
theorem infoN : (Try.prog.info? 25).map (fun i => (i.zero, i.size, i.bytes)) = some (some (.agg #[.int .i64 0, .string ⟨#[]⟩, .slice none 0 0, .slice none 0 0]), 4, 72) := by kernel_rfl
/-- make of nodes, for every world. -/
theorem make_nodes (n : Nat) (hn : n ≤ 1099511627776) (w : World) :
    (Instr.makeSlice 23 (.int .i64 (n : Int)) (.int .i64 (n : Int))).run Try.prog w = .ok (.slice (some ⟨w.heap.size, 0, none⟩) n n) (w.alloc (.cells (madeCells #[.int .i64 0, .string ⟨#[]⟩, .slice none 0 0, .slice none 0 0] (n * 4)) 25)) := by
  obtain ⟨i, hi, hzz⟩ := Option.map_eq_some_iff.1 infoN
  simp only [Prod.mk.injEq] at hzz
  obtain ⟨hz, hs, hb⟩ := hzz
  have h := run_make (P := Try.prog) w 23 25 i _ Try.underlying23 hi hz .i64 .i64 n n (by omega) (Int.le_refl _) (by rw [hb]; omega) (by omega)
  have e : (Value.agg #[.int .i64 0, .string ⟨#[]⟩, .slice none 0 0, .slice none 0 0]).cells = #[.int .i64 0, .string ⟨#[]⟩, .slice none 0 0, .slice none 0 0] := by simp [Value.cells]
  rw [hs, e, Int.toNat_natCast] at h
  exact h
/-- A tree in new memory. -/
def CopyP (t : Pl.Tr) (w1 : World) (e : Ending) (w' : World) : Prop :=
  ∃ r : Sl, e = .returned (.agg #[.int .i64 t.kind, .string t.text, .slice r.ga t.gaps.length r.gc, .slice r.da t.kids.length r.dc]) ∧ Tin (fun b => w1.heap.size ≤ b ∧ b < w'.heap.size) w' t r ∧ Below w1.heap.size w1 w'
/-- The kids in new memory. -/
def EachP (f : Pl.Tr → Pl.Tr) (ks : List Pl.Tr) (w1 : World) (e : Ending) (w' : World) : Prop :=
  ∃ (b : Nat) (R : Nat → Sl), e = .returned (.slice (some ⟨b, 0, none⟩) ks.length ks.length) ∧ b = w1.heap.size ∧ (∀ (j : Nat) u, ks[j]? = some u → AtT w' b (j * 4) (f u) (R j) ∧ Tin (fun x => w1.heap.size ≤ x ∧ x < w'.heap.size) w' (f u) (R j)) ∧ Below w1.heap.size w1 w' ∧ b < w'.heap.size
theorem below_size {B : Nat} {w w' : World} (h : Below B w w') : w.heap.size ≤ w'.heap.size := h.size
end Go.Proofs.Ytidmbdilediplaa
