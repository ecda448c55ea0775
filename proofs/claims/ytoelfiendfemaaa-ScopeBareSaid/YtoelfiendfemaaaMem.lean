/- Trees, lists of strings and of numbers as they lie in memory. -/
import Derived.Test.YtoelfiendfemaaaRows
import Derived.Test.YtoelfiendfemaaaPlainJ
import Derived.WalkKit
import Derived.WalkSpells
import Derived.WalkLawsBesides
import Derived.Outline
import Derived.Lib.Hide
import Derived.Deep.QuietTactic
import Derived.BigQuiet
import Derived.IntWalk
import Derived.OwnWalk
import Derived.Deep.MidRow
namespace Go.Proofs.Ytoelfiendfemaaa
open Go.RowKit
set_option linter.unusedVariables false
set_option linter.unusedSimpArgs false

theorem ret_bool {a b : Bool} (h : a = b) : Ending.returned (.bool a) = .returned (.bool b) := by rw [h]
theorem ret_int {k : IntKind} {a b : Int} (h : a = b) : Ending.returned (.int k a) = .returned (.int k b) := by rw [h]

/- ### Lists of strings and of numbers -/
def StrsAt (w : World) (b o : Nat) (xs : List ByteArray) : Prop := ∀ (j : Nat) x, xs[j]? = some x → w.cell? ⟨b, o + j, none⟩ = some (.string x)
def IntsAt (w : World) (b o : Nat) (xs : List Int) : Prop := ∀ (j : Nat) x, xs[j]? = some x → w.cell? ⟨b, o + j, none⟩ = some (.int .i64 x)
/-- The blocks that P names hold in w' what they held in w. -/
def Same (P : Nat → Prop) (w w' : World) : Prop := ∀ b, P b → w'.heap[b]? = w.heap[b]?
theorem Same.cell {P : Nat → Prop} {w w' : World} (h : Same P w w') {b o : Nat} (hb : P b) : w'.cell? ⟨b, o, none⟩ = w.cell? ⟨b, o, none⟩ := World.cell?_of_block (w := w) (h b hb)
theorem Same.below {P : Nat → Prop} {w w' : World} {B : Nat} (h : Below B w w') (hP : ∀ b, P b → b < B) : Same P w w' := fun b hb => h.block b (hP b hb)
theorem Same.trans {P : Nat → Prop} {a b c : World} (h : Same P a b) (k : Same P b c) : Same P a c := fun x hx => (k x hx).trans (h x hx)
theorem Same.refl (P : Nat → Prop) (w : World) : Same P w w := fun _ _ => rfl
/-- Strings from an address on, wherever P lets them lie. -/
def Strs (P : Nat → Prop) (w : World) (a : Option Addr) (xs : List ByteArray) : Prop :=
  xs.length ≤ maxLen ∧ (∀ x ∈ xs, x.size ≤ maxLen) ∧ (xs = [] ∨ ∃ b o, a = some ⟨b, o, none⟩ ∧ P b ∧ StrsAt w b o xs)
def Ints (P : Nat → Prop) (w : World) (a : Option Addr) (xs : List Int) : Prop :=
  xs.length ≤ maxLen ∧ (xs = [] ∨ ∃ b o, a = some ⟨b, o, none⟩ ∧ P b ∧ IntsAt w b o xs)
theorem Strs.keep {P Q : Nat → Prop} {w w' : World} {a : Option Addr} {xs : List ByteArray} (h : Strs P w a xs) (hs : Same P w w') (hq : ∀ b, P b → Q b) : Strs Q w' a xs := by
  obtain ⟨h2, h3, h4⟩ := h
  refine ⟨h2, h3, ?_⟩
  rcases h4 with h4 | ⟨b, o, e, hb, h4⟩
  · exact .inl h4
  · exact .inr ⟨b, o, e, hq b hb, fun j x hx => (hs.cell hb).trans (h4 j x hx)⟩
theorem Ints.keep {P Q : Nat → Prop} {w w' : World} {a : Option Addr} {xs : List Int} (h : Ints P w a xs) (hs : Same P w w') (hq : ∀ b, P b → Q b) : Ints Q w' a xs := by
  obtain ⟨h2, h4⟩ := h
  refine ⟨h2, ?_⟩
  rcases h4 with h4 | ⟨b, o, e, hb, h4⟩
  · exact .inl h4
  · exact .inr ⟨b, o, e, hq b hb, fun j x hx => (hs.cell hb).trans (h4 j x hx)⟩
theorem strs_nil (P : Nat → Prop) (w : World) (a : Option Addr) : Strs P w a [] := ⟨by decide, (fun x hx => by cases hx), .inl rfl⟩
theorem ints_nil (P : Nat → Prop) (w : World) (a : Option Addr) : Ints P w a [] := ⟨by decide, .inl rfl⟩

/- ### Trees -/
/-- The four cells of a node, from an address on. -/
def At4 (w : World) (b o : Nat) (k : Int) (s : ByteArray) (gv kv : Value) : Prop :=
  w.cell? ⟨b, o, none⟩ = some (.int .i64 k) ∧ w.cell? ⟨b, o + 1, none⟩ = some (.string s) ∧ w.cell? ⟨b, o + 2, none⟩ = some gv ∧ w.cell? ⟨b, o + 3, none⟩ = some kv
theorem At4.keep {P : Nat → Prop} {w w' : World} {b o : Nat} {k : Int} {s : ByteArray} {gv kv : Value} (h : At4 w b o k s gv kv) (hs : Same P w w') (hb : P b) : At4 w' b o k s gv kv :=
  ⟨(hs.cell hb).trans h.1, (hs.cell hb).trans h.2.1, (hs.cell hb).trans h.2.2.1, (hs.cell hb).trans h.2.2.2⟩
theorem At4.lt {w : World} {b o : Nat} {k : Int} {s : ByteArray} {gv kv : Value} (h : At4 w b o k s gv kv) : b < w.heap.size := World.block_lt_of_cell? w _ h.1
theorem At4.range {w : World} {b o : Nat} {k : Int} {s : ByteArray} {gv kv : Value} (h : At4 w b o k s gv kv) : w.rangeAt b o [.int .i64 k, .string s, gv, kv] := by
  obtain ⟨h1, h2, h3, h4⟩ := h
  intro j v hv
  match j, hv with
  | 0, hv => simp at hv; subst hv; exact h1
  | 1, hv => simp at hv; subst hv; exact h2
  | 2, hv => simp at hv; subst hv; exact h3
  | 3, hv => simp at hv; subst hv; exact h4
theorem sizeN : (Try.prog.info? 54).map (·.size) = some 4 := by kernel_rfl
theorem At4.load {w : World} {b o : Nat} {k : Int} {s : ByteArray} {gv kv : Value} (h : At4 w b o k s gv kv) : (Instr.loadAt 54 (.pointer (some ⟨b, o, none⟩))).run Try.prog w = .ok (.agg #[.int .i64 k, .string s, gv, kv]) w :=
  run_loadAt_mid w b o 54 _ _ h.range Try.underlying54 rfl sizeN
/-- Where a node's two slices lie, and their capacities. -/
structure Sl where
  ga : Option Addr
  gc : Nat
  da : Option Addr
  dc : Nat
/-- A node's four cells. -/
def AtT (w : World) (b o : Nat) (t : Pl.Tr) (r : Sl) : Prop := At4 w b o t.kind t.text (.slice r.ga t.gaps.length r.gc) (.slice r.da t.kids.length r.dc)
/-- The kids of a node: where they lie, and the slices in their cells. -/
def Lies (P : Nat → Prop) (w : World) (ks : List Pl.Tr) (a : Option Addr) (R : Nat → Sl) : Prop :=
  ks = [] ∨ ∃ b o, a = some ⟨b, o, none⟩ ∧ P b ∧ ∀ (j : Nat) t, ks[j]? = some t → AtT w b (o + j * 4) t (R j)
theorem Lies.keep {P Q : Nat → Prop} {w w' : World} {ks : List Pl.Tr} {a : Option Addr} {R : Nat → Sl} (h : Lies P w ks a R) (hs : Same P w w') (hq : ∀ b, P b → Q b) : Lies Q w' ks a R := by
  rcases h with h | ⟨b, o, e, hb, h⟩
  · exact .inl h
  · exact .inr ⟨b, o, e, hq b hb, fun j t ht => At4.keep (h j t ht) hs hb⟩
inductive Tin (P : Nat → Prop) (w : World) : Pl.Tr → Sl → Prop
  | mk (t : Pl.Tr) (r : Sl) (R : Nat → Sl)
      (hs : t.text.size ≤ maxLen) (hg : Strs P w r.ga t.gaps) (hl : t.kids.length ≤ maxLen) (hk : Lies P w t.kids r.da R)
      (hr : ∀ (j : Nat) u, t.kids[j]? = some u → Tin P w u (R j)) : Tin P w t r
theorem Tin.keep {P Q : Nat → Prop} {w w' : World} {t : Pl.Tr} {r : Sl} (h : Tin P w t r) (hs : Same P w w') (hq : ∀ b, P b → Q b) : Tin Q w' t r := by
  induction h with
  | mk t r R h1 h2 h3 h4 h5 ih => exact .mk t r R h1 (h2.keep hs hq) h3 (h4.keep hs hq) ih
/-- Trees that lie somewhere in a world. -/
def IsT (w : World) (t : Pl.Tr) (r : Sl) : Prop := Tin (fun b => b < w.heap.size) w t r
theorem IsT.later {w w' : World} {t : Pl.Tr} {r : Sl} (h : IsT w t r) (hb : Below w.heap.size w w') : IsT w' t r :=
  h.keep (Same.below hb fun _ h => h) fun b h => Nat.lt_of_lt_of_le h hb.size
theorem Tin.isT {P : Nat → Prop} {w : World} {t : Pl.Tr} {r : Sl} (h : Tin P w t r) (hP : ∀ b, P b → b < w.heap.size) : IsT w t r := h.keep (Same.refl _ _) hP
/-- The zero node. -/
def zeroT : Pl.Tr := .node 0 ⟨#[]⟩ [] []
theorem isT_zero (w : World) : IsT w zeroT ⟨none, 0, none, 0⟩ :=
  .mk zeroT _ (fun _ => ⟨none, 0, none, 0⟩) (by decide) (strs_nil _ _ _) (by decide) (.inl rfl) (fun j t h => by cases j <;> cases h)
theorem below_drewN (w : World) (n : Nat) : Below w.heap.size w (w.drewN n) := ⟨rfl, rfl, rfl, Nat.le_refl _, fun _ _ => rfl⟩

/-- A world behind another one: what was there is as it was. -/
structure Later (W : World) where
  u : World
  h : Below W.heap.size W u
instance laterSome (W : World) : Nonempty (Later W) := ⟨⟨W, Below.refl _ _⟩⟩
/-- A region that draws its order, whose operations only read and whose callees leave what was there. -/
theorem region_later {P : Program} {id : Nat} {Q : Exit → Act → World → Prop} {a : Act} {w : World} {l : List Oper} (hm : P.follows .mixedOrders = true) (hB : Region.lexB .any l.toArray = true)
    (h : wpQuiet P l.toArray (fun w' => ∃ n : Later w, w' = n.u) (fun a' => ∀ w', (∃ n : Later w, w' = n.u) → Q .normal a' w') l a) : (Code.region id l.toArray true).wp P Q a w :=
  wp_region_quiet (C := fun w' => ∃ n : Later w, w' = n.u) hm hB ⟨⟨_, (Below.refl w.heap.size w).drew⟩, rfl⟩ h
end Go.Proofs.Ytoelfiendfemaaa
