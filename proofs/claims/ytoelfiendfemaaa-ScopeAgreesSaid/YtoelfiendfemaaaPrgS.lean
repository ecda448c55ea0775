/- What the laws ask of the program's five functions, and comparisons of structs in a plain region. -/
import Derived.Test.YtoelfiendfemaaaVis2
import Derived.Test.YtoelfiendfemaaaRes2
import Derived.Test.YtoelfiendfemaaaAwk0
namespace Go.Proofs.Ytoelfiendfemaaa
open Go.RowKit Go.Deep
set_option linter.unusedVariables false
set_option linter.unusedSimpArgs false

/-- What the program's walks ask of the world: nothing here (tables of the program, if it reads any). -/
def Good (w : World) : Prop := True
theorem Good.later {w w' : World} (h : Good w) (hb : Below w.heap.size w w') : Good w' := trivial
def PUses : Prop := ∀ (a : Option Addr) (n c : Nat) (us : List Pl.Un) (R : Nat → Sl) (w : World), Good w → IsU w a us R → Few us → n = us.length → Calls Try.prog 12 #[.slice a n c] w (UsesP (Pl.uses us) w)
def PResolve : Prop := ∀ (a : Option Addr) (n c : Nat) (us : List Pl.Un) (R : Nat → Sl) (w : World), Good w → IsU w a us R → Few us → n = us.length → ∀ p q : Int, Calls Try.prog 14 #[.slice a n c, .agg #[.int .i64 p, .int .i64 q]] w (FoundP (Pl.resolve us p q) w)
def PVisible : Prop := ∀ (a : Option Addr) (n c : Nat) (us : List Pl.Un) (R : Nat → Sl) (w : World), Good w → IsU w a us R → Few us → n = us.length → ∀ p q : Int, Calls Try.prog 17 #[.slice a n c, .agg #[.int .i64 p, .int .i64 q]] w (NamesP (Pl.visible us p q) w)
def PUnbound : Prop := ∀ (a : Option Addr) (n c : Nat) (us : List Pl.Un) (R : Nat → Sl) (w : World), Good w → IsU w a us R → Few us → n = us.length → Calls Try.prog 20 #[.slice a n c] w (RefsP (Pl.unbound us) w)
def PDoubles : Prop := ∀ (a : Option Addr) (n c : Nat) (us : List Pl.Un) (R : Nat → Sl) (w : World), Good w → IsU w a us R → Few us → n = us.length → Calls Try.prog 22 #[.slice a n c] w (RefsP (Pl.doubles us) w)
def Prg : Prop := PUses ∧ PResolve ∧ PVisible ∧ PUnbound ∧ PDoubles

/-- A comparison of structs in a plain region. -/
theorem wpList_bin {P : Program} {ops : Array Oper} {rest : List Oper} {op : Oper} {a : Act} {w : World} {Q : Exit → Act → World → Prop} (hw : Region.wanted op (yielded ops a.tmps) = true) (bop : BinOp) (ty ty2 : TypeId) (x y : Operand) (ho : op.op = .binOp bop ty x y ty2) (p q v : Value) (hx : a.eval x = p) (hy : a.eval y = q)
    (hl : (do eqGuard bop ty x y p q; binOp bop ty p q : Sem Value).run P w = .ok v w) (h : wpList P ops Q rest (a.put op.dst v) w) : wpList P ops Q (op :: rest) a w := by
  unfold wpList
  rw [if_pos hw]
  left
  unfold Oper.wp execOp
  simp only [Sem.run_bind] at hl
  simp only [ho, hx, hy, Sem.run_bind, Sem.run_pure, hl, Result.andThen_ok]
  exact h
theorem refs_eql_is (x y : Operand) (x1 x2 y1 y2 : Int) (bb : Bool) (h : (x1 == y1 && x2 == y2) = bb) (w : World) : (do eqGuard .eql 29 x y (.agg #[.int .i64 x1, .int .i64 x2]) (.agg #[.int .i64 y1, .int .i64 y2]); binOp .eql 29 (.agg #[.int .i64 x1, .int .i64 x2]) (.agg #[.int .i64 y1, .int .i64 y2]) : Sem Value).run Try.prog w = .ok (.bool bb) w := h ▸ refs_eql x y x1 x2 y1 y2 w
/-- The sample's units. -/
theorem smp_few : Few [Pl.smp] := ⟨by decide, fun x hx => by
  simp at hx
  subst hx
  exact ⟨by decide, fun y hy => by
    have : ∀ y ∈ Pl.pre Pl.smp.tree, y.gaps.length ≤ 8000 ∧ y.text.size ≤ 8000 := by decide
    exact this y hy⟩⟩
theorem smp_few2 : Few [Pl.smp, Pl.smp] := ⟨by decide, fun x hx => smp_few.2 x (by simp at hx; simp [hx])⟩
/-- Units in a block of their own. -/
theorem isU_one {w : World} {b : Nat} {r : Sl} (h : w.heap[b]? = some (.cells (cells7 Pl.smp r).toArray 56 (0, 0))) (hT : IsT w Pl.tFile r) : IsU w (some ⟨b, 0, none⟩) [Pl.smp] (fun _ => r) := by
  refine ⟨by decide, .inr ⟨b, 0, rfl, lt_blk h, fun j x hx => ?_⟩, fun j x hx => ?_⟩
  · match j, hx with
    | 0, hx =>
      obtain rfl : Pl.smp = x := Option.some.inj hx
      exact blk_range h
    | j + 1, hx => cases hx
  · match j, hx with
    | 0, hx =>
      obtain rfl : Pl.smp = x := Option.some.inj hx
      exact ⟨hT, by decide, by decide⟩
    | j + 1, hx => cases hx
theorem isU_two {w : World} {b : Nat} {r : Sl} (h : w.heap[b]? = some (.cells (cells7 Pl.smp r ++ cells7 Pl.smp r).toArray 56 (0, 0))) (hT : IsT w Pl.tFile r) : IsU w (some ⟨b, 0, none⟩) [Pl.smp, Pl.smp] (fun _ => r) := by
  have hall := blk_range h
  refine ⟨by decide, .inr ⟨b, 0, rfl, lt_blk h, fun j x hx => ?_⟩, fun j x hx => ?_⟩
  · match j, hx with
    | 0, hx =>
      obtain rfl : Pl.smp = x := Option.some.inj hx
      intro i v hv
      have hi := (List.getElem?_eq_some_iff.1 hv).1
      exact hall i v (by show (cells7 Pl.smp r ++ cells7 Pl.smp r)[i]? = _; rw [List.getElem?_append_left hi]; exact hv)
    | 1, hx =>
      obtain rfl : Pl.smp = x := Option.some.inj hx
      intro i v hv
      have := hall (7 + i) v (by
        show (cells7 Pl.smp r ++ cells7 Pl.smp r)[7 + i]? = _
        rw [List.getElem?_append_right (by show 7 ≤ 7 + i; omega)]
        show (cells7 Pl.smp r)[7 + i - 7]? = _
        rw [Nat.add_sub_cancel_left]; exact hv)
      rw [Nat.zero_add] at this ⊢
      rw [Nat.one_mul]; exact this
    | j + 2, hx => cases hx
  · match j, hx with
    | 0, hx =>
      obtain rfl : Pl.smp = x := Option.some.inj hx
      exact ⟨hT, by decide, by decide⟩
    | 1, hx =>
      obtain rfl : Pl.smp = x := Option.some.inj hx
      exact ⟨hT, by decide, by decide⟩
    | j + 2, hx => cases hx
end Go.Proofs.Ytoelfiendfemaaa
