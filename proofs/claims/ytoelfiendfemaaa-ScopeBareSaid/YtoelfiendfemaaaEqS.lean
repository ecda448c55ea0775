/- Structs that are compared. -/
import Derived.Test.YtoelfiendfemaaaUses2
import Derived.Laws.StructEq
namespace Go.Proofs.Ytoelfiendfemaaa
open Go.RowKit Go.Deep
set_option linter.unusedVariables false
set_option linter.unusedSimpArgs false

theorem ref_equal (d : Nat) (x1 x2 y1 y2 : Int) (w : World) : (Op.equalIn (d + 2) 29 (.agg #[.int .i64 x1, .int .i64 x2]) (.agg #[.int .i64 y1, .int .i64 y2])).run Try.prog w = .ok (x1 == y1 && x2 == y2) w := by
  have hu : Try.prog.underlying 29 = some (.struct (Try.prog.fieldsOf 29)) := by kernel_rfl
  have hp : Try.prog.stoodInHeld 29 = false := by kernel_rfl
  have hf : (Try.prog.fieldsOf 29).toList.map (fun f => (f.name, f.type, f.offset)) = [("Unit", 3, 0), ("Node", 3, 1)] := by kernel_rfl
  have h3 : Try.prog.underlying 3 = some (.int .i64) := by kernel_rfl
  rw [run_equalIn_agg w (d + 1) 29 _ _ hu hp]
  generalize (Try.prog.fieldsOf 29).toList = fs at hf
  rcases fs with _ | ⟨f1, _ | ⟨f2, _ | ⟨f3, fs⟩⟩⟩
  · cases hf
  · simp at hf
  · simp only [List.map_cons, List.map_nil, List.cons.injEq, Prod.mk.injEq, and_true] at hf
    obtain ⟨⟨a1, a2, a3⟩, b1, b2, b3⟩ := hf
    unfold Op.eqFields Op.eqFields Op.eqFields
    rw [a1, a2, a3, b1, b2, b3]
    cases h1 : x1 == y1 <;> cases h2 : x2 == y2 <;> simp [go_sem, h3, h1, h2, run_equalIn_int w d 3 .i64 .i64 _ _ h3]
  · simp at hf
theorem use_equal (d : Nat) (a b c e a2 b2 c2 e2 : Int) (f f2 : Bool) (w : World) : (Op.equalIn (d + 3) 42 (.agg #[.int .i64 a, .int .i64 b, .int .i64 c, .int .i64 e, .bool f]) (.agg #[.int .i64 a2, .int .i64 b2, .int .i64 c2, .int .i64 e2, .bool f2])).run Try.prog w =
    .ok ((a == a2 && b == b2) && ((c == c2 && e == e2) && f == f2)) w := by
  have hu : Try.prog.underlying 42 = some (.struct (Try.prog.fieldsOf 42)) := by kernel_rfl
  have hp : Try.prog.stoodInHeld 42 = false := by kernel_rfl
  have hf : (Try.prog.fieldsOf 42).toList.map (fun f => (f.name, f.type, f.offset)) = [("At", 29, 0), ("Decl", 29, 2), ("Bound", 4, 4)] := by kernel_rfl
  have h4 : Try.prog.underlying 4 = some .bool := by kernel_rfl
  rw [run_equalIn_agg w (d + 2) 42 _ _ hu hp]
  generalize (Try.prog.fieldsOf 42).toList = fs at hf
  have p1 : ∀ (x0 x1 x2 x3 : Int) (x4 : Bool) (w : World), (part 29 #[.int .i64 x0, .int .i64 x1, .int .i64 x2, .int .i64 x3, .bool x4] 0).run Try.prog w = .ok (.agg #[.int .i64 x0, .int .i64 x1]) w := by intro x0 x1 x2 x3 x4 w; simp [go_sem]
  have p2 : ∀ (x0 x1 x2 x3 : Int) (x4 : Bool) (w : World), (part 29 #[.int .i64 x0, .int .i64 x1, .int .i64 x2, .int .i64 x3, .bool x4] 2).run Try.prog w = .ok (.agg #[.int .i64 x2, .int .i64 x3]) w := by intro x0 x1 x2 x3 x4 w; simp [go_sem]
  have p3 : ∀ (x0 x1 x2 x3 : Int) (x4 : Bool) (w : World), (part 4 #[.int .i64 x0, .int .i64 x1, .int .i64 x2, .int .i64 x3, .bool x4] 4).run Try.prog w = .ok (.bool x4) w := by intro x0 x1 x2 x3 x4 w; simp [go_sem]
  rcases fs with _ | ⟨f1, _ | ⟨f2', _ | ⟨f3, _ | ⟨f4, fs⟩⟩⟩⟩
  · cases hf
  · simp at hf
  · simp at hf
  · simp only [List.map_cons, List.map_nil, List.cons.injEq, Prod.mk.injEq, and_true] at hf
    obtain ⟨⟨a1, a2', a3⟩, ⟨b1, b2', b3⟩, c1, c2', c3⟩ := hf
    unfold Op.eqFields Op.eqFields Op.eqFields Op.eqFields
    rw [a1, a2', a3, b1, b2', b3, c1, c2', c3]
    have r1 := fun w => ref_equal d a b a2 b2 w
    have r2 := fun w => ref_equal d c e c2 e2 w
    have r3 := fun w => run_equalIn_bool' w (P := Try.prog) (d + 1) 4 f f2 h4
    simp only [ne_eq, String.reduceEq, not_false_eq_true, if_true, Sem.run_bind, p1, p2, p3, Result.andThen_ok, r1, r2, r3]
    cases h1 : (a == a2 && b == b2) <;> cases h2 : (c == c2 && e == e2) <;> cases h3 : (f == f2) <;> simp [Sem.run_ite, p1, p2, p3, r1, r2, r3, h1, h2, h3, Sem.run_bind, Result.andThen_ok]
  · simp at hf
/-- A comparison in a region. -/
theorem quiet_bin {P : Program} {ops : Array Oper} {C : World → Prop} {Q : Act → Prop} {o : Oper} {rest : List Oper} {a : Act} (hw : Region.wanted o (yielded ops a.tmps) = true) (op : BinOp) (ty ty2 : TypeId) (x y : Operand) (ho : o.op = .binOp op ty x y ty2) (p q v : Value) (hx : a.eval x = p) (hy : a.eval y = q)
    (hl : ∀ w, C w → (do eqGuard op ty x y p q; binOp op ty p q : Sem Value).run P w = .ok v w) (h : wpQuiet P ops C Q rest (a.put o.dst v)) : wpQuiet P ops C Q (o :: rest) a := by
  unfold wpQuiet
  rw [if_pos hw]
  refine ⟨v, fun w hC => ?_, h⟩
  unfold Oper.quietAt execOp
  have := hl w hC
  simp only [Sem.run_bind] at this
  simp only [ho, hx, hy, Sem.run_bind, Sem.run_pure, this, Result.andThen_ok]
  exact ⟨rfl, rfl⟩
theorem refs_neq (x y : Operand) (x1 x2 y1 y2 : Int) (w : World) : (do eqGuard .neq 29 x y (.agg #[.int .i64 x1, .int .i64 x2]) (.agg #[.int .i64 y1, .int .i64 y2]); binOp .neq 29 (.agg #[.int .i64 x1, .int .i64 x2]) (.agg #[.int .i64 y1, .int .i64 y2]) : Sem Value).run Try.prog w = .ok (.bool (!(x1 == y1 && x2 == y2))) w := by
  have hg : Try.prog.eqGuardType Try.prog.depth 29 = false := by kernel_rfl
  rw [Sem.run_bind, run_eqGuard_agg w .neq 29 x y _ _ hg, Result.andThen_ok, run_neq_struct, ref_equal 9998]
  rfl
theorem refs_eql (x y : Operand) (x1 x2 y1 y2 : Int) (w : World) : (do eqGuard .eql 29 x y (.agg #[.int .i64 x1, .int .i64 x2]) (.agg #[.int .i64 y1, .int .i64 y2]); binOp .eql 29 (.agg #[.int .i64 x1, .int .i64 x2]) (.agg #[.int .i64 y1, .int .i64 y2]) : Sem Value).run Try.prog w = .ok (.bool (x1 == y1 && x2 == y2)) w := by
  have hg : Try.prog.eqGuardType Try.prog.depth 29 = false := by kernel_rfl
  rw [Sem.run_bind, run_eqGuard_agg w .eql 29 x y _ _ hg, Result.andThen_ok, run_eql_struct, ref_equal 9998]
  rfl
theorem refs_neq_is (x y : Operand) (x1 x2 y1 y2 : Int) (bb : Bool) (h : (!(x1 == y1 && x2 == y2)) = bb) (w : World) : (do eqGuard .neq 29 x y (.agg #[.int .i64 x1, .int .i64 x2]) (.agg #[.int .i64 y1, .int .i64 y2]); binOp .neq 29 (.agg #[.int .i64 x1, .int .i64 x2]) (.agg #[.int .i64 y1, .int .i64 y2]) : Sem Value).run Try.prog w = .ok (.bool bb) w := h ▸ refs_neq x y x1 x2 y1 y2 w
theorem uses_neq (x y : Operand) (a b c e a2 b2 c2 e2 : Int) (f f2 : Bool) (w : World) : (do eqGuard .neq 42 x y (.agg #[.int .i64 a, .int .i64 b, .int .i64 c, .int .i64 e, .bool f]) (.agg #[.int .i64 a2, .int .i64 b2, .int .i64 c2, .int .i64 e2, .bool f2]); binOp .neq 42 (.agg #[.int .i64 a, .int .i64 b, .int .i64 c, .int .i64 e, .bool f]) (.agg #[.int .i64 a2, .int .i64 b2, .int .i64 c2, .int .i64 e2, .bool f2]) : Sem Value).run Try.prog w =
    .ok (.bool (!((a == a2 && b == b2) && ((c == c2 && e == e2) && f == f2)))) w := by
  have hg : Try.prog.eqGuardType Try.prog.depth 42 = false := by kernel_rfl
  rw [Sem.run_bind, run_eqGuard_agg w .neq 42 x y _ _ hg, Result.andThen_ok, run_neq_struct, use_equal 9997]
  rfl
theorem uses_neq_is (x y : Operand) (a b c e a2 b2 c2 e2 : Int) (f f2 : Bool) (bb : Bool) (h : (!((a == a2 && b == b2) && ((c == c2 && e == e2) && f == f2))) = bb) (w : World) : (do eqGuard .neq 42 x y (.agg #[.int .i64 a, .int .i64 b, .int .i64 c, .int .i64 e, .bool f]) (.agg #[.int .i64 a2, .int .i64 b2, .int .i64 c2, .int .i64 e2, .bool f2]); binOp .neq 42 (.agg #[.int .i64 a, .int .i64 b, .int .i64 c, .int .i64 e, .bool f]) (.agg #[.int .i64 a2, .int .i64 b2, .int .i64 c2, .int .i64 e2, .bool f2]) : Sem Value).run Try.prog w =
    .ok (.bool bb) w := h ▸ uses_neq x y a b c e a2 b2 c2 e2 f f2 w
theorem rf_beq (x y : Pl.Rf) : (!(x.1 == y.1 && x.2 == y.2)) = !decide (x = y) := by
  congr 1
  rw [Bool.eq_iff_iff, Bool.and_eq_true, beq_iff_eq, beq_iff_eq, decide_eq_true_eq, Prod.ext_iff]
theorem us_beq (x y : Pl.Us) : (!((x.au == y.au && x.an == y.an) && ((x.du == y.du && x.dn == y.dn) && x.bound == y.bound))) = !decide (x = y) := by
  congr 1
  rw [Bool.eq_iff_iff]
  cases x; cases y
  simp only [Bool.and_eq_true, beq_iff_eq, decide_eq_true_eq, Pl.Us.mk.injEq]
  constructor
  · rintro ⟨⟨h1, h2⟩, ⟨h3, h4⟩, h5⟩; exact ⟨h1, h2, h3, h4, h5⟩
  · rintro ⟨h1, h2, h3, h4, h5⟩; exact ⟨⟨h1, h2⟩, ⟨h3, h4⟩, h5⟩
end Go.Proofs.Ytoelfiendfemaaa
