/- The walks of the reference's declaration and below. -/
import Derived.Test.YtoelfiendfemaaaTbJ
namespace Go.Proofs.Ytoelfiendfemaaa
open Go.RowKit Go.Deep
set_option linter.unusedVariables false
set_option linter.unusedSimpArgs false

theorem below_a {w w' : World} (h : Below w.heap.size w w') (o : Obj) : Below w.heap.size w (w'.alloc o) := h.alloc h.size _
theorem below_1 (w : World) (a : Obj) : Below w.heap.size w (w.alloc a) := below_a (Below.refl _ _) a
theorem below_2 (w : World) (a b : Obj) : Below w.heap.size w ((w.alloc a).alloc b) := below_a (below_1 w a) b
theorem below_3 (w : World) (a b c : Obj) : Below w.heap.size w (((w.alloc a).alloc b).alloc c) := below_a (below_2 w a b) c
theorem below_4 (w : World) (a b c d : Obj) : Below w.heap.size w ((((w.alloc a).alloc b).alloc c).alloc d) := below_a (below_3 w a b c) d
theorem below_5 (w : World) (a b c d e : Obj) : Below w.heap.size w (((((w.alloc a).alloc b).alloc c).alloc d).alloc e) := below_a (below_4 w a b c d) e
/-- The value of a declaration. -/
abbrev decV (d : Pl.Dc) : Value := .agg #[.int .i64 d.kind, .string d.owner, .string d.name, .int .i64 d.unit, .int .i64 d.node]
def declV : Option Pl.Dc → Value
  | some d => .tuple #[decV d, .bool true]
  | none => .tuple #[decV ⟨0, ⟨#[]⟩, ⟨#[]⟩, 0, 0⟩, .bool false]
def DeclP (o : Option Pl.Dc) (w : World) (e : Ending) (w' : World) : Prop := e = .returned (declV o) ∧ Below w.heap.size w w'
set_option maxHeartbeats 1600000 in
set_option maxRecDepth 100000 in
theorem decl_m (s : ByteArray) (gv kv : Value) (u i : Int) (fn cl : ByteArray) (m : Bool) (w : World) :
    Calls Try.prog 74 #[.agg #[.int .i64 2, .string s, gv, kv], .agg #[.int .i64 u, .int .i64 i], .agg #[.string fn, .string cl, .bool true]] w (DeclP (some ⟨4, cl, s, u, i⟩) w) := by
  go_enter Try.func74, Try.ntmps74
  go_wp2_with fail
  exact bodyPost_ret (v := .tuple #[.agg #[.int .i64 4, .string cl, .string s, .int .i64 u, .int .i64 i], .bool true]) (by simp [results, Try.results74, go_sem]) rfl ⟨rfl, by first | exact below_5 _ _ _ _ _ _ | exact below_4 _ _ _ _ _⟩
set_option maxHeartbeats 1600000 in
set_option maxRecDepth 100000 in
theorem decl_f (s : ByteArray) (gv kv : Value) (u i : Int) (fn cl : ByteArray) (m : Bool) (w : World) :
    Calls Try.prog 74 #[.agg #[.int .i64 2, .string s, gv, kv], .agg #[.int .i64 u, .int .i64 i], .agg #[.string fn, .string cl, .bool false]] w (DeclP (some ⟨1, Pl.sNo, s, u, i⟩) w) := by
  go_enter Try.func74, Try.ntmps74
  go_wp2_with fail
  exact bodyPost_ret (v := .tuple #[.agg #[.int .i64 1, .string ⟨#[]⟩, .string s, .int .i64 u, .int .i64 i], .bool true]) (by simp [results, Try.results74, go_sem]) rfl ⟨rfl, by first | exact below_5 _ _ _ _ _ _ | exact below_4 _ _ _ _ _⟩
set_option maxHeartbeats 1600000 in
set_option maxRecDepth 100000 in
theorem decl_c (s : ByteArray) (gv kv : Value) (u i : Int) (fn cl : ByteArray) (m : Bool) (w : World) :
    Calls Try.prog 74 #[.agg #[.int .i64 7, .string s, gv, kv], .agg #[.int .i64 u, .int .i64 i], .agg #[.string fn, .string cl, .bool m]] w (DeclP (some ⟨2, Pl.sNo, s, u, i⟩) w) := by
  go_enter Try.func74, Try.ntmps74
  go_wp2_with fail
  exact bodyPost_ret (v := .tuple #[.agg #[.int .i64 2, .string ⟨#[]⟩, .string s, .int .i64 u, .int .i64 i], .bool true]) (by simp [results, Try.results74, go_sem]) rfl ⟨rfl, by first | exact below_5 _ _ _ _ _ _ | exact below_4 _ _ _ _ _⟩
set_option maxHeartbeats 1600000 in
set_option maxRecDepth 100000 in
theorem decl_k (s : ByteArray) (gv kv : Value) (u i : Int) (fn cl : ByteArray) (m : Bool) (w : World) :
    Calls Try.prog 74 #[.agg #[.int .i64 9, .string s, gv, kv], .agg #[.int .i64 u, .int .i64 i], .agg #[.string fn, .string cl, .bool m]] w (DeclP (some ⟨3, Pl.sNo, s, u, i⟩) w) := by
  go_enter Try.func74, Try.ntmps74
  go_wp2_with fail
  exact bodyPost_ret (v := .tuple #[.agg #[.int .i64 3, .string ⟨#[]⟩, .string s, .int .i64 u, .int .i64 i], .bool true]) (by simp [results, Try.results74, go_sem]) rfl ⟨rfl, by first | exact below_5 _ _ _ _ _ _ | exact below_4 _ _ _ _ _⟩
set_option maxHeartbeats 1600000 in
set_option maxRecDepth 100000 in
theorem decl_p (s : ByteArray) (gv kv : Value) (u i : Int) (fn cl : ByteArray) (m : Bool) (w : World) :
    Calls Try.prog 74 #[.agg #[.int .i64 4, .string s, gv, kv], .agg #[.int .i64 u, .int .i64 i], .agg #[.string fn, .string cl, .bool m]] w (DeclP (some ⟨5, fn, s, u, i⟩) w) := by
  go_enter Try.func74, Try.ntmps74
  go_wp2_with fail
  exact bodyPost_ret (v := .tuple #[.agg #[.int .i64 5, .string fn, .string s, .int .i64 u, .int .i64 i], .bool true]) (by simp [results, Try.results74, go_sem]) rfl ⟨rfl, by first | exact below_5 _ _ _ _ _ _ | exact below_4 _ _ _ _ _⟩
set_option maxHeartbeats 1600000 in
set_option maxRecDepth 100000 in
theorem decl_l (s : ByteArray) (gv kv : Value) (u i : Int) (fn cl : ByteArray) (m : Bool) (w : World) :
    Calls Try.prog 74 #[.agg #[.int .i64 10, .string s, gv, kv], .agg #[.int .i64 u, .int .i64 i], .agg #[.string fn, .string cl, .bool m]] w (DeclP (some ⟨6, fn, s, u, i⟩) w) := by
  go_enter Try.func74, Try.ntmps74
  go_wp2_with fail
  exact bodyPost_ret (v := .tuple #[.agg #[.int .i64 6, .string fn, .string s, .int .i64 u, .int .i64 i], .bool true]) (by simp [results, Try.results74, go_sem]) rfl ⟨rfl, by first | exact below_5 _ _ _ _ _ _ | exact below_4 _ _ _ _ _⟩
set_option maxHeartbeats 1600000 in
set_option maxRecDepth 100000 in
theorem decl_o (k : Int) (h2 : k ≠ 2) (h7 : k ≠ 7) (h9 : k ≠ 9) (h4 : k ≠ 4) (h10 : k ≠ 10) (s : ByteArray) (gv kv : Value) (u i : Int) (fn cl : ByteArray) (m : Bool) (w : World) :
    Calls Try.prog 74 #[.agg #[.int .i64 k, .string s, gv, kv], .agg #[.int .i64 u, .int .i64 i], .agg #[.string fn, .string cl, .bool m]] w (DeclP (none) w) := by
  have e2 := (int_no h2).1
  have e7 := (int_no h7).1
  have e9 := (int_no h9).1
  have e4 := (int_no h4).1
  have e10 := (int_no h10).1
  clear h2 h7 h9 h4 h10
  go_enter Try.func74, Try.ntmps74
  go_wp2_with fail
  exact bodyPost_ret (v := .tuple #[.agg #[.int .i64 0, .string ⟨#[]⟩, .string ⟨#[]⟩, .int .i64 0, .int .i64 0], .bool false]) (by simp [results, Try.results74, go_sem]) rfl ⟨rfl, by first | exact below_5 _ _ _ _ _ _ | exact below_4 _ _ _ _ _⟩
theorem declaration_any (k : Int) (s : ByteArray) (gv kv : Value) (u i : Int) (fn cl : ByteArray) (m : Bool) (w : World) :
    Calls Try.prog 74 #[.agg #[.int .i64 k, .string s, gv, kv], .agg #[.int .i64 u, .int .i64 i], .agg #[.string fn, .string cl, .bool m]] w (DeclP (Pl.decl1 k s u i fn cl m) w) := by
  unfold Pl.decl1
  by_cases h2 : k = 2
  · subst h2
    rw [if_pos rfl]
    cases m
    · exact decl_f s gv kv u i fn cl true w
    · exact decl_m s gv kv u i fn cl true w
  rw [if_neg h2]
  by_cases h7 : k = 7
  · subst h7; rw [if_pos rfl]; exact decl_c s gv kv u i fn cl m w
  rw [if_neg h7]
  by_cases h9 : k = 9
  · subst h9; rw [if_pos rfl]; exact decl_k s gv kv u i fn cl m w
  rw [if_neg h9]
  by_cases h4 : k = 4
  · subst h4; rw [if_pos rfl]; exact decl_p s gv kv u i fn cl m w
  rw [if_neg h4]
  by_cases h10 : k = 10
  · subst h10; rw [if_pos rfl]; exact decl_l s gv kv u i fn cl m w
  rw [if_neg h10]
  exact decl_o k h2 h7 h9 h4 h10 s gv kv u i fn cl m w
/-- What is around a node. -/
abbrev arV (fn cl : ByteArray) (m : Bool) : Value := .agg #[.string fn, .string cl, .bool m]
set_option maxHeartbeats 1600000 in
theorem below_fn (s : ByteArray) (gv kv : Value) (fn cl : ByteArray) (m : Bool) (w : World) (hcl : cl.size ≤ 1000000) (hs : s.size ≤ 1000000) :
    Calls Try.prog 75 #[.agg #[.int .i64 2, .string s, gv, kv], arV fn cl m] w fun e w' => e = .returned (arV (if m then cl ++ Pl.dot ++ s else s) s false) ∧ Below w.heap.size w w' := by
  cases m
  · go_enter Try.func75, Try.ntmps75
    go_wp2_with fail
    exact bodyPost_ret (v := .agg #[.string s, .string s, .bool false]) (by simp [results, Try.results75, go_sem]) rfl ⟨rfl, by first | exact below_5 _ _ _ _ _ _ | exact below_4 _ _ _ _ _⟩
  · have hd : Pl.dot.size = 1 := rfl
    have s1 := run_string_add_sum (P := Try.prog) (w := (((w.alloc (.cells #[.int .i64 2, .string s, gv, kv] 54)).alloc (.cells #[.string fn, .string cl, .bool true] 100)).alloc (.cells #[.string ⟨#[]⟩, .string ⟨#[]⟩, .bool false] 100))) cl Pl.dot (by omega)
    have l1 : ¬ ((9223372036854775807 : Int) < (cl.size : Int) + 1) := by omega
    have l2 : ¬ ((9223372036854775807 : Int) < ((cl ++ Pl.dot).size : Int) + (s.size : Int)) := by rw [ByteArray.size_append, hd]; omega
    unfold Pl.dot at l2 ⊢
    go_enter Try.func75, Try.ntmps75
    go_wp2_with fail
    exact bodyPost_ret (v := .agg #[.string (cl ++ ⟨#[46]⟩ ++ s), .string s, .bool false]) (by simp [results, Try.results75, go_sem]) rfl ⟨rfl, by first | exact below_5 _ _ _ _ _ _ | exact below_4 _ _ _ _ _⟩
set_option maxHeartbeats 1600000 in
theorem below_no (k : Int) (h2 : k ≠ 2) (s : ByteArray) (gv kv : Value) (fn cl : ByteArray) (m : Bool) (w : World) :
    Calls Try.prog 75 #[.agg #[.int .i64 k, .string s, gv, kv], arV fn cl m] w fun e w' => e = .returned (arV fn s (k == 7)) ∧ Below w.heap.size w w' := by
  have e2 := (int_no h2).1
  clear h2
  go_enter Try.func75, Try.ntmps75
  go_wp2_with fail
  exact bodyPost_ret (v := .agg #[.string fn, .string s, .bool (k == 7)]) (by simp [results, Try.results75, go_sem]) rfl ⟨rfl, by first | exact below_5 _ _ _ _ _ _ | exact below_4 _ _ _ _ _⟩
theorem below_any (k : Int) (s : ByteArray) (gv kv : Value) (fn cl : ByteArray) (m : Bool) (w : World) (hcl : cl.size ≤ 1000000) (hs : s.size ≤ 1000000) :
    Calls Try.prog 75 #[.agg #[.int .i64 k, .string s, gv, kv], arV fn cl m] w fun e w' => e = .returned (arV (Pl.fn1 k s fn cl m) s (decide (k = 7))) ∧ Below w.heap.size w w' := by
  unfold Pl.fn1
  by_cases h2 : k = 2
  · subst h2
    rw [if_pos rfl]
    exact below_fn s gv kv fn cl m w hcl hs
  · rw [if_neg h2, show decide (k = 7) = (k == 7) from by rw [Bool.eq_iff_iff]; simp]
    exact below_no k h2 s gv kv fn cl m w
end Go.Proofs.Ytoelfiendfemaaa
