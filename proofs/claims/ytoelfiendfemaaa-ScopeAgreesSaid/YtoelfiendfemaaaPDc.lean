/- The walks of the program's declared, nameOf and usedKind. -/
import Derived.Test.YtoelfiendfemaaaDecls
namespace Go.Proofs.Ytoelfiendfemaaa
open Go.RowKit Go.Deep
set_option linter.unusedVariables false
set_option linter.unusedSimpArgs false
set_option maxRecDepth 100000

/-- What declared answers: the kind and the owner. -/
def dkV (o : Option Pl.Dc) : Value := match o with | some d => .tuple #[.int .i64 d.kind, .string d.owner] | none => .tuple #[.int .i64 0, .string ⟨#[]⟩]
def DkP (o : Option Pl.Dc) (w : World) (e : Ending) (w' : World) : Prop := e = .returned (dkV o) ∧ Below w.heap.size w w'
abbrev rowA (p k : Int) (s : ByteArray) (gv kv : Value) : Value := .agg #[.int .i64 p, .int .i64 k, .string s, gv, kv]
set_option maxHeartbeats 1600000 in
theorem pd_m (p : Int) (cl : ByteArray) (gv kv : Value) (fn : ByteArray) (w : World) :
    Calls Try.prog 69 #[.int .i64 2, rowA p 7 cl gv kv, .string fn] w fun e w' => e = .returned (.tuple #[.int .i64 4, .string cl]) ∧ Below w.heap.size w w' := by
  go_enter Try.func69, Try.ntmps69
  go_wp2_with fail
  go_region
  all_goals go_wp2_with fail
  all_goals exact bodyPost_ret (v := .tuple #[.int .i64 4, .string cl]) (by simp [results, Try.results69, go_sem]) rfl ⟨rfl, by first | exact below_1 _ _ | exact (below_1 _ _).drew⟩
set_option maxHeartbeats 1600000 in
theorem pd_f (p pk : Int) (cl : ByteArray) (gv kv : Value) (fn : ByteArray) (w : World) (hpk : pk ≠ 7) :
    Calls Try.prog 69 #[.int .i64 2, rowA p pk cl gv kv, .string fn] w fun e w' => e = .returned (.tuple #[.int .i64 1, .string ⟨#[]⟩]) ∧ Below w.heap.size w w' := by
  have e7 := (int_no hpk).1
  clear hpk
  go_enter Try.func69, Try.ntmps69
  go_wp2_with fail
  exact bodyPost_ret (v := .tuple #[.int .i64 1, .string ⟨#[]⟩]) (by simp [results, Try.results69, go_sem]) rfl ⟨rfl, by first | exact below_1 _ _ | exact (below_1 _ _).drew⟩
set_option maxHeartbeats 1600000 in
theorem pd_c (p pk : Int) (cl : ByteArray) (gv kv : Value) (fn : ByteArray) (w : World) :
    Calls Try.prog 69 #[.int .i64 7, rowA p pk cl gv kv, .string fn] w fun e w' => e = .returned (.tuple #[.int .i64 2, .string ⟨#[]⟩]) ∧ Below w.heap.size w w' := by
  go_enter Try.func69, Try.ntmps69
  go_wp2_with fail
  exact bodyPost_ret (v := .tuple #[.int .i64 2, .string ⟨#[]⟩]) (by simp [results, Try.results69, go_sem]) rfl ⟨rfl, by first | exact below_1 _ _ | exact (below_1 _ _).drew⟩
set_option maxHeartbeats 1600000 in
theorem pd_k (p pk : Int) (cl : ByteArray) (gv kv : Value) (fn : ByteArray) (w : World) :
    Calls Try.prog 69 #[.int .i64 9, rowA p pk cl gv kv, .string fn] w fun e w' => e = .returned (.tuple #[.int .i64 3, .string ⟨#[]⟩]) ∧ Below w.heap.size w w' := by
  go_enter Try.func69, Try.ntmps69
  go_wp2_with fail
  exact bodyPost_ret (v := .tuple #[.int .i64 3, .string ⟨#[]⟩]) (by simp [results, Try.results69, go_sem]) rfl ⟨rfl, by first | exact below_1 _ _ | exact (below_1 _ _).drew⟩
set_option maxHeartbeats 1600000 in
theorem pd_p (p pk : Int) (cl : ByteArray) (gv kv : Value) (fn : ByteArray) (w : World) :
    Calls Try.prog 69 #[.int .i64 4, rowA p pk cl gv kv, .string fn] w fun e w' => e = .returned (.tuple #[.int .i64 5, .string fn]) ∧ Below w.heap.size w w' := by
  go_enter Try.func69, Try.ntmps69
  go_wp2_with fail
  exact bodyPost_ret (v := .tuple #[.int .i64 5, .string fn]) (by simp [results, Try.results69, go_sem]) rfl ⟨rfl, by first | exact below_1 _ _ | exact (below_1 _ _).drew⟩
set_option maxHeartbeats 1600000 in
theorem pd_l (p pk : Int) (cl : ByteArray) (gv kv : Value) (fn : ByteArray) (w : World) :
    Calls Try.prog 69 #[.int .i64 10, rowA p pk cl gv kv, .string fn] w fun e w' => e = .returned (.tuple #[.int .i64 6, .string fn]) ∧ Below w.heap.size w w' := by
  go_enter Try.func69, Try.ntmps69
  go_wp2_with fail
  exact bodyPost_ret (v := .tuple #[.int .i64 6, .string fn]) (by simp [results, Try.results69, go_sem]) rfl ⟨rfl, by first | exact below_1 _ _ | exact (below_1 _ _).drew⟩
set_option maxHeartbeats 1600000 in
theorem pd_o (k : Int) (h2 : k ≠ 2) (h7 : k ≠ 7) (h9 : k ≠ 9) (h4 : k ≠ 4) (h10 : k ≠ 10) (p pk : Int) (cl : ByteArray) (gv kv : Value) (fn : ByteArray) (w : World) :
    Calls Try.prog 69 #[.int .i64 k, rowA p pk cl gv kv, .string fn] w fun e w' => e = .returned (.tuple #[.int .i64 0, .string ⟨#[]⟩]) ∧ Below w.heap.size w w' := by
  have e2 := (int_no h2).1
  have e7 := (int_no h7).1
  have e9 := (int_no h9).1
  have e4 := (int_no h4).1
  have e10 := (int_no h10).1
  clear h2 h7 h9 h4 h10
  go_enter Try.func69, Try.ntmps69
  go_wp2_with fail
  exact bodyPost_ret (v := .tuple #[.int .i64 0, .string ⟨#[]⟩]) (by simp [results, Try.results69, go_sem]) rfl ⟨rfl, by first | exact below_1 _ _ | exact (below_1 _ _).drew⟩
theorem pdeclared_any (k p pk : Int) (cl : ByteArray) (gv kv : Value) (fn : ByteArray) (w : World) (s : ByteArray) (u i : Int) :
    Calls Try.prog 69 #[.int .i64 k, rowA p pk cl gv kv, .string fn] w (DkP (Pl.decl1 k s u i fn cl (decide (pk = 7))) w) := by
  unfold Pl.decl1
  by_cases h2 : k = 2
  · subst h2
    rw [if_pos rfl]
    by_cases h7 : pk = 7
    · subst h7; exact pd_m p cl gv kv fn w
    · rw [if_neg (by simpa using h7)]; exact pd_f p pk cl gv kv fn w h7
  rw [if_neg h2]
  by_cases h7 : k = 7
  · subst h7; rw [if_pos rfl]; exact pd_c p pk cl gv kv fn w
  rw [if_neg h7]
  by_cases h9 : k = 9
  · subst h9; rw [if_pos rfl]; exact pd_k p pk cl gv kv fn w
  rw [if_neg h9]
  by_cases h4 : k = 4
  · subst h4; rw [if_pos rfl]; exact pd_p p pk cl gv kv fn w
  rw [if_neg h4]
  by_cases h10 : k = 10
  · subst h10; rw [if_pos rfl]; exact pd_l p pk cl gv kv fn w
  rw [if_neg h10]
  exact pd_o k h2 h7 h9 h4 h10 p pk cl gv kv fn w
set_option maxHeartbeats 1600000 in
theorem pname_m (cl s : ByteArray) (w : World) (hcl : cl.size ≤ 1000000) (hs : s.size ≤ 1000000) :
    Calls Try.prog 70 #[.int .i64 4, .string cl, .string s] w fun e w' => e = .returned (.string (cl ++ Pl.dot ++ s)) ∧ w' = w := by
  have hd : Pl.dot.size = 1 := rfl
  have s1 := run_string_add_sum (P := Try.prog) (w := w) cl Pl.dot (by omega)
  have l1 : ¬ ((9223372036854775807 : Int) < (cl.size : Int) + 1) := by omega
  have l2 : ¬ ((9223372036854775807 : Int) < ((cl ++ Pl.dot).size : Int) + (s.size : Int)) := by rw [ByteArray.size_append, hd]; omega
  unfold Pl.dot at l2 ⊢
  go_enter Try.func70, Try.ntmps70
  go_wp2_with fail
  go_ret
  exact ⟨rfl, rfl⟩
set_option maxHeartbeats 1600000 in
theorem pname_f (k : Int) (hk : k ≠ 4) (cl s : ByteArray) (w : World) :
    Calls Try.prog 70 #[.int .i64 k, .string cl, .string s] w fun e w' => e = .returned (.string s) ∧ w' = w := by
  have e4 := (int_no hk).1
  clear hk
  go_enter Try.func70, Try.ntmps70
  go_wp2_with fail
  go_ret
  exact ⟨rfl, rfl⟩
/-- The name by which a function owns its variables. -/
theorem pname_any (m : Bool) (cl s fn : ByteArray) (w : World) (hcl : cl.size ≤ 1000000) (hs : s.size ≤ 1000000) :
    Calls Try.prog 70 #[.int .i64 (if m then 4 else 1), .string (if m then cl else ⟨#[]⟩), .string s] w fun e w' => e = .returned (.string (Pl.fn1 2 s fn cl m)) ∧ w' = w := by
  cases m
  · exact pname_f 1 (by decide) _ s w
  · exact pname_m cl s w hcl hs
/-- Which declarations of the whole project a node can name; 0 if it is no use. -/
def ukind (k : Int) (s : ByteArray) : Int := if Pl.space k s = 6 then 3 else Pl.space k s
set_option maxHeartbeats 1600000 in
theorem pused_any (k : Int) (s : ByteArray) (w : World) :
    Calls Try.prog 37 #[.int .i64 k, .string s] w fun e w' => e = .returned (.int .i64 (ukind k s)) ∧ w' = w := by
  obtain ⟨g, hg⟩ : ∃ g, g = ukind k s := ⟨_, rfl⟩
  rw [← hg]
  have HG := Lib.hid hg
  clear hg
  go_enter Try.func37, Try.ntmps37
  go_wp2
  all_goals go_ret
  all_goals refine ⟨ret_int ?_, rfl⟩
  all_goals rw [HG.out]
  all_goals unfold ukind Pl.space
  all_goals simp only [str_lit s Pl.sInt [105, 110, 116] rfl, str_lit s Pl.sBool [98, 111, 111, 108] rfl, str_lit s Pl.sNo [] rfl]
  all_goals clear HG
  all_goals simp only [beq_iff_eq, beq_eq_false_iff_ne, ne_eq, bne_iff_ne, bne_eq_false_iff_eq, Bool.not_eq_true', Bool.not_eq_false', List.isEmpty_iff] at *
  all_goals (simp_all <;> try omega)
end Go.Proofs.Ytoelfiendfemaaa
