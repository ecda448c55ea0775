/- The walk of the laws' sample. -/
import Derived.Test.YtidmbdilediplaaWalkRBuild
namespace Go.Proofs.Ytidmbdilediplaa
open Go.RowKit Go.Deep
set_option linter.unusedVariables false
set_option linter.unusedSimpArgs false

namespace Pl
/-- The laws' sample, and its parts. -/
def leaf1 : Tr := .node 17 ⟨#[49]⟩ [⟨#[]⟩] []
def leaf2 : Tr := .node 17 ⟨#[50]⟩ [⟨#[]⟩] []
def summ : Tr := .node 24 ⟨#[43]⟩ [⟨#[32]⟩] [leaf1, leaf2]
def samp : Tr := .node 26 ⟨#[]⟩ [⟨#[]⟩, ⟨#[32]⟩] [summ]
end Pl
theorem strs_one {P : Nat → Prop} {w : World} {b : Nat} {x : ByteArray} {T : TypeId} (h : w.heap[b]? = some (.cells #[.string x] T (0, 0))) (hx : x.size ≤ 1000) (hb : P b) : Strs P w (some ⟨b, 0, none⟩) [x] := by
  refine ⟨by simp [maxLen], fun y hy => ?_, .inr ⟨b, 0, rfl, hb, fun j y hy => ?_⟩⟩
  · obtain rfl : y = x := by simpa using hy
    unfold maxLen; omega
  · match j, hy with
    | 0, hy =>
      obtain rfl : x = y := by simpa using hy
      rw [cell_of_row _ _ _ _ _ _ h]; rfl
    | j + 1, hy => simp at hy
theorem strs_two {P : Nat → Prop} {w : World} {b : Nat} {x z : ByteArray} {T : TypeId} (h : w.heap[b]? = some (.cells #[.string x, .string z] T (0, 0))) (hx : x.size ≤ 1000) (hz : z.size ≤ 1000) (hb : P b) : Strs P w (some ⟨b, 0, none⟩) [x, z] := by
  refine ⟨by simp [maxLen], fun y hy => ?_, .inr ⟨b, 0, rfl, hb, fun j y hy => ?_⟩⟩
  · simp only [List.mem_cons, List.not_mem_nil, or_false] at hy
    unfold maxLen
    rcases hy with rfl | rfl <;> omega
  · match j, hy with
    | 0, hy =>
      obtain rfl : x = y := by simpa using hy
      rw [cell_of_row _ _ _ _ _ _ h]; rfl
    | 1, hy =>
      obtain rfl : z = y := by simpa using hy
      rw [cell_of_row _ _ _ _ _ _ h]; rfl
    | j + 2, hy => simp at hy
theorem at_new {w : World} {o : Obj} {k : Nat} (h : k = w.heap.size) : (w.alloc o).heap[k]? = some o := h ▸ heap_alloc_new w o
theorem ten_new {w W : World} {o0 o1 o2 o3 o4 o5 o6 o7 o8 o9 : Obj} (h : ((((((((((w.alloc o0).alloc o1).alloc o2).alloc o3).alloc o4).alloc o5).alloc o6).alloc o7).alloc o8).alloc o9) = W) :
    W.heap[w.heap.size + 1]? = some o1 ∧ W.heap[w.heap.size + 3]? = some o3 ∧ W.heap[w.heap.size + 5]? = some o5 ∧ W.heap[w.heap.size + 6]? = some o6 ∧ W.heap[w.heap.size + 8]? = some o8 ∧ W.heap[w.heap.size + 9]? = some o9 ∧ W.heap.size = w.heap.size + 10 ∧ Below w.heap.size w W := by
  subst h
  refine ⟨?_, ?_, ?_, ?_, ?_, ?_, by simp, ?_⟩
  iterate 6 (focus (iterate 10 (first | done | exact at_new (by simp; done) | refine (Below.heap_alloc _ _ _ (by simp <;> omega)).trans ?_)))
  exact ((((((((((Below.refl w.heap.size w).alloc (by simp) _).alloc (by simp) _).alloc (by simp <;> omega) _).alloc (by simp <;> omega) _).alloc (by simp <;> omega) _).alloc (by simp <;> omega) _).alloc (by simp <;> omega) _).alloc (by simp <;> omega) _).alloc (by simp <;> omega) _).alloc (by simp <;> omega) _
theorem at4_row {w : World} {b o : Nat} {cs : Array Value} {T : TypeId} {k : Int} {s : ByteArray} {gv kv : Value} (h : w.heap[b]? = some (.cells cs T (0, 0))) (h0 : cs[o]? = some (.int .i64 k)) (h1 : cs[o + 1]? = some (.string s)) (h2 : cs[o + 2]? = some gv) (h3 : cs[o + 3]? = some kv) : At4 w b o k s gv kv := by
  refine ⟨?_, ?_, ?_, ?_⟩
  · rw [cell_of_row _ _ _ _ _ _ h]; exact h0
  · rw [cell_of_row _ _ _ _ _ _ h]; exact h1
  · rw [cell_of_row _ _ _ _ _ _ h]; exact h2
  · rw [cell_of_row _ _ _ _ _ _ h]; exact h3
set_option maxHeartbeats 1600000 in
set_option maxRecDepth 100000 in
theorem sample_any (w1 : World) :
    Calls Try.prog 31 #[] w1 (CopyP Pl.samp w1) := by
  go_enter Try.func31, Try.ntmps31
  go_wp2_with fail
  refine bodyPost_ret (v := .agg #[.int .i64 26, .string ⟨#[]⟩, .slice (some ⟨w1.heap.size + 1 + 1 + 1 + 1 + 1 + 1 + 1 + 1, 0, none⟩) 2 2, .slice (some ⟨w1.heap.size + 1 + 1 + 1 + 1 + 1 + 1 + 1 + 1 + 1, 0, none⟩) 1 1]) (by
    simp [results, Try.results31, go_sem]) rfl ?_
  generalize hW : (World.alloc _ _) = W
  obtain ⟨a1, a3, a5, a6, a8, a9, hs, hb⟩ := ten_new hW
  clear hW
  have l1 : Tin (fun b => w1.heap.size ≤ b ∧ b < W.heap.size) W Pl.leaf1 ⟨some ⟨w1.heap.size + 1, 0, none⟩, 1, none, 0⟩ := .mk _ _ (fun _ => ⟨none, 0, none, 0⟩) (by decide) (strs_one a1 (by decide) (by omega)) (by decide) (.inl rfl) (fun j u hu => by cases hu)
  have l2 : Tin (fun b => w1.heap.size ≤ b ∧ b < W.heap.size) W Pl.leaf2 ⟨some ⟨w1.heap.size + 3, 0, none⟩, 1, none, 0⟩ := .mk _ _ (fun _ => ⟨none, 0, none, 0⟩) (by decide) (strs_one a3 (by decide) (by omega)) (by decide) (.inl rfl) (fun j u hu => by cases hu)
  have l3 : Tin (fun b => w1.heap.size ≤ b ∧ b < W.heap.size) W Pl.summ ⟨some ⟨w1.heap.size + 5, 0, none⟩, 1, some ⟨w1.heap.size + 6, 0, none⟩, 2⟩ := by
    refine .mk _ _ (fun j => if j = 0 then ⟨some ⟨w1.heap.size + 1, 0, none⟩, 1, none, 0⟩ else ⟨some ⟨w1.heap.size + 3, 0, none⟩, 1, none, 0⟩) (by decide) (strs_one a5 (by decide) (by omega)) (by decide) (.inr ⟨w1.heap.size + 6, 0, rfl, by omega, fun j u hu => ?_⟩) (fun j u hu => ?_)
    · match j, hu with
      | 0, hu => cases hu; exact at4_row a6 rfl rfl rfl rfl
      | 1, hu => cases hu; exact at4_row a6 rfl rfl rfl rfl
      | j + 2, hu => cases hu
    · match j, hu with
      | 0, hu => cases hu; exact l1
      | 1, hu => cases hu; exact l2
      | j + 2, hu => cases hu
  refine ⟨⟨some ⟨w1.heap.size + 8, 0, none⟩, 2, some ⟨w1.heap.size + 9, 0, none⟩, 1⟩, rfl, .mk _ _ (fun j => ⟨some ⟨w1.heap.size + 5, 0, none⟩, 1, some ⟨w1.heap.size + 6, 0, none⟩, 2⟩) (by decide) (strs_two a8 (by decide) (by decide) (by omega)) (by decide) (.inr ⟨w1.heap.size + 9, 0, rfl, by omega, fun j u hu => ?_⟩) (fun j u hu => ?_), hb⟩
  · match j, hu with
    | 0, hu => cases hu; exact at4_row a9 rfl rfl rfl rfl
    | j + 1, hu => cases hu
  · match j, hu with
    | 0, hu => cases hu; exact l3
    | j + 1, hu => cases hu
end Go.Proofs.Ytidmbdilediplaa
