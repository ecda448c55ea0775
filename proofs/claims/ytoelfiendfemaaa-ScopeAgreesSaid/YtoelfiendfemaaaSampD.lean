/- The laws' sample. -/
import Derived.Test.YtoelfiendfemaaaWalk
namespace Go.Proofs.Ytoelfiendfemaaa
open Go.RowKit Go.Deep
set_option linter.unusedVariables false
set_option linter.unusedSimpArgs false

namespace Pl
def s1 (c : UInt8) : ByteArray := ⟨#[c]⟩
def tInt : Tr := .node 5 sInt [] []
def tB : Tr := .node 19 (s1 98) [] []
def tD : Tr := .node 19 (s1 100) [] []
def tPar : Tr := .node 4 (s1 98) [] [tInt]
def tPars : Tr := .node 3 sNo [] [tPar]
def tLet : Tr := .node 10 (s1 99) [] [tB]
def tRet : Tr := .node 12 sNo [] [tD]
def tBody : Tr := .node 6 sNo [] [tLet, tRet]
def tFun : Tr := .node 2 (s1 102) [] [tPars, tInt, tBody]
def tFile : Tr := .node 1 sNo [] [tFun]
def smp : Un := ⟨s1 97, sNo, tFile, false⟩
end Pl
def nilSl : Sl := ⟨none, 0, none, 0⟩
theorem leaf_is (w : World) (k : Int) (s : ByteArray) (hs : s.size ≤ 1000) : IsT w (.node k s [] []) nilSl :=
  .mk _ _ (fun _ => nilSl) (by show s.size ≤ maxLen; unfold maxLen; omega) (strs_nil _ _ _) (Nat.zero_le _) (.inl rfl) (fun j t h => by cases j <;> cases h)
/-- A node whose kids lie in a block. -/
theorem node_is {w : World} {b : Nat} {T : TypeId} (k : Int) (s : ByteArray) (hs : s.size ≤ 1000) (L : List (Pl.Tr × Sl)) (hL : L.length ≤ 1000) (h : w.heap[b]? = some (.cells (row4 L).toArray T (0, 0))) (hk : ∀ x ∈ L, IsT w x.1 x.2) (n : Nat) (hn : n = L.length) (m : Nat) :
    IsT w (.node k s [] (L.map Prod.fst)) ⟨none, 0, some ⟨b, 0, none⟩, m⟩ := by
  have hb : b < w.heap.size := lt_blk h
  refine .mk _ _ (fun q => match L[q]? with | some x => x.2 | none => nilSl) (by show s.size ≤ maxLen; unfold maxLen; omega) (strs_nil _ _ _) (by show (L.map Prod.fst).length ≤ maxLen; rw [List.length_map]; unfold maxLen; omega) (.inr ⟨b, 0, rfl, hb, fun j t ht => ?_⟩) (fun j t ht => ?_)
  · rw [kids_node, List.getElem?_map] at ht
    obtain ⟨x, hx, rfl⟩ := Option.map_eq_some_iff.1 ht
    simp only [hx]
    have one : ∀ f, f < 4 → w.cell? ⟨b, 0 + j * 4 + f, none⟩ = (cells4 x)[f]? := by
      intro f hf
      rw [cell_of_row _ _ _ _ _ _ h, Nat.zero_add, ← row4_get L j x hx f hf]
      simp
    exact ⟨one 0 (by decide), one 1 (by decide), one 2 (by decide), one 3 (by decide)⟩
  · rw [kids_node, List.getElem?_map] at ht
    obtain ⟨x, hx, rfl⟩ := Option.map_eq_some_iff.1 ht
    simp only [hx]
    exact hk x (List.mem_of_getElem? hx)
theorem leafL_any (k : Int) (s : ByteArray) (w : World) :
    Calls Try.prog 54 #[.int .i64 k, .string s] w fun e w' => e = .returned (.agg #[.int .i64 k, .string s, .slice none 0 0, .slice none 0 0]) ∧ Below w.heap.size w w' := by
  go_enter Try.func54, Try.ntmps54
  go_wp2_with fail
  exact bodyPost_ret (v := .agg #[.int .i64 k, .string s, .slice none 0 0, .slice none 0 0]) (by simp [results, Try.results54, go_sem]) rfl ⟨rfl, (Below.refl _ _).alloc (Nat.le_refl _) _⟩
/-- The sample as it is made. -/
def SampP (w : World) (e : Ending) (w' : World) : Prop := ∃ (b : Nat) (R : Nat → Sl), e = .returned (.slice (some ⟨b, 0, none⟩) 1 1) ∧ w'.heap[b]? = some (.cells (cells7 Pl.smp (R 0)).toArray 56 (0, 0)) ∧ IsT w' Pl.tFile (R 0) ∧ Below w.heap.size w w'
end Go.Proofs.Ytoelfiendfemaaa
