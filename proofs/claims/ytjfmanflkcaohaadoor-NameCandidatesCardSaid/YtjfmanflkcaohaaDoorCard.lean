/- What the rows give the walks: some number in the library's variable for the greatest length; a list of strings among the arguments; a world for the witness, with the tables laid. -/
import Derived.Test.YtjfmanflkcaohaaDoorLaws
import Derived.Test.YtjfmanflkcaohaaDoorFrame
import Derived.Test.YtjfmanflkcaohaaDoorCards
import Derived.Test.YtjfmanflkcaohaaDoorTie
import Derived.Deep.DeepHandedRow
import Derived.SliceStrings
import Derived.Clock
namespace Go.Proofs.YtjfmanflkcaohaaDoor
open Go.ChangeShapes Go.WideShapes Go.ChangeAt Go.RowKit
set_option linter.unusedVariables false
set_option linter.unusedSimpArgs false

theorem cellsS : Tryd.prog.cellsOf 9 = 1 := by kernel_rfl
theorem mx_of {W : World} (h : W.ShapedOpen Tryd.prog) : Mx W := by
  obtain ⟨m, hm⟩ : ∃ m : Int, W.cell? ⟨0, 0, none⟩ = some (.int .i64 m) := Tryd.laysM146.s1_3 W h
  refine ⟨m, hm, ?_⟩
  by_cases hlt : 0 < W.heap.size
  · exact hlt
  · unfold World.cell? at hm
    rw [Array.getElem?_eq_none (by simp only; omega)] at hm
    simp at hm

/-- The cells of a table out of its datum. -/
def flat1 : DataW Unit → List Value
  | .lit (.int k n) => [.int k n]
  | _ => []
def flat2 : DataW Unit → List Value
  | .agg l => l.flatMap flat1
  | _ => []
def flat3 : DataW Unit → List Value
  | .agg l => l.flatMap flat2
  | _ => []
def cellsLaid (l : List Value) : Obj → Obj
  | .cells _ t frozen => .cells l.toArray t frozen
  | o => o
/-- A world for the witness: the settled one, the tables holding what their initialisers lay. -/
noncomputable def laidWorld (os : Os) : World :=
  { World.holding Tryd.prog os ⟨#[], #[], []⟩ with heap := (((((World.holding Tryd.prog os ⟨#[], #[], []⟩).heap.modify 1 (cellsLaid (flat2 Rows.laid_unicode_utf8_first))).modify 2 (cellsLaid (flat3 Rows.laid_unicode_utf8_acceptRanges))).modify 3 (cellsLaid (flat2 Rows.laid_internal_strconv_uint64pow10))).modify 4 (cellsLaid (flat2 Rows.laid_math_bits_deBruijn32tab))).modify 5 (cellsLaid (flat2 Rows.laid_math_bits_deBruijn64tab)) }

theorem nat_u8 {n : Int} (h : (Lit.int .u8 n).wf = true) : ∃ d : Nat, n = d ∧ d < 256 := by
  have h2 : 0 ≤ n ∧ n ≤ 255 := by simpa [Lit.wf, IntKind.min, IntKind.max, IntKind.signed, IntKind.bits] using h
  exact ⟨n.toNat, by omega, by omega⟩

theorem open_list {H : Type} {enc : TypeId × Value → H} {W : World} {base : Nat} {v : Value} {d : DataW H} {p : List MemPlace} {sp : Nat → Bool} {hd : Bool} {hb : Nat}
    (hv : Value.okWide Tryd.prog W .any base 24 v) (h : DataW.Trod enc Tryd.prog W hb sp hd 24 v d p) : ∃ xs, Reads W v xs := by
  obtain ⟨a0, len, cap, rfl⟩ := okWide_slice Tryd.underlying24 hv
  obtain ⟨fuel, hf⟩ := h
  rcases open_strings Tryd.underlying24 Tryd.underlying9 cellsS hf with ⟨hcs, hx⟩ | ⟨a, len', cap', ss, hcs, hbl, hl, hm, hz, hx, hcell, hsz⟩
  · simp [Value.cells] at hcs
    obtain ⟨rfl, rfl, rfl⟩ := hcs
    exact ⟨[], .inl ⟨rfl, _, _, rfl, fun _ => rfl⟩⟩
  · simp [Value.cells] at hcs
    obtain ⟨rfl, rfl, rfl⟩ := hcs
    have hle : len ≤ ss.length := by rw [hz]; split <;> omega
    have hxs : (ss.take len).length = len := by rw [List.length_take]; omega
    refine ⟨ss.take len, ?_⟩
    by_cases h0 : len = 0
    · subst h0
      exact .inl ⟨rfl, _, _, rfl, fun h => by cases h⟩
    · have h1 := hcell 0 (by omega)
      have hspot : a.spot = none := by
        simp only [Addr.add, if_true, World.cell?] at h1
        cases hb : W.heap[a.block]? with
        | none => rw [hb] at h1; cases h1
        | some o =>
          rw [hb] at h1
          cases o <;> simp at h1
          cases hs : a.spot with
          | none => rfl
          | some k => rw [hs] at h1; simp at h1
      have hbk : a.block < W.heap.size := by
        unfold World.cell? at h1
        have e0 : (a.add 0) = a := by simp [Addr.add]
        rw [e0] at h1
        by_cases hlt : a.block < W.heap.size
        · exact hlt
        · rw [Array.getElem?_eq_none (by omega)] at h1; simp at h1
      obtain ⟨b, o, sp⟩ := a
      obtain rfl := hspot
      refine .inr ⟨b, o, cap, by rw [hxs], hbk, fun j x hx => ?_, by rw [hxs]; omega⟩
      have hj : j < len := by have := (List.getElem?_eq_some_iff.1 hx).1; omega
      have h2 := hcell j (by omega)
      rw [List.getElem?_take, if_pos hj] at hx
      rw [List.getD_eq_getElem?_getD, hx] at h2
      rw [← add_at]; exact h2
end Go.Proofs.YtjfmanflkcaohaaDoor
