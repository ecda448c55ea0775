/- What the card's list of variables gives the walks: the table of digits lies in its block; a list of strings among the arguments. -/
import Derived.Test.YtkgflcfpmnlaeaaDoorLawsList
import Derived.Test.YtkgflcfpmnlaeaaDoorFrame
import Derived.Test.YtkgflcfpmnlaeaaDoorCards
import Derived.Test.YtkgflcfpmnlaeaaDoorTie
import Derived.Deep.DeepHandedRow
import Derived.Lib.LaidTab
import Derived.SliceStrings
namespace Go.Proofs.YtkgflcfpmnlaeaaDoor
open Go.ChangeShapes Go.WideShapes Go.ChangeAt Go.RowKit
set_option linter.unusedVariables false
set_option linter.unusedSimpArgs false

def cardLaid : List (String × DataW Unit) := [("treemerge/digest.digits", Rows.laid_treemerge_digest_digits)]
theorem gDig : Tryd.prog.globalNamed "treemerge/digest.digits" = some 0 := by kernel_rfl
theorem gDigType : (Tryd.prog.globals[0]?).map (·.type) = some 41 := by kernel_rfl
theorem cellsA : Tryd.prog.cellsOf 41 = 16 := by kernel_rfl
theorem cellsB : Tryd.prog.cellsOf 5 = 1 := by kernel_rfl
theorem cellsS : Tryd.prog.cellsOf 9 = 1 := by kernel_rfl

theorem table {W : World} (h : laidMetH Tryd.prog cardLaid W) : Lib.TabIs Tryd.prog W "treemerge/digest.digits" .u8 [48, 49, 50, 51, 52, 53, 54, 55, 56, 57, 97, 98, 99, 100, 101, 102] :=
  Lib.tabIs_of_head (rest := []) gDig gDigType Tryd.underlying41 Tryd.underlying5 cellsB cellsA h
theorem digs_of {W : World} (h : laidMetH Tryd.prog cardLaid W) : Digs W := by
  have ht := table h
  unfold Lib.TabIs World.var? at ht
  rw [gDig] at ht
  simp only [Option.bind_some] at ht
  split at ht
  · rename_i cs t fr he
    rw [Option.some.inj ht] at he
    exact ⟨t, fr, he⟩
  · cases ht

/-- A world for the witness: the settled one, the table holding what its initialiser lays. -/
noncomputable def laidWorld (os : Os) : World :=
  { World.holding Tryd.prog os ⟨#[], #[], []⟩ with heap := (World.holding Tryd.prog os ⟨#[], #[], []⟩).heap.modify 0 fun
      | .cells _ t frozen => .cells #[.int .u8 48, .int .u8 49, .int .u8 50, .int .u8 51, .int .u8 52, .int .u8 53, .int .u8 54, .int .u8 55, .int .u8 56, .int .u8 57, .int .u8 97, .int .u8 98, .int .u8 99, .int .u8 100, .int .u8 101, .int .u8 102] t frozen
      | o => o }

theorem nat_u64 {n : Int} (h : (Lit.int .u64 n).wf = true) : ∃ d : Nat, n = d ∧ d < 18446744073709551616 := by
  have h2 : 0 ≤ n ∧ n ≤ 18446744073709551615 := by simpa [Lit.wf, IntKind.min, IntKind.max, IntKind.signed, IntKind.bits] using h
  exact ⟨n.toNat, by omega, by omega⟩
theorem nat_u8 {n : Int} (h : (Lit.int .u8 n).wf = true) : ∃ d : Nat, n = d ∧ d < 256 := by
  have h2 : 0 ≤ n ∧ n ≤ 255 := by simpa [Lit.wf, IntKind.min, IntKind.max, IntKind.signed, IntKind.bits] using h
  exact ⟨n.toNat, by omega, by omega⟩

/-- A slice of strings, wherever it lies. -/
def SliceIn (w : World) (v : Value) (xs : List ByteArray) : Prop :=
  (xs = [] ∧ ∃ a c, v = .slice a 0 c) ∨
  ∃ b o c, v = .slice (some ⟨b, o, none⟩) xs.length c ∧ xs.length ≤ maxLen ∧ StrsAt w b o xs ∧ Fits xs

theorem open_list {H : Type} {enc : TypeId × Value → H} {W : World} {base : Nat} {v : Value} {d : DataW H} {p : List MemPlace} {sp : Nat → Bool} {hd : Bool} {hb : Nat}
    (hv : Value.okWide Tryd.prog W .any base 27 v) (h : DataW.Trod enc Tryd.prog W hb sp hd 27 v d p) : ∃ xs, SliceIn W v xs := by
  obtain ⟨a0, len, cap, rfl⟩ := okWide_slice Tryd.underlying27 hv
  obtain ⟨fuel, hf⟩ := h
  rcases open_strings Tryd.underlying27 Tryd.underlying9 cellsS hf with ⟨hcs, hx⟩ | ⟨a, len', cap', ss, hcs, hbl, hl, hm, hz, hx, hcell, hsz⟩
  · simp [Value.cells] at hcs
    obtain ⟨rfl, rfl, rfl⟩ := hcs
    exact ⟨[], .inl ⟨rfl, _, _, rfl⟩⟩
  · simp [Value.cells] at hcs
    obtain ⟨rfl, rfl, rfl⟩ := hcs
    have hle : len ≤ ss.length := by rw [hz]; split <;> omega
    have hxs : (ss.take len).length = len := by rw [List.length_take]; omega
    refine ⟨ss.take len, ?_⟩
    by_cases h0 : len = 0
    · subst h0
      exact .inl ⟨rfl, _, _, rfl⟩
    · have h1 := hcell 0 (by omega)
      have hspot : a.spot = none := by
        simp only [Addr.add, if_true, World.cell?] at h1
        cases hb : W.heap[a.block]? with
        | none => rw [hb] at h1; cases h1
        | some o =>
          rw [hb] at h1
          cases o <;> simp at h1
          cases hs : a.spot with
          | none => rfl
          | some k => rw [hs] at h1; simp at h1
      obtain ⟨b, o, sp⟩ := a
      obtain rfl := hspot
      refine .inr ⟨b, o, cap, by rw [hxs], by rw [hxs]; omega, fun j x hx => ?_, fun x hx => hsz x (List.mem_of_mem_take hx)⟩
      have hj : j < len := by have := (List.getElem?_eq_some_iff.1 hx).1; omega
      have h2 := hcell j (by omega)
      rw [List.getElem?_take, if_pos hj] at hx
      rw [List.getD_eq_getElem?_getD, hx] at h2
      have e : (⟨b, o, none⟩ : Addr).add j = ⟨b, o + j, none⟩ := by
        unfold Addr.add
        split
        · rename_i h; rw [h]; rfl
        · rfl
      rw [← e]; exact h2

theorem lawLists (v : Value) (xs : List ByteArray) (w : World) (hg : Digs w) (h : SliceIn w v xs) :
    Calls Tryd.prog 4 #[v] w fun e w' => e = .returned (.bool true) ∧ Below w.heap.size w w' := by
  rcases h with ⟨rfl, a, c, rfl⟩ | ⟨b, o, c, rfl, h1, h2, h3⟩
  · exact lawLists_none a c w hg
  · exact lawLists_some b o c _ xs w hg h2 h3 rfl h1
theorem lawExtends (v : Value) (xs : List ByteArray) (w : World) (hg : Digs w) (h : SliceIn w v xs) :
    Calls Tryd.prog 8 #[v] w fun e w' => e = .returned (.bool true) ∧ Below w.heap.size w w' := by
  rcases h with ⟨rfl, a, c, rfl⟩ | ⟨b, o, c, rfl, h1, h2, h3⟩
  · exact lawExtends_none a c w hg
  · exact lawExtends_some b o c _ xs w hg h2 h3 rfl h1
end Go.Proofs.YtkgflcfpmnlaeaaDoor
