/- The five tables, the library's errors, and a world for the witness. -/
import Derived.Test.YtiaajpdcacdngaaGreatDoorClose
import Derived.Test.YtiaajpdcacdngaaGreatDoorBClass
namespace Go.Proofs.YtiaajpdcacdngaaGreatDoor
open Go.ChangeShapes Go.WideShapes Go.ChangeAt Go.RowKit Go.Deep
set_option linter.unusedVariables false
set_option linter.constructorNameAsVariable false
set_option maxRecDepth 100000
set_option linter.unusedSimpArgs false

def cardLaid : List (String × DataW Unit) := [("math/bits.deBruijn32tab", Rows.laid_math_bits_deBruijn32tab), ("math/bits.deBruijn64tab", Rows.laid_math_bits_deBruijn64tab), ("internal/strconv.uint64pow10", Rows.laid_internal_strconv_uint64pow10), ("strconv.ErrRange", Rows.laid_strconv_ErrRange), ("strconv.ErrSyntax", Rows.laid_strconv_ErrSyntax), ("treemerge/grammar.groups", Rows.laid_treemerge_grammar_groups), ("treemerge/grammar.owns", Rows.laid_treemerge_grammar_owns), ("treemerge/grammar.least", Rows.laid_treemerge_grammar_least), ("treemerge/grammar.partsOfFunc", Rows.laid_treemerge_grammar_partsOfFunc), ("treemerge/grammar.texts", Rows.laid_treemerge_grammar_texts)]
theorem gSyn : Tryz.prog.globalNamed "strconv.ErrSyntax" = some 6 := by kernel_rfl
theorem gSynType : (Tryz.prog.globals[6]?).map (·.type) = some 70 := by kernel_rfl
theorem gRng : Tryz.prog.globalNamed "strconv.ErrRange" = some 7 := by kernel_rfl
theorem gRngType : (Tryz.prog.globals[7]?).map (·.type) = some 70 := by kernel_rfl
theorem cellsE : Tryz.prog.cellsOf 144 = 1 := by kernel_rfl
theorem starE : "*" ++ "errors.errorString" = "*errors.errorString" := by decide
theorem rowE (u : TypeId) (h : Tryz.prog.typeName? 3 u = some "*errors.errorString") : u = 142 :=
  typeName_ptr_named (nm := "errors.errorString") (by rw [starE]; kernel_rfl) (by kernel_rfl) (by decide) u (by rw [starE]; exact h)
theorem errs_of {W : World} (h : laidMetH Tryz.prog cardLaid W) : Tk.Errs W := by
  have h1 : laidMet Tryz.prog cardLaid W := h
  have h4 := h1.tail.tail.tail
  obtain ⟨a0, s0, hv0, _, _, _⟩ := laid_sentinel h4 gRng gRngType Tryz.underlying70 rowE Tryz.underlying142 Tryz.underlying144 rfl rfl Tryz.underlying9 cellsE cellsS
  obtain ⟨a1, s1, hv1, _, _, _⟩ := laid_sentinel h4.tail gSyn gSynType Tryz.underlying70 rowE Tryz.underlying142 Tryz.underlying144 rfl rfl Tryz.underlying9 cellsE cellsS
  exact ⟨⟨_, by have h0 := World.var?_cell gSyn hv1 0; simpa using h0, .inr ⟨_, _, rfl⟩⟩, ⟨_, by have h0 := World.var?_cell gRng hv0 0; simpa using h0, .inr ⟨_, _, rfl⟩⟩⟩

theorem tabs_of {W : World} (h : laidMetH Tryz.prog cardLaid W) : Tabs W := by
  have h0 : laidMet Tryz.prog cardLaid W := h
  have h1 := h0.tail.tail.tail.tail.tail
  exact ⟨tab_owns h1.tail, tab_partsOfFunc h1.tail.tail.tail, tab_groups h1, tab_least h1.tail.tail, tab_texts h1.tail.tail.tail.tail⟩
theorem both_of {W : World} (h : laidMetH Tryz.prog cardLaid W) : Tabs W ∧ Tk.Errs W := ⟨tabs_of h, errs_of h⟩

/- ### A world for the witness -/
/-- The cells of a table out of its datum. -/
def flat1 : DataW Unit → List Value
  | .lit (.int k n) => [.int k n]
  | _ => []
def flat2 : DataW Unit → List Value
  | .agg l => l.flatMap flat1
  | _ => []
def cellsLaid (l : List Value) : Obj → Obj
  | .cells _ t frozen => .cells l.toArray t frozen
  | o => o
def synS : ByteArray := ⟨#[105, 110, 118, 97, 108, 105, 100, 32, 115, 121, 110, 116, 97, 120]⟩
def rngS : ByteArray := ⟨#[118, 97, 108, 117, 101, 32, 111, 117, 116, 32, 111, 102, 32, 114, 97, 110, 103, 101]⟩
noncomputable def low : Nat := (World.holding Tryz.prog default ⟨#[], #[], []⟩).heap.size
/-- The settled world, the tables holding what their initialisers lay, the two errors pointing to two blocks more. -/
noncomputable def laidWorld (os : Os) : World :=
  { World.holding Tryz.prog os ⟨#[.cells #[.string synS] 144, .cells #[.string rngS] 144], #[], []⟩ with heap := ((((((((((World.holding Tryz.prog os ⟨#[.cells #[.string synS] 144, .cells #[.string rngS] 144], #[], []⟩).heap.modify 8 (cellsLaid (flat2 Rows.laid_internal_strconv_uint64pow10))).modify 9 (cellsLaid (flat2 Rows.laid_math_bits_deBruijn32tab))).modify 10 (cellsLaid (flat2 Rows.laid_math_bits_deBruijn64tab))).modify 6 (cellsLaid [.iface 142 (.pointer (some ⟨low, 0, none⟩))])).modify 7 (cellsLaid [.iface 142 (.pointer (some ⟨low + 1, 0, none⟩))])).modify 4 (cellsLaid (flat2 Rows.laid_treemerge_grammar_groups))).modify 3 (cellsLaid (flat2 Rows.laid_treemerge_grammar_owns))).modify 0 (cellsLaid (flat2 Rows.laid_treemerge_grammar_least))).modify 2 (cellsLaid (flat2 Rows.laid_treemerge_grammar_partsOfFunc))).modify 1 (cellsLaid (flat2 Rows.laid_treemerge_grammar_texts)) }

end Go.Proofs.YtiaajpdcacdngaaGreatDoor
