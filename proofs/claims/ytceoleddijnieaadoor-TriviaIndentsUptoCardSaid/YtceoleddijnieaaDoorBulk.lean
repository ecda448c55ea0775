/- What the bound of the second form gives: my own few lines. -/
import Derived.Test.YtceoleddijnieaaDoorRows
namespace Go.Proofs.YtceoleddijnieaaDoor.bulks
set_option linter.unusedVariables false

theorem bound {H : Type} {l : List (DataW H)} (hk : Rows.uptoSmall H l = true) : Rows.uptoBulkAll l ≤ 1048576 := of_decide_eq_true hk
theorem string_eq {H : Type} (bytes : List UInt8) : Rows.uptoBulk (DataW.lit (H := H) (.string bytes)) = bytes.length + 1 := by simp [Rows.uptoBulk]
theorem number_eq {H : Type} (k : IntKind) (n : Int) : Rows.uptoBulk (DataW.lit (H := H) (.int k n)) = 1 := by simp [Rows.uptoBulk]
theorem bool_eq {H : Type} (b : Bool) : Rows.uptoBulk (DataW.lit (H := H) (.bool b)) = 1 := by simp [Rows.uptoBulk]
end Go.Proofs.YtceoleddijnieaaDoor.bulks
