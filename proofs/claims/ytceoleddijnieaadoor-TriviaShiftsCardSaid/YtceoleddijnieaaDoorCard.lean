/- What the closing texts share: a world for the witness, with the library's two tables laid. -/
import Derived.Test.YtceoleddijnieaaDoorFrame
import Derived.Test.YtceoleddijnieaaDoorCards
import Derived.Test.YtceoleddijnieaaDoorTie
import Derived.Deep.DeepHandedRow
import Derived.Clock
namespace Go.Proofs.YtceoleddijnieaaDoor
open Go.ChangeShapes Go.WideShapes Go.ChangeAt Go.RowKit
set_option linter.unusedVariables false
set_option linter.unusedSimpArgs false

/-- The cells of a table out of its datum. -/
def flat1 : DataW Unit → List Value
  | .lit (.int k n) => [.int k n]
  | _ => []
def flat2 : DataW Unit → List Value
  | .agg l => l.flatMap flat1
  | _ => []
def flat3 : DataW Unit → List Value
  | .agg l => l.flatMap flat2
  | _ => []
def cellsLaid (l : List Value) : Obj → Obj
  | .cells _ t frozen => .cells l.toArray t frozen
  | o => o
/-- A world for the witness: the settled one, the tables holding what their initialisers lay. -/
noncomputable def laidWorld (os : Os) : World :=
  { World.holding Tryd.prog os ⟨#[], #[], []⟩ with heap := ((World.holding Tryd.prog os ⟨#[], #[], []⟩).heap.modify 1 (cellsLaid (flat2 Rows.laid_unicode_utf8_first))).modify 2 (cellsLaid (flat3 Rows.laid_unicode_utf8_acceptRanges)) }
end Go.Proofs.YtceoleddijnieaaDoor
