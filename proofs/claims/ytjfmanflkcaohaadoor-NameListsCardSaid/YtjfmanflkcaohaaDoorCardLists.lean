/- The card's facts beside the walk of the law on lists: its premises in the order of the parameters. -/
import Derived.Test.YtjfmanflkcaohaaDoorCard
namespace Go.Proofs.YtjfmanflkcaohaaDoor
open Go.RowKit
theorem lawListsC (v : Value) (xs : List ByteArray) (s : ByteArray) (w : World) (hm : Mx w) (hv : Reads w v xs) (hs : s.size ≤ maxLen) :
    Calls Tryd.prog 6 #[v, .string s] w fun e w' => e = .returned (.bool true) ∧ Below w.heap.size w w' := lawLists v xs s w hm hs hv
end Go.Proofs.YtjfmanflkcaohaaDoor
