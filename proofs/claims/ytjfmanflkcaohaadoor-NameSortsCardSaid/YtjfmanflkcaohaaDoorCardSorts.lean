/- The card's facts beside the walk of the law on sorted lists: its premises in the order of the parameters. -/
import Derived.Test.YtjfmanflkcaohaaDoorCard
import Derived.Test.YtjfmanflkcaohaaDoorLawSorts
namespace Go.Proofs.YtjfmanflkcaohaaDoor
open Go.RowKit
theorem lawSortsC (v : Value) (xs : List ByteArray) (s t : ByteArray) (w : World) (hm : Mx w) (hv : Reads w v xs) (hs : s.size ≤ maxLen) (ht : t.size ≤ maxLen) :
    Calls Tryd.prog 8 #[v, .string s, .string t] w fun e w' => e = .returned (.bool true) ∧ Below w.heap.size w w' := lawSorts v xs s t w hm hs ht hv
end Go.Proofs.YtjfmanflkcaohaaDoor
