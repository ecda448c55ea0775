/- The walk of the law on names that grow. -/
import Derived.Test.YtjfmanflkcaohaaDoorGrowsKw
import Derived.Test.YtjfmanflkcaohaaDoorGrowsBad
import Derived.Test.YtjfmanflkcaohaaDoorGrowsFull
import Derived.Test.YtjfmanflkcaohaaDoorGrowsWord
import Derived.Test.YtjfmanflkcaohaaDoorGrowsName
namespace Go.Proofs.YtjfmanflkcaohaaDoor
open Go.RowKit

theorem lawGrows (s : ByteArray) (c : Nat) (w : World) (hm : Mx w) (hs : s.size ≤ maxLen) (hc : c < 256) :
    Calls Tryd.prog 9 #[.string s, .int .u8 c] w fun e w' => e = .returned (.bool true) ∧ Below w.heap.size w w' := by
  by_cases h : 100 < s.size
  · exact grows_long s c w hm hs h
  · cases hk : Pl.kw s
    · cases hn : Pl.nm s
      · exact grows_bad s c w hm (by omega) hk hn
      · by_cases h32 : 31 < s.size
        · exact grows_full s c w hm (by omega) hk hn h32
        · cases hkm : Pl.kw (s ++ oneB c)
          · exact grows_name s c w hm (by omega) hc hk hn (by omega) hkm
          · exact grows_word s c w hm (by omega) hk hn (by omega) hkm
    · exact grows_kw s c w hm (by omega) hk
end Go.Proofs.YtjfmanflkcaohaaDoor
