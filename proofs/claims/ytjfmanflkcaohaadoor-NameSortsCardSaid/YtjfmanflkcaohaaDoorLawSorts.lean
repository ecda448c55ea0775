/- The walk of the law on sorted lists. -/
import Derived.Test.YtjfmanflkcaohaaDoorSortsNone
import Derived.Test.YtjfmanflkcaohaaDoorSortsSome
namespace Go.Proofs.YtjfmanflkcaohaaDoor
open Go.RowKit
set_option linter.unusedVariables false
set_option linter.unusedSimpArgs false

set_option maxHeartbeats 800000 in
theorem lawSorts (v : Value) (xs : List ByteArray) (s t : ByteArray) (w : World) (hm : Mx w) (hs : s.size ≤ maxLen) (ht : t.size ≤ maxLen) (hv : Reads w v xs) :
    Calls Tryd.prog 8 #[v, .string s, .string t] w fun e w' => e = .returned (.bool true) ∧ Below w.heap.size w w' := by
  unfold maxLen at hs ht
  by_cases h : (s.size : Int) > 100
  · go_enter Tryd.func8, Tryd.ntmps8
    go_wp2_with fail
    refine (awake_any _ hm).mono ?_
    rintro e w' ⟨rfl, hb⟩
    go_wp2_with fail
    go_ret
    exact ⟨rfl, hb⟩
  · by_cases h2 : (t.size : Int) > 100
    · go_enter Tryd.func8, Tryd.ntmps8
      go_wp2_with fail
      refine (awake_any _ hm).mono ?_
      rintro e w' ⟨rfl, hb⟩
      go_wp2_with fail
      go_ret
      exact ⟨rfl, hb⟩
    · by_cases hsh : (xs.length : Int) ≤ 40 ∧ ∀ x ∈ xs, (x.size : Int) ≤ 100
      · have HSH := Lib.hid (short_yes v xs 40 100 (by decide) w hv hsh)
        have hl : xs.length ≤ 40 := by have := hsh.1; omega
        have hv2 := hv
        rcases hv with ⟨hx, a, c, rfl, _⟩ | ⟨b, o, c, rfl, h1, h2, _⟩
        · exact sorts_none a c xs s t w hm (by omega) (by omega) hx hv2 hl HSH
        · exact sorts_some b o c _ xs s t w hm (by omega) (by omega) rfl h1 h2 hv2 hl HSH
      · have HSH := Lib.hid (short_no v xs 40 100 (by decide) w hv hsh)
        clear hsh hv
        go_enter Tryd.func8, Tryd.ntmps8
        go_wp2_with fail
        refine HSH.out.mono ?_
        rintro e w' ⟨rfl, rfl⟩
        go_wp2_with fail
        refine (awake_any _ hm).mono ?_
        rintro e w' ⟨rfl, hb⟩
        go_wp2_with fail
        go_ret
        exact ⟨rfl, hb⟩
end Go.Proofs.YtjfmanflkcaohaaDoor
