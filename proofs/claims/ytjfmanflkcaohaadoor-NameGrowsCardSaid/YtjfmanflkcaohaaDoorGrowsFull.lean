/- The walk of the law on names that grow: a name with no room. -/
import Derived.Test.YtjfmanflkcaohaaDoorGrows
namespace Go.Proofs.YtjfmanflkcaohaaDoor
open Go.RowKit
set_option linter.unusedVariables false
set_option linter.unusedSimpArgs false

set_option maxHeartbeats 1600000 in
theorem grows_full (s : ByteArray) (c : Nat) (w : World) (hm : Mx w) (hs : s.size ≤ 100) (hk : Pl.kw s = false) (hn : Pl.nm s = true) (h32 : 31 < s.size) :
    Calls Tryd.prog 9 #[.string s, .int .u8 c] w fun e w' => e = .returned (.bool true) ∧ Below w.heap.size w w' := by
  have hz : s.size ≤ maxLen := by unfold maxLen; omega
  have ht := one_size c
  have ht1 : (oneB c).size ≤ 1 := by omega
  have ht2 : 1 ≤ (oneB c).size := by omega
  have HZ := Lib.hid hz
  clear hz ht
  have HN := Lib.hid hn
  have HK := Lib.hid hk
  clear hk hn
  rcases classes c with ⟨k1, k2, k3, k4⟩ | ⟨k1, k2, k3, k4⟩ | ⟨k1, k2, k3, k4⟩ | ⟨k1, k2, k3, k4⟩ | ⟨k1, k2, k3, k4⟩ | ⟨k1, k2, k3, k4⟩ | ⟨k1, k2, k3, k4⟩ | ⟨k1, k2, k3, k4⟩ | ⟨k1, k2, k3, k4⟩
  all_goals
    have K4 := Lib.hid k4
    clear k4
    go_enter Tryd.func9, Tryd.ntmps9
    go_wp2_with fail
    refine (kw_is _ _ HK.out _).mono ?_
    rintro e w' ⟨rfl, rfl⟩
    have hcv := conv_new c w
    generalize oneB c = t at *
    go_wp2_with fail
    refine (valid_is _ _ HN.out _ HZ.out).mono ?_
    rintro e w2 ⟨rfl, hb2⟩
    have hb12 := ((Below.refl w.heap.size w).alloc (Nat.le_refl _) _).trans (hb2.mono (by simp))
    clear hb2 hcv
    go_wp2_with fail
    refine (awake_any _ (hm.later hb12)).mono ?_
    rintro e w9 ⟨rfl, hb9⟩
    go_wp2_with fail
    go_ret
    exact ⟨rfl, hb12.trans (hb9.mono hb12.size)⟩
end Go.Proofs.YtjfmanflkcaohaaDoor
