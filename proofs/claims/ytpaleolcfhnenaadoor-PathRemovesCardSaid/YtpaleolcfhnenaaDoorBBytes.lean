/- The walks of name's and trivia's functions and of their references. -/
import Derived.Test.YtpaleolcfhnenaaDoorRows
import Derived.Test.YtpaleolcfhnenaaDoorBPlain
import Derived.Test.YtpaleolcfhnenaaDoorShelf
import Derived.WalkKit
import Derived.WalkSpells
import Derived.WalkLawsBesides
import Derived.Outline
import Derived.Lib.Hide
namespace Go.Proofs.YtpaleolcfhnenaaDoor
open Go.RowKit
set_option linter.unusedVariables false
set_option linter.unusedSimpArgs false

theorem ret_bool {a b : Bool} (h : a = b) : Ending.returned (.bool a) = .returned (.bool b) := by rw [h]
theorem ret_int {k : IntKind} {a b : Int} (h : a = b) : Ending.returned (.int k a) = .returned (.int k b) := by rw [h]
theorem ret_str {a b : ByteArray} (h : a = b) : Ending.returned (.string a) = .returned (.string b) := by rw [h]

theorem digit_any (c : Nat) (w : World) :
    Calls Tryd.prog 106 #[.int .i32 c] w fun e w' => e = .returned (.bool (Pl.dg c)) ∧ w = w' := by
  go_enter Tryd.func106, Tryd.ntmps106
  go_wp2
  · go_ret
    exact ⟨ret_bool (by unfold Pl.dg; rw [Bool.eq_iff_iff]; simp; omega), rfl⟩
  · go_ret
    exact ⟨ret_bool (by unfold Pl.dg; rw [Bool.eq_iff_iff]; simp; omega), rfl⟩
theorem rdigit_any (c : Nat) (w : World) :
    Calls Tryd.prog 82 #[.int .u8 c] w fun e w' => e = .returned (.bool (Pl.dg c)) ∧ w = w' := by
  go_enter Tryd.func82, Tryd.ntmps82
  go_wp2
  · go_ret
    exact ⟨ret_bool (by unfold Pl.dg; rw [Bool.eq_iff_iff]; simp; omega), rfl⟩
  · go_ret
    exact ⟨ret_bool (by unfold Pl.dg; rw [Bool.eq_iff_iff]; simp; omega), rfl⟩
theorem word_any (c : Nat) (w : World) :
    Calls Tryd.prog 105 #[.int .i32 c] w fun e w' => e = .returned (.bool (Pl.wd c)) ∧ w = w' := by
  go_enter Tryd.func105, Tryd.ntmps105
  go_wp2_with (go_at_call 106; refine (digit_any _ _).mono ?_; rintro e w' ⟨rfl, rfl⟩)
  all_goals go_ret
  all_goals refine ⟨ret_bool ?_, rfl⟩
  all_goals first
    | (have hd : Pl.dg c = true := by assumption
       simp [Pl.wd, hd])
    | (have hd : ¬ Pl.dg c = true := by assumption
       simp only [Bool.not_eq_true] at hd
       rw [Bool.eq_iff_iff]; simp [Pl.wd, Pl.lt, hd]; omega)
    | (rw [Bool.eq_iff_iff]; simp [Pl.wd, Pl.lt]; omega)
theorem rletter_any (c : Nat) (w : World) :
    Calls Tryd.prog 84 #[.int .u8 c] w fun e w' => e = .returned (.bool (Pl.lt c)) ∧ w = w' := by
  go_enter Tryd.func84, Tryd.ntmps84
  go_wp2
  all_goals go_ret
  all_goals refine ⟨ret_bool ?_, rfl⟩
  all_goals (rw [Bool.eq_iff_iff]; simp [Pl.lt]; omega)

set_option maxHeartbeats 1000000 in
theorem kw_yes (s : ByteArray) (w : World) (h : Pl.kw s = true) :
    Calls Tryd.prog 104 #[.string s] w fun e w' => e = .returned (.bool true) ∧ w = w' := by
  rcases Pl.kw_yes s h with rfl | rfl | rfl | rfl | rfl | rfl | rfl | rfl | rfl | rfl | rfl | rfl
  all_goals clear h
  all_goals
    go_enter Tryd.func104, Tryd.ntmps104
    go_wp2
    go_ret
    exact ⟨rfl, rfl⟩
set_option maxHeartbeats 1000000 in
theorem kw_no (s : ByteArray) (w : World) (h : Pl.kw s = false) :
    Calls Tryd.prog 104 #[.string s] w fun e w' => e = .returned (.bool false) ∧ w = w' := by
  obtain ⟨h1, h2, h3, h4, h5, h6, h7, h8, h9, h10, h11, h12⟩ := Pl.kw_no s h
  clear h
  go_enter Tryd.func104, Tryd.ntmps104
  go_wp2
  go_ret
  exact ⟨rfl, rfl⟩
theorem kw_any (s : ByteArray) (w : World) :
    Calls Tryd.prog 104 #[.string s] w fun e w' => e = .returned (.bool (Pl.kw s)) ∧ w = w' := by
  cases h : Pl.kw s
  · exact kw_no s w h
  · exact kw_yes s w h
set_option maxHeartbeats 1000000 in
theorem rkw_yes (s : ByteArray) (w : World) (h : Pl.kw s = true) :
    Calls Tryd.prog 83 #[.string s] w fun e w' => e = .returned (.bool true) ∧ w = w' := by
  rcases Pl.kw_yes s h with rfl | rfl | rfl | rfl | rfl | rfl | rfl | rfl | rfl | rfl | rfl | rfl
  all_goals clear h
  all_goals
    go_enter Tryd.func83, Tryd.ntmps83
    go_wp2
    go_ret
    exact ⟨rfl, rfl⟩
set_option maxHeartbeats 1000000 in
theorem rkw_no (s : ByteArray) (w : World) (h : Pl.kw s = false) :
    Calls Tryd.prog 83 #[.string s] w fun e w' => e = .returned (.bool false) ∧ w = w' := by
  obtain ⟨h1, h2, h3, h4, h5, h6, h7, h8, h9, h10, h11, h12⟩ := Pl.kw_no s h
  clear h
  go_enter Tryd.func83, Tryd.ntmps83
  go_wp2
  go_ret
  exact ⟨rfl, rfl⟩
theorem rkw_any (s : ByteArray) (w : World) :
    Calls Tryd.prog 83 #[.string s] w fun e w' => e = .returned (.bool (Pl.kw s)) ∧ w = w' := by
  cases h : Pl.kw s
  · exact rkw_no s w h
  · exact rkw_yes s w h
end Go.Proofs.YtpaleolcfhnenaaDoor

namespace Go.Proofs.YtpaleolcfhnenaaDoor
open Go.RowKit
set_option linter.unusedVariables false
set_option linter.unusedSimpArgs false

theorem word_is (c : Nat) (b : Bool) (h : Pl.wd c = b) (w : World) :
    Calls Tryd.prog 105 #[.int .i32 c] w fun e w' => e = .returned (.bool b) ∧ w = w' := h ▸ word_any c w
theorem digit_is (c : Nat) (b : Bool) (h : Pl.dg c = b) (w : World) :
    Calls Tryd.prog 106 #[.int .i32 c] w fun e w' => e = .returned (.bool b) ∧ w = w' := h ▸ digit_any c w
theorem kw_is (s : ByteArray) (b : Bool) (h : Pl.kw s = b) (w : World) :
    Calls Tryd.prog 104 #[.string s] w fun e w' => e = .returned (.bool b) ∧ w = w' := h ▸ kw_any s w

theorem valid_zero (w : World) :
    Calls Tryd.prog 98 #[.string ⟨#[]⟩] w fun e w' => e = .returned (.bool false) ∧ Below w.heap.size w w' := by
  go_enter Tryd.func98, Tryd.ntmps98
  go_wp2_with fail
  go_ret
  exact ⟨rfl, Below.refl _ _⟩
theorem valid_long (s : ByteArray) (w : World) (hs : s.size ≤ maxLen) (h : 32 < s.size) :
    Calls Tryd.prog 98 #[.string s] w fun e w' => e = .returned (.bool false) ∧ Below w.heap.size w w' := by
  unfold maxLen at hs
  obtain ⟨h1, h2, h3⟩ := Pl.not_empty s (by omega)
  go_enter Tryd.func98, Tryd.ntmps98
  go_wp2_with fail
  go_ret
  exact ⟨rfl, Below.refl _ _⟩
theorem valid_kw (s : ByteArray) (w : World) (hs : s.size ≤ 32) (h : 1 ≤ s.size) (hk : Pl.kw s = true) :
    Calls Tryd.prog 98 #[.string s] w fun e w' => e = .returned (.bool false) ∧ Below w.heap.size w w' := by
  obtain ⟨h1, h2, h3⟩ := Pl.not_empty s (by omega)
  have HK := Lib.hid hk
  clear hk
  go_enter Tryd.func98, Tryd.ntmps98
  go_wp2_with (go_at_call 104; refine (kw_is _ _ HK.out _).mono ?_; rintro e w' ⟨rfl, rfl⟩)
  go_ret
  exact ⟨rfl, Below.refl _ _⟩
theorem valid_dg (s : ByteArray) (w : World) (hs : s.size ≤ 32) (h : 1 ≤ s.size) (hk : Pl.kw s = false) :
    Calls Tryd.prog 98 #[.string s] w fun e w' => e = .returned (.bool (Pl.nm s)) ∧ Below w.heap.size w w' := by
  obtain ⟨h1, h2, h3⟩ := Pl.not_empty s (by omega)
  have HK := Lib.hid hk
  clear hk
  go_enter Tryd.func98, Tryd.ntmps98
  go_wp2_with (go_at_call 104; refine (kw_is _ _ HK.out _).mono ?_; rintro e w' ⟨rfl, rfl⟩)
  go_loopw [] (fun w' => ∃ pos, w' = w.iter s pos ∧ pos ≤ s.size ∧ Pl.Wds s pos ∧ (0 < pos → Pl.dg s[0].toNat = false)) (fun w' => s.size - w'.iterPos w.heap.size)
  case atStart => exact ⟨0, rfl, Nat.zero_le _, fun k hk h => absurd h (Nat.not_lt_zero _), fun h => absurd h (Nat.lt_irrefl _)⟩
  case round =>
    obtain ⟨pos, rfl, hps, hwd, hdg⟩ := hrel
    have HW := Lib.hid hwd
    have HD := Lib.hid hdg
    clear hwd hdg
    by_cases hp : pos < s.size
    · obtain ⟨c, n, hd, hr⟩ := Pl.rune_step s pos hp
      have hnx : ∀ ty, (Instr.next (.pointer (some ⟨w.heap.size, 0, none⟩)) true ty).run Tryd.prog (w.iter s pos) = .ok (.tuple #[.bool true, .int .i64 pos, .int .i32 c]) (w.iter s (pos + n)) := fun ty => by rw [run_next_any w s pos ty hp, hd]
      clear hd
      cases hw : Pl.wd c
      · have HN := Lib.hid (Pl.nm_wd s pos hp (Pl.rune_no s pos hp c n hr hw))
        have HC := Lib.hid hw
        clear hw
        go_wp2_with (go_at_call 105; refine (word_is _ _ HC.out _).mono ?_; rintro e w' ⟨rfl, rfl⟩)
        go_ret
        exact ⟨ret_bool HN.out.symm, (Below.refl _ _).alloc (Nat.le_refl _) _⟩
      · obtain ⟨hn, hc⟩ := Pl.rune_wd s pos hp c n hr hw
        have HS := Lib.hid (Pl.wds_step s pos hp HW.out (by rw [← hc]; exact hw))
        subst hn
        have HC := Lib.hid hw
        have HE := Lib.hid hc
        clear hw hc
        by_cases h0 : pos = 0
        · have H0 := Lib.hid h0
          have hb0 : ((pos : Int) == 0) = true := by simp [h0]
          cases hdd : Pl.dg c
          · have HX : Hid (Pl.dg s[0].toNat = false) := Lib.hid (by
              have e := HE.out
              subst h0
              rw [← e]; exact hdd)
            have HG := Lib.hid hdd
            clear hdd h0
            go_wp2_with (first | (go_at_call 105; refine (word_is _ _ HC.out _).mono ?_; rintro e w' ⟨rfl, rfl⟩) | (go_at_call 106; refine (digit_is _ _ HG.out _).mono ?_; rintro e w' ⟨rfl, rfl⟩))
            exact ⟨⟨pos + 1, rfl, by omega, HS.out, fun _ => HX.out⟩, by simp; omega⟩
          · have HX : Hid (Pl.dg s[0].toNat = true) := Lib.hid (by
              have e := HE.out
              subst h0
              rw [← e]; exact hdd)
            have HG := Lib.hid hdd
            clear hdd h0
            go_wp2_with (first | (go_at_call 105; refine (word_is _ _ HC.out _).mono ?_; rintro e w' ⟨rfl, rfl⟩) | (go_at_call 106; refine (digit_is _ _ HG.out _).mono ?_; rintro e w' ⟨rfl, rfl⟩))
            go_ret
            exact ⟨ret_bool (Pl.nm_dg s (by omega) HX.out).symm, (Below.refl _ _).alloc (Nat.le_refl _) _⟩
        · have hb0 : ((pos : Int) == 0) = false := by simp; omega
          have HX := Lib.hid (HD.out (by omega))
          go_wp2_with (go_at_call 105; refine (word_is _ _ HC.out _).mono ?_; rintro e w' ⟨rfl, rfl⟩)
          exact ⟨⟨pos + 1, rfl, by omega, HS.out, fun _ => HX.out⟩, by simp; omega⟩
    · have hnx : ∀ ty, (Instr.next (.pointer (some ⟨w.heap.size, 0, none⟩)) true ty).run Tryd.prog (w.iter s pos) = _ := fun ty => run_next_end w s pos ty hp
      obtain rfl : pos = s.size := by omega
      have HN := Lib.hid (Pl.nm_yes s h hs HK.out (HD.out (by omega)) HW.out)
      go_wp2
      go_ret
      exact ⟨ret_bool HN.out.symm, (Below.refl _ _).alloc (Nat.le_refl _) _⟩

theorem valid_any (s : ByteArray) (w : World) (hs : s.size ≤ maxLen) :
    Calls Tryd.prog 98 #[.string s] w fun e w' => e = .returned (.bool (Pl.nm s)) ∧ Below w.heap.size w w' := by
  by_cases h0 : s.size = 0
  · rw [Pl.nm_zero s h0]
    obtain rfl := Pl.size_zero s h0
    exact valid_zero w
  · by_cases h1 : 32 < s.size
    · rw [Pl.nm_long s h1]
      exact valid_long s w hs h1
    · cases hk : Pl.kw s
      · exact valid_dg s w (by omega) (by omega) hk
      · rw [Pl.nm_kw s hk]
        exact valid_kw s w (by omega) (by omega) hk
theorem valid_is (s : ByteArray) (b : Bool) (h : Pl.nm s = b) (w : World) (hs : s.size ≤ maxLen) :
    Calls Tryd.prog 98 #[.string s] w fun e w' => e = .returned (.bool b) ∧ Below w.heap.size w w' := h ▸ valid_any s w hs
end Go.Proofs.YtpaleolcfhnenaaDoor

namespace Go.Proofs.YtpaleolcfhnenaaDoor
open Go.RowKit
set_option linter.unusedVariables false
set_option linter.unusedSimpArgs false

theorem rletter_is (c : Nat) (b : Bool) (h : Pl.lt c = b) (w : World) :
    Calls Tryd.prog 84 #[.int .u8 c] w fun e w' => e = .returned (.bool b) ∧ w = w' := h ▸ rletter_any c w
theorem rdigit_is (c : Nat) (b : Bool) (h : Pl.dg c = b) (w : World) :
    Calls Tryd.prog 82 #[.int .u8 c] w fun e w' => e = .returned (.bool b) ∧ w = w' := h ▸ rdigit_any c w
theorem rkw_is (s : ByteArray) (b : Bool) (h : Pl.kw s = b) (w : World) :
    Calls Tryd.prog 83 #[.string s] w fun e w' => e = .returned (.bool b) ∧ w = w' := h ▸ rkw_any s w

theorem rvalid_zero (w : World) :
    Calls Tryd.prog 71 #[.string ⟨#[]⟩] w fun e w' => e = .returned (.bool false) ∧ w = w' := by
  go_enter Tryd.func71, Tryd.ntmps71
  go_wp2_with fail
  go_ret
  exact ⟨rfl, rfl⟩
theorem rvalid_long (s : ByteArray) (w : World) (hs : s.size ≤ maxLen) (h : 32 < s.size) :
    Calls Tryd.prog 71 #[.string s] w fun e w' => e = .returned (.bool false) ∧ w = w' := by
  unfold maxLen at hs
  go_enter Tryd.func71, Tryd.ntmps71
  go_wp2_with fail
  go_ret
  exact ⟨rfl, rfl⟩
theorem rvalid_dg (s : ByteArray) (w : World) (hs : s.size ≤ 32) (h : 1 ≤ s.size) (hd : Pl.dg s[0].toNat = true) :
    Calls Tryd.prog 71 #[.string s] w fun e w' => e = .returned (.bool false) ∧ w = w' := by
  have HD := Lib.hid hd
  clear hd
  go_enter Tryd.func71, Tryd.ntmps71
  go_wp2_with (go_at_call 82; refine (rdigit_is _ _ HD.out _).mono ?_; rintro e w' ⟨rfl, rfl⟩)
  go_ret
  exact ⟨rfl, rfl⟩
theorem rvalid_kw (s : ByteArray) (w : World) (hs : s.size ≤ 32) (h : 1 ≤ s.size) (hd : Pl.dg s[0].toNat = false) (hk : Pl.kw s = true) :
    Calls Tryd.prog 71 #[.string s] w fun e w' => e = .returned (.bool false) ∧ w = w' := by
  have HD := Lib.hid hd
  have HK := Lib.hid hk
  clear hd hk
  go_enter Tryd.func71, Tryd.ntmps71
  go_wp2_with (first | (go_at_call 82; refine (rdigit_is _ _ HD.out _).mono ?_; rintro e w' ⟨rfl, rfl⟩) | (go_at_call 83; refine (rkw_is _ _ HK.out _).mono ?_; rintro e w' ⟨rfl, rfl⟩))
  go_ret
  exact ⟨rfl, rfl⟩
theorem rvalid_run (s : ByteArray) (w : World) (hs : s.size ≤ 32) (h : 1 ≤ s.size) (hd : Pl.dg s[0].toNat = false) (hk : Pl.kw s = false) :
    Calls Tryd.prog 71 #[.string s] w fun e w' => e = .returned (.bool (Pl.nm s)) ∧ w = w' := by
  have HD := Lib.hid hd
  have HK := Lib.hid hk
  clear hd hk
  go_enter Tryd.func71, Tryd.ntmps71
  go_wp2_with (first | (go_at_call 82; refine (rdigit_is _ _ HD.out _).mono ?_; rintro e w' ⟨rfl, rfl⟩) | (go_at_call 83; refine (rkw_is _ _ HK.out _).mono ?_; rintro e w' ⟨rfl, rfl⟩))
  go_loop [3] (fun i => ∃ k : Nat, k ≤ s.size ∧ i = .int .i64 k ∧ Pl.Wds s k) (fun i => s.size - (intOf i).toNat)
  case atStart => exact ⟨0, Nat.zero_le _, rfl, fun k hk h => absurd h (Nat.not_lt_zero _)⟩
  case round =>
    obtain ⟨k, hkk, rfl, hwd⟩ := hrel
    have HW := Lib.hid hwd
    clear hwd
    by_cases hp : k < s.size
    · cases hl : Pl.lt s[k].toNat
      · cases hg : Pl.dg s[k].toNat
        · have HN := Lib.hid (Pl.nm_wd s k hp (by unfold Pl.wd; rw [hl, hg]; rfl))
          have HL := Lib.hid hl
          have HG := Lib.hid hg
          clear hl hg
          go_wp2_with (first | (go_at_call 84; refine (rletter_is _ _ HL.out _).mono ?_; rintro e w' ⟨rfl, rfl⟩) | (go_at_call 82; refine (rdigit_is _ _ HG.out _).mono ?_; rintro e w' ⟨rfl, rfl⟩))
          go_ret
          exact ⟨ret_bool HN.out.symm, rfl⟩
        · have HS := Lib.hid (Pl.wds_step s k hp HW.out (by unfold Pl.wd; rw [hl, hg]; rfl))
          have HL := Lib.hid hl
          have HG := Lib.hid hg
          clear hl hg
          go_wp2_with (first | (go_at_call 84; refine (rletter_is _ _ HL.out _).mono ?_; rintro e w' ⟨rfl, rfl⟩) | (go_at_call 82; refine (rdigit_is _ _ HG.out _).mono ?_; rintro e w' ⟨rfl, rfl⟩))
          exact ⟨⟨k + 1, by omega, by go_num, HS.out⟩, by simp [intOf]; omega⟩
      · have HS := Lib.hid (Pl.wds_step s k hp HW.out (by unfold Pl.wd; rw [hl]; rfl))
        have HL := Lib.hid hl
        clear hl
        go_wp2_with (go_at_call 84; refine (rletter_is _ _ HL.out _).mono ?_; rintro e w' ⟨rfl, rfl⟩)
        exact ⟨⟨k + 1, by omega, by go_num, HS.out⟩, by simp [intOf]; omega⟩
    · obtain rfl : k = s.size := by omega
      have HN := Lib.hid (Pl.nm_yes s h hs HK.out HD.out HW.out)
      go_wp2
      go_ret
      exact ⟨ret_bool HN.out.symm, rfl⟩
theorem rvalid_any (s : ByteArray) (w : World) (hs : s.size ≤ maxLen) :
    Calls Tryd.prog 71 #[.string s] w fun e w' => e = .returned (.bool (Pl.nm s)) ∧ w = w' := by
  by_cases h0 : s.size = 0
  · rw [Pl.nm_zero s h0]
    obtain rfl := Pl.size_zero s h0
    exact rvalid_zero w
  · by_cases h1 : 32 < s.size
    · rw [Pl.nm_long s h1]
      exact rvalid_long s w hs h1
    · cases hd : Pl.dg (s[0]'(by omega)).toNat
      · cases hk : Pl.kw s
        · exact rvalid_run s w (by omega) (by omega) hd hk
        · rw [Pl.nm_kw s hk]
          exact rvalid_kw s w (by omega) (by omega) hd hk
      · rw [Pl.nm_dg s (by omega) hd]
        exact rvalid_dg s w (by omega) (by omega) hd
theorem rvalid_is (s : ByteArray) (b : Bool) (h : Pl.nm s = b) (w : World) (hs : s.size ≤ maxLen) :
    Calls Tryd.prog 71 #[.string s] w fun e w' => e = .returned (.bool b) ∧ w = w' := h ▸ rvalid_any s w hs
end Go.Proofs.YtpaleolcfhnenaaDoor

namespace Go.Proofs.YtpaleolcfhnenaaDoor
open Go.RowKit
set_option linter.unusedVariables false
set_option linter.unusedSimpArgs false


/-- The rest of a string from an offset on. -/
def rest (s : ByteArray) (k : Nat) : Pl.Bs := s.data.toList.drop k
theorem rest_ext (s : ByteArray) (k : Nat) : (s.extract k s.size).data.toList = rest s k := by
  rw [Pl.extract_list, List.take_of_length_le (by rw [← Lib.size_eq]; exact Nat.le_refl _)]; rfl
theorem rest_len (s : ByteArray) (k : Nat) : (rest s k).length = s.size - k := by unfold rest; rw [List.length_drop, ← Lib.size_eq]
theorem rest_cons (s : ByteArray) (k : Nat) (h : k < s.size) : rest s k = s[k] :: rest s (k + 1) := by
  unfold rest
  rw [List.drop_eq_getElem_cons (by rw [← Lib.size_eq]; exact h)]; rfl
theorem rest_end (s : ByteArray) (k : Nat) (h : s.size ≤ k) : rest s k = [] := by
  unfold rest; rw [List.drop_of_length_le]; rw [← Lib.size_eq]; exact h

theorem ext_zero (s : ByteArray) (k : Nat) (hk : k < s.size) (h : 0 < (s.extract k s.size).size) : (s.extract k s.size)[0] = s[k] := by
  have e := Pl.get_list (s.extract k s.size) 0 h (by rw [← Lib.size_eq]; exact h)
  rw [← e]
  simp only [rest_ext, rest_cons s k hk, List.getElem_cons_zero]
theorem hop_one (s : ByteArray) (k : Nat) (hk : k < s.size) (h : 0 < (s.extract k s.size).size) (n : Nat) (hn : (n : Int) = 32 ∨ (n : Int) = 9 ∨ (n : Int) = 10) (hc : (((s.extract k s.size)[0].toNat : Int) == (n : Int)) = true) : Pl.hop (rest s k) = 1 := by
  rw [ext_zero s k hk h] at hc
  have h1 : (s[k].toNat : Int) = n := by simpa using hc
  rw [rest_cons s k hk]
  refine Pl.hop_blank _ _ ((Pl.blank_iff _).2 ?_)
  rcases hn with hn | hn | hn
  · exact .inl (UInt8.toNat_inj.1 (by show _ = 32; omega))
  · exact .inr (.inl (UInt8.toNat_inj.1 (by show _ = 9; omega)))
  · exact .inr (.inr (UInt8.toNat_inj.1 (by show _ = 10; omega)))
theorem blank_off (c : UInt8) (h1 : ((c.toNat : Int) == 32) = false) (h2 : ((c.toNat : Int) == 9) = false) (h3 : ((c.toNat : Int) == 10) = false) : Pl.blank c = false := by
  cases hb : Pl.blank c with
  | false => rfl
  | true =>
    rcases (Pl.blank_iff c).1 hb with rfl | rfl | rfl
    · simp at h1
    · simp at h2
    · simp at h3
theorem hop_out (s : ByteArray) (k : Nat) (hk : k < s.size) (h : 0 < (s.extract k s.size).size) (hp : Lib.hasPrefix (rest s k) [47, 47] = false) (h1 : (((s.extract k s.size)[0].toNat : Int) == 32) = false) (h2 : (((s.extract k s.size)[0].toNat : Int) == 9) = false) (h3 : (((s.extract k s.size)[0].toNat : Int) == 10) = false) : Pl.hop (rest s k) = 0 := by
  rw [ext_zero s k hk h] at h1 h2 h3
  rw [rest_cons s k hk] at hp ⊢
  exact Pl.hop_not _ _ (blank_off _ h1 h2 h3) hp
theorem ext_some (s : ByteArray) (k : Nat) (hk : k < s.size) : (s.extract k s.size).toList.isEmpty = false := by
  rw [Pl.toList_eq, rest_ext, rest_cons s k hk]; rfl

theorem prefix_is (y : ByteArray) (b : Bool) (h : Lib.hasPrefix y.data.toList [47, 47] = b) (w : World) :
    Calls Tryd.prog 111 #[.string y, .string ⟨#[47, 47]⟩] w fun e w' => e = .returned (.bool b) ∧ w = w' :=
  (Tryd.strings_HasPrefix y ⟨#[47, 47]⟩ w).mono fun e w' ⟨he, hw⟩ => ⟨by rw [he]; exact ret_bool h, hw.symm⟩
theorem idx_is (y : ByteArray) (n : Int) (h : Lib.indexByte y.data.toList 10 = n) (w : World) :
    Calls Tryd.prog 112 #[.string y, .int .u8 10] w fun e w' => e = .returned (.int .i64 n) ∧ w = w' :=
  (Tryd.strings_IndexByte y 10 w).mono fun e w' ⟨he, hw⟩ => ⟨by rw [he]; exact ret_int h, hw.symm⟩

set_option maxHeartbeats 400000 in
theorem skip_end (s : ByteArray) (w : World) (hs : s.size ≤ maxLen) :
    Calls Tryd.prog 110 #[.string s, .int .i64 s.size] w fun e w' => e = .returned (.int .i64 s.size) ∧ w = w' := by
  unfold maxLen at hs
  go_enter Tryd.func110, Tryd.ntmps110
  go_wp2_with fail
  go_ret
  exact ⟨rfl, rfl⟩
set_option maxHeartbeats 800000 in
theorem skip_some (s : ByteArray) (k : Nat) (w : World) (hs : s.size ≤ maxLen) (hk : k < s.size) :
    Calls Tryd.prog 110 #[.string s, .int .i64 k] w fun e w' => e = .returned (.int .i64 ((k + Pl.hop (rest s k) : Nat) : Int)) ∧ w = w' := by
  unfold maxLen at hs
  have hq : 0 < (s.extract k s.size).size := by rw [Lib.size_eq, rest_ext, rest_len]; omega
  have h0 := ext_some s k hk
  have hle := Pl.hop_le (rest s k)
  rw [rest_len] at hle
  by_cases hp : Lib.hasPrefix (rest s k) [47, 47] = true
  · obtain ⟨n, hn⟩ : ∃ n, Lib.indexByte (rest s k) 10 = n := ⟨_, rfl⟩
    have hi := Pl.hop_idx _ hp
    rw [hn] at hi
    have hn1 : -1 ≤ n := by omega
    have hn2 : n + 1 ≤ s.size - k := by omega
    have HP : Hid (Lib.hasPrefix (s.extract k s.size).data.toList [47, 47] = true) := Lib.hid (by rw [rest_ext]; exact hp)
    have HN : Hid (Lib.indexByte (s.extract k s.size).data.toList 10 = n) := Lib.hid (by rw [rest_ext]; exact hn)
    have HI := Lib.hid hi
    clear hp hn hi hle
    go_enter Tryd.func110, Tryd.ntmps110
    go_wp2_with (first
      | (go_at_call 111; refine (prefix_is _ _ HP.out _).mono ?_; rintro e w' ⟨rfl, rfl⟩)
      | (go_at_call 112; refine (idx_is _ _ HN.out _).mono ?_; rintro e w' ⟨rfl, rfl⟩))
    · have hc : (((s.extract k s.size)[0].toNat : Int) == 32) = true := by assumption
      go_ret
      exact ⟨ret_int (by rw [hop_one s k hk hq 32 (by omega) hc]; rfl), rfl⟩
    · have hc : (((s.extract k s.size)[0].toNat : Int) == 9) = true := by assumption
      go_ret
      exact ⟨ret_int (by rw [hop_one s k hk hq 9 (by omega) hc]; rfl), rfl⟩
    · have hc : (((s.extract k s.size)[0].toNat : Int) == 10) = true := by assumption
      go_ret
      exact ⟨ret_int (by rw [hop_one s k hk hq 10 (by omega) hc]; rfl), rfl⟩
    · go_ret
      exact ⟨ret_int (by have := HI.out; omega), rfl⟩
  · have hp2 : Lib.hasPrefix (rest s k) [47, 47] = false := by simpa using hp
    have HP : Hid (Lib.hasPrefix (s.extract k s.size).data.toList [47, 47] = false) := Lib.hid (by rw [rest_ext]; exact hp2)
    have HQ := Lib.hid hp2
    clear hp hp2 hle
    go_enter Tryd.func110, Tryd.ntmps110
    go_wp2_with (first
      | (go_at_call 111; refine (prefix_is _ _ HP.out _).mono ?_; rintro e w' ⟨rfl, rfl⟩))
    · have hc : (((s.extract k s.size)[0].toNat : Int) == 32) = true := by assumption
      go_ret
      exact ⟨ret_int (by rw [hop_one s k hk hq 32 (by omega) hc]; rfl), rfl⟩
    · have hc : (((s.extract k s.size)[0].toNat : Int) == 9) = true := by assumption
      go_ret
      exact ⟨ret_int (by rw [hop_one s k hk hq 9 (by omega) hc]; rfl), rfl⟩
    · have hc : (((s.extract k s.size)[0].toNat : Int) == 10) = true := by assumption
      go_ret
      exact ⟨ret_int (by rw [hop_one s k hk hq 10 (by omega) hc]; rfl), rfl⟩
    · have h1 : (((s.extract k s.size)[0].toNat : Int) == 32) = false := by assumption
      have h2 : (((s.extract k s.size)[0].toNat : Int) == 9) = false := by assumption
      have h3 : (((s.extract k s.size)[0].toNat : Int) == 10) = false := by assumption
      go_ret
      exact ⟨ret_int (by rw [hop_out s k hk hq HQ.out h1 h2 h3]; rfl), rfl⟩
theorem skip_any (s : ByteArray) (k : Nat) (w : World) (hs : s.size ≤ maxLen) (hk : k ≤ s.size) :
    Calls Tryd.prog 110 #[.string s, .int .i64 k] w fun e w' => e = .returned (.int .i64 ((k + Pl.hop (rest s k) : Nat) : Int)) ∧ w = w' := by
  by_cases h : k < s.size
  · exact skip_some s k w hs h
  · obtain rfl : k = s.size := by omega
    rw [rest_end s s.size (Nat.le_refl _)]
    exact skip_end s w hs

end Go.Proofs.YtpaleolcfhnenaaDoor

namespace Go.Proofs.YtpaleolcfhnenaaDoor
open Go.RowKit
set_option linter.unusedVariables false
set_option linter.unusedSimpArgs false

set_option maxHeartbeats 400000 in
theorem endstep_any (a t : Int) (B : Nat) (v : Value) (w : World) (hB : w.heap[B]? = some (.cells #[v] 3 (0, 0))) :
    Calls Tryd.prog 109 #[.int .i64 a, .int .i64 t, .pointer (some ⟨B, 0, none⟩)] w fun e w' => e = .returned (.tuple #[]) ∧ w' = w.setCell ⟨B, 0, none⟩ (.int .i64 t) := by
  have hc := cell_of_one hB
  have hf := free_of_one hB
  clear hB
  go_enter Tryd.func109, Tryd.ntmps109
  go_wp2
  go_end0
  exact ⟨rfl, rfl⟩

theorem skip_at (s : ByteArray) (k : Nat) (n m : Int) (w : World) (hs : s.size ≤ maxLen) (hk : k ≤ s.size) (hn : n = k) (hm : m = (k : Int) + (Pl.hop (rest s k) : Nat)) :
    Calls Tryd.prog 110 #[.string s, .int .i64 n] w fun e w' => e = .returned (.int .i64 m) ∧ w = w' := by
  subst hn
  refine (skip_any s k w hs hk).mono fun e w' ⟨he, hw⟩ => ⟨by rw [he, hm]; exact ret_int (by omega), hw⟩
theorem rest_rest (s : ByteArray) (k h : Nat) : (rest s k).drop h = rest s (k + h) := by unfold rest; rw [List.drop_drop]
theorem eo_next (s : ByteArray) (k : Nat) (h : Pl.hop (rest s k) ≠ 0) : k + Pl.eo (rest s k) = k + Pl.hop (rest s k) + Pl.eo (rest s (k + Pl.hop (rest s k))) := by
  rw [Pl.eo_go _ h, rest_rest]; omega

set_option maxHeartbeats 800000 in
theorem scan_end (s : ByteArray) (k0 B : Nat) (w : World) (hs : s.size ≤ maxLen) (hk0 : k0 ≤ s.size) (hB : w.heap[B]? = some (.cells #[.int .i64 k0] 3 (0, 0))) :
    Calls Tryd.prog 108 #[.string s, .int .i64 k0, .func (.func 109) #[] #[.pointer (some ⟨B, 0, none⟩)]] w fun e w' =>
      e = .returned (.tuple #[]) ∧ w'.heap[B]? = some (.cells #[.int .i64 ((k0 + Pl.eo (rest s k0) : Nat) : Int)] 3 (0, 0)) ∧ Below B w w' := by
  have hs2 := hs
  unfold maxLen at hs2
  obtain ⟨T, hT⟩ : ∃ T : Nat, T = k0 + Pl.eo (rest s k0) := ⟨_, rfl⟩
  rw [← hT]
  have HT := Lib.hid hT
  have HB := Lib.hid hB
  have HS := Lib.hid hs
  clear hT hB hs
  go_enter Tryd.func108, Tryd.ntmps108
  go_wp2_with (go_at_call 110; refine (skip_at s k0 _ ((k0 : Int) + (Pl.hop (rest s k0) : Nat)) _ HS.out hk0 rfl rfl).mono ?_; rintro e w' ⟨rfl, rfl⟩)
  go_loopw [1, 6] (fun u v wr => ∃ k : Nat, k ≤ s.size ∧ u = .int .i64 k ∧ v = .int .i64 ((k : Int) + (Pl.hop (rest s k) : Nat)) ∧ k + Pl.eo (rest s k) = T ∧ wr.heap[B]? = some (.cells #[.int .i64 k] 3 (0, 0)) ∧ Below B w wr) (fun u _ _ => s.size - (intOf u).toNat)
  case atStart => exact ⟨k0, hk0, rfl, rfl, HT.out.symm, HB.out, Below.refl _ _⟩
  case round =>
    obtain ⟨k, hk, rfl, rfl, hsum, hcell, hbel⟩ := hrel
    have hle := Pl.hop_le (rest s k)
    rw [rest_len] at hle
    obtain ⟨h, hh⟩ : ∃ h, h = Pl.hop (rest s k) := ⟨_, rfl⟩
    rw [← hh] at hle ⊢
    by_cases hz : h = 0
    · have e : k = T := by rw [← hsum, Pl.eo_stop _ (by rw [← hh]; exact hz)]; rfl
      have HC : Hid (wr.heap[B]? = some (.cells #[.int .i64 (T : Int)] 3 (0, 0))) := Lib.hid (by rw [← e]; exact hcell)
      have HL := Lib.hid hbel
      clear hsum hcell hbel hh e
      subst hz
      go_wp2_with fail
      go_end0
      exact ⟨rfl, HC.out, HL.out⟩
    · have hsum2 : (k + h) + Pl.eo (rest s (k + h)) = T := by
        rw [hh] at hz ⊢
        rw [← hsum, eo_next s k hz]
      have HC := Lib.hid (one_setCell (u := .int .i64 ((k : Int) + (h : Int))) hcell)
      have HC0 := Lib.hid hcell
      have HL := Lib.hid (hbel.setCell (p := ⟨B, 0, none⟩) (Nat.le_refl _) (.int .i64 ((k : Int) + (h : Int))))
      have HS2 := Lib.hid hsum2
      have hpos : 1 ≤ h := by omega
      clear hsum hcell hbel hh hsum2 hz
      go_wp2_with (first
        | (go_at_call 109; refine (endstep_any _ _ B _ _ HC0.out).mono ?_; rintro e w' ⟨rfl, rfl⟩)
        | (go_at_call 110; refine (skip_at s (k + h) _ (((k : Int) + (h : Int)) + (Pl.hop (rest s (k + h)) : Nat)) _ HS.out (by omega) (by omega) (by omega)).mono ?_; rintro e w' ⟨rfl, rfl⟩))
      go_roundw
      case rel => exact ⟨k + h, by omega, by go_num, by go_num, HS2.out, by have := HC.out; simpa using this, HL.out⟩
      case measure => simp [intOf]; omega

theorem new_one (w : World) (v : Value) (t : TypeId) : (w.alloc (.cells #[v] t (0, 0))).heap[w.heap.size]? = some (.cells #[v] t (0, 0)) := by
  show (w.heap.push _)[w.heap.size]? = _
  simp

set_option maxHeartbeats 400000 in
theorem end_in (s : ByteArray) (k : Nat) (w : World) (hs : s.size ≤ maxLen) (hk : k ≤ s.size) :
    Calls Tryd.prog 107 #[.string s, .int .i64 k] w fun e w' => e = .returned (.int .i64 ((k + Pl.eo (rest s k) : Nat) : Int)) ∧ Below w.heap.size w w' := by
  have HC := Lib.hid (scan_end s k w.heap.size (w.alloc (.cells #[.int .i64 k] 3 (0, 0))) hs hk (new_one _ _ _))
  unfold maxLen at hs
  obtain ⟨T, hT⟩ : ∃ T : Int, ((k + Pl.eo (rest s k) : Nat) : Int) = T := ⟨_, rfl⟩
  rw [hT] at HC ⊢
  clear hT
  go_enter Tryd.func107, Tryd.ntmps107
  go_wp2_with (go_at_call 108; refine HC.out.mono ?_; rintro e w' ⟨rfl, hcell, hbel⟩; have hc := cell_of_one hcell)
  go_ret
  exact ⟨rfl, ((Below.refl _ _).alloc (Nat.le_refl _) _).trans hbel⟩
set_option maxHeartbeats 400000 in
theorem end_out (s : ByteArray) (n : Int) (w : World) (hs : s.size ≤ maxLen) (h : n < 0 ∨ (s.size : Int) < n) :
    Calls Tryd.prog 107 #[.string s, .int .i64 n] w fun e w' => e = .returned (.int .i64 n) ∧ w = w' := by
  unfold maxLen at hs
  rcases h with h | h
  · go_enter Tryd.func107, Tryd.ntmps107
    go_wp2_with fail
    go_ret
    exact ⟨rfl, rfl⟩
  · have h2 : ¬ n < 0 := by omega
    go_enter Tryd.func107, Tryd.ntmps107
    go_wp2_with fail
    go_ret
    exact ⟨rfl, rfl⟩

/-- Is a text trivia? -/
def val (l : Pl.Bs) : Bool := Pl.eo l == l.length
set_option maxHeartbeats 400000 in
theorem tvalid_any (s : ByteArray) (w : World) (hs : s.size ≤ maxLen) :
    Calls Tryd.prog 100 #[.string s] w fun e w' => e = .returned (.bool (val s.data.toList)) ∧ Below w.heap.size w w' := by
  have HC := Lib.hid (end_in s 0 w hs (Nat.zero_le _))
  have hv : val s.data.toList = (((0 + Pl.eo (rest s 0) : Nat) : Int) == (s.size : Int)) := by
    unfold val rest
    rw [Lib.size_eq, List.drop_zero, Bool.eq_iff_iff]
    simp only [beq_iff_eq]; omega
  obtain ⟨T, hT⟩ : ∃ T : Int, ((0 + Pl.eo (rest s 0) : Nat) : Int) = T := ⟨_, rfl⟩
  rw [hT] at HC hv
  have HV := Lib.hid hv
  clear hT hv
  unfold maxLen at hs
  go_enter Tryd.func100, Tryd.ntmps100
  go_wp2_with (go_at_call 107; refine HC.out.mono ?_; rintro e w' ⟨rfl, hbel⟩)
  go_ret
  exact ⟨ret_bool HV.out.symm, hbel⟩
theorem tvalid_is (s : ByteArray) (b : Bool) (h : val s.data.toList = b) (w : World) (hs : s.size ≤ maxLen) :
    Calls Tryd.prog 100 #[.string s] w fun e w' => e = .returned (.bool b) ∧ Below w.heap.size w w' := h ▸ tvalid_any s w hs
end Go.Proofs.YtpaleolcfhnenaaDoor

namespace Go.Proofs.YtpaleolcfhnenaaDoor
open Go.RowKit
set_option linter.unusedVariables false
set_option linter.unusedSimpArgs false

theorem hop_one' (s : ByteArray) (k : Nat) (hk : k < s.size) (h : (s[k].toNat : Int) = 32 ∨ (s[k].toNat : Int) = 9 ∨ (s[k].toNat : Int) = 10) : Pl.hop (rest s k) = 1 := by
  rw [rest_cons s k hk]
  refine Pl.hop_blank _ _ ((Pl.blank_iff _).2 ?_)
  rcases h with h | h | h
  · exact .inl (UInt8.toNat_inj.1 (by show _ = 32; omega))
  · exact .inr (.inl (UInt8.toNat_inj.1 (by show _ = 9; omega)))
  · exact .inr (.inr (UInt8.toNat_inj.1 (by show _ = 10; omega)))
def NoFeed (s : ByteArray) (k j : Nat) : Prop := ∀ m, (hm : m < s.size) → k ≤ m → m < j → s[m].toNat ≠ 10
theorem rest_get (s : ByteArray) (k j : Nat) (h : j < (rest s k).length) (h2 : k + j < s.size) : (rest s k)[j] = s[k + j] := List.getElem_drop (xs := s.data.toList) (i := k) (j := j) (h := h)
theorem hop_zero' (s : ByteArray) (k : Nat) (hk : k < s.size) (h1 : ((s[k].toNat : Int) == 32) = false) (h2 : ((s[k].toNat : Int) == 9) = false) (h3 : ((s[k].toNat : Int) == 10) = false)
    (h : ¬ (s[k].toNat : Int) = 47 ∨ s.size ≤ k + 1 ∨ (∃ hq : k + 1 < s.size, ((s[k + 1].toNat : Int) != 47) = true) ∨ NoFeed s k s.size) : Pl.hop (rest s k) = 0 := by
  refine Pl.hop_none _ (fun c r e => ?_) ?_
  · rw [rest_cons s k hk] at e
    injection e with e1 _
    rw [← e1]; exact blank_off _ h1 h2 h3
  · have two : ∀ r, rest s k = 47 :: 47 :: r → s[k] = 47 ∧ ∃ hq : k + 1 < s.size, s[k + 1] = 47 := by
      intro r e
      rw [rest_cons s k hk] at e
      injection e with e1 e2
      have hq : k + 1 < s.size := by
        rcases Nat.lt_or_ge (k + 1) s.size with h | h
        · exact h
        · rw [rest_end s _ h] at e2; cases e2
      rw [rest_cons s _ hq] at e2
      injection e2 with e2 _
      exact ⟨e1, hq, e2⟩
    rcases h with h | h | ⟨hq, h⟩ | h
    · left; intro r e
      have := (two r e).1
      rw [this] at h; exact h rfl
    · left; intro r e
      obtain ⟨_, hq, _⟩ := two r e
      omega
    · left; intro r e
      obtain ⟨_, hq, e2⟩ := two r e
      rw [e2] at h; simp at h
    · right; intro j hj e
      have hj2 : k + j < s.size := by rw [rest_len] at hj; omega
      rw [rest_get s k j hj hj2] at e
      exact h (k + j) hj2 (by omega) hj2 (by rw [e]; rfl)
theorem hop_feed (s : ByteArray) (k j : Nat) (hk : k ≤ j) (hj : j < s.size) (h47 : (s[k].toNat : Int) = 47) (hq : k + 1 < s.size) (h2 : ((s[k + 1].toNat : Int) != 47) = false) (h10 : ((s[j].toNat : Int) = 10)) (h : NoFeed s k j) : k + Pl.hop (rest s k) = j + 1 := by
  have e1 : s[k] = 47 := UInt8.toNat_inj.1 (by show _ = 47; omega)
  have e2 : s[k + 1] = 47 := UInt8.toNat_inj.1 (by show _ = 47; simp at h2; omega)
  have hl : j - k < (rest s k).length := by rw [rest_len]; omega
  have := Pl.hop_found (rest s k) ⟨rest s (k + 1 + 1), by rw [rest_cons s k (by omega), rest_cons s (k + 1) hq, e1, e2]⟩ (j - k) hl (by
    rw [rest_get s k (j - k) hl (by omega)]
    have : ∀ m, (hm : m < s.size) → m = j → s[m] = 10 := fun m hm e => by subst e; exact UInt8.toNat_inj.1 (by show _ = 10; omega)
    exact this _ _ (by omega)) (fun i hi hlt e => by
    have hi2 : k + i < s.size := by omega
    rw [rest_get s k i hi hi2] at e
    exact h (k + i) hi2 (by omega) (by omega) (by rw [e]; rfl))
  omega
theorem NoFeed.next {s : ByteArray} {k j : Nat} (h : NoFeed s k j) (hj : j < s.size) (hc : ¬ (s[j].toNat : Int) = 10) : NoFeed s k (j + 1) := by
  intro m hm h1 h2
  by_cases e : m = j
  · subst e; omega
  · exact h m hm h1 (by omega)

set_option maxHeartbeats 1600000 in
theorem step_any (s : ByteArray) (k : Nat) (w : World) (hs : s.size ≤ maxLen) (hk : k ≤ s.size) :
    Calls Tryd.prog 93 #[.string s, .int .i64 k] w fun e w' => e = .returned (.int .i64 ((k + Pl.hop (rest s k) : Nat) : Int)) ∧ w = w' := by
  unfold maxLen at hs
  obtain ⟨R, hR⟩ : ∃ R : Int, R = ((k + Pl.hop (rest s k) : Nat) : Int) := ⟨_, rfl⟩
  rw [← hR]
  have HR := Lib.hid hR
  clear hR
  go_enter Tryd.func93, Tryd.ntmps93
  go_wp2_with fail
  · have h : s.size ≤ k := by assumption
    go_ret
    exact ⟨ret_int (by rw [HR.out, rest_end s k h]; rfl), rfl⟩
  · have hlt : k < s.size := by assumption
    have h : (s[k].toNat : Int) = 32 := by assumption
    go_ret
    exact ⟨ret_int (by rw [HR.out, hop_one' s k hlt (.inl h)]; rfl), rfl⟩
  · have hlt : k < s.size := by assumption
    have h : (s[k].toNat : Int) = 9 := by assumption
    go_ret
    exact ⟨ret_int (by rw [HR.out, hop_one' s k hlt (.inr (.inl h))]; rfl), rfl⟩
  · have hlt : k < s.size := by assumption
    have h : (((s[k].toNat : Int) == 32) = true ∨ ((s[k].toNat : Int) == 9) = true) ∨ ((s[k].toNat : Int) == 10) = true := by assumption
    go_ret
    refine ⟨ret_int ?_, rfl⟩
    have h2 : (s[k].toNat : Int) = 32 ∨ (s[k].toNat : Int) = 9 ∨ (s[k].toNat : Int) = 10 := by
      simp only [beq_iff_eq] at h; omega
    rw [HR.out, hop_one' s k hlt h2]; rfl
  · have hlt : k < s.size := by assumption
    have h : (((s[k].toNat : Int) == 32) = false ∧ ((s[k].toNat : Int) == 9) = false) ∧ ((s[k].toNat : Int) == 10) = false := by assumption
    have hq : (k : Int) + 1 < s.size := by assumption
    have hq2 : k + 1 < s.size := by omega
    have h2 : (s.size : Int) ≤ (k : Int) + 1 ∨ ((s[k + 1].toNat : Int) != 47) = true := by assumption
    go_ret
    refine ⟨ret_int ?_, rfl⟩
    rw [HR.out, hop_zero' s k hlt h.1.1 h.1.2 h.2 (by
      rcases h2 with h2 | h2
      · omega
      · exact .inr (.inr (.inl ⟨hq2, h2⟩)))]; rfl
  · have hlt : k < s.size := by assumption
    have h : (((s[k].toNat : Int) == 32) = false ∧ ((s[k].toNat : Int) == 9) = false) ∧ ((s[k].toNat : Int) == 10) = false := by assumption
    have hq : (k : Int) + 1 < s.size := by assumption
    have hq2 : k + 1 < s.size := by omega
    have h47 : (s[k].toNat : Int) = 47 := by assumption
    have h2 : (k : Int) + 1 < s.size ∧ ((s[k + 1].toNat : Int) != 47) = false := by assumption
    have HB := Lib.hid h
    have H47 := Lib.hid h47
    have H2 := Lib.hid h2.2
    clear h h47 h2
    go_loop [5] (fun i => ∃ j : Nat, k ≤ j ∧ j ≤ s.size ∧ i = .int .i64 j ∧ NoFeed s k j) (fun i => s.size - (intOf i).toNat)
    case atStart => exact ⟨k, Nat.le_refl _, by omega, rfl, fun m _ h1 h2 => by omega⟩
    case round =>
      obtain ⟨j, hkj, hjs, rfl, hno⟩ := hrel
      have HN := Lib.hid hno
      clear hno
      by_cases hj : j < s.size
      · by_cases h10 : (s[j].toNat : Int) = 10
        · have H10 := Lib.hid h10
          have hb : ((s[j].toNat : Int) == 10) = true := by simp [h10]
          clear h10
          go_wp2_with fail
          go_ret
          exact ⟨ret_int (by rw [HR.out, hop_feed s k j hkj hj H47.out hq2 H2.out H10.out HN.out]; rfl), rfl⟩
        · have HX := Lib.hid (HN.out.next hj h10)
          have hb : ((s[j].toNat : Int) == 10) = false := by simpa using h10
          clear h10
          go_wp2_with fail
          exact ⟨⟨j + 1, by omega, by omega, by go_num, HX.out⟩, by simp [intOf]; omega⟩
      · obtain rfl : j = s.size := by omega
        go_wp2_with fail
        go_ret
        exact ⟨ret_int (by rw [HR.out, hop_zero' s k hlt HB.out.1.1 HB.out.1.2 HB.out.2 (.inr (.inr (.inr HN.out)))]; rfl), rfl⟩
  · have hlt : k < s.size := by assumption
    have h : (((s[k].toNat : Int) == 32) = false ∧ ((s[k].toNat : Int) == 9) = false) ∧ ((s[k].toNat : Int) == 10) = false := by assumption
    have hq : (s.size : Int) ≤ (k : Int) + 1 := by assumption
    go_ret
    exact ⟨ret_int (by rw [HR.out, hop_zero' s k hlt h.1.1 h.1.2 h.2 (.inr (.inl (by omega)))]; rfl), rfl⟩
  · have hlt : k < s.size := by assumption
    have h : (((s[k].toNat : Int) == 32) = false ∧ ((s[k].toNat : Int) == 9) = false) ∧ ((s[k].toNat : Int) == 10) = false := by assumption
    have hq : ¬ (s[k].toNat : Int) = 47 := by assumption
    go_ret
    exact ⟨ret_int (by rw [HR.out, hop_zero' s k hlt h.1.1 h.1.2 h.2 (.inl hq)]; rfl), rfl⟩
end Go.Proofs.YtpaleolcfhnenaaDoor

namespace Go.Proofs.YtpaleolcfhnenaaDoor
open Go.RowKit
set_option linter.unusedVariables false
set_option linter.unusedSimpArgs false

theorem step_at (s : ByteArray) (k : Nat) (n m : Int) (w : World) (hs : s.size ≤ maxLen) (hk : k ≤ s.size) (hn : n = k) (hm : m = (k : Int) + (Pl.hop (rest s k) : Nat)) :
    Calls Tryd.prog 93 #[.string s, .int .i64 n] w fun e w' => e = .returned (.int .i64 m) ∧ w = w' := by
  subst hn
  refine (step_any s k w hs hk).mono fun e w' ⟨he, hw⟩ => ⟨by rw [he, hm]; exact ret_int (by omega), hw⟩

set_option maxHeartbeats 800000 in
theorem rend_in (s : ByteArray) (k0 : Nat) (w : World) (hs : s.size ≤ maxLen) (hk0 : k0 ≤ s.size) :
    Calls Tryd.prog 85 #[.string s, .int .i64 k0] w fun e w' => e = .returned (.int .i64 ((k0 + Pl.eo (rest s k0) : Nat) : Int)) ∧ w = w' := by
  have HS := Lib.hid hs
  unfold maxLen at hs
  obtain ⟨T, hT⟩ : ∃ T : Nat, T = k0 + Pl.eo (rest s k0) := ⟨_, rfl⟩
  rw [← hT]
  have HT := Lib.hid hT
  clear hT
  have hd0 : decide (s.size < k0) = false := by simpa using hk0
  have hd1 : decide ((k0 : Int) < 0) = false := by simp
  go_enter Tryd.func85, Tryd.ntmps85
  go_wp2_with fail
  go_loop [1] (fun u => ∃ k : Nat, k ≤ s.size ∧ u = .int .i64 k ∧ k + Pl.eo (rest s k) = T) (fun u => s.size - (intOf u).toNat)
  case atStart => exact ⟨k0, hk0, rfl, HT.out.symm⟩
  case round =>
    obtain ⟨k, hk, rfl, hsum⟩ := hrel
    have hle := Pl.hop_le (rest s k)
    rw [rest_len] at hle
    obtain ⟨h, hh⟩ : ∃ h, h = Pl.hop (rest s k) := ⟨_, rfl⟩
    have HH : Hid ((k : Int) + (h : Nat) = (k : Int) + (Pl.hop (rest s k) : Nat)) := Lib.hid (by rw [hh])
    rw [← hh] at hle
    by_cases hz : h = 0
    · have e : k = T := by rw [← hsum, Pl.eo_stop _ (by rw [← hh]; exact hz)]; rfl
      clear hsum hh
      subst hz
      subst e
      go_wp2_with (go_at_call 93; refine (step_at s k _ _ _ HS.out hk rfl HH.out).mono ?_; rintro e w' ⟨rfl, rfl⟩)
      go_ret
      exact ⟨rfl, rfl⟩
    · have hsum2 : (k + h) + Pl.eo (rest s (k + h)) = T := by
        rw [hh] at hz ⊢
        rw [← hsum, eo_next s k hz]
      have HS2 := Lib.hid hsum2
      have hpos : 1 ≤ h := by omega
      clear hsum hh hsum2 hz
      go_wp2_with (go_at_call 93; refine (step_at s k _ _ _ HS.out hk rfl HH.out).mono ?_; rintro e w' ⟨rfl, rfl⟩)
      exact ⟨⟨k + h, by omega, by go_num, HS2.out⟩, by simp [intOf]; omega⟩
set_option maxHeartbeats 400000 in
theorem rend_out (s : ByteArray) (n : Int) (w : World) (hs : s.size ≤ maxLen) (h : n < 0 ∨ (s.size : Int) < n) :
    Calls Tryd.prog 85 #[.string s, .int .i64 n] w fun e w' => e = .returned (.int .i64 n) ∧ w = w' := by
  unfold maxLen at hs
  rcases h with h | h
  · go_enter Tryd.func85, Tryd.ntmps85
    go_wp2_with fail
    go_ret
    exact ⟨rfl, rfl⟩
  · have h2 : ¬ n < 0 := by omega
    go_enter Tryd.func85, Tryd.ntmps85
    go_wp2_with fail
    go_ret
    exact ⟨rfl, rfl⟩
set_option maxHeartbeats 400000 in
theorem rtvalid_any (s : ByteArray) (w : World) (hs : s.size ≤ maxLen) :
    Calls Tryd.prog 72 #[.string s] w fun e w' => e = .returned (.bool (val s.data.toList)) ∧ w = w' := by
  have HC := Lib.hid (rend_in s 0 w hs (Nat.zero_le _))
  have hv : val s.data.toList = (((0 + Pl.eo (rest s 0) : Nat) : Int) == (s.size : Int)) := by
    unfold val rest
    rw [Lib.size_eq, List.drop_zero, Bool.eq_iff_iff]
    simp only [beq_iff_eq]; omega
  obtain ⟨T, hT⟩ : ∃ T : Int, ((0 + Pl.eo (rest s 0) : Nat) : Int) = T := ⟨_, rfl⟩
  rw [hT] at HC hv
  have HV := Lib.hid hv
  clear hT hv
  unfold maxLen at hs
  go_enter Tryd.func72, Tryd.ntmps72
  go_wp2_with (go_at_call 85; refine HC.out.mono ?_; rintro e w' ⟨rfl, rfl⟩)
  go_ret
  exact ⟨ret_bool HV.out.symm, rfl⟩
theorem rtvalid_is (s : ByteArray) (b : Bool) (h : val s.data.toList = b) (w : World) (hs : s.size ≤ maxLen) :
    Calls Tryd.prog 72 #[.string s] w fun e w' => e = .returned (.bool b) ∧ w = w' := h ▸ rtvalid_any s w hs
end Go.Proofs.YtpaleolcfhnenaaDoor
