/- The walks of the reference's Valid and of the parts of a path. -/
import Derived.Test.YtjfmanflkcaohaaDoorWalkValid
namespace Go.Proofs.YtjfmanflkcaohaaDoor
open Go.RowKit
set_option linter.unusedVariables false
set_option linter.unusedSimpArgs false

theorem rletter_is (c : Nat) (b : Bool) (h : Pl.lt c = b) (w : World) :
    Calls Tryd.prog 29 #[.int .u8 c] w fun e w' => e = .returned (.bool b) ∧ w = w' := h ▸ rletter_any c w
theorem rdigit_is (c : Nat) (b : Bool) (h : Pl.dg c = b) (w : World) :
    Calls Tryd.prog 28 #[.int .u8 c] w fun e w' => e = .returned (.bool b) ∧ w = w' := h ▸ rdigit_any c w
theorem rkw_is (s : ByteArray) (b : Bool) (h : Pl.kw s = b) (w : World) :
    Calls Tryd.prog 14 #[.string s] w fun e w' => e = .returned (.bool b) ∧ w = w' := h ▸ rkw_any s w

theorem rvalid_zero (w : World) :
    Calls Tryd.prog 12 #[.string ⟨#[]⟩] w fun e w' => e = .returned (.bool false) ∧ w = w' := by
  go_enter Tryd.func12, Tryd.ntmps12
  go_wp2_with fail
  go_ret
  exact ⟨rfl, rfl⟩
theorem rvalid_long (s : ByteArray) (w : World) (hs : s.size ≤ maxLen) (h : 32 < s.size) :
    Calls Tryd.prog 12 #[.string s] w fun e w' => e = .returned (.bool false) ∧ w = w' := by
  unfold maxLen at hs
  go_enter Tryd.func12, Tryd.ntmps12
  go_wp2_with fail
  go_ret
  exact ⟨rfl, rfl⟩
theorem rvalid_dg (s : ByteArray) (w : World) (hs : s.size ≤ 32) (h : 1 ≤ s.size) (hd : Pl.dg s[0].toNat = true) :
    Calls Tryd.prog 12 #[.string s] w fun e w' => e = .returned (.bool false) ∧ w = w' := by
  have HD := Lib.hid hd
  clear hd
  go_enter Tryd.func12, Tryd.ntmps12
  go_wp2_with (go_at_call 28; refine (rdigit_is _ _ HD.out _).mono ?_; rintro e w' ⟨rfl, rfl⟩)
  go_ret
  exact ⟨rfl, rfl⟩
theorem rvalid_kw (s : ByteArray) (w : World) (hs : s.size ≤ 32) (h : 1 ≤ s.size) (hd : Pl.dg s[0].toNat = false) (hk : Pl.kw s = true) :
    Calls Tryd.prog 12 #[.string s] w fun e w' => e = .returned (.bool false) ∧ w = w' := by
  have HD := Lib.hid hd
  have HK := Lib.hid hk
  clear hd hk
  go_enter Tryd.func12, Tryd.ntmps12
  go_wp2_with (first | (go_at_call 28; refine (rdigit_is _ _ HD.out _).mono ?_; rintro e w' ⟨rfl, rfl⟩) | (go_at_call 14; refine (rkw_is _ _ HK.out _).mono ?_; rintro e w' ⟨rfl, rfl⟩))
  go_ret
  exact ⟨rfl, rfl⟩
theorem rvalid_run (s : ByteArray) (w : World) (hs : s.size ≤ 32) (h : 1 ≤ s.size) (hd : Pl.dg s[0].toNat = false) (hk : Pl.kw s = false) :
    Calls Tryd.prog 12 #[.string s] w fun e w' => e = .returned (.bool (Pl.nm s)) ∧ w = w' := by
  have HD := Lib.hid hd
  have HK := Lib.hid hk
  clear hd hk
  go_enter Tryd.func12, Tryd.ntmps12
  go_wp2_with (first | (go_at_call 28; refine (rdigit_is _ _ HD.out _).mono ?_; rintro e w' ⟨rfl, rfl⟩) | (go_at_call 14; refine (rkw_is _ _ HK.out _).mono ?_; rintro e w' ⟨rfl, rfl⟩))
  go_loop [3] (fun i => ∃ k : Nat, k ≤ s.size ∧ i = .int .i64 k ∧ Pl.Wds s k) (fun i => s.size - (intOf i).toNat)
  case atStart => exact ⟨0, Nat.zero_le _, rfl, fun k hk h => absurd h (Nat.not_lt_zero _)⟩
  case round =>
    obtain ⟨k, hkk, rfl, hwd⟩ := hrel
    have HW := Lib.hid hwd
    clear hwd
    by_cases hp : k < s.size
    · cases hl : Pl.lt s[k].toNat
      · cases hg : Pl.dg s[k].toNat
        · have HN := Lib.hid (Pl.nm_wd s k hp (by unfold Pl.wd; rw [hl, hg]; rfl))
          have HL := Lib.hid hl
          have HG := Lib.hid hg
          clear hl hg
          go_wp2_with (first | (go_at_call 29; refine (rletter_is _ _ HL.out _).mono ?_; rintro e w' ⟨rfl, rfl⟩) | (go_at_call 28; refine (rdigit_is _ _ HG.out _).mono ?_; rintro e w' ⟨rfl, rfl⟩))
          go_ret
          exact ⟨ret_bool HN.out.symm, rfl⟩
        · have HS := Lib.hid (Pl.wds_step s k hp HW.out (by unfold Pl.wd; rw [hl, hg]; rfl))
          have HL := Lib.hid hl
          have HG := Lib.hid hg
          clear hl hg
          go_wp2_with (first | (go_at_call 29; refine (rletter_is _ _ HL.out _).mono ?_; rintro e w' ⟨rfl, rfl⟩) | (go_at_call 28; refine (rdigit_is _ _ HG.out _).mono ?_; rintro e w' ⟨rfl, rfl⟩))
          exact ⟨⟨k + 1, by omega, by go_num, HS.out⟩, by simp [intOf]; omega⟩
      · have HS := Lib.hid (Pl.wds_step s k hp HW.out (by unfold Pl.wd; rw [hl]; rfl))
        have HL := Lib.hid hl
        clear hl
        go_wp2_with (go_at_call 29; refine (rletter_is _ _ HL.out _).mono ?_; rintro e w' ⟨rfl, rfl⟩)
        exact ⟨⟨k + 1, by omega, by go_num, HS.out⟩, by simp [intOf]; omega⟩
    · obtain rfl : k = s.size := by omega
      have HN := Lib.hid (Pl.nm_yes s h hs HK.out HD.out HW.out)
      go_wp2
      go_ret
      exact ⟨ret_bool HN.out.symm, rfl⟩
theorem rvalid_any (s : ByteArray) (w : World) (hs : s.size ≤ maxLen) :
    Calls Tryd.prog 12 #[.string s] w fun e w' => e = .returned (.bool (Pl.nm s)) ∧ w = w' := by
  by_cases h0 : s.size = 0
  · rw [Pl.nm_zero s h0]
    obtain rfl := Pl.size_zero s h0
    exact rvalid_zero w
  · by_cases h1 : 32 < s.size
    · rw [Pl.nm_long s h1]
      exact rvalid_long s w hs h1
    · cases hd : Pl.dg (s[0]'(by omega)).toNat
      · cases hk : Pl.kw s
        · exact rvalid_run s w (by omega) (by omega) hd hk
        · rw [Pl.nm_kw s hk]
          exact rvalid_kw s w (by omega) (by omega) hd hk
      · rw [Pl.nm_dg s (by omega) hd]
        exact rvalid_dg s w (by omega) (by omega) hd
theorem rvalid_is (s : ByteArray) (b : Bool) (h : Pl.nm s = b) (w : World) (hs : s.size ≤ maxLen) :
    Calls Tryd.prog 12 #[.string s] w fun e w' => e = .returned (.bool b) ∧ w = w' := h ▸ rvalid_any s w hs

theorem ne_facts (s : ByteArray) (l : List UInt8) (h : s.toList ≠ l) : (s.toList == l) = false := by simpa using h

theorem part_run (s : ByteArray) (w : World) (hs : s.size ≤ maxLen) (h1 : s.toList ≠ []) (h2 : s.toList ≠ [46]) (h3 : s.toList ≠ [46, 46]) :
    Calls Tryd.prog 31 #[.string s] w fun e w' => e = .returned (.bool (Pl.pt s.data.toList)) ∧ Below w.heap.size w w' := by
  unfold maxLen at hs
  have HP := Lib.hid (Pl.pt_yes s h1 h2 h3)
  have g1 : (!s.toList.isEmpty) = true ∧ s.toList.isEmpty = false := by simpa using h1
  have g2 := ne_facts s _ h2
  have g3 := ne_facts s _ h3
  clear h2 h3
  go_enter Tryd.func31, Tryd.ntmps31
  go_wp2_with fail
  go_loopw [] (fun w' => ∃ pos, w' = w.iter s pos ∧ pos ≤ s.size ∧ Pl.Pbs s pos) (fun w' => s.size - w'.iterPos w.heap.size)
  case atStart => exact ⟨0, rfl, Nat.zero_le _, fun k hk h => absurd h (Nat.not_lt_zero _)⟩
  case round =>
    obtain ⟨pos, rfl, hps, hwd⟩ := hrel
    have HW := Lib.hid hwd
    clear hwd
    by_cases hp : pos < s.size
    · obtain ⟨c, n, hd, hr⟩ := Pl.rune_step s pos hp
      have hnx : ∀ ty, (Instr.next (.pointer (some ⟨w.heap.size, 0, none⟩)) true ty).run Tryd.prog (w.iter s pos) = .ok (.tuple #[.bool true, .int .i64 pos, .int .i32 c]) (w.iter s (pos + n)) := fun ty => by rw [run_next_any w s pos ty hp, hd]
      clear hd
      cases hpb : Pl.pb c
      · have HN := Lib.hid (Pl.pt_no s pos hp (Pl.rune_nopb s pos hp c n hr hpb))
        unfold Pl.pb at hpb
        simp only [Bool.or_eq_false_iff, decide_eq_false_iff_not] at hpb
        obtain ⟨⟨hw, h45⟩, h46⟩ := hpb
        have b45 : ((c : Int) != 45) = true := by simp; omega
        have b46 : ((c : Int) != 46) = true := by simp; omega
        have HC := Lib.hid hw
        clear hw
        go_wp2_with (go_at_call 26; refine (word_is _ _ HC.out _).mono ?_; rintro e w' ⟨rfl, rfl⟩)
        go_ret
        exact ⟨ret_bool HN.out.symm, (Below.refl _ _).alloc (Nat.le_refl _) _⟩
      · obtain ⟨hn, hc⟩ := Pl.rune_pb s pos hp c n hr hpb
        have HS := Lib.hid (Pl.pbs_step s pos hp HW.out (by rw [← hc]; exact hpb))
        subst hn
        have HE := Lib.hid hc
        clear hc
        cases hw : Pl.wd c
        · have HC := Lib.hid hw
          unfold Pl.pb at hpb
          rw [hw] at hpb
          simp only [Bool.false_or, Bool.or_eq_true, decide_eq_true_eq] at hpb
          clear hw
          rcases hpb with h45 | h46
          · have b45 : ((c : Int) != 45) = false := by simp; omega
            have H45 := Lib.hid h45
            clear h45
            go_wp2_with (go_at_call 26; refine (word_is _ _ HC.out _).mono ?_; rintro e w' ⟨rfl, rfl⟩)
            exact ⟨⟨pos + 1, rfl, by omega, HS.out⟩, by simp; omega⟩
          · have b45 : ((c : Int) != 45) = true := by simp; omega
            have b46 : ((c : Int) != 46) = false := by simp; omega
            have H46 := Lib.hid h46
            clear h46
            go_wp2_with (go_at_call 26; refine (word_is _ _ HC.out _).mono ?_; rintro e w' ⟨rfl, rfl⟩)
            exact ⟨⟨pos + 1, rfl, by omega, HS.out⟩, by simp; omega⟩
        · have HC := Lib.hid hw
          clear hw hpb
          go_wp2_with (go_at_call 26; refine (word_is _ _ HC.out _).mono ?_; rintro e w' ⟨rfl, rfl⟩)
          exact ⟨⟨pos + 1, rfl, by omega, HS.out⟩, by simp; omega⟩
    · have hnx : ∀ ty, (Instr.next (.pointer (some ⟨w.heap.size, 0, none⟩)) true ty).run Tryd.prog (w.iter s pos) = _ := fun ty => run_next_end w s pos ty hp
      obtain rfl : pos = s.size := by omega
      have HN := Lib.hid (HP.out HW.out)
      go_wp2
      go_ret
      exact ⟨ret_bool HN.out.symm, (Below.refl _ _).alloc (Nat.le_refl _) _⟩
theorem part_const (l : ByteArray) (hl : l = ⟨#[]⟩ ∨ l = ⟨#[46]⟩ ∨ l = ⟨#[46, 46]⟩) (w : World) :
    Calls Tryd.prog 31 #[.string l] w fun e w' => e = .returned (.bool false) ∧ Below w.heap.size w w' := by
  rcases hl with rfl | rfl | rfl
  all_goals
    go_enter Tryd.func31, Tryd.ntmps31
    go_wp2_with fail
    go_ret
    exact ⟨rfl, Below.refl _ _⟩
theorem part_any (s : ByteArray) (w : World) (hs : s.size ≤ maxLen) :
    Calls Tryd.prog 31 #[.string s] w fun e w' => e = .returned (.bool (Pl.pt s.data.toList)) ∧ Below w.heap.size w w' := by
  by_cases h1 : s.toList = []
  · obtain rfl := Pl.mk_of s _ h1
    exact part_const _ (.inl rfl) w
  · by_cases h2 : s.toList = [46]
    · obtain rfl := Pl.mk_of s _ h2
      exact part_const _ (.inr (.inl rfl)) w
    · by_cases h3 : s.toList = [46, 46]
      · obtain rfl := Pl.mk_of s _ h3
        exact part_const _ (.inr (.inr rfl)) w
      · exact part_run s w hs h1 h2 h3
theorem part_is (s : ByteArray) (b : Bool) (h : Pl.pt s.data.toList = b) (w : World) (hs : s.size ≤ maxLen) :
    Calls Tryd.prog 31 #[.string s] w fun e w' => e = .returned (.bool b) ∧ Below w.heap.size w w' := h ▸ part_any s w hs

theorem rpart_run (s : ByteArray) (w : World) (hs : s.size ≤ maxLen) (h1 : s.toList ≠ []) (h2 : s.toList ≠ [46]) (h3 : s.toList ≠ [46, 46]) :
    Calls Tryd.prog 32 #[.string s] w fun e w' => e = .returned (.bool (Pl.pt s.data.toList)) ∧ w = w' := by
  unfold maxLen at hs
  have HP := Lib.hid (Pl.pt_yes s h1 h2 h3)
  have g1 : (!s.toList.isEmpty) = true ∧ s.toList.isEmpty = false := by simpa using h1
  have g2 := ne_facts s _ h2
  have g3 := ne_facts s _ h3
  clear h2 h3
  go_enter Tryd.func32, Tryd.ntmps32
  go_wp2_with fail
  go_loop [3] (fun i => ∃ k : Nat, k ≤ s.size ∧ i = .int .i64 k ∧ Pl.Pbs s k) (fun i => s.size - (intOf i).toNat)
  case atStart => exact ⟨0, Nat.zero_le _, rfl, fun k hk h => absurd h (Nat.not_lt_zero _)⟩
  case round =>
    obtain ⟨k, hk, rfl, hwd⟩ := hrel
    have HW := Lib.hid hwd
    clear hwd
    by_cases hp : k < s.size
    · cases hpb : Pl.pb s[k].toNat
      · have HN := Lib.hid (Pl.pt_no s k hp hpb)
        unfold Pl.pb Pl.wd at hpb
        simp only [Bool.or_eq_false_iff, decide_eq_false_iff_not] at hpb
        obtain ⟨⟨⟨hl, hg⟩, h45⟩, h46⟩ := hpb
        have b45 : ((s[k].toNat : Int) != 45) = true := by simp; omega
        have b46 : ((s[k].toNat : Int) != 46) = true := by simp; omega
        have HL := Lib.hid hl
        have HG := Lib.hid hg
        clear hl hg
        go_wp2_with (first | (go_at_call 29; refine (rletter_is _ _ HL.out _).mono ?_; rintro e w' ⟨rfl, rfl⟩) | (go_at_call 28; refine (rdigit_is _ _ HG.out _).mono ?_; rintro e w' ⟨rfl, rfl⟩))
        go_ret
        exact ⟨ret_bool HN.out.symm, rfl⟩
      · have HS := Lib.hid (Pl.pbs_step s k hp HW.out hpb)
        cases hl : Pl.lt s[k].toNat
        · cases hg : Pl.dg s[k].toNat
          · have HL := Lib.hid hl
            have HG := Lib.hid hg
            unfold Pl.pb Pl.wd at hpb
            rw [hl, hg] at hpb
            simp only [Bool.false_or, Bool.or_eq_true, decide_eq_true_eq] at hpb
            clear hl hg
            rcases hpb with h45 | h46
            · have b45 : ((s[k].toNat : Int) != 45) = false := by simp; omega
              have H45 := Lib.hid h45
              clear h45
              go_wp2_with (first | (go_at_call 29; refine (rletter_is _ _ HL.out _).mono ?_; rintro e w' ⟨rfl, rfl⟩) | (go_at_call 28; refine (rdigit_is _ _ HG.out _).mono ?_; rintro e w' ⟨rfl, rfl⟩))
              exact ⟨⟨k + 1, by omega, by go_num, HS.out⟩, by simp [intOf]; omega⟩
            · have b45 : ((s[k].toNat : Int) != 45) = true := by simp; omega
              have b46 : ((s[k].toNat : Int) != 46) = false := by simp; omega
              have H46 := Lib.hid h46
              clear h46
              go_wp2_with (first | (go_at_call 29; refine (rletter_is _ _ HL.out _).mono ?_; rintro e w' ⟨rfl, rfl⟩) | (go_at_call 28; refine (rdigit_is _ _ HG.out _).mono ?_; rintro e w' ⟨rfl, rfl⟩))
              exact ⟨⟨k + 1, by omega, by go_num, HS.out⟩, by simp [intOf]; omega⟩
          · have HL := Lib.hid hl
            have HG := Lib.hid hg
            clear hl hg hpb
            go_wp2_with (first | (go_at_call 29; refine (rletter_is _ _ HL.out _).mono ?_; rintro e w' ⟨rfl, rfl⟩) | (go_at_call 28; refine (rdigit_is _ _ HG.out _).mono ?_; rintro e w' ⟨rfl, rfl⟩))
            exact ⟨⟨k + 1, by omega, by go_num, HS.out⟩, by simp [intOf]; omega⟩
        · have HL := Lib.hid hl
          clear hl hpb
          go_wp2_with (go_at_call 29; refine (rletter_is _ _ HL.out _).mono ?_; rintro e w' ⟨rfl, rfl⟩)
          exact ⟨⟨k + 1, by omega, by go_num, HS.out⟩, by simp [intOf]; omega⟩
    · obtain rfl : k = s.size := by omega
      have HN := Lib.hid (HP.out HW.out)
      go_wp2
      go_ret
      exact ⟨ret_bool HN.out.symm, rfl⟩
theorem rpart_const (l : ByteArray) (hl : l = ⟨#[]⟩ ∨ l = ⟨#[46]⟩ ∨ l = ⟨#[46, 46]⟩) (w : World) :
    Calls Tryd.prog 32 #[.string l] w fun e w' => e = .returned (.bool false) ∧ w = w' := by
  rcases hl with rfl | rfl | rfl
  all_goals
    go_enter Tryd.func32, Tryd.ntmps32
    go_wp2_with fail
    go_ret
    exact ⟨rfl, rfl⟩
theorem rpart_any (s : ByteArray) (w : World) (hs : s.size ≤ maxLen) :
    Calls Tryd.prog 32 #[.string s] w fun e w' => e = .returned (.bool (Pl.pt s.data.toList)) ∧ w = w' := by
  by_cases h1 : s.toList = []
  · obtain rfl := Pl.mk_of s _ h1
    exact rpart_const _ (.inl rfl) w
  · by_cases h2 : s.toList = [46]
    · obtain rfl := Pl.mk_of s _ h2
      exact rpart_const _ (.inr (.inl rfl)) w
    · by_cases h3 : s.toList = [46, 46]
      · obtain rfl := Pl.mk_of s _ h3
        exact rpart_const _ (.inr (.inr rfl)) w
      · exact rpart_run s w hs h1 h2 h3
theorem rpart_is (s : ByteArray) (b : Bool) (h : Pl.pt s.data.toList = b) (w : World) (hs : s.size ≤ maxLen) :
    Calls Tryd.prog 32 #[.string s] w fun e w' => e = .returned (.bool b) ∧ w = w' := h ▸ rpart_any s w hs
end Go.Proofs.YtjfmanflkcaohaaDoor
