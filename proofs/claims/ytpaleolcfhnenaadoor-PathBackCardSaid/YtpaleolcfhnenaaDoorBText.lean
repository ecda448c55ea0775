/- The walks of a node's text. -/
import Derived.Test.YtpaleolcfhnenaaDoorBMem
import Derived.Laws.Rows
namespace Go.Proofs.YtpaleolcfhnenaaDoor
open Go.RowKit
set_option linter.unusedVariables false
set_option linter.unusedSimpArgs false

theorem int_zero (w : World) :
    Calls Tryd.prog 99 #[.string ⟨#[]⟩] w fun e w' => e = .returned (.bool false) ∧ w = w' := by
  go_enter Tryd.func99, Tryd.ntmps99
  go_wp2_with fail
  go_ret
  exact ⟨rfl, rfl⟩
theorem int_lead (s : ByteArray) (w : World) (hs : s.size ≤ maxLen) (h : 1 < s.size) (h0 : s[0].toNat = 48) :
    Calls Tryd.prog 99 #[.string s] w fun e w' => e = .returned (.bool false) ∧ w = w' := by
  unfold maxLen at hs
  obtain ⟨s1, s2, s3⟩ := Pl.not_empty s (by omega)
  have b0 : ((s[0].toNat : Int) == 48) = true := by simp [h0]
  go_enter Tryd.func99, Tryd.ntmps99
  go_wp2_with fail
  go_ret
  exact ⟨rfl, rfl⟩
set_option maxHeartbeats 1600000 in
theorem int_run (s : ByteArray) (w : World) (hs : s.size ≤ maxLen) (h : 0 < s.size) (b1 : ((s[0].toNat : Int) == 48) = true ∧ ((1 : Int) < s.size) = False ∧ s.size = 1 ∨ ((s[0].toNat : Int) == 48) = false)
    (b : Bool) (hb : b = (Pl.dgs s.data.toList && decide (Pl.numL 0 s.data.toList ≤ 1000000000000))) :
    Calls Tryd.prog 99 #[.string s] w fun e w' => e = .returned (.bool b) ∧ w = w' := by
  unfold maxLen at hs
  obtain ⟨s1, s2, s3⟩ := Pl.not_empty s (by omega)
  have HB := Lib.hid hb
  clear hb
  have hlen : s.data.toList.length = s.size := (Lib.size_eq s).symm
  have HL := Lib.hid hlen
  clear hlen
  rcases b1 with ⟨b0, b1, bz⟩ | b0
  all_goals
    go_enter Tryd.func99, Tryd.ntmps99
    go_wp2_with fail
    go_loop [3, 19] (fun v i => ∃ j n : Nat, j ≤ s.size ∧ i = .int .i64 j ∧ v = .int .i64 n ∧ n ≤ 1000000000000 ∧ n = Pl.numL 0 (s.data.toList.take j) ∧ Pl.dgs (s.data.toList.take j) = true) (fun _ i => s.size - (intOf i).toNat)
    case atStart => exact ⟨0, 0, Nat.zero_le _, rfl, rfl, by omega, rfl, rfl⟩
    case round =>
      obtain ⟨j, n, hj, rfl, rfl, hn, hnum, hdg⟩ := hrel
      have HN := Lib.hid hnum
      have HD := Lib.hid hdg
      clear hnum hdg
      by_cases hlt : j < s.size
      · have hjl : j < s.data.toList.length := by rw [HL.out]; exact hlt
        have hge : s.data.toList[j] = s[j] := Pl.get_list s j hlt hjl
        have HT := Lib.hid (Pl.numL_take s.data.toList j hjl)
        have HU := Lib.hid (Pl.dgs_take s.data.toList j hjl)
        have HX := Lib.hid (Pl.dgs_no s.data.toList j hjl)
        rw [hge] at HT HU HX
        have hpart := Pl.numL_part s.data.toList (j + 1)
        have HP := Lib.hid hpart
        clear hge hpart
        have hc := s[j].toNat_lt
        by_cases h1 : s[j].toNat < 48
        · have HF : Hid (b = false) := Lib.hid (by rw [HB.out, HX.out (by unfold Pl.dg; simp; omega)]; rfl)
          go_wp2_with fail
          go_ret
          exact ⟨ret_bool HF.out.symm, rfl⟩
        · by_cases h2 : 57 < s[j].toNat
          · have HF : Hid (b = false) := Lib.hid (by rw [HB.out, HX.out (by unfold Pl.dg; simp; omega)]; rfl)
            go_wp2_with fail
            go_ret
            exact ⟨ret_bool HF.out.symm, rfl⟩
          · have hd : Pl.dg s[j].toNat = true := by unfold Pl.dg; simp; omega
            have HDD := Lib.hid hd
            clear hd
            by_cases h3 : n * 10 + (s[j].toNat - 48) ≤ 1000000000000
            · go_wp2_with fail
              exact ⟨⟨j + 1, n * 10 + (s[j].toNat - 48), by omega, by go_num, by go_num, h3, by rw [HT.out, HN.out], by rw [HU.out, HD.out, HDD.out]; rfl⟩, by simp [intOf]; omega⟩
            · have HF : Hid (b = false) := Lib.hid (by
                rw [HB.out]
                have e1 := HT.out
                have e2 := HN.out
                have e3 := HP.out
                have : ¬ Pl.numL 0 s.data.toList ≤ 1000000000000 := by omega
                rw [decide_eq_false this, Bool.and_false])
              go_wp2_with fail
              go_ret
              exact ⟨ret_bool HF.out.symm, rfl⟩
      · obtain rfl : j = s.size := by omega
        have HF : Hid (b = true) := Lib.hid (by
          have e : s.data.toList.take s.size = s.data.toList := by rw [List.take_of_length_le]; rw [HL.out]; exact Nat.le_refl _
          have e1 := HN.out
          have e2 := HD.out
          rw [e] at e1 e2
          rw [HB.out, e2, ← e1, decide_eq_true hn]; rfl)
        go_wp2_with fail
        go_ret
        exact ⟨ret_bool HF.out.symm, rfl⟩
theorem int_any (s : ByteArray) (w : World) (hs : s.size ≤ maxLen) :
    Calls Tryd.prog 99 #[.string s] w fun e w' => e = .returned (.bool (Pl.isI s)) ∧ w = w' := by
  by_cases hz : s.size = 0
  · rw [Pl.isI_zero s hz]
    obtain rfl := Pl.size_zero s hz
    exact int_zero w
  by_cases h0 : s[0].toNat = 48
  · by_cases h1 : 1 < s.size
    · rw [Pl.isI_lead s h1 h0]
      exact int_lead s w hs h1 h0
    · exact int_run s w hs (by omega) (.inl ⟨by simp [h0], by simp; omega, by omega⟩) _ (Pl.isI_rest s (by omega) (fun _ => by omega))
  · exact int_run s w hs (by omega) (.inr (by simp; omega)) _ (Pl.isI_rest s (by omega) (fun e => absurd e h0))
theorem int_is (s : ByteArray) (b : Bool) (h : Pl.isI s = b) (w : World) (hs : s.size ≤ maxLen) :
    Calls Tryd.prog 99 #[.string s] w fun e w' => e = .returned (.bool b) ∧ w = w' := h ▸ int_any s w hs

theorem rint_zero (w : World) :
    Calls Tryd.prog 69 #[.string ⟨#[]⟩] w fun e w' => e = .returned (.bool false) ∧ w = w' := by
  go_enter Tryd.func69, Tryd.ntmps69
  go_wp2_with fail
  go_ret
  exact ⟨rfl, rfl⟩
theorem rint_long (s : ByteArray) (w : World) (hs : s.size ≤ maxLen) (h : 13 < s.size) :
    Calls Tryd.prog 69 #[.string s] w fun e w' => e = .returned (.bool false) ∧ w = w' := by
  unfold maxLen at hs
  have z0 : ((s.size : Int) == 0) = false := beq_eq_false_iff_ne.2 (by omega)
  have z1 : decide (13 < (s.size : Int)) = true := by simp; omega
  go_enter Tryd.func69, Tryd.ntmps69
  go_wp2_with fail
  go_ret
  exact ⟨rfl, rfl⟩
theorem rint_lead (s : ByteArray) (w : World) (hs : s.size ≤ 13) (h : 1 < s.size) (h0 : s[0].toNat = 48) :
    Calls Tryd.prog 69 #[.string s] w fun e w' => e = .returned (.bool false) ∧ w = w' := by
  have b0 : ((s[0].toNat : Int) == 48) = true := by simp [h0]
  have z0 : ((s.size : Int) == 0) = false := beq_eq_false_iff_ne.2 (by omega)
  have z1 : decide (13 < (s.size : Int)) = false := by simp; omega
  have z2 : decide (1 < (s.size : Int)) = true := by simp; omega
  go_enter Tryd.func69, Tryd.ntmps69
  go_wp2_with fail
  go_ret
  exact ⟨rfl, rfl⟩
set_option maxHeartbeats 1600000 in
theorem rint_run (s : ByteArray) (w : World) (hs : s.size ≤ 13) (h : 0 < s.size) (b1 : ((s[0].toNat : Int) == 48) = true ∧ decide (1 < (s.size : Int)) = false ∨ ((s[0].toNat : Int) == 48) = false ∧ decide (1 < (s.size : Int)) = true ∨ ((s[0].toNat : Int) == 48) = false ∧ decide (1 < (s.size : Int)) = false)
    (b : Bool) (hb : b = (Pl.dgs s.data.toList && decide (Pl.numL 0 s.data.toList ≤ 1000000000000))) :
    Calls Tryd.prog 69 #[.string s] w fun e w' => e = .returned (.bool b) ∧ w = w' := by
  have z0 : ((s.size : Int) == 0) = false := beq_eq_false_iff_ne.2 (by omega)
  have z1 : decide (13 < (s.size : Int)) = false := by simp; omega
  have HB := Lib.hid hb
  clear hb
  have hlen : s.data.toList.length = s.size := (Lib.size_eq s).symm
  have HL := Lib.hid hlen
  clear hlen
  rcases b1 with ⟨b0, z2⟩ | ⟨b0, z2⟩ | ⟨b0, z2⟩
  all_goals
    go_enter Tryd.func69, Tryd.ntmps69
    go_wp2_with fail
    go_loop [3, 4] (fun v i => ∃ j n : Nat, j ≤ s.size ∧ i = .int .i64 j ∧ v = .int .i64 n ∧ n < 10 ^ j ∧ n = Pl.numL 0 (s.data.toList.take j) ∧ Pl.dgs (s.data.toList.take j) = true) (fun _ i => s.size - (intOf i).toNat)
    case atStart => exact ⟨0, 0, Nat.zero_le _, rfl, rfl, by decide, rfl, rfl⟩
    case round =>
      obtain ⟨j, n, hj, rfl, rfl, hn0, hnum, hdg⟩ := hrel
      have hn : n ≤ 10000000000000 := by
        have : 10 ^ j ≤ 10 ^ 13 := Nat.pow_le_pow_right (by decide) (by omega)
        omega
      clear hn0
      have HN := Lib.hid hnum
      have HD := Lib.hid hdg
      clear hnum hdg
      by_cases hlt : j < s.size
      · have hjl : j < s.data.toList.length := by rw [HL.out]; exact hlt
        have hge : s.data.toList[j] = s[j] := Pl.get_list s j hlt hjl
        have HT := Lib.hid (Pl.numL_take s.data.toList j hjl)
        have HU := Lib.hid (Pl.dgs_take s.data.toList j hjl)
        have HX := Lib.hid (Pl.dgs_no s.data.toList j hjl)
        rw [hge] at HT HU HX
        clear hge
        have hc := s[j].toNat_lt
        by_cases h1 : s[j].toNat < 48
        · have HF : Hid (b = false) := Lib.hid (by rw [HB.out, HX.out (by unfold Pl.dg; simp; omega)]; rfl)
          go_wp2_with fail
          go_ret
          exact ⟨ret_bool HF.out.symm, rfl⟩
        · by_cases h2 : 57 < s[j].toNat
          · have HF : Hid (b = false) := Lib.hid (by rw [HB.out, HX.out (by unfold Pl.dg; simp; omega)]; rfl)
            go_wp2_with fail
            go_ret
            exact ⟨ret_bool HF.out.symm, rfl⟩
          · have hd : Pl.dg s[j].toNat = true := by unfold Pl.dg; simp; omega
            have HDD := Lib.hid hd
            have HLT : Hid (10 * n + (s[j].toNat - 48) < 10 ^ (j + 1)) := Lib.hid (by
              have e1 := Pl.numL_lt (s.data.toList.take (j + 1)) (by rw [HU.out, HD.out, hd]; rfl)
              rw [HT.out, ← HN.out, List.length_take] at e1
              have e2 : min (j + 1) s.data.toList.length = j + 1 := by omega
              rw [e2] at e1
              omega)
            clear hd
            go_wp2_with fail
            exact ⟨⟨j + 1, 10 * n + (s[j].toNat - 48), by omega, by go_num, by go_num, HLT.out, by rw [HT.out, ← HN.out]; omega, by rw [HU.out, HD.out, HDD.out]; rfl⟩, by simp [intOf]; omega⟩
      · obtain rfl : j = s.size := by omega
        have HF : Hid (b = decide (n ≤ 1000000000000)) := Lib.hid (by
          have e : s.data.toList.take s.size = s.data.toList := by rw [List.take_of_length_le]; rw [HL.out]; exact Nat.le_refl _
          have e1 := HN.out
          have e2 := HD.out
          rw [e] at e1 e2
          rw [HB.out, e2, ← e1]; rfl)
        go_wp2_with fail
        go_ret
        exact ⟨ret_bool (by rw [HF.out, Bool.eq_iff_iff]; simp; omega), rfl⟩
theorem rint_any (s : ByteArray) (w : World) (hs : s.size ≤ maxLen) :
    Calls Tryd.prog 69 #[.string s] w fun e w' => e = .returned (.bool (Pl.isI s)) ∧ w = w' := by
  by_cases hz : s.size = 0
  · rw [Pl.isI_zero s hz]
    obtain rfl := Pl.size_zero s hz
    exact rint_zero w
  by_cases hl : 13 < s.size
  · rw [Pl.isI_long s hl]
    exact rint_long s w hs hl
  by_cases h0 : s[0].toNat = 48
  · by_cases h1 : 1 < s.size
    · rw [Pl.isI_lead s h1 h0]
      exact rint_lead s w (by omega) h1 h0
    · exact rint_run s w (by omega) (by omega) (.inl ⟨by simp [h0], by simp; omega⟩) _ (Pl.isI_rest s (by omega) (fun _ => by omega))
  · have b0 : ((s[0].toNat : Int) == 48) = false := by simp; omega
    exact rint_run s w (by omega) (by omega) (by
      by_cases h1 : 1 < (s.size : Int)
      · exact .inr (.inl ⟨b0, decide_eq_true h1⟩)
      · exact .inr (.inr ⟨b0, decide_eq_false h1⟩)) _ (Pl.isI_rest s (by omega) (fun e => absurd e h0))
theorem rint_is (s : ByteArray) (b : Bool) (h : Pl.isI s = b) (w : World) (hs : s.size ≤ maxLen) :
    Calls Tryd.prog 69 #[.string s] w fun e w' => e = .returned (.bool b) ∧ w = w' := h ▸ rint_any s w hs
end Go.Proofs.YtpaleolcfhnenaaDoor

namespace Go.Proofs.YtpaleolcfhnenaaDoor
open Go.RowKit
set_option linter.unusedVariables false
set_option linter.unusedSimpArgs false

theorem empty_of (s : ByteArray) (h : s.size = 0) : s.toList.isEmpty = true := by rw [Pl.toList_eq, List.isEmpty_iff_length_eq_zero, ← Lib.size_eq]; exact h
/-- A string against two literals. -/
theorem two_cases (s : ByteArray) (a b : List UInt8) : s = ⟨a.toArray⟩ ∨ s = ⟨b.toArray⟩ ∨ ((s.toList == a) = false ∧ (s.toList == b) = false ∧ (s.data.toList == a) = false ∧ (s.data.toList == b) = false) := by
  by_cases h1 : s.data.toList = a
  · exact .inl (str_of s _ h1)
  by_cases h2 : s.data.toList = b
  · exact .inr (.inl (str_of s _ h2))
  exact .inr (.inr ⟨str_no s _ h1, str_no s _ h2, by simpa using h1, by simpa using h2⟩)
theorem isW_18 (s : ByteArray) : Pl.isW 18 s = (s.data.toList == [116, 114, 117, 101] || s.data.toList == [102, 97, 108, 115, 101]) := rfl
theorem isW_23 (s : ByteArray) : Pl.isW 23 s = (s.data.toList == [115, 101, 108, 102]) := rfl
theorem isW_25 (s : ByteArray) : Pl.isW 25 s = (s.data.toList == [45] || s.data.toList == [33]) := rfl
theorem isW_rest (k : Int) (s : ByteArray) (h1 : ¬ k = 18) (h2 : ¬ k = 23) (h3 : ¬ k = 25) : Pl.isW k s = decide (0 < Pl.lvo s) := by unfold Pl.isW; rw [if_neg h1, if_neg h2, if_neg h3]

theorem isWord_any (k : Int) (s : ByteArray) (n m gc dc : Nat) (ga da : Option Addr) (w : World) :
    Calls Tryd.prog 95 #[.agg #[.int .i64 k, .string s, .slice ga n gc, .slice da m dc]] w fun e w' => e = .returned (.bool (Pl.isW k s)) ∧ Below w.heap.size w w' := by
  by_cases e18 : k = 18
  · subst e18
    rw [isW_18]
    rcases two_cases s [116, 114, 117, 101] [102, 97, 108, 115, 101] with rfl | rfl | ⟨h1, h2, h3, h4⟩
    · go_enter Tryd.func95, Tryd.ntmps95
      go_wp2_with fail
      go_ret
      exact ⟨rfl, (Below.refl _ _).alloc (Nat.le_refl _) _⟩
    · go_enter Tryd.func95, Tryd.ntmps95
      go_wp2_with fail
      go_ret
      exact ⟨rfl, (Below.refl _ _).alloc (Nat.le_refl _) _⟩
    · rw [h3, h4]
      go_enter Tryd.func95, Tryd.ntmps95
      go_wp2_with fail
      go_ret
      exact ⟨rfl, (Below.refl _ _).alloc (Nat.le_refl _) _⟩
  by_cases e23 : k = 23
  · subst e23
    rw [isW_23]
    rcases two_cases s [115, 101, 108, 102] [] with rfl | rfl | ⟨h1, h2, h3, h4⟩
    · go_enter Tryd.func95, Tryd.ntmps95
      go_wp2_with fail
      go_ret
      exact ⟨rfl, (Below.refl _ _).alloc (Nat.le_refl _) _⟩
    · go_enter Tryd.func95, Tryd.ntmps95
      go_wp2_with fail
      go_ret
      exact ⟨rfl, (Below.refl _ _).alloc (Nat.le_refl _) _⟩
    · rw [h3]
      go_enter Tryd.func95, Tryd.ntmps95
      go_wp2_with fail
      go_ret
      exact ⟨rfl, (Below.refl _ _).alloc (Nat.le_refl _) _⟩
  by_cases e25 : k = 25
  · subst e25
    rw [isW_25]
    rcases two_cases s [45] [33] with rfl | rfl | ⟨h1, h2, h3, h4⟩
    · go_enter Tryd.func95, Tryd.ntmps95
      go_wp2_with fail
      go_ret
      exact ⟨rfl, (Below.refl _ _).alloc (Nat.le_refl _) _⟩
    · go_enter Tryd.func95, Tryd.ntmps95
      go_wp2_with fail
      go_ret
      exact ⟨rfl, (Below.refl _ _).alloc (Nat.le_refl _) _⟩
    · rw [h3, h4]
      go_enter Tryd.func95, Tryd.ntmps95
      go_wp2_with fail
      go_ret
      exact ⟨rfl, (Below.refl _ _).alloc (Nat.le_refl _) _⟩
  rw [isW_rest k s e18 e23 e25]
  have b18 : (k == 18) = false := by simpa using e18
  have b23 : (k == 23) = false := by simpa using e23
  have b25 : (k == 25) = false := by simpa using e25
  obtain ⟨v, hv⟩ : ∃ v, v = Pl.lvo s := ⟨_, rfl⟩
  rw [← hv]
  have HV := Lib.hid hv
  clear hv e18 e23 e25
  go_enter Tryd.func95, Tryd.ntmps95
  go_wp2_with (go_at_call 103; refine (levelOf_is _ _ HV.out.symm _).mono ?_; rintro e w' ⟨rfl, rfl⟩)
  all_goals go_ret
  all_goals exact ⟨rfl, (Below.refl _ _).alloc (Nat.le_refl _) _⟩
theorem isWord_is (k : Int) (s : ByteArray) (b : Bool) (h : Pl.isW k s = b) (n m gc dc : Nat) (ga da : Option Addr) (w : World) :
    Calls Tryd.prog 95 #[.agg #[.int .i64 k, .string s, .slice ga n gc, .slice da m dc]] w fun e w' => e = .returned (.bool b) ∧ Below w.heap.size w w' := h ▸ isWord_any k s n m gc dc ga da w

/-- The cell of the table of texts behind the box of a node. -/
theorem txt_cell {w : World} (hT : Tabs w) (k : Nat) (hk : k < 27) (q : Int) (hq : q = Pl.txt k) (o : Obj) : (w.alloc o).cell? ⟨2, k, none⟩ = some (.int .i64 q) := by
  rw [hq]; exact (hT.later ((Below.refl _ _).alloc (Nat.le_refl _) o)).2.2.2.2 k hk
theorem rword_at (k : Nat) (hk : k < 27) (s : ByteArray) (n m gc dc : Nat) (ga da : Option Addr) (w : World) (hT : Tabs w) :
    Calls Tryd.prog 88 #[.agg #[.int .i64 k, .string s, .slice ga n gc, .slice da m dc]] w fun e w' => e = .returned (.bool (Pl.wordOK k s)) ∧ Below w.heap.size w w' := by
  obtain ⟨q, hq⟩ : ∃ q, q = Pl.txt k := ⟨_, rfl⟩
  have c1 := txt_cell hT k hk q hq (.cells #[.int .i64 k, .string s, .slice ga n gc, .slice da m dc] 25)
  unfold Pl.wordOK
  rw [← hq]
  clear hq hT
  by_cases h0 : q = 0
  · subst h0
    by_cases hz : s.size = 0
    · rw [show (if (0 : Int) = 0 then decide (s.size = 0) else if (0 : Int) = 4 then Pl.isW k s else true) = true by rw [if_pos rfl, decide_eq_true hz]]
      have s1 := empty_of s hz
      go_enter Tryd.func88, Tryd.ntmps88
      go_wp2_with fail
      go_ret
      exact ⟨rfl, (Below.refl _ _).alloc (Nat.le_refl _) _⟩
    · rw [show (if (0 : Int) = 0 then decide (s.size = 0) else if (0 : Int) = 4 then Pl.isW k s else true) = false by rw [if_pos rfl, decide_eq_false hz]]
      obtain ⟨s1, s2, s3⟩ := Pl.not_empty s (by omega)
      go_enter Tryd.func88, Tryd.ntmps88
      go_wp2_with fail
      go_ret
      exact ⟨rfl, (Below.refl _ _).alloc (Nat.le_refl _) _⟩
  by_cases h4 : q = 4
  · subst h4
    obtain ⟨b, hb⟩ : ∃ b, b = Pl.isW k s := ⟨_, rfl⟩
    rw [← hb, show (if (4 : Int) = 0 then decide (s.size = 0) else if (4 : Int) = 4 then b else true) = b from rfl]
    have HB := Lib.hid hb
    clear hb h0
    go_enter Tryd.func88, Tryd.ntmps88
    go_wp2_with (go_at_call 95; refine (isWord_is _ _ _ HB.out.symm _ _ _ _ _ _ _).mono ?_; rintro e w' ⟨rfl, hbel⟩)
    go_ret
    exact ⟨rfl, ((Below.refl _ _).alloc (Nat.le_refl _) _).trans (hbel.mono (by simp))⟩
  · rw [if_neg h0, if_neg h4]
    have b0 : (q == 0) = false := by simpa using h0
    have b4 : (q == 4) = false := by simpa using h4
    go_enter Tryd.func88, Tryd.ntmps88
    go_wp2_with fail
    go_ret
    exact ⟨rfl, (Below.refl _ _).alloc (Nat.le_refl _) _⟩
theorem rname_at (k : Nat) (hk : k < 27) (s : ByteArray) (n m gc dc : Nat) (ga da : Option Addr) (w : World) (hT : Tabs w) (hs : s.size ≤ maxLen) :
    Calls Tryd.prog 90 #[.agg #[.int .i64 k, .string s, .slice ga n gc, .slice da m dc]] w fun e w' => e = .returned (.bool (Pl.nameOK k s)) ∧ Below w.heap.size w w' := by
  obtain ⟨q, hq⟩ : ∃ q, q = Pl.txt k := ⟨_, rfl⟩
  have c1 := txt_cell hT k hk q hq (.cells #[.int .i64 k, .string s, .slice ga n gc, .slice da m dc] 25)
  obtain ⟨b, hb⟩ : ∃ b, b = Pl.nameOK k s := ⟨_, rfl⟩
  rw [← hb]
  have hb2 := hb
  unfold Pl.nameOK at hb2
  rw [← hq] at hb2
  clear hq hT hb
  have HS := Lib.hid hs
  unfold maxLen at hs
  by_cases h2 : q = 2
  · subst h2
    rw [if_pos rfl] at hb2
    by_cases hz : s.size = 0
    · rw [decide_eq_true hz, Bool.true_or] at hb2
      subst hb2
      have s1 := empty_of s hz
      go_enter Tryd.func90, Tryd.ntmps90
      go_wp2_with fail
      go_ret
      exact ⟨rfl, (Below.refl _ _).alloc (Nat.le_refl _) _⟩
    · rw [decide_eq_false hz, Bool.false_or] at hb2
      obtain ⟨s1, s2, s3⟩ := Pl.not_empty s (by omega)
      have HB := Lib.hid hb2
      clear hb2
      go_enter Tryd.func90, Tryd.ntmps90
      go_wp2_with (go_at_call 98; refine (valid_is _ _ HB.out.symm _ HS.out).mono ?_; rintro e w' ⟨rfl, hbel⟩)
      go_ret
      exact ⟨rfl, ((Below.refl _ _).alloc (Nat.le_refl _) _).trans (hbel.mono (by simp))⟩
  rw [if_neg h2] at hb2
  by_cases h1 : q = 1
  · subst h1
    rw [if_pos rfl] at hb2
    have HB := Lib.hid hb2
    clear hb2 h2
    go_enter Tryd.func90, Tryd.ntmps90
    go_wp2_with (go_at_call 98; refine (valid_is _ _ HB.out.symm _ HS.out).mono ?_; rintro e w' ⟨rfl, hbel⟩)
    go_ret
    exact ⟨rfl, ((Below.refl _ _).alloc (Nat.le_refl _) _).trans (hbel.mono (by simp))⟩
  rw [if_neg h1] at hb2
  by_cases h3 : q = 3
  · subst h3
    rw [if_pos rfl] at hb2
    have HB := Lib.hid hb2
    clear hb2 h2 h1
    go_enter Tryd.func90, Tryd.ntmps90
    go_wp2_with (go_at_call 99; refine (int_is _ _ HB.out.symm _ HS.out).mono ?_; rintro e w' ⟨rfl, rfl⟩)
    go_ret
    exact ⟨rfl, (Below.refl _ _).alloc (Nat.le_refl _) _⟩
  rw [if_neg h3] at hb2
  subst hb2
  have b1 : (q == 1) = false := by simpa using h1
  have b2 : (q == 2) = false := by simpa using h2
  have b3 : (q == 3) = false := by simpa using h3
  go_enter Tryd.func90, Tryd.ntmps90
  go_wp2_with fail
  go_ret
  exact ⟨rfl, (Below.refl _ _).alloc (Nat.le_refl _) _⟩

/- ### The reference's -/
def namedB (k : Int) (s : ByteArray) : Bool := if k = 8 then decide (s.size ≠ 0) else decide (k = 2 ∨ k = 4 ∨ k = 5 ∨ k = 7 ∨ k = 9 ∨ k = 10 ∨ k = 11 ∨ k = 17 ∨ k = 19 ∨ k = 20 ∨ k = 21 ∨ k = 22)
def rwordB (k : Int) (s : ByteArray) : Bool := if k = 18 ∨ k = 23 ∨ k = 24 ∨ k = 25 then Pl.isW k s else decide (s.size = 0)
set_option maxHeartbeats 800000 in
theorem named_any (k : Int) (s : ByteArray) (n m gc dc : Nat) (ga da : Option Addr) (w : World) :
    Calls Tryd.prog 70 #[.agg #[.int .i64 k, .string s, .slice ga n gc, .slice da m dc]] w fun e w' => e = .returned (.bool (namedB k s)) ∧ Below w.heap.size w w' := by
  by_cases e8 : k = 8
  · subst e8
    rw [show namedB 8 s = decide (s.size ≠ 0) from rfl]
    by_cases hz : s.size = 0
    · rw [decide_eq_false (by omega : ¬ s.size ≠ 0)]
      have s1 := empty_of s hz
      have s2 : (!s.toList.isEmpty) = false := by rw [s1]; rfl
      go_enter Tryd.func70, Tryd.ntmps70
      go_wp2_with fail
      go_ret
      exact ⟨rfl, (Below.refl _ _).alloc (Nat.le_refl _) _⟩
    · rw [decide_eq_true (by omega : s.size ≠ 0)]
      obtain ⟨s1, s2, s3⟩ := Pl.not_empty s (by omega)
      go_enter Tryd.func70, Tryd.ntmps70
      go_wp2_with fail
      go_ret
      exact ⟨rfl, (Below.refl _ _).alloc (Nat.le_refl _) _⟩
  have b8 : (k == 8) = false := by simpa using e8
  obtain ⟨b, hb⟩ : ∃ b, b = namedB k s := ⟨_, rfl⟩
  rw [← hb]
  have hb2 := hb
  unfold namedB at hb2
  rw [if_neg e8] at hb2
  have HB := Lib.hid hb2
  clear hb hb2
  go_enter Tryd.func70, Tryd.ntmps70
  go_wp2_with fail
  all_goals go_ret
  all_goals refine ⟨ret_bool ?_, (Below.refl _ _).alloc (Nat.le_refl _) _⟩
  all_goals rw [HB.out, Bool.eq_iff_iff, decide_eq_true_eq]
  all_goals clear HB
  all_goals try simp only [beq_iff_eq, beq_eq_false_iff_ne, ne_eq] at *
  all_goals simp <;> omega
theorem named_is (k : Int) (s : ByteArray) (b : Bool) (h : namedB k s = b) (n m gc dc : Nat) (ga da : Option Addr) (w : World) :
    Calls Tryd.prog 70 #[.agg #[.int .i64 k, .string s, .slice ga n gc, .slice da m dc]] w fun e w' => e = .returned (.bool b) ∧ Below w.heap.size w w' := h ▸ named_any k s n m gc dc ga da w
theorem rlevel_is (k : Int) (s : ByteArray) (v : Int) (h : Pl.lv k s = v) (n m gc dc : Nat) (ga da : Option Addr) (w : World) :
    Calls Tryd.prog 92 #[.agg #[.int .i64 k, .string s, .slice ga n gc, .slice da m dc]] w fun e w' => e = .returned (.int .i64 v) ∧ Below w.heap.size w w' := h ▸ rlevel_any k s n m gc dc ga da w
theorem level_is (k : Int) (s : ByteArray) (v : Int) (h : Pl.lv k s = v) (n m gc dc : Nat) (ga da : Option Addr) (w : World) (hT : Tabs w) :
    Calls Tryd.prog 96 #[.agg #[.int .i64 k, .string s, .slice ga n gc, .slice da m dc]] w fun e w' => e = .returned (.int .i64 v) ∧ Below w.heap.size w w' := h ▸ level_any k s n m gc dc ga da w hT
set_option maxHeartbeats 800000 in
theorem rword_any (k : Int) (s : ByteArray) (n m gc dc : Nat) (ga da : Option Addr) (w : World) :
    Calls Tryd.prog 80 #[.agg #[.int .i64 k, .string s, .slice ga n gc, .slice da m dc]] w fun e w' => e = .returned (.bool (rwordB k s)) ∧ Below w.heap.size w w' := by
  by_cases e18 : k = 18
  · subst e18
    rw [show rwordB 18 s = Pl.isW 18 s from rfl, isW_18]
    rcases two_cases s [116, 114, 117, 101] [102, 97, 108, 115, 101] with rfl | rfl | ⟨h1, h2, h3, h4⟩
    · go_enter Tryd.func80, Tryd.ntmps80
      go_wp2_with fail
      go_ret
      exact ⟨rfl, (Below.refl _ _).alloc (Nat.le_refl _) _⟩
    · go_enter Tryd.func80, Tryd.ntmps80
      go_wp2_with fail
      go_ret
      exact ⟨rfl, (Below.refl _ _).alloc (Nat.le_refl _) _⟩
    · rw [h3, h4]
      go_enter Tryd.func80, Tryd.ntmps80
      go_wp2_with fail
      go_ret
      exact ⟨rfl, (Below.refl _ _).alloc (Nat.le_refl _) _⟩
  by_cases e23 : k = 23
  · subst e23
    rw [show rwordB 23 s = Pl.isW 23 s from rfl, isW_23]
    rcases two_cases s [115, 101, 108, 102] [] with rfl | rfl | ⟨h1, h2, h3, h4⟩
    · go_enter Tryd.func80, Tryd.ntmps80
      go_wp2_with fail
      go_ret
      exact ⟨rfl, (Below.refl _ _).alloc (Nat.le_refl _) _⟩
    · go_enter Tryd.func80, Tryd.ntmps80
      go_wp2_with fail
      go_ret
      exact ⟨rfl, (Below.refl _ _).alloc (Nat.le_refl _) _⟩
    · rw [h3]
      go_enter Tryd.func80, Tryd.ntmps80
      go_wp2_with fail
      go_ret
      exact ⟨rfl, (Below.refl _ _).alloc (Nat.le_refl _) _⟩
  by_cases e25 : k = 25
  · subst e25
    rw [show rwordB 25 s = Pl.isW 25 s from rfl, isW_25]
    rcases two_cases s [45] [33] with rfl | rfl | ⟨h1, h2, h3, h4⟩
    · go_enter Tryd.func80, Tryd.ntmps80
      go_wp2_with fail
      go_ret
      exact ⟨rfl, (Below.refl _ _).alloc (Nat.le_refl _) _⟩
    · go_enter Tryd.func80, Tryd.ntmps80
      go_wp2_with fail
      go_ret
      exact ⟨rfl, (Below.refl _ _).alloc (Nat.le_refl _) _⟩
    · rw [h3, h4]
      go_enter Tryd.func80, Tryd.ntmps80
      go_wp2_with fail
      go_ret
      exact ⟨rfl, (Below.refl _ _).alloc (Nat.le_refl _) _⟩
  by_cases e24 : k = 24
  · subst e24
    rw [show rwordB 24 s = decide (0 < Pl.lv 24 s) from rfl]
    obtain ⟨v, hv⟩ : ∃ v, v = Pl.lv 24 s := ⟨_, rfl⟩
    rw [← hv]
    have HV := Lib.hid hv
    clear hv e18 e23 e25
    go_enter Tryd.func80, Tryd.ntmps80
    go_wp2_with (go_at_call 92; refine (rlevel_is _ _ _ HV.out.symm _ _ _ _ _ _ _).mono ?_; rintro e w' ⟨rfl, hbel⟩)
    all_goals go_ret
    all_goals exact ⟨rfl, ((Below.refl _ _).alloc (Nat.le_refl _) _).trans (hbel.mono (by simp))⟩
  rw [show rwordB k s = decide (s.size = 0) by unfold rwordB; rw [if_neg (by omega)]]
  have b18 : (k == 18) = false := by simpa using e18
  have b23 : (k == 23) = false := by simpa using e23
  have b25 : (k == 25) = false := by simpa using e25
  have b24 : (k == 24) = false := by simpa using e24
  by_cases hz : s.size = 0
  · rw [decide_eq_true hz]
    have s1 := empty_of s hz
    go_enter Tryd.func80, Tryd.ntmps80
    go_wp2_with fail
    go_ret
    exact ⟨rfl, (Below.refl _ _).alloc (Nat.le_refl _) _⟩
  · rw [decide_eq_false hz]
    obtain ⟨s1, s2, s3⟩ := Pl.not_empty s (by omega)
    go_enter Tryd.func80, Tryd.ntmps80
    go_wp2_with fail
    go_ret
    exact ⟨rfl, (Below.refl _ _).alloc (Nat.le_refl _) _⟩
theorem rword_is (k : Int) (s : ByteArray) (b : Bool) (h : rwordB k s = b) (n m gc dc : Nat) (ga da : Option Addr) (w : World) :
    Calls Tryd.prog 80 #[.agg #[.int .i64 k, .string s, .slice ga n gc, .slice da m dc]] w fun e w' => e = .returned (.bool b) ∧ Below w.heap.size w w' := h ▸ rword_any k s n m gc dc ga da w
end Go.Proofs.YtpaleolcfhnenaaDoor
