/- The walk of name.Valid. -/
import Derived.Test.YtmfmlkdojgbhfaaDoorWalkWord
namespace Go.Proofs.YtmfmlkdojgbhfaaDoor
open Go.RowKit
set_option linter.unusedVariables false
set_option linter.unusedSimpArgs false

theorem word_is (c : Nat) (b : Bool) (h : Pl.wd c = b) (w : World) :
    Calls Tryd.prog 65 #[.int .i32 c] w fun e w' => e = .returned (.bool b) ∧ w = w' := h ▸ word_any c w
theorem digit_is (c : Nat) (b : Bool) (h : Pl.dg c = b) (w : World) :
    Calls Tryd.prog 66 #[.int .i32 c] w fun e w' => e = .returned (.bool b) ∧ w = w' := h ▸ digit_any c w
theorem kw_is (s : ByteArray) (b : Bool) (h : Pl.kw s = b) (w : World) :
    Calls Tryd.prog 64 #[.string s] w fun e w' => e = .returned (.bool b) ∧ w = w' := h ▸ kw_any s w

theorem valid_zero (w : World) :
    Calls Tryd.prog 54 #[.string ⟨#[]⟩] w fun e w' => e = .returned (.bool false) ∧ Below w.heap.size w w' := by
  go_enter Tryd.func54, Tryd.ntmps54
  go_wp2_with fail
  go_ret
  exact ⟨rfl, Below.refl _ _⟩
theorem valid_long (s : ByteArray) (w : World) (hs : s.size ≤ maxLen) (h : 32 < s.size) :
    Calls Tryd.prog 54 #[.string s] w fun e w' => e = .returned (.bool false) ∧ Below w.heap.size w w' := by
  unfold maxLen at hs
  obtain ⟨h1, h2, h3⟩ := Pl.not_empty s (by omega)
  go_enter Tryd.func54, Tryd.ntmps54
  go_wp2_with fail
  go_ret
  exact ⟨rfl, Below.refl _ _⟩
theorem valid_kw (s : ByteArray) (w : World) (hs : s.size ≤ 32) (h : 1 ≤ s.size) (hk : Pl.kw s = true) :
    Calls Tryd.prog 54 #[.string s] w fun e w' => e = .returned (.bool false) ∧ Below w.heap.size w w' := by
  obtain ⟨h1, h2, h3⟩ := Pl.not_empty s (by omega)
  have HK := Lib.hid hk
  clear hk
  go_enter Tryd.func54, Tryd.ntmps54
  go_wp2_with (go_at_call 64; refine (kw_is _ _ HK.out _).mono ?_; rintro e w' ⟨rfl, rfl⟩)
  go_ret
  exact ⟨rfl, Below.refl _ _⟩
theorem valid_dg (s : ByteArray) (w : World) (hs : s.size ≤ 32) (h : 1 ≤ s.size) (hk : Pl.kw s = false) :
    Calls Tryd.prog 54 #[.string s] w fun e w' => e = .returned (.bool (Pl.nm s)) ∧ Below w.heap.size w w' := by
  obtain ⟨h1, h2, h3⟩ := Pl.not_empty s (by omega)
  have HK := Lib.hid hk
  clear hk
  go_enter Tryd.func54, Tryd.ntmps54
  go_wp2_with (go_at_call 64; refine (kw_is _ _ HK.out _).mono ?_; rintro e w' ⟨rfl, rfl⟩)
  go_loopw [] (fun w' => ∃ pos, w' = w.iter s pos ∧ pos ≤ s.size ∧ Pl.Wds s pos ∧ (0 < pos → Pl.dg s[0].toNat = false)) (fun w' => s.size - w'.iterPos w.heap.size)
  case atStart => exact ⟨0, rfl, Nat.zero_le _, fun k hk h => absurd h (Nat.not_lt_zero _), fun h => absurd h (Nat.lt_irrefl _)⟩
  case round =>
    obtain ⟨pos, rfl, hps, hwd, hdg⟩ := hrel
    have HW := Lib.hid hwd
    have HD := Lib.hid hdg
    clear hwd hdg
    by_cases hp : pos < s.size
    · obtain ⟨c, n, hd, hr⟩ := Pl.rune_step s pos hp
      have hnx : ∀ ty, (Instr.next (.pointer (some ⟨w.heap.size, 0, none⟩)) true ty).run Tryd.prog (w.iter s pos) = .ok (.tuple #[.bool true, .int .i64 pos, .int .i32 c]) (w.iter s (pos + n)) := fun ty => by rw [run_next_any w s pos ty hp, hd]
      clear hd
      cases hw : Pl.wd c
      · have HN := Lib.hid (Pl.nm_wd s pos hp (Pl.rune_no s pos hp c n hr hw))
        have HC := Lib.hid hw
        clear hw
        go_wp2_with (go_at_call 65; refine (word_is _ _ HC.out _).mono ?_; rintro e w' ⟨rfl, rfl⟩)
        go_ret
        exact ⟨ret_bool HN.out.symm, (Below.refl _ _).alloc (Nat.le_refl _) _⟩
      · obtain ⟨hn, hc⟩ := Pl.rune_wd s pos hp c n hr hw
        have HS := Lib.hid (Pl.wds_step s pos hp HW.out (by rw [← hc]; exact hw))
        subst hn
        have HC := Lib.hid hw
        have HE := Lib.hid hc
        clear hw hc
        by_cases h0 : pos = 0
        · have H0 := Lib.hid h0
          have hb0 : ((pos : Int) == 0) = true := by simp [h0]
          cases hdd : Pl.dg c
          · have HX : Hid (Pl.dg s[0].toNat = false) := Lib.hid (by
              have e := HE.out
              subst h0
              rw [← e]; exact hdd)
            have HG := Lib.hid hdd
            clear hdd h0
            go_wp2_with (first | (go_at_call 65; refine (word_is _ _ HC.out _).mono ?_; rintro e w' ⟨rfl, rfl⟩) | (go_at_call 66; refine (digit_is _ _ HG.out _).mono ?_; rintro e w' ⟨rfl, rfl⟩))
            exact ⟨⟨pos + 1, rfl, by omega, HS.out, fun _ => HX.out⟩, by simp; omega⟩
          · have HX : Hid (Pl.dg s[0].toNat = true) := Lib.hid (by
              have e := HE.out
              subst h0
              rw [← e]; exact hdd)
            have HG := Lib.hid hdd
            clear hdd h0
            go_wp2_with (first | (go_at_call 65; refine (word_is _ _ HC.out _).mono ?_; rintro e w' ⟨rfl, rfl⟩) | (go_at_call 66; refine (digit_is _ _ HG.out _).mono ?_; rintro e w' ⟨rfl, rfl⟩))
            go_ret
            exact ⟨ret_bool (Pl.nm_dg s (by omega) HX.out).symm, (Below.refl _ _).alloc (Nat.le_refl _) _⟩
        · have hb0 : ((pos : Int) == 0) = false := by simp; omega
          have HX := Lib.hid (HD.out (by omega))
          go_wp2_with (go_at_call 65; refine (word_is _ _ HC.out _).mono ?_; rintro e w' ⟨rfl, rfl⟩)
          exact ⟨⟨pos + 1, rfl, by omega, HS.out, fun _ => HX.out⟩, by simp; omega⟩
    · have hnx : ∀ ty, (Instr.next (.pointer (some ⟨w.heap.size, 0, none⟩)) true ty).run Tryd.prog (w.iter s pos) = _ := fun ty => run_next_end w s pos ty hp
      obtain rfl : pos = s.size := by omega
      have HN := Lib.hid (Pl.nm_yes s h hs HK.out (HD.out (by omega)) HW.out)
      go_wp2
      go_ret
      exact ⟨ret_bool HN.out.symm, (Below.refl _ _).alloc (Nat.le_refl _) _⟩

theorem valid_any (s : ByteArray) (w : World) (hs : s.size ≤ maxLen) :
    Calls Tryd.prog 54 #[.string s] w fun e w' => e = .returned (.bool (Pl.nm s)) ∧ Below w.heap.size w w' := by
  by_cases h0 : s.size = 0
  · rw [Pl.nm_zero s h0]
    obtain rfl := Pl.size_zero s h0
    exact valid_zero w
  · by_cases h1 : 32 < s.size
    · rw [Pl.nm_long s h1]
      exact valid_long s w hs h1
    · cases hk : Pl.kw s
      · exact valid_dg s w (by omega) (by omega) hk
      · rw [Pl.nm_kw s hk]
        exact valid_kw s w (by omega) (by omega) hk
theorem valid_is (s : ByteArray) (b : Bool) (h : Pl.nm s = b) (w : World) (hs : s.size ≤ maxLen) :
    Calls Tryd.prog 54 #[.string s] w fun e w' => e = .returned (.bool b) ∧ Below w.heap.size w w' := h ▸ valid_any s w hs
end Go.Proofs.YtmfmlkdojgbhfaaDoor
