/- The walks of the reference: Indent, Position, Offset. -/
import Derived.Test.YtheemneojippgaaWalkRef
namespace Go.Proofs.Ytheemneojippgaa
open Go.RowKit
set_option linter.unusedVariables false
set_option linter.unusedSimpArgs false

set_option maxHeartbeats 800000 in
theorem rindent_any (s : ByteArray) (w : World) (hs : s.size ≤ 140737488351232) :
    Calls Try.prog 17 #[.string s] w fun e w' => e = .returned (.string (indOf s)) ∧ w = w' := by
  go_enter Try.func17, Try.ntmps17
  go_wp2
  go_loop [3] (fun n => ∃ pos, Pl.Blanks s pos ∧ n = .int .i64 pos) (fun n => s.size - (intOf n).toNat)
  case atStart => exact ⟨0, ⟨Nat.zero_le _, fun k hk h => absurd h (Nat.not_lt_zero _)⟩, rfl⟩
  case round =>
    obtain ⟨pos, hbl, rfl⟩ := hrel
    have hps := hbl.1
    by_cases hp : pos < s.size
    · by_cases h1 : s[pos].toNat = 32
      · have hb := Pl.blank_byte s pos hp hbl (.inl h1)
        have hcb : ((s[pos].toNat : Int) == 32) = true := by simp [h1]
        clear h1
        go_wp2
        exact ⟨⟨pos + 1, hb, by go_num⟩, by simp [intOf]; omega⟩
      · have hcb : ((s[pos].toNat : Int) == 32) = false := by simp; omega
        by_cases h2 : s[pos].toNat = 9
        · have hb := Pl.blank_byte s pos hp hbl (.inr h2)
          have hcb2 : ((s[pos].toNat : Int) == 9) = true := by simp [h2]
          clear h1 h2
          go_wp2
          exact ⟨⟨pos + 1, hb, by go_num⟩, by simp [intOf]; omega⟩
        · have hcb2 : ((s[pos].toNat : Int) == 9) = false := by simp; omega
          have HI := Lib.hid (Pl.blank_other s pos hp hbl h1 h2)
          clear h1 h2
          go_wp2
          go_ret
          exact ⟨ret_str (by unfold indOf; rw [HI.out]), rfl⟩
    · have HI := Lib.hid (Pl.blank_end s pos hp hbl)
      go_wp2
      go_ret
      exact ⟨ret_str (by unfold indOf; rw [HI.out]), rfl⟩

set_option maxHeartbeats 400000 in
theorem rposition_out (s : ByteArray) (at' : Int) (w : World) (hs : s.size ≤ 140737488351232) (h : at' < 0 ∨ (s.size : Int) < at') :
    Calls Try.prog 20 #[.string s, .int .i64 at'] w fun e w' => e = .returned (.tuple #[.int .i64 0, .int .i64 0, .int .i64 2]) ∧ w = w' := by
  rcases h with h | h
  · go_enter Try.func20, Try.ntmps20
    go_wp2
    go_ret3
    exact ⟨rfl, rfl⟩
  · by_cases h0 : at' < 0
    · omega
    go_enter Try.func20, Try.ntmps20
    go_wp2
    go_ret3
    exact ⟨rfl, rfl⟩

set_option maxHeartbeats 800000 in
theorem rposition_in (s : ByteArray) (a : Nat) (w : World) (hs : s.size ≤ 140737488351232) (ha : a ≤ s.size) :
    Calls Try.prog 20 #[.string s, .int .i64 a] w fun e w' => e = .returned (.tuple #[.int .i64 (Pl.lineOf s a), .int .i64 (Pl.colOf s a), .int .i64 0]) ∧ w = w' := by
  have h1 : ¬ (a : Int) < 0 := by omega
  have h2 : ¬ (s.size : Int) < (a : Int) := by omega
  go_enter Try.func20, Try.ntmps20
  go_wp2
  go_loop [7, 8, 9] (fun l c i => ∃ pos : Nat, pos ≤ a ∧ i = .int .i64 pos ∧ l = .int .i64 ((Pl.sk s pos).1.length + 1) ∧ c = .int .i64 ((Pl.sk s pos).2.length + 1)) (fun _ _ i => a - (intOf i).toNat)
  case atStart => exact ⟨0, Nat.zero_le _, rfl, rfl, rfl⟩
  case round =>
    obtain ⟨pos, hps, rfl, rfl, rfl⟩ := hrel
    have hlen := Pl.sk_len s pos (by omega)
    by_cases hp : pos < a
    · have hp2 : pos < s.size := by omega
      rcases Pl.sk_step s pos hp2 with ⟨hc, g1, g2⟩ | ⟨hc, g1, g2⟩
      · have hcb : ((s[pos].toNat : Int) == 10) = true := by simp [hc]
        have G1 := Lib.hid g1
        have G2 := Lib.hid g2
        clear hc g1 g2
        go_wp2
        exact ⟨⟨pos + 1, by omega, by go_num, by rw [G1.out]; go_num, by rw [G2.out]; rfl⟩, by simp [intOf]; omega⟩
      · have hcb : ((s[pos].toNat : Int) == 10) = false := by simp; omega
        have G1 := Lib.hid g1
        have G2 := Lib.hid g2
        clear hc g1 g2
        go_wp2
        exact ⟨⟨pos + 1, by omega, by go_num, by rw [G1.out], by rw [G2.out]; go_num⟩, by simp [intOf]; omega⟩
    · have hpa : pos = a := by omega
      subst hpa
      go_wp2
      go_ret3
      exact ⟨ret_three (by unfold Pl.lineOf; simp) (by unfold Pl.colOf; simp) rfl, rfl⟩

set_option maxHeartbeats 800000 in
theorem roffset_any (s : ByteArray) (ln cl : Int) (w : World) (hs : s.size ≤ 140737488351232) :
    Calls Try.prog 22 #[.string s, .int .i64 ln, .int .i64 cl] w fun e w' => e = .returned (.tuple #[.int .i64 (Pl.offV s.data.toList (ln, cl)), .int .i64 (Pl.offE s.data.toList (ln, cl))]) ∧ w = w' := by
  go_enter Try.func22, Try.ntmps22
  go_wp2
  go_loop [8] (fun i => ∃ a : Nat, a ≤ s.size + 1 ∧ i = .int .i64 a ∧ ∀ b, b < a → (((Pl.lineOf s b : Nat) : Int), ((Pl.colOf s b : Nat) : Int)) ≠ (ln, cl)) (fun i => s.size + 1 - (intOf i).toNat)
  case atStart => exact ⟨0, Nat.zero_le _, rfl, fun b hb => absurd hb (Nat.not_lt_zero _)⟩
  case round =>
    obtain ⟨a, ha, rfl, hno⟩ := hrel
    have HN := Lib.hid hno
    clear hno
    by_cases hp : a ≤ s.size
    · have hlc := Pl.line_le s a hp
      by_cases h1 : (Pl.lineOf s a : Int) = ln
      · have hb1 : ((Pl.lineOf s a : Int) == ln) = true := by simp [h1]
        by_cases h2 : (Pl.colOf s a : Int) = cl
        · have hb2 : ((Pl.colOf s a : Int) == cl) = true := by simp [h2]
          have HO := Lib.hid (Pl.offL_at s a hp (ln, cl) (by rw [h1, h2]))
          clear h1 h2
          go_wp2_with (go_at_call 20; refine (rposition_in s a _ hs hp).mono ?_; rintro e w' ⟨rfl, rfl⟩)
          go_ret2
          exact ⟨ret_two HO.out.1.symm HO.out.2.symm, rfl⟩
        · have hb2 : ((Pl.colOf s a : Int) == cl) = false := by simpa using h2
          have H2 := Lib.hid h2
          clear h1 h2
          go_wp2_with (go_at_call 20; refine (rposition_in s a _ hs hp).mono ?_; rintro e w' ⟨rfl, rfl⟩)
          refine ⟨⟨a + 1, by omega, by go_num, fun b hb => ?_⟩, by simp [intOf]; omega⟩
          by_cases e : b = a
          · subst e; intro h; exact H2.out (congrArg Prod.snd h)
          · exact HN.out b (by omega)
      · have hb1 : ((Pl.lineOf s a : Int) == ln) = false := by simpa using h1
        have H1 := Lib.hid h1
        clear h1
        go_wp2_with (go_at_call 20; refine (rposition_in s a _ hs hp).mono ?_; rintro e w' ⟨rfl, rfl⟩)
        all_goals
          refine ⟨⟨a + 1, by omega, by go_num, fun b hb => ?_⟩, by simp [intOf]; omega⟩
          by_cases e : b = a
          · subst e; intro h; exact H1.out (congrArg Prod.fst h)
          · exact HN.out b (by omega)
    · have HO := Lib.hid (Pl.offL_never s (ln, cl) (fun b hb => HN.out b (by omega)))
      go_wp2
      go_ret2
      exact ⟨ret_two HO.out.1.symm HO.out.2.symm, rfl⟩
end Go.Proofs.Ytheemneojippgaa
