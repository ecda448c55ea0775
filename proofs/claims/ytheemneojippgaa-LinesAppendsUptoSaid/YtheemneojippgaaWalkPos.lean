/- The walk of lines.Position. -/
import Derived.Test.YtheemneojippgaaWalkInd
namespace Go.Proofs.Ytheemneojippgaa
open Go.RowKit
set_option linter.unusedVariables false
set_option linter.unusedSimpArgs false

theorem ret_three {a b c a' b' c' : Int} (h1 : a = a') (h2 : b = b') (h3 : c = c') : Ending.returned (.tuple #[.int .i64 a, .int .i64 b, .int .i64 c]) = .returned (.tuple #[.int .i64 a', .int .i64 b', .int .i64 c']) := by rw [h1, h2, h3]
theorem ret_two {a b a' b' : Int} (h1 : a = a') (h2 : b = b') : Ending.returned (.tuple #[.int .i64 a, .int .i64 b]) = .returned (.tuple #[.int .i64 a', .int .i64 b']) := by rw [h1, h2]

set_option maxHeartbeats 400000 in
theorem position_out (s : ByteArray) (at' : Int) (w : World) (hs : s.size ≤ 140737488351232) (h : at' < 0 ∨ (s.size : Int) < at') :
    Calls Try.prog 19 #[.string s, .int .i64 at'] w fun e w' => e = .returned (.tuple #[.int .i64 0, .int .i64 0, .int .i64 2]) ∧ Below w.heap.size w w' := by
  rcases h with h | h
  · go_enter Try.func19, Try.ntmps19
    go_wp2
    go_ret3
    exact ⟨rfl, Below.refl _ _⟩
  · by_cases h0 : at' < 0
    · omega
    go_enter Try.func19, Try.ntmps19
    go_wp2
    go_ret3
    exact ⟨rfl, Below.refl _ _⟩

set_option maxHeartbeats 400000 in
theorem position_in (s : ByteArray) (a : Nat) (w : World) (hs : s.size ≤ 140737488351232) (ha : a ≤ s.size) :
    Calls Try.prog 19 #[.string s, .int .i64 a] w fun e w' => e = .returned (.tuple #[.int .i64 (Pl.lineOf s a), .int .i64 (Pl.colOf s a), .int .i64 0]) ∧ Below w.heap.size w w' := by
  have hx := Pl.extract_size s a ha
  have hk := Pl.sk_extract s a
  obtain ⟨t, ht⟩ : ∃ t, t = s.extract 0 a := ⟨_, rfl⟩
  have h1 : ¬ (a : Int) < 0 := by omega
  have h2 : ¬ (s.size : Int) < (a : Int) := by omega
  have hsl : ∀ wx, (Instr.slice 9 (.string s) none (some (.int .i64 (a : Int))) none).run Try.prog wx = .ok (.string t) wx := fun wx => by rw [ht, run_slice_string_to_if wx 9 s .i64 a Try.underlying9, if_pos ⟨by omega, by omega⟩]; rfl
  rw [← ht] at hx hk
  clear ht
  have hts : t.size ≤ a := by omega
  have hst : a ≤ t.size := by omega
  have HK := Lib.hid hk
  have HX := Lib.hid hx
  clear hk hx
  go_enter Try.func19, Try.ntmps19
  go_wp2
  go_loopw [7, 8] (fun l st w' => ∃ pos st0 : Nat, w' = w.iter t pos ∧ pos ≤ t.size ∧ st0 + (Pl.sk t pos).2.length = pos ∧ l = .int .i64 ((Pl.sk t pos).1.length + 1) ∧ st = .int .i64 st0) (fun _ _ w' => t.size - w'.iterPos w.heap.size)
  case atStart => exact ⟨0, 0, rfl, Nat.zero_le _, rfl, rfl, rfl⟩
  case round =>
    obtain ⟨pos, st0, rfl, hps, hst0, rfl, rfl⟩ := hrel
    have hlen := Pl.sk_len t pos hps
    have HS := Lib.hid hst0; clear hst0
    by_cases hp : pos < t.size
    · obtain ⟨c, n, hd, hr⟩ := Pl.rune_step t pos hp
      have hnx : ∀ ty, (Instr.next (.pointer (some ⟨w.heap.size, 0, none⟩)) true ty).run Try.prog (w.iter t pos) = .ok (.tuple #[.bool true, .int .i64 pos, .int .i32 c]) (w.iter t (pos + n)) := fun ty => by rw [run_next_any w t pos ty hp, hd]
      clear hd
      go_wp2
      · have hc0 : ((c : Int) == 10) = true := by assumption
        have hc : (c : Int) = 10 := by simpa using hc0
        obtain ⟨hn, hb⟩ := Pl.sk_rune_nl t pos hp c n hr hc
        subst hn
        exact ⟨⟨pos + 1, pos + 1, rfl, by omega, by rw [hb]; simp, by rw [hb]; simp, by go_num⟩, by simp; omega⟩
      · have hc0 : ((c : Int) == 10) = false := by assumption
        have hc : ¬ (c : Int) = 10 := by simpa using hc0
        obtain ⟨h1, h2, h3, h4⟩ := Pl.sk_rune_no t pos hp c n hr hc
        exact ⟨⟨pos + n, st0, rfl, by omega, by rw [h4]; have := HS.out; omega, by rw [h3], rfl⟩, by simp; omega⟩
    · have hnx : ∀ ty, (Instr.next (.pointer (some ⟨w.heap.size, 0, none⟩)) true ty).run Try.prog (w.iter t pos) = _ := fun ty => run_next_end w t pos ty hp
      have hpe : pos = t.size := by omega
      have h5 : st0 ≤ pos := by have := HS.out; omega
      have h6 : pos ≤ a := by omega
      have h7 : a ≤ pos := by omega
      have HP := Lib.hid hpe; clear hpe
      go_wp2
      go_ret3
      have hpa : pos = a := by omega
      have e := HK.out pos h6
      have hs0 := HS.out
      rw [e, hpa] at hs0
      refine ⟨ret_three ?_ ?_ rfl, (Below.refl _ _).alloc (Nat.le_refl _) _⟩
      · rw [e, hpa]; unfold Pl.lineOf; simp
      · unfold Pl.colOf; omega
end Go.Proofs.Ytheemneojippgaa
