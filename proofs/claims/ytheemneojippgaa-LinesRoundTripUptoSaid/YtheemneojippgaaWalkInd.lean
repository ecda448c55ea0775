/- The walks of lines.Indent, lines.Count. -/
import Derived.Test.YtheemneojippgaaRows
import Derived.Test.YtheemneojippgaaPlain
import Derived.WalkKit
import Derived.WalkSpells
import Derived.WalkLawsBesides
import Derived.Lib.Hide
namespace Go.Proofs.Ytheemneojippgaa
open Go.RowKit
set_option linter.unusedVariables false
set_option linter.unusedSimpArgs false

theorem ret_str {a b : ByteArray} (h : a = b) : Ending.returned (.string a) = .returned (.string b) := by rw [h]
theorem ret_int {k : IntKind} {a b : Int} (h : a = b) : Ending.returned (.int k a) = .returned (.int k b) := by rw [h]

def indOf (s : ByteArray) : ByteArray := s.extract 0 (Pl.ind s.data.toList)

set_option maxHeartbeats 400000 in
theorem indent_any (s : ByteArray) (w : World) (hs : s.size ≤ maxLen) :
    Calls Try.prog 16 #[.string s] w fun e w' => e = .returned (.string (indOf s)) ∧ Below w.heap.size w w' := by
  unfold maxLen at hs
  go_enter Try.func16, Try.ntmps16
  go_wp2
  go_loopw [] (fun w' => ∃ pos, w' = w.iter s pos ∧ Pl.Blanks s pos) (fun w' => s.size - w'.iterPos w.heap.size)
  case atStart => exact ⟨0, rfl, Nat.zero_le _, fun k hk h => absurd h (Nat.not_lt_zero _)⟩
  case round =>
    obtain ⟨pos, rfl, hbl⟩ := hrel
    by_cases hp : pos < s.size
    · obtain ⟨c, n, hd, hr⟩ := Pl.rune_step s pos hp
      have hnx : ∀ ty, (Instr.next (.pointer (some ⟨w.heap.size, 0, none⟩)) true ty).run Try.prog (w.iter s pos) = .ok (.tuple #[.bool true, .int .i64 pos, .int .i32 c]) (w.iter s (pos + n)) := fun ty => by rw [run_next_any w s pos ty hp, hd]
      clear hd
      go_wp2
      · have hc : (c : Int) = 32 := by assumption
        obtain ⟨hn, hb⟩ := Pl.blank_go s pos hp c n hr hbl (.inl hc)
        subst hn
        exact ⟨⟨pos + 1, rfl, hb⟩, by simp; omega⟩
      · have hc : ¬ (c : Int) = 32 := by assumption
        have hc2 : ((c : Int) != 32) = true ∧ ((c : Int) != 9) = true := by assumption
        have hi := Pl.blank_stop s pos hp c n hr hbl hc (by simpa using hc2.2)
        go_ret
        exact ⟨ret_str (by unfold indOf; rw [hi]), (Below.refl _ _).alloc (Nat.le_refl _) _⟩
      · have hc : ¬ (c : Int) = 32 := by assumption
        have hc2 : ((c : Int) != 32) = false ∨ ((c : Int) != 9) = false := by assumption
        have h9 : (c : Int) = 9 := by rcases hc2 with h | h <;> simp at h <;> omega
        obtain ⟨hn, hb⟩ := Pl.blank_go s pos hp c n hr hbl (.inr h9)
        subst hn
        exact ⟨⟨pos + 1, rfl, hb⟩, by simp; omega⟩
    · have hnx : ∀ ty, (Instr.next (.pointer (some ⟨w.heap.size, 0, none⟩)) true ty).run Try.prog (w.iter s pos) = _ := fun ty => run_next_end w s pos ty hp
      have hi := Pl.blank_end s pos hp hbl
      have HI := Lib.hid hi; clear hi
      go_wp2
      go_ret
      refine ⟨ret_str ?_, (Below.refl _ _).alloc (Nat.le_refl _) _⟩
      have := hbl.1
      unfold indOf; rw [HI.out]
      rw [show pos = s.size from by omega, Pl.extract_all]

set_option maxHeartbeats 400000 in
theorem count_any (s : ByteArray) (w : World) (hs : s.size ≤ 140737488351232) :
    Calls Try.prog 12 #[.string s] w fun e w' => e = .returned (.int .i64 (Pl.lns s.data.toList).length) ∧ Below w.heap.size w w' := by
  go_enter Try.func12, Try.ntmps12
  go_wp2
  go_loopw [3] (fun n w' => ∃ pos, w' = w.iter s pos ∧ pos ≤ s.size ∧ n = .int .i64 (Pl.sk s pos).1.length) (fun _ w' => s.size - w'.iterPos w.heap.size)
  case atStart => exact ⟨0, rfl, Nat.zero_le _, rfl⟩
  case round =>
    obtain ⟨pos, rfl, hps, rfl⟩ := hrel
    have hlen := Pl.sk_len s pos hps
    by_cases hp : pos < s.size
    · obtain ⟨c, n, hd, hr⟩ := Pl.rune_step s pos hp
      have hnx : ∀ ty, (Instr.next (.pointer (some ⟨w.heap.size, 0, none⟩)) true ty).run Try.prog (w.iter s pos) = .ok (.tuple #[.bool true, .int .i64 pos, .int .i32 c]) (w.iter s (pos + n)) := fun ty => by rw [run_next_any w s pos ty hp, hd]
      clear hd
      go_wp2
      · have hc0 : ((c : Int) == 10) = true := by assumption
        have hc : (c : Int) = 10 := by simpa using hc0
        obtain ⟨hn, hb⟩ := Pl.sk_rune_nl s pos hp c n hr hc
        subst hn
        exact ⟨⟨pos + 1, rfl, by omega, by rw [hb]; simp⟩, by simp; omega⟩
      · have hc0 : ((c : Int) == 10) = false := by assumption
        have hc : ¬ (c : Int) = 10 := by simpa using hc0
        obtain ⟨h1, h2, h3, h4⟩ := Pl.sk_rune_no s pos hp c n hr hc
        exact ⟨⟨pos + n, rfl, by omega, by rw [h3]⟩, by simp; omega⟩
    · have hnx : ∀ ty, (Instr.next (.pointer (some ⟨w.heap.size, 0, none⟩)) true ty).run Try.prog (w.iter s pos) = _ := fun ty => run_next_end w s pos ty hp
      have hpe : pos = s.size := by omega
      subst hpe
      by_cases h0 : s.toList = []
      · go_wp2
        go_ret
        exact ⟨ret_int (by rw [Pl.lns_empty s h0]), (Below.refl _ _).alloc (Nat.le_refl _) _⟩
      · have h1 : 1 ≤ s.size := Pl.size_pos s h0
        have e := Pl.lns_size s (by omega)
        have E := Lib.hid e; clear e
        go_wp2
        · have h2 : (!s.toList.isEmpty) = true ∧ ((s[s.size - 1].toNat : Int) != 10) = true := by assumption
          go_ret
          refine ⟨ret_int ?_, (Below.refl _ _).alloc (Nat.le_refl _) _⟩
          rw [E.out, if_neg (by have := h2.2; simp at this; omega)]; simp
        · have h2 : (!s.toList.isEmpty) = false ∨ ((s[s.size - 1].toNat : Int) != 10) = false := by assumption
          go_ret
          refine ⟨ret_int ?_, (Below.refl _ _).alloc (Nat.le_refl _) _⟩
          have h4 : ((s[s.size - 1].toNat : Int) != 10) = false := by
            rcases h2 with h | h
            · simp [h0] at h
            · exact h
          rw [E.out, if_pos (by simp at h4; omega)]; simp
end Go.Proofs.Ytheemneojippgaa
