/- The walks of lines.offsetWithin and lines.Offset. -/
import Derived.Test.YtheemneojippgaaWalkPos
namespace Go.Proofs.Ytheemneojippgaa
open Go.RowKit
set_option linter.unusedVariables false
set_option linter.unusedSimpArgs false

set_option maxHeartbeats 400000 in
theorem within_in (st0 en : Nat) (cl : Int) (w : World) (h1 : st0 ≤ en) (h2 : en ≤ 140737488351232) (hc1 : 1 ≤ cl) (hc2 : cl ≤ (en : Int) - st0 + 1) :
    Calls Try.prog 24 #[.int .i64 st0, .int .i64 en, .int .i64 cl] w fun e w' => e = .returned (.tuple #[.int .i64 (st0 + cl - 1), .int .i64 0]) ∧ w = w' := by
  have h3 : ¬ cl < 1 := by omega
  have h4 : ¬ (en : Int) - st0 + 1 < cl := by omega
  go_enter Try.func24, Try.ntmps24
  go_wp2
  go_ret2
  exact ⟨ret_two (by omega) rfl, rfl⟩

set_option maxHeartbeats 400000 in
theorem within_out (st0 en : Nat) (cl : Int) (w : World) (h1 : st0 ≤ en) (h2 : en ≤ 140737488351232) (hc : cl < 1 ∨ (en : Int) - st0 + 1 < cl) :
    Calls Try.prog 24 #[.int .i64 st0, .int .i64 en, .int .i64 cl] w fun e w' => e = .returned (.tuple #[.int .i64 0, .int .i64 2]) ∧ w = w' := by
  by_cases h3 : cl < 1
  · clear hc
    go_enter Try.func24, Try.ntmps24
    go_wp2
    go_ret2
    exact ⟨rfl, rfl⟩
  · have h4 : (en : Int) - st0 + 1 < cl := by omega
    clear hc
    go_enter Try.func24, Try.ntmps24
    go_wp2
    go_ret2
    exact ⟨rfl, rfl⟩

set_option maxHeartbeats 800000 in
theorem offset_any (s : ByteArray) (ln cl : Int) (w : World) (hs : s.size ≤ 140737488351232) :
    Calls Try.prog 21 #[.string s, .int .i64 ln, .int .i64 cl] w fun e w' => e = .returned (.tuple #[.int .i64 (Pl.offV s.data.toList (ln, cl)), .int .i64 (Pl.offE s.data.toList (ln, cl))]) ∧ Below w.heap.size w w' := by
  go_enter Try.func21, Try.ntmps21
  go_wp2
  go_loopw [8, 9] (fun l st w' => ∃ pos st0 : Nat, w' = w.iter s pos ∧ pos ≤ s.size ∧ st0 + (Pl.sk s pos).2.length = pos ∧ l = .int .i64 ((Pl.sk s pos).1.length + 1) ∧ st = .int .i64 st0 ∧ (ln < 1 ∨ ((Pl.sk s pos).1.length : Int) + 1 ≤ ln)) (fun _ _ w' => s.size - w'.iterPos w.heap.size)
  case atStart => exact ⟨0, 0, rfl, Nat.zero_le _, rfl, rfl, rfl, by rw [Pl.sk_zero]; simp; omega⟩
  case round =>
    obtain ⟨pos, st0, rfl, hps, hst0, rfl, rfl, hln⟩ := hrel
    have hlen := Pl.sk_len s pos hps
    have h5 : st0 ≤ pos := by omega
    have h6 : pos ≤ 140737488351232 := by omega
    by_cases hp : pos < s.size
    · obtain ⟨c, n, hd, hr⟩ := Pl.rune_step s pos hp
      have hnx : ∀ ty, (Instr.next (.pointer (some ⟨w.heap.size, 0, none⟩)) true ty).run Try.prog (w.iter s pos) = .ok (.tuple #[.bool true, .int .i64 pos, .int .i32 c]) (w.iter s (pos + n)) := fun ty => by rw [run_next_any w s pos ty hp, hd]
      clear hd
      by_cases hc : (c : Int) = 10
      · obtain ⟨hn, hb⟩ := Pl.sk_rune_nl s pos hp c n hr hc
        have h10 := (Pl.rune_nl s pos hp c n hr hc).2
        subst hn
        have hcb : ((c : Int) != 10) = false := by simp [hc]
        by_cases hl : ((Pl.sk s pos).1.length : Int) + 1 = ln
        · obtain ⟨g1, g2⟩ := Pl.off_hit s pos st0 hps hst0 (.inr ⟨hp, h10⟩) ln cl hl
          have HS := Lib.hid hst0
          have HL := Lib.hid hl
          have HB := Lib.hid hb
          have HC := Lib.hid hc
          have hlb : (((Pl.sk s pos).1.length : Int) + 1 == ln) = true := by simp [hl]
          clear hst0 hl hb hc h10
          by_cases hin : 1 ≤ cl ∧ cl ≤ (pos : Int) - st0 + 1
          · obtain ⟨i1, i2⟩ := hin
            have G := Lib.hid (g1 i1 i2)
            clear g1 g2
            go_wp2_with (go_at_call 24; refine (within_in _ _ _ _ h5 h6 i1 i2).mono ?_; rintro e w' ⟨rfl, rfl⟩)
            go_ret2
            exact ⟨ret_two G.out.1.symm G.out.2.symm, (Below.refl _ _).alloc (Nat.le_refl _) _⟩
          · have hout : cl < 1 ∨ (pos : Int) - st0 + 1 < cl := by omega
            have G := Lib.hid (g2 hout)
            have HO := Lib.hid hout
            clear g1 g2 hin hout
            go_wp2_with (go_at_call 24; refine (within_out _ _ _ _ h5 h6 HO.out).mono ?_; rintro e w' ⟨rfl, rfl⟩)
            go_ret2
            exact ⟨ret_two G.out.1.symm G.out.2.symm, (Below.refl _ _).alloc (Nat.le_refl _) _⟩
        · have hlb : (((Pl.sk s pos).1.length : Int) + 1 == ln) = false := by simpa using hl
          have HS := Lib.hid hst0
          have HB := Lib.hid hb
          have HC := Lib.hid hc
          clear hst0 hb hc
          go_wp2
          exact ⟨⟨pos + 1, pos + 1, rfl, by omega, by rw [HB.out]; simp, by rw [HB.out]; simp, by go_num, by rw [HB.out]; simp; omega⟩, by simp; omega⟩
      · obtain ⟨h1, h2, h3, h4⟩ := Pl.sk_rune_no s pos hp c n hr hc
        have hcb : ((c : Int) != 10) = true := by simpa using hc
        have HS := Lib.hid hst0
        have H3 := Lib.hid h3
        have H4 := Lib.hid h4
        clear hst0 h3 h4
        go_wp2
        exact ⟨⟨pos + n, st0, rfl, by omega, by rw [H4.out]; have := HS.out; omega, by rw [H3.out], rfl, by rw [H3.out]; exact hln⟩, by simp; omega⟩
    · have hnx : ∀ ty, (Instr.next (.pointer (some ⟨w.heap.size, 0, none⟩)) true ty).run Try.prog (w.iter s pos) = _ := fun ty => run_next_end w s pos ty hp
      have hpe : pos = s.size := by omega
      subst hpe
      by_cases hl : ((Pl.sk s s.size).1.length : Int) + 1 = ln
      · obtain ⟨g1, g2⟩ := Pl.off_hit s s.size st0 hps hst0 (.inl rfl) ln cl hl
        have HS := Lib.hid hst0
        have HL := Lib.hid hl
        have hlb : (((Pl.sk s s.size).1.length : Int) + 1 == ln) = true := by simp [hl]
        clear hst0 hl
        by_cases hin : 1 ≤ cl ∧ cl ≤ (s.size : Int) - st0 + 1
        · obtain ⟨i1, i2⟩ := hin
          have G := Lib.hid (g1 i1 i2)
          clear g1 g2
          go_wp2_with (go_at_call 24; refine (within_in _ _ _ _ h5 h6 i1 i2).mono ?_; rintro e w' ⟨rfl, rfl⟩)
          go_ret2
          exact ⟨ret_two G.out.1.symm G.out.2.symm, (Below.refl _ _).alloc (Nat.le_refl _) _⟩
        · have hout : cl < 1 ∨ (s.size : Int) - st0 + 1 < cl := by omega
          have G := Lib.hid (g2 hout)
          have HO := Lib.hid hout
          clear g1 g2 hin hout
          go_wp2_with (go_at_call 24; refine (within_out _ _ _ _ h5 h6 HO.out).mono ?_; rintro e w' ⟨rfl, rfl⟩)
          go_ret2
          exact ⟨ret_two G.out.1.symm G.out.2.symm, (Below.refl _ _).alloc (Nat.le_refl _) _⟩
      · have hlb : (((Pl.sk s s.size).1.length : Int) + 1 == ln) = false := by simpa using hl
        have G := Lib.hid (Pl.off_miss s ln cl (by omega))
        have HS := Lib.hid hst0
        clear hst0
        go_wp2
        go_ret2
        exact ⟨ret_two G.out.1.symm G.out.2.symm, (Below.refl _ _).alloc (Nat.le_refl _) _⟩
end Go.Proofs.Ytheemneojippgaa
