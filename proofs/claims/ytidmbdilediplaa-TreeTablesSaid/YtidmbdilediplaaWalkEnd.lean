/- The walk of endOf. -/
import Derived.Test.YtidmbdilediplaaWalkShort
import Derived.Test.YtidmbdilediplaaPlainTab
namespace Go.Proofs.Ytidmbdilediplaa
open Go.RowKit Go.Deep
set_option linter.unusedVariables false
set_option linter.unusedSimpArgs false

/-- What endOf answers: the end, or none. -/
def endR : Option Nat → Ending
  | some e => .returned (.tuple #[.int .i64 e, .bool true])
  | none => .returned (.tuple #[.int .i64 0, .bool false])
set_option maxHeartbeats 1600000 in
theorem endOf_any {P : Nat → Prop} {w : World} (b o c : Nat) (l : List Pl.Rw) (R : Nat → Sl) (hx : TabIn P w (some ⟨b, o, none⟩) l R) (hat : ∀ (j : Nat) x, l[j]? = some x → At5 w b (o + j * 5) x (R j)) (i : Nat) (x : Pl.Rw) (hi : l[i]? = some x) (hl : l.length ≤ 1000000)
    (EB ec : Nat) (E : Nat → Nat) (hE : ∀ j, i < j → j < l.length → w.cell? ⟨EB, j, none⟩ = some (.int .i64 (E j)) ∧ j < E j ∧ E j ≤ 1000000) :
    Calls Try.prog 39 #[.slice (some ⟨b, o, none⟩) l.length c, .int .i64 i, .slice (some ⟨EB, 0, none⟩) l.length ec] w fun e w' => e = endR (Pl.endf l i E x.kids (i + 1)) ∧ w = w' := by
  have hil : i < l.length := (List.getElem?_eq_some_iff.1 hi).1
  obtain ⟨_, _, _, _, x4⟩ := (hat i x hi).cells
  have hks := (hx.2.2 i x hi).2.2
  have HA := Lib.hid hat
  have HE := Lib.hid hE
  obtain ⟨n, hn⟩ : ∃ n, n = l.length := ⟨_, rfl⟩
  have HN := Lib.hid hn
  rw [← hn] at hil hl ⊢
  generalize R i = r at *
  obtain ⟨ga, gc, ka, kc⟩ := r
  simp only at x4
  have hkl : x.kids.length ≤ maxLen := hks.1
  unfold maxLen at hkl
  have HKS := Lib.hid hks
  have hi0 : (0 : Int) ≤ (i : Int) := Int.natCast_nonneg _
  have hi1 : (i : Int) < (n : Int) := by omega
  clear hat hE hn hks hx hi
  go_enter Try.func39, Try.ntmps39
  go_wp2_with fail
  obtain ⟨m, hm⟩ : ∃ m, m = x.kids.length := ⟨_, rfl⟩
  rw [← hm] at hkl
  have HM := Lib.hid hm
  try rw [← hm]
  go_loop [8, 19] (fun e q => ∃ k a : Nat, k ≤ m ∧ q = .int .i64 k ∧ e = .int .i64 a ∧ i < a ∧ a ≤ 1000001 ∧ Pl.endf l i E x.kids (i + 1) = Pl.endf l i E (x.kids.drop k) a) (fun _ q => m - (intOf q).toNat)
  case atStart => exact ⟨0, i + 1, Nat.zero_le _, rfl, by go_num, by omega, by omega, by rw [List.drop_zero]⟩
  case round =>
    obtain ⟨k, a, hk, rfl, rfl, hia, ha1, heq⟩ := hrel
    have HEq := Lib.hid heq
    clear heq
    by_cases hlt : k < m
    · have hkx : k < x.kids.length := by rw [← HM.out]; exact hlt
      have hgx := List.getElem?_eq_getElem hkx
      have HD := Lib.hid (List.drop_eq_getElem_cons hkx)
      have hk0 : (0 : Int) ≤ (k : Int) := Int.natCast_nonneg _
      have hk1 : (k : Int) < (m : Int) := by omega
      rcases HKS.out.2 with h0 | ⟨kb, ko, hka, _, hat2⟩
      · rw [h0] at hkx; simp at hkx
      obtain rfl : ka = some ⟨kb, ko, none⟩ := hka
      have hc := hat2 k _ hgx
      generalize x.kids[k] = q at *
      clear hat2 hgx
      rcases (Classical.em (q = a)).symm with hqa | hqa
      · have HNo : Hid (Pl.endf l i E x.kids (i + 1) = none) := Lib.hid (by
          rw [HEq.out, HD.out, Pl.endf]
          cases l[a]? with
          | none => rfl
          | some y => simp only; rw [if_neg (fun h => hqa h.1)])
        obtain ⟨hb1, hb2⟩ := int_ne hqa
        clear hqa
        go_wp2_with fail
        go_ret2
        exact ⟨by rw [HNo.out]; rfl, rfl⟩
      subst hqa
      have ha0 : (0 : Int) ≤ (a : Int) := Int.natCast_nonneg _
      by_cases han : n ≤ a
      · have HNo : Hid (Pl.endf l i E x.kids (i + 1) = none) := Lib.hid (by
          rw [HEq.out, HD.out, Pl.endf, List.getElem?_eq_none (by rw [← HN.out]; exact han)])
        go_wp2_with fail
        go_ret2
        exact ⟨by rw [HNo.out]; rfl, rfl⟩
      have hal : a < l.length := by rw [← HN.out]; omega
      have hga := List.getElem?_eq_getElem hal
      have ha1' : (a : Int) < (n : Int) := by omega
      have hy0 := (HA.out a _ hga).cells.1
      have hE2 := HE.out a hia (by rw [← HN.out]; omega)
      have HGA := Lib.hid hga
      generalize l[a] = y at *
      clear hga
      rcases (Classical.em (y.parent = i)).symm with hpi | hpi
      · have HNo : Hid (Pl.endf l i E x.kids (i + 1) = none) := Lib.hid (by
          rw [HEq.out, HD.out, Pl.endf, HGA.out]; simp only; rw [if_neg (fun h => hpi h.2)])
        obtain ⟨hb1, hb2⟩ := int_ne hpi
        clear hpi
        go_wp2_with fail
        go_ret2
        exact ⟨by rw [HNo.out]; rfl, rfl⟩
      · have HNext : Hid (Pl.endf l i E x.kids (i + 1) = Pl.endf l i E (x.kids.drop (k + 1)) (E a)) := Lib.hid (by
          rw [HEq.out, HD.out, Pl.endf, HGA.out]; simp only; rw [if_pos ⟨trivial, hpi⟩])
        rw [hpi] at hy0
        obtain ⟨hce, hE3, hE4⟩ := hE2
        clear hpi
        go_wp2_with fail
        exact ⟨⟨k + 1, E a, by omega, by go_num, rfl, by omega, by omega, HNext.out⟩, by simp [intOf]; omega⟩
    · have hkm : k = m := by omega
      subst hkm
      have HYes : Hid (Pl.endf l i E x.kids (i + 1) = some a) := Lib.hid (by
        rw [HEq.out, List.drop_of_length_le (by rw [HM.out]; exact Nat.le_refl _)]; rfl)
      go_wp2_with fail
      go_ret2
      exact ⟨by rw [HYes.out]; rfl, rfl⟩
end Go.Proofs.Ytidmbdilediplaa
