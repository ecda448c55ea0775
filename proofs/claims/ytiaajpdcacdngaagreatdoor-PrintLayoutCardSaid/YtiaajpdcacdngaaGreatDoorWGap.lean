/- The walks of gapOf, joins and source's write. -/
import Derived.Test.YtiaajpdcacdngaaGreatDoorWNodeS
import Derived.Test.YtiaajpdcacdngaaGreatDoorWFix
import Derived.Test.YtiaajpdcacdngaaGreatDoorBGlue
import Derived.Test.YtiaajpdcacdngaaGreatDoorBBuild
import Derived.Test.YtiaajpdcacdngaaGreatDoorPMore
namespace Go.Proofs.YtiaajpdcacdngaaGreatDoor
open Go.RowKit
set_option linter.unusedVariables false
set_option linter.unusedSimpArgs false

/-- The gap before a word, as gapOf has it. -/
theorem gapW_is (e : Ev) : Pl.gapW e.wd = if e.g.length = 0 then e.gap else e.g.getD e.own ⟨#[]⟩ := rfl
set_option maxRecDepth 100000 in
set_option maxHeartbeats 800000 in
theorem gapOf_any (b o own n gc : Nat) (gap t x : ByteArray) (ga : Option Addr) (g : List ByteArray) (w : World) (hc : w.cell? ⟨b, o + 2, none⟩ = some (.slice ga n gc)) (hn : n = g.length) (hs : Strs (fun b => b < w.heap.size) w ga g) (ho : g = [] ∨ own < g.length) (hx : x = if g.length = 0 then gap else g.getD own ⟨#[]⟩) :
    Calls Tryz.prog 55 #[.agg #[.pointer (some ⟨b, o, none⟩), .int .i64 (own : Nat), .string gap, .string t]] w fun e w' => e = .returned (.string x) ∧ Below w.heap.size w w' := by
  have hb := World.block_lt_of_cell? w _ hc
  have B0 := Lib.hid (box_low w (.cells #[.pointer (some ⟨b, o, none⟩), .int .i64 (own : Nat), .string gap, .string t] 46))
  have c2 : (w.alloc (.cells #[.pointer (some ⟨b, o, none⟩), .int .i64 (own : Nat), .string gap, .string t] 46)).cell? ⟨b, o + 2, none⟩ = some (.slice ga n gc) := (World.cell?_of_block (w := w) (a := ⟨b, o + 2, none⟩) (Below.heap_alloc w _ b hb)).trans hc
  rcases Nat.eq_zero_or_pos n with h0 | h0
  · subst h0
    rw [if_pos hn.symm] at hx
    subst hx
    clear hn hs ho hc
    go_enter Tryz.func55, Tryz.ntmps55
    go_wp2_with fail
    go_ret
    exact ⟨rfl, B0.out⟩
  · have hog : own < g.length := by
      rcases ho with h | h
      · rw [h] at hn; simp at hn; omega
      · exact h
    rw [if_neg (by omega), List.getD_eq_getElem?_getD, List.getElem?_eq_getElem hog] at hx
    obtain ⟨hl, _, hs⟩ := hs
    have hown : own < n := by omega
    unfold maxLen at hl
    have hnb : n ≤ 9223372036854775807 := by omega
    have hne : ((n : Int) == 0) = false := beq_eq_false_iff_ne.2 (by omega)
    rcases hs with hs | ⟨b2, o2, rfl, hb2, hat⟩
    · rw [hs] at hog; simp at hog
    have cx0 := hat own _ (List.getElem?_eq_getElem hog)
    have hxe : x = g[own] := hx
    rw [← hxe] at cx0
    have cx : (w.alloc (.cells #[.pointer (some ⟨b, o, none⟩), .int .i64 (own : Nat), .string gap, .string t] 46)).cell? ⟨b2, o2 + own, none⟩ = some (.string x) := (World.cell?_of_block (w := w) (a := ⟨b2, o2 + own, none⟩) (Below.heap_alloc w _ b2 hb2)).trans cx0
    clear hn ho hc hx hxe cx0 hat hl hog
    obtain ⟨W, hW⟩ : ∃ W, W = w.alloc (.cells #[.pointer (some ⟨b, o, none⟩), .int .i64 (own : Nat), .string gap, .string t] 46) := ⟨_, rfl⟩
    go_enter Tryz.func55, Tryz.ntmps55
    go_wp2_with fail
    go_quiet (fail)
    go_wp2_with fail
    go_ret
    exact ⟨rfl, B0.out.trans ((below_drewN _ nq).mono B0.out.size)⟩
theorem head47 (l : Pl.Bs) : Lib.hasPrefix l [47] = (l.head? == some 47) := by
  cases l with
  | nil => rfl
  | cons c r => rw [Bool.eq_iff_iff]; simp [Lib.hasPrefix]; exact eq_comm
theorem pre_is (s p : ByteArray) (b : Bool) (h : Lib.hasPrefix s.data.toList p.data.toList = b) (w : World) :
    Calls Tryz.prog 77 #[.string s, .string p] w fun e w' => e = .returned (.bool b) ∧ w = w' :=
  (Tryz.strings_HasPrefix s p w).mono fun e w' ⟨he, hw⟩ => ⟨by rw [he]; exact ret_bool h, hw.symm⟩
set_option maxHeartbeats 800000 in
theorem joins_any (last gap next : ByteArray) (w : World) (j : Bool) (hj : Pl.join8 last gap next = j) (hl : last.size ≤ maxLen) :
    Calls Tryz.prog 56 #[.string last, .string gap, .string next] w fun e w' => e = .returned (.bool j) ∧ w = w' := by
  unfold Pl.join8 at hj
  rcases Nat.eq_zero_or_pos gap.size with h0 | h0
  · rw [if_pos h0] at hj
    obtain rfl := Pl.size_zero gap h0
    have HC := Lib.hid (Tk.glue_is last next j hj w hl)
    clear hj h0 hl
    go_enter Tryz.func56, Tryz.ntmps56
    go_wp2_with (go_at_call 76; refine HC.out.mono ?_; rintro e w' ⟨rfl, rfl⟩)
    go_ret
    exact ⟨rfl, rfl⟩
  · rw [if_neg (by omega)] at hj
    obtain ⟨n1, n2, n3⟩ := Pl.not_empty gap h0
    have HC := Lib.hid (pre_is gap ⟨#[47]⟩ (gap.data.toList.head? == some 47) (head47 _) w)
    obtain ⟨hb, hhb⟩ : ∃ hb, hb = (gap.data.toList.head? == some 47) := ⟨_, rfl⟩
    rw [← hhb] at HC hj
    by_cases h47 : last.data.toList = [47]
    · obtain rfl : last = ⟨#[47]⟩ := Pl.list_ext h47
      have hjj : j = hb := by rw [← hj]; simp
      subst hjj
      clear hj h47 hl hhb
      go_enter Tryz.func56, Tryz.ntmps56
      go_wp2_with (go_at_call 77; refine HC.out.mono ?_; rintro e w' ⟨rfl, rfl⟩)
      go_ret
      exact ⟨rfl, rfl⟩
    · have hb7 : (last.data.toList == [47]) = false := by simpa using h47
      have hb8 : (last.toList == [47]) = false := by rw [Pl.toList_eq]; exact hb7
      rw [hb7, Bool.false_and] at hj
      subst hj
      clear h47 hl hhb
      go_enter Tryz.func56, Tryz.ntmps56
      go_wp2_with fail
      go_ret
      exact ⟨rfl, rfl⟩
end Go.Proofs.YtiaajpdcacdngaaGreatDoor
