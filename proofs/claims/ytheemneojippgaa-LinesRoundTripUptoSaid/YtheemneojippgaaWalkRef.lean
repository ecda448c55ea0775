/- The walks of the reference: Split, Count, Indent, Position, Offset. -/
import Derived.Test.YtheemneojippgaaWalkSplit
namespace Go.Proofs.Ytheemneojippgaa
open Go.RowKit
set_option linter.unusedVariables false
set_option linter.unusedSimpArgs false

set_option maxHeartbeats 800000 in
theorem rsplit_any (s : ByteArray) (w : World) (hs : s.size ≤ 1099511627776) :
    Calls Try.prog 11 #[.string s] w (Lines s w) := by
  obtain ⟨i0, hi, hz0, hz1, hz2⟩ := info_parts Try.infoS
  go_enter Try.func11, Try.ntmps11
  go_wp2
  go_loopw [3, 4, 5] (fun v st i wr => ∃ pos st0 : Nat, pos ≤ s.size ∧ st0 + (Pl.sk s pos).2.length = pos ∧ i = .int .i64 pos ∧ st = .int .i64 st0 ∧ wr.ownsRow w.heap.size 9 1 v (Pl.sk s pos).1.length ((Pl.sk s pos).1.map str) ∧ Below w.heap.size w wr) (fun _ _ i _ => s.size - (intOf i).toNat)
  case atStart => exact ⟨0, 0, Nat.zero_le _, rfl, rfl, rfl, World.ownsRow_nil _ _ _ _, Below.refl _ _⟩
  case round =>
    obtain ⟨pos, st0, hps, hst0, rfl, rfl, hown, hbel⟩ := hrel
    have hlen := Pl.sk_len s pos hps
    have h5 : st0 ≤ pos := by omega
    have hsz := hbel.size
    have HS := Lib.hid hst0
    clear hst0
    by_cases hp : pos < s.size
    · by_cases hc : s[pos].toNat = 10
      · have hb := Pl.sk_nl s pos hp hc
        have HX := Lib.hid (Pl.ext_nl s pos st0 hp hc HS.out)
        have HB := Lib.hid hb
        have hcb : ((s[pos].toNat : Int) == 10) = true := by simp [hc]
        clear hb hc
        go_wp2_with (at_builtin; refine wpList_append_own _ rfl _ _ 22 rfl w.heap.size 9 i0 (.string ⟨#[]⟩) 1 16 Try.underlying22 hi hz0 hz1 hz2 rfl (by decide) _ _ _ rfl (hown.alloc _) ⟨wr.heap.size, 0, none⟩ 1 1 [.string (s.extract st0 (pos + 1))] rfl rfl ?c1 ?c2 ?c3 ?c4 ?c5 ?_)
        case c1 =>
          intro j u hj
          match j, hj with
          | 0, hj => simp at hj; subst hj; simp [Addr.add]
        case c2 => intro u hu; simp at hu; subst hu; rfl
        case c3 => unfold maxLen; omega
        case c4 => omega
        case c5 => simp; omega
        intro v' w1 hown' hgrow _
        have hb1 : Below w.heap.size w w1 := (hbel.alloc (by omega) _).grown hgrow (by simp; omega) (own_at hown)
        rw [HX.out] at hown'
        clear hgrow hbel hown
        go_wp2
        refine ⟨⟨pos + 1, pos + 1, by omega, by rw [HB.out]; simp, by go_num, by go_num, ?_, hb1⟩, by simp [intOf]; omega⟩
        rw [HB.out]; simpa [str] using hown'
      · have hb := Pl.sk_no s pos hp hc
        have HB := Lib.hid hb
        have hcb : ((s[pos].toNat : Int) == 10) = false := by simp; omega
        clear hb hc
        go_wp2
        refine ⟨⟨pos + 1, st0, by omega, by rw [HB.out]; have := HS.out; simp; omega, by go_num, rfl, ?_, hbel⟩, by simp [intOf]; omega⟩
        rw [HB.out]; exact hown
    · have hpe : pos = s.size := by omega
      subst hpe
      by_cases hmore : st0 < s.size
      · have HX := Lib.hid (Pl.ext_cur s s.size st0 (Nat.le_refl _) HS.out)
        have HL := Lib.hid (Pl.lns_more s (by have := HS.out; omega))
        go_wp2_with (at_builtin; refine wpList_append_own _ rfl _ _ 22 rfl w.heap.size 9 i0 (.string ⟨#[]⟩) 1 16 Try.underlying22 hi hz0 hz1 hz2 rfl (by decide) _ _ _ rfl (hown.alloc _) ⟨wr.heap.size, 0, none⟩ 1 1 [.string (s.extract st0 s.size)] rfl rfl ?d1 ?d2 ?d3 ?d4 ?d5 ?_)
        case d1 =>
          intro j u hj
          match j, hj with
          | 0, hj => simp at hj; subst hj; simp [Addr.add]
        case d2 => intro u hu; simp at hu; subst hu; rfl
        case d3 => unfold maxLen; omega
        case d4 => omega
        case d5 => simp; omega
        intro v' w1 hown' hgrow _
        have hb1 : Below w.heap.size w w1 := (hbel.alloc (by omega) _).grown hgrow (by simp; omega) (own_at hown)
        rw [HX.out] at hown'
        clear hgrow hown
        go_wp2
        go_ret
        refine ⟨_, rfl, ?_, hb1⟩
        rw [HL.out]
        simpa [str] using hown'
      · have HL := Lib.hid (Pl.lns_done s (by have := HS.out; omega))
        go_wp2
        go_ret
        refine ⟨_, rfl, ?_, hbel⟩
        rw [HL.out]
        exact hown

/-- The shape of a slice of the call's own. -/
theorem own_len {w : World} {B : Nat} {e : TypeId} {size : Nat} {v : Value} {n : Nat} {xs : List Value} (h : w.ownsRow B e size v n xs) : ∃ a c, v = .slice a n c ∧ n ≤ maxLen := by
  rcases h.2 with ⟨rfl, rfl⟩ | ⟨g, cap, cur, rfl, _, _, h1, h2, _⟩
  · exact ⟨_, _, rfl, by unfold maxLen; omega⟩
  · exact ⟨_, _, rfl, by omega⟩

set_option maxHeartbeats 400000 in
theorem rcount_any (s : ByteArray) (w : World) (hs : s.size ≤ 1099511627776) :
    Calls Try.prog 13 #[.string s] w fun e w' => e = .returned (.int .i64 (Pl.lns s.data.toList).length) ∧ Below w.heap.size w w' := by
  go_enter Try.func13, Try.ntmps13
  go_wp2_with fail
  refine (rsplit_any s _ hs).mono ?_
  rintro e w1 ⟨v, rfl, hown, hbel⟩
  obtain ⟨a, c, rfl, _⟩ := own_len hown
  go_wp2
  go_ret
  exact ⟨rfl, hbel⟩
end Go.Proofs.Ytheemneojippgaa
