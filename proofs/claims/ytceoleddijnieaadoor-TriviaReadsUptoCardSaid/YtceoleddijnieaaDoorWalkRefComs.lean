/- The walk of the reference's Comments. -/
import Derived.Test.YtceoleddijnieaaDoorWalkRefEnd
import Derived.Test.YtceoleddijnieaaDoorWalkComs
namespace Go.Proofs.YtceoleddijnieaaDoor
open Go.RowKit
set_option linter.unusedVariables false
set_option linter.unusedSimpArgs false

set_option maxHeartbeats 1600000 in
theorem rcoms_any (s : ByteArray) (w : World) (L : List Pl.Bs) (hL : L = Pl.coms s.data.toList) (hs : s.size ≤ 1099511627776) :
    Calls Tryd.prog 15 #[.string s] w (Gives L w) := by
  obtain ⟨i0, hi, hz0, hz1, hz2⟩ := info_parts Tryd.infoS
  have hs2 : s.size ≤ maxLen := by unfold maxLen; omega
  have h0 : Pl.coms (rest s 0) = L := by rw [hL]; unfold rest; rw [List.drop_zero]
  have hLl : L.length ≤ 1099511627776 := by
    rw [hL]; have := Pl.coms_le s.data.toList; rw [← Lib.size_eq] at this; omega
  have H0 := Lib.hid h0
  have HS := Lib.hid hs2
  clear hs2 h0 hL
  go_enter Tryd.func15, Tryd.ntmps15
  go_wp2_with fail
  go_loopw [3, 4, 5] (fun v u t wr => ∃ k : Nat, ∃ l, k ≤ s.size ∧ u = .int .i64 k ∧ l ++ Pl.coms (rest s k) = L ∧ wr.ownsRow w.heap.size 9 1 v l.length (l.map str) ∧ Below w.heap.size w wr) (fun _ u _ _ => s.size - (intOf u).toNat)
  case atStart => exact ⟨0, [], Nat.zero_le _, rfl, H0.out, World.ownsRow_nil _ _ _ _, Below.refl _ _⟩
  case round =>
    obtain ⟨k, l, hk, rfl, hsum, hown, hbel⟩ := hrel
    have hle := Pl.hop_le (rest s k)
    rw [rest_len] at hle
    obtain ⟨h, hh⟩ : ∃ h, h = Pl.hop (rest s k) := ⟨_, rfl⟩
    have HH : Hid ((k : Int) + (h : Nat) = (k : Int) + (Pl.hop (rest s k) : Nat)) := Lib.hid (by rw [hh])
    rw [← hh] at hle
    have hll : l.length ≤ 1099511627776 := by have := congrArg List.length hsum; rw [List.length_append] at this; omega
    have hsz := hbel.size
    have HL := Lib.hid hbel
    have HO := Lib.hid hown
    by_cases hz : h = 0
    · have e : l = L := by rw [← hsum, Pl.coms_stop _ (by rw [← hh]; exact hz), List.append_nil]
      have HE := Lib.hid e
      clear hsum hown hbel hh e
      subst hz
      go_wp2_with (go_at_call 25; refine (step_at s k _ _ _ HS.out hk rfl HH.out).mono ?_; rintro e w' ⟨rfl, rfl⟩)
      go_ret
      exact ⟨_, rfl, by rw [← HE.out]; exact reads_own HO.out, HL.out⟩
    · have hlt : k < s.size := by omega
      have hco : Pl.coms (rest s k) = Pl.one (rest s k) ++ Pl.coms (rest s (k + h)) := by
        have := Pl.coms_go (rest s k) (by rw [← hh]; exact hz)
        rw [rest_rest, ← hh] at this
        exact this
      have hpos : 1 ≤ h := by omega
      rw [hco] at hsum
      by_cases hc : s[k] = 47
      · rw [one_yes s k hlt hc, ← hh, ← List.append_assoc] at hsum
        have hcb : ((s[k].toNat : Int) == 47) = true := by simp [hc]
        obtain ⟨u, hu⟩ : ∃ u : Nat, u + 1 = k + h := ⟨k + h - 1, by omega⟩
        have huk : k ≤ u := by omega
        have hus : u ≤ s.size := by omega
        have hw : (k : Int) + (h : Int) - 1 = (u : Int) := by omega
        have hx : Value.string (s.extract k u) = str ((rest s k).take (h - 1)) := by unfold str; rw [ext_take, show u - k = h - 1 from by omega]
        have HX := Lib.hid hx
        have HS2 := Lib.hid hsum
        obtain ⟨m, hm⟩ : ∃ m, m = l.length := ⟨_, rfl⟩
        rw [← hm] at hown hll
        have HM := Lib.hid hm
        clear hsum hbel hh hz hco hc hx hu hm
        go_wp2_with (first
          | (go_at_call 25; refine (step_at s k _ _ _ HS.out hk rfl HH.out).mono ?_; rintro e w' ⟨rfl, rfl⟩)
          | (at_builtin; refine wpList_append_own _ rfl _ _ 25 rfl w.heap.size 9 i0 (.string ⟨#[]⟩) 1 16 Tryd.underlying25 hi hz0 hz1 hz2 rfl (by decide) _ _ _ rfl (hown.alloc _) ⟨wr.heap.size, 0, none⟩ 1 1 [.string (s.extract k u)] rfl rfl ?c1 ?c2 ?c3 ?c4 ?c5 ?_))
        case c1 =>
          intro j q hj
          match j, hj with
          | 0, hj => simp at hj; subst hj; simp [Addr.add]
        case c2 => intro q hq; simp at hq; subst hq; rfl
        case c3 => unfold maxLen; omega
        case c4 => omega
        case c5 => simp; omega
        intro v' w1 hown' hgrow _
        have hb1 : Below w.heap.size w w1 := (HL.out.alloc (by omega) _).grown hgrow (by simp; omega) (own_from hown)
        rw [HX.out, HM.out] at hown'
        have HO2 := Lib.hid hown'
        have HB1 := Lib.hid hb1
        clear hgrow hown hown' hb1
        go_wp2_with fail
        refine ⟨⟨k + h, _, by omega, by go_num, HS2.out, by have := HO2.out; simpa using this, HB1.out⟩, by simp [intOf]; omega⟩
      · rw [one_no s k hlt hc, List.nil_append] at hsum
        have hcb : ((s[k].toNat : Int) == 47) = false := by
          have : s[k].toNat ≠ 47 := fun e => hc (UInt8.toNat_inj.1 e)
          simp; omega
        have HS2 := Lib.hid hsum
        clear hsum hown hbel hh hz hco hc
        go_wp2_with (first
          | (go_at_call 25; refine (step_at s k _ _ _ HS.out hk rfl HH.out).mono ?_; rintro e w' ⟨rfl, rfl⟩))
        exact ⟨⟨k + h, _, by omega, by go_num, HS2.out, HO.out, HL.out⟩, by simp [intOf]; omega⟩
end Go.Proofs.YtceoleddijnieaaDoor
