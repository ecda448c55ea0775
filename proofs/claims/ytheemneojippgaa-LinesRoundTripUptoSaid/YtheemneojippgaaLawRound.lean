/- The walk of the law on splitting and joining. -/
import Derived.Test.YtheemneojippgaaLawAppends
namespace Go.Proofs.Ytheemneojippgaa
open Go.RowKit
set_option linter.unusedVariables false
set_option linter.unusedSimpArgs false

theorem join_lines (s : ByteArray) (g c n : Nat) (L : List Pl.Bs) (w : World) (hL : Pl.lns s.data.toList = L) (hn : n = L.length) (hs : s.size ≤ 1048576) (hg : StrsAt w g L) (hc : n ≤ c) :
    Calls Try.prog 14 #[.slice (some ⟨g, 0, none⟩) n c] w fun e w' => e = .returned (.string s) ∧ Below w.heap.size w w' := by
  have e1 : cat (L.map Pl.mk) = s := by
    have := Pl.cat_lns s
    rw [hL] at this
    unfold cat
    rw [List.map_map]
    exact this
  have hle := Pl.lns_le s.data.toList
  rw [hL, ← Lib.size_eq] at hle
  have h := join_some g 0 c (L.map Pl.mk) w (by
    intro j x hx
    rw [List.getElem?_map] at hx
    cases hj : L[j]? with
    | none => rw [hj] at hx; cases hx
    | some y =>
      rw [hj] at hx
      cases hx
      rw [Nat.zero_add]
      exact hg.2 j y hj) hg.1 (by rw [List.length_map]; omega) (by rw [e1]; omega) (by rw [List.length_map]; omega)
  rw [e1, List.length_map, ← hn] at h
  exact h

theorem split_cap (s : ByteArray) (w : World) (hs : s.size ≤ 1099511627776) (L : List Pl.Bs) (n : Nat) (hL : Pl.lns s.data.toList = L) (hn : n = L.length) (h0 : 0 < n) :
    Calls Try.prog 10 #[.string s] w fun e w' => ∃ g c, e = .returned (.slice (some ⟨g, 0, none⟩) n c) ∧ n ≤ c ∧ StrsAt w' g L ∧ Below w.heap.size w w' := by
  refine (split_any s w hs).mono ?_
  rintro e w' ⟨v, rfl, hown, hbel⟩
  rw [hL, ← hn] at hown
  obtain ⟨g, c, rfl, h1, h2, h3, h4⟩ := own_some hown hn h0
  exact ⟨g, c, rfl, h1, ⟨h3, h4⟩, hbel⟩
theorem count_lines (s : ByteArray) (w : World) (hs : s.size ≤ 1048576) (n : Nat) (hn : n = (Pl.lns s.data.toList).length) :
    Calls Try.prog 12 #[.string s] w fun e w' => e = .returned (.int .i64 n) ∧ Below w.heap.size w w' := by
  rw [hn]; exact count_any s w (by omega)

set_option maxHeartbeats 800000 in
theorem lawRound_some (s : ByteArray) (w : World) (L : List Pl.Bs) (n : Nat) (hn : n = L.length) (h0 : 0 < n) (hs : s.size ≤ 1048576) (hL : Pl.lns s.data.toList = L) :
    Calls Try.prog 5 #[.string s] w fun e w' => e = .returned (.bool true) ∧ Below w.heap.size w w' := by
  have hle := Pl.lns_le s.data.toList
  rw [hL, ← Lib.size_eq, ← hn] at hle
  have S1 := Lib.hid (fun wx => split_cap s wx (by omega) L n hL hn h0)
  have S2 := Lib.hid (fun g c wx => join_lines s g c n L wx hL hn hs)
  have S3 := Lib.hid (fun wx => count_lines s wx hs n (by rw [hL]; exact hn))
  have HG := Lib.hid (fun i x hx => Pl.lns_good s.data.toList i x hx)
  have HL := Lib.hid (fun i x hx => Pl.lns_len s.data.toList i x hx)
  rw [hL, ← hn] at HG
  rw [hL, ← Lib.size_eq] at HL
  have HN := Lib.hid hn
  clear hn hL
  go_enter Try.func5, Try.ntmps5
  go_wp2_with fail
  refine (S1.out _).mono ?_
  rintro e w1 ⟨g, c, rfl, hc, g1, hb1⟩
  go_wp2_with fail
  refine (S2.out g c _ g1 hc).mono ?_
  rintro e w2 ⟨rfl, hb2⟩
  have g2 := g1.later hb2
  go_wp2_with fail
  refine (S3.out _).mono ?_
  rintro e w3 ⟨rfl, hb3⟩
  have g3 := g2.later hb3
  have hb13 := hb1.trans ((hb2.trans (hb3.mono hb2.size)).mono hb1.size)
  go_wp2_with fail
  go_loop [4, 5, 6] (fun i m k => ∃ j : Nat, j ≤ n ∧ i = .int .i64 j) (fun i _ _ => n - (intOf i).toNat)
  case atStart => exact ⟨0, Nat.zero_le _, rfl⟩
  case round =>
    obtain ⟨j, hj, rfl⟩ := hrel
    by_cases hlt : j < n
    · have hjL : j < L.length := by rw [← HN.out]; exact hlt
      have c1 := g3.2 j _ (List.getElem?_eq_getElem hjL)
      obtain ⟨q1, q2, q3⟩ := HG.out j _ (List.getElem?_eq_getElem hjL)
      have q0 := HL.out j _ (List.getElem?_eq_getElem hjL)
      unfold str at c1
      generalize Pl.mk L[j] = y at *
      have Q3 := Lib.hid q3
      have y0 : ((y.size : Int) == 0) = false := beq_eq_false_iff_ne.2 (by omega)
      by_cases hlast : (j : Int) < (n : Int) - 1
      · have h10 := q2 (by omega) (by omega)
        have y1 : ((y[y.size - 1].toNat : Int) != 10) = false := by simp [h10]
        clear q2 q3 h10
        go_wp2
        go_loop [6] (fun k => ∃ r : Nat, r + 1 ≤ y.size ∧ k = .int .i64 r) (fun k => y.size - (intOf k).toNat)
        case atStart => exact ⟨0, by omega, rfl⟩
        case round =>
          obtain ⟨r, hr, rfl⟩ := hrel
          by_cases hrl : r + 1 < y.size
          · have hrl2 : (r : Int) < (y.size : Int) - 1 := by omega
            have hy := Q3.out r (by omega) hrl
            have y2 : ((y[r].toNat : Int) == 10) = false := beq_eq_false_iff_ne.2 (by omega)
            clear hy
            go_wp2
            exact ⟨⟨r + 1, by omega, by go_num⟩, by simp [intOf]; omega⟩
          · have hrl2 : ¬ (r : Int) < (y.size : Int) - 1 := by omega
            go_wp2
            exact ⟨⟨j + 1, by omega, by go_num⟩, by simp [intOf]; omega⟩
      · clear q2 q3
        go_wp2
        go_loop [6] (fun k => ∃ r : Nat, r + 1 ≤ y.size ∧ k = .int .i64 r) (fun k => y.size - (intOf k).toNat)
        case atStart => exact ⟨0, by omega, rfl⟩
        case round =>
          obtain ⟨r, hr, rfl⟩ := hrel
          by_cases hrl : r + 1 < y.size
          · have hrl2 : (r : Int) < (y.size : Int) - 1 := by omega
            have hy := Q3.out r (by omega) hrl
            have y2 : ((y[r].toNat : Int) == 10) = false := beq_eq_false_iff_ne.2 (by omega)
            clear hy
            go_wp2
            exact ⟨⟨r + 1, by omega, by go_num⟩, by simp [intOf]; omega⟩
          · have hrl2 : ¬ (r : Int) < (y.size : Int) - 1 := by omega
            go_wp2
            exact ⟨⟨j + 1, by omega, by go_num⟩, by simp [intOf]; omega⟩
    · go_wp2_with fail
      refine (awake_any _).mono ?_
      rintro e w5 ⟨rfl, hb5⟩
      go_wp2
      go_ret
      exact ⟨rfl, hb13.trans (hb5.mono hb13.size)⟩

set_option maxHeartbeats 800000 in
theorem lawRound_none (w : World) : Calls Try.prog 5 #[.string ⟨#[]⟩] w fun e w' => e = .returned (.bool true) ∧ Below w.heap.size w w' := by
  have S1 := Lib.hid (fun wx => split_empty ⟨#[]⟩ wx (by decide) (by decide))
  have S3 := Lib.hid (fun wx => count_lines ⟨#[]⟩ wx (by decide) 0 (by decide))
  go_enter Try.func5, Try.ntmps5
  go_wp2_with fail
  refine (S1.out _).mono ?_
  rintro e w1 ⟨a, c, rfl, hb1⟩
  go_wp2_with fail
  refine (join_none a c _).mono ?_
  rintro e w2 ⟨rfl, hb2⟩
  rw [cat_nil]
  go_wp2_with fail
  refine (S3.out _).mono ?_
  rintro e w3 ⟨rfl, hb3⟩
  have hb13 := hb1.trans ((hb2.trans (hb3.mono hb2.size)).mono hb1.size)
  go_wp2_with fail
  refine wp_loop_rounds 1 ?_; rw [rounds_succ]
  go_wp2_with fail
  refine (awake_any _).mono ?_
  rintro e w5 ⟨rfl, hb5⟩
  go_wp2
  go_ret
  exact ⟨rfl, hb13.trans (hb5.mono hb13.size)⟩

theorem lawRound (s : ByteArray) (w : World) (hs : s.size ≤ 1048576) :
    Calls Try.prog 5 #[.string s] w fun e w' => e = .returned (.bool true) ∧ Below w.heap.size w w' := by
  by_cases h0 : Pl.lns s.data.toList = []
  · have e : s = ⟨#[]⟩ := by
      apply Pl.list_ext
      rw [← Pl.lns_flat s.data.toList, h0]; rfl
    rw [e]; exact lawRound_none w
  · exact lawRound_some s w _ _ rfl (List.length_pos_iff.2 h0) hs rfl
end Go.Proofs.Ytheemneojippgaa
