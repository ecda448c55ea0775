/- The walk of the law that holds Split, Count, Join and Indent against the reference. -/
import Derived.Test.YtheemneojippgaaLawAppends
import Derived.Test.YtheemneojippgaaArgs
namespace Go.Proofs.Ytheemneojippgaa
open Go.RowKit
set_option linter.unusedVariables false
set_option linter.unusedSimpArgs false

/-- Both splits, one after the other, and that they are the same. -/
theorem split_values (s : ByteArray) (w : World) (hs : s.size ≤ 1048576) :
    Calls Try.prog 10 #[.string s] w fun e w' => ∃ v, e = .returned v ∧ SliceIn w' v ((Pl.lns s.data.toList).map Pl.mk) ∧ Below w.heap.size w w' := by
  refine (split_any s w (by omega)).mono ?_
  rintro e w' ⟨v, rfl, hown, hbel⟩
  refine ⟨v, rfl, ?_, hbel⟩
  by_cases h0 : Pl.lns s.data.toList = []
  · rw [h0] at hown ⊢
    obtain ⟨a, c, rfl, _⟩ := own_len hown
    exact .inl ⟨rfl, a, c, rfl⟩
  · obtain ⟨g, c, rfl, h1, h2, h3, h4⟩ := own_some hown rfl (List.length_pos_iff.2 h0)
    refine .inr ⟨g, 0, c, by rw [List.length_map], by rw [List.length_map]; exact h1, h3, fun j x hx => ?_⟩
    rw [List.getElem?_map] at hx
    cases hj : (Pl.lns s.data.toList)[j]? with
    | none => rw [hj] at hx; cases hx
    | some y =>
      rw [hj] at hx; cases hx
      rw [Nat.zero_add]; exact h4 j y hj
theorem rsplit_values (s : ByteArray) (w : World) (hs : s.size ≤ 1048576) :
    Calls Try.prog 11 #[.string s] w fun e w' => ∃ v, e = .returned v ∧ SliceIn w' v ((Pl.lns s.data.toList).map Pl.mk) ∧ Below w.heap.size w w' := by
  refine (rsplit_any s w (by omega)).mono ?_
  rintro e w' ⟨v, rfl, hown, hbel⟩
  refine ⟨v, rfl, ?_, hbel⟩
  by_cases h0 : Pl.lns s.data.toList = []
  · rw [h0] at hown ⊢
    obtain ⟨a, c, rfl, _⟩ := own_len hown
    exact .inl ⟨rfl, a, c, rfl⟩
  · obtain ⟨g, c, rfl, h1, h2, h3, h4⟩ := own_some hown rfl (List.length_pos_iff.2 h0)
    refine .inr ⟨g, 0, c, by rw [List.length_map], by rw [List.length_map]; exact h1, h3, fun j x hx => ?_⟩
    rw [List.getElem?_map] at hx
    cases hj : (Pl.lns s.data.toList)[j]? with
    | none => rw [hj] at hx; cases hx
    | some y =>
      rw [hj] at hx; cases hx
      rw [Nat.zero_add]; exact h4 j y hj

set_option maxHeartbeats 800000 in
theorem same_at (g h o o' c d : Nat) (xs : List ByteArray) (w : World) (hn : xs.length ≤ 1099511627776)
    (hg : ∀ (j : Nat) x, xs[j]? = some x → w.cell? ⟨g, o + j, none⟩ = some (.string x)) (hh : ∀ (j : Nat) x, xs[j]? = some x → w.cell? ⟨h, o' + j, none⟩ = some (.string x)) :
    Calls Try.prog 9 #[.slice (some ⟨g, o, none⟩) xs.length c, .slice (some ⟨h, o', none⟩) xs.length d] w fun e w' => e = .returned (.bool true) ∧ ∃ n, w' = w.drewN n := by
  have HG := Lib.hid hg
  have HH := Lib.hid hh
  clear hg hh
  obtain ⟨n, hnn⟩ : ∃ n, n = xs.length := ⟨_, rfl⟩
  rw [← hnn] at hn ⊢
  have HN := Lib.hid hnn
  clear hnn
  go_enter Try.func9, Try.ntmps9
  go_wp2
  go_loopw [5] (fun i wr => ∃ k nq : Nat, k ≤ n ∧ i = .int .i64 k ∧ wr = w.drewN nq) (fun i _ => n - (intOf i).toNat)
  case atStart => exact ⟨0, 0, Nat.zero_le _, rfl, rfl⟩
  case round =>
    obtain ⟨k, nq, hk, rfl, rfl⟩ := hrel
    by_cases hlt : k < n
    · have hlt2 : k < xs.length := by rw [← HN.out]; exact hlt
      have g1 := HG.out k _ (List.getElem?_eq_getElem hlt2)
      have g2 := HH.out k _ (List.getElem?_eq_getElem hlt2)
      generalize xs[k] = x at g1 g2
      go_wp2
      go_quiet (fail)
      go_wp2
      exact ⟨⟨k + 1, _, by omega, by go_num, rfl⟩, by simp [intOf]; omega⟩
    · go_wp2
      go_ret
      exact ⟨rfl, _, rfl⟩

theorem same_in (v u : Value) (xs : List ByteArray) (w : World) (hn : xs.length ≤ 1099511627776) (hv : SliceIn w v xs) (hu : SliceIn w u xs) :
    Calls Try.prog 9 #[v, u] w fun e w' => e = .returned (.bool true) ∧ Below w.heap.size w w' := by
  rcases hv with ⟨h0, a, c, rfl⟩ | ⟨b, o, c, rfl, h2, h3, h4⟩
  · have hu2 : ∃ a c, u = .slice a 0 c := by
      rcases hu with ⟨_, h⟩ | ⟨b, o, c, h, _⟩
      · exact h
      · rw [h0] at h; exact ⟨_, _, h⟩
    obtain ⟨a', c', rfl⟩ := hu2
    exact (same_none a a' c c' w).mono fun e w' ⟨h1, h2⟩ => ⟨h1, h2 ▸ Below.refl _ _⟩
  · rcases hu with ⟨h0, a', c', rfl⟩ | ⟨b', o', c', rfl, h2', h3', h4'⟩
    · subst h0
      exact (same_none _ a' c c' w).mono fun e w' ⟨h1, h2⟩ => ⟨h1, h2 ▸ Below.refl _ _⟩
    · refine (same_at b b' o o' c c' xs w hn h4 h4').mono ?_
      rintro e w' ⟨h1, n, rfl⟩
      exact ⟨h1, below_drewN (Below.refl _ _) n⟩

set_option maxHeartbeats 800000 in
theorem lawSplits (s : ByteArray) (v : Value) (w : World) (hs : s.size ≤ 1048576) (xs : List ByteArray) (hv : SliceIn w v xs) (hb : (cat xs).size + xs.length ≤ 1048576) :
    Calls Try.prog 3 #[.string s, v] w fun e w' => e = .returned (.bool true) ∧ Below w.heap.size w w' := by
  have hle := Pl.lns_le s.data.toList
  rw [← Lib.size_eq] at hle
  have S1 := Lib.hid (fun wx => split_values s wx hs)
  have S2 := Lib.hid (fun wx => rsplit_values s wx hs)
  have S3 := Lib.hid (fun v u wx => same_in v u ((Pl.lns s.data.toList).map Pl.mk) wx (by rw [List.length_map]; omega))
  have S4 := Lib.hid (fun wx => count_any s wx (by omega))
  have S5 := Lib.hid (fun wx => rcount_any s wx (by omega))
  have S6 := Lib.hid (fun wx h => join_in wx v xs h hb)
  have S7 := Lib.hid (fun wx h => rjoin_in wx v xs h hb)
  have S8 := Lib.hid (fun wx => indent_any s wx (by unfold maxLen; omega))
  have S9 := Lib.hid (fun wx => rindent_any s wx (by omega))
  generalize (Pl.lns s.data.toList).map Pl.mk = L at *
  generalize (Pl.lns s.data.toList).length = n at *
  generalize cat xs = y at *
  generalize indOf s = z at *
  have HV := Lib.hid hv
  clear hv
  go_enter Try.func3, Try.ntmps3
  go_wp2_with fail
  refine (S1.out _).mono ?_
  rintro e w1 ⟨v1, rfl, k1, hb1⟩
  go_wp2_with fail
  refine (S2.out _).mono ?_
  rintro e w2 ⟨v2, rfl, k2, hb2⟩
  go_wp2_with fail
  refine (S3.out _ _ _ (k1.later hb2) k2).mono ?_
  rintro e w3 ⟨rfl, hb3⟩
  go_wp2_with fail
  refine (S4.out _).mono ?_
  rintro e w4 ⟨rfl, hb4⟩
  go_wp2_with fail
  refine (S5.out _).mono ?_
  rintro e w5 ⟨rfl, hb5⟩
  have hb15 := hb1.trans ((hb2.trans ((hb3.trans ((hb4.trans (hb5.mono hb4.size)).mono hb3.size)).mono hb2.size)).mono hb1.size)
  have hv5 := HV.out.later hb15
  go_wp2_with fail
  refine (S6.out _ hv5).mono ?_
  rintro e w6 ⟨rfl, hb6⟩
  have hv6 := hv5.later hb6
  go_wp2_with fail
  refine (S7.out _ hv6).mono ?_
  rintro e w7 ⟨rfl, rfl⟩
  go_wp2_with fail
  refine (S8.out _).mono ?_
  rintro e w8 ⟨rfl, hb8⟩
  go_wp2_with fail
  refine (S9.out _).mono ?_
  rintro e w9 ⟨rfl, rfl⟩
  go_wp2_with fail
  refine (awake_any _).mono ?_
  rintro e w10 ⟨rfl, hb10⟩
  go_wp2
  go_ret
  exact ⟨rfl, hb15.trans ((hb6.trans ((hb8.trans (hb10.mono hb8.size)).mono hb6.size)).mono hb15.size)⟩
end Go.Proofs.Ytheemneojippgaa
