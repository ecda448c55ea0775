/- The walks of Fresh and of the reference's Fresh. -/
import Derived.Test.YtjfmanflkcaohaaDoorWalkList
namespace Go.Proofs.YtjfmanflkcaohaaDoor
open Go.RowKit
set_option linter.unusedVariables false
set_option linter.unusedSimpArgs false

theorem ret_fresh {a b : ByteArray} {c d : Int} (h : a = b) (h2 : c = d) : Ending.returned (.tuple #[.string a, .int .i64 c]) = .returned (.tuple #[.string b, .int .i64 d]) := by rw [h, h2]

theorem fresh_bad (base : ByteArray) (v : Value) (w : World) (hs : base.size ≤ maxLen) (h : Pl.nm base = false) :
    Calls Tryd.prog 18 #[.string base, v] w fun e w' => e = .returned (.tuple #[.string ⟨#[]⟩, .int .i64 4]) ∧ Below w.heap.size w w' := by
  have HV := Lib.hid (valid_is base _ h w hs)
  clear h hs
  go_enter Tryd.func18, Tryd.ntmps18
  go_wp2_with fail
  refine HV.out.mono ?_
  rintro e w' ⟨rfl, hb⟩
  go_wp2_with fail
  go_ret2
  exact ⟨rfl, hb⟩
set_option maxHeartbeats 800000 in
theorem fresh_none (base : ByteArray) (a : Option Addr) (c : Nat) (w : World) (h : Pl.nm base = true) :
    Calls Tryd.prog 18 #[.string base, .slice a 0 c] w fun e w' => e = .returned (.tuple #[.string base, .int .i64 0]) ∧ Below w.heap.size w w' := by
  have hsz := (Pl.nm_parts base h).2.1
  have hs : base.size ≤ maxLen := by unfold maxLen; omega
  have HV := Lib.hid (valid_is base _ h w hs)
  have HL := Lib.hid fun (w1 : World) => (set_made w1).look base hs
  have hmm := run_makeMap_hint
  clear h hs
  go_enter Tryd.func18, Tryd.ntmps18
  go_wp2_with fail
  refine HV.out.mono ?_
  rintro e w1 ⟨rfl, hb⟩
  have hlk := HL.out w1
  rw [show Pl.inL [] base = false from rfl] at hlk
  go_wp2_with fail
  refine wp_loop_rounds 1 ?_; rw [rounds_succ]
  go_wp2_with fail
  refine wp_loop_rounds 1 ?_; rw [rounds_succ]
  go_wp2_with fail
  go_ret2
  exact ⟨rfl, hb.alloc hb.size _⟩
set_option maxHeartbeats 800000 in
theorem fresh_some (base r : ByteArray) (b o c n : Nat) (xs : List ByteArray) (w : World) (h : Pl.nm base = true) (hbw : b < w.heap.size) (hc : StrsAt w b o xs) (hn : n = xs.length) (h60 : n ≤ 60) (hf : ∀ x ∈ xs, x.size ≤ maxLen)
    (hr : Pl.Fresh base xs r) :
    Calls Tryd.prog 18 #[.string base, .slice (some ⟨b, o, none⟩) n c] w fun e w' => e = .returned (.tuple #[.string r, .int .i64 0]) ∧ Below w.heap.size w w' := by
  have hsz := (Pl.nm_parts base h).2.1
  have hs : base.size ≤ maxLen := by unfold maxLen; omega
  obtain ⟨T, hT1, hT2, hT3, hT4, hT5⟩ := Pl.fresh_turns base xs r (by omega) hr
  have hAt := Pl.at_size base
  have HV := Lib.hid (valid_is base _ h w hs)
  have HC := Lib.hid hc
  have HN := Lib.hid hn
  have HF := Lib.hid hf
  have H3 := Lib.hid hT3
  have H4 := Lib.hid hT4
  have H5 := Lib.hid hT5
  have HA := Lib.hid hAt
  have HB := Lib.hid fun m hm wx => numbered_any base m hsz hm wx
  have hmm := run_makeMap_hint
  clear h hc hn hf hr hT3 hT4 hT5 hAt
  go_enter Tryd.func18, Tryd.ntmps18
  go_wp2_with fail
  refine HV.out.mono ?_
  rintro e w1 ⟨rfl, hb⟩
  have hsz1 := hb.size
  go_wp2_with fail
  go_loopw [19] (fun i wr => ∃ k : Nat, k ≤ n ∧ i = .int .i64 k ∧ SetAt wr w1.heap.size k (xs.take k) ∧ Below w.heap.size w wr) (fun i _ => n - (intOf i).toNat)
  case atStart => exact ⟨0, Nat.zero_le _, rfl, set_made w1, hb.alloc hb.size _⟩
  case round =>
    obtain ⟨k, hk, rfl, ⟨D, hown, hsays⟩, hbel⟩ := hrel
    have HS := Lib.hid hsays
    clear hsays
    by_cases hp : k < n
    · have hkx : k < xs.length := by rw [← HN.out]; exact hp
      have hcl := (HC.out.later hbw hbel) k _ (List.getElem?_eq_getElem hkx)
      have hx := HF.out xs[k] (List.getElem_mem _)
      have HP : Hid (SaysOf (D.put (.string xs[k].data.toList) (.lit (.bool true))) (xs.take (k + 1))) := Lib.hid (by
        rw [List.take_succ_eq_append_getElem hkx]; exact says_put D _ _ HS.out)
      generalize xs[k] = x at *
      have hkey := WideMaps.keyOf_string_mk Tryd.underlying9 hx
      clear hx
      go_wp2_with (at_mapUpdate; refine wpList_mapUpdate_own _ rfl _ _ _ 39 rfl 9 4 Tryd.keyLaw Tryd.underlying39 _ w1.heap.size k _ rfl hown (by unfold maxLen; omega) _ _ _ rfl rfl hkey _ [] (plainElem_bool Tryd.underlying4 true) ?_)
      intro w2 hown2 hgrow2
      have hbel2 := hbel.grown hgrow2 hbel.size (fun j hj => by cases hj; exact hsz1)
      have HO : Hid (SetAt w2 w1.heap.size (k + 1) (xs.take (k + 1))) := Lib.hid ⟨_, hown2, HP.out⟩
      clear hown hown2 hgrow2 hkey hcl
      go_wp2
      exact ⟨⟨k + 1, by omega, by go_num, HO.out, hbel2⟩, by simp [intOf]; omega⟩
    · obtain rfl : k = n := by omega
      have HO : Hid (SetAt wr w1.heap.size k xs) := Lib.hid (by
        have : xs.take k = xs := by rw [HN.out, List.take_length]
        rw [← this]; exact ⟨D, hown, HS.out⟩)
      clear hown
      go_wp2_with fail
      go_loop [9, 10] (fun cd i => ∃ m : Nat, 2 ≤ m ∧ m ≤ T ∧ i = .int .i64 m ∧ cd = .string (Pl.at' base m)) (fun _ i => T - (intOf i).toNat)
      case atStart => exact ⟨2, Nat.le_refl _, hT1, rfl, rfl⟩
      case round =>
        obtain ⟨m, hm2, hmT, rfl, rfl⟩ := hrel
        have hz := HA.out m hsz (by omega)
        have hlk := HO.out.look (Pl.at' base m) (by unfold maxLen; omega)
        by_cases hp2 : m < T
        · rw [Pl.inL_yes _ _ (H5.out m hm2 hp2)] at hlk
          have HE := Lib.hid (Pl.at_succ base m hm2)
          generalize Pl.at' base m = x at *
          go_wp2_with (go_at_call 33; refine (HB.out m (by omega) _).mono ?_; rintro e w' ⟨rfl, rfl⟩)
          exact ⟨⟨m + 1, by omega, by omega, by go_num, by rw [HE.out]⟩, by simp [intOf]; omega⟩
        · obtain rfl : m = T := by omega
          rw [H3.out, Pl.inL_no _ _ H4.out] at hlk
          have HE := Lib.hid H3.out
          generalize Pl.at' base m = x at *
          have hx := HE.out
          subst hx
          go_wp2_with fail
          go_ret2
          exact ⟨rfl, hbel⟩
theorem fresh_any (base r : ByteArray) (v : Value) (xs : List ByteArray) (w : World) (h : Pl.nm base = true) (hv : Reads w v xs) (h60 : xs.length ≤ 60) (hf : ∀ x ∈ xs, x.size ≤ maxLen) (hr : Pl.Fresh base xs r) :
    Calls Tryd.prog 18 #[.string base, v] w fun e w' => e = .returned (.tuple #[.string r, .int .i64 0]) ∧ Below w.heap.size w w' := by
  rcases hv with ⟨rfl, a, c, rfl, _⟩ | ⟨b, o, c, rfl, h1, h2, _⟩
  · obtain rfl := Pl.fresh_base base [] r hr (by simp)
    exact fresh_none r a c w h
  · exact fresh_some base r b o c _ xs w h h1 h2 rfl h60 hf hr

theorem rfresh_bad (base : ByteArray) (v : Value) (w : World) (hs : base.size ≤ maxLen) (h : Pl.nm base = false) :
    Calls Tryd.prog 19 #[.string base, v] w fun e w' => e = .returned (.tuple #[.string ⟨#[]⟩, .int .i64 4]) ∧ Below w.heap.size w w' := by
  have HV := Lib.hid (rvalid_is base _ h w hs)
  clear h hs
  go_enter Tryd.func19, Tryd.ntmps19
  go_wp2_with fail
  refine HV.out.mono ?_
  rintro e w' ⟨rfl, rfl⟩
  go_wp2_with fail
  go_ret2
  exact ⟨rfl, Below.refl _ _⟩
theorem rfresh_base (base : ByteArray) (v : Value) (xs : List ByteArray) (w : World) (h : Pl.nm base = true) (hv : Reads w v xs) (hx : base ∉ xs) :
    Calls Tryd.prog 19 #[.string base, v] w fun e w' => e = .returned (.tuple #[.string base, .int .i64 0]) ∧ Below w.heap.size w w' := by
  have hsz := (Pl.nm_parts base h).2.1
  have hs : base.size ≤ maxLen := by unfold maxLen; omega
  have HV := Lib.hid (rvalid_is base _ h w hs)
  have HH := Lib.hid (rhas_is v xs base _ (Pl.inL_no xs base hx) w hv)
  clear h hs hv hx
  go_enter Tryd.func19, Tryd.ntmps19
  go_wp2_with fail
  refine HV.out.mono ?_
  rintro e w' ⟨rfl, rfl⟩
  go_wp2_with fail
  refine HH.out.mono ?_
  rintro e w' ⟨rfl, rfl⟩
  go_wp2_with fail
  go_ret2
  exact ⟨rfl, Below.refl _ _⟩
set_option maxHeartbeats 800000 in
theorem rfresh_run (base : ByteArray) (b o c n N : Nat) (xs : List ByteArray) (w : World) (h : Pl.nm base = true) (hv : Reads w (.slice (some ⟨b, o, none⟩) n c) xs) (hn : n = xs.length) (h60 : n ≤ 60) (hx : base ∈ xs) (hN : Pl.First base xs N) :
    Calls Tryd.prog 19 #[.string base, .slice (some ⟨b, o, none⟩) n c] w fun e w' => e = .returned (.tuple #[.string (Pl.cand base N), .int .i64 0]) ∧ Below w.heap.size w w' := by
  have hsz := (Pl.nm_parts base h).2.1
  have hs : base.size ≤ maxLen := by unfold maxLen; omega
  have hn0 : 1 ≤ n := by rw [hn]; exact List.length_pos_of_mem hx
  obtain ⟨hN1, hN2, hN3, hN4⟩ := hN
  rw [← hn] at hN2
  have HV := Lib.hid (rvalid_is base _ h w hs)
  have HH := Lib.hid (rhas_is _ xs base _ (Pl.inL_yes xs base hx) w hv)
  have HR := Lib.hid hv
  have H3 := Lib.hid hN3
  have H4 := Lib.hid hN4
  have HC := Lib.hid fun m hm wx => candidate_any base m hsz hm wx
  clear h hs hv hx hn hN3 hN4
  go_enter Tryd.func19, Tryd.ntmps19
  go_wp2_with fail
  refine HV.out.mono ?_
  rintro e w' ⟨rfl, rfl⟩
  go_wp2_with fail
  refine HH.out.mono ?_
  rintro e w' ⟨rfl, rfl⟩
  go_wp2_with fail
  go_loopw [6] (fun i wr => ∃ m : Nat, 2 ≤ m ∧ m ≤ N ∧ i = .int .i64 m ∧ Below w.heap.size w wr) (fun i _ => N + 1 - (intOf i).toNat)
  case atStart => exact ⟨2, Nat.le_refl _, hN1, rfl, Below.refl _ _⟩
  case round =>
    obtain ⟨m, hm2, hmN, rfl, hbel⟩ := hrel
    have hlt : (m : Int) < 20 * (n : Int) + 20 := by omega
    by_cases hp : m < N
    · have HY := Lib.hid (Pl.inL_yes _ _ (H4.out m hm2 hp))
      go_wp2_with fail
      refine (HC.out m (by omega) _).mono ?_
      rintro e w2 ⟨rfl, hb2⟩
      generalize Pl.cand base m = x at *
      have HHas := Lib.hid (rhas_is _ xs x _ HY.out w2 (HR.out.later (hbel.trans (hb2.mono hbel.size))))
      go_wp2_with fail
      refine HHas.out.mono ?_
      rintro e w' ⟨rfl, rfl⟩
      go_wp2_with fail
      exact ⟨⟨m + 1, by omega, by omega, by go_num, hbel.trans (hb2.mono hbel.size)⟩, by simp [intOf]; omega⟩
    · obtain rfl : m = N := by omega
      have HY := Lib.hid (Pl.inL_no _ _ H3.out)
      go_wp2_with fail
      refine (HC.out m (by omega) _).mono ?_
      rintro e w2 ⟨rfl, hb2⟩
      have HHas := Lib.hid (rhas_is _ xs _ _ HY.out w2 (HR.out.later (hbel.trans (hb2.mono hbel.size))))
      go_wp2_with fail
      refine HHas.out.mono ?_
      rintro e w' ⟨rfl, rfl⟩
      go_wp2_with fail
      go_ret2
      exact ⟨rfl, hbel.trans (hb2.mono hbel.size)⟩
theorem rfresh_any (base r : ByteArray) (v : Value) (xs : List ByteArray) (w : World) (h : Pl.nm base = true) (hv : Reads w v xs) (h60 : xs.length ≤ 60) (hr : Pl.Fresh base xs r) :
    Calls Tryd.prog 19 #[.string base, v] w fun e w' => e = .returned (.tuple #[.string r, .int .i64 0]) ∧ Below w.heap.size w w' := by
  rcases hr with ⟨hx, rfl⟩ | ⟨hx, N, hN, rfl⟩
  · exact rfresh_base r v xs w h hv hx
  · have hv2 := hv
    rcases hv with ⟨rfl, a, c, rfl, _⟩ | ⟨b, o, c, rfl, h1, h2, _⟩
    · cases hx
    · exact rfresh_run base b o c _ N xs w h hv2 rfl h60 hx hN
end Go.Proofs.YtjfmanflkcaohaaDoor
