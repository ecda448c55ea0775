/- The walks of the reference's SameUses, SameRefs and Unbound. -/
import Derived.Test.YtoelfiendfemaaaEqS
namespace Go.Proofs.Ytoelfiendfemaaa
open Go.RowKit Go.Deep
set_option linter.unusedVariables false
set_option linter.unusedSimpArgs false

theorem take_same {α : Type} {a b : List α} {k : Nat} {x : α} (h : a.take k = b.take k) (ha : a[k]? = some x) (hb : b[k]? = some x) : a.take (k + 1) = b.take (k + 1) := by
  rw [List.take_add_one, List.take_add_one, ha, hb, h]
theorem take_differ {α : Type} {a b : List α} {k : Nat} {x y : α} (ha : a[k]? = some x) (hb : b[k]? = some y) (h : x ≠ y) : a ≠ b := by
  rintro rfl; rw [ha] at hb; exact h (Option.some.inj hb)
set_option maxHeartbeats 1600000 in
set_option maxRecDepth 100000 in
theorem sameRefs_any (a b : Option Addr) (n m c d : Nat) (xs ys : List Pl.Rf) (w : World) (hx : FlatW 2 cellsR w a xs) (hy : FlatW 2 cellsR w b ys) (hn : n = xs.length) (hm : m = ys.length) :
    Calls Try.prog 19 #[.slice a n c, .slice b m d] w fun e w' => e = .returned (.bool (decide (xs = ys))) ∧ Below w.heap.size w w' := by
  have hn1 : n ≤ maxLen := by rw [hn]; exact hx.1
  have hm1 : m ≤ maxLen := by rw [hm]; exact hy.1
  unfold maxLen at hn1 hm1
  have HX := Lib.hid hx
  have HY := Lib.hid hy
  have HN := Lib.hid hn
  have HM := Lib.hid hm
  clear hx hy hn hm
  by_cases hl : n = m
  case neg =>
    have HF : Hid (decide (xs = ys) = false) := Lib.hid (decide_eq_false (fun e => hl (by rw [HN.out, HM.out, e])))
    have hb := (int_no (show (n : Int) ≠ (m : Int) by omega)).2
    go_enter Try.func19, Try.ntmps19
    go_wp2_with fail
    go_ret
    exact ⟨ret_bool (by rw [HF.out]), Below.refl _ _⟩
  subst hl
  go_enter Try.func19, Try.ntmps19
  go_wp2_with fail
  go_loopw [5] (fun i wr => ∃ k : Nat, k ≤ n ∧ i = .int .i64 k ∧ xs.take k = ys.take k ∧ Below w.heap.size w wr) (fun i _ => n - (intOf i).toNat)
  case atStart => exact ⟨0, Nat.zero_le _, rfl, by simp, Below.refl _ _⟩
  case round =>
    obtain ⟨k, hk, rfl, htk, hbel⟩ := hrel
    have HTk := Lib.hid htk
    have HB := Lib.hid hbel
    by_cases hlt : k < n
    · have hkx : k < xs.length := by rw [← HN.out]; exact hlt
      have hky : k < ys.length := by rw [← HM.out]; exact hlt
      have hgx := List.getElem?_eq_getElem hkx
      have hgy := List.getElem?_eq_getElem hky
      obtain ⟨bx, ox, rfl, hbx, hrx⟩ := HX.out.one hgx
      obtain ⟨by', oy, rfl, hby, hry⟩ := HY.out.one hgy
      have hk0 : (0 : Int) ≤ (k : Int) := Int.natCast_nonneg _
      have hk1 : (k : Int) < (n : Int) := by omega
      generalize xs[k] = x at *
      generalize ys[k] = y at *
      obtain ⟨bb, hbb⟩ : ∃ bb, (fun (x y : Pl.Rf) => !(x.1 == y.1 && x.2 == y.2)) x y = bb := ⟨_, rfl⟩
      have HBB := Lib.hid ((rf_beq x y).symm.trans hbb)
      have p0 := (hbel.cell (p := ⟨bx, ox + k * 2, none⟩) hbx).trans (hrx 0 _ rfl)
      have p1 := (hbel.cell (p := ⟨bx, ox + k * 2 + 1, none⟩) hbx).trans (hrx 1 _ rfl)
      have q0 := (hbel.cell (p := ⟨by', oy + k * 2, none⟩) hby).trans (hry 0 _ rfl)
      have q1 := (hbel.cell (p := ⟨by', oy + k * 2 + 1, none⟩) hby).trans (hry 1 _ rfl)
      have HGX := Lib.hid hgx
      have HGY := Lib.hid hgy
      clear hgx hgy hrx hry htk hbel
      go_wp2_with fail
      refine wp_region_quiet_lit (by kernel_rfl) (by kernel_rfl) ?_
      iterate 8 (go_big_quiet_step (fail))
      refine quiet_bin (by rfl) .neq 29 29 _ _ (by rfl) (.agg #[.int .i64 x.1, .int .i64 x.2]) (.agg #[.int .i64 y.1, .int .i64 y.2]) _ (by rfl) (by rfl) (fun u hu => refs_neq_is _ _ x.1 x.2 y.1 y.2 bb hbb u) ?_
      simp only [Act.put, List.setIfInBounds_toArray, List.set_cons_succ, List.set_cons_zero]
      refine wpQuiet_nil ?_
      intro _ hw'
      obtain ⟨nq, rfl⟩ := hw'
      clear hbb
      cases bb with
      | false =>
        have he : x = y := by have := HBB.out; simpa using this
        have HT := Lib.hid (take_same HTk.out HGX.out (he ▸ HGY.out))
        clear he
        go_wp2_with fail
        exact ⟨⟨k + 1, by omega, by go_num, HT.out, HB.out.trans ((below_drewN wr nq).mono HB.out.size)⟩, by simp [intOf]; omega⟩
      | true =>
        have he : x ≠ y := by have := HBB.out; simpa using this
        have HF : Hid (decide (xs = ys) = false) := Lib.hid (decide_eq_false (take_differ HGX.out HGY.out he))
        clear he
        go_wp2_with fail
        go_ret
        exact ⟨ret_bool (by rw [HF.out]), HB.out.trans ((below_drewN wr nq).mono HB.out.size)⟩
    · have hkn : k = n := by omega
      subst hkn
      have HT : Hid (decide (xs = ys) = true) := Lib.hid (decide_eq_true (by rw [← List.take_of_length_le (show xs.length ≤ k by rw [← HN.out]; exact Nat.le_refl _), ← List.take_of_length_le (show ys.length ≤ k by rw [← HM.out]; exact Nat.le_refl _), HTk.out]))
      clear htk hbel
      go_wp2_with fail
      go_ret
      exact ⟨ret_bool (by rw [HT.out]), HB.out⟩
set_option maxHeartbeats 1600000 in
set_option maxRecDepth 100000 in
theorem sameUses_any (a b : Option Addr) (n m c d : Nat) (xs ys : List Pl.Us) (w : World) (hx : FlatW 5 cellsU w a xs) (hy : FlatW 5 cellsU w b ys) (hn : n = xs.length) (hm : m = ys.length) :
    Calls Try.prog 11 #[.slice a n c, .slice b m d] w fun e w' => e = .returned (.bool (decide (xs = ys))) ∧ Below w.heap.size w w' := by
  have hn1 : n ≤ maxLen := by rw [hn]; exact hx.1
  have hm1 : m ≤ maxLen := by rw [hm]; exact hy.1
  unfold maxLen at hn1 hm1
  have HX := Lib.hid hx
  have HY := Lib.hid hy
  have HN := Lib.hid hn
  have HM := Lib.hid hm
  clear hx hy hn hm
  by_cases hl : n = m
  case neg =>
    have HF : Hid (decide (xs = ys) = false) := Lib.hid (decide_eq_false (fun e => hl (by rw [HN.out, HM.out, e])))
    have hb := (int_no (show (n : Int) ≠ (m : Int) by omega)).2
    go_enter Try.func11, Try.ntmps11
    go_wp2_with fail
    go_ret
    exact ⟨ret_bool (by rw [HF.out]), Below.refl _ _⟩
  subst hl
  go_enter Try.func11, Try.ntmps11
  go_wp2_with fail
  go_loopw [5] (fun i wr => ∃ k : Nat, k ≤ n ∧ i = .int .i64 k ∧ xs.take k = ys.take k ∧ Below w.heap.size w wr) (fun i _ => n - (intOf i).toNat)
  case atStart => exact ⟨0, Nat.zero_le _, rfl, by simp, Below.refl _ _⟩
  case round =>
    obtain ⟨k, hk, rfl, htk, hbel⟩ := hrel
    have HTk := Lib.hid htk
    have HB := Lib.hid hbel
    by_cases hlt : k < n
    · have hkx : k < xs.length := by rw [← HN.out]; exact hlt
      have hky : k < ys.length := by rw [← HM.out]; exact hlt
      have hgx := List.getElem?_eq_getElem hkx
      have hgy := List.getElem?_eq_getElem hky
      obtain ⟨bx, ox, rfl, hbx, hrx⟩ := HX.out.one hgx
      obtain ⟨by', oy, rfl, hby, hry⟩ := HY.out.one hgy
      have hk0 : (0 : Int) ≤ (k : Int) := Int.natCast_nonneg _
      have hk1 : (k : Int) < (n : Int) := by omega
      generalize xs[k] = x at *
      generalize ys[k] = y at *
      obtain ⟨bb, hbb⟩ : ∃ bb, (fun (x y : Pl.Us) => !((x.au == y.au && x.an == y.an) && ((x.du == y.du && x.dn == y.dn) && x.bound == y.bound))) x y = bb := ⟨_, rfl⟩
      have HBB := Lib.hid ((us_beq x y).symm.trans hbb)
      have p0 := (hbel.cell (p := ⟨bx, ox + k * 5, none⟩) hbx).trans (hrx 0 _ rfl)
      have p1 := (hbel.cell (p := ⟨bx, ox + k * 5 + 1, none⟩) hbx).trans (hrx 1 _ rfl)
      have p2 := (hbel.cell (p := ⟨bx, ox + k * 5 + 2, none⟩) hbx).trans (hrx 2 _ rfl)
      have p3 := (hbel.cell (p := ⟨bx, ox + k * 5 + 3, none⟩) hbx).trans (hrx 3 _ rfl)
      have p4 := (hbel.cell (p := ⟨bx, ox + k * 5 + 4, none⟩) hbx).trans (hrx 4 _ rfl)
      have q0 := (hbel.cell (p := ⟨by', oy + k * 5, none⟩) hby).trans (hry 0 _ rfl)
      have q1 := (hbel.cell (p := ⟨by', oy + k * 5 + 1, none⟩) hby).trans (hry 1 _ rfl)
      have q2 := (hbel.cell (p := ⟨by', oy + k * 5 + 2, none⟩) hby).trans (hry 2 _ rfl)
      have q3 := (hbel.cell (p := ⟨by', oy + k * 5 + 3, none⟩) hby).trans (hry 3 _ rfl)
      have q4 := (hbel.cell (p := ⟨by', oy + k * 5 + 4, none⟩) hby).trans (hry 4 _ rfl)
      have HGX := Lib.hid hgx
      have HGY := Lib.hid hgy
      clear hgx hgy hrx hry htk hbel
      go_wp2_with fail
      refine wp_region_quiet_lit (by kernel_rfl) (by kernel_rfl) ?_
      iterate 8 (go_big_quiet_step (fail))
      refine quiet_bin (by rfl) .neq 42 42 _ _ (by rfl) (.agg #[.int .i64 x.au, .int .i64 x.an, .int .i64 x.du, .int .i64 x.dn, .bool x.bound]) (.agg #[.int .i64 y.au, .int .i64 y.an, .int .i64 y.du, .int .i64 y.dn, .bool y.bound]) _ (by rfl) (by rfl) (fun u hu => uses_neq_is _ _ x.au x.an x.du x.dn y.au y.an y.du y.dn x.bound y.bound bb hbb u) ?_
      simp only [Act.put, List.setIfInBounds_toArray, List.set_cons_succ, List.set_cons_zero]
      refine wpQuiet_nil ?_
      intro _ hw'
      obtain ⟨nq, rfl⟩ := hw'
      clear hbb
      cases bb with
      | false =>
        have he : x = y := by have := HBB.out; simpa using this
        have HT := Lib.hid (take_same HTk.out HGX.out (he ▸ HGY.out))
        clear he
        go_wp2_with fail
        exact ⟨⟨k + 1, by omega, by go_num, HT.out, HB.out.trans ((below_drewN wr nq).mono HB.out.size)⟩, by simp [intOf]; omega⟩
      | true =>
        have he : x ≠ y := by have := HBB.out; simpa using this
        have HF : Hid (decide (xs = ys) = false) := Lib.hid (decide_eq_false (take_differ HGX.out HGY.out he))
        clear he
        go_wp2_with fail
        go_ret
        exact ⟨ret_bool (by rw [HF.out]), HB.out.trans ((below_drewN wr nq).mono HB.out.size)⟩
    · have hkn : k = n := by omega
      subst hkn
      have HT : Hid (decide (xs = ys) = true) := Lib.hid (decide_eq_true (by rw [← List.take_of_length_le (show xs.length ≤ k by rw [← HN.out]; exact Nat.le_refl _), ← List.take_of_length_le (show ys.length ≤ k by rw [← HM.out]; exact Nat.le_refl _), HTk.out]))
      clear htk hbel
      go_wp2_with fail
      go_ret
      exact ⟨ret_bool (by rw [HT.out]), HB.out⟩
end Go.Proofs.Ytoelfiendfemaaa
