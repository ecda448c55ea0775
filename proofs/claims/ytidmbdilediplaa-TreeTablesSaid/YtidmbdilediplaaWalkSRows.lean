/- The walk of the reference's SameRows. -/
import Derived.Test.YtidmbdilediplaaWalkRRows
namespace Go.Proofs.Ytidmbdilediplaa
open Go.RowKit Go.Deep
set_option linter.unusedVariables false
set_option linter.unusedSimpArgs false

/-- Are two tables one? -/
noncomputable def eqR (a b : List Pl.Rw) : Bool := @decide (a = b) (Classical.propDecidable _)
theorem eqR_iff {a b : List Pl.Rw} : eqR a b = true ↔ a = b := by unfold eqR; exact @decide_eq_true_iff _ (Classical.propDecidable _)
theorem eqR_no {a b : List Pl.Rw} (h : a ≠ b) : eqR a b = false := by unfold eqR; exact @decide_eq_false _ (Classical.propDecidable _) h
theorem rints_is {P Q : Nat → Prop} {w : World} (a b : Option Addr) (c d : Nat) (xs ys : List Int) (hx : Ints P w a xs) (hy : Ints Q w b ys) (z : Bool) (hz : decide (xs = ys) = z) :
    Calls Try.prog 36 #[.slice a xs.length c, .slice b ys.length d] w fun e w' => e = .returned (.bool z) ∧ Below w.heap.size w w' := hz ▸ rints_any a b c d xs ys hx hy
theorem strings_later {P Q : Nat → Prop} {W : World} {a b : Option Addr} {c d : Nat} {xs ys : List ByteArray} (hx : Strs P W a xs) (hy : Strs Q W b ys) (hP : ∀ x, P x → x < W.heap.size) (hQ : ∀ x, Q x → x < W.heap.size) (z : Bool) (hz : decide (xs = ys) = z) (n : Later W) :
    Calls Try.prog 35 #[.slice a xs.length c, .slice b ys.length d] n.u fun e w'' => e = .returned (.bool z) ∧ ∃ m : Later W, w'' = m.u :=
  (rstrings_is a b c d xs ys (hx.keep (Same.below n.h hP) (fun _ h => h)) (hy.keep (Same.below n.h hQ) (fun _ h => h)) z hz).mono fun e w'' ⟨he, hb⟩ => ⟨he, ⟨w'', n.h.trans (hb.mono n.h.size)⟩, rfl⟩
theorem ints_later {P Q : Nat → Prop} {W : World} {a b : Option Addr} {c d : Nat} {xs ys : List Int} (hx : Ints P W a xs) (hy : Ints Q W b ys) (hP : ∀ x, P x → x < W.heap.size) (hQ : ∀ x, Q x → x < W.heap.size) (z : Bool) (hz : decide (xs = ys) = z) (n : Later W) :
    Calls Try.prog 36 #[.slice a xs.length c, .slice b ys.length d] n.u fun e w'' => e = .returned (.bool z) ∧ ∃ m : Later W, w'' = m.u :=
  (rints_is a b c d xs ys (hx.keep (Same.below n.h hP) (fun _ h => h)) (hy.keep (Same.below n.h hQ) (fun _ h => h)) z hz).mono fun e w'' ⟨he, hb⟩ => ⟨he, ⟨w'', n.h.trans (hb.mono n.h.size)⟩, rfl⟩
theorem at5_later {w : World} {b o : Nat} {x : Pl.Rw} {r : Sl} (h : At5 w b o x r) (n : Later w) : n.u.cell? ⟨b, o, none⟩ = some (.int .i64 x.parent) ∧ n.u.cell? ⟨b, o + 1, none⟩ = some (.int .i64 x.kind) ∧ n.u.cell? ⟨b, o + 2, none⟩ = some (.string x.text) ∧
    n.u.cell? ⟨b, o + 3, none⟩ = some (.slice r.ga x.gaps.length r.gc) ∧ n.u.cell? ⟨b, o + 4, none⟩ = some (.slice r.da x.kids.length r.dc) := by
  have hb : b < w.heap.size := World.block_lt_of_cell? w _ h.cells.1
  exact (h.keep (n.h.block b hb)).cells
theorem rw_ext {x y : Pl.Rw} (h1 : x.parent = y.parent) (h2 : x.kind = y.kind) (h3 : x.text = y.text) (h4 : x.gaps = y.gaps) (h5 : x.kids = y.kids) : x = y := by
  cases x; cases y; simp_all

set_option maxHeartbeats 3200000 in
set_option maxRecDepth 100000 in
theorem samerows_any {P Q : Nat → Prop} {w : World} (a b : Option Addr) (c d : Nat) (xs ys : List Pl.Rw) (R S : Nat → Sl) (hx : TabIn P w a xs R) (hy : TabIn Q w b ys S) (hP : ∀ x, P x → x < w.heap.size) (hQ : ∀ x, Q x → x < w.heap.size) :
    Calls Try.prog 19 #[.slice a xs.length c, .slice b ys.length d] w fun e w' => e = .returned (.bool (eqR xs ys)) ∧ Below w.heap.size w w' := by
  have hn1 : xs.length ≤ maxLen := hx.1
  have hn2 : ys.length ≤ maxLen := hy.1
  unfold maxLen at hn1 hn2
  have HX := Lib.hid hx
  have HY := Lib.hid hy
  clear hx hy
  rcases (Classical.em (xs.length = ys.length)).symm with hl | hl
  · have HD := Lib.hid (show xs ≠ ys from fun e => hl (by rw [e]))
    obtain ⟨n, hn⟩ : ∃ n, n = xs.length := ⟨_, rfl⟩
    obtain ⟨m, hm⟩ : ∃ m, m = ys.length := ⟨_, rfl⟩
    rw [← hn, ← hm] at hl ⊢
    obtain ⟨hl2, hl3⟩ := int_ne (x := (n : Int)) (y := m) (fun e => hl (by omega))
    clear hn hm hl
    go_enter Try.func19, Try.ntmps19
    go_wp2_with fail
    go_ret
    exact ⟨ret_bool (eqR_no HD.out).symm, Below.refl _ _⟩
  have HLen := Lib.hid hl
  rw [← hl]
  obtain ⟨n, hn⟩ : ∃ n, n = xs.length := ⟨_, rfl⟩
  have HN := Lib.hid hn
  rw [← hn] at hn1 ⊢
  clear hl hn hn2
  go_enter Try.func19, Try.ntmps19
  go_wp2_with fail
  go_loopw [5] (fun i wr => ∃ k : Nat, k ≤ n ∧ i = .int .i64 k ∧ xs.take k = ys.take k ∧ Below w.heap.size w wr) (fun i _ => n - (intOf i).toNat)
  case atStart => exact ⟨0, Nat.zero_le _, rfl, rfl, Below.refl _ _⟩
  case round =>
    obtain ⟨k, hk, rfl, heq, hbel⟩ := hrel
    have HE := Lib.hid heq
    have HB := Lib.hid hbel
    have hgr := hbel.size
    clear heq hbel
    by_cases hlt : k < n
    · have hkx : k < xs.length := by rw [← HN.out]; exact hlt
      have hky : k < ys.length := by rw [← HLen.out]; exact hkx
      have hgx := List.getElem?_eq_getElem hkx
      have hgy := List.getElem?_eq_getElem hky
      have hi0 : (0 : Int) ≤ (k : Int) := Int.natCast_nonneg _
      have hi1 : (k : Int) < (n : Int) := by omega
      have hPr : ∀ x, P x → x < wr.heap.size := fun x h => Nat.lt_of_lt_of_le (hP x h) hgr
      have hQr : ∀ x, Q x → x < wr.heap.size := fun x h => Nat.lt_of_lt_of_le (hQ x h) hgr
      rcases HX.out.2.1 with h0 | ⟨b1, o1, rfl, hb1, hat1⟩
      · rw [h0] at hkx; simp at hkx
      rcases HY.out.2.1 with h0 | ⟨b2, o2, rfl, hb2, hat2⟩
      · rw [h0] at hky; simp at hky
      have A1 := (hat1 k _ hgx).keep (HB.out.block b1 (hP b1 hb1))
      have A2 := (hat2 k _ hgy).keep (HB.out.block b2 (hQ b2 hb2))
      have I1 := Lib.hid ((HX.out.2.2 k _ hgx).keep (Same.below HB.out hP) (fun _ h => h))
      have I2 := Lib.hid ((HY.out.2.2 k _ hgy).keep (Same.below HB.out hQ) (fun _ h => h))
      have HGX := Lib.hid hgx
      have HGY := Lib.hid hgy
      generalize xs[k] = x at *
      generalize ys[k] = y at *
      generalize R k = r1 at *
      generalize S k = r2 at *
      obtain ⟨ga1, gc1, ka1, kc1⟩ := r1
      obtain ⟨ga2, gc2, ka2, kc2⟩ := r2
      clear hat1 hat2 hgx hgy
      have x0 := fun m : Later wr => (at5_later A1 m).1
      have x1 := fun m : Later wr => (at5_later A1 m).2.1
      have x2 := fun m : Later wr => (at5_later A1 m).2.2.1
      have x3 := fun m : Later wr => (at5_later A1 m).2.2.2.1
      have x4 := fun m : Later wr => (at5_later A1 m).2.2.2.2
      have y0 := fun m : Later wr => (at5_later A2 m).1
      have y1 := fun m : Later wr => (at5_later A2 m).2.1
      have y2 := fun m : Later wr => (at5_later A2 m).2.2.1
      have y3 := fun m : Later wr => (at5_later A2 m).2.2.2.1
      have y4 := fun m : Later wr => (at5_later A2 m).2.2.2.2
      clear A1 A2
      simp only at x3 x4 y3 y4
      rcases (Classical.em (x.parent = y.parent)).symm with hne | hparent
      · have HNE : Hid (x ≠ y) := Lib.hid (fun e => hne (by rw [e]))
        obtain ⟨hb1, hb2⟩ := int_ne hne
        clear hne
        go_wp2_with fail
        refine region_later (by kernel_rfl) (by kernel_rfl) ?_
        simp only [List.append]
        repeat (go_big_quiet_step (fail))
        refine wpQuiet_nil ?_
        intro _ hw'
        obtain ⟨m1, rfl⟩ := hw'
        have hm1 := m1.h
        have HB2 := Lib.hid (HB.out.trans (hm1.mono hgr))
        clear x0 x1 x2 x3 x4 y0 y1 y2 y3 y4 hm1
        go_wp2_with fail
        go_ret
        exact ⟨ret_bool (eqR_no (take_differ HGX.out HGY.out HNE.out)).symm, HB2.out⟩
      have Eparent := Lib.hid hparent
      have eparent : (x.parent != y.parent) = false := by rw [hparent]; simp
      have eparent2 : (x.parent == y.parent) = true := by rw [hparent]; simp
      clear hparent
      rcases (Classical.em (x.kind = y.kind)).symm with hne | hkind
      · have HNE : Hid (x ≠ y) := Lib.hid (fun e => hne (by rw [e]))
        obtain ⟨hb1, hb2⟩ := int_ne hne
        clear hne
        go_wp2_with fail
        refine region_later (by kernel_rfl) (by kernel_rfl) ?_
        simp only [List.append]
        repeat (go_big_quiet_step (fail))
        refine wpQuiet_nil ?_
        intro _ hw'
        obtain ⟨m1, rfl⟩ := hw'
        have hm1 := m1.h
        have HB2 := Lib.hid (HB.out.trans (hm1.mono hgr))
        clear x0 x1 x2 x3 x4 y0 y1 y2 y3 y4 hm1
        go_wp2_with fail
        go_ret
        exact ⟨ret_bool (eqR_no (take_differ HGX.out HGY.out HNE.out)).symm, HB2.out⟩
      have Ekind := Lib.hid hkind
      have ekind : (x.kind != y.kind) = false := by rw [hkind]; simp
      have ekind2 : (x.kind == y.kind) = true := by rw [hkind]; simp
      clear hkind
      rcases (Classical.em (x.text = y.text)).symm with hne | htext
      · have HNE : Hid (x ≠ y) := Lib.hid (fun e => hne (by rw [e]))
        obtain ⟨hb1, hb2⟩ := str_neq hne
        clear hne
        go_wp2_with fail
        refine region_later (by kernel_rfl) (by kernel_rfl) ?_
        simp only [List.append]
        repeat (go_big_quiet_step (fail))
        refine wpQuiet_nil ?_
        intro _ hw'
        obtain ⟨m1, rfl⟩ := hw'
        have hm1 := m1.h
        have HB2 := Lib.hid (HB.out.trans (hm1.mono hgr))
        clear x0 x1 x2 x3 x4 y0 y1 y2 y3 y4 hm1
        go_wp2_with fail
        go_ret
        exact ⟨ret_bool (eqR_no (take_differ HGX.out HGY.out HNE.out)).symm, HB2.out⟩
      have Etext := Lib.hid htext
      have etext : (x.text.toList != y.text.toList) = false := by rw [htext]; simp
      have etext2 : (x.text.toList == y.text.toList) = true := by rw [htext]; simp
      clear htext
      rcases (Classical.em (x.gaps = y.gaps)).symm with hne | hgaps
      · have HNE : Hid (x ≠ y) := Lib.hid (fun e => hne (by rw [e]))
        have HZ := Lib.hid (decide_eq_false hne)
        clear hne
        go_wp2_with fail
        refine region_later (by kernel_rfl) (by kernel_rfl) ?_
        simp only [List.append]
        repeat (go_big_quiet_step (exact strings_later I1.out.2.1 I2.out.2.1 hPr hQr false HZ.out _))
        refine wpQuiet_nil ?_
        intro _ hw'
        obtain ⟨m1, rfl⟩ := hw'
        have hm1 := m1.h
        have HB2 := Lib.hid (HB.out.trans (hm1.mono hgr))
        clear x0 x1 x2 x3 x4 y0 y1 y2 y3 y4 hm1
        go_wp2_with fail
        go_ret
        exact ⟨ret_bool (eqR_no (take_differ HGX.out HGY.out HNE.out)).symm, HB2.out⟩
      have Egaps := Lib.hid hgaps
      have HZ := Lib.hid (decide_eq_true hgaps)
      clear hgaps
      rcases (Classical.em (x.kids = y.kids)).symm with hne | hkids
      · have HNE : Hid (x ≠ y) := Lib.hid (fun e => hne (by rw [e]))
        have HZ2 := Lib.hid (decide_eq_false hne)
        clear hne
        go_wp2_with fail
        refine region_later (by kernel_rfl) (by kernel_rfl) ?_
        simp only [List.append]
        repeat (go_big_quiet_step (first | exact strings_later I1.out.2.1 I2.out.2.1 hPr hQr true HZ.out _ | exact ints_later I1.out.2.2 I2.out.2.2 hPr hQr false HZ2.out _))
        refine wpQuiet_nil ?_
        intro _ hw'
        obtain ⟨m1, rfl⟩ := hw'
        have hm1 := m1.h
        have HB2 := Lib.hid (HB.out.trans (hm1.mono hgr))
        clear x0 x1 x2 x3 x4 y0 y1 y2 y3 y4 hm1
        go_wp2_with fail
        go_ret
        exact ⟨ret_bool (eqR_no (take_differ HGX.out HGY.out HNE.out)).symm, HB2.out⟩
      have Ekids := Lib.hid hkids
      have HZ2 := Lib.hid (decide_eq_true hkids)
      clear hkids
      have HXY : Hid (x = y) := Lib.hid (rw_ext Eparent.out Ekind.out Etext.out Egaps.out Ekids.out)
      go_wp2_with fail
      refine region_later (by kernel_rfl) (by kernel_rfl) ?_
      simp only [List.append]
      repeat (go_big_quiet_step (first | exact strings_later I1.out.2.1 I2.out.2.1 hPr hQr true HZ.out _ | exact ints_later I1.out.2.2 I2.out.2.2 hPr hQr true HZ2.out _))
      refine wpQuiet_nil ?_
      intro _ hw'
      obtain ⟨m1, rfl⟩ := hw'
      have hm1 := m1.h
      have HB2 := Lib.hid (HB.out.trans (hm1.mono hgr))
      clear x0 x1 x2 x3 x4 y0 y1 y2 y3 y4 hm1
      go_wp2_with fail
      exact ⟨⟨k + 1, by omega, by go_num, take_same HE.out HGX.out (by rw [HXY.out]; exact HGY.out), HB2.out⟩, by simp [intOf]; omega⟩
    · have hkn : k = n := by omega
      subst hkn
      have HD : Hid (xs = ys) := Lib.hid (by have := HE.out; rw [HN.out, List.take_length] at this; rw [this, HLen.out, List.take_length])
      go_wp2_with fail
      go_ret
      exact ⟨ret_bool (eqR_iff.2 HD.out).symm, HB.out⟩
end Go.Proofs.Ytidmbdilediplaa
