/- The walk of the reference's found. -/
import Derived.Test.YtoelfiendfemaaaTbJ
namespace Go.Proofs.Ytoelfiendfemaaa
open Go.RowKit Go.Deep
set_option linter.unusedVariables false
set_option linter.unusedSimpArgs false

theorem look_eq (D : List Pl.Dc) (k : Int) (s : ByteArray) (d : Pl.Dc) (h : D.find? (fun d => decide (d.kind = k ∧ d.name = s)) = some d) : Pl.look D k s = some (d.unit, d.node) := by
  unfold Pl.look; rw [h]; rfl
theorem look_none (D : List Pl.Dc) (k : Int) (s : ByteArray) (h : D.find? (fun d => decide (d.kind = k ∧ d.name = s)) = none) : Pl.look D k s = none := by
  unfold Pl.look; rw [h]; rfl
theorem cellsD_at {w : World} {b o : Nat} {d : Pl.Dc} (h : w.rangeAt b o (cellsD d)) : w.cell? ⟨b, o, none⟩ = some (.int .i64 d.kind) ∧ w.cell? ⟨b, o + 1, none⟩ = some (.string d.owner) ∧ w.cell? ⟨b, o + 2, none⟩ = some (.string d.name) ∧ w.cell? ⟨b, o + 3, none⟩ = some (.int .i64 d.unit) ∧ w.cell? ⟨b, o + 4, none⟩ = some (.int .i64 d.node) :=
  ⟨h 0 _ rfl, h 1 _ rfl, h 2 _ rfl, h 3 _ rfl, h 4 _ rfl⟩
theorem range_two {w : World} {b o : Nat} {x y : Value} (h0 : w.cell? ⟨b, o, none⟩ = some x) (h1 : w.cell? ⟨b, o + 1, none⟩ = some y) : w.rangeAt b o [x, y] := by
  intro j v hv
  match j, hv with
  | 0, hv => simp at hv; subst hv; exact h0
  | 1, hv => simp at hv; subst hv; exact h1
/-- What found answers. -/
def FoundP (o : Option Pl.Rf) (w : World) (e : Ending) (w' : World) : Prop := e = .returned (foundV o) ∧ Below w.heap.size w w'
set_option maxHeartbeats 1600000 in
set_option maxRecDepth 100000 in
theorem found_zero (b o c n : Nat) (l : List Pl.Rw) (R : Nat → Sl) (w : World) (hT : Tb w b o l R) (hok : Pl.Ok l) (hn : n = l.length) (D : List Pl.Dc) (da : Option Addr) (dc m : Nat) (hD : FlatW 5 cellsD w da D) (hm : m = D.length) (u : Int) (k : Nat) (hk : k < n) (h0 : Pl.spc (Pl.rw l k) = 0) :
    Calls Try.prog 40 #[.slice da m dc, .slice (some ⟨b, o, none⟩) n c, .int .i64 u, .int .i64 k] w (FoundP (Pl.found D l u k) w) := by
  obtain ⟨x, r, hx, hrw, c0, c1, c2, c3, c4, _, hat⟩ := hT.row (i := k) (by omega)
  have HT := Lib.hid hT
  have HN := Lib.hid hn
  have HOk := Lib.hid hok
  have HD := Lib.hid hD
  have HAT := Lib.hid hat
  have HM := Lib.hid hm
  have hbw := hT.1
  have hp0 : (0 : Int) ≤ (k : Int) := Int.natCast_nonneg _
  have hp1 : (k : Int) < (n : Int) := by omega
  have hll2 : n ≤ 1000000 := by rw [hn]; exact hok.1
  have hml : m ≤ maxLen := by rw [hm]; exact hD.1
  unfold maxLen at hml
  have hs0 : Pl.spc (Pl.rw l k) = Pl.space x.kind x.text := by rw [hrw]; rfl
  have HSp := Lib.hid (fun gv kv w => space_any x.parent x.kind x.text gv kv w)
  have HV := Lib.hid (fun (w1 : World) (h : Below w.heap.size w w1) => variable_any b o c n l R w1 (hT.later h) hok hn k hk x.text)
  rw [hs0] at h0
  have HFd : Hid (Pl.found D l u k = none) := Lib.hid (by unfold Pl.found; rw [hs0, if_pos h0])
  rw [h0] at HSp
  clear hs0 h0
  clear hT hok hx hn hrw hat hD hm c0 c1 c2 c3 c4
  go_enter Try.func40, Try.ntmps40
  go_wp2_with (first
    | (refine wpList_load_mid rfl 47 _ rfl b (o + k * 5) rfl (cells5 (x, r)) _ (HAT.out.keep (Below.heap_alloc _ _ _ hbw)) Try.underlying47 rfl sizeR ?_)
    | (go_at_call 42; refine (HSp.out _ _ _).mono ?_; rintro e w2 ⟨rfl, hb2⟩; obtain ⟨hbk, hb3, _⟩ := one_after hb2; obtain ⟨⟨p0, p1⟩, z0, z1⟩ := blk_two hbk; have HBk := Lib.hid hbk; have HB := Lib.hid hb3; clear hb2 hb3 hbk))
  exact bodyPost_ret (v := .tuple #[.agg #[.int .i64 0, .int .i64 0], .bool false]) (by simp [results, Try.results40, go_sem, p0, p1]) rfl ⟨by rw [HFd.out]; rfl, below_set2 HB.out (Nat.le_refl _)⟩
set_option maxHeartbeats 1600000 in
set_option maxRecDepth 100000 in
theorem found_else (b o c n : Nat) (l : List Pl.Rw) (R : Nat → Sl) (w : World) (hT : Tb w b o l R) (hok : Pl.Ok l) (hn : n = l.length) (D : List Pl.Dc) (da : Option Addr) (dc m : Nat) (hD : FlatW 5 cellsD w da D) (hm : m = D.length) (u : Int) (k : Nat) (hk : k < n) (h0 : Pl.spc (Pl.rw l k) ≠ 0) (h6 : Pl.spc (Pl.rw l k) ≠ 6) :
    Calls Try.prog 40 #[.slice da m dc, .slice (some ⟨b, o, none⟩) n c, .int .i64 u, .int .i64 k] w (FoundP (Pl.found D l u k) w) := by
  obtain ⟨x, r, hx, hrw, c0, c1, c2, c3, c4, _, hat⟩ := hT.row (i := k) (by omega)
  have HT := Lib.hid hT
  have HN := Lib.hid hn
  have HOk := Lib.hid hok
  have HD := Lib.hid hD
  have HAT := Lib.hid hat
  have HM := Lib.hid hm
  have hbw := hT.1
  have hp0 : (0 : Int) ≤ (k : Int) := Int.natCast_nonneg _
  have hp1 : (k : Int) < (n : Int) := by omega
  have hll2 : n ≤ 1000000 := by rw [hn]; exact hok.1
  have hml : m ≤ maxLen := by rw [hm]; exact hD.1
  unfold maxLen at hml
  have hs0 : Pl.spc (Pl.rw l k) = Pl.space x.kind x.text := by rw [hrw]; rfl
  have HSp := Lib.hid (fun gv kv w => space_any x.parent x.kind x.text gv kv w)
  have HV := Lib.hid (fun (w1 : World) (h : Below w.heap.size w w1) => variable_any b o c n l R w1 (hT.later h) hok hn k hk x.text)
  rw [hs0] at h0 h6
  have HFd : Hid (Pl.found D l u k = Pl.look D (Pl.space x.kind x.text) x.text) := Lib.hid (by unfold Pl.found; rw [hs0, if_neg h0, if_neg h6, hrw])
  have s0 := (int_no h0).1
  have s6 := (int_no h6).1
  generalize Pl.space x.kind x.text = K at *
  clear hs0 h0 h6
  clear hT hok hx hn hrw hat hD hm c0 c1 c2 c3 c4
  go_enter Try.func40, Try.ntmps40
  go_wp2_with (first
    | (refine wpList_load_mid rfl 47 _ rfl b (o + k * 5) rfl (cells5 (x, r)) _ (HAT.out.keep (Below.heap_alloc _ _ _ hbw)) Try.underlying47 rfl sizeR ?_)
    | (go_at_call 42; refine (HSp.out _ _ _).mono ?_; rintro e w2 ⟨rfl, hb2⟩; obtain ⟨hbk, hb3, _⟩ := one_after hb2; obtain ⟨⟨p0, p1⟩, z0, z1⟩ := blk_two hbk; have HBk := Lib.hid hbk; have HB := Lib.hid hb3; clear hb2 hb3 hbk))
  obtain ⟨⟨p0, p1⟩, z0, z1⟩ := blk_two HBk.out
  obtain ⟨_, _, _, _, _, y1, y2, _⟩ := (HT.out.later HB.out).row (i := k) (by rw [← HN.out]; exact hk)
  have y2 : w2.cell? ⟨b, o + k * 5 + 2, none⟩ = some (.string x.text) := (HAT.out.keep (HB.out.block b hbw)).cells.2.2.1
  have hbw2 : b < w2.heap.size := Nat.lt_of_lt_of_le hbw HB.out.size
  go_loopw [13] (fun u wr2 => ∃ j : Nat, j ≤ m ∧ u = .int .i64 j ∧ (D.take j).find? (fun d => decide (d.kind = K ∧ d.name = x.text)) = none ∧ Below w2.heap.size w2 wr2) (fun u _ => m - (intOf u).toNat)
  case atStart => exact ⟨0, Nat.zero_le _, rfl, by simp, Below.refl _ _⟩
  case round =>
    obtain ⟨j, hj, rfl, hno, hbel⟩ := hrel
    have HNo := Lib.hid hno
    have HB3 := Lib.hid (HB.out.trans (hbel.mono HB.out.size))
    have HBel := Lib.hid hbel
    have hbk := blk_keep HBk.out hbel
    obtain ⟨⟨q0, q1⟩, v0, v1⟩ := blk_two hbk
    have HBk2 := Lib.hid hbk
    have yy : wr.cell? ⟨b, o + k * 5 + 2, none⟩ = some (.string x.text) := (hbel.cell (p := ⟨b, o + k * 5 + 2, none⟩) hbw2).trans y2
    clear hno hbk
    by_cases hlt : j < m
    · have hj0 : (0 : Int) ≤ (j : Int) := Int.natCast_nonneg _
      have hj1 : (j : Int) < (m : Int) := by omega
      have hjx : j < D.length := by rw [← HM.out]; exact hlt
      have hgx := List.getElem?_eq_getElem hjx
      obtain ⟨db, doo, hda, hdb, hat2⟩ := HD.out.one hgx
      obtain rfl : da = some ⟨db, doo, none⟩ := hda
      have HFY := Lib.hid (fun hf => find_at HNo.out hgx hf)
      have HFN := Lib.hid (fun hf => find_not HNo.out hgx hf)
      obtain ⟨d0, _, d2, d3, d4⟩ := cellsD_at (fun i v hv => (HB3.out.cell (p := ⟨db, doo + j * 5 + i, none⟩) hdb).trans (hat2 i v hv))
      generalize D[j] = d at *
      have hrg := range_two d3 d4
      have HRg := Lib.hid hrg
      clear hat2 hgx hrg
      by_cases hc : d.kind = K ∧ d.name = x.text
      · have HF := Lib.hid (HFd.out.trans (look_eq _ _ _ _ (HFY.out (by simpa using hc))))
        obtain ⟨g1, g2⟩ := hc
        have b1 := (int_yes g1).1
        have b2 := str_yes g2
        clear g1 g2 HFY HFN
        go_wp2_with (fail)
        go_quiet (fail)
        go_wp2_with (refine wpList_load_mid rfl 29 _ rfl db (doo + j * 5 + 3) rfl [.int .i64 d.unit, .int .i64 d.node] _ HRg.out Try.underlying29 rfl sizeF ?_)
        exact bodyPost_ret (v := .tuple #[.agg #[.int .i64 d.unit, .int .i64 d.node], .bool true]) (by simp [results, Try.results40, go_sem, q0, q1]) rfl ⟨by rw [HF.out]; rfl, below_set2 (HB3.out.trans ((below_drewN wr nq).mono HB3.out.size)) (Nat.le_refl _)⟩
      · have HF := Lib.hid (HFN.out (by simpa using hc))
        by_cases g1 : d.kind = K
        · have b1 := (int_yes g1).1
          have b2 := str_no (fun h => hc ⟨g1, h⟩ : d.name ≠ x.text)
          clear g1 hc HFY HFN
          go_wp2_with (fail)
          go_quiet (fail)
          go_wp2_with (fail)
          exact ⟨⟨j + 1, by omega, by go_num, HF.out, HBel.out.trans ((below_drewN wr nq).mono HBel.out.size)⟩, by simp [intOf]; omega⟩
        · have b1 := (int_no g1).1
          clear g1 hc HFY HFN
          go_wp2_with (fail)
          go_quiet (fail)
          go_wp2_with (fail)
          exact ⟨⟨j + 1, by omega, by go_num, HF.out, HBel.out.trans ((below_drewN wr nq).mono HBel.out.size)⟩, by simp [intOf]; omega⟩
    · have hjm : j = m := by omega
      subst hjm
      have HF : Hid (Pl.found D l u k = none) := Lib.hid (HFd.out.trans (look_none _ _ _ (by have := HNo.out; rw [HM.out, List.take_length] at this; exact this)))
      clear hbel
      go_wp2_with (fail)
      exact bodyPost_ret (v := .tuple #[.agg #[.int .i64 0, .int .i64 0], .bool false]) (by simp [results, Try.results40, go_sem, q0, q1]) rfl ⟨by rw [HF.out]; rfl, below_set2 HB3.out (Nat.le_refl _)⟩
set_option maxHeartbeats 1600000 in
set_option maxRecDepth 100000 in
theorem found_var (b o c n : Nat) (l : List Pl.Rw) (R : Nat → Sl) (w : World) (hT : Tb w b o l R) (hok : Pl.Ok l) (hn : n = l.length) (D : List Pl.Dc) (da : Option Addr) (dc m : Nat) (hD : FlatW 5 cellsD w da D) (hm : m = D.length) (u : Int) (k : Nat) (hk : k < n) (h6 : Pl.spc (Pl.rw l k) = 6) (v : Int) (hv : Pl.var l k (Pl.rw l k).text = some v) (hv0 : 0 ≤ v) :
    Calls Try.prog 40 #[.slice da m dc, .slice (some ⟨b, o, none⟩) n c, .int .i64 u, .int .i64 k] w (FoundP (Pl.found D l u k) w) := by
  obtain ⟨x, r, hx, hrw, c0, c1, c2, c3, c4, _, hat⟩ := hT.row (i := k) (by omega)
  have HT := Lib.hid hT
  have HN := Lib.hid hn
  have HOk := Lib.hid hok
  have HD := Lib.hid hD
  have HAT := Lib.hid hat
  have HM := Lib.hid hm
  have hbw := hT.1
  have hp0 : (0 : Int) ≤ (k : Int) := Int.natCast_nonneg _
  have hp1 : (k : Int) < (n : Int) := by omega
  have hll2 : n ≤ 1000000 := by rw [hn]; exact hok.1
  have hml : m ≤ maxLen := by rw [hm]; exact hD.1
  unfold maxLen at hml
  have hs0 : Pl.spc (Pl.rw l k) = Pl.space x.kind x.text := by rw [hrw]; rfl
  have HSp := Lib.hid (fun gv kv w => space_any x.parent x.kind x.text gv kv w)
  have HV := Lib.hid (fun (w1 : World) (h : Below w.heap.size w w1) => variable_any b o c n l R w1 (hT.later h) hok hn k hk x.text)
  rw [hs0] at h6
  have HFd : Hid (Pl.found D l u k = some (u, v)) := Lib.hid (by unfold Pl.found; rw [hs0, h6, if_neg (by decide), if_pos rfl, hv])
  rw [hrw] at hv
  rw [h6] at HSp
  rw [hv] at HV
  simp only [optI] at HV
  clear hs0 h6 hv
  clear hT hok hx hn hrw hat hD hm c0 c1 c2 c3 c4
  go_enter Try.func40, Try.ntmps40
  go_wp2_with (first
    | (refine wpList_load_mid rfl 47 _ rfl b (o + k * 5) rfl (cells5 (x, r)) _ (HAT.out.keep (Below.heap_alloc _ _ _ hbw)) Try.underlying47 rfl sizeR ?_)
    | (go_at_call 42; refine (HSp.out _ _ _).mono ?_; rintro e w2 ⟨rfl, hb2⟩; obtain ⟨hbk, hb3, _⟩ := one_after hb2; have tx : w2.cell? ⟨b, o + k * 5 + 2, none⟩ = some (.string x.text) := (HAT.out.keep (hb3.block b hbw)).cells.2.2.1; have HBk := Lib.hid hbk; have HB := Lib.hid hb3; clear hb2 hb3 hbk)
    | (go_at_call 43; refine (HV.out _ HB.out).mono ?_; rintro e w3 ⟨rfl, hb4⟩; have hbk3 := blk_keep HBk.out hb4; obtain ⟨⟨p0, p1⟩, z0, z1⟩ := blk_two hbk3; have HBk3 := Lib.hid hbk3; have HB3 := Lib.hid (HB.out.trans (hb4.mono HB.out.size)); clear hb4 hbk3))
  exact bodyPost_ret (v := .tuple #[.agg #[.int .i64 u, .int .i64 v], .bool true]) (by simp [results, Try.results40, go_sem, p0, p1, optI]) rfl ⟨by rw [HFd.out]; rfl, below_set2 HB3.out (Nat.le_refl _)⟩
set_option maxHeartbeats 1600000 in
set_option maxRecDepth 100000 in
theorem found_const (b o c n : Nat) (l : List Pl.Rw) (R : Nat → Sl) (w : World) (hT : Tb w b o l R) (hok : Pl.Ok l) (hn : n = l.length) (D : List Pl.Dc) (da : Option Addr) (dc m : Nat) (hD : FlatW 5 cellsD w da D) (hm : m = D.length) (u : Int) (k : Nat) (hk : k < n) (h6 : Pl.spc (Pl.rw l k) = 6) (hv : Pl.var l k (Pl.rw l k).text = none) :
    Calls Try.prog 40 #[.slice da m dc, .slice (some ⟨b, o, none⟩) n c, .int .i64 u, .int .i64 k] w (FoundP (Pl.found D l u k) w) := by
  obtain ⟨x, r, hx, hrw, c0, c1, c2, c3, c4, _, hat⟩ := hT.row (i := k) (by omega)
  have HT := Lib.hid hT
  have HN := Lib.hid hn
  have HOk := Lib.hid hok
  have HD := Lib.hid hD
  have HAT := Lib.hid hat
  have HM := Lib.hid hm
  have hbw := hT.1
  have hp0 : (0 : Int) ≤ (k : Int) := Int.natCast_nonneg _
  have hp1 : (k : Int) < (n : Int) := by omega
  have hll2 : n ≤ 1000000 := by rw [hn]; exact hok.1
  have hml : m ≤ maxLen := by rw [hm]; exact hD.1
  unfold maxLen at hml
  have hs0 : Pl.spc (Pl.rw l k) = Pl.space x.kind x.text := by rw [hrw]; rfl
  have HSp := Lib.hid (fun gv kv w => space_any x.parent x.kind x.text gv kv w)
  have HV := Lib.hid (fun (w1 : World) (h : Below w.heap.size w w1) => variable_any b o c n l R w1 (hT.later h) hok hn k hk x.text)
  rw [hs0] at h6
  have HFd : Hid (Pl.found D l u k = Pl.look D 3 x.text) := Lib.hid (by unfold Pl.found; rw [hs0, h6, if_neg (by decide), if_pos rfl, hv, hrw])
  rw [hrw] at hv
  rw [h6] at HSp
  rw [hv] at HV
  clear hs0 h6 hv
  clear hT hok hx hn hrw hat hD hm c0 c1 c2 c3 c4
  go_enter Try.func40, Try.ntmps40
  go_wp2_with (first
    | (refine wpList_load_mid rfl 47 _ rfl b (o + k * 5) rfl (cells5 (x, r)) _ (HAT.out.keep (Below.heap_alloc _ _ _ hbw)) Try.underlying47 rfl sizeR ?_)
    | (go_at_call 42; refine (HSp.out _ _ _).mono ?_; rintro e w2 ⟨rfl, hb2⟩; obtain ⟨hbk, hb3, _⟩ := one_after hb2; have tx : w2.cell? ⟨b, o + k * 5 + 2, none⟩ = some (.string x.text) := (HAT.out.keep (hb3.block b hbw)).cells.2.2.1; have HBk := Lib.hid hbk; have HB := Lib.hid hb3; clear hb2 hb3 hbk)
    | (go_at_call 43; refine (HV.out _ HB.out).mono ?_; rintro e w3 ⟨rfl, hb4⟩; have hbk3 := blk_keep HBk.out hb4; obtain ⟨⟨p0, p1⟩, z0, z1⟩ := blk_two hbk3; have HBk3 := Lib.hid hbk3; have HB3 := Lib.hid (HB.out.trans (hb4.mono HB.out.size)); clear hb4 hbk3))
  obtain ⟨⟨p0, p1⟩, z0, z1⟩ := blk_two HBk3.out
  obtain ⟨_, _, _, _, _, y1, y2, _⟩ := (HT.out.later HB3.out).row (i := k) (by rw [← HN.out]; exact hk)
  have y2 : w3.cell? ⟨b, o + k * 5 + 2, none⟩ = some (.string x.text) := (HAT.out.keep (HB3.out.block b hbw)).cells.2.2.1
  have hbw2 : b < w3.heap.size := Nat.lt_of_lt_of_le hbw HB3.out.size
  go_loopw [13] (fun u wr2 => ∃ j : Nat, j ≤ m ∧ u = .int .i64 j ∧ (D.take j).find? (fun d => decide (d.kind = 3 ∧ d.name = x.text)) = none ∧ Below w3.heap.size w3 wr2) (fun u _ => m - (intOf u).toNat)
  case atStart => exact ⟨0, Nat.zero_le _, rfl, by simp, Below.refl _ _⟩
  case round =>
    obtain ⟨j, hj, rfl, hno, hbel⟩ := hrel
    have HNo := Lib.hid hno
    have HB4 := Lib.hid (HB3.out.trans (hbel.mono HB3.out.size))
    have HBel := Lib.hid hbel
    have hbk := blk_keep HBk3.out hbel
    obtain ⟨⟨q0, q1⟩, v0, v1⟩ := blk_two hbk
    have HBk2 := Lib.hid hbk
    have yy : wr.cell? ⟨b, o + k * 5 + 2, none⟩ = some (.string x.text) := (hbel.cell (p := ⟨b, o + k * 5 + 2, none⟩) hbw2).trans y2
    clear hno hbk
    by_cases hlt : j < m
    · have hj0 : (0 : Int) ≤ (j : Int) := Int.natCast_nonneg _
      have hj1 : (j : Int) < (m : Int) := by omega
      have hjx : j < D.length := by rw [← HM.out]; exact hlt
      have hgx := List.getElem?_eq_getElem hjx
      obtain ⟨db, doo, hda, hdb, hat2⟩ := HD.out.one hgx
      obtain rfl : da = some ⟨db, doo, none⟩ := hda
      have HFY := Lib.hid (fun hf => find_at HNo.out hgx hf)
      have HFN := Lib.hid (fun hf => find_not HNo.out hgx hf)
      obtain ⟨d0, _, d2, d3, d4⟩ := cellsD_at (fun i v hv => (HB4.out.cell (p := ⟨db, doo + j * 5 + i, none⟩) hdb).trans (hat2 i v hv))
      generalize D[j] = d at *
      have hrg := range_two d3 d4
      have HRg := Lib.hid hrg
      clear hat2 hgx hrg
      by_cases hc : d.kind = 3 ∧ d.name = x.text
      · have HF := Lib.hid (HFd.out.trans (look_eq _ _ _ _ (HFY.out (by simpa using hc))))
        obtain ⟨g1, g2⟩ := hc
        have b1 := (int_yes g1).1
        have b2 := str_yes g2
        clear g1 g2 HFY HFN
        go_wp2_with (fail)
        go_quiet (fail)
        go_wp2_with (refine wpList_load_mid rfl 29 _ rfl db (doo + j * 5 + 3) rfl [.int .i64 d.unit, .int .i64 d.node] _ HRg.out Try.underlying29 rfl sizeF ?_)
        exact bodyPost_ret (v := .tuple #[.agg #[.int .i64 d.unit, .int .i64 d.node], .bool true]) (by simp [results, Try.results40, go_sem, q0, q1]) rfl ⟨by rw [HF.out]; rfl, below_set2 (HB4.out.trans ((below_drewN wr nq).mono HB4.out.size)) (Nat.le_refl _)⟩
      · have HF := Lib.hid (HFN.out (by simpa using hc))
        by_cases g1 : d.kind = 3
        · have b1 := (int_yes g1).1
          have b2 := str_no (fun h => hc ⟨g1, h⟩ : d.name ≠ x.text)
          clear g1 hc HFY HFN
          go_wp2_with (fail)
          go_quiet (fail)
          go_wp2_with (fail)
          exact ⟨⟨j + 1, by omega, by go_num, HF.out, HBel.out.trans ((below_drewN wr nq).mono HBel.out.size)⟩, by simp [intOf]; omega⟩
        · have b1 := (int_no g1).1
          clear g1 hc HFY HFN
          go_wp2_with (fail)
          go_quiet (fail)
          go_wp2_with (fail)
          exact ⟨⟨j + 1, by omega, by go_num, HF.out, HBel.out.trans ((below_drewN wr nq).mono HBel.out.size)⟩, by simp [intOf]; omega⟩
    · have hjm : j = m := by omega
      subst hjm
      have HF : Hid (Pl.found D l u k = none) := Lib.hid (HFd.out.trans (look_none _ _ _ (by have := HNo.out; rw [HM.out, List.take_length] at this; exact this)))
      clear hbel
      go_wp2_with (fail)
      exact bodyPost_ret (v := .tuple #[.agg #[.int .i64 0, .int .i64 0], .bool false]) (by simp [results, Try.results40, go_sem, q0, q1]) rfl ⟨by rw [HF.out]; rfl, below_set2 HB4.out (Nat.le_refl _)⟩
theorem found_any (b o c n : Nat) (l : List Pl.Rw) (R : Nat → Sl) (w : World) (hT : Tb w b o l R) (hok : Pl.Ok l) (hn : n = l.length) (D : List Pl.Dc) (da : Option Addr) (dc m : Nat) (hD : FlatW 5 cellsD w da D) (hm : m = D.length) (u : Int) (k : Nat) (hk : k < n) (hok2 : ∀ v, Pl.var l k (Pl.rw l k).text = some v → 0 ≤ v) :
    Calls Try.prog 40 #[.slice da m dc, .slice (some ⟨b, o, none⟩) n c, .int .i64 u, .int .i64 k] w (FoundP (Pl.found D l u k) w) := by
  by_cases h0 : Pl.spc (Pl.rw l k) = 0
  · exact found_zero b o c n l R w hT hok hn D da dc m hD hm u k hk h0
  by_cases h6 : Pl.spc (Pl.rw l k) = 6
  · cases hv : Pl.var l k (Pl.rw l k).text with
    | none => exact found_const b o c n l R w hT hok hn D da dc m hD hm u k hk h6 hv
    | some v => exact found_var b o c n l R w hT hok hn D da dc m hD hm u k hk h6 v hv (hok2 v hv)
  · exact found_else b o c n l R w hT hok hn D da dc m hD hm u k hk h0 h6
end Go.Proofs.Ytoelfiendfemaaa
