/- The walks of the reference's Exists, Find and Resolve. -/
import Derived.Test.YtoelfiendfemaaaDbl
namespace Go.Proofs.Ytoelfiendfemaaa
open Go.RowKit Go.Deep
set_option linter.unusedVariables false
set_option linter.unusedSimpArgs false

theorem exs_nat {T : List (List Pl.Rw)} {u i : Nat} {l : List Pl.Rw} (h : T[u]? = some l) : Pl.exs T u i = decide (i < l.length) := by
  have hu := (List.getElem?_eq_some_iff.1 h).1
  unfold Pl.exs
  rw [Int.toNat_natCast, h, Option.getD_some, Bool.eq_iff_iff, decide_eq_true_eq, decide_eq_true_eq]
  constructor
  · rintro ⟨_, _, _, h4⟩; omega
  · intro h; exact ⟨by omega, by omega, by omega, by omega⟩
theorem exs_iff {T : List (List Pl.Rw)} {a b : Int} : Pl.exs T a b = true ↔ ∃ (u i : Nat) (l : List Pl.Rw), a = u ∧ b = i ∧ T[u]? = some l ∧ i < l.length := by
  constructor
  · intro h
    unfold Pl.exs at h
    rw [decide_eq_true_eq] at h
    obtain ⟨h1, h2, h3, h4⟩ := h
    obtain ⟨u, rfl⟩ : ∃ u : Nat, a = u := ⟨a.toNat, by omega⟩
    obtain ⟨i, rfl⟩ : ∃ i : Nat, b = i := ⟨b.toNat, by omega⟩
    have hu : u < T.length := by omega
    rw [Int.toNat_natCast, List.getElem?_eq_getElem hu, Option.getD_some] at h4
    exact ⟨u, i, _, rfl, rfl, List.getElem?_eq_getElem hu, by omega⟩
  · rintro ⟨u, i, l, rfl, rfl, hl, hi⟩
    rw [exs_nat hl]
    exact decide_eq_true hi
set_option maxHeartbeats 1600000 in
set_option maxRecDepth 100000 in
theorem exists_any (ta : Option Addr) (n c : Nat) (T : List (List Pl.Rw)) (a b : Int) (w : World) (hT : TabsIn w ta T) (hn : n = T.length) :
    Calls Try.prog 25 #[.slice ta n c, .agg #[.int .i64 a, .int .i64 b]] w fun e w' => e = .returned (.bool (Pl.exs T a b)) ∧ Below w.heap.size w w' := by
  obtain ⟨dd, hdd⟩ : ∃ dd, dd = Pl.exs T a b := ⟨_, rfl⟩
  rw [← hdd]
  by_cases h1 : a < 0
  · have HD : Hid (dd = false) := Lib.hid (by rw [hdd]; unfold Pl.exs; exact decide_eq_false (fun h => by omega))
    have g1 : decide ((0 : Int) ≤ a) = false := decide_eq_false (by omega)
    have g1' : decide (a ≥ (0 : Int)) = false := g1
    clear hdd
    go_enter Try.func25, Try.ntmps25
    go_wp2_with fail
    go_quiet (fail)
    go_wp2_with fail
    go_ret
    exact ⟨ret_bool (by rw [HD.out]), (below_1 _ _).trans ((below_drewN _ nq).mono (below_1 _ _).size)⟩
  obtain ⟨u, rfl⟩ : ∃ u : Nat, a = u := ⟨a.toNat, by omega⟩
  have g0 : (0 : Int) ≤ (u : Int) := Int.natCast_nonneg _
  have g0' : decide ((0 : Int) ≤ (u : Int)) = true := decide_eq_true g0
  by_cases h2 : u < n
  case neg =>
    have HD : Hid (dd = false) := Lib.hid (by rw [hdd]; unfold Pl.exs; exact decide_eq_false (fun h => by omega))
    have g1 : decide (u < n) = false := decide_eq_false h2
    clear hdd hn hT h2
    go_enter Try.func25, Try.ntmps25
    go_wp2_with fail
    go_quiet (fail)
    go_wp2_with fail
    go_ret
    exact ⟨ret_bool (by rw [HD.out]), (below_1 _ _).trans ((below_drewN _ nq).mono (below_1 _ _).size)⟩
  have g1 : (u : Int) < (n : Int) := by omega
  have g1' : decide ((u : Int) < (n : Int)) = true := decide_eq_true g1
  have hu : u < T.length := by omega
  have hl := List.getElem?_eq_getElem hu
  by_cases h3 : b < 0
  · have HD : Hid (dd = false) := Lib.hid (by rw [hdd]; unfold Pl.exs; exact decide_eq_false (fun h => by omega))
    have g2 : decide ((0 : Int) ≤ b) = false := decide_eq_false (by omega)
    clear hdd hl
    go_enter Try.func25, Try.ntmps25
    go_wp2_with fail
    go_quiet (fail)
    go_wp2_with fail
    go_ret
    exact ⟨ret_bool (by rw [HD.out]), (below_1 _ _).trans ((below_drewN _ nq).mono (below_1 _ _).size)⟩
  obtain ⟨i, rfl⟩ : ∃ i : Nat, b = i := ⟨b.toNat, by omega⟩
  have g2 : (0 : Int) ≤ (i : Int) := Int.natCast_nonneg _
  have g2' : decide ((0 : Int) ≤ (i : Int)) = true := decide_eq_true g2
  obtain ⟨tb, o, la, lc, LR, rfl, htb, htc, _⟩ := hT.one hl
  have hdd2 : dd = decide ((i : Int) < (T[u].length : Int)) := by rw [hdd, exs_nat hl, Bool.eq_iff_iff, decide_eq_true_eq, decide_eq_true_eq]; omega
  have HD := Lib.hid hdd2
  generalize T[u] = l at *
  have htc2 := (Below.cell (below_1 w (.cells #[.int .i64 u, .int .i64 i] 29)) (p := ⟨tb, o + u, none⟩) htb).trans htc
  clear hdd hdd2 hT hl htc
  go_enter Try.func25, Try.ntmps25
  go_wp2_with fail
  go_quiet (fail)
  go_wp2_with fail
  go_ret
  exact ⟨ret_bool (by rw [HD.out, Bool.eq_iff_iff, decide_eq_true_eq, decide_eq_true_eq]; omega), (below_1 _ _).trans ((below_drewN _ nq).mono (below_1 _ _).size)⟩

/- ### Find -/
def findD (D : List Pl.Dc) (k : Int) (o s : ByteArray) : Option Pl.Dc := D.find? fun d => decide (d.kind = k ∧ d.owner = o ∧ d.name = s)
set_option maxHeartbeats 1600000 in
set_option maxRecDepth 100000 in
theorem rfind_any (a : Option Addr) (n c : Nat) (us : List Pl.Un) (R : Nat → Sl) (w : World) (hU : IsU w a us R) (hF : Few us) (hn : n = us.length) (k : Int) (ow s : ByteArray) :
    Calls Try.prog 44 #[.slice a n c, .int .i64 k, .string ow, .string s] w (DeclP (findD (Pl.decls us) k ow s) w) := by
  have HC := Lib.hid (fun w1 (h : Below w.heap.size w w1) => rdecls_any a n c us R w1 (hU.later h) hF hn)
  clear hU hF hn
  unfold findD
  generalize Pl.decls us = D at *
  go_enter Try.func44, Try.ntmps44
  go_wp2_with (go_at_call 38; refine (HC.out _ (below_1 _ _)).mono ?_; rintro e w2 ⟨da, dc, rfl, hda, hb2⟩; obtain ⟨hbk, hb3, hz2⟩ := one_after hb2; have HDA := Lib.hid hda; have HB := Lib.hid hb3; have HBk := Lib.hid hbk; clear hda hb2 hb3 hbk)
  obtain ⟨m, hm⟩ : ∃ m, m = D.length := ⟨_, rfl⟩
  have hml : m ≤ maxLen := by rw [hm]; exact HDA.out.1
  unfold maxLen at hml
  have HM := Lib.hid hm
  try rw [← hm]
  clear hm
  go_loopw [11] (fun i wr => ∃ j : Nat, j ≤ m ∧ i = .int .i64 j ∧ (D.take j).find? (fun d => decide (d.kind = k ∧ d.owner = ow ∧ d.name = s)) = none ∧ w2 = wr) (fun i _ => m - (intOf i).toNat)
  case atStart => exact ⟨0, Nat.zero_le _, rfl, by simp, rfl⟩
  case round =>
    obtain ⟨j, hj, rfl, hno, rfl⟩ := hrel
    have HNo := Lib.hid hno
    clear hno
    by_cases hlt : j < m
    · have hj0 : (0 : Int) ≤ (j : Int) := Int.natCast_nonneg _
      have hj1 : (j : Int) < (m : Int) := by omega
      have hjx : j < D.length := by rw [← HM.out]; exact hlt
      have hgx := List.getElem?_eq_getElem hjx
      obtain ⟨db, doo, rfl, hdb, hat2⟩ := HDA.out.one hgx
      have HFY := Lib.hid (fun hf => find_at HNo.out hgx hf)
      have HFN := Lib.hid (fun hf => find_not HNo.out hgx hf)
      generalize D[j] = d at *
      obtain ⟨d0, d1, d2, d3, d4⟩ := cellsD_at hat2
      have q0 := (blk_one HBk.out 0 _ rfl)
      have q1 := (blk_one HBk.out 1 _ rfl)
      have q2 := (blk_one HBk.out 2 _ rfl)
      have q3 := (blk_one HBk.out 3 _ rfl)
      have q4 := (blk_one HBk.out 4 _ rfl)
      obtain ⟨q0, f0⟩ := q0
      obtain ⟨q1, f1⟩ := q1
      obtain ⟨q2, f2⟩ := q2
      obtain ⟨q3, f3⟩ := q3
      obtain ⟨q4, f4⟩ := q4
      clear hat2 hgx
      by_cases hc : d.kind = k ∧ d.owner = ow ∧ d.name = s
      · have HF := Lib.hid (HFY.out (by simpa using hc))
        obtain ⟨g1, g2, g3⟩ := hc
        have b1 := (int_yes g1).1
        have b2 := str_yes g2
        have b3 := str_yes g3
        clear g1 g2 g3 HFY HFN
        go_wp2_with fail
        refine bodyPost_ret (v := .tuple #[.agg #[.int .i64 d.kind, .string d.owner, .string d.name, .int .i64 d.unit, .int .i64 d.node], .bool true]) (by simp [results, Try.results44, go_sem, q0, q1, q2, q3, q4]) rfl ⟨by rw [HF.out]; rfl, ?_⟩
        exact ((((HB.out.setCell (p := ⟨_, 0, none⟩) (Nat.le_refl _) _).setCell (p := ⟨_, 1, none⟩) (Nat.le_refl _) _).setCell (p := ⟨_, 2, none⟩) (Nat.le_refl _) _).setCell (p := ⟨_, 3, none⟩) (Nat.le_refl _) _).setCell (p := ⟨_, 4, none⟩) (Nat.le_refl _) _
      · have HF := Lib.hid (HFN.out (by simpa using hc))
        by_cases g1 : d.kind = k
        · have b1 := (int_yes g1).1
          by_cases g2 : d.owner = ow
          · have b2 := str_yes g2
            have b3 := str_no (fun h => hc ⟨g1, g2, h⟩ : d.name ≠ s)
            clear g1 g2 hc HFY HFN
            go_wp2_with fail
            exact ⟨⟨j + 1, by omega, by go_num, HF.out, by trivial⟩, by simp [intOf]; omega⟩
          · have b2 := str_no g2
            clear g1 g2 hc HFY HFN
            go_wp2_with fail
            exact ⟨⟨j + 1, by omega, by go_num, HF.out, by trivial⟩, by simp [intOf]; omega⟩
        · have b1 := (int_no g1).1
          clear g1 hc HFY HFN
          go_wp2_with fail
          exact ⟨⟨j + 1, by omega, by go_num, HF.out, by trivial⟩, by simp [intOf]; omega⟩
    · have hjm : j = m := by omega
      subst hjm
      have HF : Hid (D.find? (fun d => decide (d.kind = k ∧ d.owner = ow ∧ d.name = s)) = none) := Lib.hid (by have := HNo.out; rw [HM.out, List.take_length] at this; exact this)
      obtain ⟨q0, f0⟩ := (blk_one HBk.out 0 _ rfl)
      obtain ⟨q1, f1⟩ := (blk_one HBk.out 1 _ rfl)
      obtain ⟨q2, f2⟩ := (blk_one HBk.out 2 _ rfl)
      obtain ⟨q3, f3⟩ := (blk_one HBk.out 3 _ rfl)
      obtain ⟨q4, f4⟩ := (blk_one HBk.out 4 _ rfl)
      go_wp2_with fail
      refine bodyPost_ret (v := .tuple #[.agg #[.int .i64 0, .string ⟨#[]⟩, .string ⟨#[]⟩, .int .i64 0, .int .i64 0], .bool false]) (by simp [results, Try.results44, go_sem, q0, q1, q2, q3, q4]) rfl ⟨by rw [HF.out]; rfl, ?_⟩
      exact ((((HB.out.setCell (p := ⟨_, 0, none⟩) (Nat.le_refl _) _).setCell (p := ⟨_, 1, none⟩) (Nat.le_refl _) _).setCell (p := ⟨_, 2, none⟩) (Nat.le_refl _) _).setCell (p := ⟨_, 3, none⟩) (Nat.le_refl _) _).setCell (p := ⟨_, 4, none⟩) (Nat.le_refl _) _
end Go.Proofs.Ytoelfiendfemaaa
