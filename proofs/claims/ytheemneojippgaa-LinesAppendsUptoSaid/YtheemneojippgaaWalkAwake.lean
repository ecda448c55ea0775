/- The walk of the law's examples. -/
import Derived.Test.YtheemneojippgaaWalkJoin
namespace Go.Proofs.Ytheemneojippgaa
open Go.RowKit
set_option linter.unusedVariables false
set_option linter.unusedSimpArgs false

/-- A slice of the call's own that holds strings: either there are none, or its address and cells. -/
theorem own_some {w : World} {B n : Nat} {v : Value} {xs : List Pl.Bs} (h : w.ownsRow B 9 1 v n (xs.map str)) (hn : n = xs.length) (h0 : 0 < n) :
    ∃ g c, v = .slice (some ⟨g, 0, none⟩) n c ∧ n ≤ c ∧ B ≤ g ∧ g < w.heap.size ∧ ∀ (j : Nat) x, xs[j]? = some x → w.cell? ⟨g, j, none⟩ = some (str x) := by
  rcases h.2 with ⟨_, h2⟩ | ⟨g, cap, cur, rfl, hg, hh, h1, h2, _⟩
  · omega
  · refine ⟨g, cap, rfl, h1, hg, (Array.getElem?_eq_some_iff.1 hh).1, fun j x hx => ?_⟩
    have hj : j < xs.length := (List.getElem?_eq_some_iff.1 hx).1
    rw [h.cellAt j (by omega), List.getElem?_map, hx]
    rfl

theorem lns_ab : Pl.lns [97, 10, 98] = [[97, 10], [98]] := by decide
theorem line_ab : Pl.lineOf ⟨#[97, 98, 10, 99]⟩ 3 = 2 := by decide
theorem col_ab : Pl.colOf ⟨#[97, 98, 10, 99]⟩ 3 = 1 := by decide
theorem off_ab : Pl.offV [97, 98, 10, 99] (1, 3) = 2 ∧ Pl.offE [97, 98, 10, 99] (1, 3) = 0 := by decide
theorem ind_ab : indOf ⟨#[32, 9, 120, 32]⟩ = ⟨#[32, 9]⟩ := by decide
theorem cat_ab : cat [⟨#[97, 10]⟩, ⟨#[98]⟩] = ⟨#[97, 10, 98]⟩ := by decide

theorem split_ab (w : World) : Calls Try.prog 10 #[.string ⟨#[97, 10, 98]⟩] w fun e w' => ∃ g c, e = .returned (.slice (some ⟨g, 0, none⟩) 2 c) ∧ 2 ≤ c ∧ g < w'.heap.size ∧ w.heap.size ≤ g ∧ w'.cell? ⟨g, 0, none⟩ = some (.string ⟨#[97, 10]⟩) ∧ w'.cell? ⟨g, 1, none⟩ = some (.string ⟨#[98]⟩) ∧ Below w.heap.size w w' := by
  refine (split_any ⟨#[97, 10, 98]⟩ w (by decide)).mono ?_
  rintro e w' ⟨v, rfl, hown, hbel⟩
  have e1 : Pl.lns (⟨#[97, 10, 98]⟩ : ByteArray).data.toList = [[97, 10], [98]] := lns_ab
  rw [e1] at hown
  obtain ⟨g, c, rfl, h1, h2, h3, h4⟩ := own_some hown rfl (by decide)
  exact ⟨g, c, rfl, h1, h3, h2, h4 0 _ rfl, h4 1 _ rfl, hbel⟩
theorem join_ab (g c : Nat) (w : World) (hg : g < w.heap.size) (hc : 2 ≤ c) (h0 : w.cell? ⟨g, 0, none⟩ = some (.string ⟨#[97, 10]⟩)) (h1 : w.cell? ⟨g, 1, none⟩ = some (.string ⟨#[98]⟩)) :
    Calls Try.prog 14 #[.slice (some ⟨g, 0, none⟩) 2 c] w fun e w' => e = .returned (.string ⟨#[97, 10, 98]⟩) ∧ Below w.heap.size w w' := by
  refine (join_some g 0 c [⟨#[97, 10]⟩, ⟨#[98]⟩] w ?_ hg hc (by decide) (by decide)).mono ?_
  · intro j x hx
    match j, hx with
    | 0, hx => simp at hx; subst hx; exact h0
    | 1, hx => simp at hx; subst hx; exact h1
    | j + 2, hx => simp at hx
  · rintro e w' ⟨rfl, hb⟩
    exact ⟨ret_str cat_ab, hb⟩
theorem position_ab (w : World) : Calls Try.prog 19 #[.string ⟨#[97, 98, 10, 99]⟩, .int .i64 3] w fun e w' => e = .returned (.tuple #[.int .i64 2, .int .i64 1, .int .i64 0]) ∧ Below w.heap.size w w' := by
  have h := position_in ⟨#[97, 98, 10, 99]⟩ 3 w (by decide) (by decide)
  rw [line_ab, col_ab] at h
  exact h
theorem offset_ab (w : World) : Calls Try.prog 21 #[.string ⟨#[97, 98, 10, 99]⟩, .int .i64 1, .int .i64 3] w fun e w' => e = .returned (.tuple #[.int .i64 2, .int .i64 0]) ∧ Below w.heap.size w w' :=
  (offset_any ⟨#[97, 98, 10, 99]⟩ 1 3 w (by decide)).mono fun e w' ⟨h1, h2⟩ => ⟨by rw [h1]; exact ret_two off_ab.1 off_ab.2, h2⟩
theorem count_ab (w : World) : Calls Try.prog 12 #[.string ⟨#[97, 10, 98]⟩] w fun e w' => e = .returned (.int .i64 2) ∧ Below w.heap.size w w' :=
  (count_any ⟨#[97, 10, 98]⟩ w (by decide)).mono fun e w' ⟨h1, h2⟩ => ⟨by rw [h1]; exact ret_int (by show ((Pl.lns [97, 10, 98]).length : Int) = 2; rw [lns_ab]; rfl), h2⟩
theorem indent_ab (w : World) : Calls Try.prog 16 #[.string ⟨#[32, 9, 120, 32]⟩] w fun e w' => e = .returned (.string ⟨#[32, 9]⟩) ∧ Below w.heap.size w w' :=
  (indent_any ⟨#[32, 9, 120, 32]⟩ w (by decide)).mono fun e w' ⟨h1, h2⟩ => ⟨by rw [h1]; exact ret_str ind_ab, h2⟩

set_option maxHeartbeats 800000 in
theorem awake_any (w : World) : Calls Try.prog 18 #[] w fun e w' => e = .returned (.bool true) ∧ Below w.heap.size w w' := by
  go_enter Try.func18, Try.ntmps18
  go_wp2_with fail
  refine (split_ab _).mono ?_
  rintro e w1 ⟨g, c, rfl, hc, hg, hg0, c0, c1, hb1⟩
  go_wp2_with fail
  refine (position_ab _).mono ?_
  rintro e w2 ⟨rfl, hb2⟩
  go_wp2_with fail
  refine (offset_ab _).mono ?_
  rintro e w3 ⟨rfl, hb3⟩
  have hb23 := hb2.trans (hb3.mono hb2.size)
  have c03 := (hb23.cell (p := ⟨g, 0, none⟩) hg).trans c0
  have c13 := (hb23.cell (p := ⟨g, 1, none⟩) hg).trans c1
  have hg3 : g < w3.heap.size := Nat.lt_of_lt_of_le hg hb23.size
  go_wp2_with fail
  refine (join_ab g c _ hg3 hc c03 c13).mono ?_
  rintro e w4 ⟨rfl, hb4⟩
  go_wp2_with fail
  refine (count_ab _).mono ?_
  rintro e w5 ⟨rfl, hb5⟩
  go_wp2_with fail
  refine (indent_ab _).mono ?_
  rintro e w6 ⟨rfl, hb6⟩
  go_wp2
  go_ret
  exact ⟨rfl, hb1.trans ((hb23.trans ((hb4.trans ((hb5.trans (hb6.mono hb5.size)).mono hb4.size)).mono hb23.size)).mono hb1.size)⟩
end Go.Proofs.Ytheemneojippgaa
