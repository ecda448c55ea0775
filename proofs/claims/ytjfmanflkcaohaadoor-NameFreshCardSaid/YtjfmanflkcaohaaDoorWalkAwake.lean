/- The walk of the law's examples. -/
import Derived.Test.YtjfmanflkcaohaaDoorWalkPut
namespace Go.Proofs.YtjfmanflkcaohaaDoor
open Go.RowKit
set_option linter.unusedVariables false
set_option linter.unusedSimpArgs false

theorem kw_data (s : ByteArray) : Pl.kw s = Pl.kwL.any (fun k => s.data.toList == k) := by unfold Pl.kw; rw [Pl.toList_eq]
theorem kw_while : Pl.kw ⟨#[119, 104, 105, 108, 101]⟩ = true := by rw [kw_data]; decide
theorem nm_while : Pl.nm ⟨#[119, 104, 105, 108, 101]⟩ = false := Pl.nm_kw _ kw_while
theorem nm_a1 : Pl.nm ⟨#[97, 95, 49]⟩ = true := by unfold Pl.nm; rw [kw_data]; decide
theorem nm_f : Pl.nm ⟨#[102]⟩ = true := by unfold Pl.nm; rw [kw_data]; decide
theorem nm_1 : Pl.nm ⟨#[49]⟩ = false := by unfold Pl.nm; rw [kw_data]; decide
theorem path_lib : Pl.pathB ⟨#[108, 105, 98, 47, 120, 45, 49, 46, 116, 109]⟩ = true := by decide
theorem path_up : Pl.pathB ⟨#[97, 47, 46, 46]⟩ = false := by decide
theorem ins_abc : Pl.insB [⟨#[98]⟩, ⟨#[97]⟩, ⟨#[98]⟩] ⟨#[99]⟩ = [⟨#[97]⟩, ⟨#[98]⟩, ⟨#[99]⟩] := by
  have h : Pl.ins (Pl.bs [⟨#[98]⟩, ⟨#[97]⟩, ⟨#[98]⟩]) [99] = [[97], [98], [99]] := by
    refine Pl.strict_ext _ _ (Pl.ins_strict _ _) (by unfold Pl.Strict; decide) fun x => ?_
    rw [Pl.ins_mem]
    simp only [Pl.bs, List.map_cons, List.map_nil, List.mem_cons, List.not_mem_nil, or_false]
    constructor
    · rintro ((h | h | h) | h)
      · exact .inr (.inl h)
      · exact .inl h
      · exact .inr (.inl h)
      · exact .inr (.inr h)
    · rintro (h | h | h)
      · exact .inl (.inr (.inl h))
      · exact .inl (.inl h)
      · exact .inr h
  unfold Pl.insB
  rw [show (⟨#[99]⟩ : ByteArray).data.toList = [99] from rfl, h]
  rfl

theorem reads_row (w : World) (xs : List ByteArray) (cells : Array Value) (n : Nat) (hn : n = xs.length) (hc : cells.toList = xs.map Value.string) (hl : xs.length ≤ 1000) : Reads (w.alloc (.cells cells 9)) (.slice (some ⟨w.heap.size, 0, none⟩) n n) xs := by
  subst hn
  refine .inr ⟨w.heap.size, 0, _, rfl, by simp, fun j x hx => ?_, by unfold maxLen; omega⟩
  rw [cell_of_row _ _ _ _ _ _ (heap_alloc_new _ _), Nat.zero_add, ← Array.getElem?_toList, hc, List.getElem?_map, hx]
  rfl
theorem fresh_ex (w : World) : Calls Tryd.prog 18 #[.string ⟨#[102]⟩, .slice (some ⟨w.heap.size, 0, none⟩) 3 3] (w.alloc (.cells #[.string ⟨#[103]⟩, .string ⟨#[102, 50]⟩, .string ⟨#[102]⟩] 9)) fun e w' => e = .returned (.tuple #[.string ⟨#[102, 51]⟩, .int .i64 0]) ∧ Below w.heap.size w w' := by
  refine (fresh_any _ _ _ [⟨#[103]⟩, ⟨#[102, 50]⟩, ⟨#[102]⟩] _ nm_f (reads_row w _ _ 3 rfl rfl (by decide)) (by decide) ?_ Pl.fresh_f).mono ?_
  · intro x hx
    simp only [List.mem_cons, List.not_mem_nil, or_false] at hx
    rcases hx with rfl | rfl | rfl <;> decide
  · rintro e w' ⟨rfl, hb⟩
    exact ⟨rfl, ((Below.refl _ _).alloc (Nat.le_refl _) _).trans (hb.mono (by simp))⟩
theorem fresh_ex2 (w : World) : Calls Tryd.prog 18 #[.string ⟨#[49]⟩, .slice none 0 0] w fun e w' => e = .returned (.tuple #[.string ⟨#[]⟩, .int .i64 4]) ∧ Below w.heap.size w w' :=
  fresh_bad _ _ w (by decide) nm_1
theorem has_ex (w : World) : Calls Tryd.prog 23 #[.slice (some ⟨w.heap.size, 0, none⟩) 2 2, .string ⟨#[97]⟩] (w.alloc (.cells #[.string ⟨#[98]⟩, .string ⟨#[97]⟩] 9)) fun e w' => e = .returned (.bool true) ∧ w' = w.alloc (.cells #[.string ⟨#[98]⟩, .string ⟨#[97]⟩] 9) :=
  (has_is _ [⟨#[98]⟩, ⟨#[97]⟩] _ true (by decide) _ (reads_row w _ _ 2 rfl rfl (by decide))).mono fun e w' ⟨h1, h2⟩ => ⟨h1, h2.symm⟩
def Three (w : World) (e : Ending) (w' : World) : Prop := ∃ g o c, e = .returned (.slice (some ⟨g, o, none⟩) 3 c) ∧ Below w.heap.size w w'
theorem insert_ex (w : World) (b : Nat) (hbb : b = w.heap.size) : Calls Tryd.prog 21 #[.slice (some ⟨b, 0, none⟩) 3 3, .string ⟨#[99]⟩] (w.alloc (.cells #[.string ⟨#[98]⟩, .string ⟨#[97]⟩, .string ⟨#[98]⟩] 9)) (Three w) := by
  subst hbb
  refine (insert_any _ [⟨#[98]⟩, ⟨#[97]⟩, ⟨#[98]⟩] ⟨#[99]⟩ _ (reads_row w _ _ 3 rfl rfl (by decide)) (by decide)).mono ?_
  rintro e w' ⟨u, rfl, hr, hb⟩
  rw [ins_abc] at hr
  rcases hr with ⟨h, _⟩ | ⟨g, o, c, rfl, _⟩
  · cases h
  · exact ⟨g, o, c, rfl, ((Below.refl _ _).alloc (Nat.le_refl _) _).trans (hb.mono (by simp))⟩

set_option maxHeartbeats 1600000 in
theorem awake_any (w : World) (hm : Mx w) : Calls Tryd.prog 10 #[] w fun e w' => e = .returned (.bool true) ∧ Below w.heap.size w w' := by
  go_enter Tryd.func10, Tryd.ntmps10
  go_wp2_with fail
  refine (fresh_ex _).mono ?_
  rintro e w1 ⟨rfl, hb1⟩
  go_wp2_with fail
  refine (fresh_ex2 _).mono ?_
  rintro e w2 ⟨rfl, hb2⟩
  have hb12 := hb1.trans (hb2.mono hb1.size)
  clear hb1 hb2
  go_wp2_with fail
  refine (valid_is _ _ nm_a1 _ (by decide)).mono ?_
  rintro e w3 ⟨rfl, hb3⟩
  have hb13 := hb12.trans (hb3.mono hb12.size)
  clear hb12 hb3
  go_wp2_with fail
  refine (valid_is _ _ nm_while _ (by decide)).mono ?_
  rintro e w4 ⟨rfl, hb4⟩
  have hb14 := hb13.trans (hb4.mono hb13.size)
  clear hb13 hb4
  go_wp2_with fail
  refine (kw_is _ _ kw_while _).mono ?_
  rintro e w' ⟨rfl, rfl⟩
  have hm4 := hm.later hb14
  go_wp2_with fail
  refine (path_is _ _ path_lib _ hm4 (by decide)).mono ?_
  rintro e w5 ⟨rfl, hb5⟩
  have hm5 := hm4.later hb5
  have hb15 := hb14.trans (hb5.mono hb14.size)
  clear hb14 hb5
  go_wp2_with fail
  refine (path_is _ _ path_up _ hm5 (by decide)).mono ?_
  rintro e w6 ⟨rfl, hb6⟩
  have hb16 := hb15.trans (hb6.mono hb15.size)
  clear hb15 hb6
  go_wp2_with fail
  refine (has_ex _).mono ?_
  rintro e w' ⟨rfl, rfl⟩
  go_wp2_with fail
  refine (insert_ex _ _ (by simp)).mono ?_
  rintro e w7 ⟨g, o, c, rfl, hb7⟩
  have hb17 := (hb16.alloc hb16.size _).trans (hb7.mono (by simp; have := hb16.size; omega))
  clear hb16 hb7
  go_wp2_with fail
  go_ret
  exact ⟨rfl, hb17⟩
end Go.Proofs.YtjfmanflkcaohaaDoor
