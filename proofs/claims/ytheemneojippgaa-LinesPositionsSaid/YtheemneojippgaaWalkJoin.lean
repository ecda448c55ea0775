/- The walks of lines.Join and of the reference's Join. -/
import Derived.Test.YtheemneojippgaaWalkSame
import Derived.Test.YtheemneojippgaaShelf
namespace Go.Proofs.Ytheemneojippgaa
open Go.RowKit
set_option linter.unusedVariables false
set_option linter.unusedSimpArgs false

/-- The concatenation. -/
def cat (xs : List ByteArray) : ByteArray := Pl.mk (xs.map (·.data.toList)).flatten

theorem inter_nil (xs : List (List UInt8)) : Lib.join xs [] = xs.flatten := by
  unfold Lib.join
  induction xs with
  | nil => rfl
  | cons a r ih =>
    cases r with
    | nil => simp [List.intercalate]
    | cons b r => 
      rw [List.intercalate_cons_cons]
      rw [ih]; simp
theorem cat_nil : cat [] = ⟨#[]⟩ := rfl
theorem cat_snoc (xs : List ByteArray) (x : ByteArray) : cat (xs ++ [x]) = cat xs ++ x := by
  apply Pl.list_ext
  unfold cat
  rw [Pl.mk_list, ByteArray.data_append, Array.toList_append, Pl.mk_list]
  simp
theorem cat_take (xs : List ByteArray) (k : Nat) (h : k < xs.length) : cat (xs.take (k + 1)) = cat (xs.take k) ++ xs[k] := by
  rw [List.take_succ_eq_append_getElem h, cat_snoc]
theorem cat_size (xs : List ByteArray) : (cat xs).size = (xs.map (·.data.toList)).flatten.length := by
  unfold cat; rw [Pl.mk_size]
theorem cat_le (xs : List ByteArray) (k : Nat) : (cat (xs.take k)).size ≤ (cat xs).size := by
  rw [cat_size, cat_size]
  have h : (xs.map (·.data.toList)).flatten = ((xs.take k).map (·.data.toList)).flatten ++ ((xs.drop k).map (·.data.toList)).flatten := by
    rw [← List.flatten_append, ← List.map_append, List.take_append_drop]
  rw [h, List.length_append]; omega

set_option maxHeartbeats 400000 in
theorem join_none (a : Option Addr) (c : Nat) (w : World) :
    Calls Try.prog 14 #[.slice a 0 c] w fun e w' => e = .returned (.string (cat [])) ∧ Below w.heap.size w w' := by
  go_enter Try.func14, Try.ntmps14
  go_wp2_with (go_at_call 23; refine (Try.strings_Join_none _ _ _ _).mono ?_; rintro e w' ⟨rfl, rfl⟩)
  go_ret
  exact ⟨rfl, Below.refl _ _⟩

set_option maxHeartbeats 400000 in
theorem join_some (b o c : Nat) (xs : List ByteArray) (w : World) (hc : ∀ (j : Nat) x, xs[j]? = some x → w.cell? ⟨b, o + j, none⟩ = some (.string x)) (hb : b < w.heap.size) (hn : xs.length ≤ c) (hl : (cat xs).size ≤ 140737488355328) (hn2 : xs.length ≤ 140737488355328) :
    Calls Try.prog 14 #[.slice (some ⟨b, o, none⟩) xs.length c] w fun e w' => e = .returned (.string (cat xs)) ∧ Below w.heap.size w w' := by
  have HJ := Try.strings_Join b o c xs ⟨#[]⟩ w hc hb hn2 hn (by rw [cat_size] at hl; rw [inter_nil]; exact hl)
  have H := Lib.hid HJ
  clear HJ hc
  go_enter Try.func14, Try.ntmps14
  go_wp2_with fail
  refine (H.out).mono ?_
  rintro e w' ⟨rfl, hbel⟩
  go_wp2
  go_ret
  refine ⟨ret_str ?_, hbel⟩
  unfold cat Pl.mk
  congr 1
  rw [← inter_nil]

set_option maxHeartbeats 400000 in
theorem rjoin_none (a : Option Addr) (c : Nat) (w : World) :
    Calls Try.prog 15 #[.slice a 0 c] w fun e w' => e = .returned (.string (cat [])) ∧ w = w' := by
  go_enter Try.func15, Try.ntmps15
  go_wp2
  refine wp_loop_rounds 1 ?_; rw [rounds_succ]
  go_wp2
  go_ret
  exact ⟨rfl, rfl⟩

set_option maxHeartbeats 800000 in
theorem rjoin_some (b o c : Nat) (xs : List ByteArray) (w : World) (hc : ∀ (j : Nat) x, xs[j]? = some x → w.cell? ⟨b, o + j, none⟩ = some (.string x)) (hl : (cat xs).size ≤ 140737488355328) (hn2 : xs.length ≤ 140737488355328) :
    Calls Try.prog 15 #[.slice (some ⟨b, o, none⟩) xs.length c] w fun e w' => e = .returned (.string (cat xs)) ∧ w = w' := by
  have HC := Lib.hid hc
  clear hc
  obtain ⟨n, hnn⟩ : ∃ n, n = xs.length := ⟨_, rfl⟩
  rw [← hnn] at hn2 ⊢
  have HN := Lib.hid hnn
  clear hnn
  go_enter Try.func15, Try.ntmps15
  go_wp2
  go_loop [3, 4] (fun v i => ∃ k : Nat, k ≤ n ∧ i = .int .i64 k ∧ v = .string (cat (xs.take k))) (fun _ i => n - (intOf i).toNat)
  case atStart => exact ⟨0, Nat.zero_le _, rfl, rfl⟩
  case round =>
    obtain ⟨k, hk, rfl, rfl⟩ := hrel
    have hle := cat_le xs k
    by_cases hlt : k < n
    · have hlt2 : k < xs.length := by rw [← HN.out]; exact hlt
      have g1 := HC.out k _ (List.getElem?_eq_getElem hlt2)
      have HT := Lib.hid (cat_take xs k hlt2)
      have hle2 := cat_le xs (k + 1)
      rw [cat_take xs k hlt2, ByteArray.size_append] at hle2
      generalize xs[k] = x at g1 HT hle2
      generalize cat (xs.take k) = y at *
      go_wp2
      refine ⟨⟨k + 1, by omega, by go_num, ?_⟩, by simp [intOf]; omega⟩
      rw [HT.out]
    · have hkn : k = n := by omega
      subst hkn
      have HT := Lib.hid (show xs.take k = xs by rw [List.take_of_length_le]; rw [← HN.out]; omega)
      go_wp2
      go_ret
      exact ⟨ret_str (by rw [HT.out]), rfl⟩
end Go.Proofs.Ytheemneojippgaa
