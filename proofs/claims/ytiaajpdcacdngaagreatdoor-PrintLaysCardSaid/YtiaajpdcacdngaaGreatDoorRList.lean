/- The walks of the printer's reference: list, all, commas. -/
import Derived.Test.YtiaajpdcacdngaaGreatDoorROwn
namespace Go.Proofs.YtiaajpdcacdngaaGreatDoor.Rf
open Go.RowKit
set_option linter.unusedVariables false
set_option linter.unusedSimpArgs false
set_option maxRecDepth 100000

theorem news_one {w : World} {T : TypeId} (n : Nat) (vs : List Value) (h : vs.length = n) : ∀ (j : Nat) u, vs[j]? = some u → (w.alloc (.cells vs.toArray T)).cell? ((⟨w.heap.size, 0, none⟩ : Addr).add j) = some u := by
  have := World.news_of_block (w := w.alloc (.cells vs.toArray T)) (cs := vs.toArray) (t := T) (fr := (0, 0)) (heap_alloc_new w _)
  simpa using this
theorem strV_app (xs ys : List ByteArray) : strV (xs ++ ys) = strV xs ++ strV ys := by unfold strV; rw [List.map_append]
theorem strV_rep (xs : List ByteArray) (x : ByteArray) (j : Nat) : strV (xs ++ List.replicate j x) ++ [.string x] = strV (xs ++ List.replicate (j + 1) x) := by
  rw [List.replicate_succ', ← List.append_assoc, strV_app (xs ++ List.replicate j x)]; rfl
/-- What list answers. -/
def LstP (B : Nat) (ys : List ByteArray) (w : World) (e : Ending) (w' : World) : Prop :=
  ∃ a n c, e = .returned (.slice a n c) ∧ n = ys.length ∧ w'.ownsRow B 9 1 (.slice a n c) n (strV ys) ∧ Below B w w'
set_option maxHeartbeats 800000 in
theorem lst_any (B : Nat) (xs : List ByteArray) (n c : Nat) (a : Option Addr) (p : Nat) (w : World) (hB : B ≤ w.heap.size) (hn : n = xs.length) (hn2 : n ≤ 1000) (hp : p ≤ 100000) (hown : w.ownsRow B 9 1 (.slice a n c) n (strV xs)) :
    Calls Tryz.prog 72 #[.slice a n c, .int .i64 p] w (LstP B (xs ++ List.replicate (p - 1) ⟨#[44]⟩ ++ [⟨#[41]⟩]) w) := by
  obtain ⟨i0, hi0, hz0, hz1, hz2⟩ := info_parts infoS
  have HO := Lib.hid hown
  have HN := Lib.hid hn
  clear hown hn
  go_enter Tryz.func72, Tryz.ntmps72
  go_wp2_with fail
  go_loopw [5, 6] (fun v i wr => ∃ (j m c2 : Nat) (a2 : Option Addr), j ≤ p - 1 ∧ i = .int .i64 ((j : Int) + 1) ∧ v = .slice a2 m c2 ∧ m = n + j ∧ wr.ownsRow B 9 1 (.slice a2 m c2) m (strV (xs ++ List.replicate j ⟨#[44]⟩)) ∧ Below B w wr) (fun _ i _ => p + 1 - (intOf i).toNat)
  case atStart => exact ⟨0, n, c, a, Nat.zero_le _, rfl, rfl, rfl, by rw [List.replicate_zero, List.append_nil]; exact HO.out, Below.refl _ _⟩
  case round =>
    obtain ⟨j, m, c2, a2, hj, rfl, rfl, hm, hown, hbel⟩ := hrel
    have HB := Lib.hid hbel
    have HW := Lib.hid hown
    have HM := Lib.hid hm
    have hge := hbel.size
    have hm2 : m ≤ 200000 := by omega
    clear hbel hown hm
    by_cases hlt : j + 1 < p
    · go_wp2_with (at_builtin; refine wpList_append_lies _ rfl _ _ 22 rfl B 9 i0 _ 1 16 Tryz.underlying22 hi0 hz0 hz1 hz2 rfl (by decide) _ _ _ rfl (World.ownsRow.alloc HW.out _) ⟨wr.heap.size, 0, none⟩ 1 1 [.string ⟨#[44]⟩] rfl rfl (news_one 1 [.string ⟨#[44]⟩] rfl) (by simp [Value.oneCell']) (by decide) (by unfold maxLen; omega) (by omega) (by simp; omega) _ rfl ?_; intro g cap w2 hown hg hat hlt2)
      have hob : ∀ k, (Value.slice a2 m c2).ownBlock = some k → B ≤ k := fun k hk => (HW.out.lt k hk).1
      have hb2 := (HB.out.alloc (by omega) (.cells #[.string ⟨#[44]⟩] 9)).grown hg (by simp; omega) hob
      have HB2 := Lib.hid hb2
      have HW2 := Lib.hid hown
      clear hb2 hown hg
      go_wp2_with fail
      exact ⟨⟨j + 1, m + 1, cap, _, by omega, by go_num, rfl, by have := HM.out; omega, by rw [← strV_rep]; exact HW2.out, HB2.out⟩, by simp [intOf]; omega⟩
    · have hj2 : j = p - 1 := by omega
      go_wp2_with (at_builtin; refine wpList_append_lies _ rfl _ _ 22 rfl B 9 i0 _ 1 16 Tryz.underlying22 hi0 hz0 hz1 hz2 rfl (by decide) _ _ _ rfl (World.ownsRow.alloc HW.out _) ⟨wr.heap.size, 0, none⟩ 1 1 [.string ⟨#[41]⟩] rfl rfl (news_one 1 [.string ⟨#[41]⟩] rfl) (by simp [Value.oneCell']) (by decide) (by unfold maxLen; omega) (by omega) (by simp; omega) _ rfl ?_; intro g cap w2 hown hg hat hlt2)
      have hob : ∀ k, (Value.slice a2 m c2).ownBlock = some k → B ≤ k := fun k hk => (HW.out.lt k hk).1
      have hb2 := (HB.out.alloc (by omega) (.cells #[.string ⟨#[41]⟩] 9)).grown hg (by simp; omega) hob
      have HB2 := Lib.hid hb2
      have HW2 := Lib.hid hown
      clear hb2 hown hg
      go_wp2_with fail
      go_ret
      refine ⟨_, m + 1, cap, rfl, ?_, ?_, HB2.out⟩
      · rw [List.length_append, List.length_append, List.length_replicate, ← hj2, HM.out, HN.out]; rfl
      · rw [← hj2, strV_app]; exact HW2.out
theorem infoI : (Tryz.prog.info? 3).map (fun i => (i.zero, i.size, i.bytes)) = some (some (.int .i64 0), 1, 8) := by kernel_rfl
def intV (xs : List Int) : List Value := xs.map fun x => .int .i64 x
theorem intV_app (xs ys : List Int) : intV (xs ++ ys) = intV xs ++ intV ys := by unfold intV; rw [List.map_append]
/-- What all and commas answer. -/
def IntP (B : Nat) (ys : List Int) (w : World) (e : Ending) (w' : World) : Prop :=
  ∃ a n c, e = .returned (.slice a n c) ∧ n = ys.length ∧ w'.ownsRow B 3 1 (.slice a n c) n (intV ys) ∧ Below B w w'
def rallN (first i : Nat) : List Int := (List.range' first i).map fun i => ((i : Nat) : Int)
theorem rallN_succ (first i : Nat) : rallN first (i + 1) = rallN first i ++ [((first + i : Nat) : Int)] := by
  unfold rallN
  rw [List.range'_1_concat, List.map_append]; rfl
theorem rallN_len (first i : Nat) : (rallN first i).length = i := by unfold rallN; rw [List.length_map, List.length_range']
set_option maxHeartbeats 800000 in
theorem all_any (B : Nat) (xs : List Int) (n c : Nat) (a : Option Addr) (p q : Nat) (w : World) (hB : B ≤ w.heap.size) (hn : n = xs.length) (hn2 : n ≤ 1000) (hp : q ≤ 100000) (hown : w.ownsRow B 3 1 (.slice a n c) n (intV xs)) :
    Calls Tryz.prog 74 #[.slice a n c, .int .i64 p, .int .i64 q] w (IntP B (xs ++ Pl.rall p q) w) := by
  obtain ⟨i0, hi0, hz0, hz1, hz2⟩ := info_parts infoI
  have HO := Lib.hid hown
  have HN := Lib.hid hn
  clear hown hn
  go_enter Tryz.func74, Tryz.ntmps74
  go_wp2_with fail
  go_loopw [7, 8] (fun v i wr => ∃ (j m c2 : Nat) (a2 : Option Addr), j ≤ q - p ∧ i = .int .i64 ((p : Int) + (j : Int)) ∧ v = .slice a2 m c2 ∧ m = n + j ∧ wr.ownsRow B 3 1 (.slice a2 m c2) m (intV (xs ++ rallN p j)) ∧ Below B w wr) (fun _ i _ => q - (intOf i).toNat)
  case atStart => exact ⟨0, n, c, a, Nat.zero_le _, by simp, rfl, rfl, by rw [show rallN p 0 = [] from rfl, List.append_nil]; exact HO.out, Below.refl _ _⟩
  case round =>
    obtain ⟨j, m, c2, a2, hj, rfl, rfl, hm, hown, hbel⟩ := hrel
    have HB := Lib.hid hbel
    have HW := Lib.hid hown
    have HM := Lib.hid hm
    have hge := hbel.size
    have hm2 : m ≤ 200000 := by omega
    clear hbel hown hm
    by_cases hlt : p + j < q
    · have hlt2 : (p : Int) + (j : Int) < (q : Int) := by omega
      go_wp2_with (at_builtin; refine wpList_append_lies _ rfl _ _ 63 rfl B 3 i0 _ 1 8 Tryz.underlying63 hi0 hz0 hz1 hz2 rfl (by decide) _ _ _ rfl (World.ownsRow.alloc HW.out _) ⟨wr.heap.size, 0, none⟩ 1 1 [.int .i64 ((p : Int) + (j : Int))] rfl rfl (news_one 1 [.int .i64 ((p : Int) + (j : Int))] rfl) (by simp [Value.oneCell']) (by decide) (by unfold maxLen; omega) (by omega) (by simp; omega) _ rfl ?_; intro g cap w2 hown hg hat hlt3)
      have hob : ∀ k, (Value.slice a2 m c2).ownBlock = some k → B ≤ k := fun k hk => (HW.out.lt k hk).1
      have hb2 := (HB.out.alloc (by omega) (.cells #[.int .i64 ((p : Int) + (j : Int))] 3)).grown hg (by simp; omega) hob
      have HB2 := Lib.hid hb2
      have HW2 := Lib.hid hown
      clear hb2 hown hg
      go_wp2_with fail
      exact ⟨⟨j + 1, m + 1, cap, _, by omega, by go_num, rfl, by have := HM.out; omega, by rw [rallN_succ, ← List.append_assoc, intV_app]; exact HW2.out, HB2.out⟩, by simp [intOf]; omega⟩
    · have hj2 : j = q - p := by omega
      have hlt2 : ¬ (p : Int) + (j : Int) < (q : Int) := by omega
      go_wp2_with fail
      go_ret
      refine ⟨_, m, c2, rfl, ?_, ?_, HB.out⟩
      · rw [List.length_append, Pl.rall, List.length_map, List.length_range', ← hj2, HM.out, HN.out]
      · rw [Pl.rall, ← hj2]; exact HW.out
def rcomN (first i : Nat) : List Int := (List.range' first i).flatMap fun i => if first < i then [-1, ((i : Nat) : Int)] else [((i : Nat) : Int)]
theorem rcomN_succ (first i : Nat) : rcomN first (i + 1) = rcomN first i ++ if 0 < i then [-1, ((first + i : Nat) : Int)] else [((first + i : Nat) : Int)] := by
  unfold rcomN
  rw [List.range'_1_concat, List.flatMap_append]
  congr 1
  rw [List.flatMap_cons, List.flatMap_nil, List.append_nil]
  by_cases h : 0 < i
  · rw [if_pos h, if_pos (by omega)]
  · rw [if_neg h, if_neg (by omega)]
theorem rcomN_le (first i : Nat) : (rcomN first i).length ≤ 2 * i := by
  induction i with
  | zero => exact Nat.le_refl _
  | succ i ih =>
    rw [rcomN_succ, List.length_append]
    have : (if 0 < i then [-1, ((first + i : Nat) : Int)] else [((first + i : Nat) : Int)] : List Int).length ≤ 2 := by split <;> simp
    omega
set_option maxHeartbeats 1600000 in
theorem commas_any (B : Nat) (xs : List Int) (n c : Nat) (a : Option Addr) (p q : Nat) (w : World) (hB : B ≤ w.heap.size) (hn : n = xs.length) (hn2 : n ≤ 1000) (hp : q ≤ 100000) (hown : w.ownsRow B 3 1 (.slice a n c) n (intV xs)) :
    Calls Tryz.prog 73 #[.slice a n c, .int .i64 p, .int .i64 q] w (IntP B (xs ++ Pl.rcommas p q) w) := by
  obtain ⟨i0, hi0, hz0, hz1, hz2⟩ := info_parts infoI
  have HO := Lib.hid hown
  have HN := Lib.hid hn
  clear hown hn
  go_enter Tryz.func73, Tryz.ntmps73
  go_wp2_with fail
  go_loopw [7, 8] (fun v i wr => ∃ (j m c2 : Nat) (a2 : Option Addr), j ≤ q - p ∧ i = .int .i64 ((p : Int) + (j : Int)) ∧ v = .slice a2 m c2 ∧ m = n + (rcomN p j).length ∧ wr.ownsRow B 3 1 (.slice a2 m c2) m (intV (xs ++ rcomN p j)) ∧ Below B w wr) (fun _ i _ => q - (intOf i).toNat)
  case atStart => exact ⟨0, n, c, a, Nat.zero_le _, by simp, rfl, rfl, by rw [show rcomN p 0 = [] from rfl, List.append_nil]; exact HO.out, Below.refl _ _⟩
  case round =>
    obtain ⟨j, m, c2, a2, hj, rfl, rfl, hm, hown, hbel⟩ := hrel
    have HB := Lib.hid hbel
    have HW := Lib.hid hown
    have HM := Lib.hid hm
    have hge := hbel.size
    have hm2 : m ≤ 210000 := by have := rcomN_le p j; omega
    have hob : ∀ k, (Value.slice a2 m c2).ownBlock = some k → B ≤ k := fun k hk => (HW.out.lt k hk).1
    have HOB := Lib.hid hob
    clear hbel hown hm hob
    by_cases hlt : p + j < q
    · have hlt2 : (p : Int) + (j : Int) < (q : Int) := by omega
      by_cases hf : 0 < j
      · have d1 : decide ((p : Int) < (p : Int) + (j : Int)) = true := decide_eq_true (by omega)
        have d2 : (p : Int) < (p : Int) + (j : Int) := by omega
        have d3 : decide ((0 : Int) < (j : Int)) = true := decide_eq_true (by omega)
        have d4 : decide (0 < j) = true := decide_eq_true hf
        go_wp2_with (first
          | (at_builtin; have g2 := HW2; clear g2; refine wpList_append_lies _ rfl _ _ 63 rfl B 3 i0 _ 1 8 Tryz.underlying63 hi0 hz0 hz1 hz2 rfl (by decide) _ _ _ rfl (World.ownsRow.alloc HW2.out _) ⟨w2.heap.size, 0, none⟩ 1 1 [.int .i64 ((p : Int) + (j : Int))] rfl rfl (news_one 1 [.int .i64 ((p : Int) + (j : Int))] rfl) (by simp [Value.oneCell']) (by decide) (by unfold maxLen; omega) (by omega) (by simp; omega) _ rfl ?_; intro g5 cap5 w5 hown5 hg5 hat5 hlt5; have HW5 := Lib.hid hown5; have HG5 := Lib.hid hg5; clear hown5 hg5 hat5)
          | (at_builtin; refine wpList_append_lies _ rfl _ _ 63 rfl B 3 i0 _ 1 8 Tryz.underlying63 hi0 hz0 hz1 hz2 rfl (by decide) _ _ _ rfl (World.ownsRow.alloc HW.out _) ⟨wr.heap.size, 0, none⟩ 1 1 [.int .i64 (-1)] rfl rfl (news_one 1 [.int .i64 (-1)] rfl) (by simp [Value.oneCell']) (by decide) (by unfold maxLen; omega) (by omega) (by simp; omega) _ rfl ?_; intro g cap w2 hown hg hat hlt3; have HW2 := Lib.hid hown; have HG2 := Lib.hid hg; have hsz2 := hg.size; simp at hsz2; clear hown hg hat))
        have hb2 := (HB.out.alloc (by omega) (.cells #[.int .i64 (-1)] 3)).grown HG2.out (by simp; omega) HOB.out
        have hb5 := (hb2.alloc (by omega) (.cells #[.int .i64 ((p : Int) + (j : Int))] 3)).grown HG5.out (by simp; omega) (fun k hk => (HW2.out.lt k hk).1)
        refine ⟨⟨j + 1, m + 1 + 1, cap5, _, by omega, by go_num, rfl, ?_, ?_, hb5⟩, by simp [intOf]; omega⟩
        · rw [rcomN_succ, if_pos hf, List.length_append, HM.out]; simp only [List.length_cons, List.length_nil]; omega
        · rw [rcomN_succ, if_pos hf, ← List.append_assoc, intV_app]
          have := HW5.out
          rw [List.append_assoc] at this
          exact this
      · have d1 : decide ((p : Int) < (p : Int) + (j : Int)) = false := decide_eq_false (by omega)
        have d2 : ¬ (p : Int) < (p : Int) + (j : Int) := by omega
        have d3 : decide ((0 : Int) < (j : Int)) = false := decide_eq_false (by omega)
        have d4 : decide (0 < j) = false := decide_eq_false hf
        go_wp2_with (at_builtin; refine wpList_append_lies _ rfl _ _ 63 rfl B 3 i0 _ 1 8 Tryz.underlying63 hi0 hz0 hz1 hz2 rfl (by decide) _ _ _ rfl (World.ownsRow.alloc HW.out _) ⟨wr.heap.size, 0, none⟩ 1 1 [.int .i64 ((p : Int) + (j : Int))] rfl rfl (news_one 1 [.int .i64 ((p : Int) + (j : Int))] rfl) (by simp [Value.oneCell']) (by decide) (by unfold maxLen; omega) (by omega) (by simp; omega) _ rfl ?_; intro g cap w2 hown hg hat hlt3; have HW2 := Lib.hid hown; have HG2 := Lib.hid hg; clear hown hg hat)
        have hb2 := (HB.out.alloc (by omega) (.cells #[.int .i64 ((p : Int) + (j : Int))] 3)).grown HG2.out (by simp; omega) HOB.out
        refine ⟨⟨j + 1, m + 1, cap, _, by omega, by go_num, rfl, ?_, ?_, hb2⟩, by simp [intOf]; omega⟩
        · rw [rcomN_succ, if_neg hf, List.length_append, HM.out]; simp only [List.length_cons, List.length_nil]; omega
        · rw [rcomN_succ, if_neg hf, ← List.append_assoc, intV_app]; exact HW2.out
    · have hj2 : j = q - p := by omega
      have hlt2 : ¬ (p : Int) + (j : Int) < (q : Int) := by omega
      go_wp2_with fail
      go_ret
      have e : Pl.rcommas p q = rcomN p j := by rw [hj2]; rfl
      refine ⟨_, m, c2, rfl, ?_, ?_, HB.out⟩
      · rw [e, List.length_append, HM.out, HN.out]
      · rw [e]; exact HW.out
end Go.Proofs.YtiaajpdcacdngaaGreatDoor.Rf
