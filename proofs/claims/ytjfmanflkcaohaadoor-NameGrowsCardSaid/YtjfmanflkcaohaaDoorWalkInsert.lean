/- The walk of Insert. -/
import Derived.Test.YtjfmanflkcaohaaDoorWalkFresh2
import Derived.Test.YtjfmanflkcaohaaDoorPlainSort
namespace Go.Proofs.YtjfmanflkcaohaaDoor
open Go.RowKit
set_option linter.unusedVariables false
set_option linter.unusedSimpArgs false

theorem Tryd.infoS : (Tryd.prog.info? 9).map (fun i => (i.zero, i.size, i.bytes)) = some (some (.string ⟨#[]⟩), 1, 16) := by kernel_rfl

theorem below_put {B : Nat} {w w' : World} (h : Below B w w') {g : Nat} (hg : B ≤ g) (hB : B ≤ w'.heap.size) (n : Nat) (off : Nat) (d : Array (List UInt8)) (os : Array Obj) :
    Below B w (Sort.grow (Sort.putRow encStr (Sort.ahead w' n) g off d) os) := by
  refine ⟨h.os, h.tape, h.output, ?_, fun k hk => ?_⟩
  · rw [Sort.size_grow, Sort.size_putRow]; exact Nat.le_trans h.size (Nat.le_add_right _ _)
  · rw [Sort.heap_grow_old _ _ (by rw [Sort.size_putRow]; exact Nat.lt_of_lt_of_le hk hB)]
    refine Eq.trans ?_ (h.block k hk)
    show (w'.heap.modify g _)[k]? = _
    rw [Array.getElem?_modify, if_neg (by omega)]
theorem below_put0 {B : Nat} {w w' : World} (h : Below B w w') {g : Nat} (hg : B ≤ g) (n : Nat) (off : Nat) (d : Array (List UInt8)) :
    Below B w (Sort.putRow encStr (Sort.ahead w' n) g off d) := by
  refine ⟨h.os, h.tape, h.output, ?_, fun k hk => ?_⟩
  · rw [Sort.size_putRow]; exact h.size
  · refine Eq.trans ?_ (h.block k hk)
    show (w'.heap.modify g _)[k]? = _
    rw [Array.getElem?_modify, if_neg (by omega)]

/-- The cells hold these strings, and may be written. -/
def Own (w : World) (g : Nat) (l : List Pl.Bs) : Prop := Sort.Holds encStr w g 0 l.toArray ∧ g < w.heap.size
def Sorted (g : Nat) (l : List Pl.Bs) (w : World) (e : Ending) (w' : World) : Prop := e = .returned (.tuple #[]) ∧ Own w' g (Pl.srt l) ∧ ∀ B, B ≤ g → Below B w w'
theorem sort_any (g cap n : Nat) (l : List Pl.Bs) (w : World) (h : Own w g l) (hn : n = l.length) (hl : l.length ≤ 1000) :
    Calls Tryd.prog 35 #[.slice (some ⟨g, 0, none⟩) n cap] w (Sorted g l w) := by
  subst hn
  obtain ⟨h1, h2⟩ := h
  refine (Tryd.slices_Sort_string g 0 cap l w h1 h2 (by omega)).mono ?_
  rintro e w' ⟨rfl, q, os, rfl⟩
  refine ⟨rfl, ⟨?_, ?_⟩, fun B hB => below_put (Below.refl _ _) hB (by omega) _ _ _ _⟩
  · refine Sort.holds_grow _ _ _ _ _ _ (by rw [Sort.size_putRow]; exact h2) ?_
    refine Sort.holds_putRow encStr (Sort.ahead w q) g 0 l.toArray _ h1 ?_
    have := Pl.srt_len l
    unfold Pl.srt at this
    simp only [List.size_toArray]
    exact this
  · rw [Sort.size_grow, Sort.size_putRow]
    exact Nat.lt_of_lt_of_le h2 (Nat.le_add_right _ _)
def Compacted (g cap : Nat) (l : List Pl.Bs) (w : World) (e : Ending) (w' : World) : Prop :=
  e = .returned (.slice (some ⟨g, 0, none⟩) ((Lib.compact l).map Pl.mk).length cap) ∧ StrsAt w' g 0 ((Lib.compact l).map Pl.mk) ∧ g < w'.heap.size ∧ ∀ B, B ≤ g → Below B w w'
theorem compact_any (g cap n : Nat) (l : List Pl.Bs) (w : World) (h : Own w g l) (hn : n = l.length) (hl : l.length ≤ 1000) (hc : l.length ≤ cap) :
    Calls Tryd.prog 36 #[.slice (some ⟨g, 0, none⟩) n cap] w (Compacted g cap l w) := by
  subst hn
  obtain ⟨h1, h2⟩ := h
  refine (Tryd.slices_Compact_string g 0 cap l w h1 (by omega) hc).mono ?_
  rintro e w' ⟨rfl, q, rfl⟩
  have hle := Lib.compact_length_le l
  refine ⟨by rw [List.length_map], fun j x hx => ?_, by rw [Sort.size_putRow]; exact h2, fun B hB => below_put0 (Below.refl _ _) hB _ _ _⟩
  have hj : j < (Lib.compact l).length := by
    have := (List.getElem?_eq_some_iff.1 hx).1
    rwa [List.length_map] at this
  rw [Sort.cell?_putRow encStr (Sort.ahead w q) g 0 l.toArray _ h1 (by simp; omega) j (by simp; omega)]
  rw [List.getElem?_map, List.getElem?_eq_getElem hj] at hx
  simp only [Option.map_some, Option.some.injEq] at hx
  subst hx
  congr 1
  have : (Lib.compact l ++ List.replicate (l.length - (Lib.compact l).length) ([] : Pl.Bs)).toArray[j]! = (Lib.compact l)[j] := by
    rw [getElem!_pos _ j (by simp; omega), List.getElem_toArray, List.getElem_append_left hj]
  rw [this]
  rfl

theorem add_at (b o j : Nat) : (⟨b, o, none⟩ : Addr).add j = ⟨b, o + j, none⟩ := by
  unfold Addr.add
  split
  · rename_i h; rw [h]; rfl
  · rfl
/-- What the walk wants of a list that came in. -/
theorem Reads.open {w : World} {v : Value} {xs : List ByteArray} (h : Reads w v xs) :
    ∃ ao n c, v = .slice ao n c ∧ n = xs.length ∧ (ao = none → n = 0 ∧ c = 0) ∧ ∀ w', Below w.heap.size w w' → ∀ ad, ao = some ad → ∀ (j : Nat) u, (xs.map Value.string)[j]? = some u → w'.cell? (ad.add j) = some u := by
  rcases h with ⟨rfl, a, c, rfl, h⟩ | ⟨b, o, c, rfl, h1, h2, _⟩
  · exact ⟨a, 0, c, rfl, rfl, fun e => ⟨rfl, h e⟩, fun w' hb ad e j u hu => by simp at hu⟩
  · refine ⟨some ⟨b, o, none⟩, _, c, rfl, rfl, (fun e => by cases e), fun w' hb ad e j u hu => ?_⟩
    simp only [Option.some.injEq] at e
    subst e
    rw [List.getElem?_map] at hu
    cases hx : xs[j]? with
    | none => rw [hx] at hu; cases hu
    | some x =>
      rw [hx] at hu
      simp only [Option.map_some, Option.some.injEq] at hu
      subst hu
      have := h2.later h1 hb j x hx
      rw [add_at]; exact this
theorem own_of_row {w : World} {B g n cap : Nat} {ys : List ByteArray} (h : w.ownsRow B 9 1 (.slice (some ⟨g, 0, none⟩) n cap) n (ys.map Value.string)) (hn : n = ys.length) : Own w g (Pl.bs ys) := by
  refine ⟨fun j hj => ?_, ?_⟩
  · have hj2 : j < ys.length := by simpa [Pl.bs] using hj
    refine ⟨?_, by rw [Nat.zero_add]; exact h.frozenAt j⟩
    rw [Nat.zero_add, h.cellAt j (by omega), List.getElem?_map, List.getElem?_eq_getElem hj2]
    have : (Pl.bs ys).toArray[j]! = ys[j].data.toList := by
      rw [getElem!_pos _ j hj, List.getElem_toArray]
      simp [Pl.bs]
    rw [this]
    show some (Value.string ys[j]) = some (Value.string (Pl.mk ys[j].data.toList))
    rw [Pl.mk_self]
  · rcases h.2 with ⟨h', _⟩ | ⟨g', cap', cur, h', _, hg, _⟩
    · simp at h'
    · simp only [Value.slice.injEq, Option.some.injEq, Addr.mk.injEq, and_true, true_and] at h'
      obtain ⟨rfl, rfl⟩ := h'
      exact (Array.getElem?_eq_some_iff.1 hg).1
/-- What Insert gives: a list of the call's own. -/
def Inserted (ys : List ByteArray) (w : World) (e : Ending) (w' : World) : Prop := ∃ u, e = .returned u ∧ Reads w' u ys ∧ Below w.heap.size w w'

set_option maxHeartbeats 1600000 in
theorem insert_any (v : Value) (xs : List ByteArray) (s : ByteArray) (w : World) (h : Reads w v xs) (hl : xs.length ≤ 900) :
    Calls Tryd.prog 21 #[v, .string s] w (Inserted (Pl.insB xs s) w) := by
  obtain ⟨ao, n, c, rfl, hn, hnone, hcells⟩ := h.open
  obtain ⟨i0, hi, hz0, hz1, hz2⟩ := info_parts Tryd.infoS
  have HC := Lib.hid hcells
  have HN := Lib.hid hn
  have HNO := Lib.hid hnone
  have hl2 : n ≤ 900 := by omega
  have HZ2 := Lib.hid hz2
  clear hcells hn hnone h hl
  go_enter Tryd.func21, Tryd.ntmps21
  go_wp2_with (at_make; refine wpList_make_own _ rfl _ _ 24 rfl w.heap.size 9 i0 (.string ⟨#[]⟩) 1 Tryd.underlying24 hi hz0 hz1 .i64 .i64 ((n : Int) + 1) (n + 1) rfl rfl (by omega) (by rw [HZ2.out]; omega) (by unfold maxLen; omega) (Nat.le_refl _) ?_)
  intro w1 hown1 hgrow1
  have hb1 := (Below.refl w.heap.size w).grown hgrow1 (Nat.le_refl _) (fun k hk => by cases hk)
  have HX := Lib.hid (HC.out w1 hb1)
  clear hgrow1
  go_wp2_with (at_builtin; refine wpList_append_fits_any _ rfl _ _ 24 rfl w.heap.size 9 i0 1 Tryd.underlying24 hi hz1 w.heap.size 0 (n + 1) [] rfl hown1 ao n c (xs.map Value.string) rfl (by rw [List.length_map, Nat.mul_one]; exact HN.out.symm) HNO.out HX.out (by intro u hu; obtain ⟨x, _, rfl⟩ := List.mem_map.1 hu; rfl) (by omega) ?_)
  intro w2 hown2 hgrow2
  have hb2 := hb1.grown hgrow2 hb1.size (fun k hk => by cases hk; exact Nat.le_refl _)
  have hlt2 := hb2.size
  clear hgrow2 hown1
  go_wp2_with (at_builtin; refine wpList_append_fits _ rfl _ _ 24 rfl w.heap.size 9 i0 1 Tryd.underlying24 hi hz1 w.heap.size n (n + 1) (xs.map Value.string) rfl (hown2.alloc _) ⟨w2.heap.size, 0, none⟩ 1 1 [.string s] rfl rfl ?_ ?_ (by omega) ?_)
  · intro j u hj
    match j, hj with
    | 0, hj => simp at hj; subst hj; simp [Addr.add]
  · intro u hu; simp at hu; subst hu; rfl
  intro w3 hown3 hgrow3
  have hb3 := (hb2.alloc hb2.size _).grown hgrow3 (by simp; omega) (fun k hk => by cases hk; exact Nat.le_refl _)
  have hO : Own w3 w.heap.size (Pl.bs (xs ++ [s])) := own_of_row (ys := xs ++ [s]) (n := n + 1) (by rw [List.map_append]; exact hown3) (by rw [HN.out]; simp)
  have hlen : n + 1 = (Pl.bs (xs ++ [s])).length := by simp [Pl.bs]; exact HN.out
  have HO := Lib.hid hO
  have HLEN := Lib.hid hlen
  clear hown3 hgrow3 hown2 hO hlen
  go_wp2_with fail
  refine (sort_any _ _ _ _ _ HO.out HLEN.out (by rw [← HLEN.out]; omega)).mono ?_
  rintro e w4 ⟨rfl, ho4, hb4⟩
  have HO4 := Lib.hid ho4
  have hb4b := hb3.trans (hb4 w.heap.size (Nat.le_refl _))
  clear ho4 hb4
  go_wp2_with fail
  refine (compact_any _ _ _ _ _ HO4.out (by rw [Pl.srt_len]; exact HLEN.out) (by rw [Pl.srt_len, ← HLEN.out]; omega) (by rw [Pl.srt_len, ← HLEN.out]; exact Nat.le_refl _)).mono ?_
  rintro e w5 ⟨rfl, hs5, hlt5, hb5⟩
  have HS5 := Lib.hid hs5
  have hb5b := hb4b.trans (hb5 w.heap.size (Nat.le_refl _))
  clear hs5 hb5
  go_wp2_with fail
  go_ret
  have hE : Pl.insB xs s = (Lib.compact (Pl.srt (Pl.bs (xs ++ [s])))).map Pl.mk := by
    unfold Pl.insB Pl.ins Pl.bs
    rw [List.map_append]; rfl
  have hL := Pl.insB_len xs s
  refine ⟨_, rfl, .inr ⟨w.heap.size, 0, n + 1, ?_, hlt5, ?_, ?_⟩, hb5b⟩
  · rw [hE, List.length_map]; rfl
  · rw [hE]; exact HS5.out
  · have := HN.out; unfold maxLen; omega
end Go.Proofs.YtjfmanflkcaohaaDoor
