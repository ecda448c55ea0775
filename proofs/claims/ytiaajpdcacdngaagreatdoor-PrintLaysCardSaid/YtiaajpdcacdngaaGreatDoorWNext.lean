/- The rounds of walkNode: what a step or a kid leaves. -/
import Derived.Test.YtiaajpdcacdngaaGreatDoorWLoc
namespace Go.Proofs.YtiaajpdcacdngaaGreatDoor
open Go.RowKit
set_option linter.unusedVariables false
set_option linter.unusedSimpArgs false

/-- The row of the parts lies in a block. -/
def PAt (w : World) (gb : Nat) (ps : List Pl.Part) : Prop := ∀ (j : Nat) (p : Pl.Part), ps[j]? = some p → w.rangeAt gb (j * 3) [.string p.gap, .string p.text, .int .i64 p.kid]
theorem PAt.of {w w' : World} {gb : Nat} {ps : List Pl.Part} (h : PAt w gb ps) (hb : w'.heap[gb]? = w.heap[gb]?) : PAt w' gb ps := fun j p hp i v hv => (World.cell?_of_block (w := w) (a := ⟨gb, j * 3 + i, none⟩) hb).trans (h j p hp i v hv)
theorem patof_cells {w : World} {gb : Nat} {ps : List Pl.Part} (h : ∀ j u, (row3 ps)[j]? = some u → w.cell? ((⟨gb, 0, none⟩ : Addr).add j) = some u) : PAt w gb ps := fun j p hp i v hv => by
  have hi : i < 3 := by have := (List.getElem?_eq_some_iff.1 hv).1; simpa using this
  have hadd : (⟨gb, 0, none⟩ : Addr).add (j * 3 + i) = ⟨gb, j * 3 + i, none⟩ := by unfold Addr.add; split <;> simp_all
  have := h (j * 3 + i) v (by rw [row3_get ps j p hp i hi]; exact hv)
  rw [hadd] at this
  exact this
theorem sizeP : (Tryz.prog.info? 89).map (·.size) = some 3 := by kernel_rfl
theorem node_next {w wr W w2 : World} {gb : Nat} {cur : Array Value} (HA : KeepP w wr) (hgb : wr.heap[gb]? = some (.cells cur 89 (0, 0)))
    (hw : Below wr.heap.size wr W) (hA2 : KeepP W w2) : KeepP w w2 ∧ w2.heap[gb]? = some (.cells cur 89 (0, 0)) := by
  have h1 := (KeepP.of hw).trans hA2
  exact ⟨HA.trans h1, h1.row _ _ _ hgb⟩
theorem owns_block {w : World} {B n : Nat} {e : TypeId} {size : Nat} {a : Option Addr} {c : Nat} {xs : List Value} (h : w.ownsRow B e size (.slice a n c) n xs) (hn : 0 < n) : ∃ g cur, a = some ⟨g, 0, none⟩ ∧ w.heap[g]? = some (.cells cur e (0, 0)) ∧ ∀ j u, xs[j]? = some u → w.cell? ((⟨g, 0, none⟩ : Addr).add j) = some u := by
  rcases h.2 with ⟨_, h0⟩ | ⟨g, cap, cur, he, hB, hh, _⟩
  · omega
  · injection he with h1 h2 h3
    exact ⟨g, cur, h1, hh, h.cells (by rw [h1]; rfl)⟩
/-- The own tokens so far, one more. -/
theorem owns_more (ps : List Pl.Part) (q : Nat) (h : q < ps.length) (hk : ps[q].kid = -1) : (Pl.owns (ps.take (q + 1))).length = (Pl.owns (ps.take q)).length + 1 := by
  rw [Pl.owns_take ps q h, if_pos hk, List.length_append]; rfl
theorem owns_same (ps : List Pl.Part) (q : Nat) (h : q < ps.length) (hk : ps[q].kid ≠ -1) : (Pl.owns (ps.take (q + 1))).length = (Pl.owns (ps.take q)).length := by
  rw [Pl.owns_take ps q h, if_neg hk, List.append_nil]
theorem owns_le (ps : List Pl.Part) (q : Nat) : (Pl.owns (ps.take q)).length ≤ ps.length := by
  unfold Pl.owns
  exact Nat.le_trans (List.length_filter_le _ _) (by rw [List.length_take]; omega)
theorem parts_len (k : Int) (s : ByteArray) (n L : Nat) (h : Pl.Ar k n) : (Pl.parts k s n L).length ≤ 2 * n + 6 := by
  have h1 := Pl.kds_parts k s n L h
  have h2 := Pl.rown_eq k s n L h
  have h3 := (Pl.rown_size k s n h).2
  have h4 : (Pl.parts k s n L).length = (Pl.owns (Pl.parts k s n L)).length + (Pl.kds (Pl.parts k s n L)).length := by
    generalize Pl.parts k s n L = l
    induction l with
    | nil => rfl
    | cons p l ih =>
      rcases Pl.split_owns p l with ⟨_, e1, e2⟩ | ⟨_, e1, e2⟩ <;> rw [e1, e2, List.length_cons, List.length_cons, ih] <;> omega
  have h5 := congrArg List.length h1
  have h6 := congrArg List.length h2
  simp only [List.length_map, List.length_range'] at h5 h6
  omega
theorem fix_split (f : ByteArray) (ps : List Pl.Part) (q : Nat) (h : q < ps.length) : ∃ (h2 : q < (Pl.fixF f ps).length), (Pl.fixF f ps)[q] = ⟨if q = 0 then f else ps[q].gap, ps[q].text, ps[q].kid⟩ := by
  have := Pl.fixF_get f ps q _ (List.getElem?_eq_getElem h)
  obtain ⟨h2, e⟩ := List.getElem?_eq_some_iff.1 this
  exact ⟨h2, e⟩
theorem own_cnt (f : ByteArray) (ps : List Pl.Part) (q : Nat) (h : q < ps.length) : (Pl.owns ((Pl.fixF f ps).take (q + 1))).length = (Pl.owns ((Pl.fixF f ps).take q)).length + (if ps[q].kid = -1 then 1 else 0) := by
  obtain ⟨h2, e⟩ := fix_split f ps q h
  rw [Pl.owns_take _ q h2, e, List.length_append]
  simp only
  split <;> rfl
/-- A word more. -/
theorem step_own {D T : List Ev} (b o : Nat) (g : List ByteArray) (r : Sl) (kid : Nat → ByteArray → List Ev) (f : ByteArray) (ps : List Pl.Part) (q : Nat) (h : q < ps.length) (hk : ps[q].kid = -1)
    (hT : (D ++ Pl.lin (fun i p => (⟨b, o, i, p.gap, p.text, g, r⟩ : Ev)) kid 0 (Pl.fixF f ps)) <+: T) :
    (D ++ Pl.lin (fun i p => (⟨b, o, i, p.gap, p.text, g, r⟩ : Ev)) kid 0 ((Pl.fixF f ps).take q) ++ [⟨b, o, (Pl.owns ((Pl.fixF f ps).take q)).length, if q = 0 then f else ps[q].gap, ps[q].text, g, r⟩]) <+: T ∧
    Pl.lin (fun i p => (⟨b, o, i, p.gap, p.text, g, r⟩ : Ev)) kid 0 ((Pl.fixF f ps).take (q + 1)) = Pl.lin (fun i p => (⟨b, o, i, p.gap, p.text, g, r⟩ : Ev)) kid 0 ((Pl.fixF f ps).take q) ++ [⟨b, o, (Pl.owns ((Pl.fixF f ps).take q)).length, if q = 0 then f else ps[q].gap, ps[q].text, g, r⟩] := by
  obtain ⟨h2, e⟩ := fix_split f ps q h
  have e2 := lin_take (fun i p => (⟨b, o, i, p.gap, p.text, g, r⟩ : Ev)) kid (Pl.fixF f ps) q h2
  rw [e, if_pos hk] at e2
  refine ⟨?_, e2⟩
  rw [List.append_assoc, ← e2]
  exact List.IsPrefix.trans ((List.prefix_append_right_inj D).2 (lin_prefix _ _ _ _)) hT
/-- The words of a kid more. -/
theorem step_kid {D T : List Ev} (b o : Nat) (g : List ByteArray) (r : Sl) (kid : Nat → ByteArray → List Ev) (f : ByteArray) (ps : List Pl.Part) (q : Nat) (h : q < ps.length) (j : Nat) (hk : ps[q].kid = j)
    (hT : (D ++ Pl.lin (fun i p => (⟨b, o, i, p.gap, p.text, g, r⟩ : Ev)) kid 0 (Pl.fixF f ps)) <+: T) :
    (D ++ Pl.lin (fun i p => (⟨b, o, i, p.gap, p.text, g, r⟩ : Ev)) kid 0 ((Pl.fixF f ps).take q) ++ kid j (if q = 0 then f else ps[q].gap)) <+: T ∧
    Pl.lin (fun i p => (⟨b, o, i, p.gap, p.text, g, r⟩ : Ev)) kid 0 ((Pl.fixF f ps).take (q + 1)) = Pl.lin (fun i p => (⟨b, o, i, p.gap, p.text, g, r⟩ : Ev)) kid 0 ((Pl.fixF f ps).take q) ++ kid j (if q = 0 then f else ps[q].gap) := by
  obtain ⟨h2, e⟩ := fix_split f ps q h
  have e2 := lin_take (fun i p => (⟨b, o, i, p.gap, p.text, g, r⟩ : Ev)) kid (Pl.fixF f ps) q h2
  rw [e, if_neg (by rw [hk]; omega)] at e2
  simp only [hk, Int.toNat_natCast] at e2
  refine ⟨?_, e2⟩
  rw [List.append_assoc, ← e2]
  exact List.IsPrefix.trans ((List.prefix_append_right_inj D).2 (lin_prefix _ _ _ _)) hT
/-- The kid of a part. -/
theorem part_kid (k : Int) (s : ByteArray) (n L : Nat) (h : Pl.Ar k n) (q : Nat) (hq : q < (Pl.parts k s n L).length) (hk : (Pl.parts k s n L)[q].kid ≠ -1) : ∃ j : Nat, j < n ∧ (Pl.parts k s n L)[q].kid = j := by
  have hm : (Pl.parts k s n L)[q] ∈ Pl.kds (Pl.parts k s n L) := by
    unfold Pl.kds
    exact List.mem_filter.2 ⟨List.getElem_mem hq, by simpa using hk⟩
  have h1 : (Pl.parts k s n L)[q].kid ∈ (Pl.kds (Pl.parts k s n L)).map (·.kid) := List.mem_map_of_mem hm
  rw [Pl.kds_parts k s n L h] at h1
  obtain ⟨j, hj, e⟩ := List.mem_map.1 h1
  rw [List.mem_range'_1] at hj
  exact ⟨j, by omega, e.symm⟩
end Go.Proofs.YtiaajpdcacdngaaGreatDoor
