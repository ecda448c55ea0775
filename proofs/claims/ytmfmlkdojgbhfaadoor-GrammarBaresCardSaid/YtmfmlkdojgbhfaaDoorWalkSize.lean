/- The walks of Size and Height, for trees of any size: the numbers as the machine adds them. -/
import Derived.Test.YtmfmlkdojgbhfaaDoorNode
namespace Go.Proofs.YtmfmlkdojgbhfaaDoor
open Go.RowKit
set_option linter.unusedVariables false
set_option linter.unusedSimpArgs false

theorem szws_drop (a : Int) (ks : List Pl.Tr) (j : Nat) (h : j < ks.length) : Pl.szws a (ks.drop j) = Pl.szws (wrap64 (a + Pl.szw ks[j])) (ks.drop (j + 1)) := by
  rw [List.drop_eq_getElem_cons h, Pl.szws]
theorem htws_drop (a : Int) (ks : List Pl.Tr) (j : Nat) (h : j < ks.length) : Pl.htws a (ks.drop j) = Pl.htws (max a (Pl.htw ks[j])) (ks.drop (j + 1)) := by
  rw [List.drop_eq_getElem_cons h, Pl.htws]
/-- What a call at each kid answers. -/
def Each (f : FuncId) (w : World) (ks : List Pl.Tr) (v : Pl.Tr → Value) : Prop :=
  ∀ (j : Nat) u, ks[j]? = some u → ∀ w2, Below w.heap.size w w2 → ∀ r, IsT w2 u r → Calls Tryd.prog f #[.agg #[.int .i64 u.kind, .string u.text, .slice r.ga u.gaps.length r.gc, .slice r.da u.kids.length r.dc]] w2 fun e w' => e = .returned (v u) ∧ Below w2.heap.size w2 w'

set_option maxHeartbeats 1600000 in
theorem size_step (k : Int) (s : ByteArray) (n gc dc : Nat) (ga da : Option Addr) (ks : List Pl.Tr) (R : Nat → Sl) (w : World) (hl : ks.length ≤ maxLen) (hks : Lies (fun b => b < w.heap.size) w ks da R) (hr : ∀ (j : Nat) u, ks[j]? = some u → IsT w u (R j))
    (ih : Each 27 w ks fun u => .int .i64 (Pl.szw u)) :
    Calls Tryd.prog 27 #[.agg #[.int .i64 k, .string s, .slice ga n gc, .slice da ks.length dc]] w fun e w' => e = .returned (.int .i64 (Pl.szws 1 ks)) ∧ Below w.heap.size w w' := by
  unfold maxLen at hl
  obtain ⟨m, hm⟩ : ∃ m, m = ks.length := ⟨_, rfl⟩
  obtain ⟨b, hb⟩ : ∃ b, b = Pl.szws 1 ks := ⟨_, rfl⟩
  rw [← hm] at hl ⊢
  rw [← hb]
  have HB := Lib.hid hb
  have HM := Lib.hid hm
  have HK := Lib.hid hks
  have HR := Lib.hid hr
  have HI := Lib.hid ih
  clear hm hks hr ih hb
  go_enter Tryd.func27, Tryd.ntmps27
  go_wp2_with fail
  go_loopw [3, 9] (fun v i wr => ∃ (j : Nat) (x : Int), j ≤ m ∧ i = .int .i64 j ∧ v = .int .i64 x ∧ Pl.szws x (ks.drop j) = b ∧ Below w.heap.size w wr ∧ w.heap.size < wr.heap.size) (fun _ i _ => m - (intOf i).toNat)
  case atStart => exact ⟨0, 1, Nat.zero_le _, rfl, rfl, HB.out.symm, box_below _ _, by simp⟩
  case round =>
    obtain ⟨j, x, hj, rfl, rfl, hsum, hbel, hgt⟩ := hrel
    have HBL := Lib.hid hbel
    have HS := Lib.hid hsum
    clear hsum
    by_cases hlt : j < m
    · have hjk : j < ks.length := by rw [← HM.out]; exact hlt
      have hu := List.getElem?_eq_getElem hjk
      have HD := Lib.hid (szws_drop x ks j hjk)
      have HI1 := Lib.hid (HI.out j _ hu)
      have HR1 := Lib.hid (HR.out j _ hu)
      rcases HK.out with h0 | ⟨b1, o1, rfl, hb1, hat⟩
      · rw [h0] at hjk; simp at hjk
      have l1 := Lib.hid (At4.keep (hat j _ hu) (Same.below hbel fun _ h => h) hb1).range
      generalize ks[j] = u at *
      generalize R j = r1 at *
      obtain ⟨ga1, gc1, da1, dc1⟩ := r1
      have hbw := hbel.trans ((box_below wr (.cells #[.int .i64 u.kind, .string u.text, .slice ga1 u.gaps.length gc1, .slice da1 u.kids.length dc1] 25)).mono hbel.size)
      have HBW := Lib.hid hbw
      have HC := Lib.hid (HI1.out _ hbw ⟨ga1, gc1, da1, dc1⟩ (HR1.out.later hbw))
      obtain ⟨y, hy⟩ : ∃ y, y = Pl.szw u := ⟨_, rfl⟩
      have HY : Hid (Pl.szws (wrap64 (x + y)) (ks.drop (j + 1)) = b) := Lib.hid (by rw [← HS.out, HD.out, hy])
      have HC2 : Hid (Calls Tryd.prog 27 #[.agg #[.int .i64 u.kind, .string u.text, .slice ga1 u.gaps.length gc1, .slice da1 u.kids.length dc1]] (wr.alloc (.cells #[.int .i64 u.kind, .string u.text, .slice ga1 u.gaps.length gc1, .slice da1 u.kids.length dc1] 25)) fun e w' => e = .returned (.int .i64 y) ∧ Below (wr.alloc (.cells #[.int .i64 u.kind, .string u.text, .slice ga1 u.gaps.length gc1, .slice da1 u.kids.length dc1] 25)).heap.size (wr.alloc (.cells #[.int .i64 u.kind, .string u.text, .slice ga1 u.gaps.length gc1, .slice da1 u.kids.length dc1] 25)) w') := Lib.hid (by rw [hy]; exact HC.out)
      clear hat hu hbel hbw hy HC
      go_wp2_with (first
        | (refine wpList_load_mid rfl 25 _ rfl b1 (o1 + j * 4) rfl [.int .i64 u.kind, .string u.text, .slice ga1 u.gaps.length gc1, .slice da1 u.kids.length dc1] _ l1.out Tryd.underlying25 rfl sizeN ?_)
        | (go_at_call 27; refine HC2.out.mono ?_; rintro e w' ⟨rfl, hb2⟩; have HB2 := Lib.hid hb2; clear hb2))
      exact ⟨⟨j + 1, wrap64 (x + y), by omega, by go_num, rfl, HY.out, HBW.out.trans (HB2.out.mono HBW.out.size), by have := HB2.out.size; simp at this; omega⟩, by simp [intOf]; omega⟩
    · obtain rfl : j = m := by omega
      have HYes : Hid (x = b) := Lib.hid (by
        have e := HS.out
        rw [List.drop_of_length_le (by rw [HM.out]; exact Nat.le_refl _)] at e
        exact e)
      go_wp2_with fail
      go_ret
      exact ⟨ret_int HYes.out, HBL.out⟩
theorem size_at (t : Pl.Tr) : ∀ w r, IsT w t r → Calls Tryd.prog 27 #[.agg #[.int .i64 t.kind, .string t.text, .slice r.ga t.gaps.length r.gc, .slice r.da t.kids.length r.dc]] w fun e w' => e = .returned (.int .i64 (Pl.szw t)) ∧ Below w.heap.size w w' := by
  refine Pl.Tr.ind (M := fun t => ∀ w r, IsT w t r → Calls Tryd.prog 27 #[.agg #[.int .i64 t.kind, .string t.text, .slice r.ga t.gaps.length r.gc, .slice r.da t.kids.length r.dc]] w fun e w' => e = .returned (.int .i64 (Pl.szw t)) ∧ Below w.heap.size w w') ?_ t
  intro k s g ks ih w r h
  obtain ⟨hs, hg, hl, R, hks, hr⟩ := h.parts
  have := size_step k s g.length r.gc r.dc r.ga r.da ks R w hl hks hr (fun j u hu w2 hb r2 h2 => ih u (List.mem_of_getElem? hu) w2 r2 h2)
  rw [Pl.szw]
  exact this

set_option maxHeartbeats 1600000 in
theorem height_step (k : Int) (s : ByteArray) (n gc dc : Nat) (ga da : Option Addr) (ks : List Pl.Tr) (R : Nat → Sl) (w : World) (hl : ks.length ≤ maxLen) (hks : Lies (fun b => b < w.heap.size) w ks da R) (hr : ∀ (j : Nat) u, ks[j]? = some u → IsT w u (R j))
    (ih : Each 28 w ks fun u => .int .i64 (Pl.htw u)) :
    Calls Tryd.prog 28 #[.agg #[.int .i64 k, .string s, .slice ga n gc, .slice da ks.length dc]] w fun e w' => e = .returned (.int .i64 (wrap64 (Pl.htws 0 ks + 1))) ∧ Below w.heap.size w w' := by
  unfold maxLen at hl
  obtain ⟨m, hm⟩ : ∃ m, m = ks.length := ⟨_, rfl⟩
  obtain ⟨b, hb⟩ : ∃ b, b = Pl.htws 0 ks := ⟨_, rfl⟩
  rw [← hm] at hl ⊢
  rw [← hb]
  have HB := Lib.hid hb
  have HM := Lib.hid hm
  have HK := Lib.hid hks
  have HR := Lib.hid hr
  have HI := Lib.hid ih
  clear hm hks hr ih hb
  go_enter Tryd.func28, Tryd.ntmps28
  go_wp2_with fail
  go_loopw [3, 9] (fun v i wr => ∃ (j : Nat) (x : Int), j ≤ m ∧ i = .int .i64 j ∧ v = .int .i64 x ∧ Pl.htws x (ks.drop j) = b ∧ Below w.heap.size w wr ∧ w.heap.size < wr.heap.size) (fun _ i _ => m - (intOf i).toNat)
  case atStart => exact ⟨0, 0, Nat.zero_le _, rfl, rfl, HB.out.symm, box_below _ _, by simp⟩
  case round =>
    obtain ⟨j, x, hj, rfl, rfl, hsum, hbel, hgt⟩ := hrel
    have HBL := Lib.hid hbel
    have HS := Lib.hid hsum
    clear hsum
    by_cases hlt : j < m
    · have hjk : j < ks.length := by rw [← HM.out]; exact hlt
      have hu := List.getElem?_eq_getElem hjk
      have HD := Lib.hid (htws_drop x ks j hjk)
      have HI1 := Lib.hid (HI.out j _ hu)
      have HR1 := Lib.hid (HR.out j _ hu)
      rcases HK.out with h0 | ⟨b1, o1, rfl, hb1, hat⟩
      · rw [h0] at hjk; simp at hjk
      have l1 := Lib.hid (At4.keep (hat j _ hu) (Same.below hbel fun _ h => h) hb1).range
      generalize ks[j] = u at *
      generalize R j = r1 at *
      obtain ⟨ga1, gc1, da1, dc1⟩ := r1
      have hbw := hbel.trans ((box_below wr (.cells #[.int .i64 u.kind, .string u.text, .slice ga1 u.gaps.length gc1, .slice da1 u.kids.length dc1] 25)).mono hbel.size)
      have HBW := Lib.hid hbw
      have HC := Lib.hid (HI1.out _ hbw ⟨ga1, gc1, da1, dc1⟩ (HR1.out.later hbw))
      obtain ⟨y, hy⟩ : ∃ y, y = Pl.htw u := ⟨_, rfl⟩
      have HY : Hid (Pl.htws (max x y) (ks.drop (j + 1)) = b) := Lib.hid (by rw [← HS.out, HD.out, hy])
      have HC2 : Hid (Calls Tryd.prog 28 #[.agg #[.int .i64 u.kind, .string u.text, .slice ga1 u.gaps.length gc1, .slice da1 u.kids.length dc1]] (wr.alloc (.cells #[.int .i64 u.kind, .string u.text, .slice ga1 u.gaps.length gc1, .slice da1 u.kids.length dc1] 25)) fun e w' => e = .returned (.int .i64 y) ∧ Below (wr.alloc (.cells #[.int .i64 u.kind, .string u.text, .slice ga1 u.gaps.length gc1, .slice da1 u.kids.length dc1] 25)).heap.size (wr.alloc (.cells #[.int .i64 u.kind, .string u.text, .slice ga1 u.gaps.length gc1, .slice da1 u.kids.length dc1] 25)) w') := Lib.hid (by rw [hy]; exact HC.out)
      clear hat hu hbel hbw hy HC
      go_wp2_with (first
        | (refine wpList_load_mid rfl 25 _ rfl b1 (o1 + j * 4) rfl [.int .i64 u.kind, .string u.text, .slice ga1 u.gaps.length gc1, .slice da1 u.kids.length dc1] _ l1.out Tryd.underlying25 rfl sizeN ?_)
        | (go_at_call 28; refine HC2.out.mono ?_; rintro e w' ⟨rfl, hb2⟩; have HB2 := Lib.hid hb2; clear hb2))
      all_goals exact ⟨⟨j + 1, max x y, by omega, by go_num, by first | rfl | (congr 1; omega), HY.out, HBW.out.trans (HB2.out.mono HBW.out.size), by have := HB2.out.size; simp at this; omega⟩, by simp [intOf]; omega⟩
    · obtain rfl : j = m := by omega
      have HYes : Hid (x = b) := Lib.hid (by
        have e := HS.out
        rw [List.drop_of_length_le (by rw [HM.out]; exact Nat.le_refl _)] at e
        exact e)
      go_wp2_with fail
      go_ret
      exact ⟨ret_int (by rw [HYes.out]), HBL.out⟩
theorem height_at (t : Pl.Tr) : ∀ w r, IsT w t r → Calls Tryd.prog 28 #[.agg #[.int .i64 t.kind, .string t.text, .slice r.ga t.gaps.length r.gc, .slice r.da t.kids.length r.dc]] w fun e w' => e = .returned (.int .i64 (Pl.htw t)) ∧ Below w.heap.size w w' := by
  refine Pl.Tr.ind (M := fun t => ∀ w r, IsT w t r → Calls Tryd.prog 28 #[.agg #[.int .i64 t.kind, .string t.text, .slice r.ga t.gaps.length r.gc, .slice r.da t.kids.length r.dc]] w fun e w' => e = .returned (.int .i64 (Pl.htw t)) ∧ Below w.heap.size w w') ?_ t
  intro k s g ks ih w r h
  obtain ⟨hs, hg, hl, R, hks, hr⟩ := h.parts
  have := height_step k s g.length r.gc r.dc r.ga r.da ks R w hl hks hr (fun j u hu w2 hb r2 h2 => ih u (List.mem_of_getElem? hu) w2 r2 h2)
  rw [Pl.htw]
  exact this
end Go.Proofs.YtmfmlkdojgbhfaaDoor
