/- The walk of the law TriviaBack. -/
import Derived.Test.YtceoleddijnieaaDoorLawShifts
namespace Go.Proofs.YtceoleddijnieaaDoor
open Go.RowKit
set_option linter.unusedVariables false
set_option linter.unusedSimpArgs false

/-- What the parts of the law answer, for one string and what Shift makes of it. -/
def Parts (s x : ByteArray) (n : Int) (m : Nat) (b : Bool) (L : List Pl.Bs) : Prop :=
  (∀ w, Calls Tryd.prog 19 #[.string s, .int .i64 n] w fun e w' => e = .returned (.string x) ∧ Below w.heap.size w w') ∧
  (∀ w, Calls Tryd.prog 22 #[.string (s ++ ⟨#[120]⟩)] w fun e w' => e = .returned (.int .i64 ((m : Int) + 1)) ∧ Below w.heap.size w w') ∧
  (∀ w, Calls Tryd.prog 22 #[.string (x ++ ⟨#[120]⟩)] w fun e w' => e = .returned (.int .i64 ((m : Int) + 1)) ∧ Below w.heap.size w w') ∧
  (∀ w, Calls Tryd.prog 9 #[.string s] w fun e w' => e = .returned (.bool b) ∧ Below w.heap.size w w') ∧
  (∀ w, Calls Tryd.prog 9 #[.string x] w fun e w' => e = .returned (.bool b) ∧ Below w.heap.size w w') ∧
  (∀ w, Calls Tryd.prog 14 #[.string s] w (Gives L w)) ∧
  (∀ w, Calls Tryd.prog 14 #[.string x] w (Gives L w)) ∧
  (m ≤ 1048576 ∧ L.length ≤ 1099511627776 ∧ x.size ≤ 1000000000) ∧
  (0 ≤ n → n ≤ 60 → ∀ w, Calls Tryd.prog 19 #[.string x, .int .i64 (-n)] w fun e w' => e = .returned (.string s) ∧ Below w.heap.size w w')
theorem Parts.shift {s x : ByteArray} {n : Int} {m : Nat} {b : Bool} {L : List Pl.Bs} (h : Parts s x n m b L) : ∀ w, Calls Tryd.prog 19 #[.string s, .int .i64 n] w fun e w' => e = .returned (.string x) ∧ Below w.heap.size w w' := h.1
theorem Parts.counts {s x : ByteArray} {n : Int} {m : Nat} {b : Bool} {L : List Pl.Bs} (h : Parts s x n m b L) : ∀ w, Calls Tryd.prog 22 #[.string (s ++ ⟨#[120]⟩)] w fun e w' => e = .returned (.int .i64 ((m : Int) + 1)) ∧ Below w.heap.size w w' := h.2.1
theorem Parts.countx {s x : ByteArray} {n : Int} {m : Nat} {b : Bool} {L : List Pl.Bs} (h : Parts s x n m b L) : ∀ w, Calls Tryd.prog 22 #[.string (x ++ ⟨#[120]⟩)] w fun e w' => e = .returned (.int .i64 ((m : Int) + 1)) ∧ Below w.heap.size w w' := h.2.2.1
theorem Parts.valids {s x : ByteArray} {n : Int} {m : Nat} {b : Bool} {L : List Pl.Bs} (h : Parts s x n m b L) : ∀ w, Calls Tryd.prog 9 #[.string s] w fun e w' => e = .returned (.bool b) ∧ Below w.heap.size w w' := h.2.2.2.1
theorem Parts.validx {s x : ByteArray} {n : Int} {m : Nat} {b : Bool} {L : List Pl.Bs} (h : Parts s x n m b L) : ∀ w, Calls Tryd.prog 9 #[.string x] w fun e w' => e = .returned (.bool b) ∧ Below w.heap.size w w' := h.2.2.2.2.1
theorem Parts.comss {s x : ByteArray} {n : Int} {m : Nat} {b : Bool} {L : List Pl.Bs} (h : Parts s x n m b L) : ∀ w, Calls Tryd.prog 14 #[.string s] w (Gives L w) := h.2.2.2.2.2.1
theorem Parts.comsx {s x : ByteArray} {n : Int} {m : Nat} {b : Bool} {L : List Pl.Bs} (h : Parts s x n m b L) : ∀ w, Calls Tryd.prog 14 #[.string x] w (Gives L w) := h.2.2.2.2.2.2.1
theorem Parts.few {s x : ByteArray} {n : Int} {m : Nat} {b : Bool} {L : List Pl.Bs} (h : Parts s x n m b L) : m ≤ 1048576 ∧ L.length ≤ 1099511627776 ∧ x.size ≤ 1000000000 := h.2.2.2.2.2.2.2.1
theorem Parts.back {s x : ByteArray} {n : Int} {m : Nat} {b : Bool} {L : List Pl.Bs} (h : Parts s x n m b L) : 0 ≤ n → n ≤ 60 → ∀ w, Calls Tryd.prog 19 #[.string x, .int .i64 (-n)] w fun e w' => e = .returned (.string s) ∧ Below w.heap.size w w' := h.2.2.2.2.2.2.2.2

theorem parts (s : ByteArray) (n : Int) (hs : s.size ≤ 1048576) : ∃ x m b L, Parts s x n m b L := by
  obtain ⟨d, hd⟩ : ∃ d, max (-60) (min n 60) = d := ⟨_, rfl⟩
  have hd2 : d ≤ 60 := by omega
  have hl := Pl.sh_len d s.data.toList hd2
  rw [← Lib.size_eq] at hl
  have hx : (Pl.mk (Pl.sh d s.data.toList)).size ≤ 1000000000 := by rw [Pl.mk_size]; omega
  have hxl : (Pl.mk (Pl.sh d s.data.toList)).data.toList = Pl.sh d s.data.toList := Pl.mk_list _
  have hlike := Pl.sh_like d s.data.toList
  have hml : s.data.toList.count 10 ≤ 1048576 := by
    have := List.count_le_length (a := (10 : UInt8)) (l := s.data.toList)
    rw [← Lib.size_eq] at this; omega
  have hLl := Pl.coms_le s.data.toList
  rw [← Lib.size_eq] at hLl
  refine ⟨Pl.mk (Pl.sh d s.data.toList), s.data.toList.count 10, val s.data.toList, Pl.coms s.data.toList, ?_⟩
  refine ⟨fun w => shift_any s n d w (by omega) hd, fun w => count_x s _ rfl (by omega) w, fun w => ?_, fun w => valid_any s w (by unfold maxLen; omega), fun w => valid_is _ _ ?_ w (by unfold maxLen; omega),
    fun w => coms_any s w _ rfl (by omega), fun w => coms_any _ w _ ?_ (by omega), ⟨hml, by omega, hx⟩, fun h0 h6 w => ?_⟩
  · exact count_x _ _ (by rw [hxl, Pl.sh_count]) (by omega) w
  · rw [hxl]; unfold val
    rw [Bool.eq_iff_iff]
    simp only [beq_iff_eq]
    exact hlike.1
  · rw [hxl]; exact hlike.2.symm
  · obtain ⟨k, rfl⟩ : ∃ k : Nat, n = k := ⟨n.toNat, by omega⟩
    have e1 : d = k := by omega
    subst e1
    have h := shift_any (Pl.mk (Pl.sh (k : Int) s.data.toList)) (-(k : Int)) (-(k : Int)) w hx (by omega)
    rw [hxl, Pl.sh_back] at h
    have e2 : Pl.mk s.data.toList = s := Pl.list_ext (by rw [Pl.mk_list])
    rw [e2] at h
    exact h
theorem reads_cat {w : World} {v : Value} {L : List Pl.Bs} (h : Reads w v L) : Reads w v (L ++ []) := by rw [List.append_nil]; exact h
theorem reads_nil (w : World) : Reads w (.slice none 0 0) [] := .inl ⟨rfl, rfl⟩

set_option maxHeartbeats 3200000 in
theorem back_true_lo (s x : ByteArray) (n : Int) (m : Nat) (L : List Pl.Bs) (w : World) (hs : s.size ≤ 1048576) (H : Hid (Parts s x n m true L)) (hn : n < 0) :
    Calls Tryd.prog 7 #[.string s, .int .i64 n] w fun e w' => e = .returned (.bool true) ∧ Below w.heap.size w w' := by
  have hone : (⟨#[120]⟩ : ByteArray).size = 1 := rfl
  have hx := H.out.few.2.2
  have hm := H.out.few.1
  go_enter Tryd.func7, Tryd.ntmps7
  go_wp2_with fail
  refine (H.out.shift _).mono ?_
  rintro e w1 ⟨rfl, hb1⟩
  have HB1 := Lib.hid hb1
  clear hb1
  go_wp2_with fail
  refine (H.out.counts _).mono ?_
  rintro e w2 ⟨rfl, hb2⟩
  have HB2 := Lib.hid (HB1.out.trans (hb2.mono HB1.out.size))
  clear hb2 HB1
  go_wp2_with fail
  refine (H.out.countx _).mono ?_
  rintro e w3 ⟨rfl, hb3⟩
  have HB3 := Lib.hid (HB2.out.trans (hb3.mono HB2.out.size))
  clear hb3 HB2
  go_wp2_with fail
  refine (H.out.validx _).mono ?_
  rintro e w4 ⟨rfl, hb4⟩
  have HB4 := Lib.hid (HB3.out.trans (hb4.mono HB3.out.size))
  clear hb4 HB3
  go_wp2_with fail
  refine (H.out.valids _).mono ?_
  rintro e w5 ⟨rfl, hb5⟩
  have HB5 := Lib.hid (HB4.out.trans (hb5.mono HB4.out.size))
  clear hb5 HB4
  go_wp2_with fail
  refine (H.out.valids _).mono ?_
  rintro e w6 ⟨rfl, hb6⟩
  have HB6 := Lib.hid (HB5.out.trans (hb6.mono HB5.out.size))
  clear hb6 HB5
  go_wp2_with fail
  refine (H.out.comsx _).mono ?_
  rintro e w7 ⟨u, rfl, hu, hb7⟩
  have HU := Lib.hid (reads_cat hu)
  clear hu
  have HB7 := Lib.hid (HB6.out.trans (hb7.mono HB6.out.size))
  clear hb7 HB6
  go_wp2_with fail
  refine (H.out.comss _).mono ?_
  rintro e w8 ⟨v, rfl, hv, hb8⟩
  have HV := Lib.hid hv
  have HU2 := Lib.hid (HU.out.later hb8)
  clear hv
  have HB8 := Lib.hid (HB7.out.trans (hb8.mono HB7.out.size))
  clear hb8 HB7
  go_wp2_with fail
  refine (cat_any u v _ L [] _ (by have := H.out.few.2.1; simpa using this) HU2.out HV.out (reads_nil _)).mono ?_
  rintro e w9 ⟨rfl, hb9⟩
  have HB9 := Lib.hid (HB8.out.trans (hb9.mono HB8.out.size))
  clear hb9 HB8
  go_wp2_with fail
  refine (awake_any _).mono ?_
  rintro e w10 ⟨rfl, hb10⟩
  have HB10 := Lib.hid (HB9.out.trans (hb10.mono HB9.out.size))
  clear hb10 HB9
  go_wp2_with fail
  go_ret
  exact ⟨rfl, HB10.out⟩
set_option maxHeartbeats 3200000 in
theorem back_true_hi (s x : ByteArray) (n : Int) (m : Nat) (L : List Pl.Bs) (w : World) (hs : s.size ≤ 1048576) (H : Hid (Parts s x n m true L)) (hn : 60 < n) (hn2 : ¬ n < 0) :
    Calls Tryd.prog 7 #[.string s, .int .i64 n] w fun e w' => e = .returned (.bool true) ∧ Below w.heap.size w w' := by
  have hone : (⟨#[120]⟩ : ByteArray).size = 1 := rfl
  have hx := H.out.few.2.2
  have hm := H.out.few.1
  go_enter Tryd.func7, Tryd.ntmps7
  go_wp2_with fail
  refine (H.out.shift _).mono ?_
  rintro e w1 ⟨rfl, hb1⟩
  have HB1 := Lib.hid hb1
  clear hb1
  go_wp2_with fail
  refine (H.out.counts _).mono ?_
  rintro e w2 ⟨rfl, hb2⟩
  have HB2 := Lib.hid (HB1.out.trans (hb2.mono HB1.out.size))
  clear hb2 HB1
  go_wp2_with fail
  refine (H.out.countx _).mono ?_
  rintro e w3 ⟨rfl, hb3⟩
  have HB3 := Lib.hid (HB2.out.trans (hb3.mono HB2.out.size))
  clear hb3 HB2
  go_wp2_with fail
  refine (H.out.validx _).mono ?_
  rintro e w4 ⟨rfl, hb4⟩
  have HB4 := Lib.hid (HB3.out.trans (hb4.mono HB3.out.size))
  clear hb4 HB3
  go_wp2_with fail
  refine (H.out.valids _).mono ?_
  rintro e w5 ⟨rfl, hb5⟩
  have HB5 := Lib.hid (HB4.out.trans (hb5.mono HB4.out.size))
  clear hb5 HB4
  go_wp2_with fail
  refine (H.out.valids _).mono ?_
  rintro e w6 ⟨rfl, hb6⟩
  have HB6 := Lib.hid (HB5.out.trans (hb6.mono HB5.out.size))
  clear hb6 HB5
  go_wp2_with fail
  refine (H.out.comsx _).mono ?_
  rintro e w7 ⟨u, rfl, hu, hb7⟩
  have HU := Lib.hid (reads_cat hu)
  clear hu
  have HB7 := Lib.hid (HB6.out.trans (hb7.mono HB6.out.size))
  clear hb7 HB6
  go_wp2_with fail
  refine (H.out.comss _).mono ?_
  rintro e w8 ⟨v, rfl, hv, hb8⟩
  have HV := Lib.hid hv
  have HU2 := Lib.hid (HU.out.later hb8)
  clear hv
  have HB8 := Lib.hid (HB7.out.trans (hb8.mono HB7.out.size))
  clear hb8 HB7
  go_wp2_with fail
  refine (cat_any u v _ L [] _ (by have := H.out.few.2.1; simpa using this) HU2.out HV.out (reads_nil _)).mono ?_
  rintro e w9 ⟨rfl, hb9⟩
  have HB9 := Lib.hid (HB8.out.trans (hb9.mono HB8.out.size))
  clear hb9 HB8
  go_wp2_with fail
  refine (awake_any _).mono ?_
  rintro e w10 ⟨rfl, hb10⟩
  have HB10 := Lib.hid (HB9.out.trans (hb10.mono HB9.out.size))
  clear hb10 HB9
  go_wp2_with fail
  go_ret
  exact ⟨rfl, HB10.out⟩
set_option maxHeartbeats 3200000 in
theorem back_true_in (s x : ByteArray) (n : Int) (m : Nat) (L : List Pl.Bs) (w : World) (hs : s.size ≤ 1048576) (H : Hid (Parts s x n m true L)) (h0 : 0 ≤ n) (h6 : n ≤ 60) :
    Calls Tryd.prog 7 #[.string s, .int .i64 n] w fun e w' => e = .returned (.bool true) ∧ Below w.heap.size w w' := by
  have hone : (⟨#[120]⟩ : ByteArray).size = 1 := rfl
  have hx := H.out.few.2.2
  have hm := H.out.few.1
  have hb0 : ¬ n < 0 := by omega
  have hb6 : ¬ 60 < n := by omega
  go_enter Tryd.func7, Tryd.ntmps7
  go_wp2_with fail
  refine (H.out.shift _).mono ?_
  rintro e w1 ⟨rfl, hb1⟩
  have HB1 := Lib.hid hb1
  clear hb1
  go_wp2_with fail
  refine (H.out.counts _).mono ?_
  rintro e w2 ⟨rfl, hb2⟩
  have HB2 := Lib.hid (HB1.out.trans (hb2.mono HB1.out.size))
  clear hb2 HB1
  go_wp2_with fail
  refine (H.out.countx _).mono ?_
  rintro e w3 ⟨rfl, hb3⟩
  have HB3 := Lib.hid (HB2.out.trans (hb3.mono HB2.out.size))
  clear hb3 HB2
  go_wp2_with fail
  refine (H.out.validx _).mono ?_
  rintro e w4 ⟨rfl, hb4⟩
  have HB4 := Lib.hid (HB3.out.trans (hb4.mono HB3.out.size))
  clear hb4 HB3
  go_wp2_with fail
  refine (H.out.valids _).mono ?_
  rintro e w5 ⟨rfl, hb5⟩
  have HB5 := Lib.hid (HB4.out.trans (hb5.mono HB4.out.size))
  clear hb5 HB4
  go_wp2_with fail
  refine (H.out.valids _).mono ?_
  rintro e w6 ⟨rfl, hb6⟩
  have HB6 := Lib.hid (HB5.out.trans (hb6.mono HB5.out.size))
  clear hb6 HB5
  go_wp2_with fail
  refine (H.out.comsx _).mono ?_
  rintro e w7 ⟨u, rfl, hu, hb7⟩
  have HU := Lib.hid (reads_cat hu)
  clear hu
  have HB7 := Lib.hid (HB6.out.trans (hb7.mono HB6.out.size))
  clear hb7 HB6
  go_wp2_with fail
  refine (H.out.comss _).mono ?_
  rintro e w8 ⟨v, rfl, hv, hb8⟩
  have HV := Lib.hid hv
  have HU2 := Lib.hid (HU.out.later hb8)
  clear hv
  have HB8 := Lib.hid (HB7.out.trans (hb8.mono HB7.out.size))
  clear hb8 HB7
  go_wp2_with fail
  refine (cat_any u v _ L [] _ (by have := H.out.few.2.1; simpa using this) HU2.out HV.out (reads_nil _)).mono ?_
  rintro e w9 ⟨rfl, hb9⟩
  have HB9 := Lib.hid (HB8.out.trans (hb9.mono HB8.out.size))
  clear hb9 HB8
  go_wp2_with fail
  refine (H.out.back h0 h6 _).mono ?_
  rintro e w10 ⟨rfl, hb10⟩
  have HB10 := Lib.hid (HB9.out.trans (hb10.mono HB9.out.size))
  clear hb10 HB9
  go_wp2_with fail
  refine (awake_any _).mono ?_
  rintro e w11 ⟨rfl, hb11⟩
  have HB11 := Lib.hid (HB10.out.trans (hb11.mono HB10.out.size))
  clear hb11 HB10
  go_wp2_with fail
  go_ret
  exact ⟨rfl, HB11.out⟩
set_option maxHeartbeats 3200000 in
theorem back_false_lo (s x : ByteArray) (n : Int) (m : Nat) (L : List Pl.Bs) (w : World) (hs : s.size ≤ 1048576) (H : Hid (Parts s x n m false L)) (hn : n < 0) :
    Calls Tryd.prog 7 #[.string s, .int .i64 n] w fun e w' => e = .returned (.bool true) ∧ Below w.heap.size w w' := by
  have hone : (⟨#[120]⟩ : ByteArray).size = 1 := rfl
  have hx := H.out.few.2.2
  have hm := H.out.few.1
  go_enter Tryd.func7, Tryd.ntmps7
  go_wp2_with fail
  refine (H.out.shift _).mono ?_
  rintro e w1 ⟨rfl, hb1⟩
  have HB1 := Lib.hid hb1
  clear hb1
  go_wp2_with fail
  refine (H.out.counts _).mono ?_
  rintro e w2 ⟨rfl, hb2⟩
  have HB2 := Lib.hid (HB1.out.trans (hb2.mono HB1.out.size))
  clear hb2 HB1
  go_wp2_with fail
  refine (H.out.countx _).mono ?_
  rintro e w3 ⟨rfl, hb3⟩
  have HB3 := Lib.hid (HB2.out.trans (hb3.mono HB2.out.size))
  clear hb3 HB2
  go_wp2_with fail
  refine (H.out.validx _).mono ?_
  rintro e w4 ⟨rfl, hb4⟩
  have HB4 := Lib.hid (HB3.out.trans (hb4.mono HB3.out.size))
  clear hb4 HB3
  go_wp2_with fail
  refine (H.out.valids _).mono ?_
  rintro e w5 ⟨rfl, hb5⟩
  have HB5 := Lib.hid (HB4.out.trans (hb5.mono HB4.out.size))
  clear hb5 HB4
  go_wp2_with fail
  refine (H.out.valids _).mono ?_
  rintro e w6 ⟨rfl, hb6⟩
  have HB6 := Lib.hid (HB5.out.trans (hb6.mono HB5.out.size))
  clear hb6 HB5
  go_wp2_with fail
  refine (awake_any _).mono ?_
  rintro e w7 ⟨rfl, hb7⟩
  have HB7 := Lib.hid (HB6.out.trans (hb7.mono HB6.out.size))
  clear hb7 HB6
  go_wp2_with fail
  go_ret
  exact ⟨rfl, HB7.out⟩
set_option maxHeartbeats 3200000 in
theorem back_false_hi (s x : ByteArray) (n : Int) (m : Nat) (L : List Pl.Bs) (w : World) (hs : s.size ≤ 1048576) (H : Hid (Parts s x n m false L)) (hn : 60 < n) (hn2 : ¬ n < 0) :
    Calls Tryd.prog 7 #[.string s, .int .i64 n] w fun e w' => e = .returned (.bool true) ∧ Below w.heap.size w w' := by
  have hone : (⟨#[120]⟩ : ByteArray).size = 1 := rfl
  have hx := H.out.few.2.2
  have hm := H.out.few.1
  go_enter Tryd.func7, Tryd.ntmps7
  go_wp2_with fail
  refine (H.out.shift _).mono ?_
  rintro e w1 ⟨rfl, hb1⟩
  have HB1 := Lib.hid hb1
  clear hb1
  go_wp2_with fail
  refine (H.out.counts _).mono ?_
  rintro e w2 ⟨rfl, hb2⟩
  have HB2 := Lib.hid (HB1.out.trans (hb2.mono HB1.out.size))
  clear hb2 HB1
  go_wp2_with fail
  refine (H.out.countx _).mono ?_
  rintro e w3 ⟨rfl, hb3⟩
  have HB3 := Lib.hid (HB2.out.trans (hb3.mono HB2.out.size))
  clear hb3 HB2
  go_wp2_with fail
  refine (H.out.validx _).mono ?_
  rintro e w4 ⟨rfl, hb4⟩
  have HB4 := Lib.hid (HB3.out.trans (hb4.mono HB3.out.size))
  clear hb4 HB3
  go_wp2_with fail
  refine (H.out.valids _).mono ?_
  rintro e w5 ⟨rfl, hb5⟩
  have HB5 := Lib.hid (HB4.out.trans (hb5.mono HB4.out.size))
  clear hb5 HB4
  go_wp2_with fail
  refine (H.out.valids _).mono ?_
  rintro e w6 ⟨rfl, hb6⟩
  have HB6 := Lib.hid (HB5.out.trans (hb6.mono HB5.out.size))
  clear hb6 HB5
  go_wp2_with fail
  refine (awake_any _).mono ?_
  rintro e w7 ⟨rfl, hb7⟩
  have HB7 := Lib.hid (HB6.out.trans (hb7.mono HB6.out.size))
  clear hb7 HB6
  go_wp2_with fail
  go_ret
  exact ⟨rfl, HB7.out⟩
set_option maxHeartbeats 3200000 in
theorem back_false_in (s x : ByteArray) (n : Int) (m : Nat) (L : List Pl.Bs) (w : World) (hs : s.size ≤ 1048576) (H : Hid (Parts s x n m false L)) (h0 : 0 ≤ n) (h6 : n ≤ 60) :
    Calls Tryd.prog 7 #[.string s, .int .i64 n] w fun e w' => e = .returned (.bool true) ∧ Below w.heap.size w w' := by
  have hone : (⟨#[120]⟩ : ByteArray).size = 1 := rfl
  have hx := H.out.few.2.2
  have hm := H.out.few.1
  have hb0 : ¬ n < 0 := by omega
  have hb6 : ¬ 60 < n := by omega
  go_enter Tryd.func7, Tryd.ntmps7
  go_wp2_with fail
  refine (H.out.shift _).mono ?_
  rintro e w1 ⟨rfl, hb1⟩
  have HB1 := Lib.hid hb1
  clear hb1
  go_wp2_with fail
  refine (H.out.counts _).mono ?_
  rintro e w2 ⟨rfl, hb2⟩
  have HB2 := Lib.hid (HB1.out.trans (hb2.mono HB1.out.size))
  clear hb2 HB1
  go_wp2_with fail
  refine (H.out.countx _).mono ?_
  rintro e w3 ⟨rfl, hb3⟩
  have HB3 := Lib.hid (HB2.out.trans (hb3.mono HB2.out.size))
  clear hb3 HB2
  go_wp2_with fail
  refine (H.out.validx _).mono ?_
  rintro e w4 ⟨rfl, hb4⟩
  have HB4 := Lib.hid (HB3.out.trans (hb4.mono HB3.out.size))
  clear hb4 HB3
  go_wp2_with fail
  refine (H.out.valids _).mono ?_
  rintro e w5 ⟨rfl, hb5⟩
  have HB5 := Lib.hid (HB4.out.trans (hb5.mono HB4.out.size))
  clear hb5 HB4
  go_wp2_with fail
  refine (H.out.valids _).mono ?_
  rintro e w6 ⟨rfl, hb6⟩
  have HB6 := Lib.hid (HB5.out.trans (hb6.mono HB5.out.size))
  clear hb6 HB5
  go_wp2_with fail
  refine (H.out.back h0 h6 _).mono ?_
  rintro e w7 ⟨rfl, hb7⟩
  have HB7 := Lib.hid (HB6.out.trans (hb7.mono HB6.out.size))
  clear hb7 HB6
  go_wp2_with fail
  refine (awake_any _).mono ?_
  rintro e w8 ⟨rfl, hb8⟩
  have HB8 := Lib.hid (HB7.out.trans (hb8.mono HB7.out.size))
  clear hb8 HB7
  go_wp2_with fail
  go_ret
  exact ⟨rfl, HB8.out⟩

theorem lawBack (s : ByteArray) (n : Int) (w : World) (hs : s.size ≤ 1048576) :
    Calls Tryd.prog 7 #[.string s, .int .i64 n] w fun e w' => e = .returned (.bool true) ∧ Below w.heap.size w w' := by
  obtain ⟨x, m, b, L, h⟩ := parts s n hs
  have H := Lib.hid h
  by_cases h0 : n < 0
  · cases b
    · exact back_false_lo s x n m L w hs H h0
    · exact back_true_lo s x n m L w hs H h0
  · by_cases h6 : 60 < n
    · cases b
      · exact back_false_hi s x n m L w hs H h6 h0
      · exact back_true_hi s x n m L w hs H h6 h0
    · cases b
      · exact back_false_in s x n m L w hs H (by omega) (by omega)
      · exact back_true_in s x n m L w hs H (by omega) (by omega)
end Go.Proofs.YtceoleddijnieaaDoor
