/- The walk of the reference's node. -/
import Derived.Test.YtiaajpdcacdngaaGreatDoorBRShape
namespace Go.Proofs.YtiaajpdcacdngaaGreatDoor
open Go.RowKit
set_option linter.unusedVariables false
set_option linter.unusedSimpArgs false

theorem name_eq (k : Int) (s : ByteArray) (hk : 1 ≤ k ∧ k ≤ 26) : Pl.nameOK k s = if k = 17 then Pl.isI s else if namedB k s = true then Pl.nm s else true := by
  unfold Pl.nameOK namedB
  by_cases h17 : k = 17
  · subst h17; rfl
  rw [if_neg h17]
  by_cases h8 : k = 8
  · subst h8
    rw [show Pl.txt 8 = 2 from rfl]
    by_cases hz : s.size = 0 <;> simp [hz]
  rw [if_neg h8]
  by_cases h2 : k = 2 ∨ k = 4 ∨ k = 5 ∨ k = 7 ∨ k = 9 ∨ k = 10 ∨ k = 11 ∨ k = 17 ∨ k = 19 ∨ k = 20 ∨ k = 21 ∨ k = 22
  · have h1 : Pl.txt k = 1 := by unfold Pl.txt; omega
    rw [h1, if_neg (by decide), if_pos rfl, if_pos (decide_eq_true h2)]
  · have h1 : Pl.txt k ≠ 1 := by unfold Pl.txt; omega
    have h3 : Pl.txt k ≠ 3 := by unfold Pl.txt; omega
    have h4 : Pl.txt k ≠ 2 := by unfold Pl.txt; omega
    rw [if_neg h4, if_neg h1, if_neg h3, decide_eq_false h2]
    rfl
theorem rown_is (k : Int) (s : ByteArray) (o : Int) (n m gc dc : Nat) (ga da : Option Addr) (w : World) (h : Pl.own k s m = o) (hm : m ≤ maxLen) :
    Calls Tryz.prog 25 #[.agg #[.int .i64 k, .string s, .slice ga n gc, .slice da m dc]] w fun e w' => e = .returned (.int .i64 o) ∧ Below w.heap.size w w' := h ▸ rown_any k s n m gc dc ga da w hm
/-- What shape answers, behind any world. -/
abbrev ShapeIs (w : World) (k : Int) (s : ByteArray) (ga : Option Addr) (n gc : Nat) (da : Option Addr) (m dc : Nat) (b : Bool) : Prop :=
  ∀ w2, Below w.heap.size w w2 → Calls Tryz.prog 80 #[.agg #[.int .i64 k, .string s, .slice ga n gc, .slice da m dc]] w2 fun e w' => e = .returned (.bool b) ∧ Below w2.heap.size w2 w'
set_option maxHeartbeats 1600000 in
theorem rnode_shape (k : Int) (s : ByteArray) (n m gc dc : Nat) (ga da : Option Addr) (w : World) (HS : Hid (ShapeIs w k s ga n gc da m dc false)) :
    Calls Tryz.prog 64 #[.agg #[.int .i64 k, .string s, .slice ga n gc, .slice da m dc]] w fun e w' => e = .returned (.int .i64 7) ∧ Below w.heap.size w w' := by
  have B0 := Lib.hid (box_below w (.cells #[.int .i64 k, .string s, .slice ga n gc, .slice da m dc] 25))
  go_enter Tryz.func64, Tryz.ntmps64
  go_wp2_with (go_at_call 80; refine (HS.out _ B0.out).mono ?_; rintro e w1 ⟨rfl, hb1⟩; have B1 := Lib.hid (B0.out.trans (hb1.mono B0.out.size)); clear hb1)
  go_ret
  exact ⟨rfl, B1.out⟩
set_option maxHeartbeats 1600000 in
theorem rnode_int_bad (s : ByteArray) (n m gc dc : Nat) (ga da : Option Addr) (w : World) (HS : Hid (ShapeIs w 17 s ga n gc da m dc true)) (HZ : Hid (s.size ≤ maxLen)) (HI : Hid (Pl.isI s = false)) :
    Calls Tryz.prog 64 #[.agg #[.int .i64 17, .string s, .slice ga n gc, .slice da m dc]] w fun e w' => e = .returned (.int .i64 4) ∧ Below w.heap.size w w' := by
  have A0 := Lib.hid (at4_new w 17 s (.slice ga n gc) (.slice da m dc))
  have B0 := Lib.hid (box_below w (.cells #[.int .i64 17, .string s, .slice ga n gc, .slice da m dc] 25))
  go_enter Tryz.func64, Tryz.ntmps64
  go_wp2_with (first
    | (go_at_call 80; refine (HS.out _ B0.out).mono ?_; rintro e w1 ⟨rfl, hb1⟩; have B1 := Lib.hid (B0.out.trans (hb1.mono B0.out.size)); have X1 := Lib.hid (at4_below A0.out hb1); obtain ⟨c0, c1, c2, c3⟩ := X1.out; clear hb1)
    | (go_at_call 81; refine (rint_is s _ HI.out _ HZ.out).mono ?_; rintro e w2 ⟨rfl, rfl⟩))
  go_ret
  exact ⟨rfl, B1.out⟩
set_option maxHeartbeats 1600000 in
theorem rnode_named_bad (k : Int) (h17 : ¬ k = 17) (s : ByteArray) (n m gc dc : Nat) (ga da : Option Addr) (w : World) (HS : Hid (ShapeIs w k s ga n gc da m dc true)) (HZ : Hid (s.size ≤ maxLen)) (HN : Hid (namedB k s = true)) (HV : Hid (Pl.nm s = false)) :
    Calls Tryz.prog 64 #[.agg #[.int .i64 k, .string s, .slice ga n gc, .slice da m dc]] w fun e w' => e = .returned (.int .i64 4) ∧ Below w.heap.size w w' := by
  have b17 : (k == 17) = false := beq_eq_false_iff_ne.2 h17
  have c17 : (k != 17) = true := by simpa using h17
  clear h17
  have A0 := Lib.hid (at4_new w k s (.slice ga n gc) (.slice da m dc))
  have B0 := Lib.hid (box_below w (.cells #[.int .i64 k, .string s, .slice ga n gc, .slice da m dc] 25))
  go_enter Tryz.func64, Tryz.ntmps64
  go_wp2_with (first
    | (go_at_call 80; refine (HS.out _ B0.out).mono ?_; rintro e w1 ⟨rfl, hb1⟩; have B1 := Lib.hid (B0.out.trans (hb1.mono B0.out.size)); have X1 := Lib.hid (at4_below A0.out hb1); obtain ⟨c0, c1, c2, c3⟩ := X1.out; clear hb1)
    | (go_at_call 82; refine (named_is k s _ HN.out _ _ _ _ _ _ _).mono ?_; rintro e w2 ⟨rfl, hb2⟩; have B2 := Lib.hid (B1.out.trans (hb2.mono B1.out.size)); have X2 := Lib.hid (at4_below X1.out hb2); obtain ⟨e0, e1, e2, e3⟩ := X2.out; clear hb2)
    | (go_at_call 83; refine (rvalid_is s _ HV.out _ HZ.out).mono ?_; rintro e w3 ⟨rfl, rfl⟩))
  go_ret
  exact ⟨rfl, B2.out⟩
set_option maxHeartbeats 1600000 in
theorem rnode_int_none (s : ByteArray) (n m gc dc : Nat) (ga da : Option Addr) (w : World) (HS : Hid (ShapeIs w 17 s ga n gc da m dc true)) (HZ : Hid (s.size ≤ maxLen)) (HI : Hid (Pl.isI s = true)) (hn : n = 0) :
    Calls Tryz.prog 64 #[.agg #[.int .i64 17, .string s, .slice ga n gc, .slice da m dc]] w fun e w' => e = .returned (.int .i64 0) ∧ Below w.heap.size w w' := by
  subst hn
  have A0 := Lib.hid (at4_new w 17 s (.slice ga 0 gc) (.slice da m dc))
  have B0 := Lib.hid (box_below w (.cells #[.int .i64 17, .string s, .slice ga 0 gc, .slice da m dc] 25))
  go_enter Tryz.func64, Tryz.ntmps64
  go_wp2_with (first
    | (go_at_call 80; refine (HS.out _ B0.out).mono ?_; rintro e w1 ⟨rfl, hb1⟩; have B1 := Lib.hid (B0.out.trans (hb1.mono B0.out.size)); have X1 := Lib.hid (at4_below A0.out hb1); obtain ⟨c0, c1, c2, c3⟩ := X1.out; clear hb1)
    | (go_at_call 81; refine (rint_is s _ HI.out _ HZ.out).mono ?_; rintro e w2 ⟨rfl, rfl⟩))
  have k2 : ∀ z : Later w1, z.u.cell? ⟨w.heap.size, 2, none⟩ = some (.slice ga 0 gc) := fun z => (at4_later X1.out z).2.2.1
  refine region_later (by kernel_rfl) (by kernel_rfl) ?_
  repeat (go_big_quiet_step (fail))
  refine wpQuiet_nil ?_
  intro _ hw'
  obtain ⟨n1, rfl⟩ := hw'
  have q2 := k2 n1
  clear k2
  have BN := Lib.hid (B1.out.trans (n1.h.mono B1.out.size))
  go_wp2_with fail
  refine wp_loop_rounds 1 ?_
  rw [rounds_succ]
  go_wp2_with fail
  go_ret
  exact ⟨rfl, BN.out⟩
set_option maxHeartbeats 1600000 in
theorem rnode_int_some (s : ByteArray) (n m gc dc : Nat) (ga da : Option Addr) (w : World) (HS : Hid (ShapeIs w 17 s ga n gc da m dc true)) (HZ : Hid (s.size ≤ maxLen)) (HI : Hid (Pl.isI s = true)) (g : List ByteArray) (hn : n = g.length) (h0 : 0 < n) (hm : m ≤ maxLen) (hg : Strs (fun b => b < w.heap.size) w ga g) (b : Bool) (hb : b = (decide ((n : Int) = Pl.own 17 s m) && g.all Pl.triv)) :
    Calls Tryz.prog 64 #[.agg #[.int .i64 17, .string s, .slice ga n gc, .slice da m dc]] w fun e w' => e = .returned (.int .i64 (if b = false then 7 else 0)) ∧ Below w.heap.size w w' := by
  have HMX := Lib.hid hm
  have hgl := hg.1
  rw [← hn] at hgl
  unfold maxLen at hgl hm
  have HG := Lib.hid hg
  have HN0 := Lib.hid hn
  obtain ⟨o, ho⟩ : ∃ o, o = Pl.own 17 s m := ⟨_, rfl⟩
  rw [← ho] at hb
  have HO := Lib.hid ho
  have HB := Lib.hid hb
  obtain ⟨v, hv⟩ : ∃ v : Int, v = if b = false then 7 else 0 := ⟨_, rfl⟩
  rw [← hv]
  have HVV := Lib.hid hv
  have z0 : decide ((0 : Int) < n) = true := by simp; omega
  have z1 : decide (0 < n) = true := by simp; omega
  clear hg hn ho hb hv
  have A0 := Lib.hid (at4_new w 17 s (.slice ga n gc) (.slice da m dc))
  have B0 := Lib.hid (box_below w (.cells #[.int .i64 17, .string s, .slice ga n gc, .slice da m dc] 25))
  go_enter Tryz.func64, Tryz.ntmps64
  go_wp2_with (first
    | (go_at_call 80; refine (HS.out _ B0.out).mono ?_; rintro e w1 ⟨rfl, hb1⟩; have B1 := Lib.hid (B0.out.trans (hb1.mono B0.out.size)); have X1 := Lib.hid (at4_below A0.out hb1); obtain ⟨c0, c1, c2, c3⟩ := X1.out; clear hb1)
    | (go_at_call 81; refine (rint_is s _ HI.out _ HZ.out).mono ?_; rintro e w2 ⟨rfl, rfl⟩))
  have k2 : ∀ z : Later w1, z.u.cell? ⟨w.heap.size, 2, none⟩ = some (.slice ga n gc) := fun z => (at4_later X1.out z).2.2.1
  have CALL : ∀ z : Later w1, Calls Tryz.prog 25 #[.agg #[.int .i64 17, .string s, .slice ga n gc, .slice da m dc]] z.u fun e w'' => e = .returned (.int .i64 o) ∧ ∃ y : Later w1, w'' = y.u :=
    fun z => (rown_is 17 s o n m gc dc ga da z.u HO.out.symm HMX.out).mono fun e w'' ⟨he, hw⟩ => ⟨he, ⟨w'', z.h.trans (hw.mono z.h.size)⟩, rfl⟩
  refine region_later (by kernel_rfl) (by kernel_rfl) ?_
  iterate 8 (go_big_quiet_step (fail))
  refine quiet_load (by rfl) 25 _ (by rfl) (.pointer (some ⟨w.heap.size, 0, none⟩)) _ (by rfl) (fun x hx => by obtain ⟨n, rfl⟩ := hx; exact (at4_later X1.out n).load) ?_
  simp only [Act.put, List.setIfInBounds_toArray, List.set_cons_succ, List.set_cons_zero]
  go_big_quiet_step (exact CALL _)
  repeat (go_big_quiet_step (fail))
  refine wpQuiet_nil ?_
  intro _ hw'
  obtain ⟨n1, rfl⟩ := hw'
  have BN := Lib.hid (B1.out.trans (n1.h.mono B1.out.size))
  have XN := Lib.hid (at4_later X1.out n1)
  clear k2 CALL
  obtain ⟨cb, hcb⟩ : ∃ cb : Bool, ((n : Int) != o) = cb := ⟨_, rfl⟩
  rw [hcb]
  cases cb
  case true =>
    have hno : ¬ (n : Int) = o := by simpa using hcb
    clear hcb
    have HNo : Hid (v = 7) := Lib.hid (by rw [HVV.out, HB.out, decide_eq_false hno, Bool.false_and, if_pos rfl])
    clear hno
    go_wp2_with fail
    go_ret
    exact ⟨ret_int HNo.out.symm, BN.out⟩
  have hno : (n : Int) = o := by simpa using hcb
  clear hcb
  have HB4 : Hid (b = g.all Pl.triv) := Lib.hid (by rw [HB.out, decide_eq_true hno, Bool.true_and])
  clear hno
  go_wp2_with fail
  go_loopw [3] (fun i wr => ∃ j : Nat, j ≤ n ∧ i = .int .i64 j ∧ (g.drop j).all Pl.triv = b ∧ Hid (Below w.heap.size w wr) ∧ Hid (At4 wr w.heap.size 0 17 s (.slice ga n gc) (.slice da m dc))) (fun i _ => n - (intOf i).toNat)
  case atStart => exact ⟨0, Nat.zero_le _, rfl, HB4.out.symm, BN, XN⟩
  case round =>
    obtain ⟨j, hj, rfl, hall, HBL, HX⟩ := hrel
    have HA := Lib.hid hall
    clear hall
    have c2 := HX.out.2.2.1
    by_cases hlt : j < n
    · have hjk : j < g.length := by rw [← HN0.out]; exact hlt
      have HD := Lib.hid (all_drop g j hjk)
      obtain ⟨hz1, b1, o1, hga, hb1, hc1⟩ := strs_at HG.out j hjk
      have hc2 : wr.cell? ⟨b1, o1 + j, none⟩ = some (.string g[j]) := (HBL.out.cell (p := ⟨_, _, none⟩) hb1).trans hc1
      have HZ1 := Lib.hid hz1
      generalize g[j] = x at *
      subst hga
      obtain ⟨t, ht⟩ : ∃ t, t = Pl.triv x := ⟨_, rfl⟩
      rw [← ht] at HD
      have HTV := Lib.hid ht
      clear ht hc1 hz1
      cases t
      · have HNo : Hid (v = 7) := Lib.hid (by rw [HVV.out, ← HA.out, HD.out, Bool.false_and, if_pos rfl])
        go_wp2_with (go_at_call 84; refine (rtvalid_is _ _ HTV.out.symm _ HZ1.out).mono ?_; rintro e w' ⟨rfl, rfl⟩)
        go_ret
        exact ⟨ret_int HNo.out.symm, HBL.out⟩
      · have HYes : Hid ((g.drop (j + 1)).all Pl.triv = b) := Lib.hid (by rw [← HA.out, HD.out, Bool.true_and])
        go_wp2_with (go_at_call 84; refine (rtvalid_is _ _ HTV.out.symm _ HZ1.out).mono ?_; rintro e w' ⟨rfl, rfl⟩)
        exact ⟨⟨j + 1, by omega, by go_num, HYes.out, HBL, HX⟩, by simp [intOf]; omega⟩
    · obtain rfl : j = n := by omega
      have HYes : Hid (v = 0) := Lib.hid (by
        have e := HA.out
        rw [List.drop_of_length_le (by rw [HN0.out]; exact Nat.le_refl _)] at e
        rw [HVV.out, ← e]; rfl)
      go_wp2_with fail
      go_ret
      exact ⟨ret_int HYes.out.symm, HBL.out⟩
set_option maxHeartbeats 1600000 in
theorem rnode_named_none (k : Int) (h17 : ¬ k = 17) (s : ByteArray) (n m gc dc : Nat) (ga da : Option Addr) (w : World) (HS : Hid (ShapeIs w k s ga n gc da m dc true)) (HZ : Hid (s.size ≤ maxLen)) (HN : Hid (namedB k s = true)) (HV : Hid (Pl.nm s = true)) (hn : n = 0) :
    Calls Tryz.prog 64 #[.agg #[.int .i64 k, .string s, .slice ga n gc, .slice da m dc]] w fun e w' => e = .returned (.int .i64 0) ∧ Below w.heap.size w w' := by
  have b17 : (k == 17) = false := beq_eq_false_iff_ne.2 h17
  have c17 : (k != 17) = true := by simpa using h17
  clear h17
  subst hn
  have A0 := Lib.hid (at4_new w k s (.slice ga 0 gc) (.slice da m dc))
  have B0 := Lib.hid (box_below w (.cells #[.int .i64 k, .string s, .slice ga 0 gc, .slice da m dc] 25))
  go_enter Tryz.func64, Tryz.ntmps64
  go_wp2_with (first
    | (go_at_call 80; refine (HS.out _ B0.out).mono ?_; rintro e w1 ⟨rfl, hb1⟩; have B1 := Lib.hid (B0.out.trans (hb1.mono B0.out.size)); have X1 := Lib.hid (at4_below A0.out hb1); obtain ⟨c0, c1, c2, c3⟩ := X1.out; clear hb1)
    | (go_at_call 82; refine (named_is k s _ HN.out _ _ _ _ _ _ _).mono ?_; rintro e w2 ⟨rfl, hb2⟩; have B2 := Lib.hid (B1.out.trans (hb2.mono B1.out.size)); have X2 := Lib.hid (at4_below X1.out hb2); obtain ⟨e0, e1, e2, e3⟩ := X2.out; clear hb2)
    | (go_at_call 83; refine (rvalid_is s _ HV.out _ HZ.out).mono ?_; rintro e w3 ⟨rfl, rfl⟩))
  have k2 : ∀ z : Later w2, z.u.cell? ⟨w.heap.size, 2, none⟩ = some (.slice ga 0 gc) := fun z => (at4_later X2.out z).2.2.1
  refine region_later (by kernel_rfl) (by kernel_rfl) ?_
  repeat (go_big_quiet_step (fail))
  refine wpQuiet_nil ?_
  intro _ hw'
  obtain ⟨n1, rfl⟩ := hw'
  have q2 := k2 n1
  clear k2
  have BN := Lib.hid (B2.out.trans (n1.h.mono B2.out.size))
  go_wp2_with fail
  refine wp_loop_rounds 1 ?_
  rw [rounds_succ]
  go_wp2_with fail
  go_ret
  exact ⟨rfl, BN.out⟩
set_option maxHeartbeats 1600000 in
theorem rnode_named_some (k : Int) (h17 : ¬ k = 17) (s : ByteArray) (n m gc dc : Nat) (ga da : Option Addr) (w : World) (HS : Hid (ShapeIs w k s ga n gc da m dc true)) (HZ : Hid (s.size ≤ maxLen)) (HN : Hid (namedB k s = true)) (HV : Hid (Pl.nm s = true)) (g : List ByteArray) (hn : n = g.length) (h0 : 0 < n) (hm : m ≤ maxLen) (hg : Strs (fun b => b < w.heap.size) w ga g) (b : Bool) (hb : b = (decide ((n : Int) = Pl.own k s m) && g.all Pl.triv)) :
    Calls Tryz.prog 64 #[.agg #[.int .i64 k, .string s, .slice ga n gc, .slice da m dc]] w fun e w' => e = .returned (.int .i64 (if b = false then 7 else 0)) ∧ Below w.heap.size w w' := by
  have b17 : (k == 17) = false := beq_eq_false_iff_ne.2 h17
  have c17 : (k != 17) = true := by simpa using h17
  clear h17
  have HMX := Lib.hid hm
  have hgl := hg.1
  rw [← hn] at hgl
  unfold maxLen at hgl hm
  have HG := Lib.hid hg
  have HN0 := Lib.hid hn
  obtain ⟨o, ho⟩ : ∃ o, o = Pl.own k s m := ⟨_, rfl⟩
  rw [← ho] at hb
  have HO := Lib.hid ho
  have HB := Lib.hid hb
  obtain ⟨v, hv⟩ : ∃ v : Int, v = if b = false then 7 else 0 := ⟨_, rfl⟩
  rw [← hv]
  have HVV := Lib.hid hv
  have z0 : decide ((0 : Int) < n) = true := by simp; omega
  have z1 : decide (0 < n) = true := by simp; omega
  clear hg hn ho hb hv
  have A0 := Lib.hid (at4_new w k s (.slice ga n gc) (.slice da m dc))
  have B0 := Lib.hid (box_below w (.cells #[.int .i64 k, .string s, .slice ga n gc, .slice da m dc] 25))
  go_enter Tryz.func64, Tryz.ntmps64
  go_wp2_with (first
    | (go_at_call 80; refine (HS.out _ B0.out).mono ?_; rintro e w1 ⟨rfl, hb1⟩; have B1 := Lib.hid (B0.out.trans (hb1.mono B0.out.size)); have X1 := Lib.hid (at4_below A0.out hb1); obtain ⟨c0, c1, c2, c3⟩ := X1.out; clear hb1)
    | (go_at_call 82; refine (named_is k s _ HN.out _ _ _ _ _ _ _).mono ?_; rintro e w2 ⟨rfl, hb2⟩; have B2 := Lib.hid (B1.out.trans (hb2.mono B1.out.size)); have X2 := Lib.hid (at4_below X1.out hb2); obtain ⟨e0, e1, e2, e3⟩ := X2.out; clear hb2)
    | (go_at_call 83; refine (rvalid_is s _ HV.out _ HZ.out).mono ?_; rintro e w3 ⟨rfl, rfl⟩))
  have k2 : ∀ z : Later w2, z.u.cell? ⟨w.heap.size, 2, none⟩ = some (.slice ga n gc) := fun z => (at4_later X2.out z).2.2.1
  have CALL : ∀ z : Later w2, Calls Tryz.prog 25 #[.agg #[.int .i64 k, .string s, .slice ga n gc, .slice da m dc]] z.u fun e w'' => e = .returned (.int .i64 o) ∧ ∃ y : Later w2, w'' = y.u :=
    fun z => (rown_is k s o n m gc dc ga da z.u HO.out.symm HMX.out).mono fun e w'' ⟨he, hw⟩ => ⟨he, ⟨w'', z.h.trans (hw.mono z.h.size)⟩, rfl⟩
  refine region_later (by kernel_rfl) (by kernel_rfl) ?_
  iterate 8 (go_big_quiet_step (fail))
  refine quiet_load (by rfl) 25 _ (by rfl) (.pointer (some ⟨w.heap.size, 0, none⟩)) _ (by rfl) (fun x hx => by obtain ⟨n, rfl⟩ := hx; exact (at4_later X2.out n).load) ?_
  simp only [Act.put, List.setIfInBounds_toArray, List.set_cons_succ, List.set_cons_zero]
  go_big_quiet_step (exact CALL _)
  repeat (go_big_quiet_step (fail))
  refine wpQuiet_nil ?_
  intro _ hw'
  obtain ⟨n1, rfl⟩ := hw'
  have BN := Lib.hid (B2.out.trans (n1.h.mono B2.out.size))
  have XN := Lib.hid (at4_later X2.out n1)
  clear k2 CALL
  obtain ⟨cb, hcb⟩ : ∃ cb : Bool, ((n : Int) != o) = cb := ⟨_, rfl⟩
  rw [hcb]
  cases cb
  case true =>
    have hno : ¬ (n : Int) = o := by simpa using hcb
    clear hcb
    have HNo : Hid (v = 7) := Lib.hid (by rw [HVV.out, HB.out, decide_eq_false hno, Bool.false_and, if_pos rfl])
    clear hno
    go_wp2_with fail
    go_ret
    exact ⟨ret_int HNo.out.symm, BN.out⟩
  have hno : (n : Int) = o := by simpa using hcb
  clear hcb
  have HB4 : Hid (b = g.all Pl.triv) := Lib.hid (by rw [HB.out, decide_eq_true hno, Bool.true_and])
  clear hno
  go_wp2_with fail
  go_loopw [3] (fun i wr => ∃ j : Nat, j ≤ n ∧ i = .int .i64 j ∧ (g.drop j).all Pl.triv = b ∧ Hid (Below w.heap.size w wr) ∧ Hid (At4 wr w.heap.size 0 k s (.slice ga n gc) (.slice da m dc))) (fun i _ => n - (intOf i).toNat)
  case atStart => exact ⟨0, Nat.zero_le _, rfl, HB4.out.symm, BN, XN⟩
  case round =>
    obtain ⟨j, hj, rfl, hall, HBL, HX⟩ := hrel
    have HA := Lib.hid hall
    clear hall
    have c2 := HX.out.2.2.1
    by_cases hlt : j < n
    · have hjk : j < g.length := by rw [← HN0.out]; exact hlt
      have HD := Lib.hid (all_drop g j hjk)
      obtain ⟨hz1, b1, o1, hga, hb1, hc1⟩ := strs_at HG.out j hjk
      have hc2 : wr.cell? ⟨b1, o1 + j, none⟩ = some (.string g[j]) := (HBL.out.cell (p := ⟨_, _, none⟩) hb1).trans hc1
      have HZ1 := Lib.hid hz1
      generalize g[j] = x at *
      subst hga
      obtain ⟨t, ht⟩ : ∃ t, t = Pl.triv x := ⟨_, rfl⟩
      rw [← ht] at HD
      have HTV := Lib.hid ht
      clear ht hc1 hz1
      cases t
      · have HNo : Hid (v = 7) := Lib.hid (by rw [HVV.out, ← HA.out, HD.out, Bool.false_and, if_pos rfl])
        go_wp2_with (go_at_call 84; refine (rtvalid_is _ _ HTV.out.symm _ HZ1.out).mono ?_; rintro e w' ⟨rfl, rfl⟩)
        go_ret
        exact ⟨ret_int HNo.out.symm, HBL.out⟩
      · have HYes : Hid ((g.drop (j + 1)).all Pl.triv = b) := Lib.hid (by rw [← HA.out, HD.out, Bool.true_and])
        go_wp2_with (go_at_call 84; refine (rtvalid_is _ _ HTV.out.symm _ HZ1.out).mono ?_; rintro e w' ⟨rfl, rfl⟩)
        exact ⟨⟨j + 1, by omega, by go_num, HYes.out, HBL, HX⟩, by simp [intOf]; omega⟩
    · obtain rfl : j = n := by omega
      have HYes : Hid (v = 0) := Lib.hid (by
        have e := HA.out
        rw [List.drop_of_length_le (by rw [HN0.out]; exact Nat.le_refl _)] at e
        rw [HVV.out, ← e]; rfl)
      go_wp2_with fail
      go_ret
      exact ⟨ret_int HYes.out.symm, HBL.out⟩
set_option maxHeartbeats 1600000 in
theorem rnode_plain_none (k : Int) (h17 : ¬ k = 17) (s : ByteArray) (n m gc dc : Nat) (ga da : Option Addr) (w : World) (HS : Hid (ShapeIs w k s ga n gc da m dc true)) (HZ : Hid (s.size ≤ maxLen)) (HN : Hid (namedB k s = false)) (hn : n = 0) :
    Calls Tryz.prog 64 #[.agg #[.int .i64 k, .string s, .slice ga n gc, .slice da m dc]] w fun e w' => e = .returned (.int .i64 0) ∧ Below w.heap.size w w' := by
  have b17 : (k == 17) = false := beq_eq_false_iff_ne.2 h17
  have c17 : (k != 17) = true := by simpa using h17
  clear h17
  subst hn
  have A0 := Lib.hid (at4_new w k s (.slice ga 0 gc) (.slice da m dc))
  have B0 := Lib.hid (box_below w (.cells #[.int .i64 k, .string s, .slice ga 0 gc, .slice da m dc] 25))
  go_enter Tryz.func64, Tryz.ntmps64
  go_wp2_with (first
    | (go_at_call 80; refine (HS.out _ B0.out).mono ?_; rintro e w1 ⟨rfl, hb1⟩; have B1 := Lib.hid (B0.out.trans (hb1.mono B0.out.size)); have X1 := Lib.hid (at4_below A0.out hb1); obtain ⟨c0, c1, c2, c3⟩ := X1.out; clear hb1)
    | (go_at_call 82; refine (named_is k s _ HN.out _ _ _ _ _ _ _).mono ?_; rintro e w2 ⟨rfl, hb2⟩; have B2 := Lib.hid (B1.out.trans (hb2.mono B1.out.size)); have X2 := Lib.hid (at4_below X1.out hb2); obtain ⟨e0, e1, e2, e3⟩ := X2.out; clear hb2))
  have k2 : ∀ z : Later w2, z.u.cell? ⟨w.heap.size, 2, none⟩ = some (.slice ga 0 gc) := fun z => (at4_later X2.out z).2.2.1
  refine region_later (by kernel_rfl) (by kernel_rfl) ?_
  repeat (go_big_quiet_step (fail))
  refine wpQuiet_nil ?_
  intro _ hw'
  obtain ⟨n1, rfl⟩ := hw'
  have q2 := k2 n1
  clear k2
  have BN := Lib.hid (B2.out.trans (n1.h.mono B2.out.size))
  go_wp2_with fail
  refine wp_loop_rounds 1 ?_
  rw [rounds_succ]
  go_wp2_with fail
  go_ret
  exact ⟨rfl, BN.out⟩
set_option maxHeartbeats 1600000 in
theorem rnode_plain_some (k : Int) (h17 : ¬ k = 17) (s : ByteArray) (n m gc dc : Nat) (ga da : Option Addr) (w : World) (HS : Hid (ShapeIs w k s ga n gc da m dc true)) (HZ : Hid (s.size ≤ maxLen)) (HN : Hid (namedB k s = false)) (g : List ByteArray) (hn : n = g.length) (h0 : 0 < n) (hm : m ≤ maxLen) (hg : Strs (fun b => b < w.heap.size) w ga g) (b : Bool) (hb : b = (decide ((n : Int) = Pl.own k s m) && g.all Pl.triv)) :
    Calls Tryz.prog 64 #[.agg #[.int .i64 k, .string s, .slice ga n gc, .slice da m dc]] w fun e w' => e = .returned (.int .i64 (if b = false then 7 else 0)) ∧ Below w.heap.size w w' := by
  have b17 : (k == 17) = false := beq_eq_false_iff_ne.2 h17
  have c17 : (k != 17) = true := by simpa using h17
  clear h17
  have HMX := Lib.hid hm
  have hgl := hg.1
  rw [← hn] at hgl
  unfold maxLen at hgl hm
  have HG := Lib.hid hg
  have HN0 := Lib.hid hn
  obtain ⟨o, ho⟩ : ∃ o, o = Pl.own k s m := ⟨_, rfl⟩
  rw [← ho] at hb
  have HO := Lib.hid ho
  have HB := Lib.hid hb
  obtain ⟨v, hv⟩ : ∃ v : Int, v = if b = false then 7 else 0 := ⟨_, rfl⟩
  rw [← hv]
  have HVV := Lib.hid hv
  have z0 : decide ((0 : Int) < n) = true := by simp; omega
  have z1 : decide (0 < n) = true := by simp; omega
  clear hg hn ho hb hv
  have A0 := Lib.hid (at4_new w k s (.slice ga n gc) (.slice da m dc))
  have B0 := Lib.hid (box_below w (.cells #[.int .i64 k, .string s, .slice ga n gc, .slice da m dc] 25))
  go_enter Tryz.func64, Tryz.ntmps64
  go_wp2_with (first
    | (go_at_call 80; refine (HS.out _ B0.out).mono ?_; rintro e w1 ⟨rfl, hb1⟩; have B1 := Lib.hid (B0.out.trans (hb1.mono B0.out.size)); have X1 := Lib.hid (at4_below A0.out hb1); obtain ⟨c0, c1, c2, c3⟩ := X1.out; clear hb1)
    | (go_at_call 82; refine (named_is k s _ HN.out _ _ _ _ _ _ _).mono ?_; rintro e w2 ⟨rfl, hb2⟩; have B2 := Lib.hid (B1.out.trans (hb2.mono B1.out.size)); have X2 := Lib.hid (at4_below X1.out hb2); obtain ⟨e0, e1, e2, e3⟩ := X2.out; clear hb2))
  have k2 : ∀ z : Later w2, z.u.cell? ⟨w.heap.size, 2, none⟩ = some (.slice ga n gc) := fun z => (at4_later X2.out z).2.2.1
  have CALL : ∀ z : Later w2, Calls Tryz.prog 25 #[.agg #[.int .i64 k, .string s, .slice ga n gc, .slice da m dc]] z.u fun e w'' => e = .returned (.int .i64 o) ∧ ∃ y : Later w2, w'' = y.u :=
    fun z => (rown_is k s o n m gc dc ga da z.u HO.out.symm HMX.out).mono fun e w'' ⟨he, hw⟩ => ⟨he, ⟨w'', z.h.trans (hw.mono z.h.size)⟩, rfl⟩
  refine region_later (by kernel_rfl) (by kernel_rfl) ?_
  iterate 8 (go_big_quiet_step (fail))
  refine quiet_load (by rfl) 25 _ (by rfl) (.pointer (some ⟨w.heap.size, 0, none⟩)) _ (by rfl) (fun x hx => by obtain ⟨n, rfl⟩ := hx; exact (at4_later X2.out n).load) ?_
  simp only [Act.put, List.setIfInBounds_toArray, List.set_cons_succ, List.set_cons_zero]
  go_big_quiet_step (exact CALL _)
  repeat (go_big_quiet_step (fail))
  refine wpQuiet_nil ?_
  intro _ hw'
  obtain ⟨n1, rfl⟩ := hw'
  have BN := Lib.hid (B2.out.trans (n1.h.mono B2.out.size))
  have XN := Lib.hid (at4_later X2.out n1)
  clear k2 CALL
  obtain ⟨cb, hcb⟩ : ∃ cb : Bool, ((n : Int) != o) = cb := ⟨_, rfl⟩
  rw [hcb]
  cases cb
  case true =>
    have hno : ¬ (n : Int) = o := by simpa using hcb
    clear hcb
    have HNo : Hid (v = 7) := Lib.hid (by rw [HVV.out, HB.out, decide_eq_false hno, Bool.false_and, if_pos rfl])
    clear hno
    go_wp2_with fail
    go_ret
    exact ⟨ret_int HNo.out.symm, BN.out⟩
  have hno : (n : Int) = o := by simpa using hcb
  clear hcb
  have HB4 : Hid (b = g.all Pl.triv) := Lib.hid (by rw [HB.out, decide_eq_true hno, Bool.true_and])
  clear hno
  go_wp2_with fail
  go_loopw [3] (fun i wr => ∃ j : Nat, j ≤ n ∧ i = .int .i64 j ∧ (g.drop j).all Pl.triv = b ∧ Hid (Below w.heap.size w wr) ∧ Hid (At4 wr w.heap.size 0 k s (.slice ga n gc) (.slice da m dc))) (fun i _ => n - (intOf i).toNat)
  case atStart => exact ⟨0, Nat.zero_le _, rfl, HB4.out.symm, BN, XN⟩
  case round =>
    obtain ⟨j, hj, rfl, hall, HBL, HX⟩ := hrel
    have HA := Lib.hid hall
    clear hall
    have c2 := HX.out.2.2.1
    by_cases hlt : j < n
    · have hjk : j < g.length := by rw [← HN0.out]; exact hlt
      have HD := Lib.hid (all_drop g j hjk)
      obtain ⟨hz1, b1, o1, hga, hb1, hc1⟩ := strs_at HG.out j hjk
      have hc2 : wr.cell? ⟨b1, o1 + j, none⟩ = some (.string g[j]) := (HBL.out.cell (p := ⟨_, _, none⟩) hb1).trans hc1
      have HZ1 := Lib.hid hz1
      generalize g[j] = x at *
      subst hga
      obtain ⟨t, ht⟩ : ∃ t, t = Pl.triv x := ⟨_, rfl⟩
      rw [← ht] at HD
      have HTV := Lib.hid ht
      clear ht hc1 hz1
      cases t
      · have HNo : Hid (v = 7) := Lib.hid (by rw [HVV.out, ← HA.out, HD.out, Bool.false_and, if_pos rfl])
        go_wp2_with (go_at_call 84; refine (rtvalid_is _ _ HTV.out.symm _ HZ1.out).mono ?_; rintro e w' ⟨rfl, rfl⟩)
        go_ret
        exact ⟨ret_int HNo.out.symm, HBL.out⟩
      · have HYes : Hid ((g.drop (j + 1)).all Pl.triv = b) := Lib.hid (by rw [← HA.out, HD.out, Bool.true_and])
        go_wp2_with (go_at_call 84; refine (rtvalid_is _ _ HTV.out.symm _ HZ1.out).mono ?_; rintro e w' ⟨rfl, rfl⟩)
        exact ⟨⟨j + 1, by omega, by go_num, HYes.out, HBL, HX⟩, by simp [intOf]; omega⟩
    · obtain rfl : j = n := by omega
      have HYes : Hid (v = 0) := Lib.hid (by
        have e := HA.out
        rw [List.drop_of_length_le (by rw [HN0.out]; exact Nat.le_refl _)] at e
        rw [HVV.out, ← e]; rfl)
      go_wp2_with fail
      go_ret
      exact ⟨ret_int HYes.out.symm, HBL.out⟩
theorem rnode_at (k : Int) (s : ByteArray) (g : List ByteArray) (ks : List Pl.Tr) (r : Sl) (w : World) (h : IsT w (.node k s g ks) r) :
    Calls Tryz.prog 64 #[.agg #[.int .i64 k, .string s, .slice r.ga g.length r.gc, .slice r.da ks.length r.dc]] w fun e w' => e = .returned (.int .i64 (Pl.nodeE k s g ks)) ∧ Below w.heap.size w w' := by
  obtain ⟨hs, hg, hl, R, hks, _⟩ := h.parts
  unfold Pl.nodeE
  cases hsh : Pl.shape k s ks
  · rw [if_pos rfl]
    exact rnode_shape k s _ _ _ _ _ _ w (Lib.hid fun w2 hb => rshape_is k s g.length r.gc r.dc r.ga r.da ks R false hsh w2 hl (hks.later hb))
  rw [if_neg (by decide)]
  have HS := Lib.hid (fun w2 (hb : Below w.heap.size w w2) => rshape_is k s g.length r.gc r.dc r.ga r.da ks R true hsh w2 hl (hks.later hb))
  have hk : 1 ≤ k ∧ k ≤ 26 := by
    unfold Pl.shape at hsh
    rw [Bool.and_eq_true, Bool.and_eq_true, Bool.and_eq_true, Bool.and_eq_true] at hsh
    exact of_decide_eq_true hsh.1.1.1.1
  rw [name_eq k s hk]
  have hgap : (if Pl.gapsOK k s g ks.length = false then (7 : Int) else 0) = if g.length = 0 then 0 else if (decide ((g.length : Int) = Pl.own k s ks.length) && g.all Pl.triv) = false then 7 else 0 := by
    unfold Pl.gapsOK
    by_cases h0 : g = []
    · subst h0; rfl
    · rw [decide_eq_false h0, Bool.false_or, if_neg (fun e => h0 (List.eq_nil_of_length_eq_zero e))]
  rw [hgap]
  by_cases h17 : k = 17
  · subst h17
    rw [if_pos rfl]
    cases hi : Pl.isI s
    · rw [if_pos rfl]
      exact rnode_int_bad s _ _ _ _ _ _ w HS (Lib.hid hs) (Lib.hid hi)
    rw [if_neg (by decide)]
    by_cases h0 : g.length = 0
    · rw [if_pos h0]
      exact rnode_int_none s _ _ _ _ _ _ w HS (Lib.hid hs) (Lib.hid hi) h0
    · rw [if_neg h0]
      exact rnode_int_some s _ _ _ _ _ _ w HS (Lib.hid hs) (Lib.hid hi) g rfl (by omega) hl hg _ rfl
  rw [if_neg h17]
  cases hn : namedB k s
  · rw [show (if false = true then Pl.nm s else true) = true from rfl, if_neg (show ¬ true = false by decide)]
    by_cases h0 : g.length = 0
    · rw [if_pos h0]
      exact rnode_plain_none k h17 s _ _ _ _ _ _ w HS (Lib.hid hs) (Lib.hid hn) h0
    · rw [if_neg h0]
      exact rnode_plain_some k h17 s _ _ _ _ _ _ w HS (Lib.hid hs) (Lib.hid hn) g rfl (by omega) hl hg _ rfl
  rw [if_pos rfl]
  cases hv : Pl.nm s
  · rw [if_pos rfl]
    exact rnode_named_bad k h17 s _ _ _ _ _ _ w HS (Lib.hid hs) (Lib.hid hn) (Lib.hid hv)
  rw [if_neg (by decide)]
  by_cases h0 : g.length = 0
  · rw [if_pos h0]
    exact rnode_named_none k h17 s _ _ _ _ _ _ w HS (Lib.hid hs) (Lib.hid hn) (Lib.hid hv) h0
  · rw [if_neg h0]
    exact rnode_named_some k h17 s _ _ _ _ _ _ w HS (Lib.hid hs) (Lib.hid hn) (Lib.hid hv) g rfl (by omega) hl hg _ rfl
theorem rnode_is (k : Int) (s : ByteArray) (g : List ByteArray) (ks : List Pl.Tr) (r : Sl) (v : Int) (hv : Pl.nodeE k s g ks = v) (w : World) (h : IsT w (.node k s g ks) r) :
    Calls Tryz.prog 64 #[.agg #[.int .i64 k, .string s, .slice r.ga g.length r.gc, .slice r.da ks.length r.dc]] w fun e w' => e = .returned (.int .i64 v) ∧ Below w.heap.size w w' := hv ▸ rnode_at k s g ks r w h
end Go.Proofs.YtiaajpdcacdngaaGreatDoor
