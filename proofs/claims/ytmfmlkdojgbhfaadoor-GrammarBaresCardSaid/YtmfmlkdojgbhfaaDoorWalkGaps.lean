/- The walk of rightGaps. -/
import Derived.Test.YtmfmlkdojgbhfaaDoorNode
import Derived.Test.YtmfmlkdojgbhfaaDoorWalkOwn
import Derived.Test.YtmfmlkdojgbhfaaDoorWalkEnd
namespace Go.Proofs.YtmfmlkdojgbhfaaDoor
open Go.RowKit
set_option linter.unusedVariables false
set_option linter.unusedSimpArgs false

theorem own_is (k : Int) (s : ByteArray) (o : Int) (n m gc dc : Nat) (ga da : Option Addr) (w : World) (h : Pl.own k s m = o) (hT : Tabs w) (hm : m ≤ maxLen) :
    Calls Tryd.prog 13 #[.agg #[.int .i64 k, .string s, .slice ga n gc, .slice da m dc]] w fun e w' => e = .returned (.int .i64 o) ∧ Below w.heap.size w w' := h ▸ own_any k s n m gc dc ga da w hT hm
theorem triv_val (s : ByteArray) : val s.data.toList = Pl.triv s := rfl
theorem all_drop (g : List ByteArray) (j : Nat) (h : j < g.length) : (g.drop j).all Pl.triv = (Pl.triv g[j] && (g.drop (j + 1)).all Pl.triv) := by
  rw [List.drop_eq_getElem_cons h, List.all_cons]
theorem strs_at {P : Nat → Prop} {w : World} {a : Option Addr} {g : List ByteArray} (h : Strs P w a g) (j : Nat) (hj : j < g.length) : g[j].size ≤ maxLen ∧ ∃ b o, a = some ⟨b, o, none⟩ ∧ P b ∧ w.cell? ⟨b, o + j, none⟩ = some (.string g[j]) := by
  obtain ⟨h1, h2, h3⟩ := h
  refine ⟨h2 _ (List.getElem_mem hj), ?_⟩
  rcases h3 with rfl | ⟨b, o, e, hb, h3⟩
  · simp at hj
  · exact ⟨b, o, e, hb, h3 j _ (List.getElem?_eq_getElem hj)⟩
theorem int_neq {a b : Int} (h : ¬ a = b) : (a != b) = true ∧ (a == b) = false := by
  have : (a == b) = false := beq_eq_false_iff_ne.2 h
  exact ⟨by simpa using h, this⟩

set_option maxHeartbeats 1600000 in
theorem gaps_none (k : Int) (s : ByteArray) (m gc dc : Nat) (ga da : Option Addr) (w : World) :
    Calls Tryd.prog 46 #[.agg #[.int .i64 k, .string s, .slice ga 0 gc, .slice da m dc]] w fun e w' => e = .returned (.bool true) ∧ Below w.heap.size w w' := by
  go_enter Tryd.func46, Tryd.ntmps46
  go_wp2_with fail
  go_ret
  exact ⟨rfl, box_below _ _⟩
set_option maxHeartbeats 1600000 in
theorem gaps_some (k : Int) (s : ByteArray) (g : List ByteArray) (m gc dc : Nat) (ga da : Option Addr) (w : World) (hT : Tabs w) (hm : m ≤ maxLen) (hg : Strs (fun b => b < w.heap.size) w ga g) (h0 : 0 < g.length) :
    Calls Tryd.prog 46 #[.agg #[.int .i64 k, .string s, .slice ga g.length gc, .slice da m dc]] w fun e w' => e = .returned (.bool (decide ((g.length : Int) = Pl.own k s m) && g.all Pl.triv)) ∧ Below w.heap.size w w' := by
  have HMX := Lib.hid hm
  have hgl := hg.1
  unfold maxLen at hgl hm
  have HG := Lib.hid hg
  have HT := Lib.hid hT
  obtain ⟨n, hn⟩ : ∃ n, n = g.length := ⟨_, rfl⟩
  obtain ⟨o, ho⟩ : ∃ o, o = Pl.own k s m := ⟨_, rfl⟩
  obtain ⟨b, hb⟩ : ∃ b, b = (decide ((g.length : Int) = Pl.own k s m) && g.all Pl.triv) := ⟨_, rfl⟩
  rw [← hb]
  rw [← hn, ← ho] at hb
  rw [← hn] at h0 hgl ⊢
  have HN := Lib.hid hn
  have HO := Lib.hid ho
  have HB := Lib.hid hb
  have z0 : ((n : Int) == 0) = false := beq_eq_false_iff_ne.2 (by omega)
  clear hg hT hn ho hb
  obtain ⟨W, hW⟩ : ∃ W, W = w.alloc (.cells #[.int .i64 k, .string s, .slice ga n gc, .slice da m dc] 25) := ⟨_, rfl⟩
  have A1 := Lib.hid (at4_new w k s (.slice ga n gc) (.slice da m dc))
  have HBW := Lib.hid (box_below w (.cells #[.int .i64 k, .string s, .slice ga n gc, .slice da m dc] 25))
  have HWS : Hid (w.heap.size < (w.alloc (.cells #[.int .i64 k, .string s, .slice ga n gc, .slice da m dc] 25)).heap.size) := Lib.hid (by simp)
  have HT1 := Lib.hid (HT.out.later HBW.out)
  rw [← hW] at A1 HBW HWS HT1
  have k1 : ∀ x : Later W, x.u.cell? ⟨w.heap.size, 2, none⟩ = some (.slice ga n gc) := fun x => (at4_later A1.out x).2.2.1
  have CALL : ∀ x : Later W, Calls Tryd.prog 13 #[.agg #[.int .i64 k, .string s, .slice ga n gc, .slice da m dc]] x.u fun e w'' => e = .returned (.int .i64 o) ∧ ∃ y : Later W, w'' = y.u :=
    fun x => (own_is k s o n m gc dc ga da x.u HO.out.symm (HT1.out.later x.h) HMX.out).mono fun e w'' ⟨he, hw⟩ => ⟨he, ⟨w'', x.h.trans (hw.mono x.h.size)⟩, rfl⟩
  have HWE := Lib.hid hW
  go_enter Tryd.func46, Tryd.ntmps46
  go_wp2_with fail
  rw [← HWE.out]
  refine region_later (by kernel_rfl) (by kernel_rfl) ?_
  iterate 3 (go_big_quiet_step (fail))
  refine quiet_load (by rfl) 25 _ (by rfl) (.pointer (some ⟨w.heap.size, 0, none⟩)) _ (by rfl) (fun x hx => by obtain ⟨n, rfl⟩ := hx; exact (at4_later A1.out n).load) ?_
  simp only [Act.put, List.setIfInBounds_toArray, List.set_cons_succ, List.set_cons_zero]
  go_big_quiet_step (exact CALL _)
  go_big_quiet_step (fail)
  refine wpQuiet_nil ?_
  intro _ hw'
  obtain ⟨n1, rfl⟩ := hw'
  have hsz := n1.h.size
  have HB3 := Lib.hid (HBW.out.trans (n1.h.mono (Nat.le_of_lt HWS.out)))
  have q1 := k1 n1
  have HL3 := Lib.hid (Nat.lt_of_lt_of_le HWS.out n1.h.size)
  clear k1 CALL hsz
  obtain ⟨cb, hcb⟩ : ∃ cb : Bool, ((n : Int) != o) = cb := ⟨_, rfl⟩
  rw [hcb]
  cases cb
  · have hno : (n : Int) = o := by simpa using hcb
    clear hcb
    have HB4 : Hid (b = g.all Pl.triv) := Lib.hid (by rw [HB.out, decide_eq_true hno, Bool.true_and])
    clear hno
    go_wp2_with fail
    go_loopw [18] (fun i wr => ∃ j : Nat, j ≤ n ∧ i = .int .i64 j ∧ (g.drop j).all Pl.triv = b ∧ Below w.heap.size w wr ∧ w.heap.size < wr.heap.size) (fun i _ => n - (intOf i).toNat)
    case atStart => exact ⟨0, Nat.zero_le _, rfl, HB4.out.symm, HB3.out, HL3.out⟩
    case round =>
      obtain ⟨j, hj, rfl, hall, hbel, hgt⟩ := hrel
      have HBL := Lib.hid hbel
      have HA := Lib.hid hall
      clear hall
      by_cases hlt : j < n
      · have hjk : j < g.length := by rw [← HN.out]; exact hlt
        have HD := Lib.hid (all_drop g j hjk)
        obtain ⟨hz1, b1, o1, hga, hb1, hc1⟩ := strs_at HG.out j hjk
        have hc2 : wr.cell? ⟨b1, o1 + j, none⟩ = some (.string g[j]) := (hbel.cell (p := ⟨_, _, none⟩) hb1).trans hc1
        have HZ := Lib.hid hz1
        generalize g[j] = x at *
        subst hga
        obtain ⟨t, ht⟩ : ∃ t, t = Pl.triv x := ⟨_, rfl⟩
        rw [← ht] at HD
        have HTV := Lib.hid ht
        clear ht hc1 hbel hz1
        cases t
        · have HNo : Hid (b = false) := Lib.hid (by rw [← HA.out, HD.out, Bool.false_and])
          go_wp2_with (go_at_call 56; refine (tvalid_is _ _ HTV.out.symm _ HZ.out).mono ?_; rintro e w' ⟨rfl, hb5⟩; have HB5 := Lib.hid hb5; clear hb5)
          go_ret
          exact ⟨ret_bool HNo.out.symm, HBL.out.trans (HB5.out.mono HBL.out.size)⟩
        · have HYes : Hid ((g.drop (j + 1)).all Pl.triv = b) := Lib.hid (by rw [← HA.out, HD.out, Bool.true_and])
          go_wp2_with (go_at_call 56; refine (tvalid_is _ _ HTV.out.symm _ HZ.out).mono ?_; rintro e w' ⟨rfl, hb5⟩; have HB5 := Lib.hid hb5; clear hb5)
          exact ⟨⟨j + 1, by omega, by go_num, HYes.out, HBL.out.trans (HB5.out.mono HBL.out.size), by have := HB5.out.size; omega⟩, by simp [intOf]; omega⟩
      · obtain rfl : j = n := by omega
        have HYes : Hid (b = true) := Lib.hid (by
          have e := HA.out
          rw [List.drop_of_length_le (by rw [HN.out]; exact Nat.le_refl _)] at e
          exact e.symm)
        go_wp2_with fail
        go_ret
        exact ⟨ret_bool HYes.out.symm, HBL.out⟩
  · have hno : ¬ (n : Int) = o := by simpa using hcb
    clear hcb
    have HNo : Hid (b = false) := Lib.hid (by rw [HB.out, decide_eq_false hno, Bool.false_and])
    clear hno
    go_wp2_with fail
    go_ret
    exact ⟨ret_bool HNo.out.symm, HB3.out⟩
theorem gaps_at (k : Int) (s : ByteArray) (g : List ByteArray) (m gc dc : Nat) (ga da : Option Addr) (w : World) (hT : Tabs w) (hm : m ≤ maxLen) (hg : Strs (fun b => b < w.heap.size) w ga g) :
    Calls Tryd.prog 46 #[.agg #[.int .i64 k, .string s, .slice ga g.length gc, .slice da m dc]] w fun e w' => e = .returned (.bool (Pl.gapsOK k s g m)) ∧ Below w.heap.size w w' := by
  unfold Pl.gapsOK
  by_cases h0 : 0 < g.length
  · rw [decide_eq_false (by rintro rfl; simp at h0), Bool.false_or]
    exact gaps_some k s g m gc dc ga da w hT hm hg h0
  · obtain rfl : g = [] := List.eq_nil_of_length_eq_zero (by omega)
    rw [decide_eq_true rfl, Bool.true_or]
    exact gaps_none k s m gc dc ga da w
end Go.Proofs.YtmfmlkdojgbhfaaDoor
