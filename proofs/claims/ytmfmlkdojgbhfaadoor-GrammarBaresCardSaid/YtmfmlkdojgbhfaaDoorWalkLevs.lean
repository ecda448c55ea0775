/- The walk of rightLevels. -/
import Derived.Test.YtmfmlkdojgbhfaaDoorNode
namespace Go.Proofs.YtmfmlkdojgbhfaaDoor
open Go.RowKit
set_option linter.unusedVariables false
set_option linter.unusedSimpArgs false

theorem lies_cons {w : World} {a : Pl.Tr} {ks : List Pl.Tr} {da : Option Addr} {R : Nat → Sl} (h : Lies (fun b => b < w.heap.size) w (a :: ks) da R) :
    ∃ b o, da = some ⟨b, o, none⟩ ∧ b < w.heap.size ∧ AtT w b o a (R 0) ∧ ∀ (c : Pl.Tr) r, ks = c :: r → AtT w b (o + 4) c (R 1) := by
  rcases h with h | ⟨b, o, e, hb, h⟩
  · cases h
  · refine ⟨b, o, e, hb, ?_, fun c r hc => ?_⟩
    · have := h 0 a rfl
      rwa [Nat.zero_mul, Nat.add_zero] at this
    · subst hc
      have := h 1 c rfl
      rwa [Nat.one_mul] at this
def nodeV (t : Pl.Tr) (r : Sl) : Value := .agg #[.int .i64 t.kind, .string t.text, .slice r.ga t.gaps.length r.gc, .slice r.da t.kids.length r.dc]
theorem lev_is (t : Pl.Tr) (r : Sl) (v : Int) (h : t.lev = v) (w : World) (hT : Tabs w) :
    Calls Tryd.prog 15 #[.agg #[.int .i64 t.kind, .string t.text, .slice r.ga t.gaps.length r.gc, .slice r.da t.kids.length r.dc]] w fun e w' => e = .returned (.int .i64 v) ∧ Below w.heap.size w w' :=
  level_is _ _ _ h _ _ _ _ _ _ _ hT
theorem rlev_is (t : Pl.Tr) (r : Sl) (v : Int) (h : t.lev = v) (w : World) :
    Calls Tryd.prog 16 #[.agg #[.int .i64 t.kind, .string t.text, .slice r.ga t.gaps.length r.gc, .slice r.da t.kids.length r.dc]] w fun e w' => e = .returned (.int .i64 v) ∧ Below w.heap.size w w' :=
  rlevel_is _ _ _ h _ _ _ _ _ _ _

set_option maxHeartbeats 1600000 in
theorem levs_24 (s : ByteArray) (n gc dc : Nat) (ga da : Option Addr) (x y : Pl.Tr) (ks : List Pl.Tr) (R : Nat → Sl) (w : World) (hT : Tabs w) (m : Nat) (hm : m = (x :: y :: ks).length) (hl : m ≤ maxLen) (hks : Lies (fun b => b < w.heap.size) w (x :: y :: ks) da R) :
    Calls Tryd.prog 44 #[.agg #[.int .i64 24, .string s, .slice ga n gc, .slice da m dc]] w fun e w' => e = .returned (.bool (Pl.lvls 24 s (x :: y :: ks))) ∧ Below w.heap.size w w' := by
  unfold maxLen at hl
  have hm2 : 2 ≤ m := by rw [hm]; simp
  obtain ⟨b, o, rfl, hb, hx0, hy1⟩ := lies_cons hks
  have hy0 := hy1 y ks rfl
  generalize R 0 = r0 at *
  generalize R 1 = r1 at *
  obtain ⟨v, hv⟩ : ∃ v, v = Pl.lvo s := ⟨_, rfl⟩
  obtain ⟨vx, hvx⟩ : ∃ v, v = x.lev := ⟨_, rfl⟩
  obtain ⟨vy, hvy⟩ : ∃ v, v = y.lev := ⟨_, rfl⟩
  obtain ⟨q, hq⟩ : ∃ q : Bool, q = Pl.lvls 24 s (x :: y :: ks) := ⟨_, rfl⟩
  rw [← hq]
  rw [show Pl.lvls 24 s (x :: y :: ks) = (!(decide (Pl.lvo s = 3) && decide (x.lev = Pl.lvo s)) && decide (Pl.lvo s ≤ x.lev) && decide (Pl.lvo s < y.lev)) from rfl, ← hv, ← hvx, ← hvy] at hq
  have HQ := Lib.hid hq
  have HV := Lib.hid hv
  have HVX := Lib.hid hvx
  have HVY := Lib.hid hvy
  have HC : Hid (decide (Pl.lvo s = 3) = decide (v = 3)) := Lib.hid (by rw [hv])
  obtain ⟨cb, hcb⟩ : ∃ cb : Bool, cb = decide (v = 3) := ⟨_, rfl⟩
  rw [← hcb] at HC
  have HCB := Lib.hid hcb
  obtain ⟨W, hW⟩ : ∃ W, W = w.alloc (.cells #[.int .i64 24, .string s, .slice ga n gc, .slice (some ⟨b, o, none⟩) m dc] 25) := ⟨_, rfl⟩
  have A1 := Lib.hid (at4_new w 24 s (.slice ga n gc) (.slice (some ⟨b, o, none⟩) m dc))
  have HBW := Lib.hid (box_below w (.cells #[.int .i64 24, .string s, .slice ga n gc, .slice (some ⟨b, o, none⟩) m dc] 25))
  have HT1 := Lib.hid (hT.later HBW.out)
  have X1 := Lib.hid (at4_below hx0 HBW.out)
  have Y1 := Lib.hid (at4_below hy0 HBW.out)
  have HSZ : Hid (w.heap.size < (w.alloc (.cells #[.int .i64 24, .string s, .slice ga n gc, .slice (some ⟨b, o, none⟩) m dc] 25)).heap.size) := Lib.hid (by simp)
  rw [← hW] at A1 HBW HT1 X1 Y1 HSZ
  have HWE := Lib.hid hW
  clear hq hv hvx hvy hcb hm hks hy1 hx0 hy0 hT hW
  have k1 : ∀ z : Later W, z.u.cell? ⟨w.heap.size, 3, none⟩ = some (.slice (some ⟨b, o, none⟩) m dc) := fun z => (at4_later A1.out z).2.2.2
  have C0 : ∀ z : Later W, Calls Tryd.prog 15 #[.agg #[.int .i64 24, .string s, .slice ga n gc, .slice (some ⟨b, o, none⟩) m dc]] z.u fun e w'' => e = .returned (.int .i64 v) ∧ ∃ y : Later W, w'' = y.u :=
    fun z => (level_is 24 s v HV.out.symm n m gc dc ga _ z.u (HT1.out.later z.h)).mono fun e w'' ⟨he, hw⟩ => ⟨he, ⟨w'', z.h.trans (hw.mono z.h.size)⟩, rfl⟩
  have C1 : ∀ z : Later W, Calls Tryd.prog 15 #[.agg #[.int .i64 x.kind, .string x.text, .slice r0.ga x.gaps.length r0.gc, .slice r0.da x.kids.length r0.dc]] z.u fun e w'' => e = .returned (.int .i64 vx) ∧ ∃ y : Later W, w'' = y.u :=
    fun z => (lev_is x r0 vx HVX.out.symm z.u (HT1.out.later z.h)).mono fun e w'' ⟨he, hw⟩ => ⟨he, ⟨w'', z.h.trans (hw.mono z.h.size)⟩, rfl⟩
  have C2 : ∀ z : Later W, Calls Tryd.prog 15 #[.agg #[.int .i64 y.kind, .string y.text, .slice r1.ga y.gaps.length r1.gc, .slice r1.da y.kids.length r1.dc]] z.u fun e w'' => e = .returned (.int .i64 vy) ∧ ∃ y : Later W, w'' = y.u :=
    fun z => (lev_is y r1 vy HVY.out.symm z.u (HT1.out.later z.h)).mono fun e w'' ⟨he, hw⟩ => ⟨he, ⟨w'', z.h.trans (hw.mono z.h.size)⟩, rfl⟩
  go_enter Tryd.func44, Tryd.ntmps44
  go_wp2_with fail
  rw [← HWE.out]
  refine region_later (by kernel_rfl) (by kernel_rfl) ?_
  refine quiet_load (by rfl) 25 _ (by rfl) (.pointer (some ⟨w.heap.size, 0, none⟩)) _ (by rfl) (fun x hx => by obtain ⟨n, rfl⟩ := hx; exact (at4_later A1.out n).load) ?_
  simp only [Act.put, List.setIfInBounds_toArray, List.set_cons_succ, List.set_cons_zero]
  go_big_quiet_step (exact C0 _)
  iterate 3 (go_big_quiet_step (fail))
  refine quiet_load (by rfl) 25 _ (by rfl) (.pointer (some ⟨b, o, none⟩)) _ (by rfl) (fun x hx => by obtain ⟨n, rfl⟩ := hx; exact (at4_later X1.out n).load) ?_
  simp only [Act.put, List.setIfInBounds_toArray, List.set_cons_succ, List.set_cons_zero]
  go_big_quiet_step (exact C1 _)
  iterate 3 (go_big_quiet_step (fail))
  refine quiet_load (by rfl) 25 _ (by rfl) (.pointer (some ⟨b, o + 4, none⟩)) _ (by rfl) (fun x hx => by obtain ⟨n, rfl⟩ := hx; exact (at4_later Y1.out n).load) ?_
  simp only [Act.put, List.setIfInBounds_toArray, List.set_cons_succ, List.set_cons_zero]
  go_big_quiet_step (exact C2 _)
  iterate 3 (go_big_quiet_step (fail))
  refine wpQuiet_nil ?_
  intro _ hw'
  obtain ⟨n1, rfl⟩ := hw'
  have HB3 := Lib.hid (HBW.out.trans (n1.h.mono (Nat.le_of_lt HSZ.out)))
  have q1 := (at4_later A1.out n1).2.1
  clear k1 C0 C1 C2
  go_wp2_with (go_at_call 53; refine (compares_is _ _ HC.out _).mono ?_; rintro e w' ⟨rfl, rfl⟩)
  all_goals go_ret
  all_goals refine ⟨ret_bool ?_, HB3.out⟩
  all_goals rw [HQ.out, Bool.eq_iff_iff]
  all_goals have h9 : (cb = true ↔ v = 3) := by rw [HCB.out]; exact decide_eq_true_iff
  all_goals clear HCB HC HQ
  all_goals first
    | (have h10 : v = 3 := h9.1 (by assumption))
    | (have h10 : ¬ v = 3 := fun e => absurd (h9.2 e) (by assumption))
    | (have h10 : ¬ v = 3 := fun e => absurd (h9.2 e) (by simp; assumption))
  all_goals clear h9
  all_goals try simp only [beq_iff_eq, beq_eq_false_iff_ne, ne_eq] at *
  all_goals simp only [Bool.and_eq_true, Bool.not_eq_true', Bool.and_eq_false_iff, decide_eq_true_eq, decide_eq_false_iff_not, Bool.false_eq_true, false_iff]
  all_goals omega

set_option maxHeartbeats 1600000 in
theorem levs_25 (s : ByteArray) (n gc dc : Nat) (ga da : Option Addr) (x : Pl.Tr) (ks : List Pl.Tr) (R : Nat → Sl) (w : World) (hT : Tabs w) (m : Nat) (hm : m = (x :: ks).length) (hl : m ≤ maxLen) (hks : Lies (fun b => b < w.heap.size) w (x :: ks) da R) :
    Calls Tryd.prog 44 #[.agg #[.int .i64 25, .string s, .slice ga n gc, .slice da m dc]] w fun e w' => e = .returned (.bool (decide (6 ≤ x.lev))) ∧ Below w.heap.size w w' := by
  unfold maxLen at hl
  have hm2 : 1 ≤ m := by rw [hm]; simp
  obtain ⟨b, o, rfl, hb, hx0, _⟩ := lies_cons hks
  generalize R 0 = r0 at *
  obtain ⟨vx, hvx⟩ : ∃ v, v = x.lev := ⟨_, rfl⟩
  rw [← hvx]
  have HVX := Lib.hid hvx
  have l1 := Lib.hid (at4_below hx0 (box_below w (.cells #[.int .i64 25, .string s, .slice ga n gc, .slice (some ⟨b, o, none⟩) m dc] 25))).range
  have HT1 := Lib.hid (hT.later (box_below w (.cells #[.int .i64 25, .string s, .slice ga n gc, .slice (some ⟨b, o, none⟩) m dc] 25)))
  clear hvx hm hks hx0 hT
  go_enter Tryd.func44, Tryd.ntmps44
  go_wp2_with (first
    | (refine wpList_load_mid rfl 25 _ rfl b o rfl [.int .i64 x.kind, .string x.text, .slice r0.ga x.gaps.length r0.gc, .slice r0.da x.kids.length r0.dc] _ l1.out Tryd.underlying25 rfl sizeN ?_)
    | (go_at_call 15; refine (lev_is x r0 vx HVX.out.symm _ HT1.out).mono ?_; rintro e w' ⟨rfl, hb2⟩; have HB2 := Lib.hid hb2; clear hb2))
  all_goals go_ret
  all_goals exact ⟨rfl, (box_below _ _).trans (HB2.out.mono (by simp))⟩

set_option maxHeartbeats 1600000 in
theorem levs_21 (s : ByteArray) (n gc dc : Nat) (ga da : Option Addr) (x : Pl.Tr) (ks : List Pl.Tr) (R : Nat → Sl) (w : World) (hT : Tabs w) (m : Nat) (hm : m = (x :: ks).length) (hl : m ≤ maxLen) (hks : Lies (fun b => b < w.heap.size) w (x :: ks) da R) :
    Calls Tryd.prog 44 #[.agg #[.int .i64 21, .string s, .slice ga n gc, .slice da m dc]] w fun e w' => e = .returned (.bool (decide (7 ≤ x.lev))) ∧ Below w.heap.size w w' := by
  unfold maxLen at hl
  have hm2 : 1 ≤ m := by rw [hm]; simp
  obtain ⟨b, o, rfl, hb, hx0, _⟩ := lies_cons hks
  generalize R 0 = r0 at *
  obtain ⟨vx, hvx⟩ : ∃ v, v = x.lev := ⟨_, rfl⟩
  rw [← hvx]
  have HVX := Lib.hid hvx
  have l1 := Lib.hid (at4_below hx0 (box_below w (.cells #[.int .i64 21, .string s, .slice ga n gc, .slice (some ⟨b, o, none⟩) m dc] 25))).range
  have HT1 := Lib.hid (hT.later (box_below w (.cells #[.int .i64 21, .string s, .slice ga n gc, .slice (some ⟨b, o, none⟩) m dc] 25)))
  clear hvx hm hks hx0 hT
  go_enter Tryd.func44, Tryd.ntmps44
  go_wp2_with (first
    | (refine wpList_load_mid rfl 25 _ rfl b o rfl [.int .i64 x.kind, .string x.text, .slice r0.ga x.gaps.length r0.gc, .slice r0.da x.kids.length r0.dc] _ l1.out Tryd.underlying25 rfl sizeN ?_)
    | (go_at_call 15; refine (lev_is x r0 vx HVX.out.symm _ HT1.out).mono ?_; rintro e w' ⟨rfl, hb2⟩; have HB2 := Lib.hid hb2; clear hb2))
  all_goals go_ret
  all_goals exact ⟨rfl, (box_below _ _).trans (HB2.out.mono (by simp))⟩

set_option maxHeartbeats 1600000 in
theorem levs_rest (k : Int) (h24 : ¬ k = 24) (h25 : ¬ k = 25) (h21 : ¬ k = 21) (s : ByteArray) (n m gc dc : Nat) (ga da : Option Addr) (w : World) :
    Calls Tryd.prog 44 #[.agg #[.int .i64 k, .string s, .slice ga n gc, .slice da m dc]] w fun e w' => e = .returned (.bool true) ∧ Below w.heap.size w w' := by
  have b24 : (k == 24) = false := beq_eq_false_iff_ne.2 h24
  have b25 : (k == 25) = false := beq_eq_false_iff_ne.2 h25
  have b21 : (k == 21) = false := beq_eq_false_iff_ne.2 h21
  go_enter Tryd.func44, Tryd.ntmps44
  go_wp2_with fail
  go_ret
  exact ⟨rfl, box_below _ _⟩
theorem levs_at (k : Int) (s : ByteArray) (n gc dc : Nat) (ga da : Option Addr) (ks : List Pl.Tr) (R : Nat → Sl) (w : World) (hT : Tabs w) (hl : ks.length ≤ maxLen) (hks : Lies (fun b => b < w.heap.size) w ks da R) (hle : Pl.least k ≤ ks.length) :
    Calls Tryd.prog 44 #[.agg #[.int .i64 k, .string s, .slice ga n gc, .slice da ks.length dc]] w fun e w' => e = .returned (.bool (Pl.lvls k s ks)) ∧ Below w.heap.size w w' := by
  by_cases h24 : k = 24
  · subst h24
    match ks, hks, hl, hle with
    | [], hks, hl, hle => exact absurd hle (by decide)
    | [x], hks, hl, hle => exact absurd hle (by simp [Pl.least])
    | x :: y :: ks, hks, hl, hle => exact levs_24 s n gc dc ga da x y ks R w hT _ rfl hl hks
  by_cases h25 : k = 25
  · subst h25
    match ks, hks, hl, hle with
    | [], hks, hl, hle => exact absurd hle (by decide)
    | x :: ks, hks, hl, hle => exact levs_25 s n gc dc ga da x ks R w hT _ rfl hl hks
  by_cases h21 : k = 21
  · subst h21
    match ks, hks, hl, hle with
    | [], hks, hl, hle => exact absurd hle (by decide)
    | x :: ks, hks, hl, hle => exact levs_21 s n gc dc ga da x ks R w hT _ rfl hl hks
  rw [show Pl.lvls k s ks = true by unfold Pl.lvls; rw [if_neg h24, if_neg h25, if_neg h21]]
  exact levs_rest k h24 h25 h21 s n _ gc dc ga da w
end Go.Proofs.YtmfmlkdojgbhfaaDoor
