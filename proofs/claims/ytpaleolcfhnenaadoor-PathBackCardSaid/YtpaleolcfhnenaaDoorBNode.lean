/- The walks of a node's error. -/
import Derived.Test.YtpaleolcfhnenaaDoorBFits
import Derived.Test.YtpaleolcfhnenaaDoorBText
namespace Go.Proofs.YtpaleolcfhnenaaDoor
open Go.RowKit
set_option linter.unusedVariables false
set_option linter.unusedSimpArgs false

theorem IsT.parts {w : World} {k : Int} {s : ByteArray} {g : List ByteArray} {ks : List Pl.Tr} {r : Sl} (h : IsT w (.node k s g ks) r) :
    s.size ≤ maxLen ∧ Strs (fun b => b < w.heap.size) w r.ga g ∧ ks.length ≤ maxLen ∧ ∃ R, Lies (fun b => b < w.heap.size) w ks r.da R ∧ ∀ (j : Nat) u, ks[j]? = some u → IsT w u (R j) := by
  cases h with
  | mk t r R hs hg hl hk hr _ => exact ⟨hs, hg, hl, R, hk, hr⟩
theorem Lies.later {w w' : World} {ks : List Pl.Tr} {a : Option Addr} {R : Nat → Sl} (h : Lies (fun b => b < w.heap.size) w ks a R) (hb : Below w.heap.size w w') : Lies (fun b => b < w'.heap.size) w' ks a R :=
  h.keep (Same.below hb fun _ h => h) fun b h => Nat.lt_of_lt_of_le h hb.size
theorem Strs.later {w w' : World} {a : Option Addr} {xs : List ByteArray} (h : Strs (fun b => b < w.heap.size) w a xs) (hb : Below w.heap.size w w') : Strs (fun b => b < w'.heap.size) w' a xs :=
  h.keep (Same.below hb fun _ h => h) fun b h => Nat.lt_of_lt_of_le h hb.size
theorem at4_later {w : World} {b o : Nat} {k : Int} {s : ByteArray} {gv kv : Value} (h : At4 w b o k s gv kv) (m : Later w) : At4 m.u b o k s gv kv := by
  have hb := h.lt
  exact h.keep (P := fun x => x = b) (fun x hx => m.h.block x (by omega)) rfl
theorem at4_below {w w' : World} {b o : Nat} {k : Int} {s : ByteArray} {gv kv : Value} (h : At4 w b o k s gv kv) (hb : Below w.heap.size w w') : At4 w' b o k s gv kv := at4_later h ⟨w', hb⟩
theorem at4_new (w : World) (k : Int) (s : ByteArray) (gv kv : Value) : At4 (w.alloc (.cells #[.int .i64 k, .string s, gv, kv] 25)) w.heap.size 0 k s gv kv := by
  have h := heap_alloc_new w (.cells #[.int .i64 k, .string s, gv, kv] 25)
  refine ⟨?_, ?_, ?_, ?_⟩ <;> rw [cell_of_row _ _ _ _ _ _ h] <;> rfl
theorem quiet_load {P : Program} {ops : Array Oper} {C : World → Prop} {Q : Act → Prop} {o : Oper} {rest : List Oper} {a : Act} (hw : Region.wanted o (yielded ops a.tmps) = true) (ty : TypeId) (x : Operand) (ho : o.op = .load ty x) (p v : Value) (hx : a.eval x = p)
    (hl : ∀ w, C w → (Instr.loadAt ty p).run P w = .ok v w) (h : wpQuiet P ops C Q rest (a.put o.dst v)) : wpQuiet P ops C Q (o :: rest) a := by
  unfold wpQuiet
  rw [if_pos hw]
  refine ⟨v, fun w hC => ?_, h⟩
  unfold Oper.quietAt execOp
  simp only [ho, hx, hl w hC, Sem.run_bind, Sem.run_pure, Result.andThen_ok]
  exact ⟨rfl, rfl⟩
/-- The first kids fit. -/
theorem fitA_drop (k : Int) (ks : List Pl.Tr) (j : Nat) (h : j < ks.length) : Pl.fitA k j (ks.drop j) = (Pl.fits k j ks[j].kind && Pl.fitA k (j + 1) (ks.drop (j + 1))) := by
  rw [List.drop_eq_getElem_cons h]; rfl
theorem box_below (w : World) (o : Obj) : Below w.heap.size w (w.alloc o) := (Below.refl _ _).alloc (Nat.le_refl _) o

set_option maxHeartbeats 1600000 in
theorem fitKids_at (k : Nat) (hk1 : 1 ≤ k) (hk : k < 27) (s : ByteArray) (n gc dc : Nat) (ga da : Option Addr) (ks : List Pl.Tr) (R : Nat → Sl) (w : World) (hT : Tabs w) (hl : ks.length ≤ maxLen) (hks : Lies (fun b => b < w.heap.size) w ks da R) :
    Calls Tryd.prog 87 #[.agg #[.int .i64 k, .string s, .slice ga n gc, .slice da ks.length dc]] w fun e w' => e = .returned (.bool (decide (Pl.least k ≤ ks.length) && Pl.fitA k 0 ks)) ∧ Below w.heap.size w w' := by
  unfold maxLen at hl
  obtain ⟨m, hm⟩ : ∃ m, m = ks.length := ⟨_, rfl⟩
  rw [← hm] at hl ⊢
  have HM := Lib.hid hm
  have HK := Lib.hid hks
  have HT := Lib.hid hT
  obtain ⟨q, hq⟩ : ∃ q, q = Pl.least k := ⟨_, rfl⟩
  have c1 : (w.alloc (.cells #[.int .i64 k, .string s, .slice ga n gc, .slice da m dc] 25)).cell? ⟨1, k, none⟩ = some (.int .i64 q) := by
    rw [hq]; exact (hT.later (box_below _ _)).2.2.2.1 k hk
  have c2 : (w.alloc (.cells #[.int .i64 k, .string s, .slice ga n gc, .slice da m dc] 25)).drew.cell? ⟨1, k, none⟩ = some (.int .i64 q) := c1
  rw [← hq]
  clear hm hks hT hq
  by_cases hlq : q ≤ m
  · have d1 : decide ((m : Int) < q) = false := decide_eq_false (by omega)
    rw [decide_eq_true hlq, Bool.true_and]
    obtain ⟨b, hb⟩ : ∃ b, b = Pl.fitA k 0 ks := ⟨_, rfl⟩
    rw [← hb]
    have HB := Lib.hid hb
    clear hb hlq
    go_enter Tryd.func87, Tryd.ntmps87
    go_wp2_with fail
    go_quiet (fail)
    go_wp2_with fail
    go_loopw [16] (fun i wr => ∃ j : Nat, j ≤ m ∧ i = .int .i64 j ∧ Pl.fitA k j (ks.drop j) = b ∧ Below w.heap.size w wr ∧ w.heap.size < wr.heap.size ∧ wr.cell? ⟨w.heap.size, 0, none⟩ = some (.int .i64 k)) (fun i _ => m - (intOf i).toNat)
    case atStart =>
      exact ⟨0, Nat.zero_le _, rfl, HB.out.symm, box_drewN _ _ _, by simp, (at4_new _ _ _ _ _).1⟩
    case round =>
      obtain ⟨j, hj, rfl, hfit, hbel, hgt, hcell⟩ := hrel
      have HBL := Lib.hid hbel
      have HF := Lib.hid hfit
      clear hfit
      by_cases hlt : j < m
      · have hjk : j < ks.length := by rw [← HM.out]; exact hlt
        have hu := List.getElem?_eq_getElem hjk
        have HD := Lib.hid (fitA_drop k ks j hjk)
        rcases HK.out with h0 | ⟨b1, o1, rfl, hb1, hat⟩
        · rw [h0] at hjk; simp at hjk
        have l1 := Lib.hid (At4.keep (hat j _ hu) (Same.below hbel fun _ h => h) hb1).range
        have HT1 := Lib.hid ((HT.out.later hbel).later (box_below _ (.cells #[.int .i64 ks[j].kind, .string ks[j].text, .slice (R j).ga ks[j].gaps.length (R j).gc, .slice (R j).da ks[j].kids.length (R j).dc] 25)))
        generalize ks[j] = u at *
        generalize R j = r1 at *
        obtain ⟨ga1, gc1, da1, dc1⟩ := r1
        obtain ⟨f, hf⟩ : ∃ f, f = Pl.fits k j u.kind := ⟨_, rfl⟩
        rw [← hf] at HD
        have HFF := Lib.hid hf
        clear hf hat hu hbel
        have hc2 : (wr.alloc (.cells #[.int .i64 u.kind, .string u.text, .slice ga1 u.gaps.length gc1, .slice da1 u.kids.length dc1] 25)).cell? ⟨w.heap.size, 0, none⟩ = some (.int .i64 k) := ((box_below wr _).cell (p := ⟨_, _, none⟩) hgt).trans hcell
        have HC2 := Lib.hid hc2
        cases f
        · have HNo : Hid (b = false) := Lib.hid (by rw [← HF.out, HD.out, Bool.false_and])
          clear hcell
          go_wp2_with (first
            | (refine wpList_load_mid rfl 25 _ rfl b1 (o1 + j * 4) rfl [.int .i64 u.kind, .string u.text, .slice ga1 u.gaps.length gc1, .slice da1 u.kids.length dc1] _ l1.out Tryd.underlying25 rfl sizeN ?_)
            | (go_at_call 94; refine (fits_is _ _ _ _ HFF.out.symm _ HT1.out).mono ?_; rintro e w' ⟨rfl, rfl⟩))
          go_ret
          exact ⟨ret_bool HNo.out.symm, HBL.out.trans ((box_below _ _).mono (HBL.out.size))⟩
        · have HYes : Hid (Pl.fitA k (j + 1) (ks.drop (j + 1)) = b) := Lib.hid (by rw [← HF.out, HD.out, Bool.true_and])
          clear hcell
          go_wp2_with (first
            | (refine wpList_load_mid rfl 25 _ rfl b1 (o1 + j * 4) rfl [.int .i64 u.kind, .string u.text, .slice ga1 u.gaps.length gc1, .slice da1 u.kids.length dc1] _ l1.out Tryd.underlying25 rfl sizeN ?_)
            | (go_at_call 94; refine (fits_is _ _ _ _ HFF.out.symm _ HT1.out).mono ?_; rintro e w' ⟨rfl, rfl⟩))
          exact ⟨⟨j + 1, by omega, by go_num, HYes.out, HBL.out.trans ((box_below _ _).mono (HBL.out.size)), by simp; omega, HC2.out⟩, by simp [intOf]; omega⟩
      · obtain rfl : j = m := by omega
        have HYes : Hid (b = true) := Lib.hid (by
          have e := HF.out
          rw [List.drop_of_length_le (by rw [HM.out]; exact Nat.le_refl _)] at e
          exact e.symm)
        go_wp2_with fail
        go_ret
        exact ⟨ret_bool HYes.out.symm, HBL.out⟩
  · have d1 : decide ((m : Int) < q) = true := decide_eq_true (by omega)
    rw [decide_eq_false hlq, Bool.false_and]
    go_enter Tryd.func87, Tryd.ntmps87
    go_wp2_with fail
    go_quiet (fail)
    go_wp2_with fail
    go_ret
    exact ⟨rfl, box_drewN _ _ _⟩
end Go.Proofs.YtpaleolcfhnenaaDoor

namespace Go.Proofs.YtpaleolcfhnenaaDoor
open Go.RowKit
set_option linter.unusedVariables false
set_option linter.unusedSimpArgs false

theorem lies_cons {w : World} {a : Pl.Tr} {ks : List Pl.Tr} {da : Option Addr} {R : Nat → Sl} (h : Lies (fun b => b < w.heap.size) w (a :: ks) da R) :
    ∃ b o, da = some ⟨b, o, none⟩ ∧ b < w.heap.size ∧ AtT w b o a (R 0) ∧ ∀ (c : Pl.Tr) r, ks = c :: r → AtT w b (o + 4) c (R 1) := by
  rcases h with h | ⟨b, o, e, hb, h⟩
  · cases h
  · refine ⟨b, o, e, hb, ?_, fun c r hc => ?_⟩
    · have := h 0 a rfl
      rwa [Nat.zero_mul, Nat.add_zero] at this
    · subst hc
      have := h 1 c rfl
      rwa [Nat.one_mul] at this
def nodeV (t : Pl.Tr) (r : Sl) : Value := .agg #[.int .i64 t.kind, .string t.text, .slice r.ga t.gaps.length r.gc, .slice r.da t.kids.length r.dc]
theorem lev_is (t : Pl.Tr) (r : Sl) (v : Int) (h : t.lev = v) (w : World) (hT : Tabs w) :
    Calls Tryd.prog 96 #[.agg #[.int .i64 t.kind, .string t.text, .slice r.ga t.gaps.length r.gc, .slice r.da t.kids.length r.dc]] w fun e w' => e = .returned (.int .i64 v) ∧ Below w.heap.size w w' :=
  level_is _ _ _ h _ _ _ _ _ _ _ hT
theorem rlev_is (t : Pl.Tr) (r : Sl) (v : Int) (h : t.lev = v) (w : World) :
    Calls Tryd.prog 92 #[.agg #[.int .i64 t.kind, .string t.text, .slice r.ga t.gaps.length r.gc, .slice r.da t.kids.length r.dc]] w fun e w' => e = .returned (.int .i64 v) ∧ Below w.heap.size w w' :=
  rlevel_is _ _ _ h _ _ _ _ _ _ _

set_option maxHeartbeats 1600000 in
theorem levs_24 (s : ByteArray) (n gc dc : Nat) (ga da : Option Addr) (x y : Pl.Tr) (ks : List Pl.Tr) (R : Nat → Sl) (w : World) (hT : Tabs w) (m : Nat) (hm : m = (x :: y :: ks).length) (hl : m ≤ maxLen) (hks : Lies (fun b => b < w.heap.size) w (x :: y :: ks) da R) :
    Calls Tryd.prog 89 #[.agg #[.int .i64 24, .string s, .slice ga n gc, .slice da m dc]] w fun e w' => e = .returned (.bool (Pl.lvls 24 s (x :: y :: ks))) ∧ Below w.heap.size w w' := by
  unfold maxLen at hl
  have hm2 : 2 ≤ m := by rw [hm]; simp
  obtain ⟨b, o, rfl, hb, hx0, hy1⟩ := lies_cons hks
  have hy0 := hy1 y ks rfl
  generalize R 0 = r0 at *
  generalize R 1 = r1 at *
  obtain ⟨v, hv⟩ : ∃ v, v = Pl.lvo s := ⟨_, rfl⟩
  obtain ⟨vx, hvx⟩ : ∃ v, v = x.lev := ⟨_, rfl⟩
  obtain ⟨vy, hvy⟩ : ∃ v, v = y.lev := ⟨_, rfl⟩
  obtain ⟨q, hq⟩ : ∃ q : Bool, q = Pl.lvls 24 s (x :: y :: ks) := ⟨_, rfl⟩
  rw [← hq]
  rw [show Pl.lvls 24 s (x :: y :: ks) = (!(decide (Pl.lvo s = 3) && decide (x.lev = Pl.lvo s)) && decide (Pl.lvo s ≤ x.lev) && decide (Pl.lvo s < y.lev)) from rfl, ← hv, ← hvx, ← hvy] at hq
  have HQ := Lib.hid hq
  have HV := Lib.hid hv
  have HVX := Lib.hid hvx
  have HVY := Lib.hid hvy
  have HC : Hid (decide (Pl.lvo s = 3) = decide (v = 3)) := Lib.hid (by rw [hv])
  obtain ⟨cb, hcb⟩ : ∃ cb : Bool, cb = decide (v = 3) := ⟨_, rfl⟩
  rw [← hcb] at HC
  have HCB := Lib.hid hcb
  obtain ⟨W, hW⟩ : ∃ W, W = w.alloc (.cells #[.int .i64 24, .string s, .slice ga n gc, .slice (some ⟨b, o, none⟩) m dc] 25) := ⟨_, rfl⟩
  have A1 := Lib.hid (at4_new w 24 s (.slice ga n gc) (.slice (some ⟨b, o, none⟩) m dc))
  have HBW := Lib.hid (box_below w (.cells #[.int .i64 24, .string s, .slice ga n gc, .slice (some ⟨b, o, none⟩) m dc] 25))
  have HT1 := Lib.hid (hT.later HBW.out)
  have X1 := Lib.hid (at4_below hx0 HBW.out)
  have Y1 := Lib.hid (at4_below hy0 HBW.out)
  have HSZ : Hid (w.heap.size < (w.alloc (.cells #[.int .i64 24, .string s, .slice ga n gc, .slice (some ⟨b, o, none⟩) m dc] 25)).heap.size) := Lib.hid (by simp)
  rw [← hW] at A1 HBW HT1 X1 Y1 HSZ
  have HWE := Lib.hid hW
  clear hq hv hvx hvy hcb hm hks hy1 hx0 hy0 hT hW
  have k1 : ∀ z : Later W, z.u.cell? ⟨w.heap.size, 3, none⟩ = some (.slice (some ⟨b, o, none⟩) m dc) := fun z => (at4_later A1.out z).2.2.2
  have C0 : ∀ z : Later W, Calls Tryd.prog 96 #[.agg #[.int .i64 24, .string s, .slice ga n gc, .slice (some ⟨b, o, none⟩) m dc]] z.u fun e w'' => e = .returned (.int .i64 v) ∧ ∃ y : Later W, w'' = y.u :=
    fun z => (level_is 24 s v HV.out.symm n m gc dc ga _ z.u (HT1.out.later z.h)).mono fun e w'' ⟨he, hw⟩ => ⟨he, ⟨w'', z.h.trans (hw.mono z.h.size)⟩, rfl⟩
  have C1 : ∀ z : Later W, Calls Tryd.prog 96 #[.agg #[.int .i64 x.kind, .string x.text, .slice r0.ga x.gaps.length r0.gc, .slice r0.da x.kids.length r0.dc]] z.u fun e w'' => e = .returned (.int .i64 vx) ∧ ∃ y : Later W, w'' = y.u :=
    fun z => (lev_is x r0 vx HVX.out.symm z.u (HT1.out.later z.h)).mono fun e w'' ⟨he, hw⟩ => ⟨he, ⟨w'', z.h.trans (hw.mono z.h.size)⟩, rfl⟩
  have C2 : ∀ z : Later W, Calls Tryd.prog 96 #[.agg #[.int .i64 y.kind, .string y.text, .slice r1.ga y.gaps.length r1.gc, .slice r1.da y.kids.length r1.dc]] z.u fun e w'' => e = .returned (.int .i64 vy) ∧ ∃ y : Later W, w'' = y.u :=
    fun z => (lev_is y r1 vy HVY.out.symm z.u (HT1.out.later z.h)).mono fun e w'' ⟨he, hw⟩ => ⟨he, ⟨w'', z.h.trans (hw.mono z.h.size)⟩, rfl⟩
  go_enter Tryd.func89, Tryd.ntmps89
  go_wp2_with fail
  rw [← HWE.out]
  refine region_later (by kernel_rfl) (by kernel_rfl) ?_
  refine quiet_load (by rfl) 25 _ (by rfl) (.pointer (some ⟨w.heap.size, 0, none⟩)) _ (by rfl) (fun x hx => by obtain ⟨n, rfl⟩ := hx; exact (at4_later A1.out n).load) ?_
  simp only [Act.put, List.setIfInBounds_toArray, List.set_cons_succ, List.set_cons_zero]
  go_big_quiet_step (exact C0 _)
  iterate 3 (go_big_quiet_step (fail))
  refine quiet_load (by rfl) 25 _ (by rfl) (.pointer (some ⟨b, o, none⟩)) _ (by rfl) (fun x hx => by obtain ⟨n, rfl⟩ := hx; exact (at4_later X1.out n).load) ?_
  simp only [Act.put, List.setIfInBounds_toArray, List.set_cons_succ, List.set_cons_zero]
  go_big_quiet_step (exact C1 _)
  iterate 3 (go_big_quiet_step (fail))
  refine quiet_load (by rfl) 25 _ (by rfl) (.pointer (some ⟨b, o + 4, none⟩)) _ (by rfl) (fun x hx => by obtain ⟨n, rfl⟩ := hx; exact (at4_later Y1.out n).load) ?_
  simp only [Act.put, List.setIfInBounds_toArray, List.set_cons_succ, List.set_cons_zero]
  go_big_quiet_step (exact C2 _)
  iterate 3 (go_big_quiet_step (fail))
  refine wpQuiet_nil ?_
  intro _ hw'
  obtain ⟨n1, rfl⟩ := hw'
  have HB3 := Lib.hid (HBW.out.trans (n1.h.mono (Nat.le_of_lt HSZ.out)))
  have q1 := (at4_later A1.out n1).2.1
  clear k1 C0 C1 C2
  go_wp2_with (go_at_call 97; refine (compares_is _ _ HC.out _).mono ?_; rintro e w' ⟨rfl, rfl⟩)
  all_goals go_ret
  all_goals refine ⟨ret_bool ?_, HB3.out⟩
  all_goals rw [HQ.out, Bool.eq_iff_iff]
  all_goals have h9 : (cb = true ↔ v = 3) := by rw [HCB.out]; exact decide_eq_true_iff
  all_goals clear HCB HC HQ
  all_goals first
    | (have h10 : v = 3 := h9.1 (by assumption))
    | (have h10 : ¬ v = 3 := fun e => absurd (h9.2 e) (by assumption))
    | (have h10 : ¬ v = 3 := fun e => absurd (h9.2 e) (by simp; assumption))
  all_goals clear h9
  all_goals try simp only [beq_iff_eq, beq_eq_false_iff_ne, ne_eq] at *
  all_goals simp only [Bool.and_eq_true, Bool.not_eq_true', Bool.and_eq_false_iff, decide_eq_true_eq, decide_eq_false_iff_not, Bool.false_eq_true, false_iff]
  all_goals omega

set_option maxHeartbeats 1600000 in
theorem levs_25 (s : ByteArray) (n gc dc : Nat) (ga da : Option Addr) (x : Pl.Tr) (ks : List Pl.Tr) (R : Nat → Sl) (w : World) (hT : Tabs w) (m : Nat) (hm : m = (x :: ks).length) (hl : m ≤ maxLen) (hks : Lies (fun b => b < w.heap.size) w (x :: ks) da R) :
    Calls Tryd.prog 89 #[.agg #[.int .i64 25, .string s, .slice ga n gc, .slice da m dc]] w fun e w' => e = .returned (.bool (decide (6 ≤ x.lev))) ∧ Below w.heap.size w w' := by
  unfold maxLen at hl
  have hm2 : 1 ≤ m := by rw [hm]; simp
  obtain ⟨b, o, rfl, hb, hx0, _⟩ := lies_cons hks
  generalize R 0 = r0 at *
  obtain ⟨vx, hvx⟩ : ∃ v, v = x.lev := ⟨_, rfl⟩
  rw [← hvx]
  have HVX := Lib.hid hvx
  have l1 := Lib.hid (at4_below hx0 (box_below w (.cells #[.int .i64 25, .string s, .slice ga n gc, .slice (some ⟨b, o, none⟩) m dc] 25))).range
  have HT1 := Lib.hid (hT.later (box_below w (.cells #[.int .i64 25, .string s, .slice ga n gc, .slice (some ⟨b, o, none⟩) m dc] 25)))
  clear hvx hm hks hx0 hT
  go_enter Tryd.func89, Tryd.ntmps89
  go_wp2_with (first
    | (refine wpList_load_mid rfl 25 _ rfl b o rfl [.int .i64 x.kind, .string x.text, .slice r0.ga x.gaps.length r0.gc, .slice r0.da x.kids.length r0.dc] _ l1.out Tryd.underlying25 rfl sizeN ?_)
    | (go_at_call 96; refine (lev_is x r0 vx HVX.out.symm _ HT1.out).mono ?_; rintro e w' ⟨rfl, hb2⟩; have HB2 := Lib.hid hb2; clear hb2))
  all_goals go_ret
  all_goals exact ⟨rfl, (box_below _ _).trans (HB2.out.mono (by simp))⟩

set_option maxHeartbeats 1600000 in
theorem levs_21 (s : ByteArray) (n gc dc : Nat) (ga da : Option Addr) (x : Pl.Tr) (ks : List Pl.Tr) (R : Nat → Sl) (w : World) (hT : Tabs w) (m : Nat) (hm : m = (x :: ks).length) (hl : m ≤ maxLen) (hks : Lies (fun b => b < w.heap.size) w (x :: ks) da R) :
    Calls Tryd.prog 89 #[.agg #[.int .i64 21, .string s, .slice ga n gc, .slice da m dc]] w fun e w' => e = .returned (.bool (decide (7 ≤ x.lev))) ∧ Below w.heap.size w w' := by
  unfold maxLen at hl
  have hm2 : 1 ≤ m := by rw [hm]; simp
  obtain ⟨b, o, rfl, hb, hx0, _⟩ := lies_cons hks
  generalize R 0 = r0 at *
  obtain ⟨vx, hvx⟩ : ∃ v, v = x.lev := ⟨_, rfl⟩
  rw [← hvx]
  have HVX := Lib.hid hvx
  have l1 := Lib.hid (at4_below hx0 (box_below w (.cells #[.int .i64 21, .string s, .slice ga n gc, .slice (some ⟨b, o, none⟩) m dc] 25))).range
  have HT1 := Lib.hid (hT.later (box_below w (.cells #[.int .i64 21, .string s, .slice ga n gc, .slice (some ⟨b, o, none⟩) m dc] 25)))
  clear hvx hm hks hx0 hT
  go_enter Tryd.func89, Tryd.ntmps89
  go_wp2_with (first
    | (refine wpList_load_mid rfl 25 _ rfl b o rfl [.int .i64 x.kind, .string x.text, .slice r0.ga x.gaps.length r0.gc, .slice r0.da x.kids.length r0.dc] _ l1.out Tryd.underlying25 rfl sizeN ?_)
    | (go_at_call 96; refine (lev_is x r0 vx HVX.out.symm _ HT1.out).mono ?_; rintro e w' ⟨rfl, hb2⟩; have HB2 := Lib.hid hb2; clear hb2))
  all_goals go_ret
  all_goals exact ⟨rfl, (box_below _ _).trans (HB2.out.mono (by simp))⟩

set_option maxHeartbeats 1600000 in
theorem levs_rest (k : Int) (h24 : ¬ k = 24) (h25 : ¬ k = 25) (h21 : ¬ k = 21) (s : ByteArray) (n m gc dc : Nat) (ga da : Option Addr) (w : World) :
    Calls Tryd.prog 89 #[.agg #[.int .i64 k, .string s, .slice ga n gc, .slice da m dc]] w fun e w' => e = .returned (.bool true) ∧ Below w.heap.size w w' := by
  have b24 : (k == 24) = false := beq_eq_false_iff_ne.2 h24
  have b25 : (k == 25) = false := beq_eq_false_iff_ne.2 h25
  have b21 : (k == 21) = false := beq_eq_false_iff_ne.2 h21
  go_enter Tryd.func89, Tryd.ntmps89
  go_wp2_with fail
  go_ret
  exact ⟨rfl, box_below _ _⟩
theorem levs_at (k : Int) (s : ByteArray) (n gc dc : Nat) (ga da : Option Addr) (ks : List Pl.Tr) (R : Nat → Sl) (w : World) (hT : Tabs w) (hl : ks.length ≤ maxLen) (hks : Lies (fun b => b < w.heap.size) w ks da R) (hle : Pl.least k ≤ ks.length) :
    Calls Tryd.prog 89 #[.agg #[.int .i64 k, .string s, .slice ga n gc, .slice da ks.length dc]] w fun e w' => e = .returned (.bool (Pl.lvls k s ks)) ∧ Below w.heap.size w w' := by
  by_cases h24 : k = 24
  · subst h24
    match ks, hks, hl, hle with
    | [], hks, hl, hle => exact absurd hle (by decide)
    | [x], hks, hl, hle => exact absurd hle (by simp [Pl.least])
    | x :: y :: ks, hks, hl, hle => exact levs_24 s n gc dc ga da x y ks R w hT _ rfl hl hks
  by_cases h25 : k = 25
  · subst h25
    match ks, hks, hl, hle with
    | [], hks, hl, hle => exact absurd hle (by decide)
    | x :: ks, hks, hl, hle => exact levs_25 s n gc dc ga da x ks R w hT _ rfl hl hks
  by_cases h21 : k = 21
  · subst h21
    match ks, hks, hl, hle with
    | [], hks, hl, hle => exact absurd hle (by decide)
    | x :: ks, hks, hl, hle => exact levs_21 s n gc dc ga da x ks R w hT _ rfl hl hks
  rw [show Pl.lvls k s ks = true by unfold Pl.lvls; rw [if_neg h24, if_neg h25, if_neg h21]]
  exact levs_rest k h24 h25 h21 s n _ gc dc ga da w
end Go.Proofs.YtpaleolcfhnenaaDoor

namespace Go.Proofs.YtpaleolcfhnenaaDoor
open Go.RowKit
set_option linter.unusedVariables false
set_option linter.unusedSimpArgs false

theorem own_is (k : Int) (s : ByteArray) (o : Int) (n m gc dc : Nat) (ga da : Option Addr) (w : World) (h : Pl.own k s m = o) (hT : Tabs w) (hm : m ≤ maxLen) :
    Calls Tryd.prog 66 #[.agg #[.int .i64 k, .string s, .slice ga n gc, .slice da m dc]] w fun e w' => e = .returned (.int .i64 o) ∧ Below w.heap.size w w' := h ▸ own_any k s n m gc dc ga da w hT hm
theorem triv_val (s : ByteArray) : val s.data.toList = Pl.triv s := rfl
theorem all_drop (g : List ByteArray) (j : Nat) (h : j < g.length) : (g.drop j).all Pl.triv = (Pl.triv g[j] && (g.drop (j + 1)).all Pl.triv) := by
  rw [List.drop_eq_getElem_cons h, List.all_cons]
theorem strs_at {P : Nat → Prop} {w : World} {a : Option Addr} {g : List ByteArray} (h : Strs P w a g) (j : Nat) (hj : j < g.length) : g[j].size ≤ maxLen ∧ ∃ b o, a = some ⟨b, o, none⟩ ∧ P b ∧ w.cell? ⟨b, o + j, none⟩ = some (.string g[j]) := by
  obtain ⟨h1, h2, h3⟩ := h
  refine ⟨h2 _ (List.getElem_mem hj), ?_⟩
  rcases h3 with rfl | ⟨b, o, e, hb, h3⟩
  · simp at hj
  · exact ⟨b, o, e, hb, h3 j _ (List.getElem?_eq_getElem hj)⟩
theorem int_neq {a b : Int} (h : ¬ a = b) : (a != b) = true ∧ (a == b) = false := by
  have : (a == b) = false := beq_eq_false_iff_ne.2 h
  exact ⟨by simpa using h, this⟩

set_option maxHeartbeats 1600000 in
theorem gaps_none (k : Int) (s : ByteArray) (m gc dc : Nat) (ga da : Option Addr) (w : World) :
    Calls Tryd.prog 91 #[.agg #[.int .i64 k, .string s, .slice ga 0 gc, .slice da m dc]] w fun e w' => e = .returned (.bool true) ∧ Below w.heap.size w w' := by
  go_enter Tryd.func91, Tryd.ntmps91
  go_wp2_with fail
  go_ret
  exact ⟨rfl, box_below _ _⟩
set_option maxHeartbeats 1600000 in
theorem gaps_some (k : Int) (s : ByteArray) (g : List ByteArray) (m gc dc : Nat) (ga da : Option Addr) (w : World) (hT : Tabs w) (hm : m ≤ maxLen) (hg : Strs (fun b => b < w.heap.size) w ga g) (h0 : 0 < g.length) :
    Calls Tryd.prog 91 #[.agg #[.int .i64 k, .string s, .slice ga g.length gc, .slice da m dc]] w fun e w' => e = .returned (.bool (decide ((g.length : Int) = Pl.own k s m) && g.all Pl.triv)) ∧ Below w.heap.size w w' := by
  have HMX := Lib.hid hm
  have hgl := hg.1
  unfold maxLen at hgl hm
  have HG := Lib.hid hg
  have HT := Lib.hid hT
  obtain ⟨n, hn⟩ : ∃ n, n = g.length := ⟨_, rfl⟩
  obtain ⟨o, ho⟩ : ∃ o, o = Pl.own k s m := ⟨_, rfl⟩
  obtain ⟨b, hb⟩ : ∃ b, b = (decide ((g.length : Int) = Pl.own k s m) && g.all Pl.triv) := ⟨_, rfl⟩
  rw [← hb]
  rw [← hn, ← ho] at hb
  rw [← hn] at h0 hgl ⊢
  have HN := Lib.hid hn
  have HO := Lib.hid ho
  have HB := Lib.hid hb
  have z0 : ((n : Int) == 0) = false := beq_eq_false_iff_ne.2 (by omega)
  clear hg hT hn ho hb
  obtain ⟨W, hW⟩ : ∃ W, W = w.alloc (.cells #[.int .i64 k, .string s, .slice ga n gc, .slice da m dc] 25) := ⟨_, rfl⟩
  have A1 := Lib.hid (at4_new w k s (.slice ga n gc) (.slice da m dc))
  have HBW := Lib.hid (box_below w (.cells #[.int .i64 k, .string s, .slice ga n gc, .slice da m dc] 25))
  have HWS : Hid (w.heap.size < (w.alloc (.cells #[.int .i64 k, .string s, .slice ga n gc, .slice da m dc] 25)).heap.size) := Lib.hid (by simp)
  have HT1 := Lib.hid (HT.out.later HBW.out)
  rw [← hW] at A1 HBW HWS HT1
  have k1 : ∀ x : Later W, x.u.cell? ⟨w.heap.size, 2, none⟩ = some (.slice ga n gc) := fun x => (at4_later A1.out x).2.2.1
  have CALL : ∀ x : Later W, Calls Tryd.prog 66 #[.agg #[.int .i64 k, .string s, .slice ga n gc, .slice da m dc]] x.u fun e w'' => e = .returned (.int .i64 o) ∧ ∃ y : Later W, w'' = y.u :=
    fun x => (own_is k s o n m gc dc ga da x.u HO.out.symm (HT1.out.later x.h) HMX.out).mono fun e w'' ⟨he, hw⟩ => ⟨he, ⟨w'', x.h.trans (hw.mono x.h.size)⟩, rfl⟩
  have HWE := Lib.hid hW
  go_enter Tryd.func91, Tryd.ntmps91
  go_wp2_with fail
  rw [← HWE.out]
  refine region_later (by kernel_rfl) (by kernel_rfl) ?_
  iterate 3 (go_big_quiet_step (fail))
  refine quiet_load (by rfl) 25 _ (by rfl) (.pointer (some ⟨w.heap.size, 0, none⟩)) _ (by rfl) (fun x hx => by obtain ⟨n, rfl⟩ := hx; exact (at4_later A1.out n).load) ?_
  simp only [Act.put, List.setIfInBounds_toArray, List.set_cons_succ, List.set_cons_zero]
  go_big_quiet_step (exact CALL _)
  go_big_quiet_step (fail)
  refine wpQuiet_nil ?_
  intro _ hw'
  obtain ⟨n1, rfl⟩ := hw'
  have hsz := n1.h.size
  have HB3 := Lib.hid (HBW.out.trans (n1.h.mono (Nat.le_of_lt HWS.out)))
  have q1 := k1 n1
  have HL3 := Lib.hid (Nat.lt_of_lt_of_le HWS.out n1.h.size)
  clear k1 CALL hsz
  obtain ⟨cb, hcb⟩ : ∃ cb : Bool, ((n : Int) != o) = cb := ⟨_, rfl⟩
  rw [hcb]
  cases cb
  · have hno : (n : Int) = o := by simpa using hcb
    clear hcb
    have HB4 : Hid (b = g.all Pl.triv) := Lib.hid (by rw [HB.out, decide_eq_true hno, Bool.true_and])
    clear hno
    go_wp2_with fail
    go_loopw [18] (fun i wr => ∃ j : Nat, j ≤ n ∧ i = .int .i64 j ∧ (g.drop j).all Pl.triv = b ∧ Below w.heap.size w wr ∧ w.heap.size < wr.heap.size) (fun i _ => n - (intOf i).toNat)
    case atStart => exact ⟨0, Nat.zero_le _, rfl, HB4.out.symm, HB3.out, HL3.out⟩
    case round =>
      obtain ⟨j, hj, rfl, hall, hbel, hgt⟩ := hrel
      have HBL := Lib.hid hbel
      have HA := Lib.hid hall
      clear hall
      by_cases hlt : j < n
      · have hjk : j < g.length := by rw [← HN.out]; exact hlt
        have HD := Lib.hid (all_drop g j hjk)
        obtain ⟨hz1, b1, o1, hga, hb1, hc1⟩ := strs_at HG.out j hjk
        have hc2 : wr.cell? ⟨b1, o1 + j, none⟩ = some (.string g[j]) := (hbel.cell (p := ⟨_, _, none⟩) hb1).trans hc1
        have HZ := Lib.hid hz1
        generalize g[j] = x at *
        subst hga
        obtain ⟨t, ht⟩ : ∃ t, t = Pl.triv x := ⟨_, rfl⟩
        rw [← ht] at HD
        have HTV := Lib.hid ht
        clear ht hc1 hbel hz1
        cases t
        · have HNo : Hid (b = false) := Lib.hid (by rw [← HA.out, HD.out, Bool.false_and])
          go_wp2_with (go_at_call 100; refine (tvalid_is _ _ HTV.out.symm _ HZ.out).mono ?_; rintro e w' ⟨rfl, hb5⟩; have HB5 := Lib.hid hb5; clear hb5)
          go_ret
          exact ⟨ret_bool HNo.out.symm, HBL.out.trans (HB5.out.mono HBL.out.size)⟩
        · have HYes : Hid ((g.drop (j + 1)).all Pl.triv = b) := Lib.hid (by rw [← HA.out, HD.out, Bool.true_and])
          go_wp2_with (go_at_call 100; refine (tvalid_is _ _ HTV.out.symm _ HZ.out).mono ?_; rintro e w' ⟨rfl, hb5⟩; have HB5 := Lib.hid hb5; clear hb5)
          exact ⟨⟨j + 1, by omega, by go_num, HYes.out, HBL.out.trans (HB5.out.mono HBL.out.size), by have := HB5.out.size; omega⟩, by simp [intOf]; omega⟩
      · obtain rfl : j = n := by omega
        have HYes : Hid (b = true) := Lib.hid (by
          have e := HA.out
          rw [List.drop_of_length_le (by rw [HN.out]; exact Nat.le_refl _)] at e
          exact e.symm)
        go_wp2_with fail
        go_ret
        exact ⟨ret_bool HYes.out.symm, HBL.out⟩
  · have hno : ¬ (n : Int) = o := by simpa using hcb
    clear hcb
    have HNo : Hid (b = false) := Lib.hid (by rw [HB.out, decide_eq_false hno, Bool.false_and])
    clear hno
    go_wp2_with fail
    go_ret
    exact ⟨ret_bool HNo.out.symm, HB3.out⟩
theorem gaps_at (k : Int) (s : ByteArray) (g : List ByteArray) (m gc dc : Nat) (ga da : Option Addr) (w : World) (hT : Tabs w) (hm : m ≤ maxLen) (hg : Strs (fun b => b < w.heap.size) w ga g) :
    Calls Tryd.prog 91 #[.agg #[.int .i64 k, .string s, .slice ga g.length gc, .slice da m dc]] w fun e w' => e = .returned (.bool (Pl.gapsOK k s g m)) ∧ Below w.heap.size w w' := by
  unfold Pl.gapsOK
  by_cases h0 : 0 < g.length
  · rw [decide_eq_false (by rintro rfl; simp at h0), Bool.false_or]
    exact gaps_some k s g m gc dc ga da w hT hm hg h0
  · obtain rfl : g = [] := List.eq_nil_of_length_eq_zero (by omega)
    rw [decide_eq_true rfl, Bool.true_or]
    exact gaps_none k s m gc dc ga da w
end Go.Proofs.YtpaleolcfhnenaaDoor

namespace Go.Proofs.YtpaleolcfhnenaaDoor
open Go.RowKit
set_option linter.unusedVariables false
set_option linter.unusedSimpArgs false

theorem node_no (k : Int) (hk : ¬ (1 ≤ k ∧ k ≤ 26)) (s : ByteArray) (n m gc dc : Nat) (ga da : Option Addr) (w : World) :
    Calls Tryd.prog 77 #[.agg #[.int .i64 k, .string s, .slice ga n gc, .slice da m dc]] w fun e w' => e = .returned (.int .i64 7) ∧ Below w.heap.size w w' := by
  have HK : Hid (decide (1 ≤ k ∧ k ≤ 26) = false) := Lib.hid (decide_eq_false hk)
  go_enter Tryd.func77, Tryd.ntmps77
  go_wp2_with (go_at_call 78; refine (known_is _ _ HK.out _).mono ?_; rintro e w' ⟨rfl, rfl⟩)
  go_ret
  exact ⟨rfl, box_below _ _⟩
set_option maxHeartbeats 1600000 in
theorem node_0 (k : Int) (HK : Hid (decide (1 ≤ k ∧ k ≤ 26) = true)) (s : ByteArray) (n m gc dc : Nat) (ga da : Option Addr) (w : World)
    (HCF : Hid (∀ w2, Below w.heap.size w w2 → Calls Tryd.prog 87 #[.agg #[.int .i64 k, .string s, .slice ga n gc, .slice da m dc]] w2 fun e w' => e = .returned (.bool false) ∧ Below w2.heap.size w2 w')) :
    Calls Tryd.prog 77 #[.agg #[.int .i64 k, .string s, .slice ga n gc, .slice da m dc]] w fun e w' => e = .returned (.int .i64 7) ∧ Below w.heap.size w w' := by
  have A0 := Lib.hid (at4_new w k s (.slice ga n gc) (.slice da m dc))
  have B0 := Lib.hid (box_below w (.cells #[.int .i64 k, .string s, .slice ga n gc, .slice da m dc] 25))
  go_enter Tryd.func77, Tryd.ntmps77
  go_wp2_with (first
    | (go_at_call 78; refine (known_is _ _ HK.out _).mono ?_; rintro e w' ⟨rfl, rfl⟩)
    | (go_at_call 87; refine (HCF.out _ B0.out).mono ?_; rintro e w1 ⟨rfl, hb1⟩; have A1 := Lib.hid (at4_below A0.out hb1); have B1 := Lib.hid (B0.out.trans (hb1.mono B0.out.size)); obtain ⟨c0, c1, c2, c3⟩ := A1.out; clear hb1))
  go_ret
  exact ⟨rfl, B1.out⟩
set_option maxHeartbeats 1600000 in
theorem node_1 (k : Int) (HK : Hid (decide (1 ≤ k ∧ k ≤ 26) = true)) (s : ByteArray) (n m gc dc : Nat) (ga da : Option Addr) (w : World)
    (HCF : Hid (∀ w2, Below w.heap.size w w2 → Calls Tryd.prog 87 #[.agg #[.int .i64 k, .string s, .slice ga n gc, .slice da m dc]] w2 fun e w' => e = .returned (.bool true) ∧ Below w2.heap.size w2 w'))
    (HCW : Hid (∀ w2, Below w.heap.size w w2 → Calls Tryd.prog 88 #[.agg #[.int .i64 k, .string s, .slice ga n gc, .slice da m dc]] w2 fun e w' => e = .returned (.bool false) ∧ Below w2.heap.size w2 w')) :
    Calls Tryd.prog 77 #[.agg #[.int .i64 k, .string s, .slice ga n gc, .slice da m dc]] w fun e w' => e = .returned (.int .i64 7) ∧ Below w.heap.size w w' := by
  have A0 := Lib.hid (at4_new w k s (.slice ga n gc) (.slice da m dc))
  have B0 := Lib.hid (box_below w (.cells #[.int .i64 k, .string s, .slice ga n gc, .slice da m dc] 25))
  go_enter Tryd.func77, Tryd.ntmps77
  go_wp2_with (first
    | (go_at_call 78; refine (known_is _ _ HK.out _).mono ?_; rintro e w' ⟨rfl, rfl⟩)
    | (go_at_call 87; refine (HCF.out _ B0.out).mono ?_; rintro e w1 ⟨rfl, hb1⟩; have A1 := Lib.hid (at4_below A0.out hb1); have B1 := Lib.hid (B0.out.trans (hb1.mono B0.out.size)); obtain ⟨c0, c1, c2, c3⟩ := A1.out; clear hb1)
    | (go_at_call 88; refine (HCW.out _ B1.out).mono ?_; rintro e w2 ⟨rfl, hb2⟩; have A2 := Lib.hid (at4_below A1.out hb2); have B2 := Lib.hid (B1.out.trans (hb2.mono B1.out.size)); obtain ⟨c0, c1, c2, c3⟩ := A2.out; clear hb2))
  go_ret
  exact ⟨rfl, B2.out⟩
set_option maxHeartbeats 1600000 in
theorem node_2 (k : Int) (HK : Hid (decide (1 ≤ k ∧ k ≤ 26) = true)) (s : ByteArray) (n m gc dc : Nat) (ga da : Option Addr) (w : World)
    (HCF : Hid (∀ w2, Below w.heap.size w w2 → Calls Tryd.prog 87 #[.agg #[.int .i64 k, .string s, .slice ga n gc, .slice da m dc]] w2 fun e w' => e = .returned (.bool true) ∧ Below w2.heap.size w2 w'))
    (HCW : Hid (∀ w2, Below w.heap.size w w2 → Calls Tryd.prog 88 #[.agg #[.int .i64 k, .string s, .slice ga n gc, .slice da m dc]] w2 fun e w' => e = .returned (.bool true) ∧ Below w2.heap.size w2 w'))
    (HCL : Hid (∀ w2, Below w.heap.size w w2 → Calls Tryd.prog 89 #[.agg #[.int .i64 k, .string s, .slice ga n gc, .slice da m dc]] w2 fun e w' => e = .returned (.bool false) ∧ Below w2.heap.size w2 w')) :
    Calls Tryd.prog 77 #[.agg #[.int .i64 k, .string s, .slice ga n gc, .slice da m dc]] w fun e w' => e = .returned (.int .i64 7) ∧ Below w.heap.size w w' := by
  have A0 := Lib.hid (at4_new w k s (.slice ga n gc) (.slice da m dc))
  have B0 := Lib.hid (box_below w (.cells #[.int .i64 k, .string s, .slice ga n gc, .slice da m dc] 25))
  go_enter Tryd.func77, Tryd.ntmps77
  go_wp2_with (first
    | (go_at_call 78; refine (known_is _ _ HK.out _).mono ?_; rintro e w' ⟨rfl, rfl⟩)
    | (go_at_call 87; refine (HCF.out _ B0.out).mono ?_; rintro e w1 ⟨rfl, hb1⟩; have A1 := Lib.hid (at4_below A0.out hb1); have B1 := Lib.hid (B0.out.trans (hb1.mono B0.out.size)); obtain ⟨c0, c1, c2, c3⟩ := A1.out; clear hb1)
    | (go_at_call 88; refine (HCW.out _ B1.out).mono ?_; rintro e w2 ⟨rfl, hb2⟩; have A2 := Lib.hid (at4_below A1.out hb2); have B2 := Lib.hid (B1.out.trans (hb2.mono B1.out.size)); obtain ⟨c0, c1, c2, c3⟩ := A2.out; clear hb2)
    | (go_at_call 89; refine (HCL.out _ B2.out).mono ?_; rintro e w3 ⟨rfl, hb3⟩; have A3 := Lib.hid (at4_below A2.out hb3); have B3 := Lib.hid (B2.out.trans (hb3.mono B2.out.size)); obtain ⟨c0, c1, c2, c3⟩ := A3.out; clear hb3))
  go_ret
  exact ⟨rfl, B3.out⟩
set_option maxHeartbeats 1600000 in
theorem node_3 (k : Int) (HK : Hid (decide (1 ≤ k ∧ k ≤ 26) = true)) (s : ByteArray) (n m gc dc : Nat) (ga da : Option Addr) (w : World)
    (HCF : Hid (∀ w2, Below w.heap.size w w2 → Calls Tryd.prog 87 #[.agg #[.int .i64 k, .string s, .slice ga n gc, .slice da m dc]] w2 fun e w' => e = .returned (.bool true) ∧ Below w2.heap.size w2 w'))
    (HCW : Hid (∀ w2, Below w.heap.size w w2 → Calls Tryd.prog 88 #[.agg #[.int .i64 k, .string s, .slice ga n gc, .slice da m dc]] w2 fun e w' => e = .returned (.bool true) ∧ Below w2.heap.size w2 w'))
    (HCL : Hid (∀ w2, Below w.heap.size w w2 → Calls Tryd.prog 89 #[.agg #[.int .i64 k, .string s, .slice ga n gc, .slice da m dc]] w2 fun e w' => e = .returned (.bool true) ∧ Below w2.heap.size w2 w'))
    (HCN : Hid (∀ w2, Below w.heap.size w w2 → Calls Tryd.prog 90 #[.agg #[.int .i64 k, .string s, .slice ga n gc, .slice da m dc]] w2 fun e w' => e = .returned (.bool false) ∧ Below w2.heap.size w2 w')) :
    Calls Tryd.prog 77 #[.agg #[.int .i64 k, .string s, .slice ga n gc, .slice da m dc]] w fun e w' => e = .returned (.int .i64 4) ∧ Below w.heap.size w w' := by
  have A0 := Lib.hid (at4_new w k s (.slice ga n gc) (.slice da m dc))
  have B0 := Lib.hid (box_below w (.cells #[.int .i64 k, .string s, .slice ga n gc, .slice da m dc] 25))
  go_enter Tryd.func77, Tryd.ntmps77
  go_wp2_with (first
    | (go_at_call 78; refine (known_is _ _ HK.out _).mono ?_; rintro e w' ⟨rfl, rfl⟩)
    | (go_at_call 87; refine (HCF.out _ B0.out).mono ?_; rintro e w1 ⟨rfl, hb1⟩; have A1 := Lib.hid (at4_below A0.out hb1); have B1 := Lib.hid (B0.out.trans (hb1.mono B0.out.size)); obtain ⟨c0, c1, c2, c3⟩ := A1.out; clear hb1)
    | (go_at_call 88; refine (HCW.out _ B1.out).mono ?_; rintro e w2 ⟨rfl, hb2⟩; have A2 := Lib.hid (at4_below A1.out hb2); have B2 := Lib.hid (B1.out.trans (hb2.mono B1.out.size)); obtain ⟨c0, c1, c2, c3⟩ := A2.out; clear hb2)
    | (go_at_call 89; refine (HCL.out _ B2.out).mono ?_; rintro e w3 ⟨rfl, hb3⟩; have A3 := Lib.hid (at4_below A2.out hb3); have B3 := Lib.hid (B2.out.trans (hb3.mono B2.out.size)); obtain ⟨c0, c1, c2, c3⟩ := A3.out; clear hb3)
    | (go_at_call 90; refine (HCN.out _ B3.out).mono ?_; rintro e w4 ⟨rfl, hb4⟩; have A4 := Lib.hid (at4_below A3.out hb4); have B4 := Lib.hid (B3.out.trans (hb4.mono B3.out.size)); obtain ⟨c0, c1, c2, c3⟩ := A4.out; clear hb4))
  go_ret
  exact ⟨rfl, B4.out⟩
set_option maxHeartbeats 1600000 in
theorem node_4 (k : Int) (HK : Hid (decide (1 ≤ k ∧ k ≤ 26) = true)) (s : ByteArray) (n m gc dc : Nat) (ga da : Option Addr) (w : World)
    (HCF : Hid (∀ w2, Below w.heap.size w w2 → Calls Tryd.prog 87 #[.agg #[.int .i64 k, .string s, .slice ga n gc, .slice da m dc]] w2 fun e w' => e = .returned (.bool true) ∧ Below w2.heap.size w2 w'))
    (HCW : Hid (∀ w2, Below w.heap.size w w2 → Calls Tryd.prog 88 #[.agg #[.int .i64 k, .string s, .slice ga n gc, .slice da m dc]] w2 fun e w' => e = .returned (.bool true) ∧ Below w2.heap.size w2 w'))
    (HCL : Hid (∀ w2, Below w.heap.size w w2 → Calls Tryd.prog 89 #[.agg #[.int .i64 k, .string s, .slice ga n gc, .slice da m dc]] w2 fun e w' => e = .returned (.bool true) ∧ Below w2.heap.size w2 w'))
    (HCN : Hid (∀ w2, Below w.heap.size w w2 → Calls Tryd.prog 90 #[.agg #[.int .i64 k, .string s, .slice ga n gc, .slice da m dc]] w2 fun e w' => e = .returned (.bool true) ∧ Below w2.heap.size w2 w'))
    (HCG : Hid (∀ w2, Below w.heap.size w w2 → Calls Tryd.prog 91 #[.agg #[.int .i64 k, .string s, .slice ga n gc, .slice da m dc]] w2 fun e w' => e = .returned (.bool false) ∧ Below w2.heap.size w2 w')) :
    Calls Tryd.prog 77 #[.agg #[.int .i64 k, .string s, .slice ga n gc, .slice da m dc]] w fun e w' => e = .returned (.int .i64 7) ∧ Below w.heap.size w w' := by
  have A0 := Lib.hid (at4_new w k s (.slice ga n gc) (.slice da m dc))
  have B0 := Lib.hid (box_below w (.cells #[.int .i64 k, .string s, .slice ga n gc, .slice da m dc] 25))
  go_enter Tryd.func77, Tryd.ntmps77
  go_wp2_with (first
    | (go_at_call 78; refine (known_is _ _ HK.out _).mono ?_; rintro e w' ⟨rfl, rfl⟩)
    | (go_at_call 87; refine (HCF.out _ B0.out).mono ?_; rintro e w1 ⟨rfl, hb1⟩; have A1 := Lib.hid (at4_below A0.out hb1); have B1 := Lib.hid (B0.out.trans (hb1.mono B0.out.size)); obtain ⟨c0, c1, c2, c3⟩ := A1.out; clear hb1)
    | (go_at_call 88; refine (HCW.out _ B1.out).mono ?_; rintro e w2 ⟨rfl, hb2⟩; have A2 := Lib.hid (at4_below A1.out hb2); have B2 := Lib.hid (B1.out.trans (hb2.mono B1.out.size)); obtain ⟨c0, c1, c2, c3⟩ := A2.out; clear hb2)
    | (go_at_call 89; refine (HCL.out _ B2.out).mono ?_; rintro e w3 ⟨rfl, hb3⟩; have A3 := Lib.hid (at4_below A2.out hb3); have B3 := Lib.hid (B2.out.trans (hb3.mono B2.out.size)); obtain ⟨c0, c1, c2, c3⟩ := A3.out; clear hb3)
    | (go_at_call 90; refine (HCN.out _ B3.out).mono ?_; rintro e w4 ⟨rfl, hb4⟩; have A4 := Lib.hid (at4_below A3.out hb4); have B4 := Lib.hid (B3.out.trans (hb4.mono B3.out.size)); obtain ⟨c0, c1, c2, c3⟩ := A4.out; clear hb4)
    | (go_at_call 91; refine (HCG.out _ B4.out).mono ?_; rintro e w5 ⟨rfl, hb5⟩; have A5 := Lib.hid (at4_below A4.out hb5); have B5 := Lib.hid (B4.out.trans (hb5.mono B4.out.size)); obtain ⟨c0, c1, c2, c3⟩ := A5.out; clear hb5))
  go_ret
  exact ⟨rfl, B5.out⟩
set_option maxHeartbeats 1600000 in
theorem node_5 (k : Int) (HK : Hid (decide (1 ≤ k ∧ k ≤ 26) = true)) (s : ByteArray) (n m gc dc : Nat) (ga da : Option Addr) (w : World)
    (HCF : Hid (∀ w2, Below w.heap.size w w2 → Calls Tryd.prog 87 #[.agg #[.int .i64 k, .string s, .slice ga n gc, .slice da m dc]] w2 fun e w' => e = .returned (.bool true) ∧ Below w2.heap.size w2 w'))
    (HCW : Hid (∀ w2, Below w.heap.size w w2 → Calls Tryd.prog 88 #[.agg #[.int .i64 k, .string s, .slice ga n gc, .slice da m dc]] w2 fun e w' => e = .returned (.bool true) ∧ Below w2.heap.size w2 w'))
    (HCL : Hid (∀ w2, Below w.heap.size w w2 → Calls Tryd.prog 89 #[.agg #[.int .i64 k, .string s, .slice ga n gc, .slice da m dc]] w2 fun e w' => e = .returned (.bool true) ∧ Below w2.heap.size w2 w'))
    (HCN : Hid (∀ w2, Below w.heap.size w w2 → Calls Tryd.prog 90 #[.agg #[.int .i64 k, .string s, .slice ga n gc, .slice da m dc]] w2 fun e w' => e = .returned (.bool true) ∧ Below w2.heap.size w2 w'))
    (HCG : Hid (∀ w2, Below w.heap.size w w2 → Calls Tryd.prog 91 #[.agg #[.int .i64 k, .string s, .slice ga n gc, .slice da m dc]] w2 fun e w' => e = .returned (.bool true) ∧ Below w2.heap.size w2 w')) :
    Calls Tryd.prog 77 #[.agg #[.int .i64 k, .string s, .slice ga n gc, .slice da m dc]] w fun e w' => e = .returned (.int .i64 0) ∧ Below w.heap.size w w' := by
  have A0 := Lib.hid (at4_new w k s (.slice ga n gc) (.slice da m dc))
  have B0 := Lib.hid (box_below w (.cells #[.int .i64 k, .string s, .slice ga n gc, .slice da m dc] 25))
  go_enter Tryd.func77, Tryd.ntmps77
  go_wp2_with (first
    | (go_at_call 78; refine (known_is _ _ HK.out _).mono ?_; rintro e w' ⟨rfl, rfl⟩)
    | (go_at_call 87; refine (HCF.out _ B0.out).mono ?_; rintro e w1 ⟨rfl, hb1⟩; have A1 := Lib.hid (at4_below A0.out hb1); have B1 := Lib.hid (B0.out.trans (hb1.mono B0.out.size)); obtain ⟨c0, c1, c2, c3⟩ := A1.out; clear hb1)
    | (go_at_call 88; refine (HCW.out _ B1.out).mono ?_; rintro e w2 ⟨rfl, hb2⟩; have A2 := Lib.hid (at4_below A1.out hb2); have B2 := Lib.hid (B1.out.trans (hb2.mono B1.out.size)); obtain ⟨c0, c1, c2, c3⟩ := A2.out; clear hb2)
    | (go_at_call 89; refine (HCL.out _ B2.out).mono ?_; rintro e w3 ⟨rfl, hb3⟩; have A3 := Lib.hid (at4_below A2.out hb3); have B3 := Lib.hid (B2.out.trans (hb3.mono B2.out.size)); obtain ⟨c0, c1, c2, c3⟩ := A3.out; clear hb3)
    | (go_at_call 90; refine (HCN.out _ B3.out).mono ?_; rintro e w4 ⟨rfl, hb4⟩; have A4 := Lib.hid (at4_below A3.out hb4); have B4 := Lib.hid (B3.out.trans (hb4.mono B3.out.size)); obtain ⟨c0, c1, c2, c3⟩ := A4.out; clear hb4)
    | (go_at_call 91; refine (HCG.out _ B4.out).mono ?_; rintro e w5 ⟨rfl, hb5⟩; have A5 := Lib.hid (at4_below A4.out hb5); have B5 := Lib.hid (B4.out.trans (hb5.mono B4.out.size)); obtain ⟨c0, c1, c2, c3⟩ := A5.out; clear hb5))
  go_ret
  exact ⟨rfl, B5.out⟩
theorem nodeE_at (k : Int) (s : ByteArray) (g : List ByteArray) (ks : List Pl.Tr) (r : Sl) (w : World) (hT : Tabs w) (h : IsT w (.node k s g ks) r) :
    Calls Tryd.prog 77 #[.agg #[.int .i64 k, .string s, .slice r.ga g.length r.gc, .slice r.da ks.length r.dc]] w fun e w' => e = .returned (.int .i64 (Pl.nodeE k s g ks)) ∧ Below w.heap.size w w' := by
  obtain ⟨hs, hg, hl, R, hks, _⟩ := h.parts
  unfold Pl.nodeE Pl.shape
  by_cases hk : 1 ≤ k ∧ k ≤ 26
  case neg =>
    rw [decide_eq_false hk, Bool.false_and, Bool.false_and, Bool.false_and, Bool.false_and, if_pos rfl]
    exact node_no k hk s _ _ _ _ _ _ w
  have HK : Hid (decide (1 ≤ k ∧ k ≤ 26) = true) := Lib.hid (decide_eq_true hk)
  obtain ⟨q, rfl, hq⟩ := nat_of (k := k) (n := 27) (by omega) (by omega)
  rw [HK.out, Bool.true_and]
  have HCF := fun w2 (hb : Below w.heap.size w w2) => fitKids_at q (by omega) hq s g.length r.gc r.dc r.ga r.da ks R w2 (hT.later hb) hl (hks.later hb)
  have HCW := fun w2 (hb : Below w.heap.size w w2) => rword_at q hq s g.length ks.length r.gc r.dc r.ga r.da w2 (hT.later hb)
  have HCN := fun w2 (hb : Below w.heap.size w w2) => rname_at q hq s g.length ks.length r.gc r.dc r.ga r.da w2 (hT.later hb) hs
  have HCG := fun w2 (hb : Below w.heap.size w w2) => gaps_at q s g ks.length r.gc r.dc r.ga r.da w2 (hT.later hb) hl (hg.later hb)
  cases hf : decide (Pl.least q ≤ ks.length) && Pl.fitA q 0 ks
  · rw [Bool.false_and, Bool.false_and, if_pos rfl]
    rw [hf] at HCF
    exact node_0 q HK s _ _ _ _ _ _ w (Lib.hid HCF)
  have hle : Pl.least q ≤ ks.length := by
    rw [Bool.and_eq_true] at hf
    exact of_decide_eq_true hf.1
  have HCL := fun w2 (hb : Below w.heap.size w w2) => levs_at q s g.length r.gc r.dc r.ga r.da ks R w2 (hT.later hb) hl (hks.later hb) hle
  rw [hf] at HCF
  rw [Bool.true_and]
  cases hw : Pl.wordOK q s
  · rw [Bool.false_and, if_pos rfl]
    rw [hw] at HCW
    exact node_1 q HK s _ _ _ _ _ _ w (Lib.hid HCF) (Lib.hid HCW)
  rw [hw] at HCW
  rw [Bool.true_and]
  cases hv : Pl.lvls q s ks
  · rw [if_pos rfl]
    rw [hv] at HCL
    exact node_2 q HK s _ _ _ _ _ _ w (Lib.hid HCF) (Lib.hid HCW) (Lib.hid HCL)
  rw [hv] at HCL
  rw [if_neg (by decide)]
  cases hn : Pl.nameOK q s
  · rw [if_pos rfl]
    rw [hn] at HCN
    exact node_3 q HK s _ _ _ _ _ _ w (Lib.hid HCF) (Lib.hid HCW) (Lib.hid HCL) (Lib.hid HCN)
  rw [hn] at HCN
  rw [if_neg (by decide)]
  cases hg2 : Pl.gapsOK q s g ks.length
  · rw [if_pos rfl]
    rw [hg2] at HCG
    exact node_4 q HK s _ _ _ _ _ _ w (Lib.hid HCF) (Lib.hid HCW) (Lib.hid HCL) (Lib.hid HCN) (Lib.hid HCG)
  rw [hg2] at HCG
  rw [if_neg (by decide)]
  exact node_5 q HK s _ _ _ _ _ _ w (Lib.hid HCF) (Lib.hid HCW) (Lib.hid HCL) (Lib.hid HCN) (Lib.hid HCG)
theorem nodeE_is (k : Int) (s : ByteArray) (g : List ByteArray) (ks : List Pl.Tr) (r : Sl) (v : Int) (hv : Pl.nodeE k s g ks = v) (w : World) (hT : Tabs w) (h : IsT w (.node k s g ks) r) :
    Calls Tryd.prog 77 #[.agg #[.int .i64 k, .string s, .slice r.ga g.length r.gc, .slice r.da ks.length r.dc]] w fun e w' => e = .returned (.int .i64 v) ∧ Below w.heap.size w w' := hv ▸ nodeE_at k s g ks r w hT h
end Go.Proofs.YtpaleolcfhnenaaDoor
