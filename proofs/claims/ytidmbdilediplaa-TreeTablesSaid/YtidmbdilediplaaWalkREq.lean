/- The walks of the reference's Equal and Same. -/
import Derived.Test.YtidmbdilediplaaWalkComp
namespace Go.Proofs.Ytidmbdilediplaa
open Go.RowKit
set_option linter.unusedVariables false
set_option linter.unusedSimpArgs false

/-- Are two trees one? -/
noncomputable def eqT (t u : Pl.Tr) : Bool := @decide (t = u) (Classical.propDecidable _)
theorem eqT_iff {t u : Pl.Tr} : eqT t u = true ↔ t = u := by unfold eqT; exact @decide_eq_true_iff _ (Classical.propDecidable _)
theorem eqT_no {t u : Pl.Tr} (h : t ≠ u) : eqT t u = false := by unfold eqT; exact @decide_eq_false _ (Classical.propDecidable _) h
/-- Are two trees one but for their gaps? -/
noncomputable def sameT (t u : Pl.Tr) : Bool := eqT (Pl.bare t) (Pl.bare u)
theorem sameT_iff {t u : Pl.Tr} : sameT t u = true ↔ Pl.bare t = Pl.bare u := eqT_iff
theorem sameT_no {t u : Pl.Tr} (h : Pl.bare t ≠ Pl.bare u) : sameT t u = false := eqT_no h
theorem rstrings_is {P Q : Nat → Prop} {w : World} (a b : Option Addr) (c d : Nat) (xs ys : List ByteArray) (hx : Strs P w a xs) (hy : Strs Q w b ys) (z : Bool) (hz : decide (xs = ys) = z) :
    Calls Try.prog 35 #[.slice a xs.length c, .slice b ys.length d] w fun e w' => e = .returned (.bool z) ∧ Below w.heap.size w w' := hz ▸ rstrings_any a b c d xs ys hx hy
theorem sequal_is {P Q : Nat → Prop} {w : World} (a b : Option Addr) (c d : Nat) (xs ys : List ByteArray) (hx : Strs P w a xs) (hy : Strs Q w b ys) (z : Bool) (hz : decide (xs = ys) = z) :
    Calls Try.prog 44 #[.slice a xs.length c, .slice b ys.length d] w fun e w' => e = .returned (.bool z) ∧ Below w.heap.size w w' := hz ▸ sequal_any a b c d xs ys hx hy
theorem int_ne {x y : Int} (h : x ≠ y) : (x != y) = true ∧ (x == y) = false := ⟨by simpa using h, by simpa using h⟩
theorem str_neq {x y : ByteArray} (h : x ≠ y) : (x.toList != y.toList) = true ∧ (x.toList == y.toList) = false := ⟨by rw [bne, str_ne h]; rfl, str_ne h⟩
/-- A row of cells at an address, as four facts for every later world. -/
theorem at4_later {w : World} {b o : Nat} {k : Int} {s : ByteArray} {gv kv : Value} (h : At4 w b o k s gv kv) (m : Later w) : At4 m.u b o k s gv kv := by
  have hb := h.lt
  exact h.keep (P := fun x => x = b) (fun x hx => m.h.block x (by omega)) rfl
/-- A load in a region that only reads, by what it answers in every world that the region may stand in. -/
theorem quiet_load {P : Program} {ops : Array Oper} {C : World → Prop} {Q : Act → Prop} {o : Oper} {rest : List Oper} {a : Act} (hw : Region.wanted o (yielded ops a.tmps) = true) (ty : TypeId) (x : Operand) (ho : o.op = .load ty x) (p v : Value) (hx : a.eval x = p)
    (hl : ∀ w, C w → (Instr.loadAt ty p).run P w = .ok v w) (h : wpQuiet P ops C Q rest (a.put o.dst v)) : wpQuiet P ops C Q (o :: rest) a := by
  unfold wpQuiet
  rw [if_pos hw]
  refine ⟨v, fun w hC => ?_, h⟩
  unfold Oper.quietAt execOp
  simp only [ho, hx, hl w hC, Sem.run_bind, Sem.run_pure, Result.andThen_ok]
  exact ⟨rfl, rfl⟩

theorem boxes_after {w1 w2 : World} {k k' : Int} {s s' : ByteArray} {gv kv gv' kv' : Value} (hb : Below ((w1.alloc (.cells #[.int .i64 k, .string s, gv, kv] 25)).alloc (.cells #[.int .i64 k', .string s', gv', kv'] 25)).heap.size ((w1.alloc (.cells #[.int .i64 k, .string s, gv, kv] 25)).alloc (.cells #[.int .i64 k', .string s', gv', kv'] 25)) w2) :
    Box w2 w1.heap.size k s gv kv ∧ Box w2 (w1.heap.size + 1) k' s' gv' kv' ∧ Below w1.heap.size w1 w2 ∧ w1.heap.size + 1 < w2.heap.size := by
  have hz := hb.size
  simp at hz
  have e1 : w2.heap[w1.heap.size]? = (w1.alloc (.cells #[.int .i64 k, .string s, gv, kv] 25)).heap[w1.heap.size]? := (hb.block _ (by simp <;> omega)).trans (Below.heap_alloc _ _ _ (by simp))
  have e2 := hb.block (w1.heap.size + 1) (by simp)
  refine ⟨(box_new w1 k s gv kv).keep e1, ?_, (((Below.refl _ _).alloc (Nat.le_refl _) _).alloc (by simp) _).trans (hb.mono (by simp <;> omega)), by omega⟩
  have := box_new (w1.alloc (.cells #[.int .i64 k, .string s, gv, kv] 25)) k' s' gv' kv'
  rw [show (w1.alloc (.cells #[.int .i64 k, .string s, gv, kv] 25)).heap.size = w1.heap.size + 1 from by simp] at this
  exact this.keep e2
/-- Behind two boxes. -/
theorem same_box2 {P : Nat → Prop} {w w1 : World} {o1 o2 : Obj} (hs : Same P w w1) (hP : ∀ b, P b → b < w.heap.size) (hge : w.heap.size ≤ w1.heap.size) : Same P w ((w1.alloc o1).alloc o2) :=
  hs.trans (Same.below (((Below.refl _ _).alloc (Nat.le_refl _) _).alloc (by simp) _) fun b hb => Nat.lt_of_lt_of_le (hP b hb) hge)
set_option maxHeartbeats 800000 in
set_option maxRecDepth 100000 in
theorem requal_at {P : Nat → Prop} {w : World} {t : Pl.Tr} {r : Sl} (h : Tin P w t r) (hP : ∀ b, P b → b < w.heap.size) : ∀ (u : Pl.Tr) (q : Sl), Tin P w u q → ∀ w1, Same P w w1 → w.heap.size ≤ w1.heap.size →
    Calls Try.prog 18 #[.agg #[.int .i64 t.kind, .string t.text, .slice r.ga t.gaps.length r.gc, .slice r.da t.kids.length r.dc], .agg #[.int .i64 u.kind, .string u.text, .slice q.ga u.gaps.length q.gc, .slice q.da u.kids.length q.dc]] w1 fun e w' => e = .returned (.bool (eqT t u)) ∧ Below w1.heap.size w1 w' := by
  induction h with
  | mk t r R hs hg hl hk hr ih =>
    intro u q hu w1 hsame hge
    cases hu with
    | mk _ _ R2 hs2 hg2 hl2 hk2 hr2 =>
    cases t with
    | node k s g ks =>
    cases u with
    | node k2 s2 g2 ls =>
      obtain ⟨ga, gc, a, c⟩ := r
      obtain ⟨ga2, gc2, a2, c2⟩ := q
      simp only [Pl.Tr.kids, Pl.Tr.gaps, Pl.Tr.text, Pl.Tr.kind] at *
      have HK := Lib.hid hk
      have HK2 := Lib.hid hk2
      have HR2 := Lib.hid hr2
      have HI := Lib.hid ih
      have HS := Lib.hid hsame
      have HG1 := Lib.hid hg
      have HG2 := Lib.hid hg2
      have hgl1 := hg.1
      have hgl2 := hg2.1
      unfold maxLen at hl hl2 hgl1 hgl2
      clear hk hr ih hsame hk2 hr2 hg hg2
      rcases (Classical.em (k = k2)).symm with hkk | hkk
      · obtain ⟨hb1, hb2⟩ := int_ne hkk
        go_enter Try.func18, Try.ntmps18
        go_wp2_with fail
        go_ret
        exact ⟨ret_bool (eqT_no (fun e => hkk (by injection e))).symm, ((Below.refl _ _).alloc (Nat.le_refl _) _).alloc (by simp) _⟩
      subst hkk
      rcases (Classical.em (s = s2)).symm with hss | hss
      · obtain ⟨hb1, hb2⟩ := str_neq hss
        go_enter Try.func18, Try.ntmps18
        go_wp2_with fail
        go_ret
        exact ⟨ret_bool (eqT_no (fun e => hss (by injection e))).symm, ((Below.refl _ _).alloc (Nat.le_refl _) _).alloc (by simp) _⟩
      subst hss
      rcases (Classical.em (g = g2)).symm with hgg | hgg
      · have HZ := Lib.hid (decide_eq_false hgg)
        obtain ⟨n, hn⟩ : ∃ n, n = ks.length := ⟨_, rfl⟩
        obtain ⟨m, hm⟩ : ∃ m, m = ls.length := ⟨_, rfl⟩
        rw [← hn, ← hm]
        clear hn hm
        go_enter Try.func18, Try.ntmps18
        go_wp2_with (go_at_call 35; refine (rstrings_is _ _ _ _ g g2 (HG1.out.keep (same_box2 HS.out hP hge) (fun _ h => h)) (HG2.out.keep (same_box2 HS.out hP hge) (fun _ h => h)) false HZ.out).mono ?_; rintro e w2 ⟨rfl, hb2⟩; obtain ⟨⟨c10, c11, c12, c13⟩, ⟨c20, c21, c22, c23⟩, hb0, hsz2⟩ := boxes_after hb2; have HB0 := Lib.hid hb0; clear hb2 hb0)
        go_ret
        exact ⟨ret_bool (eqT_no (fun e => hgg (by injection e))).symm, HB0.out⟩
      subst hgg
      rcases (Classical.em (ks.length = ls.length)).symm with hnn | hnn
      · have HN2 : Hid (¬ ks.length = ls.length) := Lib.hid hnn
        obtain ⟨n, hn⟩ : ∃ n, n = ks.length := ⟨_, rfl⟩
        obtain ⟨m, hm⟩ : ∃ m, m = ls.length := ⟨_, rfl⟩
        obtain ⟨hb1, hb2⟩ := int_ne (x := (n : Int)) (y := m) (fun e => hnn (by omega))
        rw [← hn] at hl ⊢
        rw [← hm] at hl2 ⊢
        clear hn hm hnn
        have HZ := Lib.hid (decide_eq_true (rfl : g = g))
        go_enter Try.func18, Try.ntmps18
        go_wp2_with (go_at_call 35; refine (rstrings_is _ _ _ _ g g (HG1.out.keep (same_box2 HS.out hP hge) (fun _ h => h)) (HG2.out.keep (same_box2 HS.out hP hge) (fun _ h => h)) true HZ.out).mono ?_; rintro e w2 ⟨rfl, hb2⟩; obtain ⟨⟨c10, c11, c12, c13⟩, ⟨c20, c21, c22, c23⟩, hb0, hsz2⟩ := boxes_after hb2; have HB0 := Lib.hid hb0; clear hb2 hb0)
        go_ret
        exact ⟨ret_bool (eqT_no (fun e => HN2.out (by injection e with _ _ _ e4; rw [e4]))).symm, HB0.out⟩
      have HL := Lib.hid hnn
      obtain ⟨n, hn⟩ : ∃ n, n = ks.length := ⟨_, rfl⟩
      obtain ⟨m, hm⟩ : ∃ m, m = n := ⟨_, rfl⟩
      rw [← hnn, ← hn] at hl2 ⊢
      rw [← hn] at hl
      have HN := Lib.hid hn
      have HZ := Lib.hid (decide_eq_true (rfl : g = g))
      clear hn hnn
      subst hm
      go_enter Try.func18, Try.ntmps18
      go_wp2_with (go_at_call 35; refine (rstrings_is _ _ _ _ g g (HG1.out.keep (same_box2 HS.out hP hge) (fun _ h => h)) (HG2.out.keep (same_box2 HS.out hP hge) (fun _ h => h)) true HZ.out).mono ?_; rintro e w2 ⟨rfl, hb2⟩; obtain ⟨⟨c10, c11, c12, c13⟩, ⟨c20, c21, c22, c23⟩, hb0, hsz2⟩ := boxes_after hb2; have HB0 := Lib.hid hb0; clear hb2 hb0)
      go_loopw [5] (fun i wr => ∃ j : Nat, j ≤ m ∧ i = .int .i64 j ∧ ks.take j = ls.take j ∧ Below w1.heap.size w1 wr ∧ w1.heap.size + 1 < wr.heap.size ∧ wr.cell? ⟨w1.heap.size, 3, none⟩ = some (.slice a m c) ∧ wr.cell? ⟨w1.heap.size + 1, 3, none⟩ = some (.slice a2 m c2)) (fun i _ => m - (intOf i).toNat)
      case atStart => exact ⟨0, Nat.zero_le _, rfl, rfl, HB0.out, hsz2, c13, c23⟩
      case round =>
        obtain ⟨j, hj, rfl, heq, hbel, hgt, hc1, hc2⟩ := hrel
        have HB := Lib.hid hbel
        have HE := Lib.hid heq
        clear heq
        by_cases hlt : j < m
        · have hjk : j < ks.length := by rw [← HN.out]; exact hlt
          have hjl : j < ls.length := by rw [← HL.out]; exact hjk
          have hu := List.getElem?_eq_getElem hjk
          have hv := List.getElem?_eq_getElem hjl
          have hi0 : (0 : Int) ≤ (j : Int) := Int.natCast_nonneg _
          have hi1 : (j : Int) < (m : Int) := by omega
          have hsr : Same P w wr := HS.out.trans (Same.below hbel fun b hb => Nat.lt_of_lt_of_le (hP b hb) hge)
          rcases HK.out with h0 | ⟨b, o, rfl, hb, hat⟩
          · rw [h0] at hjk; simp at hjk
          rcases HK2.out with h0 | ⟨b2, o2, rfl, hb2, hat2⟩
          · rw [h0] at hjl; simp at hjl
          have A1 := Lib.hid (At4.keep (hat j _ hu) hsr hb)
          have A2 := Lib.hid (At4.keep (hat2 j _ hv) hsr hb2)
          have HI1 := Lib.hid (HI.out j _ hu _ _ (HR2.out j _ hv))
          have HU := Lib.hid hu
          have HV := Lib.hid hv
          generalize ks[j] = u at *
          generalize ls[j] = v at *
          generalize R j = r1 at *
          generalize R2 j = r2 at *
          obtain ⟨ga3, gc3, da3, dc3⟩ := r1
          obtain ⟨ga4, gc4, da4, dc4⟩ := r2
          have HSR := Lib.hid hsr
          clear hat hat2 hu hv hsr hbel
          have k1 : ∀ n : Later wr, n.u.cell? ⟨w1.heap.size, 3, none⟩ = some (.slice (some ⟨b, o, none⟩) m c) := fun n => (n.h.cell (p := ⟨_, _, none⟩) (by show w1.heap.size < _; omega)).trans hc1
          have k2 : ∀ n : Later wr, n.u.cell? ⟨w1.heap.size + 1, 3, none⟩ = some (.slice (some ⟨b2, o2, none⟩) m c2) := fun n => (n.h.cell (p := ⟨_, _, none⟩) hgt).trans hc2
          have CALL : ∀ n : Later wr, Calls Try.prog 18 #[.agg #[.int .i64 u.kind, .string u.text, .slice ga3 u.gaps.length gc3, .slice da3 u.kids.length dc3], .agg #[.int .i64 v.kind, .string v.text, .slice ga4 v.gaps.length gc4, .slice da4 v.kids.length dc4]] n.u fun e w'' => e = .returned (.bool (eqT u v)) ∧ ∃ k : Later wr, w'' = k.u :=
            fun n => (HI1.out n.u (HSR.out.trans (Same.below n.h (fun b hb => by have := hP b hb; omega))) (by have := n.h.size; omega)).mono fun e w'' ⟨he, hw⟩ => ⟨he, ⟨w'', n.h.trans (hw.mono n.h.size)⟩, rfl⟩
          go_wp2_with fail
          clear hc1 hc2
          refine region_later (by kernel_rfl) (by kernel_rfl) ?_
          iterate 4 (go_big_quiet_step (fail))
          refine quiet_load (by rfl) 25 _ (by rfl) (.pointer (some ⟨b, o + j * 4, none⟩)) _ (by rfl) (fun x hx => by obtain ⟨n, rfl⟩ := hx; exact (at4_later A1.out n).load) ?_
          simp only [Act.put, List.setIfInBounds_toArray, List.set_cons_succ, List.set_cons_zero]
          iterate 4 (go_big_quiet_step (fail))
          refine quiet_load (by rfl) 25 _ (by rfl) (.pointer (some ⟨b2, o2 + j * 4, none⟩)) _ (by rfl) (fun x hx => by obtain ⟨n, rfl⟩ := hx; exact (at4_later A2.out n).load) ?_
          simp only [Act.put, List.setIfInBounds_toArray, List.set_cons_succ, List.set_cons_zero]
          go_big_quiet_step (exact CALL _)
          go_big_quiet_step (fail)
          refine wpQuiet_nil ?_
          intro _ hw'
          obtain ⟨n1, rfl⟩ := hw'
          have hsz := n1.h.size
          have HB3 := Lib.hid (HB.out.trans (n1.h.mono (by omega)))
          have q1 := k1 n1
          have q2 := k2 n1
          clear k1 k2 CALL
          cases hZ : eqT u v
          · have HNo := Lib.hid hZ
            clear hZ
            go_wp2_with fail
            go_ret
            exact ⟨ret_bool (eqT_no (fun e => by injection e with _ _ _ e4; subst e4; have e5 := HU.out.symm.trans HV.out; injection e5 with e5; have := eqT_iff.2 e5; rw [HNo.out] at this; cases this)).symm, HB3.out⟩
          · have HYes := Lib.hid (eqT_iff.1 hZ)
            clear hZ
            have Q1 := Lib.hid q1
            have Q2 := Lib.hid q2
            go_wp2_with fail
            exact ⟨⟨j + 1, by omega, by go_num, take_same HE.out HU.out (by rw [HYes.out]; exact HV.out), HB3.out, by omega, Q1.out, Q2.out⟩, by simp [intOf]; omega⟩
        · have hjn : j = m := by omega
          subst hjn
          have HR : Hid (ks = ls) := Lib.hid (by have := HE.out; rw [HN.out, List.take_length, HL.out, List.take_length] at this; exact this)
          clear hbel
          go_wp2_with fail
          go_ret
          exact ⟨ret_bool (eqT_iff.2 (by rw [HR.out])).symm, HB.out⟩
set_option maxHeartbeats 800000 in
set_option maxRecDepth 100000 in
theorem rsame_at {P : Nat → Prop} {w : World} {t : Pl.Tr} {r : Sl} (h : Tin P w t r) (hP : ∀ b, P b → b < w.heap.size) : ∀ (u : Pl.Tr) (q : Sl), Tin P w u q → ∀ w1, Same P w w1 → w.heap.size ≤ w1.heap.size →
    Calls Try.prog 26 #[.agg #[.int .i64 t.kind, .string t.text, .slice r.ga t.gaps.length r.gc, .slice r.da t.kids.length r.dc], .agg #[.int .i64 u.kind, .string u.text, .slice q.ga u.gaps.length q.gc, .slice q.da u.kids.length q.dc]] w1 fun e w' => e = .returned (.bool (sameT t u)) ∧ Below w1.heap.size w1 w' := by
  induction h with
  | mk t r R hs hg hl hk hr ih =>
    intro u q hu w1 hsame hge
    cases hu with
    | mk _ _ R2 hs2 hg2 hl2 hk2 hr2 =>
    cases t with
    | node k s g ks =>
    cases u with
    | node k2 s2 g2 ls =>
      obtain ⟨ga, gc, a, c⟩ := r
      obtain ⟨ga2, gc2, a2, c2⟩ := q
      simp only [Pl.Tr.kids, Pl.Tr.gaps, Pl.Tr.text, Pl.Tr.kind] at *
      have HK := Lib.hid hk
      have HK2 := Lib.hid hk2
      have HR2 := Lib.hid hr2
      have HI := Lib.hid ih
      have HS := Lib.hid hsame
      have HG1 := Lib.hid hg
      have HG2 := Lib.hid hg2
      have hgl1 := hg.1
      have hgl2 := hg2.1
      unfold maxLen at hl hl2 hgl1 hgl2
      clear hk hr ih hsame hk2 hr2 hg hg2
      rcases (Classical.em (k = k2)).symm with hkk | hkk
      · obtain ⟨hb1, hb2⟩ := int_ne hkk
        go_enter Try.func26, Try.ntmps26
        go_wp2_with fail
        go_ret
        exact ⟨ret_bool (sameT_no (fun e => hkk (by rw [Pl.bare, Pl.bare] at e; injection e))).symm, ((Below.refl _ _).alloc (Nat.le_refl _) _).alloc (by simp) _⟩
      subst hkk
      rcases (Classical.em (s = s2)).symm with hss | hss
      · obtain ⟨hb1, hb2⟩ := str_neq hss
        go_enter Try.func26, Try.ntmps26
        go_wp2_with fail
        go_ret
        exact ⟨ret_bool (sameT_no (fun e => hss (by rw [Pl.bare, Pl.bare] at e; injection e))).symm, ((Below.refl _ _).alloc (Nat.le_refl _) _).alloc (by simp) _⟩
      subst hss
      rcases (Classical.em (ks.length = ls.length)).symm with hnn | hnn
      · have HN2 : Hid (¬ ks.length = ls.length) := Lib.hid hnn
        obtain ⟨n, hn⟩ : ∃ n, n = ks.length := ⟨_, rfl⟩
        obtain ⟨m, hm⟩ : ∃ m, m = ls.length := ⟨_, rfl⟩
        obtain ⟨hb1, hb2⟩ := int_ne (x := (n : Int)) (y := m) (fun e => hnn (by omega))
        rw [← hn] at hl ⊢
        rw [← hm] at hl2 ⊢
        clear hn hm hnn
        go_enter Try.func26, Try.ntmps26
        go_wp2_with fail
        go_ret
        exact ⟨ret_bool (sameT_no (fun e => HN2.out (by rw [Pl.bare, Pl.bare] at e; injection e with _ _ _ e4; rw [Pl.bares_map, Pl.bares_map] at e4; have := congrArg List.length e4; simpa using this))).symm, ((Below.refl _ _).alloc (Nat.le_refl _) _).alloc (by simp) _⟩
      have HL := Lib.hid hnn
      obtain ⟨n, hn⟩ : ∃ n, n = ks.length := ⟨_, rfl⟩
      obtain ⟨m, hm⟩ : ∃ m, m = n := ⟨_, rfl⟩
      rw [← hnn, ← hn] at hl2 ⊢
      rw [← hn] at hl
      have HN := Lib.hid hn
      clear hn hnn
      subst hm
      go_enter Try.func26, Try.ntmps26
      go_wp2_with fail
      go_loopw [5] (fun i wr => ∃ j : Nat, j ≤ m ∧ i = .int .i64 j ∧ (ks.take j).map Pl.bare = (ls.take j).map Pl.bare ∧ Below w1.heap.size w1 wr ∧ w1.heap.size + 1 < wr.heap.size ∧ wr.cell? ⟨w1.heap.size, 3, none⟩ = some (.slice a m c) ∧ wr.cell? ⟨w1.heap.size + 1, 3, none⟩ = some (.slice a2 m c2)) (fun i _ => m - (intOf i).toNat)
      case atStart => exact ⟨0, Nat.zero_le _, rfl, rfl, ((Below.refl _ _).alloc (Nat.le_refl _) _).alloc (by simp) _, by simp, by simp, by simp⟩
      case round =>
        obtain ⟨j, hj, rfl, heq, hbel, hgt, hc1, hc2⟩ := hrel
        have HB := Lib.hid hbel
        have HE := Lib.hid heq
        clear heq
        by_cases hlt : j < m
        · have hjk : j < ks.length := by rw [← HN.out]; exact hlt
          have hjl : j < ls.length := by rw [← HL.out]; exact hjk
          have hu := List.getElem?_eq_getElem hjk
          have hv := List.getElem?_eq_getElem hjl
          have hi0 : (0 : Int) ≤ (j : Int) := Int.natCast_nonneg _
          have hi1 : (j : Int) < (m : Int) := by omega
          have hsr : Same P w wr := HS.out.trans (Same.below hbel fun b hb => Nat.lt_of_lt_of_le (hP b hb) hge)
          rcases HK.out with h0 | ⟨b, o, rfl, hb, hat⟩
          · rw [h0] at hjk; simp at hjk
          rcases HK2.out with h0 | ⟨b2, o2, rfl, hb2, hat2⟩
          · rw [h0] at hjl; simp at hjl
          have A1 := Lib.hid (At4.keep (hat j _ hu) hsr hb)
          have A2 := Lib.hid (At4.keep (hat2 j _ hv) hsr hb2)
          have HI1 := Lib.hid (HI.out j _ hu _ _ (HR2.out j _ hv))
          have HU := Lib.hid hu
          have HV := Lib.hid hv
          generalize ks[j] = u at *
          generalize ls[j] = v at *
          generalize R j = r1 at *
          generalize R2 j = r2 at *
          obtain ⟨ga3, gc3, da3, dc3⟩ := r1
          obtain ⟨ga4, gc4, da4, dc4⟩ := r2
          have HSR := Lib.hid hsr
          clear hat hat2 hu hv hsr hbel
          have k1 : ∀ n : Later wr, n.u.cell? ⟨w1.heap.size, 3, none⟩ = some (.slice (some ⟨b, o, none⟩) m c) := fun n => (n.h.cell (p := ⟨_, _, none⟩) (by show w1.heap.size < _; omega)).trans hc1
          have k2 : ∀ n : Later wr, n.u.cell? ⟨w1.heap.size + 1, 3, none⟩ = some (.slice (some ⟨b2, o2, none⟩) m c2) := fun n => (n.h.cell (p := ⟨_, _, none⟩) hgt).trans hc2
          have CALL : ∀ n : Later wr, Calls Try.prog 26 #[.agg #[.int .i64 u.kind, .string u.text, .slice ga3 u.gaps.length gc3, .slice da3 u.kids.length dc3], .agg #[.int .i64 v.kind, .string v.text, .slice ga4 v.gaps.length gc4, .slice da4 v.kids.length dc4]] n.u fun e w'' => e = .returned (.bool (sameT u v)) ∧ ∃ k : Later wr, w'' = k.u :=
            fun n => (HI1.out n.u (HSR.out.trans (Same.below n.h (fun b hb => by have := hP b hb; omega))) (by have := n.h.size; omega)).mono fun e w'' ⟨he, hw⟩ => ⟨he, ⟨w'', n.h.trans (hw.mono n.h.size)⟩, rfl⟩
          go_wp2_with fail
          clear hc1 hc2
          refine region_later (by kernel_rfl) (by kernel_rfl) ?_
          iterate 4 (go_big_quiet_step (fail))
          refine quiet_load (by rfl) 25 _ (by rfl) (.pointer (some ⟨b, o + j * 4, none⟩)) _ (by rfl) (fun x hx => by obtain ⟨n, rfl⟩ := hx; exact (at4_later A1.out n).load) ?_
          simp only [Act.put, List.setIfInBounds_toArray, List.set_cons_succ, List.set_cons_zero]
          iterate 4 (go_big_quiet_step (fail))
          refine quiet_load (by rfl) 25 _ (by rfl) (.pointer (some ⟨b2, o2 + j * 4, none⟩)) _ (by rfl) (fun x hx => by obtain ⟨n, rfl⟩ := hx; exact (at4_later A2.out n).load) ?_
          simp only [Act.put, List.setIfInBounds_toArray, List.set_cons_succ, List.set_cons_zero]
          go_big_quiet_step (exact CALL _)
          go_big_quiet_step (fail)
          refine wpQuiet_nil ?_
          intro _ hw'
          obtain ⟨n1, rfl⟩ := hw'
          have hsz := n1.h.size
          have HB3 := Lib.hid (HB.out.trans (n1.h.mono (by omega)))
          have q1 := k1 n1
          have q2 := k2 n1
          clear k1 k2 CALL
          cases hZ : sameT u v
          · have HNo := Lib.hid hZ
            clear hZ
            go_wp2_with fail
            go_ret
            exact ⟨ret_bool (sameT_no (fun e => by rw [Pl.bare, Pl.bare] at e; injection e with _ _ _ e4; rw [Pl.bares_map, Pl.bares_map] at e4; have e5 := congrArg (fun l => l[j]?) e4; simp only [List.getElem?_map, HU.out, HV.out, Option.map_some] at e5; injection e5 with e5; have := sameT_iff.2 e5; rw [HNo.out] at this; cases this)).symm, HB3.out⟩
          · have HYes := Lib.hid (sameT_iff.1 hZ)
            clear hZ
            have Q1 := Lib.hid q1
            have Q2 := Lib.hid q2
            go_wp2_with fail
            exact ⟨⟨j + 1, by omega, by go_num, by rw [List.map_take, List.map_take]; exact take_same (by have := HE.out; rw [List.map_take, List.map_take] at this; exact this) (by rw [List.getElem?_map, HU.out]; rfl) (by rw [List.getElem?_map, HV.out, HYes.out]; rfl), HB3.out, by omega, Q1.out, Q2.out⟩, by simp [intOf]; omega⟩
        · have hjn : j = m := by omega
          subst hjn
          have HR : Hid (ks.map Pl.bare = ls.map Pl.bare) := Lib.hid (by have := HE.out; rw [HN.out, List.take_length, HL.out, List.take_length] at this; exact this)
          clear hbel
          go_wp2_with fail
          go_ret
          exact ⟨ret_bool (sameT_iff.2 (by rw [Pl.bare, Pl.bare, Pl.bares_map, Pl.bares_map, HR.out])).symm, HB.out⟩
end Go.Proofs.Ytidmbdilediplaa
