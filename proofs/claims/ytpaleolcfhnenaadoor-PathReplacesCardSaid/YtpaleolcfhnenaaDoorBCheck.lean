/- The walks of firstError and Check. -/
import Derived.Test.YtpaleolcfhnenaaDoorBSize
namespace Go.Proofs.YtpaleolcfhnenaaDoor
open Go.RowKit
set_option linter.unusedVariables false
set_option linter.unusedSimpArgs false

theorem firsts_drop (ks : List Pl.Tr) (j : Nat) (h : j < ks.length) : Pl.firstsE (ks.drop j) = if Pl.firstE ks[j] ≠ 0 then Pl.firstE ks[j] else Pl.firstsE (ks.drop (j + 1)) := by
  rw [List.drop_eq_getElem_cons h, Pl.firstsE]
theorem int_neq2 {v : Int} (h : ¬ v = 0) : (v != 0) = true ∧ (v == 0) = false := by
  have : (v == 0) = false := beq_eq_false_iff_ne.2 h
  exact ⟨by simpa using h, this⟩

set_option maxHeartbeats 1600000 in
theorem first_step (k : Int) (s : ByteArray) (g : List ByteArray) (r : Sl) (ks : List Pl.Tr) (w : World) (hT : Tabs w) (h : IsT w (.node k s g ks) r)
    (ih : Each 65 w ks fun u => .int .i64 (Pl.firstE u)) :
    Calls Tryd.prog 65 #[.agg #[.int .i64 k, .string s, .slice r.ga g.length r.gc, .slice r.da ks.length r.dc]] w fun e w' => e = .returned (.int .i64 (if Pl.nodeE k s g ks ≠ 0 then Pl.nodeE k s g ks else Pl.firstsE ks)) ∧ Below w.heap.size w w' := by
  obtain ⟨hs, hg, hl, R, hks, hr⟩ := h.parts
  have HT := Lib.hid hT
  have HH := Lib.hid h
  obtain ⟨v, hv⟩ : ∃ v, v = Pl.nodeE k s g ks := ⟨_, rfl⟩
  have HN := Lib.hid (fun w2 (hb : Below w.heap.size w w2) => nodeE_is k s g ks r v hv.symm w2 (hT.later hb) (h.later hb))
  rw [← hv]
  unfold maxLen at hl
  obtain ⟨ga, gc, da, dc⟩ := r
  obtain ⟨m, hm⟩ : ∃ m, m = ks.length := ⟨_, rfl⟩
  obtain ⟨n, hn⟩ : ∃ n, n = g.length := ⟨_, rfl⟩
  simp only at HN ⊢
  rw [← hm, ← hn] at HN ⊢
  rw [← hm] at hl
  have HM := Lib.hid hm
  have HK := Lib.hid hks
  have HR := Lib.hid hr
  have HI := Lib.hid ih
  have B0 := Lib.hid (box_below w (.cells #[.int .i64 k, .string s, .slice ga n gc, .slice da m dc] 25))
  have A0 := Lib.hid (at4_new w k s (.slice ga n gc) (.slice da m dc))
  clear hm hks hr ih hv hn hT h hs hg
  by_cases h0 : v = 0
  case neg =>
    rw [if_pos h0]
    obtain ⟨v1, v2⟩ := int_neq2 h0
    clear h0
    go_enter Tryd.func65, Tryd.ntmps65
    go_wp2_with (go_at_call 77; refine (HN.out _ B0.out).mono ?_; rintro e w2 ⟨rfl, hb2⟩; have HB2 := Lib.hid hb2; clear hb2)
    go_ret
    exact ⟨rfl, B0.out.trans (HB2.out.mono B0.out.size)⟩
  subst h0
  rw [if_neg (by decide)]
  obtain ⟨b, hb⟩ : ∃ b, b = Pl.firstsE ks := ⟨_, rfl⟩
  rw [← hb]
  have HB := Lib.hid hb
  clear hb
  go_enter Tryd.func65, Tryd.ntmps65
  go_wp2_with (go_at_call 77; refine (HN.out _ B0.out).mono ?_; rintro e w2 ⟨rfl, hb2⟩; have B2 := Lib.hid (B0.out.trans (hb2.mono B0.out.size)); obtain ⟨c0, c1, c2, c3⟩ := at4_below A0.out hb2; clear hb2)
  clear c0 c1 c2 c3
  go_loopw [15] (fun i wr => ∃ j : Nat, j ≤ m ∧ i = .int .i64 j ∧ Pl.firstsE (ks.drop j) = b ∧ Below w.heap.size w wr) (fun i _ => m - (intOf i).toNat)
  case atStart => exact ⟨0, Nat.zero_le _, rfl, HB.out.symm, B2.out⟩
  case round =>
    obtain ⟨j, hj, rfl, hsum, hbel⟩ := hrel
    have HBL := Lib.hid hbel
    have HS := Lib.hid hsum
    clear hsum
    by_cases hlt : j < m
    · have hjk : j < ks.length := by rw [← HM.out]; exact hlt
      have hu := List.getElem?_eq_getElem hjk
      have HD := Lib.hid (firsts_drop ks j hjk)
      have HI1 := Lib.hid (HI.out j _ hu)
      have HR1 := Lib.hid (HR.out j _ hu)
      rcases HK.out with h0 | ⟨b1, o1, rfl, hb1, hat⟩
      · rw [h0] at hjk; simp at hjk
      have l1 := Lib.hid (At4.keep (hat j _ hu) (Same.below hbel fun _ h => h) hb1).range
      generalize ks[j] = u at *
      generalize R j = r1 at *
      obtain ⟨ga1, gc1, da1, dc1⟩ := r1
      have hbw := hbel.trans ((box_below wr (.cells #[.int .i64 u.kind, .string u.text, .slice ga1 u.gaps.length gc1, .slice da1 u.kids.length dc1] 25)).mono hbel.size)
      have HBW := Lib.hid hbw
      have HC := Lib.hid (HI1.out _ hbw ⟨ga1, gc1, da1, dc1⟩ (HR1.out.later hbw))
      obtain ⟨y, hy⟩ : ∃ y, y = Pl.firstE u := ⟨_, rfl⟩
      have HD2 : Hid (b = if y ≠ 0 then y else Pl.firstsE (ks.drop (j + 1))) := Lib.hid (by rw [← HS.out, HD.out, hy])
      have HC2 : Hid (Calls Tryd.prog 65 #[.agg #[.int .i64 u.kind, .string u.text, .slice ga1 u.gaps.length gc1, .slice da1 u.kids.length dc1]] (wr.alloc (.cells #[.int .i64 u.kind, .string u.text, .slice ga1 u.gaps.length gc1, .slice da1 u.kids.length dc1] 25)) fun e w' => e = .returned (.int .i64 y) ∧ Below (wr.alloc (.cells #[.int .i64 u.kind, .string u.text, .slice ga1 u.gaps.length gc1, .slice da1 u.kids.length dc1] 25)).heap.size (wr.alloc (.cells #[.int .i64 u.kind, .string u.text, .slice ga1 u.gaps.length gc1, .slice da1 u.kids.length dc1] 25)) w') := Lib.hid (by rw [hy]; exact HC.out)
      clear hat hu hbel hbw hy HC
      by_cases hy0 : y = 0
      · have HY : Hid (Pl.firstsE (ks.drop (j + 1)) = b) := Lib.hid (by rw [HD2.out, if_neg (by simpa using hy0)])
        subst hy0
        go_wp2_with (first
          | (refine wpList_load_mid rfl 25 _ rfl b1 (o1 + j * 4) rfl [.int .i64 u.kind, .string u.text, .slice ga1 u.gaps.length gc1, .slice da1 u.kids.length dc1] _ l1.out Tryd.underlying25 rfl sizeN ?_)
          | (go_at_call 65; refine HC2.out.mono ?_; rintro e w' ⟨rfl, hb2⟩; have HB2 := Lib.hid hb2; clear hb2))
        exact ⟨⟨j + 1, by omega, by go_num, HY.out, HBW.out.trans (HB2.out.mono HBW.out.size)⟩, by simp [intOf]; omega⟩
      · have HY : Hid (y = b) := Lib.hid (by rw [HD2.out, if_pos hy0])
        obtain ⟨v1, v2⟩ := int_neq2 hy0
        clear hy0
        go_wp2_with (first
          | (refine wpList_load_mid rfl 25 _ rfl b1 (o1 + j * 4) rfl [.int .i64 u.kind, .string u.text, .slice ga1 u.gaps.length gc1, .slice da1 u.kids.length dc1] _ l1.out Tryd.underlying25 rfl sizeN ?_)
          | (go_at_call 65; refine HC2.out.mono ?_; rintro e w' ⟨rfl, hb2⟩; have HB2 := Lib.hid hb2; clear hb2))
        go_ret
        exact ⟨ret_int HY.out, HBW.out.trans (HB2.out.mono HBW.out.size)⟩
    · obtain rfl : j = m := by omega
      have HYes : Hid (b = 0) := Lib.hid (by
        have e := HS.out
        rw [List.drop_of_length_le (by rw [HM.out]; exact Nat.le_refl _)] at e
        exact e.symm)
      go_wp2_with fail
      go_ret
      exact ⟨ret_int HYes.out.symm, HBL.out⟩
theorem first_at (t : Pl.Tr) : ∀ w r, Tabs w → IsT w t r → Calls Tryd.prog 65 #[.agg #[.int .i64 t.kind, .string t.text, .slice r.ga t.gaps.length r.gc, .slice r.da t.kids.length r.dc]] w fun e w' => e = .returned (.int .i64 (Pl.firstE t)) ∧ Below w.heap.size w w' := by
  refine Pl.Tr.ind (M := fun t => ∀ w r, Tabs w → IsT w t r → Calls Tryd.prog 65 #[.agg #[.int .i64 t.kind, .string t.text, .slice r.ga t.gaps.length r.gc, .slice r.da t.kids.length r.dc]] w fun e w' => e = .returned (.int .i64 (Pl.firstE t)) ∧ Below w.heap.size w w') ?_ t
  intro k s g ks ih w r hT h
  have := first_step k s g r ks w hT h (fun j u hu w2 hb r2 h2 => ih u (List.mem_of_getElem? hu) w2 r2 (hT.later hb) h2)
  rw [Pl.firstE]
  exact this

/- ### Check -/
theorem box_at (t : Pl.Tr) (r : Sl) (w : World) : At4 (w.alloc (.cells #[.int .i64 t.kind, .string t.text, .slice r.ga t.gaps.length r.gc, .slice r.da t.kids.length r.dc] 25)) w.heap.size 0 t.kind t.text (.slice r.ga t.gaps.length r.gc) (.slice r.da t.kids.length r.dc) := at4_new _ _ _ _ _
set_option maxHeartbeats 1600000 in
theorem check_at (t : Pl.Tr) (w : World) (r : Sl) (hT : Tabs w) (h : IsT w t r) :
    Calls Tryd.prog 53 #[.agg #[.int .i64 t.kind, .string t.text, .slice r.ga t.gaps.length r.gc, .slice r.da t.kids.length r.dc]] w fun e w' => e = .returned (.int .i64 (Pl.chk t)) ∧ Below w.heap.size w w' := by
  obtain ⟨z, hz⟩ : ∃ z, z = Pl.szw t := ⟨_, rfl⟩
  obtain ⟨y, hy⟩ : ∃ y, y = Pl.htw t := ⟨_, rfl⟩
  obtain ⟨c, hc⟩ : ∃ c, c = Pl.crowd t := ⟨_, rfl⟩
  obtain ⟨f, hf⟩ : ∃ f, f = Pl.firstE t := ⟨_, rfl⟩
  have CS := Lib.hid (fun w2 (hb : Below w.heap.size w w2) => size_at t w2 r (h.later hb))
  have CH := Lib.hid (fun w2 (hb : Below w.heap.size w w2) => height_at t w2 r (h.later hb))
  have CC := Lib.hid (fun w2 (hb : Below w.heap.size w w2) => crowd_at t w2 r (h.later hb))
  have CF := Lib.hid (fun w2 (hb : Below w.heap.size w w2) => first_at t w2 r (hT.later hb) (h.later hb))
  have A0 := Lib.hid (box_at t r w)
  have B0 := Lib.hid (box_below w (.cells #[.int .i64 t.kind, .string t.text, .slice r.ga t.gaps.length r.gc, .slice r.da t.kids.length r.dc] 25))
  unfold Pl.chk
  rw [← hz] at CS
  rw [← hy] at CH
  rw [← hc] at CC
  rw [← hf] at CF
  rw [← hz, ← hy, ← hc, ← hf]
  clear hz hy hc hf h hT
  generalize t.kind = k at *
  generalize t.text = s at *
  generalize t.gaps.length = n at *
  generalize t.kids.length = m at *
  obtain ⟨ga, gc, da, dc⟩ := r
  simp only at *
  have one : ∀ {α : Type}, α → True := fun _ => trivial
  by_cases h1 : 4000 < z
  · rw [if_pos (.inl h1)]
    go_enter Tryd.func53, Tryd.ntmps53
    go_wp2_with (go_at_call 37; refine (CS.out _ B0.out).mono ?_; rintro e w1 ⟨rfl, hb1⟩; have A1 := Lib.hid (at4_below A0.out hb1); have B1 := Lib.hid (B0.out.trans (hb1.mono B0.out.size)); obtain ⟨c0, c1, c2, c3⟩ := A1.out; clear hb1)
    go_ret
    exact ⟨rfl, B1.out⟩
  by_cases h2 : 60 < y
  · rw [if_pos (.inr (.inl h2))]
    go_enter Tryd.func53, Tryd.ntmps53
    go_wp2_with (first
      | (go_at_call 37; refine (CS.out _ B0.out).mono ?_; rintro e w1 ⟨rfl, hb1⟩; have A1 := Lib.hid (at4_below A0.out hb1); have B1 := Lib.hid (B0.out.trans (hb1.mono B0.out.size)); obtain ⟨c0, c1, c2, c3⟩ := A1.out; clear hb1)
      | (go_at_call 63; refine (CH.out _ B1.out).mono ?_; rintro e w2 ⟨rfl, hb2⟩; have A2 := Lib.hid (at4_below A1.out hb2); have B2 := Lib.hid (B1.out.trans (hb2.mono B1.out.size)); obtain ⟨c0, c1, c2, c3⟩ := A2.out; clear hb2))
    go_ret
    exact ⟨rfl, B2.out⟩
  cases c
  case true =>
    rw [if_pos (.inr (.inr rfl))]
    go_enter Tryd.func53, Tryd.ntmps53
    go_wp2_with (first
      | (go_at_call 37; refine (CS.out _ B0.out).mono ?_; rintro e w1 ⟨rfl, hb1⟩; have A1 := Lib.hid (at4_below A0.out hb1); have B1 := Lib.hid (B0.out.trans (hb1.mono B0.out.size)); obtain ⟨c0, c1, c2, c3⟩ := A1.out; clear hb1)
      | (go_at_call 63; refine (CH.out _ B1.out).mono ?_; rintro e w2 ⟨rfl, hb2⟩; have A2 := Lib.hid (at4_below A1.out hb2); have B2 := Lib.hid (B1.out.trans (hb2.mono B1.out.size)); obtain ⟨c0, c1, c2, c3⟩ := A2.out; clear hb2)
      | (go_at_call 64; refine (CC.out _ B2.out).mono ?_; rintro e w3 ⟨rfl, hb3⟩; have A3 := Lib.hid (at4_below A2.out hb3); have B3 := Lib.hid (B2.out.trans (hb3.mono B2.out.size)); obtain ⟨c0, c1, c2, c3⟩ := A3.out; clear hb3))
    go_ret
    exact ⟨rfl, B3.out⟩
  rw [if_neg (by rintro (h | h | h); exact h1 h; exact h2 h; cases h)]
  go_enter Tryd.func53, Tryd.ntmps53
  go_wp2_with (first
    | (go_at_call 37; refine (CS.out _ B0.out).mono ?_; rintro e w1 ⟨rfl, hb1⟩; have A1 := Lib.hid (at4_below A0.out hb1); have B1 := Lib.hid (B0.out.trans (hb1.mono B0.out.size)); obtain ⟨c0, c1, c2, c3⟩ := A1.out; clear hb1)
    | (go_at_call 63; refine (CH.out _ B1.out).mono ?_; rintro e w2 ⟨rfl, hb2⟩; have A2 := Lib.hid (at4_below A1.out hb2); have B2 := Lib.hid (B1.out.trans (hb2.mono B1.out.size)); obtain ⟨c0, c1, c2, c3⟩ := A2.out; clear hb2)
    | (go_at_call 64; refine (CC.out _ B2.out).mono ?_; rintro e w3 ⟨rfl, hb3⟩; have A3 := Lib.hid (at4_below A2.out hb3); have B3 := Lib.hid (B2.out.trans (hb3.mono B2.out.size)); obtain ⟨c0, c1, c2, c3⟩ := A3.out; clear hb3)
    | (go_at_call 65; refine (CF.out _ B3.out).mono ?_; rintro e w4 ⟨rfl, hb4⟩; have B4 := Lib.hid (B3.out.trans (hb4.mono B3.out.size)); clear hb4))
  go_ret
  exact ⟨rfl, B4.out⟩
theorem check_is (t : Pl.Tr) (w : World) (r : Sl) (v : Int) (hv : Pl.chk t = v) (hT : Tabs w) (h : IsT w t r) :
    Calls Tryd.prog 53 #[.agg #[.int .i64 t.kind, .string t.text, .slice r.ga t.gaps.length r.gc, .slice r.da t.kids.length r.dc]] w fun e w' => e = .returned (.int .i64 v) ∧ Below w.heap.size w w' := hv ▸ check_at t w r hT h
end Go.Proofs.YtpaleolcfhnenaaDoor
