/- The walks of the tree's reference: Fits, Strings, Equal, Same, Size, At. -/
import Derived.Test.YtpaleolcfhnenaaDoorMore
import Derived.Test.YtpaleolcfhnenaaDoorPut
namespace Go.Proofs.YtpaleolcfhnenaaDoor.Rt
open Go.RowKit
set_option linter.unusedVariables false
set_option linter.unusedSimpArgs false

/-- What is left is below zero, or what the tree does not take. -/
def LeftP (t : Pl.Tr) (nodes : Int) (w : World) (e : Ending) (w' : World) : Prop :=
  ∃ q : Int, (q = -1 ∨ (0 ≤ q ∧ q + Pl.sz t = nodes)) ∧ e = .returned (.int .i64 q) ∧ Below w.heap.size w w'
set_option maxHeartbeats 1600000 in
set_option maxRecDepth 100000 in
theorem left_at {P : Nat → Prop} {w : World} {t : Pl.Tr} {r : Sl} (h : Tin P w t r) (hP : ∀ b, P b → b < w.heap.size) : ∀ w1, Same P w w1 → w.heap.size ≤ w1.heap.size → ∀ nodes levels : Int, nodes ≤ 1000000 → -1000000 ≤ nodes → levels ≤ 1000000 → -1000000 ≤ levels →
    Calls Tryd.prog 50 #[.agg #[.int .i64 t.kind, .string t.text, .slice r.ga t.gaps.length r.gc, .slice r.da t.kids.length r.dc], .int .i64 nodes, .int .i64 levels] w1 (LeftP t nodes w1) := by
  induction h with
  | mk t r R hs hg hl hk hr hcap ih =>
    intro w1 hsame hge nodes levels hn1 hn0 hl1 hl0
    cases t with
    | node k s g ks =>
      obtain ⟨ga, gc, a, c⟩ := r
      simp only [Pl.Tr.kids, Pl.Tr.gaps, Pl.Tr.text, Pl.Tr.kind] at *
      have hsz : Pl.sz (.node k s g ks) = Pl.szs ks + 1 := by rw [Pl.sz]
      have HSZ := Lib.hid hsz
      unfold maxLen at hl
      obtain ⟨n, hn⟩ : ∃ n, n = ks.length := ⟨_, rfl⟩
      rw [← hn] at hl ⊢
      have HN := Lib.hid hn
      have HK := Lib.hid hk
      have HI := Lib.hid ih
      have HS := Lib.hid hsame
      have hz0 : Pl.szs (ks.take 0) = 0 := by simp [Pl.szs]
      have HZ := Lib.hid hz0
      clear hn hk hg hr ih hsame hz0 hsz
      by_cases c1 : nodes < 1
      · go_enter Tryd.func50, Tryd.ntmps50
        go_wp2_with fail
        go_ret
        exact ⟨-1, .inl rfl, rfl, (Below.refl _ _).alloc (Nat.le_refl _) _⟩
      by_cases c2 : levels < 1
      · go_enter Tryd.func50, Tryd.ntmps50
        go_wp2_with fail
        go_ret
        exact ⟨-1, .inl rfl, rfl, (Below.refl _ _).alloc (Nat.le_refl _) _⟩
      by_cases c3 : nodes < (n : Int)
      · go_enter Tryd.func50, Tryd.ntmps50
        go_wp2_with fail
        go_ret
        exact ⟨-1, .inl rfl, rfl, (Below.refl _ _).alloc (Nat.le_refl _) _⟩
      go_enter Tryd.func50, Tryd.ntmps50
      go_wp2_with fail
      go_loopw [7, 8] (fun s i wr => ∃ (j : Nat) (m : Int), j ≤ n ∧ i = .int .i64 j ∧ s = .int .i64 m ∧ (0 ≤ m ∧ m + (Pl.szs (ks.take j) + 1 : Nat) = nodes) ∧ Below w1.heap.size w1 wr ∧ w1.heap.size < wr.heap.size ∧ wr.cell? ⟨w1.heap.size, 3, none⟩ = some (.slice a n c)) (fun _ i _ => n - (intOf i).toNat)
      case atStart => exact ⟨0, nodes - 1, Nat.zero_le _, rfl, rfl, ⟨by omega, by rw [HZ.out]; omega⟩, (Below.refl _ _).alloc (Nat.le_refl _) _, by simp, by simp⟩
      case round =>
        obtain ⟨j, m, hj, rfl, rfl, ⟨hm0, hm⟩, hbel, hgt, hcell⟩ := hrel
        have HB := Lib.hid hbel
        have HC := Lib.hid hcell
        by_cases hlt : j < n
        · have hjk : j < ks.length := by rw [← HN.out]; exact hlt
          have hu := List.getElem?_eq_getElem hjk
          have HT := Lib.hid (Pl.szs_take ks j hjk)
          have hsr : Same P w wr := HS.out.trans (Same.below hbel fun b hb => Nat.lt_of_lt_of_le (hP b hb) hge)
          rcases HK.out with h0 | ⟨b, o, rfl, hb, hat⟩
          · rw [h0] at hjk; simp at hjk
          · have l1 := Lib.hid (At4.keep (hat j _ hu) hsr hb).range
            have HI1 := Lib.hid (HI.out j _ hu)
            generalize ks[j] = u at *
            generalize R j = r1 at *
            obtain ⟨ga1, gc1, da1, dc1⟩ := r1
            have hm1 : m ≤ 1000000 := by omega
            have HM := Lib.hid hm
            have HSR := Lib.hid hsr
            clear hat hm hu hsr hbel
            go_wp2_with (first
              | (refine wpList_load_mid rfl 25 _ rfl b (o + j * 4) rfl [.int .i64 u.kind, .string u.text, .slice ga1 u.gaps.length gc1, .slice da1 u.kids.length dc1] _ l1.out Tryd.underlying25 rfl sizeN ?_)
              | (go_at_call 50; refine (HI1.out _ HSR.out (by omega) m (levels - 1) (by omega) (by omega) (by omega) (by omega)).mono ?_; rintro e w' ⟨q, hq, rfl, hb2⟩; have HB2 := Lib.hid hb2; clear hb2; have HQ := Lib.hid hq; by_cases hq0 : q < 0))
            · go_ret
              exact ⟨-1, .inl rfl, rfl, HB.out.trans (HB2.out.mono (by omega))⟩
            · exact ⟨⟨j + 1, q, by omega, by go_num, rfl, ⟨by omega, by have := HQ.out; have := HM.out; rw [HT.out]; omega⟩, HB.out.trans (HB2.out.mono (by omega)), by have := HB2.out.size; omega, (HB2.out.cell (p := ⟨_, _, none⟩) hgt).trans HC.out⟩, by simp [intOf]; omega⟩
        · have hjn : j = n := by omega
          subst hjn
          have HR : Hid (m + (Pl.szs ks + 1 : Nat) = nodes) := Lib.hid (by rw [HN.out, List.take_length] at hm; exact hm)
          clear hm hbel
          go_wp2_with fail
          go_ret
          exact ⟨m, .inr ⟨hm0, by rw [HSZ.out]; exact HR.out⟩, rfl, HB.out⟩
/-- A box of a node: its four cells. -/
def Box (w : World) (b : Nat) (k : Int) (s : ByteArray) (gv kv : Value) : Prop :=
  w.cell? ⟨b, 0, none⟩ = some (.int .i64 k) ∧ w.cell? ⟨b, 1, none⟩ = some (.string s) ∧ w.cell? ⟨b, 2, none⟩ = some gv ∧ w.cell? ⟨b, 3, none⟩ = some kv
theorem box_new (w : World) (k : Int) (s : ByteArray) (gv kv : Value) : Box (w.alloc (.cells #[.int .i64 k, .string s, gv, kv] 25)) w.heap.size k s gv kv := by
  refine ⟨?_, ?_, ?_, ?_⟩ <;> simp
theorem Box.keep {w w' : World} {b : Nat} {k : Int} {s : ByteArray} {gv kv : Value} (h : Box w b k s gv kv) (hb : w'.heap[b]? = w.heap[b]?) : Box w' b k s gv kv :=
  ⟨(World.cell?_of_block (w := w) (a := ⟨b, 0, none⟩) hb).trans h.1, (World.cell?_of_block (w := w) (a := ⟨b, 1, none⟩) hb).trans h.2.1, (World.cell?_of_block (w := w) (a := ⟨b, 2, none⟩) hb).trans h.2.2.1, (World.cell?_of_block (w := w) (a := ⟨b, 3, none⟩) hb).trans h.2.2.2⟩
theorem Box.at4 {w : World} {b : Nat} {k : Int} {s : ByteArray} {gv kv : Value} (h : Box w b k s gv kv) : At4 w b 0 k s gv kv := h
theorem mem_ne {α : Type} {a b : List α} (h : a ≠ b) (hl : a.length = b.length) : ∃ (j : Nat) (x y : α), a[j]? = some x ∧ b[j]? = some y ∧ x ≠ y := by
  induction a generalizing b with
  | nil =>
    cases b with
    | nil => exact absurd rfl h
    | cons _ _ => cases hl
  | cons x a ih =>
    cases b with
    | nil => cases hl
    | cons y b =>
      by_cases hxy : x = y
      · subst hxy
        obtain ⟨j, u, v, h1, h2, h3⟩ := ih (fun e => h (by rw [e])) (by simpa using hl)
        exact ⟨j + 1, u, v, h1, h2, h3⟩
      · exact ⟨0, x, y, rfl, rfl, hxy⟩
theorem take_same {α : Type} {a b : List α} {k : Nat} {x : α} (h : a.take k = b.take k) (ha : a[k]? = some x) (hb : b[k]? = some x) : a.take (k + 1) = b.take (k + 1) := by
  rw [List.take_add_one, List.take_add_one, ha, hb, h]
theorem take_differ {α : Type} {a b : List α} {k : Nat} {x y : α} (ha : a[k]? = some x) (hb : b[k]? = some y) (h : x ≠ y) : a ≠ b := by
  rintro rfl; rw [ha] at hb; exact h (Option.some.inj hb)
theorem str_ne {x y : ByteArray} (h : x ≠ y) : (x.toList == y.toList) = false := by
  have : x.toList ≠ y.toList := fun e => h (by
    have e2 : x.data.toList = y.data.toList := by
      rw [← ByteArray.toList_eq, ← ByteArray.toList_eq] <;> exact e
    cases x; cases y; simp at e2; rw [e2])
  simpa using this
set_option maxHeartbeats 400000 in
theorem rstrings_any {P Q : Nat → Prop} {w : World} (a b : Option Addr) (c d : Nat) (xs ys : List ByteArray) (hx : Strs P w a xs) (hy : Strs Q w b ys) :
    Calls Tryd.prog 40 #[.slice a xs.length c, .slice b ys.length d] w fun e w' => e = .returned (.bool (decide (xs = ys))) ∧ Below w.heap.size w w' := by
  have hn1 : xs.length ≤ maxLen := hx.1
  have hn2 : ys.length ≤ maxLen := hy.1
  unfold maxLen at hn1 hn2
  by_cases hl : xs.length = ys.length
  · have HX := Lib.hid hx
    have HY := Lib.hid hy
    have HLen := Lib.hid hl
    clear hx hy
    rw [← hl]
    obtain ⟨n, hn⟩ : ∃ n, n = xs.length := ⟨_, rfl⟩
    have HN := Lib.hid hn
    rw [← hn] at hn1 ⊢
    clear hl hn hn2
    go_enter Tryd.func40, Tryd.ntmps40
    go_wp2_with fail
    go_loopw [5] (fun i wr => ∃ k nq : Nat, k ≤ n ∧ i = .int .i64 k ∧ xs.take k = ys.take k ∧ wr = w.drewN nq) (fun i _ => n - (intOf i).toNat)
    case atStart => exact ⟨0, 0, Nat.zero_le _, rfl, rfl, rfl⟩
    case round =>
      obtain ⟨k, nq, hk, rfl, heq, rfl⟩ := hrel
      have HE := Lib.hid heq
      clear heq
      by_cases hlt : k < n
      · have hkx : k < xs.length := by rw [← HN.out]; exact hlt
        have hky : k < ys.length := by rw [← HLen.out]; exact hkx
        have hgx := List.getElem?_eq_getElem hkx
        have hgy := List.getElem?_eq_getElem hky
        have hi0 : (0 : Int) ≤ (k : Int) := Int.natCast_nonneg _
        have hi1 : (k : Int) < (n : Int) := by omega
        rcases HX.out.2.2 with h0 | ⟨b1, o1, rfl, _, hat1⟩
        · rw [h0] at hkx; simp at hkx
        · rcases HY.out.2.2 with h0 | ⟨b2, o2, rfl, _, hat2⟩
          · rw [h0] at hky; simp at hky
          · have c1 := hat1 k _ hgx
            have c2 := hat2 k _ hgy
            have HGX := Lib.hid hgx
            have HGY := Lib.hid hgy
            generalize xs[k] = x at *
            generalize ys[k] = y at *
            clear hat1 hat2 hgx hgy
            by_cases hxy : x = y
            · subst hxy
              have HT := Lib.hid (take_same HE.out HGX.out HGY.out)
              have hb : (x.toList != x.toList) = false := by simp
              go_wp2_with fail
              go_quiet (fail)
              go_wp2_with fail
              exact ⟨⟨k + 1, _, by omega, by go_num, HT.out, rfl⟩, by simp [intOf]; omega⟩
            · have HD := Lib.hid (take_differ HGX.out HGY.out hxy)
              have hb := str_ne hxy
              have hb2 : (x.toList != y.toList) = true := by rw [bne, hb]; rfl
              clear hxy
              go_wp2_with fail
              go_quiet (fail)
              go_wp2_with fail
              go_ret
              exact ⟨ret_bool (decide_eq_false HD.out).symm, ⟨rfl, rfl, rfl, Nat.le_refl _, fun _ _ => rfl⟩⟩
      · have hkn : k = n := by omega
        subst hkn
        have HD : Hid (xs = ys) := Lib.hid (by have := HE.out; rw [HN.out, List.take_length] at this; rw [this, HLen.out, List.take_length])
        go_wp2_with fail
        go_ret
        exact ⟨ret_bool (decide_eq_true HD.out).symm, below_drewN _ _⟩
  · have HD := Lib.hid (show xs ≠ ys from fun e => hl (by rw [e]))
    obtain ⟨n, hn⟩ : ∃ n, n = xs.length := ⟨_, rfl⟩
    obtain ⟨m, hm⟩ : ∃ m, m = ys.length := ⟨_, rfl⟩
    rw [← hn, ← hm] at hl ⊢
    have hl2 : ((n : Int) == (m : Int)) = false := by simpa using fun h : (n : Int) = m => hl (by omega)
    have hl3 : ((n : Int) != (m : Int)) = true := by simpa using fun h : (n : Int) = m => hl (by omega)
    clear hn hm hx hy hl
    go_enter Tryd.func40, Tryd.ntmps40
    go_wp2_with fail
    go_ret
    exact ⟨ret_bool (decide_eq_false HD.out).symm, Below.refl _ _⟩
/-- Are two trees one? -/
noncomputable def eqT (t u : Pl.Tr) : Bool := @decide (t = u) (Classical.propDecidable _)
theorem eqT_iff {t u : Pl.Tr} : eqT t u = true ↔ t = u := by unfold eqT; exact @decide_eq_true_iff _ (Classical.propDecidable _)
theorem eqT_no {t u : Pl.Tr} (h : t ≠ u) : eqT t u = false := by unfold eqT; exact @decide_eq_false _ (Classical.propDecidable _) h
/-- Are two trees one but for their gaps? -/
noncomputable def sameT (t u : Pl.Tr) : Bool := eqT (Pl.bare t) (Pl.bare u)
theorem sameT_iff {t u : Pl.Tr} : sameT t u = true ↔ Pl.bare t = Pl.bare u := eqT_iff
theorem sameT_no {t u : Pl.Tr} (h : Pl.bare t ≠ Pl.bare u) : sameT t u = false := eqT_no h
theorem rstrings_is {P Q : Nat → Prop} {w : World} (a b : Option Addr) (c d : Nat) (xs ys : List ByteArray) (hx : Strs P w a xs) (hy : Strs Q w b ys) (z : Bool) (hz : decide (xs = ys) = z) :
    Calls Tryd.prog 40 #[.slice a xs.length c, .slice b ys.length d] w fun e w' => e = .returned (.bool z) ∧ Below w.heap.size w w' := hz ▸ rstrings_any a b c d xs ys hx hy
theorem int_ne {x y : Int} (h : x ≠ y) : (x != y) = true ∧ (x == y) = false := ⟨by simpa using h, by simpa using h⟩
theorem str_neq {x y : ByteArray} (h : x ≠ y) : (x.toList != y.toList) = true ∧ (x.toList == y.toList) = false := ⟨by rw [bne, str_ne h]; rfl, str_ne h⟩
theorem boxes_after {w1 w2 : World} {k k' : Int} {s s' : ByteArray} {gv kv gv' kv' : Value} (hb : Below ((w1.alloc (.cells #[.int .i64 k, .string s, gv, kv] 25)).alloc (.cells #[.int .i64 k', .string s', gv', kv'] 25)).heap.size ((w1.alloc (.cells #[.int .i64 k, .string s, gv, kv] 25)).alloc (.cells #[.int .i64 k', .string s', gv', kv'] 25)) w2) :
    Box w2 w1.heap.size k s gv kv ∧ Box w2 (w1.heap.size + 1) k' s' gv' kv' ∧ Below w1.heap.size w1 w2 ∧ w1.heap.size + 1 < w2.heap.size := by
  have hz := hb.size
  simp at hz
  have e1 : w2.heap[w1.heap.size]? = (w1.alloc (.cells #[.int .i64 k, .string s, gv, kv] 25)).heap[w1.heap.size]? := (hb.block _ (by simp <;> omega)).trans (Below.heap_alloc _ _ _ (by simp))
  have e2 := hb.block (w1.heap.size + 1) (by simp)
  refine ⟨(box_new w1 k s gv kv).keep e1, ?_, (((Below.refl _ _).alloc (Nat.le_refl _) _).alloc (by simp) _).trans (hb.mono (by simp <;> omega)), by omega⟩
  have := box_new (w1.alloc (.cells #[.int .i64 k, .string s, gv, kv] 25)) k' s' gv' kv'
  rw [show (w1.alloc (.cells #[.int .i64 k, .string s, gv, kv] 25)).heap.size = w1.heap.size + 1 from by simp] at this
  exact this.keep e2
/-- Behind two boxes. -/
theorem same_box2 {P : Nat → Prop} {w w1 : World} {o1 o2 : Obj} (hs : Same P w w1) (hP : ∀ b, P b → b < w.heap.size) (hge : w.heap.size ≤ w1.heap.size) : Same P w ((w1.alloc o1).alloc o2) :=
  hs.trans (Same.below (((Below.refl _ _).alloc (Nat.le_refl _) _).alloc (by simp) _) fun b hb => Nat.lt_of_lt_of_le (hP b hb) hge)
set_option maxHeartbeats 800000 in
set_option maxRecDepth 100000 in
theorem requal_at {P : Nat → Prop} {w : World} {t : Pl.Tr} {r : Sl} (h : Tin P w t r) (hP : ∀ b, P b → b < w.heap.size) : ∀ (u : Pl.Tr) (q : Sl), Tin P w u q → ∀ w1, Same P w w1 → w.heap.size ≤ w1.heap.size →
    Calls Tryd.prog 18 #[.agg #[.int .i64 t.kind, .string t.text, .slice r.ga t.gaps.length r.gc, .slice r.da t.kids.length r.dc], .agg #[.int .i64 u.kind, .string u.text, .slice q.ga u.gaps.length q.gc, .slice q.da u.kids.length q.dc]] w1 fun e w' => e = .returned (.bool (eqT t u)) ∧ Below w1.heap.size w1 w' := by
  induction h with
  | mk t r R hs hg hl hk hr hcap ih =>
    intro u q hu w1 hsame hge
    cases hu with
    | mk _ _ R2 hs2 hg2 hl2 hk2 hr2 =>
    cases t with
    | node k s g ks =>
    cases u with
    | node k2 s2 g2 ls =>
      obtain ⟨ga, gc, a, c⟩ := r
      obtain ⟨ga2, gc2, a2, c2⟩ := q
      simp only [Pl.Tr.kids, Pl.Tr.gaps, Pl.Tr.text, Pl.Tr.kind] at *
      have HK := Lib.hid hk
      have HK2 := Lib.hid hk2
      have HR2 := Lib.hid hr2
      have HI := Lib.hid ih
      have HS := Lib.hid hsame
      have HG1 := Lib.hid hg
      have HG2 := Lib.hid hg2
      have hgl1 := hg.1
      have hgl2 := hg2.1
      unfold maxLen at hl hl2 hgl1 hgl2
      clear hk hr ih hsame hk2 hr2 hg hg2
      rcases (Classical.em (k = k2)).symm with hkk | hkk
      · obtain ⟨hb1, hb2⟩ := int_ne hkk
        go_enter Tryd.func18, Tryd.ntmps18
        go_wp2_with fail
        go_ret
        exact ⟨ret_bool (eqT_no (fun e => hkk (by injection e))).symm, ((Below.refl _ _).alloc (Nat.le_refl _) _).alloc (by simp) _⟩
      subst hkk
      rcases (Classical.em (s = s2)).symm with hss | hss
      · obtain ⟨hb1, hb2⟩ := str_neq hss
        go_enter Tryd.func18, Tryd.ntmps18
        go_wp2_with fail
        go_ret
        exact ⟨ret_bool (eqT_no (fun e => hss (by injection e))).symm, ((Below.refl _ _).alloc (Nat.le_refl _) _).alloc (by simp) _⟩
      subst hss
      rcases (Classical.em (g = g2)).symm with hgg | hgg
      · have HZ := Lib.hid (decide_eq_false hgg)
        obtain ⟨n, hn⟩ : ∃ n, n = ks.length := ⟨_, rfl⟩
        obtain ⟨m, hm⟩ : ∃ m, m = ls.length := ⟨_, rfl⟩
        rw [← hn, ← hm]
        clear hn hm
        go_enter Tryd.func18, Tryd.ntmps18
        go_wp2_with (go_at_call 40; refine (rstrings_is _ _ _ _ g g2 (HG1.out.keep (same_box2 HS.out hP hge) (fun _ h => h)) (HG2.out.keep (same_box2 HS.out hP hge) (fun _ h => h)) false HZ.out).mono ?_; rintro e w2 ⟨rfl, hb2⟩; obtain ⟨⟨c10, c11, c12, c13⟩, ⟨c20, c21, c22, c23⟩, hb0, hsz2⟩ := boxes_after hb2; have HB0 := Lib.hid hb0; clear hb2 hb0)
        go_ret
        exact ⟨ret_bool (eqT_no (fun e => hgg (by injection e))).symm, HB0.out⟩
      subst hgg
      rcases (Classical.em (ks.length = ls.length)).symm with hnn | hnn
      · have HN2 : Hid (¬ ks.length = ls.length) := Lib.hid hnn
        obtain ⟨n, hn⟩ : ∃ n, n = ks.length := ⟨_, rfl⟩
        obtain ⟨m, hm⟩ : ∃ m, m = ls.length := ⟨_, rfl⟩
        obtain ⟨hb1, hb2⟩ := int_ne (x := (n : Int)) (y := m) (fun e => hnn (by omega))
        rw [← hn] at hl ⊢
        rw [← hm] at hl2 ⊢
        clear hn hm hnn
        have HZ := Lib.hid (decide_eq_true (rfl : g = g))
        go_enter Tryd.func18, Tryd.ntmps18
        go_wp2_with (go_at_call 40; refine (rstrings_is _ _ _ _ g g (HG1.out.keep (same_box2 HS.out hP hge) (fun _ h => h)) (HG2.out.keep (same_box2 HS.out hP hge) (fun _ h => h)) true HZ.out).mono ?_; rintro e w2 ⟨rfl, hb2⟩; obtain ⟨⟨c10, c11, c12, c13⟩, ⟨c20, c21, c22, c23⟩, hb0, hsz2⟩ := boxes_after hb2; have HB0 := Lib.hid hb0; clear hb2 hb0)
        go_ret
        exact ⟨ret_bool (eqT_no (fun e => HN2.out (by injection e with _ _ _ e4; rw [e4]))).symm, HB0.out⟩
      have HL := Lib.hid hnn
      obtain ⟨n, hn⟩ : ∃ n, n = ks.length := ⟨_, rfl⟩
      obtain ⟨m, hm⟩ : ∃ m, m = n := ⟨_, rfl⟩
      rw [← hnn, ← hn] at hl2 ⊢
      rw [← hn] at hl
      have HN := Lib.hid hn
      have HZ := Lib.hid (decide_eq_true (rfl : g = g))
      clear hn hnn
      subst hm
      go_enter Tryd.func18, Tryd.ntmps18
      go_wp2_with (go_at_call 40; refine (rstrings_is _ _ _ _ g g (HG1.out.keep (same_box2 HS.out hP hge) (fun _ h => h)) (HG2.out.keep (same_box2 HS.out hP hge) (fun _ h => h)) true HZ.out).mono ?_; rintro e w2 ⟨rfl, hb2⟩; obtain ⟨⟨c10, c11, c12, c13⟩, ⟨c20, c21, c22, c23⟩, hb0, hsz2⟩ := boxes_after hb2; have HB0 := Lib.hid hb0; clear hb2 hb0)
      go_loopw [5] (fun i wr => ∃ j : Nat, j ≤ m ∧ i = .int .i64 j ∧ ks.take j = ls.take j ∧ Below w1.heap.size w1 wr ∧ w1.heap.size + 1 < wr.heap.size ∧ wr.cell? ⟨w1.heap.size, 3, none⟩ = some (.slice a m c) ∧ wr.cell? ⟨w1.heap.size + 1, 3, none⟩ = some (.slice a2 m c2)) (fun i _ => m - (intOf i).toNat)
      case atStart => exact ⟨0, Nat.zero_le _, rfl, rfl, HB0.out, hsz2, c13, c23⟩
      case round =>
        obtain ⟨j, hj, rfl, heq, hbel, hgt, hc1, hc2⟩ := hrel
        have HB := Lib.hid hbel
        have HE := Lib.hid heq
        clear heq
        by_cases hlt : j < m
        · have hjk : j < ks.length := by rw [← HN.out]; exact hlt
          have hjl : j < ls.length := by rw [← HL.out]; exact hjk
          have hu := List.getElem?_eq_getElem hjk
          have hv := List.getElem?_eq_getElem hjl
          have hi0 : (0 : Int) ≤ (j : Int) := Int.natCast_nonneg _
          have hi1 : (j : Int) < (m : Int) := by omega
          have hsr : Same P w wr := HS.out.trans (Same.below hbel fun b hb => Nat.lt_of_lt_of_le (hP b hb) hge)
          rcases HK.out with h0 | ⟨b, o, rfl, hb, hat⟩
          · rw [h0] at hjk; simp at hjk
          rcases HK2.out with h0 | ⟨b2, o2, rfl, hb2, hat2⟩
          · rw [h0] at hjl; simp at hjl
          have A1 := Lib.hid (At4.keep (hat j _ hu) hsr hb)
          have A2 := Lib.hid (At4.keep (hat2 j _ hv) hsr hb2)
          have HI1 := Lib.hid (HI.out j _ hu _ _ (HR2.out j _ hv))
          have HU := Lib.hid hu
          have HV := Lib.hid hv
          generalize ks[j] = u at *
          generalize ls[j] = v at *
          generalize R j = r1 at *
          generalize R2 j = r2 at *
          obtain ⟨ga3, gc3, da3, dc3⟩ := r1
          obtain ⟨ga4, gc4, da4, dc4⟩ := r2
          have HSR := Lib.hid hsr
          clear hat hat2 hu hv hsr hbel
          have k1 : ∀ n : Later wr, n.u.cell? ⟨w1.heap.size, 3, none⟩ = some (.slice (some ⟨b, o, none⟩) m c) := fun n => (n.h.cell (p := ⟨_, _, none⟩) (by show w1.heap.size < _; omega)).trans hc1
          have k2 : ∀ n : Later wr, n.u.cell? ⟨w1.heap.size + 1, 3, none⟩ = some (.slice (some ⟨b2, o2, none⟩) m c2) := fun n => (n.h.cell (p := ⟨_, _, none⟩) hgt).trans hc2
          have CALL : ∀ n : Later wr, Calls Tryd.prog 18 #[.agg #[.int .i64 u.kind, .string u.text, .slice ga3 u.gaps.length gc3, .slice da3 u.kids.length dc3], .agg #[.int .i64 v.kind, .string v.text, .slice ga4 v.gaps.length gc4, .slice da4 v.kids.length dc4]] n.u fun e w'' => e = .returned (.bool (eqT u v)) ∧ ∃ k : Later wr, w'' = k.u :=
            fun n => (HI1.out n.u (HSR.out.trans (Same.below n.h (fun b hb => by have := hP b hb; omega))) (by have := n.h.size; omega)).mono fun e w'' ⟨he, hw⟩ => ⟨he, ⟨w'', n.h.trans (hw.mono n.h.size)⟩, rfl⟩
          go_wp2_with fail
          clear hc1 hc2
          refine region_later (by kernel_rfl) (by kernel_rfl) ?_
          iterate 4 (go_big_quiet_step (fail))
          refine quiet_load (by rfl) 25 _ (by rfl) (.pointer (some ⟨b, o + j * 4, none⟩)) _ (by rfl) (fun x hx => by obtain ⟨n, rfl⟩ := hx; exact (at4_later A1.out n).load) ?_
          simp only [Act.put, List.setIfInBounds_toArray, List.set_cons_succ, List.set_cons_zero]
          iterate 4 (go_big_quiet_step (fail))
          refine quiet_load (by rfl) 25 _ (by rfl) (.pointer (some ⟨b2, o2 + j * 4, none⟩)) _ (by rfl) (fun x hx => by obtain ⟨n, rfl⟩ := hx; exact (at4_later A2.out n).load) ?_
          simp only [Act.put, List.setIfInBounds_toArray, List.set_cons_succ, List.set_cons_zero]
          go_big_quiet_step (exact CALL _)
          go_big_quiet_step (fail)
          refine wpQuiet_nil ?_
          intro _ hw'
          obtain ⟨n1, rfl⟩ := hw'
          have hsz := n1.h.size
          have HB3 := Lib.hid (HB.out.trans (n1.h.mono (by omega)))
          have q1 := k1 n1
          have q2 := k2 n1
          clear k1 k2 CALL
          cases hZ : eqT u v
          · have HNo := Lib.hid hZ
            clear hZ
            go_wp2_with fail
            go_ret
            exact ⟨ret_bool (eqT_no (fun e => by injection e with _ _ _ e4; subst e4; have e5 := HU.out.symm.trans HV.out; injection e5 with e5; have := eqT_iff.2 e5; rw [HNo.out] at this; cases this)).symm, HB3.out⟩
          · have HYes := Lib.hid (eqT_iff.1 hZ)
            clear hZ
            have Q1 := Lib.hid q1
            have Q2 := Lib.hid q2
            go_wp2_with fail
            exact ⟨⟨j + 1, by omega, by go_num, take_same HE.out HU.out (by rw [HYes.out]; exact HV.out), HB3.out, by omega, Q1.out, Q2.out⟩, by simp [intOf]; omega⟩
        · have hjn : j = m := by omega
          subst hjn
          have HR : Hid (ks = ls) := Lib.hid (by have := HE.out; rw [HN.out, List.take_length, HL.out, List.take_length] at this; exact this)
          clear hbel
          go_wp2_with fail
          go_ret
          exact ⟨ret_bool (eqT_iff.2 (by rw [HR.out])).symm, HB.out⟩
set_option maxHeartbeats 800000 in
set_option maxRecDepth 100000 in
theorem rsame_at {P : Nat → Prop} {w : World} {t : Pl.Tr} {r : Sl} (h : Tin P w t r) (hP : ∀ b, P b → b < w.heap.size) : ∀ (u : Pl.Tr) (q : Sl), Tin P w u q → ∀ w1, Same P w w1 → w.heap.size ≤ w1.heap.size →
    Calls Tryd.prog 29 #[.agg #[.int .i64 t.kind, .string t.text, .slice r.ga t.gaps.length r.gc, .slice r.da t.kids.length r.dc], .agg #[.int .i64 u.kind, .string u.text, .slice q.ga u.gaps.length q.gc, .slice q.da u.kids.length q.dc]] w1 fun e w' => e = .returned (.bool (sameT t u)) ∧ Below w1.heap.size w1 w' := by
  induction h with
  | mk t r R hs hg hl hk hr hcap ih =>
    intro u q hu w1 hsame hge
    cases hu with
    | mk _ _ R2 hs2 hg2 hl2 hk2 hr2 =>
    cases t with
    | node k s g ks =>
    cases u with
    | node k2 s2 g2 ls =>
      obtain ⟨ga, gc, a, c⟩ := r
      obtain ⟨ga2, gc2, a2, c2⟩ := q
      simp only [Pl.Tr.kids, Pl.Tr.gaps, Pl.Tr.text, Pl.Tr.kind] at *
      have HK := Lib.hid hk
      have HK2 := Lib.hid hk2
      have HR2 := Lib.hid hr2
      have HI := Lib.hid ih
      have HS := Lib.hid hsame
      have HG1 := Lib.hid hg
      have HG2 := Lib.hid hg2
      have hgl1 := hg.1
      have hgl2 := hg2.1
      unfold maxLen at hl hl2 hgl1 hgl2
      clear hk hr ih hsame hk2 hr2 hg hg2
      rcases (Classical.em (k = k2)).symm with hkk | hkk
      · obtain ⟨hb1, hb2⟩ := int_ne hkk
        go_enter Tryd.func29, Tryd.ntmps29
        go_wp2_with fail
        go_ret
        exact ⟨ret_bool (sameT_no (fun e => hkk (by rw [Pl.bare, Pl.bare] at e; injection e))).symm, ((Below.refl _ _).alloc (Nat.le_refl _) _).alloc (by simp) _⟩
      subst hkk
      rcases (Classical.em (s = s2)).symm with hss | hss
      · obtain ⟨hb1, hb2⟩ := str_neq hss
        go_enter Tryd.func29, Tryd.ntmps29
        go_wp2_with fail
        go_ret
        exact ⟨ret_bool (sameT_no (fun e => hss (by rw [Pl.bare, Pl.bare] at e; injection e))).symm, ((Below.refl _ _).alloc (Nat.le_refl _) _).alloc (by simp) _⟩
      subst hss
      rcases (Classical.em (ks.length = ls.length)).symm with hnn | hnn
      · have HN2 : Hid (¬ ks.length = ls.length) := Lib.hid hnn
        obtain ⟨n, hn⟩ : ∃ n, n = ks.length := ⟨_, rfl⟩
        obtain ⟨m, hm⟩ : ∃ m, m = ls.length := ⟨_, rfl⟩
        obtain ⟨hb1, hb2⟩ := int_ne (x := (n : Int)) (y := m) (fun e => hnn (by omega))
        rw [← hn] at hl ⊢
        rw [← hm] at hl2 ⊢
        clear hn hm hnn
        go_enter Tryd.func29, Tryd.ntmps29
        go_wp2_with fail
        go_ret
        exact ⟨ret_bool (sameT_no (fun e => HN2.out (by rw [Pl.bare, Pl.bare] at e; injection e with _ _ _ e4; rw [Pl.bares_map, Pl.bares_map] at e4; have := congrArg List.length e4; simpa using this))).symm, ((Below.refl _ _).alloc (Nat.le_refl _) _).alloc (by simp) _⟩
      have HL := Lib.hid hnn
      obtain ⟨n, hn⟩ : ∃ n, n = ks.length := ⟨_, rfl⟩
      obtain ⟨m, hm⟩ : ∃ m, m = n := ⟨_, rfl⟩
      rw [← hnn, ← hn] at hl2 ⊢
      rw [← hn] at hl
      have HN := Lib.hid hn
      clear hn hnn
      subst hm
      go_enter Tryd.func29, Tryd.ntmps29
      go_wp2_with fail
      go_loopw [5] (fun i wr => ∃ j : Nat, j ≤ m ∧ i = .int .i64 j ∧ (ks.take j).map Pl.bare = (ls.take j).map Pl.bare ∧ Below w1.heap.size w1 wr ∧ w1.heap.size + 1 < wr.heap.size ∧ wr.cell? ⟨w1.heap.size, 3, none⟩ = some (.slice a m c) ∧ wr.cell? ⟨w1.heap.size + 1, 3, none⟩ = some (.slice a2 m c2)) (fun i _ => m - (intOf i).toNat)
      case atStart => exact ⟨0, Nat.zero_le _, rfl, rfl, ((Below.refl _ _).alloc (Nat.le_refl _) _).alloc (by simp) _, by simp, by simp, by simp⟩
      case round =>
        obtain ⟨j, hj, rfl, heq, hbel, hgt, hc1, hc2⟩ := hrel
        have HB := Lib.hid hbel
        have HE := Lib.hid heq
        clear heq
        by_cases hlt : j < m
        · have hjk : j < ks.length := by rw [← HN.out]; exact hlt
          have hjl : j < ls.length := by rw [← HL.out]; exact hjk
          have hu := List.getElem?_eq_getElem hjk
          have hv := List.getElem?_eq_getElem hjl
          have hi0 : (0 : Int) ≤ (j : Int) := Int.natCast_nonneg _
          have hi1 : (j : Int) < (m : Int) := by omega
          have hsr : Same P w wr := HS.out.trans (Same.below hbel fun b hb => Nat.lt_of_lt_of_le (hP b hb) hge)
          rcases HK.out with h0 | ⟨b, o, rfl, hb, hat⟩
          · rw [h0] at hjk; simp at hjk
          rcases HK2.out with h0 | ⟨b2, o2, rfl, hb2, hat2⟩
          · rw [h0] at hjl; simp at hjl
          have A1 := Lib.hid (At4.keep (hat j _ hu) hsr hb)
          have A2 := Lib.hid (At4.keep (hat2 j _ hv) hsr hb2)
          have HI1 := Lib.hid (HI.out j _ hu _ _ (HR2.out j _ hv))
          have HU := Lib.hid hu
          have HV := Lib.hid hv
          generalize ks[j] = u at *
          generalize ls[j] = v at *
          generalize R j = r1 at *
          generalize R2 j = r2 at *
          obtain ⟨ga3, gc3, da3, dc3⟩ := r1
          obtain ⟨ga4, gc4, da4, dc4⟩ := r2
          have HSR := Lib.hid hsr
          clear hat hat2 hu hv hsr hbel
          have k1 : ∀ n : Later wr, n.u.cell? ⟨w1.heap.size, 3, none⟩ = some (.slice (some ⟨b, o, none⟩) m c) := fun n => (n.h.cell (p := ⟨_, _, none⟩) (by show w1.heap.size < _; omega)).trans hc1
          have k2 : ∀ n : Later wr, n.u.cell? ⟨w1.heap.size + 1, 3, none⟩ = some (.slice (some ⟨b2, o2, none⟩) m c2) := fun n => (n.h.cell (p := ⟨_, _, none⟩) hgt).trans hc2
          have CALL : ∀ n : Later wr, Calls Tryd.prog 29 #[.agg #[.int .i64 u.kind, .string u.text, .slice ga3 u.gaps.length gc3, .slice da3 u.kids.length dc3], .agg #[.int .i64 v.kind, .string v.text, .slice ga4 v.gaps.length gc4, .slice da4 v.kids.length dc4]] n.u fun e w'' => e = .returned (.bool (sameT u v)) ∧ ∃ k : Later wr, w'' = k.u :=
            fun n => (HI1.out n.u (HSR.out.trans (Same.below n.h (fun b hb => by have := hP b hb; omega))) (by have := n.h.size; omega)).mono fun e w'' ⟨he, hw⟩ => ⟨he, ⟨w'', n.h.trans (hw.mono n.h.size)⟩, rfl⟩
          go_wp2_with fail
          clear hc1 hc2
          refine region_later (by kernel_rfl) (by kernel_rfl) ?_
          iterate 4 (go_big_quiet_step (fail))
          refine quiet_load (by rfl) 25 _ (by rfl) (.pointer (some ⟨b, o + j * 4, none⟩)) _ (by rfl) (fun x hx => by obtain ⟨n, rfl⟩ := hx; exact (at4_later A1.out n).load) ?_
          simp only [Act.put, List.setIfInBounds_toArray, List.set_cons_succ, List.set_cons_zero]
          iterate 4 (go_big_quiet_step (fail))
          refine quiet_load (by rfl) 25 _ (by rfl) (.pointer (some ⟨b2, o2 + j * 4, none⟩)) _ (by rfl) (fun x hx => by obtain ⟨n, rfl⟩ := hx; exact (at4_later A2.out n).load) ?_
          simp only [Act.put, List.setIfInBounds_toArray, List.set_cons_succ, List.set_cons_zero]
          go_big_quiet_step (exact CALL _)
          go_big_quiet_step (fail)
          refine wpQuiet_nil ?_
          intro _ hw'
          obtain ⟨n1, rfl⟩ := hw'
          have hsz := n1.h.size
          have HB3 := Lib.hid (HB.out.trans (n1.h.mono (by omega)))
          have q1 := k1 n1
          have q2 := k2 n1
          clear k1 k2 CALL
          cases hZ : sameT u v
          · have HNo := Lib.hid hZ
            clear hZ
            go_wp2_with fail
            go_ret
            exact ⟨ret_bool (sameT_no (fun e => by rw [Pl.bare, Pl.bare] at e; injection e with _ _ _ e4; rw [Pl.bares_map, Pl.bares_map] at e4; have e5 := congrArg (fun l => l[j]?) e4; simp only [List.getElem?_map, HU.out, HV.out, Option.map_some] at e5; injection e5 with e5; have := sameT_iff.2 e5; rw [HNo.out] at this; cases this)).symm, HB3.out⟩
          · have HYes := Lib.hid (sameT_iff.1 hZ)
            clear hZ
            have Q1 := Lib.hid q1
            have Q2 := Lib.hid q2
            go_wp2_with fail
            exact ⟨⟨j + 1, by omega, by go_num, by rw [List.map_take, List.map_take]; exact take_same (by have := HE.out; rw [List.map_take, List.map_take] at this; exact this) (by rw [List.getElem?_map, HU.out]; rfl) (by rw [List.getElem?_map, HV.out, HYes.out]; rfl), HB3.out, by omega, Q1.out, Q2.out⟩, by simp [intOf]; omega⟩
        · have hjn : j = m := by omega
          subst hjn
          have HR : Hid (ks.map Pl.bare = ls.map Pl.bare) := Lib.hid (by have := HE.out; rw [HN.out, List.take_length, HL.out, List.take_length] at this; exact this)
          clear hbel
          go_wp2_with fail
          go_ret
          exact ⟨ret_bool (sameT_iff.2 (by rw [Pl.bare, Pl.bare, Pl.bares_map, Pl.bares_map, HR.out])).symm, HB.out⟩
set_option maxHeartbeats 800000 in
theorem rsize_at {P : Nat → Prop} {w : World} {t : Pl.Tr} {r : Sl} (h : Tin P w t r) (hP : ∀ b, P b → b < w.heap.size) : ∀ w1, Same P w w1 → w.heap.size ≤ w1.heap.size → Pl.sz t ≤ 1000000 →
    Calls Tryd.prog 27 #[.agg #[.int .i64 t.kind, .string t.text, .slice r.ga t.gaps.length r.gc, .slice r.da t.kids.length r.dc]] w1 fun e w' => e = .returned (.int .i64 (Pl.sz t)) ∧ Below w1.heap.size w1 w' := by
  induction h with
  | mk t r R hs hg hl hk hr hcap ih =>
    intro w1 hsame hge hsz
    cases t with
    | node k s g ks =>
      obtain ⟨ga, gc, a, c⟩ := r
      simp only [Pl.Tr.kids, Pl.Tr.gaps, Pl.Tr.text, Pl.Tr.kind] at *
      unfold Pl.sz at hsz ⊢
      unfold maxLen at hl
      obtain ⟨n, hn⟩ : ∃ n, n = ks.length := ⟨_, rfl⟩
      rw [← hn] at hl ⊢
      have HN := Lib.hid hn
      have HK := Lib.hid hk
      have HI := Lib.hid ih
      have HS := Lib.hid hsame
      have hz0 : Pl.szs (ks.take 0) = 0 := by simp [Pl.szs]
      have HZ := Lib.hid hz0
      clear hn hk hg hr ih hsame hz0
      go_enter Tryd.func27, Tryd.ntmps27
      go_wp2_with fail
      go_loopw [3, 4] (fun s i wr => ∃ j m : Nat, j ≤ n ∧ i = .int .i64 j ∧ s = .int .i64 m ∧ m = Pl.szs (ks.take j) + 1 ∧ Below w1.heap.size w1 wr ∧ w1.heap.size < wr.heap.size ∧ wr.cell? ⟨w1.heap.size, 3, none⟩ = some (.slice a n c)) (fun _ i _ => n - (intOf i).toNat)
      case atStart => exact ⟨0, 1, Nat.zero_le _, rfl, rfl, by rw [HZ.out], (Below.refl _ _).alloc (Nat.le_refl _) _, by simp, by simp⟩
      case round =>
        obtain ⟨j, m, hj, rfl, rfl, hm, hbel, hgt, hcell⟩ := hrel
        have HB := Lib.hid hbel
        have HC := Lib.hid hcell
        by_cases hlt : j < n
        · have hjk : j < ks.length := by rw [← HN.out]; exact hlt
          have hu := List.getElem?_eq_getElem hjk
          have hstep := Pl.szs_step ks j hjk
          have HT := Lib.hid (Pl.szs_take ks j hjk)
          have hsr : Same P w wr := HS.out.trans (Same.below hbel fun b hb => Nat.lt_of_lt_of_le (hP b hb) hge)
          rcases HK.out with h0 | ⟨b, o, rfl, hb, hat⟩
          · rw [h0] at hjk; simp at hjk
          · have l1 := Lib.hid (At4.keep (hat j _ hu) hsr hb).range
            have HI1 := Lib.hid (HI.out j _ hu)
            generalize ks[j] = u at *
            generalize R j = r1 at *
            obtain ⟨ga1, gc1, da1, dc1⟩ := r1
            have hms : m + Pl.sz u ≤ 1000000 := by omega
            
            have HM := Lib.hid hm
            have HSR := Lib.hid hsr
            clear hat hm hu hsr hbel hstep
            go_wp2_with (first
              | (refine wpList_load_mid rfl 25 _ rfl b (o + j * 4) rfl [.int .i64 u.kind, .string u.text, .slice ga1 u.gaps.length gc1, .slice da1 u.kids.length dc1] _ l1.out Tryd.underlying25 rfl sizeN ?_)
              | (go_at_call 27; refine (HI1.out _ HSR.out (by omega) (by omega)).mono ?_; rintro e w' ⟨rfl, hb2⟩; have HB2 := Lib.hid hb2; clear hb2))
            exact ⟨⟨j + 1, m + Pl.sz u, by omega, by go_num, by go_num, by rw [HT.out, HM.out]; omega, HB.out.trans (HB2.out.mono (by omega)), by have := HB2.out.size; omega, (HB2.out.cell (p := ⟨_, _, none⟩) hgt).trans HC.out⟩, by simp [intOf]; omega⟩
        · have hjn : j = n := by omega
          subst hjn
          have HR : Hid (m = Pl.szs ks + 1) := Lib.hid (by rw [hm, HN.out, List.take_length])
          clear hm hbel
          go_wp2_with fail
          go_ret
          exact ⟨ret_int (by rw [HR.out]), HB.out⟩
/-- A node is found, or so many indices are left: the reference's answer. -/
def RFindP (P : Nat → Prop) (w : World) (t : Pl.Tr) (i : Nat) (w1 : World) (e : Ending) (w' : World) : Prop :=
  Below w1.heap.size w1 w' ∧ ((∃ u r, (Pl.pre t)[i]? = some u ∧ Tin P w u r ∧ e = .returned (.tuple #[.agg #[.int .i64 u.kind, .string u.text, .slice r.ga u.gaps.length r.gc, .slice r.da u.kids.length r.dc], .int .i64 0, .bool true])) ∨
    (∃ m : Nat, m + Pl.sz t = i ∧ e = .returned (.tuple #[.agg #[.int .i64 0, .string ⟨#[]⟩, .slice none 0 0, .slice none 0 0], .int .i64 m, .bool false])))
set_option maxHeartbeats 800000 in
theorem rfind_at {P : Nat → Prop} {w : World} {t : Pl.Tr} {r : Sl} (h : Tin P w t r) (hP : ∀ b, P b → b < w.heap.size) : ∀ w1, Same P w w1 → w.heap.size ≤ w1.heap.size → Pl.sz t ≤ 1000000 → ∀ i : Nat, i ≤ 9223372036854775807 →
    Calls Tryd.prog 49 #[.agg #[.int .i64 t.kind, .string t.text, .slice r.ga t.gaps.length r.gc, .slice r.da t.kids.length r.dc], .int .i64 i] w1 (RFindP P w t i w1) := by
  induction h with
  | mk t r R hs hg hl hk hr hcap ih =>
    intro w1 hsame hge hsz i hi
    cases t with
    | node k s g ks =>
      obtain ⟨ga, gc, a, c⟩ := r
      simp only [Pl.Tr.kids, Pl.Tr.gaps, Pl.Tr.text, Pl.Tr.kind] at *
      rw [Pl.sz] at hsz
      unfold maxLen at hl
      rcases Nat.eq_zero_or_pos i with rfl | hi0
      · have HT := Lib.hid (Tin.mk (.node k s g ks) ⟨ga, gc, a, c⟩ R hs hg hl hk hr hcap)
        clear hk hr ih hg hsame
        go_enter Tryd.func49, Tryd.ntmps49
        go_wp2_with fail
        exact bodyPost_ret (v := .tuple #[.agg #[.int .i64 k, .string s, .slice ga g.length gc, .slice a ks.length c], .int .i64 0, .bool true]) (by simp [results, Tryd.results49, go_sem]) rfl
          ⟨((Below.refl _ _).alloc (Nat.le_refl _) _).alloc (by simp) _, .inl ⟨_, _, rfl, HT.out, rfl⟩⟩
      · obtain ⟨n, hn⟩ : ∃ n, n = ks.length := ⟨_, rfl⟩
        rw [← hn] at hl ⊢
        have HN := Lib.hid hn
        have HK := Lib.hid hk
        have HI := Lib.hid ih
        have HS := Lib.hid hsame
        have hz0 : Pl.szs (ks.take 0) = 0 := by simp [Pl.szs]
        have HZ := Lib.hid hz0
        have hib : ((i : Int) == 0) = false := by simp; omega
        clear hn hk hg hr ih hsame hz0
        go_enter Tryd.func49, Tryd.ntmps49
        go_wp2_with fail
        go_loopw [7, 8] (fun x y wr => ∃ j m : Nat, j ≤ n ∧ y = .int .i64 j ∧ x = .int .i64 m ∧ m + Pl.szs (ks.take j) + 1 = i ∧ Below w1.heap.size w1 wr ∧ w1.heap.size + 1 < wr.heap.size ∧ wr.cell? ⟨w1.heap.size, 3, none⟩ = some (.slice a n c) ∧
          wr.heap[w1.heap.size + 1]? = some (.cells #[.int .i64 0, .string ⟨#[]⟩, .slice none 0 0, .slice none 0 0] 25 (0, 0))) (fun _ y _ => n - (intOf y).toNat)
        case atStart => exact ⟨0, i - 1, Nat.zero_le _, rfl, by congr 1; omega, by rw [HZ.out]; omega, ((Below.refl _ _).alloc (Nat.le_refl _) _).alloc (by simp) _, by simp, by simp, by have := heap_alloc_new (w1.alloc (.cells #[.int .i64 k, .string s, .slice ga g.length gc, .slice a n c] 25)) (.cells #[.int .i64 0, .string ⟨#[]⟩, .slice none 0 0, .slice none 0 0] 25); simpa using this⟩
        case round =>
          obtain ⟨j, m, hj, rfl, rfl, hm, hbel, hgt, hcell, hblk⟩ := hrel
          have HB := Lib.hid hbel
          have HC := Lib.hid hcell
          by_cases hlt : j < n
          · have hjk : j < ks.length := by rw [← HN.out]; exact hlt
            have hu := List.getElem?_eq_getElem hjk
            have hstep := Pl.szs_step ks j hjk
            have HT := Lib.hid (Pl.szs_take ks j hjk)
            have HPK := Lib.hid (Pl.pres_kid ks j hjk)
            have hsr : Same P w wr := HS.out.trans (Same.below hbel fun b hb => Nat.lt_of_lt_of_le (hP b hb) hge)
            rcases HK.out with h0 | ⟨b, o, rfl, hb, hat⟩
            · rw [h0] at hjk; simp at hjk
            · have l1 := Lib.hid (At4.keep (hat j _ hu) hsr hb).range
              have HI1 := Lib.hid (HI.out j _ hu)
              generalize ks[j] = u at *
              generalize R j = r1 at *
              obtain ⟨ga1, gc1, da1, dc1⟩ := r1
              have hms : Pl.sz u ≤ 1000000 := by omega
              have hmi : m ≤ 9223372036854775807 := by omega
              have HM := Lib.hid hm
              have HSR := Lib.hid hsr
              have hgr := hbel.size
              have HBL := Lib.hid hblk
              clear hat hm hu hsr hbel hstep hblk
              go_wp2_with (first
                | (refine wpList_load_mid rfl 25 _ rfl b (o + j * 4) rfl [.int .i64 u.kind, .string u.text, .slice ga1 u.gaps.length gc1, .slice da1 u.kids.length dc1] _ l1.out Tryd.underlying25 rfl sizeN ?_)
                | (go_at_call 49; refine (HI1.out _ HSR.out (by omega) hms m hmi).mono ?_; rintro e w2 ⟨hb2, ⟨v, r2, hv, hr2, rfl⟩ | ⟨q, hq, rfl⟩⟩ <;> (have hz2 := hb2.size; have hb4 := (hb2.block (w1.heap.size + 1) hgt).trans HBL.out; have HC2 := Lib.hid ((hb2.cell (p := ⟨w1.heap.size, 3, none⟩) (by show w1.heap.size < _; omega)).trans HC.out); have HB2 := Lib.hid hb2; have hq := fun ob => blk_cells ((Below.heap_alloc w2 ob (w1.heap.size + 1) (by omega)).trans hb4); have p0 := fun ob => (hq ob).1.1; have p1 := fun ob => (hq ob).1.2.1; have p2 := fun ob => (hq ob).1.2.2.1; have p3 := fun ob => (hq ob).1.2.2.2; have z0 := fun ob => (hq ob).2.1; have z1 := fun ob => (hq ob).2.2.1; have z2 := fun ob => (hq ob).2.2.2.1; have z3 := fun ob => (hq ob).2.2.2.2; have HB4 := Lib.hid hb4; clear hq hb4 hb2 l1)))
              · have hpv : (Pl.pre (.node k s g ks))[i]? = some v := by
                  have hmu : m < Pl.sz u := by
                    rw [← Pl.pre_len]; exact (List.getElem?_eq_some_iff.1 hv).1
                  rw [show i = (Pl.szs (ks.take j) + m) + 1 from by have := HM.out; omega, Pl.pre_succ]
                  exact (HPK.out m hmu).trans hv
                exact bodyPost_ret (v := .tuple #[.agg #[.int .i64 v.kind, .string v.text, .slice r2.ga v.gaps.length r2.gc, .slice r2.da v.kids.length r2.dc], .int .i64 0, .bool true]) (by simp [results, Tryd.results49, go_sem, p0, p1, p2, p3]) rfl
                  ⟨below_set4 ((HB.out.trans (HB2.out.mono hgr)).alloc (by omega) _) (by omega), .inl ⟨v, r2, hpv, hr2, rfl⟩⟩
              · refine ⟨⟨j + 1, q, by omega, by go_num, rfl, by have := HM.out; have := HT.out; omega, (HB.out.trans (HB2.out.mono hgr)).alloc (by omega) _, by simp; omega, ?_, ?_⟩, by simp [intOf]; omega⟩
                · exact (Below.cell ((Below.refl _ _).alloc (Nat.le_refl w2.heap.size) _) (p := ⟨w1.heap.size, 3, none⟩) (by show w1.heap.size < _; omega)).trans HC2.out
                · exact (Below.heap_alloc _ _ _ (by omega)).trans HB4.out
          · have hjn : j = n := by omega
            subst hjn
            have HRes : Hid (m + Pl.sz (.node k s g ks) = i) := Lib.hid (by rw [HN.out, List.take_length] at hm; rw [Pl.sz]; omega)
            obtain ⟨⟨p0, p1, p2, p3⟩, z0, z1, z2, z3⟩ := blk_cells hblk
            clear hm hbel hblk
            go_wp2_with fail
            exact bodyPost_ret (v := .tuple #[.agg #[.int .i64 0, .string ⟨#[]⟩, .slice none 0 0, .slice none 0 0], .int .i64 m, .bool false]) (by simp [results, Tryd.results49, go_sem, p0, p1, p2, p3]) rfl
              ⟨below_set4 HB.out (by omega), .inr ⟨m, HRes.out, rfl⟩⟩
theorem pre_mem_trans {t u x : Pl.Tr} {i : Nat} (h : (Pl.pre t)[i]? = some u) (hx : x ∈ Pl.pre u) : x ∈ Pl.pre t := by
  obtain ⟨h1, h2⟩ := Pl.pre_sub t i u h
  obtain ⟨j, hj⟩ := List.getElem?_of_mem hx
  have hjl : j < Pl.sz u := by rw [← Pl.pre_len]; exact (List.getElem?_eq_some_iff.1 hj).1
  exact List.mem_of_getElem? ((h2 j hjl).trans hj)
theorem frozen_past (b : Nat) : ∀ (wx : World) (ob : Obj) (f : Nat), b < wx.heap.size → (wx.alloc ob).frozen? ⟨b, f, none⟩ = wx.frozen? ⟨b, f, none⟩ :=
  fun wx ob f h => World.frozen?_of_block (w := wx) (a := ⟨b, f, none⟩) (Below.heap_alloc _ _ _ h)
/-- A node's tree, or none. -/
def AtP (t : Pl.Tr) (i : Int) (w1 : World) (e : Ending) (w' : World) : Prop :=
  Below w1.heap.size w1 w' ∧ ((∃ (n : Nat) (u : Pl.Tr) (r : Sl), i = n ∧ (Pl.pre t)[n]? = some u ∧ IsT w' u r ∧ e = .returned (.tuple #[.agg #[.int .i64 u.kind, .string u.text, .slice r.ga u.gaps.length r.gc, .slice r.da u.kids.length r.dc], .bool true])) ∨
    ((i < 0 ∨ (Pl.sz t : Int) ≤ i) ∧ e = .returned (.tuple #[.agg #[.int .i64 0, .string ⟨#[]⟩, .slice none 0 0, .slice none 0 0], .bool false])))
set_option maxHeartbeats 800000 in
theorem rat_at {P : Nat → Prop} {w : World} {t : Pl.Tr} {r : Sl} (h : Tin P w t r) (hP : ∀ b, P b → b < w.heap.size) (w1 : World) (hsame : Same P w w1) (hge : w.heap.size ≤ w1.heap.size) (hsz : Pl.sz t ≤ 1000000) (i : Int) (hi : i ≤ 9223372036854775807) :
    Calls Tryd.prog 28 #[.agg #[.int .i64 t.kind, .string t.text, .slice r.ga t.gaps.length r.gc, .slice r.da t.kids.length r.dc], .int .i64 i] w1 (AtP t i w1) := by
  have HF := Lib.hid (fun w1 hs hge i hi => rfind_at h hP w1 hs hge hsz i hi)
  have HS := Lib.hid hsame
  obtain ⟨ga, gc, a, c⟩ := r
  clear h hsame
  by_cases hneg : i < 0
  · go_enter Tryd.func28, Tryd.ntmps28
    go_wp2_with fail
    exact bodyPost_ret (v := .tuple #[.agg #[.int .i64 0, .string ⟨#[]⟩, .slice none 0 0, .slice none 0 0], .bool false]) (by simp [results, Tryd.results28, go_sem]) rfl
      ⟨((Below.refl _ _).alloc (Nat.le_refl _) _).alloc (by simp) _, .inr ⟨.inl hneg, rfl⟩⟩
  obtain ⟨n, rfl⟩ : ∃ n : Nat, i = n := ⟨i.toNat, by omega⟩
  go_enter Tryd.func28, Tryd.ntmps28
  go_wp2_with (go_at_call 49; refine (HF.out _ (same_box2 HS.out hP hge) (by simp; omega) n (by omega)).mono ?_; rintro e w2 ⟨hb2, ⟨u, r2, hv, hr2, rfl⟩ | ⟨q, hq, rfl⟩⟩ <;> (obtain ⟨_, hb8, hb5, hz2⟩ := two_after hb2; have HB2 := Lib.hid hb5; obtain ⟨⟨p0, p1, p2, p3⟩, z0, z1, z2, z3⟩ := blk_cells hb8; have pa := cell_past (w1.heap.size + 1); have fa := frozen_past (w1.heap.size + 1); have HB8 := Lib.hid hb8; clear hb8 hb2 hb5))
  · have HV := Lib.hid hv
    have HSW : Hid (Same P w w2) := Lib.hid (HS.out.trans (Same.below HB2.out fun b hb => Nat.lt_of_lt_of_le (hP b hb) hge))
    refine bodyPost_ret (v := .tuple #[.agg #[.int .i64 u.kind, .string u.text, .slice r2.ga u.gaps.length r2.gc, .slice r2.da u.kids.length r2.dc], .bool true]) (by simp [results, Tryd.results28, go_sem, p0, p1, p2, p3, pa, hz2]) rfl
      ⟨(below_set4 HB2.out (by omega)).alloc (by simp; omega) _, .inl ⟨n, u, r2, rfl, HV.out, ?_, rfl⟩⟩
    refine hr2.keep (HSW.out.trans fun x hx => ?_) (fun x hx => ?_)
    · have := hP x hx
      exact (Below.heap_alloc _ _ _ (by simp; omega)).trans (heap_set4 (by omega))
    · have := hP x hx
      simp; omega
  · have hQ := Lib.hid hq
    clear hq
    exact bodyPost_ret (v := .tuple #[.agg #[.int .i64 0, .string ⟨#[]⟩, .slice none 0 0, .slice none 0 0], .bool false]) (by simp [results, Tryd.results28, go_sem, p0, p1, p2, p3, pa, hz2]) rfl
      ⟨(below_set4 HB2.out (by omega)).alloc (by simp; omega) _, .inr ⟨.inr (by have := hQ.out; omega), rfl⟩⟩
end Go.Proofs.YtpaleolcfhnenaaDoor.Rt
