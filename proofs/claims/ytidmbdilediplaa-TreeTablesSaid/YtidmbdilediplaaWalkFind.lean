/- The walks of find and of the reference's find. -/
import Derived.Test.YtidmbdilediplaaWalkFun
namespace Go.Proofs.Ytidmbdilediplaa
open Go.RowKit
set_option linter.unusedVariables false
set_option linter.unusedSimpArgs false

/-- What a block that is known whole tells: its cells, and that it may be written. -/
theorem blk_cells {w : World} {b : Nat} {v0 v1 v2 v3 : Value} {T : TypeId} (h : w.heap[b]? = some (.cells #[v0, v1, v2, v3] T (0, 0))) :
    (w.cell? ⟨b, 0, none⟩ = some v0 ∧ w.cell? ⟨b, 1, none⟩ = some v1 ∧ w.cell? ⟨b, 2, none⟩ = some v2 ∧ w.cell? ⟨b, 3, none⟩ = some v3) ∧
    (w.frozen? ⟨b, 0, none⟩ = false ∧ w.frozen? ⟨b, 1, none⟩ = false ∧ w.frozen? ⟨b, 2, none⟩ = false ∧ w.frozen? ⟨b, 3, none⟩ = false) := by
  refine ⟨⟨?_, ?_, ?_, ?_⟩, ?_, ?_, ?_, ?_⟩
  · rw [cell_of_row _ _ _ _ _ _ h]; rfl
  · rw [cell_of_row _ _ _ _ _ _ h]; rfl
  · rw [cell_of_row _ _ _ _ _ _ h]; rfl
  · rw [cell_of_row _ _ _ _ _ _ h]; rfl
  all_goals simp [World.frozen?, h]

/-- The second of two blocks laid one behind the other. -/
theorem heap_at2 (w : World) (o1 o2 : Obj) : ((w.alloc o1).alloc o2).heap[w.heap.size + 1]? = some o2 := by
  have h := heap_alloc_new (w.alloc o1) o2
  rw [show (w.alloc o1).heap.size = w.heap.size + 1 from by simp] at h
  exact h
/-- Behind two new blocks and a call: the blocks hold what they held. -/
theorem two_after {w w2 : World} {o1 o2 : Obj} (hb : Below ((w.alloc o1).alloc o2).heap.size ((w.alloc o1).alloc o2) w2) :
    w2.heap[w.heap.size]? = some o1 ∧ w2.heap[w.heap.size + 1]? = some o2 ∧ Below w.heap.size w w2 ∧ w.heap.size + 1 < w2.heap.size := by
  have hz := hb.size
  simp at hz
  have e1 : w2.heap[w.heap.size]? = (w.alloc o1).heap[w.heap.size]? := (hb.block _ (by simp <;> omega)).trans (Below.heap_alloc _ _ _ (by simp))
  have e2 := hb.block (w.heap.size + 1) (by simp)
  exact ⟨e1.trans (heap_alloc_new _ _), e2.trans (heap_at2 _ _ _), (((Below.refl _ _).alloc (Nat.le_refl _) _).alloc (by simp) _).trans (hb.mono (by simp <;> omega)), by omega⟩
/-- Four stores into a block of the call's own. -/
theorem below_set4 {B b : Nat} {w w2 : World} {v0 v1 v2 v3 : Value} (h : Below B w w2) (hb : B ≤ b) : Below B w ((((w2.setCell ⟨b, 0, none⟩ v0).setCell ⟨b, 1, none⟩ v1).setCell ⟨b, 2, none⟩ v2).setCell ⟨b, 3, none⟩ v3) :=
  (((h.setCell (p := ⟨b, 0, none⟩) hb _).setCell (p := ⟨b, 1, none⟩) hb _).setCell (p := ⟨b, 2, none⟩) hb _).setCell (p := ⟨b, 3, none⟩) hb _
theorem heap_set4 {b x : Nat} {w2 : World} {v0 v1 v2 v3 : Value} (hb : x ≠ b) : ((((w2.setCell ⟨b, 0, none⟩ v0).setCell ⟨b, 1, none⟩ v1).setCell ⟨b, 2, none⟩ v2).setCell ⟨b, 3, none⟩ v3).heap[x]? = w2.heap[x]? :=
  (Below.heap_setCell _ ⟨b, 3, none⟩ _ x hb).trans ((Below.heap_setCell _ ⟨b, 2, none⟩ _ x hb).trans ((Below.heap_setCell _ ⟨b, 1, none⟩ _ x hb).trans (Below.heap_setCell _ ⟨b, 0, none⟩ _ x hb)))
/-- A node is found, or so many indices are left. -/
def FindP (P : Nat → Prop) (w : World) (t : Pl.Tr) (i : Nat) (w1 : World) (e : Ending) (w' : World) : Prop :=
  Below w1.heap.size w1 w' ∧ ((∃ u r, (Pl.pre t)[i]? = some u ∧ Tin P w u r ∧ e = .returned (.tuple #[.agg #[.int .i64 u.kind, .string u.text, .slice r.ga u.gaps.length r.gc, .slice r.da u.kids.length r.dc], .int .i64 (-1)])) ∨
    (∃ m : Nat, m + Pl.sz t = i ∧ e = .returned (.tuple #[.agg #[.int .i64 0, .string ⟨#[]⟩, .slice none 0 0, .slice none 0 0], .int .i64 m])))
set_option maxHeartbeats 400000 in
theorem find_at {P : Nat → Prop} {w : World} {t : Pl.Tr} {r : Sl} (h : Tin P w t r) (hP : ∀ b, P b → b < w.heap.size) : ∀ w1, Same P w w1 → w.heap.size ≤ w1.heap.size → Pl.sz t ≤ 1000000 → ∀ i : Nat, i ≤ 9223372036854775807 →
    Calls Try.prog 32 #[.agg #[.int .i64 t.kind, .string t.text, .slice r.ga t.gaps.length r.gc, .slice r.da t.kids.length r.dc], .int .i64 i] w1 (FindP P w t i w1) := by
  induction h with
  | mk t r R hs hg hl hk hr ih =>
    intro w1 hsame hge hsz i hi
    cases t with
    | node k s g ks =>
      obtain ⟨ga, gc, a, c⟩ := r
      simp only [Pl.Tr.kids, Pl.Tr.gaps, Pl.Tr.text, Pl.Tr.kind] at *
      rw [Pl.sz] at hsz
      unfold maxLen at hl
      rcases Nat.eq_zero_or_pos i with rfl | hi0
      · have HT := Lib.hid (Tin.mk (.node k s g ks) ⟨ga, gc, a, c⟩ R hs hg hl hk hr)
        clear hk hr ih hg hsame
        go_enter Try.func32, Try.ntmps32
        go_wp2_with fail
        exact bodyPost_ret (v := .tuple #[.agg #[.int .i64 k, .string s, .slice ga g.length gc, .slice a ks.length c], .int .i64 (-1)]) (by simp [results, Try.results32, go_sem]) rfl
          ⟨((Below.refl _ _).alloc (Nat.le_refl _) _).alloc (by simp) _, .inl ⟨_, _, rfl, HT.out, rfl⟩⟩
      · obtain ⟨n, hn⟩ : ∃ n, n = ks.length := ⟨_, rfl⟩
        rw [← hn] at hl ⊢
        have HN := Lib.hid hn
        have HK := Lib.hid hk
        have HI := Lib.hid ih
        have HR := Lib.hid hr
        have HS := Lib.hid hsame
        have hz0 : Pl.szs (ks.take 0) = 0 := by simp [Pl.szs]
        have HZ := Lib.hid hz0
        have hib : ((i : Int) == 0) = false := by simp; omega
        clear hn hk hg hr ih hsame hz0
        go_enter Try.func32, Try.ntmps32
        go_wp2_with fail
        go_loopw [1, 17] (fun x y wr => ∃ j m : Nat, j ≤ n ∧ y = .int .i64 j ∧ x = .int .i64 m ∧ m + Pl.szs (ks.take j) + 1 = i ∧ Below w1.heap.size w1 wr ∧ w1.heap.size + 1 < wr.heap.size ∧
          wr.heap[w1.heap.size + 1]? = some (.cells #[.int .i64 0, .string ⟨#[]⟩, .slice none 0 0, .slice none 0 0] 25 (0, 0))) (fun _ y _ => n - (intOf y).toNat)
        case atStart => exact ⟨0, i - 1, Nat.zero_le _, rfl, by congr 1; omega, by rw [HZ.out]; omega, ((Below.refl _ _).alloc (Nat.le_refl _) _).alloc (by simp) _, by simp, by have := heap_alloc_new (w1.alloc (.cells #[.int .i64 k, .string s, .slice ga g.length gc, .slice a n c] 25)) (.cells #[.int .i64 0, .string ⟨#[]⟩, .slice none 0 0, .slice none 0 0] 25); simpa using this⟩
        case round =>
          obtain ⟨j, m, hj, rfl, rfl, hm, hbel, hgt, hblk⟩ := hrel
          have HB := Lib.hid hbel
          by_cases hlt : j < n
          · have hjk : j < ks.length := by rw [← HN.out]; exact hlt
            have hu := List.getElem?_eq_getElem hjk
            have hstep := Pl.szs_step ks j hjk
            have HT := Lib.hid (Pl.szs_take ks j hjk)
            have HPK := Lib.hid (Pl.pres_kid ks j hjk)
            have hsr : Same P w wr := HS.out.trans (Same.below hbel fun b hb => Nat.lt_of_lt_of_le (hP b hb) hge)
            rcases HK.out with h0 | ⟨b, o, rfl, hb, hat⟩
            · rw [h0] at hjk; simp at hjk
            · have l1 := Lib.hid (At4.keep (hat j _ hu) hsr hb).range
              have HI1 := Lib.hid (HI.out j _ hu)
              generalize ks[j] = u at *
              generalize R j = r1 at *
              obtain ⟨ga1, gc1, da1, dc1⟩ := r1
              have hms : Pl.sz u ≤ 1000000 := by omega
              have hmi : m ≤ 9223372036854775807 := by omega
              have HM := Lib.hid hm
              have HSR := Lib.hid hsr
              have hgr := hbel.size
              have HBL := Lib.hid hblk
              clear hat hm hu hsr hbel hstep hblk
              go_wp2_with (first
                | (refine wpList_load_mid rfl 25 _ rfl b (o + j * 4) rfl [.int .i64 u.kind, .string u.text, .slice ga1 u.gaps.length gc1, .slice da1 u.kids.length dc1] _ l1.out Try.underlying25 rfl sizeN ?_)
                | (go_at_call 32; refine (HI1.out _ (same_box2 HSR.out hP (by omega)) (by simp; omega) hms m hmi).mono ?_; rintro e w2 ⟨hb2, ⟨v, r2, hv, hr2, rfl⟩ | ⟨q, hq, rfl⟩⟩ <;> (obtain ⟨_, hb8, hb5, hz2⟩ := two_after hb2; have hb4 := (hb5.block (w1.heap.size + 1) hgt).trans HBL.out; have HB2 := Lib.hid hb5; obtain ⟨⟨x0, x1, x2, x3⟩, y0, y1, y2, y3⟩ := blk_cells hb8; obtain ⟨⟨p0, p1, p2, p3⟩, z0, z1, z2, z3⟩ := blk_cells hb4; have HB8 := Lib.hid hb8; have HB4 := Lib.hid hb4; clear hb8 hb4 hb2 hb5 l1)))
              · have hpv : (Pl.pre (.node k s g ks))[i]? = some v := by
                  have hmu : m < Pl.sz u := by
                    rw [← Pl.pre_len]; exact (List.getElem?_eq_some_iff.1 hv).1
                  rw [show i = (Pl.szs (ks.take j) + m) + 1 from by have := HM.out; omega, Pl.pre_succ]
                  exact (HPK.out m hmu).trans hv
                exact bodyPost_ret (v := .tuple #[.agg #[.int .i64 v.kind, .string v.text, .slice r2.ga v.gaps.length r2.gc, .slice r2.da v.kids.length r2.dc], .int .i64 (-1)]) (by simp [results, Try.results32, go_sem, p0, p1, p2, p3]) rfl
                  ⟨below_set4 (below_set4 (HB.out.trans (HB2.out.mono hgr)) (by omega)) (by omega), .inl ⟨v, r2, hpv, hr2, rfl⟩⟩
              · refine ⟨⟨j + 1, q, by omega, by go_num, rfl, by have := HM.out; have := HT.out; omega, below_set4 (HB.out.trans (HB2.out.mono hgr)) (by omega), by simp; omega, ?_⟩, by simp [intOf]; omega⟩
                exact (heap_set4 (by simp; omega)).trans HB4.out
          · have hjn : j = n := by omega
            subst hjn
            have HRes : Hid (m + Pl.sz (.node k s g ks) = i) := Lib.hid (by rw [HN.out, List.take_length] at hm; rw [Pl.sz]; omega)
            obtain ⟨⟨p0, p1, p2, p3⟩, z0, z1, z2, z3⟩ := blk_cells hblk
            clear hm hbel hblk
            go_wp2_with fail
            exact bodyPost_ret (v := .tuple #[.agg #[.int .i64 0, .string ⟨#[]⟩, .slice none 0 0, .slice none 0 0], .int .i64 m]) (by simp [results, Try.results32, go_sem, p0, p1, p2, p3]) rfl
              ⟨below_set4 HB.out (by omega), .inr ⟨m, HRes.out, rfl⟩⟩

/-- A node is found, or so many indices are left: the reference's answer. -/
def RFindP (P : Nat → Prop) (w : World) (t : Pl.Tr) (i : Nat) (w1 : World) (e : Ending) (w' : World) : Prop :=
  Below w1.heap.size w1 w' ∧ ((∃ u r, (Pl.pre t)[i]? = some u ∧ Tin P w u r ∧ e = .returned (.tuple #[.agg #[.int .i64 u.kind, .string u.text, .slice r.ga u.gaps.length r.gc, .slice r.da u.kids.length r.dc], .int .i64 0, .bool true])) ∨
    (∃ m : Nat, m + Pl.sz t = i ∧ e = .returned (.tuple #[.agg #[.int .i64 0, .string ⟨#[]⟩, .slice none 0 0, .slice none 0 0], .int .i64 m, .bool false])))
set_option maxHeartbeats 800000 in
theorem rfind_at {P : Nat → Prop} {w : World} {t : Pl.Tr} {r : Sl} (h : Tin P w t r) (hP : ∀ b, P b → b < w.heap.size) : ∀ w1, Same P w w1 → w.heap.size ≤ w1.heap.size → Pl.sz t ≤ 1000000 → ∀ i : Nat, i ≤ 9223372036854775807 →
    Calls Try.prog 34 #[.agg #[.int .i64 t.kind, .string t.text, .slice r.ga t.gaps.length r.gc, .slice r.da t.kids.length r.dc], .int .i64 i] w1 (RFindP P w t i w1) := by
  induction h with
  | mk t r R hs hg hl hk hr ih =>
    intro w1 hsame hge hsz i hi
    cases t with
    | node k s g ks =>
      obtain ⟨ga, gc, a, c⟩ := r
      simp only [Pl.Tr.kids, Pl.Tr.gaps, Pl.Tr.text, Pl.Tr.kind] at *
      rw [Pl.sz] at hsz
      unfold maxLen at hl
      rcases Nat.eq_zero_or_pos i with rfl | hi0
      · have HT := Lib.hid (Tin.mk (.node k s g ks) ⟨ga, gc, a, c⟩ R hs hg hl hk hr)
        clear hk hr ih hg hsame
        go_enter Try.func34, Try.ntmps34
        go_wp2_with fail
        exact bodyPost_ret (v := .tuple #[.agg #[.int .i64 k, .string s, .slice ga g.length gc, .slice a ks.length c], .int .i64 0, .bool true]) (by simp [results, Try.results34, go_sem]) rfl
          ⟨((Below.refl _ _).alloc (Nat.le_refl _) _).alloc (by simp) _, .inl ⟨_, _, rfl, HT.out, rfl⟩⟩
      · obtain ⟨n, hn⟩ : ∃ n, n = ks.length := ⟨_, rfl⟩
        rw [← hn] at hl ⊢
        have HN := Lib.hid hn
        have HK := Lib.hid hk
        have HI := Lib.hid ih
        have HS := Lib.hid hsame
        have hz0 : Pl.szs (ks.take 0) = 0 := by simp [Pl.szs]
        have HZ := Lib.hid hz0
        have hib : ((i : Int) == 0) = false := by simp; omega
        clear hn hk hg hr ih hsame hz0
        go_enter Try.func34, Try.ntmps34
        go_wp2_with fail
        go_loopw [7, 8] (fun x y wr => ∃ j m : Nat, j ≤ n ∧ y = .int .i64 j ∧ x = .int .i64 m ∧ m + Pl.szs (ks.take j) + 1 = i ∧ Below w1.heap.size w1 wr ∧ w1.heap.size + 1 < wr.heap.size ∧ wr.cell? ⟨w1.heap.size, 3, none⟩ = some (.slice a n c) ∧
          wr.heap[w1.heap.size + 1]? = some (.cells #[.int .i64 0, .string ⟨#[]⟩, .slice none 0 0, .slice none 0 0] 25 (0, 0))) (fun _ y _ => n - (intOf y).toNat)
        case atStart => exact ⟨0, i - 1, Nat.zero_le _, rfl, by congr 1; omega, by rw [HZ.out]; omega, ((Below.refl _ _).alloc (Nat.le_refl _) _).alloc (by simp) _, by simp, by simp, by have := heap_alloc_new (w1.alloc (.cells #[.int .i64 k, .string s, .slice ga g.length gc, .slice a n c] 25)) (.cells #[.int .i64 0, .string ⟨#[]⟩, .slice none 0 0, .slice none 0 0] 25); simpa using this⟩
        case round =>
          obtain ⟨j, m, hj, rfl, rfl, hm, hbel, hgt, hcell, hblk⟩ := hrel
          have HB := Lib.hid hbel
          have HC := Lib.hid hcell
          by_cases hlt : j < n
          · have hjk : j < ks.length := by rw [← HN.out]; exact hlt
            have hu := List.getElem?_eq_getElem hjk
            have hstep := Pl.szs_step ks j hjk
            have HT := Lib.hid (Pl.szs_take ks j hjk)
            have HPK := Lib.hid (Pl.pres_kid ks j hjk)
            have hsr : Same P w wr := HS.out.trans (Same.below hbel fun b hb => Nat.lt_of_lt_of_le (hP b hb) hge)
            rcases HK.out with h0 | ⟨b, o, rfl, hb, hat⟩
            · rw [h0] at hjk; simp at hjk
            · have l1 := Lib.hid (At4.keep (hat j _ hu) hsr hb).range
              have HI1 := Lib.hid (HI.out j _ hu)
              generalize ks[j] = u at *
              generalize R j = r1 at *
              obtain ⟨ga1, gc1, da1, dc1⟩ := r1
              have hms : Pl.sz u ≤ 1000000 := by omega
              have hmi : m ≤ 9223372036854775807 := by omega
              have HM := Lib.hid hm
              have HSR := Lib.hid hsr
              have hgr := hbel.size
              have HBL := Lib.hid hblk
              clear hat hm hu hsr hbel hstep hblk
              go_wp2_with (first
                | (refine wpList_load_mid rfl 25 _ rfl b (o + j * 4) rfl [.int .i64 u.kind, .string u.text, .slice ga1 u.gaps.length gc1, .slice da1 u.kids.length dc1] _ l1.out Try.underlying25 rfl sizeN ?_)
                | (go_at_call 34; refine (HI1.out _ HSR.out (by omega) hms m hmi).mono ?_; rintro e w2 ⟨hb2, ⟨v, r2, hv, hr2, rfl⟩ | ⟨q, hq, rfl⟩⟩ <;> (have hz2 := hb2.size; have hb4 := (hb2.block (w1.heap.size + 1) hgt).trans HBL.out; have HC2 := Lib.hid ((hb2.cell (p := ⟨w1.heap.size, 3, none⟩) (by show w1.heap.size < _; omega)).trans HC.out); have HB2 := Lib.hid hb2; have hq := fun ob => blk_cells ((Below.heap_alloc w2 ob (w1.heap.size + 1) (by omega)).trans hb4); have p0 := fun ob => (hq ob).1.1; have p1 := fun ob => (hq ob).1.2.1; have p2 := fun ob => (hq ob).1.2.2.1; have p3 := fun ob => (hq ob).1.2.2.2; have z0 := fun ob => (hq ob).2.1; have z1 := fun ob => (hq ob).2.2.1; have z2 := fun ob => (hq ob).2.2.2.1; have z3 := fun ob => (hq ob).2.2.2.2; have HB4 := Lib.hid hb4; clear hq hb4 hb2 l1)))
              · have hpv : (Pl.pre (.node k s g ks))[i]? = some v := by
                  have hmu : m < Pl.sz u := by
                    rw [← Pl.pre_len]; exact (List.getElem?_eq_some_iff.1 hv).1
                  rw [show i = (Pl.szs (ks.take j) + m) + 1 from by have := HM.out; omega, Pl.pre_succ]
                  exact (HPK.out m hmu).trans hv
                exact bodyPost_ret (v := .tuple #[.agg #[.int .i64 v.kind, .string v.text, .slice r2.ga v.gaps.length r2.gc, .slice r2.da v.kids.length r2.dc], .int .i64 0, .bool true]) (by simp [results, Try.results34, go_sem, p0, p1, p2, p3]) rfl
                  ⟨below_set4 ((HB.out.trans (HB2.out.mono hgr)).alloc (by omega) _) (by omega), .inl ⟨v, r2, hpv, hr2, rfl⟩⟩
              · refine ⟨⟨j + 1, q, by omega, by go_num, rfl, by have := HM.out; have := HT.out; omega, (HB.out.trans (HB2.out.mono hgr)).alloc (by omega) _, by simp; omega, ?_, ?_⟩, by simp [intOf]; omega⟩
                · exact (Below.cell ((Below.refl _ _).alloc (Nat.le_refl w2.heap.size) _) (p := ⟨w1.heap.size, 3, none⟩) (by show w1.heap.size < _; omega)).trans HC2.out
                · exact (Below.heap_alloc _ _ _ (by omega)).trans HB4.out
          · have hjn : j = n := by omega
            subst hjn
            have HRes : Hid (m + Pl.sz (.node k s g ks) = i) := Lib.hid (by rw [HN.out, List.take_length] at hm; rw [Pl.sz]; omega)
            obtain ⟨⟨p0, p1, p2, p3⟩, z0, z1, z2, z3⟩ := blk_cells hblk
            clear hm hbel hblk
            go_wp2_with fail
            exact bodyPost_ret (v := .tuple #[.agg #[.int .i64 0, .string ⟨#[]⟩, .slice none 0 0, .slice none 0 0], .int .i64 m, .bool false]) (by simp [results, Try.results34, go_sem, p0, p1, p2, p3]) rfl
              ⟨below_set4 HB.out (by omega), .inr ⟨m, HRes.out, rfl⟩⟩
end Go.Proofs.Ytidmbdilediplaa
