/- The walks of Size and Height, and of the reference's. -/
import Derived.Test.YtidmbdilediplaaMem
namespace Go.Proofs.Ytidmbdilediplaa
open Go.RowKit
set_option linter.unusedVariables false
set_option linter.unusedSimpArgs false

set_option maxHeartbeats 800000 in
theorem size_at {P : Nat → Prop} {w : World} {t : Pl.Tr} {r : Sl} (h : Tin P w t r) (hP : ∀ b, P b → b < w.heap.size) : ∀ w1, Same P w w1 → w.heap.size ≤ w1.heap.size → Pl.sz t ≤ 1000000 →
    Calls Try.prog 14 #[.agg #[.int .i64 t.kind, .string t.text, .slice r.ga t.gaps.length r.gc, .slice r.da t.kids.length r.dc]] w1 fun e w' => e = .returned (.int .i64 (Pl.sz t)) ∧ Below w1.heap.size w1 w' := by
  induction h with
  | mk t r R hs hg hl hk hr ih =>
    intro w1 hsame hge hsz
    cases t with
    | node k s g ks =>
      obtain ⟨ga, gc, a, c⟩ := r
      simp only [Pl.Tr.kids, Pl.Tr.gaps, Pl.Tr.text, Pl.Tr.kind] at *
      unfold Pl.sz at hsz ⊢
      unfold maxLen at hl
      obtain ⟨n, hn⟩ : ∃ n, n = ks.length := ⟨_, rfl⟩
      rw [← hn] at hl ⊢
      have HN := Lib.hid hn
      have HK := Lib.hid hk
      have HI := Lib.hid ih
      have HS := Lib.hid hsame
      have hz0 : Pl.szs (ks.take 0) = 0 := by simp [Pl.szs]
      have HZ := Lib.hid hz0
      clear hn hk hg hr ih hsame hz0
      go_enter Try.func14, Try.ntmps14
      go_wp2_with fail
      go_loopw [3, 9] (fun s i wr => ∃ j m : Nat, j ≤ n ∧ i = .int .i64 j ∧ s = .int .i64 m ∧ m = Pl.szs (ks.take j) + 1 ∧ Below w1.heap.size w1 wr ∧ w1.heap.size < wr.heap.size) (fun _ i _ => n - (intOf i).toNat)
      case atStart => exact ⟨0, 1, Nat.zero_le _, rfl, rfl, by rw [HZ.out], (Below.refl _ _).alloc (Nat.le_refl _) _, by simp⟩
      case round =>
        obtain ⟨j, m, hj, rfl, rfl, hm, hbel, hgt⟩ := hrel
        have HB := Lib.hid hbel
        by_cases hlt : j < n
        · have hjk : j < ks.length := by rw [← HN.out]; exact hlt
          have hu := List.getElem?_eq_getElem hjk
          have hstep := Pl.szs_step ks j hjk
          have HT := Lib.hid (Pl.szs_take ks j hjk)
          have hsr : Same P w wr := HS.out.trans (Same.below hbel fun b hb => Nat.lt_of_lt_of_le (hP b hb) hge)
          rcases HK.out with h0 | ⟨b, o, rfl, hb, hat⟩
          · rw [h0] at hjk; simp at hjk
          · have l1 := Lib.hid (At4.keep (hat j _ hu) hsr hb).range
            have HI1 := Lib.hid (HI.out j _ hu)
            generalize ks[j] = u at *
            generalize R j = r1 at *
            obtain ⟨ga1, gc1, da1, dc1⟩ := r1
            have hms : m + Pl.sz u ≤ 1000000 := by omega
            
            have HM := Lib.hid hm
            have HSR := Lib.hid hsr
            clear hat hm hu hsr hbel hstep
            go_wp2_with (first
              | (refine wpList_load_mid rfl 25 _ rfl b (o + j * 4) rfl [.int .i64 u.kind, .string u.text, .slice ga1 u.gaps.length gc1, .slice da1 u.kids.length dc1] _ l1.out Try.underlying25 rfl sizeN ?_)
              | (go_at_call 14; refine (HI1.out _ (HSR.out.trans (Same.below ((Below.refl _ _).alloc (Nat.le_refl _) _) (fun b hb => by have := hP b hb; omega))) (by simp; omega) (by omega)).mono ?_; rintro e w' ⟨rfl, hb2⟩; have HB2 := Lib.hid hb2; clear hb2))
            exact ⟨⟨j + 1, m + Pl.sz u, by omega, by go_num, by go_num, by rw [HT.out, HM.out]; omega, (HB.out.alloc (by omega) _).trans (HB2.out.mono (by simp; omega)), by have := HB2.out.size; simp at this; omega⟩, by simp [intOf]; omega⟩
        · have hjn : j = n := by omega
          subst hjn
          have HR : Hid (m = Pl.szs ks + 1) := Lib.hid (by rw [hm, HN.out, List.take_length])
          clear hm hbel
          go_wp2_with fail
          go_ret
          exact ⟨ret_int (by rw [HR.out]), HB.out⟩
set_option maxHeartbeats 800000 in
theorem height_at {P : Nat → Prop} {w : World} {t : Pl.Tr} {r : Sl} (h : Tin P w t r) (hP : ∀ b, P b → b < w.heap.size) : ∀ w1, Same P w w1 → w.heap.size ≤ w1.heap.size → Pl.sz t ≤ 1000000 →
    Calls Try.prog 16 #[.agg #[.int .i64 t.kind, .string t.text, .slice r.ga t.gaps.length r.gc, .slice r.da t.kids.length r.dc]] w1 fun e w' => e = .returned (.int .i64 (Pl.ht t)) ∧ Below w1.heap.size w1 w' := by
  induction h with
  | mk t r R hs hg hl hk hr ih =>
    intro w1 hsame hge hsz
    cases t with
    | node k s g ks =>
      obtain ⟨ga, gc, a, c⟩ := r
      simp only [Pl.Tr.kids, Pl.Tr.gaps, Pl.Tr.text, Pl.Tr.kind] at *
      unfold Pl.sz at hsz
      unfold Pl.ht
      unfold maxLen at hl
      obtain ⟨n, hn⟩ : ∃ n, n = ks.length := ⟨_, rfl⟩
      rw [← hn] at hl ⊢
      have HN := Lib.hid hn
      have HK := Lib.hid hk
      have HI := Lib.hid ih
      have HS := Lib.hid hsame
      have hz0 : Pl.hts (ks.take 0) = 0 := by simp [Pl.hts]
      have HZ := Lib.hid hz0
      clear hn hk hg hr ih hsame hz0
      go_enter Try.func16, Try.ntmps16
      go_wp2_with fail
      go_loopw [3, 9] (fun s i wr => ∃ j m : Nat, j ≤ n ∧ i = .int .i64 j ∧ s = .int .i64 m ∧ m = Pl.hts (ks.take j) ∧ Below w1.heap.size w1 wr ∧ w1.heap.size < wr.heap.size) (fun _ i _ => n - (intOf i).toNat)
      case atStart => exact ⟨0, 0, Nat.zero_le _, rfl, rfl, by rw [HZ.out], (Below.refl _ _).alloc (Nat.le_refl _) _, by simp⟩
      case round =>
        obtain ⟨j, m, hj, rfl, rfl, hm, hbel, hgt⟩ := hrel
        have HB := Lib.hid hbel
        by_cases hlt : j < n
        · have hjk : j < ks.length := by rw [← HN.out]; exact hlt
          have hu := List.getElem?_eq_getElem hjk
          have hstep := Pl.szs_step ks j hjk
          have HT := Lib.hid (Pl.hts_take ks j hjk)
          have hsr : Same P w wr := HS.out.trans (Same.below hbel fun b hb => Nat.lt_of_lt_of_le (hP b hb) hge)
          rcases HK.out with h0 | ⟨b, o, rfl, hb, hat⟩
          · rw [h0] at hjk; simp at hjk
          · have l1 := Lib.hid (At4.keep (hat j _ hu) hsr hb).range
            have HI1 := Lib.hid (HI.out j _ hu)
            generalize ks[j] = u at *
            generalize R j = r1 at *
            obtain ⟨ga1, gc1, da1, dc1⟩ := r1
            have hms : Pl.ht u ≤ 1000000 := by have := Pl.ht_sz u; omega
            have hmx : m ≤ 1000000 := by have h1 := Pl.hts_le ks (fun t _ => Pl.ht_sz t); have h2 := Pl.hts_append (ks.take j) (ks.drop j); rw [List.take_append_drop] at h2; omega
            have hsu : Pl.sz u ≤ 1000000 := by omega
            have HM := Lib.hid hm
            have HSR := Lib.hid hsr
            clear hat hm hu hsr hbel hstep
            go_wp2_with (first
              | (refine wpList_load_mid rfl 25 _ rfl b (o + j * 4) rfl [.int .i64 u.kind, .string u.text, .slice ga1 u.gaps.length gc1, .slice da1 u.kids.length dc1] _ l1.out Try.underlying25 rfl sizeN ?_)
              | (go_at_call 16; refine (HI1.out _ (HSR.out.trans (Same.below ((Below.refl _ _).alloc (Nat.le_refl _) _) (fun b hb => by have := hP b hb; omega))) (by simp; omega) (by omega)).mono ?_; rintro e w' ⟨rfl, hb2⟩; have HB2 := Lib.hid hb2; clear hb2))
            exact ⟨⟨j + 1, max m (Pl.ht u), by omega, by go_num, by go_num, by rw [HT.out, HM.out], (HB.out.alloc (by omega) _).trans (HB2.out.mono (by simp; omega)), by have := HB2.out.size; simp at this; omega⟩, by simp [intOf]; omega⟩
        · have hjn : j = n := by omega
          subst hjn
          have HR : Hid (m = Pl.hts ks) := Lib.hid (by rw [hm, HN.out, List.take_length])
          have hmx : m ≤ 1000000 := by have h1 := Pl.hts_le ks (fun t _ => Pl.ht_sz t); have := HR.out; omega
          clear hm hbel
          go_wp2_with fail
          go_ret
          exact ⟨ret_int (by rw [HR.out]; go_num), HB.out⟩
set_option maxHeartbeats 800000 in
theorem rsize_at {P : Nat → Prop} {w : World} {t : Pl.Tr} {r : Sl} (h : Tin P w t r) (hP : ∀ b, P b → b < w.heap.size) : ∀ w1, Same P w w1 → w.heap.size ≤ w1.heap.size → Pl.sz t ≤ 1000000 →
    Calls Try.prog 15 #[.agg #[.int .i64 t.kind, .string t.text, .slice r.ga t.gaps.length r.gc, .slice r.da t.kids.length r.dc]] w1 fun e w' => e = .returned (.int .i64 (Pl.sz t)) ∧ Below w1.heap.size w1 w' := by
  induction h with
  | mk t r R hs hg hl hk hr ih =>
    intro w1 hsame hge hsz
    cases t with
    | node k s g ks =>
      obtain ⟨ga, gc, a, c⟩ := r
      simp only [Pl.Tr.kids, Pl.Tr.gaps, Pl.Tr.text, Pl.Tr.kind] at *
      unfold Pl.sz at hsz ⊢
      unfold maxLen at hl
      obtain ⟨n, hn⟩ : ∃ n, n = ks.length := ⟨_, rfl⟩
      rw [← hn] at hl ⊢
      have HN := Lib.hid hn
      have HK := Lib.hid hk
      have HI := Lib.hid ih
      have HS := Lib.hid hsame
      have hz0 : Pl.szs (ks.take 0) = 0 := by simp [Pl.szs]
      have HZ := Lib.hid hz0
      clear hn hk hg hr ih hsame hz0
      go_enter Try.func15, Try.ntmps15
      go_wp2_with fail
      go_loopw [3, 4] (fun s i wr => ∃ j m : Nat, j ≤ n ∧ i = .int .i64 j ∧ s = .int .i64 m ∧ m = Pl.szs (ks.take j) + 1 ∧ Below w1.heap.size w1 wr ∧ w1.heap.size < wr.heap.size ∧ wr.cell? ⟨w1.heap.size, 3, none⟩ = some (.slice a n c)) (fun _ i _ => n - (intOf i).toNat)
      case atStart => exact ⟨0, 1, Nat.zero_le _, rfl, rfl, by rw [HZ.out], (Below.refl _ _).alloc (Nat.le_refl _) _, by simp, by simp⟩
      case round =>
        obtain ⟨j, m, hj, rfl, rfl, hm, hbel, hgt, hcell⟩ := hrel
        have HB := Lib.hid hbel
        have HC := Lib.hid hcell
        by_cases hlt : j < n
        · have hjk : j < ks.length := by rw [← HN.out]; exact hlt
          have hu := List.getElem?_eq_getElem hjk
          have hstep := Pl.szs_step ks j hjk
          have HT := Lib.hid (Pl.szs_take ks j hjk)
          have hsr : Same P w wr := HS.out.trans (Same.below hbel fun b hb => Nat.lt_of_lt_of_le (hP b hb) hge)
          rcases HK.out with h0 | ⟨b, o, rfl, hb, hat⟩
          · rw [h0] at hjk; simp at hjk
          · have l1 := Lib.hid (At4.keep (hat j _ hu) hsr hb).range
            have HI1 := Lib.hid (HI.out j _ hu)
            generalize ks[j] = u at *
            generalize R j = r1 at *
            obtain ⟨ga1, gc1, da1, dc1⟩ := r1
            have hms : m + Pl.sz u ≤ 1000000 := by omega
            
            have HM := Lib.hid hm
            have HSR := Lib.hid hsr
            clear hat hm hu hsr hbel hstep
            go_wp2_with (first
              | (refine wpList_load_mid rfl 25 _ rfl b (o + j * 4) rfl [.int .i64 u.kind, .string u.text, .slice ga1 u.gaps.length gc1, .slice da1 u.kids.length dc1] _ l1.out Try.underlying25 rfl sizeN ?_)
              | (go_at_call 15; refine (HI1.out _ HSR.out (by omega) (by omega)).mono ?_; rintro e w' ⟨rfl, hb2⟩; have HB2 := Lib.hid hb2; clear hb2))
            exact ⟨⟨j + 1, m + Pl.sz u, by omega, by go_num, by go_num, by rw [HT.out, HM.out]; omega, HB.out.trans (HB2.out.mono (by omega)), by have := HB2.out.size; omega, (HB2.out.cell (p := ⟨_, _, none⟩) hgt).trans HC.out⟩, by simp [intOf]; omega⟩
        · have hjn : j = n := by omega
          subst hjn
          have HR : Hid (m = Pl.szs ks + 1) := Lib.hid (by rw [hm, HN.out, List.take_length])
          clear hm hbel
          go_wp2_with fail
          go_ret
          exact ⟨ret_int (by rw [HR.out]), HB.out⟩
set_option maxHeartbeats 800000 in
theorem rheight_at {P : Nat → Prop} {w : World} {t : Pl.Tr} {r : Sl} (h : Tin P w t r) (hP : ∀ b, P b → b < w.heap.size) : ∀ w1, Same P w w1 → w.heap.size ≤ w1.heap.size → Pl.sz t ≤ 1000000 →
    Calls Try.prog 17 #[.agg #[.int .i64 t.kind, .string t.text, .slice r.ga t.gaps.length r.gc, .slice r.da t.kids.length r.dc]] w1 fun e w' => e = .returned (.int .i64 (Pl.ht t)) ∧ Below w1.heap.size w1 w' := by
  induction h with
  | mk t r R hs hg hl hk hr ih =>
    intro w1 hsame hge hsz
    cases t with
    | node k s g ks =>
      obtain ⟨ga, gc, a, c⟩ := r
      simp only [Pl.Tr.kids, Pl.Tr.gaps, Pl.Tr.text, Pl.Tr.kind] at *
      unfold Pl.sz at hsz
      unfold Pl.ht
      unfold maxLen at hl
      obtain ⟨n, hn⟩ : ∃ n, n = ks.length := ⟨_, rfl⟩
      rw [← hn] at hl ⊢
      have HN := Lib.hid hn
      have HK := Lib.hid hk
      have HI := Lib.hid ih
      have HS := Lib.hid hsame
      have hz0 : Pl.hts (ks.take 0) = 0 := by simp [Pl.hts]
      have HZ := Lib.hid hz0
      clear hn hk hg hr ih hsame hz0
      go_enter Try.func17, Try.ntmps17
      go_wp2_with fail
      go_loopw [3, 4] (fun s i wr => ∃ j m : Nat, j ≤ n ∧ i = .int .i64 j ∧ s = .int .i64 m ∧ m = Pl.hts (ks.take j) ∧ Below w1.heap.size w1 wr ∧ w1.heap.size < wr.heap.size ∧ wr.cell? ⟨w1.heap.size, 3, none⟩ = some (.slice a n c)) (fun _ i _ => n - (intOf i).toNat)
      case atStart => exact ⟨0, 0, Nat.zero_le _, rfl, rfl, by rw [HZ.out], (Below.refl _ _).alloc (Nat.le_refl _) _, by simp, by simp⟩
      case round =>
        obtain ⟨j, m, hj, rfl, rfl, hm, hbel, hgt, hcell⟩ := hrel
        have HB := Lib.hid hbel
        have HC := Lib.hid hcell
        by_cases hlt : j < n
        · have hjk : j < ks.length := by rw [← HN.out]; exact hlt
          have hu := List.getElem?_eq_getElem hjk
          have hstep := Pl.szs_step ks j hjk
          have HT := Lib.hid (Pl.hts_take ks j hjk)
          have hsr : Same P w wr := HS.out.trans (Same.below hbel fun b hb => Nat.lt_of_lt_of_le (hP b hb) hge)
          rcases HK.out with h0 | ⟨b, o, rfl, hb, hat⟩
          · rw [h0] at hjk; simp at hjk
          · have l1 := Lib.hid (At4.keep (hat j _ hu) hsr hb).range
            have HI1 := Lib.hid (HI.out j _ hu)
            generalize ks[j] = u at *
            generalize R j = r1 at *
            obtain ⟨ga1, gc1, da1, dc1⟩ := r1
            have hms : Pl.ht u ≤ 1000000 := by have := Pl.ht_sz u; omega
            have hmx : m ≤ 1000000 := by have h1 := Pl.hts_le ks (fun t _ => Pl.ht_sz t); have h2 := Pl.hts_append (ks.take j) (ks.drop j); rw [List.take_append_drop] at h2; omega
            have hsu : Pl.sz u ≤ 1000000 := by omega
            have HM := Lib.hid hm
            have HSR := Lib.hid hsr
            clear hat hm hu hsr hbel hstep
            go_wp2_with (first
              | (refine wpList_load_mid rfl 25 _ rfl b (o + j * 4) rfl [.int .i64 u.kind, .string u.text, .slice ga1 u.gaps.length gc1, .slice da1 u.kids.length dc1] _ l1.out Try.underlying25 rfl sizeN ?_)
              | (go_at_call 17; refine (HI1.out _ HSR.out (by omega) (by omega)).mono ?_; rintro e w' ⟨rfl, hb2⟩; have HB2 := Lib.hid hb2; clear hb2))
            all_goals exact ⟨⟨j + 1, max m (Pl.ht u), by omega, by go_num, by congr 1; omega, by rw [HT.out, HM.out], HB.out.trans (HB2.out.mono (by omega)), by have := HB2.out.size; omega, (HB2.out.cell (p := ⟨_, _, none⟩) hgt).trans HC.out⟩, by simp [intOf]; omega⟩
        · have hjn : j = n := by omega
          subst hjn
          have HR : Hid (m = Pl.hts ks) := Lib.hid (by rw [hm, HN.out, List.take_length])
          have hmx : m ≤ 1000000 := by have h1 := Pl.hts_le ks (fun t _ => Pl.ht_sz t); have := HR.out; omega
          clear hm hbel
          go_wp2_with fail
          go_ret
          exact ⟨ret_int (by rw [HR.out]; go_num), HB.out⟩
end Go.Proofs.Ytidmbdilediplaa
