/- The walks of left, Fits, weigh, Light and light. -/
import Derived.Test.YtidmbdilediplaaWalkSize
namespace Go.Proofs.Ytidmbdilediplaa
open Go.RowKit
set_option linter.unusedVariables false
set_option linter.unusedSimpArgs false

/-- What is left is below zero, or what the tree does not take. -/
def LeftP (t : Pl.Tr) (nodes : Int) (w : World) (e : Ending) (w' : World) : Prop :=
  ∃ q : Int, (q = -1 ∨ (0 ≤ q ∧ q + Pl.sz t = nodes)) ∧ e = .returned (.int .i64 q) ∧ Below w.heap.size w w'
set_option maxHeartbeats 1600000 in
theorem left_at {P : Nat → Prop} {w : World} {t : Pl.Tr} {r : Sl} (h : Tin P w t r) (hP : ∀ b, P b → b < w.heap.size) : ∀ w1, Same P w w1 → w.heap.size ≤ w1.heap.size → ∀ nodes levels : Int, nodes ≤ 1000000 → -1000000 ≤ nodes → levels ≤ 1000000 → -1000000 ≤ levels →
    Calls Try.prog 50 #[.agg #[.int .i64 t.kind, .string t.text, .slice r.ga t.gaps.length r.gc, .slice r.da t.kids.length r.dc], .int .i64 nodes, .int .i64 levels] w1 (LeftP t nodes w1) := by
  induction h with
  | mk t r R hs hg hl hk hr ih =>
    intro w1 hsame hge nodes levels hn1 hn0 hl1 hl0
    cases t with
    | node k s g ks =>
      obtain ⟨ga, gc, a, c⟩ := r
      simp only [Pl.Tr.kids, Pl.Tr.gaps, Pl.Tr.text, Pl.Tr.kind] at *
      have hsz : Pl.sz (.node k s g ks) = Pl.szs ks + 1 := by rw [Pl.sz]
      have HSZ := Lib.hid hsz
      unfold maxLen at hl
      obtain ⟨n, hn⟩ : ∃ n, n = ks.length := ⟨_, rfl⟩
      rw [← hn] at hl ⊢
      have HN := Lib.hid hn
      have HK := Lib.hid hk
      have HI := Lib.hid ih
      have HS := Lib.hid hsame
      have hz0 : Pl.szs (ks.take 0) = 0 := by simp [Pl.szs]
      have HZ := Lib.hid hz0
      clear hn hk hg hr ih hsame hz0 hsz
      by_cases c1 : nodes < 1
      · go_enter Try.func50, Try.ntmps50
        go_wp2_with fail
        go_ret
        exact ⟨-1, .inl rfl, rfl, (Below.refl _ _).alloc (Nat.le_refl _) _⟩
      by_cases c2 : levels < 1
      · go_enter Try.func50, Try.ntmps50
        go_wp2_with fail
        go_ret
        exact ⟨-1, .inl rfl, rfl, (Below.refl _ _).alloc (Nat.le_refl _) _⟩
      by_cases c3 : nodes < (n : Int)
      · go_enter Try.func50, Try.ntmps50
        go_wp2_with fail
        go_ret
        exact ⟨-1, .inl rfl, rfl, (Below.refl _ _).alloc (Nat.le_refl _) _⟩
      go_enter Try.func50, Try.ntmps50
      go_wp2_with fail
      go_loopw [7, 8] (fun s i wr => ∃ (j : Nat) (m : Int), j ≤ n ∧ i = .int .i64 j ∧ s = .int .i64 m ∧ (0 ≤ m ∧ m + (Pl.szs (ks.take j) + 1 : Nat) = nodes) ∧ Below w1.heap.size w1 wr ∧ w1.heap.size < wr.heap.size ∧ wr.cell? ⟨w1.heap.size, 3, none⟩ = some (.slice a n c)) (fun _ i _ => n - (intOf i).toNat)
      case atStart => exact ⟨0, nodes - 1, Nat.zero_le _, rfl, rfl, ⟨by omega, by rw [HZ.out]; omega⟩, (Below.refl _ _).alloc (Nat.le_refl _) _, by simp, by simp⟩
      case round =>
        obtain ⟨j, m, hj, rfl, rfl, ⟨hm0, hm⟩, hbel, hgt, hcell⟩ := hrel
        have HB := Lib.hid hbel
        have HC := Lib.hid hcell
        by_cases hlt : j < n
        · have hjk : j < ks.length := by rw [← HN.out]; exact hlt
          have hu := List.getElem?_eq_getElem hjk
          have HT := Lib.hid (Pl.szs_take ks j hjk)
          have hsr : Same P w wr := HS.out.trans (Same.below hbel fun b hb => Nat.lt_of_lt_of_le (hP b hb) hge)
          rcases HK.out with h0 | ⟨b, o, rfl, hb, hat⟩
          · rw [h0] at hjk; simp at hjk
          · have l1 := Lib.hid (At4.keep (hat j _ hu) hsr hb).range
            have HI1 := Lib.hid (HI.out j _ hu)
            generalize ks[j] = u at *
            generalize R j = r1 at *
            obtain ⟨ga1, gc1, da1, dc1⟩ := r1
            have hm1 : m ≤ 1000000 := by omega
            have HM := Lib.hid hm
            have HSR := Lib.hid hsr
            clear hat hm hu hsr hbel
            go_wp2_with (first
              | (refine wpList_load_mid rfl 25 _ rfl b (o + j * 4) rfl [.int .i64 u.kind, .string u.text, .slice ga1 u.gaps.length gc1, .slice da1 u.kids.length dc1] _ l1.out Try.underlying25 rfl sizeN ?_)
              | (go_at_call 50; refine (HI1.out _ HSR.out (by omega) m (levels - 1) (by omega) (by omega) (by omega) (by omega)).mono ?_; rintro e w' ⟨q, hq, rfl, hb2⟩; have HB2 := Lib.hid hb2; clear hb2; have HQ := Lib.hid hq; by_cases hq0 : q < 0))
            · go_ret
              exact ⟨-1, .inl rfl, rfl, HB.out.trans (HB2.out.mono (by omega))⟩
            · exact ⟨⟨j + 1, q, by omega, by go_num, rfl, ⟨by omega, by have := HQ.out; have := HM.out; rw [HT.out]; omega⟩, HB.out.trans (HB2.out.mono (by omega)), by have := HB2.out.size; omega, (HB2.out.cell (p := ⟨_, _, none⟩) hgt).trans HC.out⟩, by simp [intOf]; omega⟩
        · have hjn : j = n := by omega
          subst hjn
          have HR : Hid (m + (Pl.szs ks + 1 : Nat) = nodes) := Lib.hid (by rw [HN.out, List.take_length] at hm; exact hm)
          clear hm hbel
          go_wp2_with fail
          go_ret
          exact ⟨m, .inr ⟨hm0, by rw [HSZ.out]; exact HR.out⟩, rfl, HB.out⟩

/-- What is left of the bytes, and that no node has more gaps. -/
def WeighP (t : Pl.Tr) (bytes : Int) (w : World) (e : Ending) (w' : World) : Prop :=
  ∃ q : Int, (q = -1 ∨ (0 ≤ q ∧ q ≤ bytes ∧ ∀ x ∈ Pl.pre t, (x.gaps.length : Int) ≤ bytes)) ∧ e = .returned (.int .i64 q) ∧ Below w.heap.size w w'
set_option maxHeartbeats 1600000 in
theorem weigh_at {P : Nat → Prop} {w : World} {t : Pl.Tr} {r : Sl} (h : Tin P w t r) (hP : ∀ b, P b → b < w.heap.size) : ∀ w1, Same P w w1 → w.heap.size ≤ w1.heap.size → ∀ bytes : Int, bytes ≤ 1000000 → 0 ≤ bytes →
    Calls Try.prog 47 #[.agg #[.int .i64 t.kind, .string t.text, .slice r.ga t.gaps.length r.gc, .slice r.da t.kids.length r.dc], .int .i64 bytes] w1 (WeighP t bytes w1) := by
  induction h with
  | mk t r R hs hg hl hk hr ih =>
    intro w1 hsame hge bytes hn1 hn0
    cases t with
    | node k s g ks =>
      obtain ⟨ga, gc, a, c⟩ := r
      simp only [Pl.Tr.kids, Pl.Tr.gaps, Pl.Tr.text, Pl.Tr.kind] at *
      obtain ⟨hgl, hgx, hga⟩ := hg
      unfold maxLen at hl hs hgl
      obtain ⟨n, hn⟩ : ∃ n, n = ks.length := ⟨_, rfl⟩
      obtain ⟨m, hm⟩ : ∃ m, m = g.length := ⟨_, rfl⟩
      rw [← hn] at hl ⊢
      rw [← hm] at hgl ⊢
      have HN := Lib.hid hn
      have HM := Lib.hid hm
      have HK := Lib.hid hk
      have HG := Lib.hid hga
      have HX := Lib.hid hgx
      have HI := Lib.hid ih
      have HS := Lib.hid hsame
      clear hn hm hk hga hgx hr ih hsame
      by_cases c1 : bytes < (s.size : Int)
      · go_enter Try.func47, Try.ntmps47
        go_wp2_with fail
        go_ret
        exact ⟨-1, .inl rfl, rfl, (Below.refl _ _).alloc (Nat.le_refl _) _⟩
      by_cases c2 : bytes < (m : Int)
      · go_enter Try.func47, Try.ntmps47
        go_wp2_with fail
        go_ret
        exact ⟨-1, .inl rfl, rfl, (Below.refl _ _).alloc (Nat.le_refl _) _⟩
      go_enter Try.func47, Try.ntmps47
      go_wp2_with fail
      go_loopw [5, 6] (fun s i wr => ∃ (j : Nat) (q : Int), j ≤ m ∧ i = .int .i64 j ∧ s = .int .i64 q ∧ 0 ≤ q ∧ q ≤ bytes ∧ Below w1.heap.size w1 wr ∧ w1.heap.size < wr.heap.size ∧ wr.cell? ⟨w1.heap.size, 2, none⟩ = some (.slice ga m gc) ∧ wr.cell? ⟨w1.heap.size, 3, none⟩ = some (.slice a n c)) (fun _ i _ => m - (intOf i).toNat)
      case atStart => exact ⟨0, bytes - s.size, Nat.zero_le _, rfl, rfl, by omega, by omega, (Below.refl _ _).alloc (Nat.le_refl _) _, by simp, by simp, by simp⟩
      case round =>
        obtain ⟨j, q, hj, rfl, rfl, hq0, hq1, hbel, hgt, hcg, hck⟩ := hrel
        have HB := Lib.hid hbel
        by_cases hlt : j < m
        · have hjk : j < g.length := by rw [← HM.out]; exact hlt
          have hu := List.getElem?_eq_getElem hjk
          have hsr : Same P w wr := HS.out.trans (Same.below hbel fun b hb => Nat.lt_of_lt_of_le (hP b hb) hge)
          rcases HG.out with h0 | ⟨b, o, rfl, hb, hat⟩
          · rw [h0] at hjk; simp at hjk
          · have hcell := (hsr.cell hb).trans (hat j _ hu)
            have hxs := HX.out g[j] (List.getElem_mem _)
            unfold maxLen at hxs
            have HCG := Lib.hid hcg
            have HCK := Lib.hid hck
            generalize g[j] = x at *
            clear hat hu hsr hbel
            by_cases hxq : q ≤ (x.size : Int)
            · go_wp2_with fail
              go_ret
              exact ⟨-1, .inl rfl, rfl, HB.out⟩
            · go_wp2_with fail
              exact ⟨⟨j + 1, q - x.size - 1, by omega, by go_num, rfl, by omega, by omega, HB.out, hgt, HCG.out, HCK.out⟩, by simp [intOf]; omega⟩
        · have hjn : j = m := by omega
          subst hjn
          have HCK := Lib.hid hck
          clear hbel
          go_wp2_with fail
          go_loopw [5, 7] (fun s i wr => ∃ (j : Nat) (q : Int), j ≤ n ∧ i = .int .i64 j ∧ s = .int .i64 q ∧ 0 ≤ q ∧ q ≤ bytes ∧ (∀ t ∈ ks.take j, ∀ x ∈ Pl.pre t, (x.gaps.length : Int) ≤ bytes) ∧ Below w1.heap.size w1 wr ∧ w1.heap.size < wr.heap.size ∧ wr.cell? ⟨w1.heap.size, 3, none⟩ = some (.slice a n c)) (fun _ i _ => n - (intOf i).toNat)
          case atStart => exact ⟨0, q, Nat.zero_le _, rfl, rfl, hq0, hq1, (fun t ht => by simp at ht), HB.out, hgt, HCK.out⟩
          case round =>
            obtain ⟨j, q, hj, rfl, rfl, hq0, hq1, hall, hbel, hgt, hcell⟩ := hrel
            have HB := Lib.hid hbel
            have HC := Lib.hid hcell
            have HA := Lib.hid hall
            by_cases hlt : j < n
            · have hjk : j < ks.length := by rw [← HN.out]; exact hlt
              have hu := List.getElem?_eq_getElem hjk
              have HT := Lib.hid (List.take_succ_eq_append_getElem hjk)
              have hsr : Same P w wr := HS.out.trans (Same.below hbel fun b hb => Nat.lt_of_lt_of_le (hP b hb) hge)
              rcases HK.out with h0 | ⟨b, o, rfl, hb, hat⟩
              · rw [h0] at hjk; simp at hjk
              · have l1 := Lib.hid (At4.keep (hat j _ hu) hsr hb).range
                have HI1 := Lib.hid (HI.out j _ hu)
                generalize ks[j] = u at *
                generalize R j = r1 at *
                obtain ⟨ga1, gc1, da1, dc1⟩ := r1
                have HSR := Lib.hid hsr
                clear hat hu hsr hbel hall
                go_wp2_with (first
                  | (refine wpList_load_mid rfl 25 _ rfl b (o + j * 4) rfl [.int .i64 u.kind, .string u.text, .slice ga1 u.gaps.length gc1, .slice da1 u.kids.length dc1] _ l1.out Try.underlying25 rfl sizeN ?_)
                  | (go_at_call 47; refine (HI1.out _ HSR.out (by omega) q (by omega) (by omega)).mono ?_; rintro e w' ⟨p, hp, rfl, hb2⟩; have HB2 := Lib.hid hb2; clear hb2; have HQ := Lib.hid hp; by_cases hp0 : p < 0))
                · go_ret
                  exact ⟨-1, .inl rfl, rfl, HB.out.trans (HB2.out.mono (by omega))⟩
                · have hp3 : 0 ≤ p ∧ p ≤ q ∧ ∀ x ∈ Pl.pre u, (x.gaps.length : Int) ≤ q := by
                    rcases HQ.out with h | h
                    · omega
                    · exact h
                  exact ⟨⟨j + 1, p, by omega, by go_num, rfl, by omega, by omega, (fun t ht x hx => by
                    rw [HT.out] at ht
                    rcases List.mem_append.1 ht with ht | ht
                    · exact HA.out t ht x hx
                    · simp at ht; subst ht; have := hp3.2.2 x hx; omega), HB.out.trans (HB2.out.mono (by omega)), by have := HB2.out.size; omega, (HB2.out.cell (p := ⟨_, _, none⟩) hgt).trans HC.out⟩, by simp [intOf]; omega⟩
            · have hjn : j = n := by omega
              subst hjn
              have HR : Hid (∀ t ∈ ks, ∀ x ∈ Pl.pre t, (x.gaps.length : Int) ≤ bytes) := Lib.hid (by rw [HN.out, List.take_length] at hall; exact hall)
              clear hall hbel
              go_wp2_with fail
              go_ret
              refine ⟨q, .inr ⟨hq0, hq1, fun x hx => ?_⟩, rfl, HB.out⟩
              rw [Pl.pre] at hx
              rcases List.mem_cons.1 hx with rfl | hx
              · show ((g.length : Nat) : Int) ≤ bytes
                rw [← HM.out]; omega
              · obtain ⟨t, ht, hxt⟩ := Pl.pres_mem hx
                exact HR.out t ht x hxt
end Go.Proofs.Ytidmbdilediplaa
