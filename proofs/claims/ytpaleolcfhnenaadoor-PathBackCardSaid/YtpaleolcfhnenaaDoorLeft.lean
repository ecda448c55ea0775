/- What the reference's Fits answers, exactly. -/
import Derived.Test.YtpaleolcfhnenaaDoorLaw
namespace Go.Proofs.YtpaleolcfhnenaaDoor.Rt
open Go.RowKit
set_option linter.unusedVariables false
set_option linter.unusedSimpArgs false

/-- What is left, exactly. -/
def LeftX (t : Pl.Tr) (nodes levels : Int) (w : World) (e : Ending) (w' : World) : Prop :=
  ∃ q : Int, ((q = -1 ∧ ¬((Pl.sz t : Int) ≤ nodes ∧ (Pl.ht t : Int) ≤ levels)) ∨ (0 ≤ q ∧ q + Pl.sz t = nodes ∧ (Pl.ht t : Int) ≤ levels)) ∧ e = .returned (.int .i64 q) ∧ Below w.heap.size w w'
set_option maxHeartbeats 1600000 in
set_option maxRecDepth 100000 in
theorem left_is {P : Nat → Prop} {w : World} {t : Pl.Tr} {r : Sl} (h : Tin P w t r) (hP : ∀ b, P b → b < w.heap.size) : ∀ w1, Same P w w1 → w.heap.size ≤ w1.heap.size → ∀ nodes levels : Int, nodes ≤ 1000000 → -1000000 ≤ nodes → levels ≤ 1000000 → -1000000 ≤ levels →
    Calls Tryd.prog 50 #[.agg #[.int .i64 t.kind, .string t.text, .slice r.ga t.gaps.length r.gc, .slice r.da t.kids.length r.dc], .int .i64 nodes, .int .i64 levels] w1 (LeftX t nodes levels w1) := by
  induction h with
  | mk t r R hs hg hl hk hr hcap ih =>
    intro w1 hsame hge nodes levels hn1 hn0 hl1 hl0
    cases t with
    | node k s g ks =>
      obtain ⟨ga, gc, a, c⟩ := r
      simp only [Pl.Tr.kids, Pl.Tr.gaps, Pl.Tr.text, Pl.Tr.kind] at *
      have hsz : Pl.sz (.node k s g ks) = Pl.szs ks + 1 := by rw [Pl.sz]
      have HSZ := Lib.hid hsz
      have hht : Pl.ht (.node k s g ks) = Pl.hts ks + 1 := by rw [Pl.ht]
      have HHT := Lib.hid hht
      have HLN := Lib.hid (Pl.len_szs ks)
      clear hht
      unfold maxLen at hl
      obtain ⟨n, hn⟩ : ∃ n, n = ks.length := ⟨_, rfl⟩
      rw [← hn] at hl ⊢
      have HN := Lib.hid hn
      have HK := Lib.hid hk
      have HI := Lib.hid ih
      have HS := Lib.hid hsame
      have hz0 : Pl.szs (ks.take 0) = 0 := by simp [Pl.szs]
      have HZ2 : Hid (Pl.hts (ks.take 0) = 0) := Lib.hid (by simp [Pl.hts])
      have HZ := Lib.hid hz0
      clear hn hk hg hr ih hsame hz0 hsz
      by_cases c1 : nodes < 1
      · go_enter Tryd.func50, Tryd.ntmps50
        go_wp2_with fail
        go_ret
        exact ⟨-1, .inl ⟨rfl, by have := HSZ.out; omega⟩, rfl, (Below.refl _ _).alloc (Nat.le_refl _) _⟩
      by_cases c2 : levels < 1
      · go_enter Tryd.func50, Tryd.ntmps50
        go_wp2_with fail
        go_ret
        exact ⟨-1, .inl ⟨rfl, by have := HHT.out; omega⟩, rfl, (Below.refl _ _).alloc (Nat.le_refl _) _⟩
      by_cases c3 : nodes < (n : Int)
      · go_enter Tryd.func50, Tryd.ntmps50
        go_wp2_with fail
        go_ret
        exact ⟨-1, .inl ⟨rfl, by have := HSZ.out; have := HLN.out; have := HN.out; omega⟩, rfl, (Below.refl _ _).alloc (Nat.le_refl _) _⟩
      go_enter Tryd.func50, Tryd.ntmps50
      go_wp2_with fail
      go_loopw [7, 8] (fun s i wr => ∃ (j : Nat) (m : Int), j ≤ n ∧ i = .int .i64 j ∧ s = .int .i64 m ∧ (0 ≤ m ∧ m + (Pl.szs (ks.take j) + 1 : Nat) = nodes) ∧ Hid ((Pl.hts (ks.take j) : Int) ≤ levels - 1) ∧ Below w1.heap.size w1 wr ∧ w1.heap.size < wr.heap.size ∧ wr.cell? ⟨w1.heap.size, 3, none⟩ = some (.slice a n c)) (fun _ i _ => n - (intOf i).toNat)
      case atStart => exact ⟨0, nodes - 1, Nat.zero_le _, rfl, rfl, ⟨by omega, by rw [HZ.out]; omega⟩, Lib.hid (by rw [HZ2.out]; omega), (Below.refl _ _).alloc (Nat.le_refl _) _, by simp, by simp⟩
      case round =>
        obtain ⟨j, m, hj, rfl, rfl, ⟨hm0, hm⟩, HH, hbel, hgt, hcell⟩ := hrel
        have HB := Lib.hid hbel
        have HC := Lib.hid hcell
        by_cases hlt : j < n
        · have hjk : j < ks.length := by rw [← HN.out]; exact hlt
          have hu := List.getElem?_eq_getElem hjk
          have HT := Lib.hid (Pl.szs_take ks j hjk)
          have HT2 := Lib.hid (Pl.hts_take ks j hjk)
          have HLE := Lib.hid (Pl.szs_step ks j hjk)
          have HME := Lib.hid (Pl.hts_mem (List.getElem_mem hjk))
          have hsr : Same P w wr := HS.out.trans (Same.below hbel fun b hb => Nat.lt_of_lt_of_le (hP b hb) hge)
          rcases HK.out with h0 | ⟨b, o, rfl, hb, hat⟩
          · rw [h0] at hjk; simp at hjk
          · have l1 := Lib.hid (At4.keep (hat j _ hu) hsr hb).range
            have HI1 := Lib.hid (HI.out j _ hu)
            generalize ks[j] = u at *
            generalize R j = r1 at *
            obtain ⟨ga1, gc1, da1, dc1⟩ := r1
            have hm1 : m ≤ 1000000 := by omega
            have HM := Lib.hid hm
            have HSR := Lib.hid hsr
            clear hat hm hu hsr hbel
            go_wp2_with (first
              | (refine wpList_load_mid rfl 25 _ rfl b (o + j * 4) rfl [.int .i64 u.kind, .string u.text, .slice ga1 u.gaps.length gc1, .slice da1 u.kids.length dc1] _ l1.out Tryd.underlying25 rfl sizeN ?_)
              | (go_at_call 50; refine (HI1.out _ HSR.out (by omega) m (levels - 1) (by omega) (by omega) (by omega) (by omega)).mono ?_; rintro e w' ⟨q, hq, rfl, hb2⟩; have HB2 := Lib.hid hb2; clear hb2; have HQ := Lib.hid hq; by_cases hq0 : q < 0))
            · go_ret
              refine ⟨-1, .inl ⟨rfl, ?_⟩, rfl, HB.out.trans (HB2.out.mono (by omega))⟩
              have h1 := HQ.out; have h2 := HM.out; have h3 := HLE.out; have h4 := HME.out; have h5 := HSZ.out; have h6 := HHT.out; have h7 := HT.out
              omega
            · exact ⟨⟨j + 1, q, by omega, by go_num, rfl, ⟨by omega, by have := HQ.out; have := HM.out; rw [HT.out]; omega⟩, Lib.hid (by have := HQ.out; have := HH.out; rw [HT2.out]; omega), HB.out.trans (HB2.out.mono (by omega)), by have := HB2.out.size; omega, (HB2.out.cell (p := ⟨_, _, none⟩) hgt).trans HC.out⟩, by simp [intOf]; omega⟩
        · have hjn : j = n := by omega
          subst hjn
          have HR : Hid (m + (Pl.szs ks + 1 : Nat) = nodes) := Lib.hid (by rw [HN.out, List.take_length] at hm; exact hm)
          clear hm hbel
          go_wp2_with fail
          go_ret
          have HH2 : (Pl.hts ks : Int) ≤ levels - 1 := (by have := HH.out; rwa [HN.out, List.take_length] at this)
          exact ⟨m, .inr ⟨hm0, by rw [HSZ.out]; exact HR.out, by rw [HHT.out]; omega⟩, rfl, HB.out⟩
def sm (t : Pl.Tr) : Bool := decide (Pl.sz t ≤ 300 ∧ Pl.ht t ≤ 60)
set_option maxHeartbeats 400000 in
theorem fits_is {P : Nat → Prop} {w : World} {t : Pl.Tr} {r : Sl} (h : Tin P w t r) (hP : ∀ b, P b → b < w.heap.size) (w1 : World) (hs : Same P w w1) (hge : w.heap.size ≤ w1.heap.size) :
    Calls Tryd.prog 30 #[nvx t r, .int .i64 300, .int .i64 60] w1 fun e w' => e = .returned (.bool (sm t)) ∧ Below w1.heap.size w1 w' := by
  have HL := Lib.hid (fun w1 hs hge => left_is h hP w1 hs hge 300 60 (by omega) (by omega) (by omega) (by omega))
  have HS := Lib.hid (fun o => same_box (o := o) hs hP hge)
  obtain ⟨ga, gc, a, c⟩ := r
  clear h hs
  go_enter Tryd.func30, Tryd.ntmps30
  go_wp2_with ((go_at_call 50; refine (HL.out _ (HS.out _) (by simp; omega)).mono ?_; rintro e w' ⟨q, hq, rfl, hb2⟩; have HB2 := Lib.hid hb2; clear hb2; have HQ := Lib.hid hq; clear hq))
  · go_ret
    refine ⟨congrArg (fun b => Ending.returned (.bool b)) ?_, ((Below.refl _ _).alloc (Nat.le_refl _) _).trans (HB2.out.mono (by simp))⟩
    have h1 := HQ.out
    unfold sm
    rw [decide_eq_decide]
    omega
set_option maxHeartbeats 400000 in
theorem small_ex (t : Pl.Tr) (r : Sl) (w : World) (h : IsT w t r) (b : Bool) (hb : sm t = b) : Calls Tryd.prog 9 #[nvx t r] w fun e w' => e = .returned (.bool b) ∧ Below w.heap.size w w' := by
  have HF := Lib.hid (fun w1 hs hge => fits_is h (fun _ h => h) w1 hs hge)
  have HS := Lib.hid (fun o => same_box (o := o) (Same.refl (fun b => b < w.heap.size) w) (fun _ h => h) (Nat.le_refl _))
  rw [hb] at HF
  obtain ⟨ga, gc, a, c⟩ := r
  clear h hb
  go_enter Tryd.func9, Tryd.ntmps9
  go_wp2_with ((go_at_call 30; refine (HF.out _ (HS.out _) (by simp)).mono ?_; rintro e w' ⟨rfl, hb2⟩; have HB2 := Lib.hid hb2; clear hb2))
  go_ret
  exact ⟨rfl, ((Below.refl _ _).alloc (Nat.le_refl _) _).trans (HB2.out.mono (by simp))⟩
end Go.Proofs.YtpaleolcfhnenaaDoor.Rt
