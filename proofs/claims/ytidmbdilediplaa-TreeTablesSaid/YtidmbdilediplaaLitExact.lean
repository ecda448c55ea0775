/- light's answer as a function of the tree: the walks of left, Fits, weigh, Light and light once more, with what exactly they answer. -/
import Derived.Test.YtidmbdilediplaaWalkLit
namespace Go.Proofs.Ytidmbdilediplaa
open Go.RowKit
set_option linter.unusedVariables false
set_option linter.unusedSimpArgs false

mutual
def leftF : Pl.Tr → Int → Int → Int
  | .node k s g ks, n, l => if n < 1 ∨ l < 1 ∨ n < (ks.length : Int) then -1 else leftsF ks (n - 1) (l - 1)
def leftsF : List Pl.Tr → Int → Int → Int
  | [], n, _ => n
  | t :: ts, n, l => if leftF t n l < 0 then -1 else leftsF ts (leftF t n l) l
end
def gapsF : List ByteArray → Int → Int
  | [], q => q
  | x :: xs, q => if q ≤ (x.size : Int) then -1 else gapsF xs (q - x.size - 1)
mutual
def weighF : Pl.Tr → Int → Int
  | .node k s g ks, b => if b < (s.size : Int) ∨ b < (g.length : Int) then -1 else if gapsF g (b - s.size) < 0 then -1 else weighsF ks (gapsF g (b - s.size))
def weighsF : List Pl.Tr → Int → Int
  | [], q => q
  | t :: ts, q => if weighF t q < 0 then -1 else weighsF ts (weighF t q)
end
theorem leftsF_step {ks : List Pl.Tr} {j : Nat} {u : Pl.Tr} (hu : ks[j]? = some u) (m l : Int) : leftsF (ks.drop j) m l = if leftF u m l < 0 then -1 else leftsF (ks.drop (j + 1)) (leftF u m l) l := by
  obtain ⟨hj, rfl⟩ := List.getElem?_eq_some_iff.1 hu
  rw [List.drop_eq_getElem_cons hj, leftsF]
theorem gapsF_step {g : List ByteArray} {j : Nat} {x : ByteArray} (hu : g[j]? = some x) (q : Int) : gapsF (g.drop j) q = if q ≤ (x.size : Int) then -1 else gapsF (g.drop (j + 1)) (q - x.size - 1) := by
  obtain ⟨hj, rfl⟩ := List.getElem?_eq_some_iff.1 hu
  rw [List.drop_eq_getElem_cons hj, gapsF]
theorem weighsF_step {ks : List Pl.Tr} {j : Nat} {u : Pl.Tr} (hu : ks[j]? = some u) (q : Int) : weighsF (ks.drop j) q = if weighF u q < 0 then -1 else weighsF (ks.drop (j + 1)) (weighF u q) := by
  obtain ⟨hj, rfl⟩ := List.getElem?_eq_some_iff.1 hu
  rw [List.drop_eq_getElem_cons hj, weighsF]
def LeftE (t : Pl.Tr) (nodes levels : Int) (w : World) (e : Ending) (w' : World) : Prop :=
  ∃ q : Int, ((q = -1 ∨ (0 ≤ q ∧ q + Pl.sz t = nodes)) ∧ q = leftF t nodes levels) ∧ e = .returned (.int .i64 q) ∧ Below w.heap.size w w'
set_option maxHeartbeats 1600000 in
theorem leftE_at {P : Nat → Prop} {w : World} {t : Pl.Tr} {r : Sl} (h : Tin P w t r) (hP : ∀ b, P b → b < w.heap.size) : ∀ w1, Same P w w1 → w.heap.size ≤ w1.heap.size → ∀ nodes levels : Int, nodes ≤ 1000000 → -1000000 ≤ nodes → levels ≤ 1000000 → -1000000 ≤ levels →
    Calls Try.prog 50 #[.agg #[.int .i64 t.kind, .string t.text, .slice r.ga t.gaps.length r.gc, .slice r.da t.kids.length r.dc], .int .i64 nodes, .int .i64 levels] w1 (LeftE t nodes levels w1) := by
  induction h with
  | mk t r R hs hg hl hk hr ih =>
    intro w1 hsame hge nodes levels hn1 hn0 hl1 hl0
    cases t with
    | node k s g ks =>
      obtain ⟨ga, gc, a, c⟩ := r
      simp only [Pl.Tr.kids, Pl.Tr.gaps, Pl.Tr.text, Pl.Tr.kind] at *
      have hsz : Pl.sz (.node k s g ks) = Pl.szs ks + 1 := by rw [Pl.sz]
      have HSZ := Lib.hid hsz
      unfold maxLen at hl
      obtain ⟨n, hn⟩ : ∃ n, n = ks.length := ⟨_, rfl⟩
      rw [← hn] at hl ⊢
      have HN := Lib.hid hn
      have HK := Lib.hid hk
      have HI := Lib.hid ih
      have HS := Lib.hid hsame
      have hz0 : Pl.szs (ks.take 0) = 0 := by simp [Pl.szs]
      have HZ := Lib.hid hz0
      clear hn hk hg hr ih hsame hz0 hsz
      by_cases c1 : nodes < 1
      · go_enter Try.func50, Try.ntmps50
        go_wp2_with fail
        go_ret
        exact ⟨-1, ⟨.inl rfl, by rw [leftF, if_pos (.inl c1)]⟩, rfl, (Below.refl _ _).alloc (Nat.le_refl _) _⟩
      by_cases c2 : levels < 1
      · go_enter Try.func50, Try.ntmps50
        go_wp2_with fail
        go_ret
        exact ⟨-1, ⟨.inl rfl, by rw [leftF, if_pos (.inr (.inl c2))]⟩, rfl, (Below.refl _ _).alloc (Nat.le_refl _) _⟩
      by_cases c3 : nodes < (n : Int)
      · go_enter Try.func50, Try.ntmps50
        go_wp2_with fail
        go_ret
        exact ⟨-1, ⟨.inl rfl, by rw [leftF, if_pos (.inr (.inr (by rw [← HN.out]; exact c3)))]⟩, rfl, (Below.refl _ _).alloc (Nat.le_refl _) _⟩
      have HE0 : Hid (leftF (.node k s g ks) nodes levels = leftsF ks (nodes - 1) (levels - 1)) := Lib.hid (by rw [leftF, if_neg (by rw [← HN.out]; omega)])
      go_enter Try.func50, Try.ntmps50
      go_wp2_with fail
      go_loopw [7, 8] (fun sv i wr => ∃ (j : Nat) (m : Int), j ≤ n ∧ i = .int .i64 j ∧ sv = .int .i64 m ∧ (0 ≤ m ∧ m + (Pl.szs (ks.take j) + 1 : Nat) = nodes) ∧ Hid (leftF (.node k s g ks) nodes levels = leftsF (ks.drop j) m (levels - 1)) ∧ Below w1.heap.size w1 wr ∧ w1.heap.size < wr.heap.size ∧ wr.cell? ⟨w1.heap.size, 3, none⟩ = some (.slice a n c)) (fun _ i _ => n - (intOf i).toNat)
      case atStart => exact ⟨0, nodes - 1, Nat.zero_le _, rfl, rfl, ⟨by omega, by rw [HZ.out]; omega⟩, Lib.hid (by rw [List.drop_zero]; exact HE0.out), (Below.refl _ _).alloc (Nat.le_refl _) _, by simp, by simp⟩
      case round =>
        obtain ⟨j, m, hj, rfl, rfl, ⟨hm0, hm⟩, HE, hbel, hgt, hcell⟩ := hrel
        have HB := Lib.hid hbel
        have HC := Lib.hid hcell
        by_cases hlt : j < n
        · have hjk : j < ks.length := by rw [← HN.out]; exact hlt
          have hu := List.getElem?_eq_getElem hjk
          have HT := Lib.hid (Pl.szs_take ks j hjk)
          have HES := Lib.hid (leftsF_step hu m (levels - 1))
          have hsr : Same P w wr := HS.out.trans (Same.below hbel fun b hb => Nat.lt_of_lt_of_le (hP b hb) hge)
          rcases HK.out with h0 | ⟨b, o, rfl, hb, hat⟩
          · rw [h0] at hjk; simp at hjk
          · have l1 := Lib.hid (At4.keep (hat j _ hu) hsr hb).range
            have HI1 := Lib.hid (HI.out j _ hu)
            generalize ks[j] = u at *
            generalize R j = r1 at *
            obtain ⟨ga1, gc1, da1, dc1⟩ := r1
            have hm1 : m ≤ 1000000 := by omega
            have HM := Lib.hid hm
            have HSR := Lib.hid hsr
            clear hat hm hu hsr hbel
            go_wp2_with (first
              | (refine wpList_load_mid rfl 25 _ rfl b (o + j * 4) rfl [.int .i64 u.kind, .string u.text, .slice ga1 u.gaps.length gc1, .slice da1 u.kids.length dc1] _ l1.out Try.underlying25 rfl sizeN ?_)
              | (go_at_call 50; refine (HI1.out _ HSR.out (by omega) m (levels - 1) (by omega) (by omega) (by omega) (by omega)).mono ?_; rintro e w' ⟨q, ⟨hq, hqf⟩, rfl, hb2⟩; have HQF := Lib.hid hqf; clear hqf; have HB2 := Lib.hid hb2; clear hb2; have HQ := Lib.hid hq; by_cases hq0 : q < 0))
            · go_ret
              exact ⟨-1, ⟨.inl rfl, by rw [HE.out, HES.out, ← HQF.out, if_pos hq0]⟩, rfl, HB.out.trans (HB2.out.mono (by omega))⟩
            · exact ⟨⟨j + 1, q, by omega, by go_num, rfl, ⟨by omega, by have := HQ.out; have := HM.out; rw [HT.out]; omega⟩, Lib.hid (by rw [HE.out, HES.out, ← HQF.out, if_neg (by omega)]), HB.out.trans (HB2.out.mono (by omega)), by have := HB2.out.size; omega, (HB2.out.cell (p := ⟨_, _, none⟩) hgt).trans HC.out⟩, by simp [intOf]; omega⟩
        · have hjn : j = n := by omega
          subst hjn
          have HR : Hid (m + (Pl.szs ks + 1 : Nat) = nodes) := Lib.hid (by rw [HN.out, List.take_length] at hm; exact hm)
          clear hm hbel
          go_wp2_with fail
          go_ret
          exact ⟨m, ⟨.inr ⟨hm0, by rw [HSZ.out]; exact HR.out⟩, by rw [HE.out, HN.out, List.drop_length, leftsF]⟩, rfl, HB.out⟩

/-- What is left of the bytes, and that no node has more gaps. -/
def WeighE (t : Pl.Tr) (bytes : Int) (w : World) (e : Ending) (w' : World) : Prop :=
  ∃ q : Int, ((q = -1 ∨ (0 ≤ q ∧ q ≤ bytes ∧ ∀ x ∈ Pl.pre t, (x.gaps.length : Int) ≤ bytes)) ∧ q = weighF t bytes) ∧ e = .returned (.int .i64 q) ∧ Below w.heap.size w w'
set_option maxHeartbeats 1600000 in
theorem weighE_at {P : Nat → Prop} {w : World} {t : Pl.Tr} {r : Sl} (h : Tin P w t r) (hP : ∀ b, P b → b < w.heap.size) : ∀ w1, Same P w w1 → w.heap.size ≤ w1.heap.size → ∀ bytes : Int, bytes ≤ 1000000 → 0 ≤ bytes →
    Calls Try.prog 47 #[.agg #[.int .i64 t.kind, .string t.text, .slice r.ga t.gaps.length r.gc, .slice r.da t.kids.length r.dc], .int .i64 bytes] w1 (WeighE t bytes w1) := by
  induction h with
  | mk t r R hs hg hl hk hr ih =>
    intro w1 hsame hge bytes hn1 hn0
    cases t with
    | node k s g ks =>
      obtain ⟨ga, gc, a, c⟩ := r
      simp only [Pl.Tr.kids, Pl.Tr.gaps, Pl.Tr.text, Pl.Tr.kind] at *
      obtain ⟨hgl, hgx, hga⟩ := hg
      unfold maxLen at hl hs hgl
      obtain ⟨n, hn⟩ : ∃ n, n = ks.length := ⟨_, rfl⟩
      obtain ⟨m, hm⟩ : ∃ m, m = g.length := ⟨_, rfl⟩
      rw [← hn] at hl ⊢
      rw [← hm] at hgl ⊢
      have HN := Lib.hid hn
      have HM := Lib.hid hm
      have HK := Lib.hid hk
      have HG := Lib.hid hga
      have HX := Lib.hid hgx
      have HI := Lib.hid ih
      have HS := Lib.hid hsame
      clear hn hm hk hga hgx hr ih hsame
      by_cases c1 : bytes < (s.size : Int)
      · go_enter Try.func47, Try.ntmps47
        go_wp2_with fail
        go_ret
        exact ⟨-1, ⟨.inl rfl, by rw [weighF, if_pos (.inl c1)]⟩, rfl, (Below.refl _ _).alloc (Nat.le_refl _) _⟩
      by_cases c2 : bytes < (m : Int)
      · go_enter Try.func47, Try.ntmps47
        go_wp2_with fail
        go_ret
        exact ⟨-1, ⟨.inl rfl, by rw [weighF, if_pos (.inr (by rw [← HM.out]; exact c2))]⟩, rfl, (Below.refl _ _).alloc (Nat.le_refl _) _⟩
      have HE0 : Hid (weighF (.node k s g ks) bytes = if gapsF g (bytes - s.size) < 0 then -1 else weighsF ks (gapsF g (bytes - s.size))) := Lib.hid (by rw [weighF, if_neg (by rw [← HM.out]; omega)])
      go_enter Try.func47, Try.ntmps47
      go_wp2_with fail
      go_loopw [5, 6] (fun sv i wr => ∃ (j : Nat) (q : Int), j ≤ m ∧ i = .int .i64 j ∧ sv = .int .i64 q ∧ 0 ≤ q ∧ q ≤ bytes ∧ Hid (gapsF g (bytes - s.size) = gapsF (g.drop j) q) ∧ Below w1.heap.size w1 wr ∧ w1.heap.size < wr.heap.size ∧ wr.cell? ⟨w1.heap.size, 2, none⟩ = some (.slice ga m gc) ∧ wr.cell? ⟨w1.heap.size, 3, none⟩ = some (.slice a n c)) (fun _ i _ => m - (intOf i).toNat)
      case atStart => exact ⟨0, bytes - s.size, Nat.zero_le _, rfl, rfl, by omega, by omega, Lib.hid (by rw [List.drop_zero]), (Below.refl _ _).alloc (Nat.le_refl _) _, by simp, by simp, by simp⟩
      case round =>
        obtain ⟨j, q, hj, rfl, rfl, hq0, hq1, HE, hbel, hgt, hcg, hck⟩ := hrel
        have HB := Lib.hid hbel
        by_cases hlt : j < m
        · have hjk : j < g.length := by rw [← HM.out]; exact hlt
          have hu := List.getElem?_eq_getElem hjk
          have HES := Lib.hid (gapsF_step hu q)
          have hsr : Same P w wr := HS.out.trans (Same.below hbel fun b hb => Nat.lt_of_lt_of_le (hP b hb) hge)
          rcases HG.out with h0 | ⟨b, o, rfl, hb, hat⟩
          · rw [h0] at hjk; simp at hjk
          · have hcell := (hsr.cell hb).trans (hat j _ hu)
            have hxs := HX.out g[j] (List.getElem_mem _)
            unfold maxLen at hxs
            have HCG := Lib.hid hcg
            have HCK := Lib.hid hck
            generalize g[j] = x at *
            clear hat hu hsr hbel
            by_cases hxq : q ≤ (x.size : Int)
            · go_wp2_with fail
              go_ret
              exact ⟨-1, ⟨.inl rfl, by rw [HE0.out, HE.out, HES.out, if_pos hxq, if_pos (by omega)]⟩, rfl, HB.out⟩
            · go_wp2_with fail
              exact ⟨⟨j + 1, q - x.size - 1, by omega, by go_num, rfl, by omega, by omega, Lib.hid (by rw [HE.out, HES.out, if_neg hxq]), HB.out, hgt, HCG.out, HCK.out⟩, by simp [intOf]; omega⟩
        · have hjn : j = m := by omega
          subst hjn
          have HCK := Lib.hid hck
          have HE1 : Hid (weighF (.node k s g ks) bytes = weighsF ks q) := Lib.hid (by rw [HE0.out, HE.out, HM.out, List.drop_length, gapsF, if_neg (by omega)])
          clear hbel HE
          go_wp2_with fail
          go_loopw [5, 7] (fun sv i wr => ∃ (j : Nat) (q : Int), j ≤ n ∧ i = .int .i64 j ∧ sv = .int .i64 q ∧ 0 ≤ q ∧ q ≤ bytes ∧ Hid (weighF (.node k s g ks) bytes = weighsF (ks.drop j) q) ∧ (∀ t ∈ ks.take j, ∀ x ∈ Pl.pre t, (x.gaps.length : Int) ≤ bytes) ∧ Below w1.heap.size w1 wr ∧ w1.heap.size < wr.heap.size ∧ wr.cell? ⟨w1.heap.size, 3, none⟩ = some (.slice a n c)) (fun _ i _ => n - (intOf i).toNat)
          case atStart => exact ⟨0, q, Nat.zero_le _, rfl, rfl, hq0, hq1, Lib.hid (by rw [List.drop_zero]; exact HE1.out), (fun t ht => by simp at ht), HB.out, hgt, HCK.out⟩
          case round =>
            obtain ⟨j, q, hj, rfl, rfl, hq0, hq1, HE, hall, hbel, hgt, hcell⟩ := hrel
            have HB := Lib.hid hbel
            have HC := Lib.hid hcell
            have HA := Lib.hid hall
            by_cases hlt : j < n
            · have hjk : j < ks.length := by rw [← HN.out]; exact hlt
              have hu := List.getElem?_eq_getElem hjk
              have HT := Lib.hid (List.take_succ_eq_append_getElem hjk)
              have HES := Lib.hid (weighsF_step hu q)
              have hsr : Same P w wr := HS.out.trans (Same.below hbel fun b hb => Nat.lt_of_lt_of_le (hP b hb) hge)
              rcases HK.out with h0 | ⟨b, o, rfl, hb, hat⟩
              · rw [h0] at hjk; simp at hjk
              · have l1 := Lib.hid (At4.keep (hat j _ hu) hsr hb).range
                have HI1 := Lib.hid (HI.out j _ hu)
                generalize ks[j] = u at *
                generalize R j = r1 at *
                obtain ⟨ga1, gc1, da1, dc1⟩ := r1
                have HSR := Lib.hid hsr
                clear hat hu hsr hbel hall
                go_wp2_with (first
                  | (refine wpList_load_mid rfl 25 _ rfl b (o + j * 4) rfl [.int .i64 u.kind, .string u.text, .slice ga1 u.gaps.length gc1, .slice da1 u.kids.length dc1] _ l1.out Try.underlying25 rfl sizeN ?_)
                  | (go_at_call 47; refine (HI1.out _ HSR.out (by omega) q (by omega) (by omega)).mono ?_; rintro e w' ⟨p, ⟨hp, hpf⟩, rfl, hb2⟩; have HPF := Lib.hid hpf; clear hpf; have HB2 := Lib.hid hb2; clear hb2; have HQ := Lib.hid hp; by_cases hp0 : p < 0))
                · go_ret
                  exact ⟨-1, ⟨.inl rfl, by rw [HE.out, HES.out, ← HPF.out, if_pos hp0]⟩, rfl, HB.out.trans (HB2.out.mono (by omega))⟩
                · have hp3 : 0 ≤ p ∧ p ≤ q ∧ ∀ x ∈ Pl.pre u, (x.gaps.length : Int) ≤ q := by
                    rcases HQ.out with h | h
                    · omega
                    · exact h
                  exact ⟨⟨j + 1, p, by omega, by go_num, rfl, by omega, by omega, Lib.hid (by rw [HE.out, HES.out, ← HPF.out, if_neg (by omega)]), (fun t ht x hx => by
                    rw [HT.out] at ht
                    rcases List.mem_append.1 ht with ht | ht
                    · exact HA.out t ht x hx
                    · simp at ht; subst ht; have := hp3.2.2 x hx; omega), HB.out.trans (HB2.out.mono (by omega)), by have := HB2.out.size; omega, (HB2.out.cell (p := ⟨_, _, none⟩) hgt).trans HC.out⟩, by simp [intOf]; omega⟩
            · have hjn : j = n := by omega
              subst hjn
              have HR : Hid (∀ t ∈ ks, ∀ x ∈ Pl.pre t, (x.gaps.length : Int) ≤ bytes) := Lib.hid (by rw [HN.out, List.take_length] at hall; exact hall)
              clear hall hbel
              go_wp2_with fail
              go_ret
              refine ⟨q, ⟨.inr ⟨hq0, hq1, fun x hx => ?_⟩, by rw [HE.out, HN.out, List.drop_length, weighsF]⟩, rfl, HB.out⟩
              rw [Pl.pre] at hx
              rcases List.mem_cons.1 hx with rfl | hx
              · show ((g.length : Nat) : Int) ≤ bytes
                rw [← HM.out]; omega
              · obtain ⟨t, ht, hxt⟩ := Pl.pres_mem hx
                exact HR.out t ht x hxt

/-- What light answers. -/
def litF (t : Pl.Tr) : Bool := decide (0 ≤ leftF t 400 60) && decide (0 ≤ weighF t 40000)
def LitE (t : Pl.Tr) (w : World) (e : Ending) (w' : World) : Prop := ∃ b : Bool, (b = true → Lit t) ∧ b = litF t ∧ e = .returned (.bool b) ∧ Below w.heap.size w w'
def FitE (t : Pl.Tr) (w : World) (e : Ending) (w' : World) : Prop := ∃ b : Bool, (b = true → Pl.sz t ≤ 400) ∧ b = decide (0 ≤ leftF t 400 60) ∧ e = .returned (.bool b) ∧ Below w.heap.size w w'
set_option maxHeartbeats 400000 in
theorem fitsE_at {P : Nat → Prop} {w : World} {t : Pl.Tr} {r : Sl} (h : Tin P w t r) (hP : ∀ b, P b → b < w.heap.size) (w1 : World) (hs : Same P w w1) (hge : w.heap.size ≤ w1.heap.size) :
    Calls Try.prog 46 #[.agg #[.int .i64 t.kind, .string t.text, .slice r.ga t.gaps.length r.gc, .slice r.da t.kids.length r.dc], .int .i64 400, .int .i64 60] w1 (FitE t w1) := by
  have HL := Lib.hid (fun w1 hs hge => leftE_at h hP w1 hs hge 400 60 (by omega) (by omega) (by omega) (by omega))
  have HS := Lib.hid (fun o => same_box (o := o) hs hP hge)
  obtain ⟨ga, gc, a, c⟩ := r
  clear h hs
  go_enter Try.func46, Try.ntmps46
  go_wp2_with ((go_at_call 50; refine (HL.out _ (HS.out _) (by simp; omega)).mono ?_; rintro e w' ⟨q, ⟨hq, hqf⟩, rfl, hb2⟩; have HB2 := Lib.hid hb2; clear hb2; have HQ := Lib.hid hq; have HQF := Lib.hid hqf; clear hqf))
  · go_ret
    exact ⟨_, (fun h => by have := of_decide_eq_true h; have := HQ.out; omega), by rw [← HQF.out], rfl, ((Below.refl _ _).alloc (Nat.le_refl _) _).trans (HB2.out.mono (by simp))⟩
set_option maxHeartbeats 400000 in
theorem lightRE_at {P : Nat → Prop} {w : World} {t : Pl.Tr} {r : Sl} (h : Tin P w t r) (hP : ∀ b, P b → b < w.heap.size) (w1 : World) (hs : Same P w w1) (hge : w.heap.size ≤ w1.heap.size) :
    Calls Try.prog 30 #[.agg #[.int .i64 t.kind, .string t.text, .slice r.ga t.gaps.length r.gc, .slice r.da t.kids.length r.dc], .int .i64 400, .int .i64 60, .int .i64 40000] w1 (LitE t w1) := by
  have HF := Lib.hid (fun w1 hs hge => fitsE_at h hP w1 hs hge)
  have HW := Lib.hid (fun w1 hs hge => weighE_at h hP w1 hs hge 40000 (by omega) (by omega))
  have HS := Lib.hid (fun o => same_box (o := o) hs hP hge)
  obtain ⟨ga, gc, a, c⟩ := r
  clear h hs
  go_enter Try.func30, Try.ntmps30
  go_wp2_with (go_at_call 46; refine (HF.out _ (HS.out _) (by simp; omega)).mono ?_; rintro e w' ⟨b1, hb1, hbf, rfl, hb2⟩; have HB2 := Lib.hid hb2; have HQ := Lib.hid hb1; have HQF := Lib.hid hbf; clear hb1 hbf; obtain ⟨c0, c1, c2, c3⟩ := (box_new w1 t.kind t.text (.slice ga t.gaps.length gc) (.slice a t.kids.length c)).keep (hb2.block w1.heap.size (by simp)); clear hb2; cases b1)
  · go_ret
    exact ⟨false, (fun h => by cases h), by unfold litF; rw [← HQF.out]; rfl, rfl, ((Below.refl _ _).alloc (Nat.le_refl _) _).trans (HB2.out.mono (by simp))⟩
  · have HS2 := Lib.hid ((HS.out (.cells #[.int .i64 t.kind, .string t.text, .slice ga t.gaps.length gc, .slice a t.kids.length c] 25)).trans (Same.below HB2.out (fun b hb => by have := hP b hb; simp; omega)))
    go_wp2_with (go_at_call 47; refine (HW.out _ HS2.out (by have := HB2.out.size; simp at this; omega)).mono ?_; rintro e w3 ⟨q, ⟨hq, hqf⟩, rfl, hb3⟩; have HB3 := Lib.hid hb3; clear hb3; have HQ2 := Lib.hid hq; have HQF2 := Lib.hid hqf; clear hq hqf)
    go_ret
    refine ⟨_, (fun h => ⟨HQ.out (by trivial), ?_⟩), by unfold litF; rw [← HQF.out, ← HQF2.out]; rfl, rfl, (((Below.refl _ _).alloc (Nat.le_refl _) _).trans (HB2.out.mono (by simp))).trans (HB3.out.mono (by have := HB2.out.size; simp at this; omega))⟩
    have := of_decide_eq_true h
    rcases HQ2.out with h2 | h2
    · omega
    · exact h2.2.2
set_option maxHeartbeats 400000 in
theorem lightE_at {P : Nat → Prop} {w : World} {t : Pl.Tr} {r : Sl} (h : Tin P w t r) (hP : ∀ b, P b → b < w.heap.size) (w1 : World) (hs : Same P w w1) (hge : w.heap.size ≤ w1.heap.size) :
    Calls Try.prog 10 #[.agg #[.int .i64 t.kind, .string t.text, .slice r.ga t.gaps.length r.gc, .slice r.da t.kids.length r.dc]] w1 (LitE t w1) := by
  have HF := Lib.hid (fun w1 hs hge => lightRE_at h hP w1 hs hge)
  have HS := Lib.hid (fun o => same_box (o := o) hs hP hge)
  obtain ⟨ga, gc, a, c⟩ := r
  clear h hs
  go_enter Try.func10, Try.ntmps10
  go_wp2_with ((go_at_call 30; refine (HF.out _ (HS.out _) (by simp; omega)).mono ?_; rintro e w' ⟨b1, hb1, hbf, rfl, hb2⟩; have HB2 := Lib.hid hb2; clear hb2; have HQ := Lib.hid hb1; have HQF := Lib.hid hbf; clear hb1 hbf))
  go_ret
  exact ⟨b1, HQ.out, HQF.out, rfl, ((Below.refl _ _).alloc (Nat.le_refl _) _).trans (HB2.out.mono (by simp))⟩
end Go.Proofs.Ytidmbdilediplaa
