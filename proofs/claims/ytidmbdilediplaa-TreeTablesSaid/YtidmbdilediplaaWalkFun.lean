/- The walks of slices.EqualFunc at Same and at Equal, of Same and of Equal. -/
import Derived.Test.YtidmbdilediplaaWalkREq
namespace Go.Proofs.Ytidmbdilediplaa
open Go.RowKit
set_option linter.unusedVariables false
set_option linter.unusedSimpArgs false

set_option maxHeartbeats 800000 in
theorem fsame_at {P : Nat → Prop} {w : World} (hP : ∀ b, P b → b < w.heap.size) (ks ls : List Pl.Tr) (a a2 : Option Addr) (c c2 : Nat) (R R2 : Nat → Sl) (hl : ks.length ≤ maxLen) (hl2 : ls.length ≤ maxLen) (hk : Lies P w ks a R) (hk2 : Lies P w ls a2 R2) (z : Bool)
    (hz : z = true ↔ ks.map Pl.bare = ls.map Pl.bare)
    (hc : ∀ (j : Nat) u v, ks[j]? = some u → ls[j]? = some v → ∀ w1, Same P w w1 → w.heap.size ≤ w1.heap.size →
      Calls Try.prog 25 #[.agg #[.int .i64 u.kind, .string u.text, .slice (R j).ga u.gaps.length (R j).gc, .slice (R j).da u.kids.length (R j).dc], .agg #[.int .i64 v.kind, .string v.text, .slice (R2 j).ga v.gaps.length (R2 j).gc, .slice (R2 j).da v.kids.length (R2 j).dc]] w1 fun e w' => e = .returned (.bool (sameT u v)) ∧ Below w1.heap.size w1 w')
    (w1 : World) (hsame : Same P w w1) (hge : w.heap.size ≤ w1.heap.size) :
    Calls Try.prog 43 #[.slice a ks.length c, .slice a2 ls.length c2, .func (.func 25) #[] #[]] w1 fun e w' => e = .returned (.bool z) ∧ Below w1.heap.size w1 w' := by
  unfold maxLen at hl hl2
  have HK := Lib.hid hk
  have HK2 := Lib.hid hk2
  have HF := Lib.hid hc
  have HS := Lib.hid hsame
  have HZ := Lib.hid hz
  clear hk hk2 hc hsame hz
  rcases (Classical.em (ks.length = ls.length)).symm with hnn | hnn
  · have HN2 : Hid (¬ ks.length = ls.length) := Lib.hid hnn
    obtain ⟨n, hn⟩ : ∃ n, n = ks.length := ⟨_, rfl⟩
    obtain ⟨m, hm⟩ : ∃ m, m = ls.length := ⟨_, rfl⟩
    obtain ⟨hb1, hb2⟩ := int_ne (x := (n : Int)) (y := m) (fun e => hnn (by omega))
    rw [← hn] at hl ⊢
    rw [← hm] at hl2 ⊢
    clear hn hm hnn
    go_enter Try.func43, Try.ntmps43
    go_wp2_with fail
    go_ret
    refine ⟨ret_bool ?_, Below.refl _ _⟩
    cases z
    · rfl
    · have e := HZ.out.1 rfl
      exact absurd (by simpa using congrArg List.length e) HN2.out
  have HL := Lib.hid hnn
  obtain ⟨n, hn⟩ : ∃ n, n = ks.length := ⟨_, rfl⟩
  obtain ⟨m, hm⟩ : ∃ m, m = n := ⟨_, rfl⟩
  rw [← hnn, ← hn] at hl2 ⊢
  rw [← hn] at hl
  have HN := Lib.hid hn
  clear hn hnn
  subst hm
  go_enter Try.func43, Try.ntmps43
  go_wp2_with fail
  go_loopw [17] (fun i wr => ∃ j : Nat, j ≤ m ∧ i = .int .i64 j ∧ (ks.take j).map Pl.bare = (ls.take j).map Pl.bare ∧ Below w1.heap.size w1 wr) (fun i _ => m - (intOf i).toNat)
  case atStart => exact ⟨0, Nat.zero_le _, rfl, rfl, Below.refl _ _⟩
  case round =>
    obtain ⟨j, hj, rfl, heq, hbel⟩ := hrel
    have HB := Lib.hid hbel
    have HE := Lib.hid heq
    clear heq
    by_cases hlt : j < m
    · have hjk : j < ks.length := by rw [← HN.out]; exact hlt
      have hjl : j < ls.length := by rw [← HL.out]; exact hjk
      have hu := List.getElem?_eq_getElem hjk
      have hv := List.getElem?_eq_getElem hjl
      have hsr : Same P w wr := HS.out.trans (Same.below hbel fun b hb => Nat.lt_of_lt_of_le (hP b hb) hge)
      rcases HK.out with h0 | ⟨b, o, rfl, hb, hat⟩
      · rw [h0] at hjk; simp at hjk
      rcases HK2.out with h0 | ⟨b2, o2, rfl, hb2, hat2⟩
      · rw [h0] at hjl; simp at hjl
      have A1 := Lib.hid (At4.keep (hat j _ hu) hsr hb).range
      have a2 := At4.keep (hat2 j _ hv) hsr hb2
      have HI1 := Lib.hid (HF.out j _ _ hu hv)
      have HU := Lib.hid hu
      have HV := Lib.hid hv
      generalize ks[j] = u at *
      generalize ls[j] = v at *
      generalize R j = r1 at *
      generalize R2 j = r2 at *
      obtain ⟨ga3, gc3, da3, dc3⟩ := r1
      obtain ⟨ga4, gc4, da4, dc4⟩ := r2
      have hb2r : b2 < wr.heap.size := a2.lt
      have A2 := Lib.hid (fun (wx : World) (hx : Below wr.heap.size wr wx) => (At4.keep a2 (P := fun x => x = b2) (fun x e => hx.block x (by omega)) rfl).range)
      have HSR := Lib.hid hsr
      have hgr := hbel.size
      clear hat hat2 hu hv hsr hbel a2
      go_wp2_with (first
        | (refine wpList_load_mid rfl 25 _ rfl b (o + j * 4) rfl [.int .i64 u.kind, .string u.text, .slice ga3 u.gaps.length gc3, .slice da3 u.kids.length dc3] _ A1.out Try.underlying25 rfl sizeN ?_)
        | (refine wpList_load_mid rfl 25 _ rfl b2 (o2 + j * 4) rfl [.int .i64 v.kind, .string v.text, .slice ga4 v.gaps.length gc4, .slice da4 v.kids.length dc4] _ (A2.out _ ((Below.refl _ _).alloc (Nat.le_refl _) _)) Try.underlying25 rfl sizeN ?_)
        | (go_at_call 25; refine (HI1.out _ (same_box2 HSR.out hP (by omega)) (by simp; omega)).mono ?_; rintro e w2 ⟨rfl, hb2⟩; have HB2 := Lib.hid hb2; have hb2s := hb2.size; simp at hb2s; clear hb2; cases hZ : sameT u v))
      · have HNo := Lib.hid hZ
        clear hZ
        go_wp2_with fail
        go_ret
        refine ⟨ret_bool ?_, (((HB.out.alloc hgr _).alloc (by simp; omega) _).trans (HB2.out.mono (by simp; omega)))⟩
        cases z
        · rfl
        · have e := HZ.out.1 rfl
          exfalso
          have e5 := congrArg (fun l => l[j]?) e; simp only [List.getElem?_map, HU.out, HV.out, Option.map_some] at e5; injection e5 with e5; have := sameT_iff.2 e5; rw [HNo.out] at this; cases this
      · have HYes := Lib.hid (sameT_iff.1 hZ)
        clear hZ
        go_wp2_with fail
        exact ⟨⟨j + 1, by omega, by go_num, by rw [List.map_take, List.map_take]; exact take_same (by have := HE.out; rw [List.map_take, List.map_take] at this; exact this) (by rw [List.getElem?_map, HU.out]; rfl) (by rw [List.getElem?_map, HV.out, HYes.out]; rfl), ((HB.out.alloc hgr _).alloc (by simp; omega) _).trans (HB2.out.mono (by simp; omega))⟩, by simp [intOf]; omega⟩
    · have hjn : j = m := by omega
      subst hjn
      have HR : Hid (ks.map Pl.bare = ls.map Pl.bare) := Lib.hid (by have := HE.out; rw [HN.out, List.take_length, HL.out, List.take_length] at this; exact this)
      clear hbel
      go_wp2_with fail
      go_ret
      exact ⟨ret_bool (HZ.out.2 HR.out).symm, HB.out⟩
set_option maxHeartbeats 1600000 in
theorem same_at {P : Nat → Prop} {w : World} {t : Pl.Tr} {r : Sl} (h : Tin P w t r) (hP : ∀ b, P b → b < w.heap.size) : ∀ (u : Pl.Tr) (q : Sl), Tin P w u q → ∀ w1, Same P w w1 → w.heap.size ≤ w1.heap.size →
    Calls Try.prog 25 #[.agg #[.int .i64 t.kind, .string t.text, .slice r.ga t.gaps.length r.gc, .slice r.da t.kids.length r.dc], .agg #[.int .i64 u.kind, .string u.text, .slice q.ga u.gaps.length q.gc, .slice q.da u.kids.length q.dc]] w1 fun e w' => e = .returned (.bool (sameT t u)) ∧ Below w1.heap.size w1 w' := by
  induction h with
  | mk t r R hs hg hl hk hr ih =>
    intro u q hu w1 hsame hge
    cases hu with
    | mk _ _ R2 hs2 hg2 hl2 hk2 hr2 =>
    cases t with
    | node k s g ks =>
    cases u with
    | node k2 s2 g2 ls =>
      obtain ⟨ga, gc, a, c⟩ := r
      obtain ⟨ga2, gc2, a2, c2⟩ := q
      simp only [Pl.Tr.kids, Pl.Tr.gaps, Pl.Tr.text, Pl.Tr.kind] at *
      have HS := Lib.hid hsame
      have HG1 := Lib.hid hg
      have HG2 := Lib.hid hg2
      have HF := Lib.hid (fun z hz w1 hs hge => fsame_at hP ks ls a a2 c c2 R R2 hl hl2 hk hk2 z hz (fun j u v hu hv => ih j u hu v (R2 j) (hr2 j v hv)) w1 hs hge)
      have hgl1 := hg.1
      have hgl2 := hg2.1
      unfold maxLen at hl hl2 hgl1 hgl2
      clear hk hr ih hsame hk2 hr2 hg hg2
      rcases (Classical.em (k = k2)).symm with hkk | hkk
      · obtain ⟨hb1, hb2⟩ := int_ne hkk
        go_enter Try.func25, Try.ntmps25
        go_wp2_with fail
        go_ret
        exact ⟨ret_bool (sameT_no (fun e => hkk (by rw [Pl.bare, Pl.bare] at e; injection e))).symm, ((Below.refl _ _).alloc (Nat.le_refl _) _).alloc (by simp) _⟩
      subst hkk
      rcases (Classical.em (s = s2)).symm with hss | hss
      · obtain ⟨hb1, hb2⟩ := str_neq hss
        go_enter Try.func25, Try.ntmps25
        go_wp2_with fail
        go_ret
        exact ⟨ret_bool (sameT_no (fun e => hss (by rw [Pl.bare, Pl.bare] at e; injection e))).symm, ((Below.refl _ _).alloc (Nat.le_refl _) _).alloc (by simp) _⟩
      subst hss
      have HZZ : Hid (sameT (.node k s g ks) (.node k s g2 ls) = true ↔ ks.map Pl.bare = ls.map Pl.bare) := Lib.hid (Iff.intro (fun h => by have := sameT_iff.1 h; rw [Pl.bare, Pl.bare, Pl.bares_map, Pl.bares_map] at this; injection this) (fun h => sameT_iff.2 (by rw [Pl.bare, Pl.bare, Pl.bares_map, Pl.bares_map, h])))
      go_enter Try.func25, Try.ntmps25
      go_wp2_with (go_at_call 43; refine (HF.out _ HZZ.out _ (same_box2 HS.out hP hge) (by simp; omega)).mono ?_; rintro e w3 ⟨rfl, hb3⟩; have HB3 := Lib.hid hb3; clear hb3)
      go_ret
      exact ⟨rfl, (((Below.refl _ _).alloc (Nat.le_refl _) _).alloc (by simp) _).trans (HB3.out.mono (by simp <;> omega))⟩
set_option maxHeartbeats 800000 in
theorem fequal_at {P : Nat → Prop} {w : World} (hP : ∀ b, P b → b < w.heap.size) (ks ls : List Pl.Tr) (a a2 : Option Addr) (c c2 : Nat) (R R2 : Nat → Sl) (hl : ks.length ≤ maxLen) (hl2 : ls.length ≤ maxLen) (hk : Lies P w ks a R) (hk2 : Lies P w ls a2 R2) (z : Bool)
    (hz : z = true ↔ ks = ls)
    (hc : ∀ (j : Nat) u v, ks[j]? = some u → ls[j]? = some v → ∀ w1, Same P w w1 → w.heap.size ≤ w1.heap.size →
      Calls Try.prog 27 #[.agg #[.int .i64 u.kind, .string u.text, .slice (R j).ga u.gaps.length (R j).gc, .slice (R j).da u.kids.length (R j).dc], .agg #[.int .i64 v.kind, .string v.text, .slice (R2 j).ga v.gaps.length (R2 j).gc, .slice (R2 j).da v.kids.length (R2 j).dc]] w1 fun e w' => e = .returned (.bool (eqT u v)) ∧ Below w1.heap.size w1 w')
    (w1 : World) (hsame : Same P w w1) (hge : w.heap.size ≤ w1.heap.size) :
    Calls Try.prog 43 #[.slice a ks.length c, .slice a2 ls.length c2, .func (.func 27) #[] #[]] w1 fun e w' => e = .returned (.bool z) ∧ Below w1.heap.size w1 w' := by
  unfold maxLen at hl hl2
  have HK := Lib.hid hk
  have HK2 := Lib.hid hk2
  have HF := Lib.hid hc
  have HS := Lib.hid hsame
  have HZ := Lib.hid hz
  clear hk hk2 hc hsame hz
  rcases (Classical.em (ks.length = ls.length)).symm with hnn | hnn
  · have HN2 : Hid (¬ ks.length = ls.length) := Lib.hid hnn
    obtain ⟨n, hn⟩ : ∃ n, n = ks.length := ⟨_, rfl⟩
    obtain ⟨m, hm⟩ : ∃ m, m = ls.length := ⟨_, rfl⟩
    obtain ⟨hb1, hb2⟩ := int_ne (x := (n : Int)) (y := m) (fun e => hnn (by omega))
    rw [← hn] at hl ⊢
    rw [← hm] at hl2 ⊢
    clear hn hm hnn
    go_enter Try.func43, Try.ntmps43
    go_wp2_with fail
    go_ret
    refine ⟨ret_bool ?_, Below.refl _ _⟩
    cases z
    · rfl
    · have e := HZ.out.1 rfl
      exact absurd (by simpa using congrArg List.length e) HN2.out
  have HL := Lib.hid hnn
  obtain ⟨n, hn⟩ : ∃ n, n = ks.length := ⟨_, rfl⟩
  obtain ⟨m, hm⟩ : ∃ m, m = n := ⟨_, rfl⟩
  rw [← hnn, ← hn] at hl2 ⊢
  rw [← hn] at hl
  have HN := Lib.hid hn
  clear hn hnn
  subst hm
  go_enter Try.func43, Try.ntmps43
  go_wp2_with fail
  go_loopw [17] (fun i wr => ∃ j : Nat, j ≤ m ∧ i = .int .i64 j ∧ ks.take j = ls.take j ∧ Below w1.heap.size w1 wr) (fun i _ => m - (intOf i).toNat)
  case atStart => exact ⟨0, Nat.zero_le _, rfl, rfl, Below.refl _ _⟩
  case round =>
    obtain ⟨j, hj, rfl, heq, hbel⟩ := hrel
    have HB := Lib.hid hbel
    have HE := Lib.hid heq
    clear heq
    by_cases hlt : j < m
    · have hjk : j < ks.length := by rw [← HN.out]; exact hlt
      have hjl : j < ls.length := by rw [← HL.out]; exact hjk
      have hu := List.getElem?_eq_getElem hjk
      have hv := List.getElem?_eq_getElem hjl
      have hsr : Same P w wr := HS.out.trans (Same.below hbel fun b hb => Nat.lt_of_lt_of_le (hP b hb) hge)
      rcases HK.out with h0 | ⟨b, o, rfl, hb, hat⟩
      · rw [h0] at hjk; simp at hjk
      rcases HK2.out with h0 | ⟨b2, o2, rfl, hb2, hat2⟩
      · rw [h0] at hjl; simp at hjl
      have A1 := Lib.hid (At4.keep (hat j _ hu) hsr hb).range
      have a2 := At4.keep (hat2 j _ hv) hsr hb2
      have HI1 := Lib.hid (HF.out j _ _ hu hv)
      have HU := Lib.hid hu
      have HV := Lib.hid hv
      generalize ks[j] = u at *
      generalize ls[j] = v at *
      generalize R j = r1 at *
      generalize R2 j = r2 at *
      obtain ⟨ga3, gc3, da3, dc3⟩ := r1
      obtain ⟨ga4, gc4, da4, dc4⟩ := r2
      have hb2r : b2 < wr.heap.size := a2.lt
      have A2 := Lib.hid (fun (wx : World) (hx : Below wr.heap.size wr wx) => (At4.keep a2 (P := fun x => x = b2) (fun x e => hx.block x (by omega)) rfl).range)
      have HSR := Lib.hid hsr
      have hgr := hbel.size
      clear hat hat2 hu hv hsr hbel a2
      go_wp2_with (first
        | (refine wpList_load_mid rfl 25 _ rfl b (o + j * 4) rfl [.int .i64 u.kind, .string u.text, .slice ga3 u.gaps.length gc3, .slice da3 u.kids.length dc3] _ A1.out Try.underlying25 rfl sizeN ?_)
        | (refine wpList_load_mid rfl 25 _ rfl b2 (o2 + j * 4) rfl [.int .i64 v.kind, .string v.text, .slice ga4 v.gaps.length gc4, .slice da4 v.kids.length dc4] _ (A2.out _ ((Below.refl _ _).alloc (Nat.le_refl _) _)) Try.underlying25 rfl sizeN ?_)
        | (go_at_call 27; refine (HI1.out _ (same_box2 HSR.out hP (by omega)) (by simp; omega)).mono ?_; rintro e w2 ⟨rfl, hb2⟩; have HB2 := Lib.hid hb2; have hb2s := hb2.size; simp at hb2s; clear hb2; cases hZ : eqT u v))
      · have HNo := Lib.hid hZ
        clear hZ
        go_wp2_with fail
        go_ret
        refine ⟨ret_bool ?_, (((HB.out.alloc hgr _).alloc (by simp; omega) _).trans (HB2.out.mono (by simp; omega)))⟩
        cases z
        · rfl
        · have e := HZ.out.1 rfl
          exfalso
          subst e; have e5 := HU.out.symm.trans HV.out; injection e5 with e5; have := eqT_iff.2 e5; rw [HNo.out] at this; cases this
      · have HYes := Lib.hid (eqT_iff.1 hZ)
        clear hZ
        go_wp2_with fail
        exact ⟨⟨j + 1, by omega, by go_num, take_same HE.out HU.out (by rw [HYes.out]; exact HV.out), ((HB.out.alloc hgr _).alloc (by simp; omega) _).trans (HB2.out.mono (by simp; omega))⟩, by simp [intOf]; omega⟩
    · have hjn : j = m := by omega
      subst hjn
      have HR : Hid (ks = ls) := Lib.hid (by have := HE.out; rw [HN.out, List.take_length, HL.out, List.take_length] at this; exact this)
      clear hbel
      go_wp2_with fail
      go_ret
      exact ⟨ret_bool (HZ.out.2 HR.out).symm, HB.out⟩
set_option maxHeartbeats 1600000 in
theorem equal_at {P : Nat → Prop} {w : World} {t : Pl.Tr} {r : Sl} (h : Tin P w t r) (hP : ∀ b, P b → b < w.heap.size) : ∀ (u : Pl.Tr) (q : Sl), Tin P w u q → ∀ w1, Same P w w1 → w.heap.size ≤ w1.heap.size →
    Calls Try.prog 27 #[.agg #[.int .i64 t.kind, .string t.text, .slice r.ga t.gaps.length r.gc, .slice r.da t.kids.length r.dc], .agg #[.int .i64 u.kind, .string u.text, .slice q.ga u.gaps.length q.gc, .slice q.da u.kids.length q.dc]] w1 fun e w' => e = .returned (.bool (eqT t u)) ∧ Below w1.heap.size w1 w' := by
  induction h with
  | mk t r R hs hg hl hk hr ih =>
    intro u q hu w1 hsame hge
    cases hu with
    | mk _ _ R2 hs2 hg2 hl2 hk2 hr2 =>
    cases t with
    | node k s g ks =>
    cases u with
    | node k2 s2 g2 ls =>
      obtain ⟨ga, gc, a, c⟩ := r
      obtain ⟨ga2, gc2, a2, c2⟩ := q
      simp only [Pl.Tr.kids, Pl.Tr.gaps, Pl.Tr.text, Pl.Tr.kind] at *
      have HS := Lib.hid hsame
      have HG1 := Lib.hid hg
      have HG2 := Lib.hid hg2
      have HF := Lib.hid (fun z hz w1 hs hge => fequal_at hP ks ls a a2 c c2 R R2 hl hl2 hk hk2 z hz (fun j u v hu hv => ih j u hu v (R2 j) (hr2 j v hv)) w1 hs hge)
      have hgl1 := hg.1
      have hgl2 := hg2.1
      unfold maxLen at hl hl2 hgl1 hgl2
      clear hk hr ih hsame hk2 hr2 hg hg2
      rcases (Classical.em (k = k2)).symm with hkk | hkk
      · obtain ⟨hb1, hb2⟩ := int_ne hkk
        go_enter Try.func27, Try.ntmps27
        go_wp2_with fail
        go_ret
        exact ⟨ret_bool (eqT_no (fun e => hkk (by injection e))).symm, ((Below.refl _ _).alloc (Nat.le_refl _) _).alloc (by simp) _⟩
      subst hkk
      rcases (Classical.em (s = s2)).symm with hss | hss
      · obtain ⟨hb1, hb2⟩ := str_neq hss
        go_enter Try.func27, Try.ntmps27
        go_wp2_with fail
        go_ret
        exact ⟨ret_bool (eqT_no (fun e => hss (by injection e))).symm, ((Below.refl _ _).alloc (Nat.le_refl _) _).alloc (by simp) _⟩
      subst hss
      rcases (Classical.em (g = g2)).symm with hgg | hgg
      · have HZ := Lib.hid (decide_eq_false hgg)
        go_enter Try.func27, Try.ntmps27
        go_wp2_with (go_at_call 44; refine (sequal_is _ _ _ _ g g2 (HG1.out.keep (same_box2 HS.out hP hge) (fun _ h => h)) (HG2.out.keep (same_box2 HS.out hP hge) (fun _ h => h)) false HZ.out).mono ?_; rintro e w2 ⟨rfl, hb2⟩; obtain ⟨⟨c10, c11, c12, c13⟩, ⟨c20, c21, c22, c23⟩, hb0, hsz2⟩ := boxes_after hb2; have HB0 := Lib.hid hb0; clear hb2 hb0)
        go_ret
        exact ⟨ret_bool (eqT_no (fun e => hgg (by injection e))).symm, HB0.out⟩
      subst hgg
      have HZ := Lib.hid (decide_eq_true (rfl : g = g))
      have HZZ : Hid (eqT (.node k s g ks) (.node k s g ls) = true ↔ ks = ls) := Lib.hid (Iff.intro (fun h => by injection eqT_iff.1 h) (fun h => eqT_iff.2 (by rw [h])))
      go_enter Try.func27, Try.ntmps27
      go_wp2_with (first | (go_at_call 44; refine (sequal_is _ _ _ _ g g (HG1.out.keep (same_box2 HS.out hP hge) (fun _ h => h)) (HG2.out.keep (same_box2 HS.out hP hge) (fun _ h => h)) true HZ.out).mono ?_; rintro e w2 ⟨rfl, hb2⟩; obtain ⟨⟨c10, c11, c12, c13⟩, ⟨c20, c21, c22, c23⟩, hb0, hsz2⟩ := boxes_after hb2; have HB0 := Lib.hid hb0; have HS2 := Lib.hid (HS.out.trans (Same.below hb0 fun b hb => Nat.lt_of_lt_of_le (hP b hb) hge)); have hz2 := hb0.size; clear hb2 hb0) | (go_at_call 43; refine (HF.out _ HZZ.out _ HS2.out (by omega)).mono ?_; rintro e w3 ⟨rfl, hb3⟩; have HB3 := Lib.hid hb3; clear hb3))
      go_ret
      exact ⟨rfl, HB0.out.trans (HB3.out.mono hz2)⟩
end Go.Proofs.Ytidmbdilediplaa
