/- The walks of eachKid, at copyTree and at Bare. -/
import Derived.Test.YtidmbdilediplaaWalkStore
namespace Go.Proofs.Ytidmbdilediplaa
open Go.RowKit Go.Deep
set_option linter.unusedVariables false
set_option linter.unusedSimpArgs false

set_option maxHeartbeats 800000 in
theorem each_copy {P : Nat → Prop} {w : World} (hP : ∀ b, P b → b < w.heap.size) (ks : List Pl.Tr) (a : Option Addr) (c : Nat) (R : Nat → Sl) (hl : ks.length ≤ 1099511627776) (hk : Lies P w ks a R)
    (hc : ∀ (j : Nat) u, ks[j]? = some u → ∀ w1, Same P w w1 → w.heap.size ≤ w1.heap.size → Calls Try.prog 33 #[.agg #[.int .i64 u.kind, .string u.text, .slice (R j).ga u.gaps.length (R j).gc, .slice (R j).da u.kids.length (R j).dc]] w1 (CopyP u w1))
    (w1 : World) (hsame : Same P w w1) (hge : w.heap.size ≤ w1.heap.size) :
    Calls Try.prog 45 #[.slice a ks.length c, .func (.func 33) #[] #[]] w1 (EachP id ks w1) := by
  have HK := Lib.hid hk
  have HF := Lib.hid hc
  have HS := Lib.hid hsame
  clear hk hc hsame
  obtain ⟨n, hn⟩ : ∃ n, n = ks.length := ⟨_, rfl⟩
  rw [← hn] at hl
  have HN := Lib.hid hn
  have hargs : (#[.slice a ks.length c, .func (.func 33) #[] #[]] : Array Value) = #[.slice a n c, .func (.func 33) #[] #[]] := by rw [hn]
  rw [hargs]
  clear hn hargs
  have hmk := make_nodes n hl
  go_enter Try.func45, Try.ntmps45
  go_wp2_with fail
  clear hmk
  go_loopw [13] (fun i wr => ∃ (j : Nat) (R2 : Nat → Sl), j ≤ n ∧ i = .int .i64 j ∧ Below w1.heap.size w1 wr ∧ w1.heap.size < wr.heap.size ∧ wr.there w1.heap.size 0 (n * 4) ∧
    (∀ (q : Nat) u, q < j → ks[q]? = some u → AtT wr w1.heap.size (q * 4) u (R2 q) ∧ Tin (fun x => w1.heap.size < x ∧ x < wr.heap.size) wr u (R2 q))) (fun i _ => n - (intOf i).toNat)
  case atStart => exact ⟨0, fun _ => ⟨none, 0, none, 0⟩, Nat.zero_le _, rfl, (Below.refl _ _).alloc (Nat.le_refl _) _, by simp, there_block (heap_alloc_new _ _) 0 _ (by simp [size_madeCells]), fun q u hq => by omega⟩
  case round =>
    obtain ⟨j, R2, hj, rfl, hbel, hgt, hth, hall⟩ := hrel
    have HB := Lib.hid hbel
    have HTh := Lib.hid hth
    have HA := Lib.hid hall
    clear hth hall
    by_cases hlt : j < n
    · have hjk : j < ks.length := by rw [← HN.out]; exact hlt
      have hu := List.getElem?_eq_getElem hjk
      have hsr : Same P w wr := HS.out.trans (Same.below hbel fun b hb => Nat.lt_of_lt_of_le (hP b hb) hge)
      rcases HK.out with h0 | ⟨b, o, rfl, hb, hat⟩
      · rw [h0] at hjk; simp at hjk
      have l1 := Lib.hid (At4.keep (hat j _ hu) hsr hb).range
      have HI1 := Lib.hid (HF.out j _ hu)
      have HU := Lib.hid hu
      generalize ks[j] = u at *
      generalize R j = r1 at *
      obtain ⟨ga1, gc1, da1, dc1⟩ := r1
      have HSR := Lib.hid hsr
      have hgr := hbel.size
      clear hat hu hsr hbel
      go_wp2_with (first
        | (refine wpList_load_mid rfl 25 _ rfl b (o + j * 4) rfl [.int .i64 u.kind, .string u.text, .slice ga1 u.gaps.length gc1, .slice da1 u.kids.length dc1] _ l1.out Try.underlying25 rfl sizeN ?_)
        | (refine wpList_store4 rfl (.tmp 23) (.tmp 22) rfl w1.heap.size (j * 4) _ _ _ _ _ _ _ _ rfl rfl HTh2.out ?_; intro w3 hw3; have HW3 := Lib.hid hw3; clear hw3)
        | (go_at_call 33; refine (HI1.out _ (HSR.out.trans (Same.below ((Below.refl _ _).alloc (Nat.le_refl _) _) (fun b hb => by have := hP b hb; omega))) (by simp; omega)).mono ?_; rintro e w2 ⟨⟨ga2, gc2, da2, dc2⟩, rfl, ht2, hb2⟩; have hz2 := hb2.size; simp at hz2; have HT2 := Lib.hid ht2; have HB2 := Lib.hid hb2; have HTh2 := Lib.hid (there_sub (there_keep HTh.out ((hb2.block w1.heap.size (by simp; omega)).trans (Below.heap_alloc _ _ _ hgt))) (o := j * 4) 4 (by omega)); clear ht2 hb2 l1))
      have hlow : Below w1.heap.size w1 w2 := (HB.out.alloc (by omega) _).trans (HB2.out.mono (by simp; omega))
      have hkeep : Same (fun x => w1.heap.size < x ∧ x < wr.heap.size) wr w3 :=
        (Same.below (((Below.refl _ _).alloc (Nat.le_refl _) _).trans (HB2.out.mono (by simp))) (fun x hx => hx.2)).trans (HW3.out.same fun x hx => by omega)
      refine ⟨⟨j + 1, fun q => if q = j then ⟨ga2, gc2, da2, dc2⟩ else R2 q, by omega, by go_num, HW3.out.below hlow (Nat.le_refl _), by rw [HW3.out.size]; omega, ?_, fun q v hq hv => ?_⟩, by simp [intOf]; omega⟩
      · refine HW3.out.there _ _ ?_
        exact there_keep HTh.out ((HB2.out.block w1.heap.size (by simp; omega)).trans (Below.heap_alloc _ _ _ hgt))
      · by_cases hqj : q = j
        · subst hqj
          obtain rfl : u = v := Option.some.inj (HU.out.symm.trans hv)
          simp only [if_pos]
          refine ⟨at4_of_range HW3.out.here, ?_⟩
          exact HT2.out.keep (HW3.out.same fun x hx => by simp at hx; omega) fun x hx => by rw [HW3.out.size]; simp at hx; omega
        · simp only [if_neg hqj]
          obtain ⟨h1, h2⟩ := HA.out q v (by omega) hv
          refine ⟨at4_of_range (HW3.out.apart _ _ (by simp; omega) ?_), h2.keep hkeep fun x hx => by rw [HW3.out.size]; omega⟩
          exact (At4.keep (P := fun x => x = w1.heap.size) h1 (fun x hx => by subst hx; exact (HB2.out.block _ (by simp; omega)).trans (Below.heap_alloc _ _ _ hgt)) rfl).range
    · have hjn : j = n := by omega
      subst hjn
      have HB1 := Lib.hid hbel
      clear hbel
      go_wp2_with fail
      go_ret
      exact ⟨w1.heap.size, R2, by rw [← HN.out]; rfl, rfl, fun q u hu => ⟨(HA.out q u (by rw [HN.out]; exact (List.getElem?_eq_some_iff.1 hu).1) hu).1, (HA.out q u (by rw [HN.out]; exact (List.getElem?_eq_some_iff.1 hu).1) hu).2.keep (Same.refl _ _) fun x hx => by omega⟩, HB1.out, hgt⟩
set_option maxHeartbeats 800000 in
theorem each_bare {P : Nat → Prop} {w : World} (hP : ∀ b, P b → b < w.heap.size) (ks : List Pl.Tr) (a : Option Addr) (c : Nat) (R : Nat → Sl) (hl : ks.length ≤ 1099511627776) (hk : Lies P w ks a R)
    (hc : ∀ (j : Nat) u, ks[j]? = some u → ∀ w1, Same P w w1 → w.heap.size ≤ w1.heap.size → Calls Try.prog 28 #[.agg #[.int .i64 u.kind, .string u.text, .slice (R j).ga u.gaps.length (R j).gc, .slice (R j).da u.kids.length (R j).dc]] w1 (CopyP (Pl.bare u) w1))
    (w1 : World) (hsame : Same P w w1) (hge : w.heap.size ≤ w1.heap.size) :
    Calls Try.prog 45 #[.slice a ks.length c, .func (.func 28) #[] #[]] w1 (EachP Pl.bare ks w1) := by
  have HK := Lib.hid hk
  have HF := Lib.hid hc
  have HS := Lib.hid hsame
  clear hk hc hsame
  obtain ⟨n, hn⟩ : ∃ n, n = ks.length := ⟨_, rfl⟩
  rw [← hn] at hl
  have HN := Lib.hid hn
  have hargs : (#[.slice a ks.length c, .func (.func 28) #[] #[]] : Array Value) = #[.slice a n c, .func (.func 28) #[] #[]] := by rw [hn]
  rw [hargs]
  clear hn hargs
  have hmk := make_nodes n hl
  go_enter Try.func45, Try.ntmps45
  go_wp2_with fail
  clear hmk
  go_loopw [13] (fun i wr => ∃ (j : Nat) (R2 : Nat → Sl), j ≤ n ∧ i = .int .i64 j ∧ Below w1.heap.size w1 wr ∧ w1.heap.size < wr.heap.size ∧ wr.there w1.heap.size 0 (n * 4) ∧
    (∀ (q : Nat) u, q < j → ks[q]? = some u → AtT wr w1.heap.size (q * 4) (Pl.bare u) (R2 q) ∧ Tin (fun x => w1.heap.size < x ∧ x < wr.heap.size) wr (Pl.bare u) (R2 q))) (fun i _ => n - (intOf i).toNat)
  case atStart => exact ⟨0, fun _ => ⟨none, 0, none, 0⟩, Nat.zero_le _, rfl, (Below.refl _ _).alloc (Nat.le_refl _) _, by simp, there_block (heap_alloc_new _ _) 0 _ (by simp [size_madeCells]), fun q u hq => by omega⟩
  case round =>
    obtain ⟨j, R2, hj, rfl, hbel, hgt, hth, hall⟩ := hrel
    have HB := Lib.hid hbel
    have HTh := Lib.hid hth
    have HA := Lib.hid hall
    clear hth hall
    by_cases hlt : j < n
    · have hjk : j < ks.length := by rw [← HN.out]; exact hlt
      have hu := List.getElem?_eq_getElem hjk
      have hsr : Same P w wr := HS.out.trans (Same.below hbel fun b hb => Nat.lt_of_lt_of_le (hP b hb) hge)
      rcases HK.out with h0 | ⟨b, o, rfl, hb, hat⟩
      · rw [h0] at hjk; simp at hjk
      have l1 := Lib.hid (At4.keep (hat j _ hu) hsr hb).range
      have HI1 := Lib.hid (HF.out j _ hu)
      have HU := Lib.hid hu
      generalize ks[j] = u at *
      generalize R j = r1 at *
      obtain ⟨ga1, gc1, da1, dc1⟩ := r1
      have HSR := Lib.hid hsr
      have hgr := hbel.size
      clear hat hu hsr hbel
      go_wp2_with (first
        | (refine wpList_load_mid rfl 25 _ rfl b (o + j * 4) rfl [.int .i64 u.kind, .string u.text, .slice ga1 u.gaps.length gc1, .slice da1 u.kids.length dc1] _ l1.out Try.underlying25 rfl sizeN ?_)
        | (refine wpList_store4 rfl (.tmp 23) (.tmp 22) rfl w1.heap.size (j * 4) _ _ _ _ _ _ _ _ rfl rfl HTh2.out ?_; intro w3 hw3; have HW3 := Lib.hid hw3; clear hw3)
        | (go_at_call 28; refine (HI1.out _ (HSR.out.trans (Same.below ((Below.refl _ _).alloc (Nat.le_refl _) _) (fun b hb => by have := hP b hb; omega))) (by simp; omega)).mono ?_; rintro e w2 ⟨⟨ga2, gc2, da2, dc2⟩, rfl, ht2, hb2⟩; have hz2 := hb2.size; simp at hz2; have HT2 := Lib.hid ht2; have HB2 := Lib.hid hb2; have HTh2 := Lib.hid (there_sub (there_keep HTh.out ((hb2.block w1.heap.size (by simp; omega)).trans (Below.heap_alloc _ _ _ hgt))) (o := j * 4) 4 (by omega)); clear ht2 hb2 l1))
      have hlow : Below w1.heap.size w1 w2 := (HB.out.alloc (by omega) _).trans (HB2.out.mono (by simp; omega))
      have hkeep : Same (fun x => w1.heap.size < x ∧ x < wr.heap.size) wr w3 :=
        (Same.below (((Below.refl _ _).alloc (Nat.le_refl _) _).trans (HB2.out.mono (by simp))) (fun x hx => hx.2)).trans (HW3.out.same fun x hx => by omega)
      refine ⟨⟨j + 1, fun q => if q = j then ⟨ga2, gc2, da2, dc2⟩ else R2 q, by omega, by go_num, HW3.out.below hlow (Nat.le_refl _), by rw [HW3.out.size]; omega, ?_, fun q v hq hv => ?_⟩, by simp [intOf]; omega⟩
      · refine HW3.out.there _ _ ?_
        exact there_keep HTh.out ((HB2.out.block w1.heap.size (by simp; omega)).trans (Below.heap_alloc _ _ _ hgt))
      · by_cases hqj : q = j
        · subst hqj
          obtain rfl : u = v := Option.some.inj (HU.out.symm.trans hv)
          simp only [if_pos]
          refine ⟨at4_of_range HW3.out.here, ?_⟩
          exact HT2.out.keep (HW3.out.same fun x hx => by simp at hx; omega) fun x hx => by rw [HW3.out.size]; simp at hx; omega
        · simp only [if_neg hqj]
          obtain ⟨h1, h2⟩ := HA.out q v (by omega) hv
          refine ⟨at4_of_range (HW3.out.apart _ _ (by simp; omega) ?_), h2.keep hkeep fun x hx => by rw [HW3.out.size]; omega⟩
          exact (At4.keep (P := fun x => x = w1.heap.size) h1 (fun x hx => by subst hx; exact (HB2.out.block _ (by simp; omega)).trans (Below.heap_alloc _ _ _ hgt)) rfl).range
    · have hjn : j = n := by omega
      subst hjn
      have HB1 := Lib.hid hbel
      clear hbel
      go_wp2_with fail
      go_ret
      exact ⟨w1.heap.size, R2, by rw [← HN.out]; rfl, rfl, fun q u hu => ⟨(HA.out q u (by rw [HN.out]; exact (List.getElem?_eq_some_iff.1 hu).1) hu).1, (HA.out q u (by rw [HN.out]; exact (List.getElem?_eq_some_iff.1 hu).1) hu).2.keep (Same.refl _ _) fun x hx => by omega⟩, HB1.out, hgt⟩
end Go.Proofs.Ytidmbdilediplaa
