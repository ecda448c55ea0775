/- The walk of the laws' awake. -/
import Derived.Test.YtoelfiendfemaaaPrgS
namespace Go.Proofs.Ytoelfiendfemaaa
open Go.RowKit Go.Deep
set_option linter.unusedVariables false
set_option linter.unusedSimpArgs false

/-- The answers at the sample, for every world. -/
def SampC : Prop := ∀ w, Calls Try.prog 31 #[] w (SampP w)
theorem below_11 (w : World) (a : Obj) : Below w.heap.size w (w.alloc a) := (Below.refl _ _).alloc (Nat.le_refl _) _
theorem vis_row {w : World} {v : Value} (h : Reads w v [Pl.s1 98, Pl.s1 99]) : ∃ a c, v = .slice a 2 c ∧ Strs0 w a [Pl.s1 98, Pl.s1 99] := strs_of_reads h
set_option maxHeartbeats 3200000 in
set_option maxRecDepth 100000 in
theorem awake_any (HP : Prg) (HSm : SampC) (w : World) (hG : Good w) : Calls Try.prog 9 #[] w fun e w' => e = .returned (.bool true) ∧ Below w.heap.size w w' := by
  have HC := Lib.hid (HSm w)
  have HUs := Lib.hid (fun b r z (hg : Good z) (h : IsU z (some ⟨b, 0, none⟩) [Pl.smp] (fun _ => r)) => (Pl.smp_uses ▸ HP.1 (some ⟨b, 0, none⟩) 1 1 [Pl.smp] (fun _ => r) z hg h smp_few rfl : Calls Try.prog 12 #[.slice (some ⟨b, 0, none⟩) 1 1] z (UsesP [⟨0, 8, 0, 3, true⟩, ⟨0, 10, 0, 0, false⟩] z)))
  have HR8 := Lib.hid (fun b r z (hg : Good z) (h : IsU z (some ⟨b, 0, none⟩) [Pl.smp] (fun _ => r)) => (Pl.smp_res8 ▸ HP.2.1 (some ⟨b, 0, none⟩) 1 1 [Pl.smp] (fun _ => r) z hg h smp_few rfl 0 8 : Calls Try.prog 14 #[.slice (some ⟨b, 0, none⟩) 1 1, .agg #[.int .i64 0, .int .i64 8]] z (FoundP (some (0, 3)) z)))
  have HR7 := Lib.hid (fun b r z (hg : Good z) (h : IsU z (some ⟨b, 0, none⟩) [Pl.smp] (fun _ => r)) => (Pl.smp_res7 ▸ HP.2.1 (some ⟨b, 0, none⟩) 1 1 [Pl.smp] (fun _ => r) z hg h smp_few rfl 0 7 : Calls Try.prog 14 #[.slice (some ⟨b, 0, none⟩) 1 1, .agg #[.int .i64 0, .int .i64 7]] z (FoundP none z)))
  have HVi := Lib.hid (fun b r z (hg : Good z) (h : IsU z (some ⟨b, 0, none⟩) [Pl.smp] (fun _ => r)) => (Pl.smp_vis ▸ HP.2.2.1 (some ⟨b, 0, none⟩) 1 1 [Pl.smp] (fun _ => r) z hg h smp_few rfl 0 9 : Calls Try.prog 17 #[.slice (some ⟨b, 0, none⟩) 1 1, .agg #[.int .i64 0, .int .i64 9]] z (NamesP [Pl.s1 98, Pl.s1 99] z)))
  have HUn := Lib.hid (fun b r z (hg : Good z) (h : IsU z (some ⟨b, 0, none⟩) [Pl.smp] (fun _ => r)) => (Pl.smp_unb ▸ HP.2.2.2.1 (some ⟨b, 0, none⟩) 1 1 [Pl.smp] (fun _ => r) z hg h smp_few rfl : Calls Try.prog 20 #[.slice (some ⟨b, 0, none⟩) 1 1] z (RefsP [(0, 10)] z)))
  have HDb := Lib.hid (fun b r z (hg : Good z) (h : IsU z (some ⟨b, 0, none⟩) [Pl.smp] (fun _ => r)) => (Pl.smp_dbl ▸ HP.2.2.2.2 (some ⟨b, 0, none⟩) 1 1 [Pl.smp] (fun _ => r) z hg h smp_few rfl : Calls Try.prog 22 #[.slice (some ⟨b, 0, none⟩) 1 1] z (RefsP [] z)))
  have HD2 := Lib.hid (fun b r z (hg : Good z) (h : IsU z (some ⟨b, 0, none⟩) [Pl.smp, Pl.smp] (fun _ => r)) => (Pl.smp_dbl2 ▸ HP.2.2.2.2 (some ⟨b, 0, none⟩) 2 2 [Pl.smp, Pl.smp] (fun _ => r) z hg h smp_few2 rfl : Calls Try.prog 22 #[.slice (some ⟨b, 0, none⟩) 2 2] z (RefsP [(1, 1)] z)))
  have HG := Lib.hid hG
  clear hG
  go_enter Try.func9, Try.ntmps9
  go_upto_region 3 with (first
    | (go_at_call 31; refine HC.out.mono ?_; rintro e w1 ⟨ub, R, rfl, hub, hT, hb1⟩; have HUb := Lib.hid hub; have HT := Lib.hid hT; have HB1 := Lib.hid hb1; have HIs := Lib.hid (isU_one hub hT); clear hub hT hb1)
    | (go_at_call 12; refine (HUs.out ub (R 0) w1 (HG.out.later HB1.out) HIs.out).mono ?_; rintro e w2 ⟨la, lc, rfl, hl, hb2⟩; have HL := Lib.hid hl; have HB2 := Lib.hid hb2; clear hl hb2))
  obtain ⟨lb, lo, rfl, hlb, hr0⟩ := HL.out.one (j := 0) rfl
  obtain ⟨lb', lo', he, _, hr1⟩ := HL.out.one (j := 1) rfl
  obtain ⟨rfl, rfl⟩ : lb' = lb ∧ lo' = lo := by
    injection he with he
    injection he with he he3
    exact ⟨he.symm, he3.symm⟩
  have r0 : w2.rangeAt lb' lo' (cellsU ⟨0, 8, 0, 3, true⟩) := by simpa using hr0
  have r1 : w2.rangeAt lb' (lo' + 5) (cellsU ⟨0, 10, 0, 0, false⟩) := by simpa using hr1
  have a0 : w2.cell? ⟨lb', lo', none⟩ = some (.int .i64 0) := r0 0 _ rfl
  have a1 := r0 1 _ rfl
  have a2 := r0 2 _ rfl
  have a3 := r0 3 _ rfl
  have a4 := r0 4 _ rfl
  have c0 : w2.cell? ⟨lb', lo' + 5, none⟩ = some (.int .i64 0) := r1 0 _ rfl
  have c1 := r1 1 _ rfl
  have c2 := r1 2 _ rfl
  have c3 := r1 3 _ rfl
  have c4 := r1 4 _ rfl
  clear r0 r1
  clear hr0 hr1 he
  go_upto_region 5 with (first
    | (refine wpList_bin (by rfl) .neq 42 42 _ _ (by rfl) (.agg #[.int .i64 0, .int .i64 8, .int .i64 0, .int .i64 3, .bool true]) (.agg #[.int .i64 0, .int .i64 8, .int .i64 0, .int .i64 3, .bool true]) _ (by rfl) (by rfl) (uses_neq_is _ _ 0 8 0 3 0 8 0 3 true true false rfl _) ?_)
    | (refine wpList_bin (by rfl) .neq 42 42 _ _ (by rfl) (.agg #[.int .i64 0, .int .i64 10, .int .i64 0, .int .i64 0, .bool false]) (.agg #[.int .i64 0, .int .i64 10, .int .i64 0, .int .i64 0, .bool false]) _ (by rfl) (by rfl) (uses_neq_is _ _ 0 10 0 0 0 10 0 0 false false false rfl _) ?_))
  have HI2 := Lib.hid (IsU.later HIs.out HB2.out)
  have HUb2 := Lib.hid (blk_keep HUb.out HB2.out)
  have HT2 := Lib.hid (HT.out.later HB2.out)
  have HW2 := Lib.hid (HB1.out.trans (HB2.out.mono HB1.out.size))
  clear a0 a1 a2 a3 a4 c0 c1 c2 c3 c4 hlb
  go_upto_region 6 with (go_at_call 14; refine (HR8.out ub (R 0) w2 (HG.out.later HW2.out) HI2.out).mono ?_; rintro e w3 ⟨he, hb3⟩; rw [foundV_eq] at he; subst he; have HB3 := Lib.hid hb3; clear hb3)
  obtain ⟨X3, hX3⟩ : ∃ X, X = w3.alloc (.cells #[.int .i64 (fv (some ((0, 3) : Pl.Rf))).1, .int .i64 (fv (some ((0, 3) : Pl.Rf))).2] 29) := ⟨_, rfl⟩
  rw [← hX3]
  have HBX3 : Hid (Below w2.heap.size w2 X3) := Lib.hid (by rw [hX3]; exact HB3.out.trans ((below_11 w3 _).mono HB3.out.size))
  have HK3 : Hid (X3.heap[w3.heap.size]? = some (.cells #[.int .i64 0, .int .i64 3] 29 (0, 0))) := Lib.hid (by rw [hX3]; exact heap_alloc_new _ _)
  have HI3 := Lib.hid (IsU.later HI2.out HBX3.out)
  have HUb3 := Lib.hid (blk_keep HUb2.out HBX3.out)
  have HT3 := Lib.hid (HT2.out.later HBX3.out)
  have HW3 := Lib.hid (HW2.out.trans (HBX3.out.mono HW2.out.size))
  generalize w3.heap.size = p3 at *
  clear hX3
  go_upto_region 7 with (go_at_call 14; refine (HR7.out ub (R 0) X3 (HG.out.later HW3.out) HI3.out).mono ?_; rintro e w4 ⟨he, hb4⟩; rw [foundV_eq] at he; subst he; have HB4 := Lib.hid hb4; clear hb4)
  obtain ⟨X4, hX4⟩ : ∃ X, X = w4.alloc (.cells #[.int .i64 (fv (none : Option Pl.Rf)).1, .int .i64 (fv (none : Option Pl.Rf)).2] 29) := ⟨_, rfl⟩
  rw [← hX4]
  have HBX4 : Hid (Below X3.heap.size X3 X4) := Lib.hid (by rw [hX4]; exact HB4.out.trans ((below_11 w4 _).mono HB4.out.size))
  have HK4 := Lib.hid (blk_keep HK3.out HBX4.out)
  have HI4 := Lib.hid (IsU.later HI3.out HBX4.out)
  have HUb4 := Lib.hid (blk_keep HUb3.out HBX4.out)
  have HT4 := Lib.hid (HT3.out.later HBX4.out)
  have HW4 := Lib.hid (HW3.out.trans (HBX4.out.mono HW3.out.size))
  clear hX4
  go_upto_region 9 with (first
    | (go_at_call 17; refine (HVi.out ub (R 0) X4 (HG.out.later HW4.out) HI4.out).mono ?_; rintro e w5 ⟨vv, rfl, hrv, hb5⟩; obtain ⟨va, vc, rfl, hvs⟩ := vis_row hrv; have HVs := Lib.hid hvs; have HB5 := Lib.hid hb5; have HI5 := Lib.hid (IsU.later HI4.out hb5); have HK5 := Lib.hid (blk_keep HK4.out hb5); have HUb5 := Lib.hid (blk_keep HUb4.out hb5); have HT5 := Lib.hid (HT4.out.later hb5); have HW5 := Lib.hid (HW4.out.trans (hb5.mono HW4.out.size)); clear hrv hvs hb5)
    | (go_at_call 20; refine (HUn.out ub (R 0) w5 (HG.out.later HW5.out) HI5.out).mono ?_; rintro e w6 ⟨na, nc, rfl, hna, hb6⟩; have HNa := Lib.hid hna; have HVs6 := Lib.hid (HVs.out.later hb6); have HI6 := Lib.hid (IsU.later HI5.out hb6); have HK6 := Lib.hid (blk_keep HK5.out hb6); have HUb6 := Lib.hid (blk_keep HUb5.out hb6); have HT6 := Lib.hid (HT5.out.later hb6); have HW6 := Lib.hid (HW5.out.trans (hb6.mono HW5.out.size)); clear hna hb6))
  have g0 := (blk_one HUb6.out 0 _ rfl).1
  have g1 := (blk_one HUb6.out 1 _ rfl).1
  have g2 := (blk_one HUb6.out 2 _ rfl).1
  have g3 := (blk_one HUb6.out 3 _ rfl).1
  have g4 := (blk_one HUb6.out 4 _ rfl).1
  have g5 := (blk_one HUb6.out 5 _ rfl).1
  have g6 := (blk_one HUb6.out 6 _ rfl).1
  have hub6 : ub < w6.heap.size := lt_blk HUb6.out
  have HDR : Hid (∀ (wx : World) (x f : Nat), wx.drew.cell? ⟨x, f, none⟩ = wx.cell? ⟨x, f, none⟩) := Lib.hid fun _ _ _ => rfl
  have HPA : Hid (∀ (wx : World) (ob : Obj) (x f : Nat), x < wx.heap.size → (wx.alloc ob).cell? ⟨x, f, none⟩ = wx.cell? ⟨x, f, none⟩) := Lib.hid fun wx ob x f h => cell_past x wx ob f h
  go_region_held3 (fun w' => ∀ f : Nat, w'.cell? ⟨ub, f, none⟩ = w6.cell? ⟨ub, f, none⟩)
    ((intro f; iterate 5 (first
      | (with_reducible exact rfl)
      | (with_reducible exact HQ.out f)
      | (with_reducible refine (HDR.out _ _ _).trans ?_)
      | (with_reducible refine (HPA.out _ _ _ _ ?_).trans ?_; focus (first | omega | (simp; done) | (simp; omega)))
      | skip)))
    ((go_at_call 22; first
      | (refine (HD2.out w6.heap.size (R 0) _ (HG.out.later (HW6.out.trans ((below_11 w6 _).drew.mono HW6.out.size))) (IsU.later (isU_two (heap_alloc_new w6 _) (HT6.out.later (below_11 _ _))) (Below.refl _ _).drew)).mono ?_; rintro e w7 ⟨da, dc, rfl, hda, hb7'⟩;
         have hb7 : Below w6.heap.size w6 w7 := (below_11 w6 _).drew.trans (hb7'.mono (below_11 w6 _).drew.size);
         have HQ : Hid (∀ f : Nat, w7.cell? ⟨ub, f, none⟩ = w6.cell? ⟨ub, f, none⟩) := Lib.hid (fun f => hb7.cell (p := ⟨ub, f, none⟩) hub6);
         have HDa := Lib.hid hda; have HB7 := Lib.hid hb7; clear hda hb7 hb7')
      | skip))
  obtain ⟨nb, no, rfl, hnb, hrn⟩ := HNa.out.one (j := 0) rfl
  obtain ⟨db, dq, rfl, hdb, hrd⟩ := HDa.out.one (j := 0) rfl
  have HRn : Hid (w6.rangeAt nb no (cellsR (0, 10))) := Lib.hid (by simpa using hrn)
  have HRd : Hid (w7.rangeAt db dq (cellsR (1, 1))) := Lib.hid (by simpa using hrd)
  have k3 := blk_keep HK6.out HB7.out
  obtain ⟨⟨x0, x1⟩, _⟩ := blk_two k3
  have HI7 := Lib.hid (IsU.later HI6.out HB7.out)
  have HW7 := Lib.hid (HW6.out.trans (HB7.out.mono HW6.out.size))
  have HVs7 := Lib.hid (HVs6.out.later HB7.out)
  have hz7 := HB7.out.size
  clear hrn hrd k3 g0 g1 g2 g3 g4 g5 g6
  have hnew : Strs0 (w7.alloc (.cells #[.string ⟨#[98]⟩, .string ⟨#[99]⟩] 9)) (some ⟨w7.heap.size, 0, none⟩) [Pl.s1 98, Pl.s1 99] := by
    refine ⟨by decide, .inr ⟨w7.heap.size, 0, rfl, by simp, fun j x hx => ?_⟩⟩
    have hb := heap_alloc_new w7 (.cells #[.string ⟨#[98]⟩, .string ⟨#[99]⟩] 9)
    match j, hx with
    | 0, hx => obtain rfl := Option.some.inj hx; exact (blk_one hb 0 _ rfl).1
    | 1, hx => obtain rfl := Option.some.inj hx; exact (blk_one hb 1 _ rfl).1
    | j + 2, hx => cases hx
  have HSt : Hid (Calls Try.prog 16 #[.slice va 2 vc, .slice (some ⟨w7.heap.size, 0, none⟩) 2 2] (w7.alloc (.cells #[.string ⟨#[98]⟩, .string ⟨#[99]⟩] 9)) fun e w' => e = .returned (.bool true) ∧ Below (w7.alloc (.cells #[.string ⟨#[98]⟩, .string ⟨#[99]⟩] 9)).heap.size (w7.alloc (.cells #[.string ⟨#[98]⟩, .string ⟨#[99]⟩] 9)) w') := Lib.hid ((strs_any va (some ⟨w7.heap.size, 0, none⟩) vc 2 _ _ (HVs7.out.later (below_11 _ _)) hnew).mono (by rintro e w' ⟨rfl, h⟩; exact ⟨by simp, h⟩))
  clear hnew
  go_wp2_with (first
    | (refine wpList_bin (by rfl) .eql 29 29 _ _ (by rfl) (.agg #[.int .i64 0, .int .i64 3]) (.agg #[.int .i64 0, .int .i64 3]) _ (by rfl) (by rfl) (refs_eql_is _ _ 0 3 0 3 true rfl _) ?_)
    | (refine wpList_bin (by rfl) .eql 29 29 _ _ (by rfl) (.agg #[.int .i64 0, .int .i64 10]) (.agg #[.int .i64 0, .int .i64 10]) _ (by rfl) (by rfl) (refs_eql_is _ _ 0 10 0 10 true rfl _) ?_)
    | (refine wpList_bin (by rfl) .eql 29 29 _ _ (by rfl) (.agg #[.int .i64 1, .int .i64 1]) (.agg #[.int .i64 1, .int .i64 1]) _ (by rfl) (by rfl) (refs_eql_is _ _ 1 1 1 1 true rfl _) ?_)
    | (go_at_call 16; refine HSt.out.mono ?_; rintro e w8 ⟨rfl, hb8'⟩; have hb8 : Below w7.heap.size w7 w8 := (below_11 w7 _).trans (hb8'.mono (below_11 w7 _).size); have n0 : w8.cell? ⟨nb, no, none⟩ = some (.int .i64 0) := ((HB7.out.trans (hb8.mono hz7)).cell (p := ⟨nb, no, none⟩) hnb).trans (HRn.out 0 _ rfl); have n1 := ((HB7.out.trans (hb8.mono hz7)).cell (p := ⟨nb, no + 1, none⟩) hnb).trans (HRn.out 1 _ rfl); have HI8 := Lib.hid (IsU.later HI7.out hb8); have HW8 := Lib.hid (HW7.out.trans (hb8.mono HW7.out.size)); have HB8 := Lib.hid hb8; have hz8 := hb8.size; clear hb8 hb8')
    | (go_at_call 22; refine (HDb.out ub (R 0) w8 (HG.out.later HW8.out) HI8.out).mono ?_; rintro e w9 ⟨ea, ec, rfl, _, hb9⟩; have e0 : w9.cell? ⟨db, dq, none⟩ = some (.int .i64 1) := ((HB8.out.trans (hb9.mono hz8)).cell (p := ⟨db, dq, none⟩) hdb).trans (HRd.out 0 _ rfl); have e1 := ((HB8.out.trans (hb9.mono hz8)).cell (p := ⟨db, dq + 1, none⟩) hdb).trans (HRd.out 1 _ rfl); have HW9 := Lib.hid (HW8.out.trans (hb9.mono HW8.out.size)); clear hb9))
  go_ret
  exact ⟨rfl, HW9.out⟩
end Go.Proofs.Ytoelfiendfemaaa
