/- The walk of the law ScopePlaces. -/
import Derived.Test.YtoelfiendfemaaaLaw1
namespace Go.Proofs.Ytoelfiendfemaaa
open Go.RowKit Go.Deep
set_option linter.unusedVariables false
set_option linter.unusedSimpArgs false

theorem ref_same (x1 x2 : Int) (u : World) : (Op.equalIn 10000 29 (.agg #[.int .i64 x1, .int .i64 x2]) (.agg #[.int .i64 x1, .int .i64 x2])).run Try.prog u = .ok true u := by
  have h := ref_equal 9998 x1 x2 x1 x2 u
  simpa using h
theorem ref_guard : Try.prog.eqGuardType Try.prog.depth 29 = false := by kernel_rfl
set_option maxHeartbeats 1600000 in
set_option maxRecDepth 100000 in
theorem law_places (HP : Prg) (HSm : SampC) (a : Option Addr) (n c : Nat) (us : List Pl.Un) (R : Nat → Sl) (p q : Int) (w : World) (hG : Good w) (hU : IsU w a us R) (hn : n = us.length) :
    Calls Try.prog 4 #[.slice a n c, .agg #[.int .i64 p, .int .i64 q]] w (YesP w) := by
  have HAw := Lib.hid (fun z (h : Below w.heap.size w z) => awake_any HP HSm z (hG.later h))
  have HFt := Lib.hid (fun z (h : Below w.heap.size w z) => fit_any a n c us R z (hU.later h) hn)
  have HPr := Lib.hid (fun z (h : Below w.heap.size w z) hF => HP.2.1 a n c us R z (hG.later h) (hU.later h) hF hn p q)
  have HRr := Lib.hid (fun z (h : Below w.heap.size w z) hF => resolve_any a n c us R z (hU.later h) hF hn p q)
  have HPv := Lib.hid (fun z (h : Below w.heap.size w z) hF => HP.2.2.1 a n c us R z (hG.later h) (hU.later h) hF hn p q)
  have HRv := Lib.hid (fun z (h : Below w.heap.size w z) hF => rvisible_any a n c us R z (hU.later h) hF hn p q)
  clear hU hn hG
  generalize Pl.resolve us p q = RO at *
  generalize Pl.visible us p q = VS at *
  obtain ⟨W, hW⟩ : ∃ W, W = w.alloc (.cells #[.int .i64 p, .int .i64 q] 29) := ⟨_, rfl⟩
  have HBW : Hid (Below w.heap.size w W) := Lib.hid (by rw [hW]; exact below_11 _ _)
  have HKW : Hid (W.heap[w.heap.size]? = some (.cells #[.int .i64 p, .int .i64 q] 29 (0, 0))) := Lib.hid (by rw [hW]; exact heap_alloc_new _ _)
  have HWw := Lib.hid hW
  clear hW
  go_enter Try.func4, Try.ntmps4
  go_upto_region 1 with fail
  rw [← HWw.out]
  clear HWw
  go_wp2_with (first
    | (go_at_call 10; refine (HFt.out W HBW.out).mono ?_; rintro e w1 ⟨bb, hbb, rfl, hb1⟩; have HBB := Lib.hid hbb; have HB1 := Lib.hid (HBW.out.trans (hb1.mono HBW.out.size)); have hk1 := blk_keep HKW.out hb1; have HK1 := Lib.hid hk1; obtain ⟨⟨p0, p1⟩, _⟩ := blk_two hk1; clear hbb hb1 hk1; cases bb)
    | (go_at_call 9; refine (HAw.out w1 HB1.out).mono ?_; rintro e w2 ⟨rfl, hb2⟩; have HB2 := Lib.hid (HB1.out.trans (hb2.mono HB1.out.size)); clear hb2))
  · go_ret
    exact ⟨rfl, HB2.out⟩
  have HF := Lib.hid (HBB.out (by trivial))
  go_upto_region 4 with (go_at_call 14; refine (HPr.out w1 HB1.out HF.out).mono ?_; rintro e w2 ⟨he, hb2⟩; rw [foundV_eq] at he; subst he; have HB2 := Lib.hid hb2; clear hb2)
  obtain ⟨X2, hX2⟩ : ∃ X, X = w2.alloc (.cells #[.int .i64 (fv RO).1, .int .i64 (fv RO).2] 29) := ⟨_, rfl⟩
  rw [← hX2]
  have hbx2 : Below w1.heap.size w1 X2 := by rw [hX2]; exact HB2.out.trans ((below_11 w2 _).mono HB2.out.size)
  have HA2 : Hid (X2.heap[w2.heap.size]? = some (.cells #[.int .i64 (fv RO).1, .int .i64 (fv RO).2] 29 (0, 0))) := Lib.hid (by rw [hX2]; exact heap_alloc_new _ _)
  have hk2 := blk_keep HK1.out hbx2
  have HK2 := Lib.hid hk2
  have HBX2 := Lib.hid (HB1.out.trans (hbx2.mono HB1.out.size))
  obtain ⟨⟨p0, p1⟩, _⟩ := blk_two hk2
  generalize w2.heap.size = q5 at *
  clear hX2 hbx2 hk2
  go_upto_region 5 with (go_at_call 15; refine (HRr.out X2 HBX2.out HF.out).mono ?_; rintro e w3 ⟨he, hb3⟩; rw [foundV_eq] at he; subst he; have HB3 := Lib.hid hb3; clear hb3)
  obtain ⟨V, hV⟩ : ∃ X, X = w3.alloc (.cells #[.int .i64 (fv RO).1, .int .i64 (fv RO).2] 29) := ⟨_, rfl⟩
  rw [← hV]
  have hbv : Below X2.heap.size X2 V := by rw [hV]; exact HB3.out.trans ((below_11 w3 _).mono HB3.out.size)
  have hk5 : V.heap[w3.heap.size]? = some (.cells #[.int .i64 (fv RO).1, .int .i64 (fv RO).2] 29 (0, 0)) := by rw [hV]; exact heap_alloc_new _ _
  have hk3 := blk_keep HK2.out hbv
  have hk4 := blk_keep HA2.out hbv
  have HBV := Lib.hid (HBX2.out.trans (hbv.mono HBX2.out.size))
  clear p0 p1
  obtain ⟨⟨p0, p1⟩, _⟩ := blk_two hk3
  obtain ⟨⟨r0, r1⟩, _⟩ := blk_two hk4
  obtain ⟨⟨t0, t1⟩, _⟩ := blk_two hk5
  have l3 := lt_blk hk3
  have l4 := lt_blk hk4
  have l5 := lt_blk hk5
  generalize w3.heap.size = q7 at *
  generalize (fv RO).1 = x1 at *
  generalize (fv RO).2 = x2 at *
  generalize RO.isSome = bo at *
  clear hV hbv hk3 hk4 hk5 HPr HRr
  have HDR : Hid (∀ (wx : World) (x f : Nat), wx.drew.cell? ⟨x, f, none⟩ = wx.cell? ⟨x, f, none⟩) := Lib.hid fun _ _ _ => rfl
  have he := fun u => ref_same x1 x2 u
  have hg := ref_guard
  go_region_held3 (fun w' => (∀ f : Nat, w'.cell? ⟨w.heap.size, f, none⟩ = V.cell? ⟨w.heap.size, f, none⟩) ∧ (∀ f : Nat, w'.cell? ⟨q5, f, none⟩ = V.cell? ⟨q5, f, none⟩) ∧ ∀ f : Nat, w'.cell? ⟨q7, f, none⟩ = V.cell? ⟨q7, f, none⟩)
    ((refine ⟨?_, ?_, ?_⟩ <;> (intro f; iterate 4 (first
      | (with_reducible exact rfl)
      | (with_reducible exact HQ.out _ f l3)
      | (with_reducible exact HQ.out _ f l4)
      | (with_reducible exact HQ.out _ f l5)
      | (with_reducible refine (HDR.out _ _ _).trans ?_)
      | skip))))
    ((first
      | (go_at_call 9; refine (HAw.out V.drew (HBV.out.trans ((Below.refl V.heap.size V).drew.mono HBV.out.size))).mono ?_; rintro e w4 ⟨rfl, hb4'⟩;
         have hb4 : Below V.heap.size V w4 := (Below.refl V.heap.size V).drew.trans hb4';
         have HQ : Hid (∀ x f : Nat, x < V.heap.size → w4.cell? ⟨x, f, none⟩ = V.cell? ⟨x, f, none⟩) := Lib.hid (fun x f hx => hb4.cell (p := ⟨x, f, none⟩) hx);
         have HB4 := Lib.hid hb4; clear hb4 hb4')
      | (go_at_call 17; refine (HPv.out w4 (HBV.out.trans (HB4.out.mono HBV.out.size)) HF.out).mono ?_; rintro e w5 ⟨vv, rfl, hrv, hb5'⟩; obtain ⟨va, vc, rfl, hvs⟩ := strs_of_reads hrv;
         have hb5 : Below V.heap.size V w5 := HB4.out.trans (hb5'.mono HB4.out.size);
         have HVs := Lib.hid hvs; clear HQ; have HQ : Hid (∀ x f : Nat, x < V.heap.size → w5.cell? ⟨x, f, none⟩ = V.cell? ⟨x, f, none⟩) := Lib.hid (fun x f hx => hb5.cell (p := ⟨x, f, none⟩) hx);
         have HB5 := Lib.hid hb5; clear hb5 hb5' hrv hvs)
      | (go_at_call 18; refine (HRv.out w5 (HBV.out.trans (HB5.out.mono HBV.out.size)) HF.out).mono ?_; rintro e w6 ⟨vv, rfl, hrv, hb6'⟩; obtain ⟨ua, uc, rfl, hus⟩ := strs_of_reads hrv;
         have hb6 : Below V.heap.size V w6 := HB5.out.trans (hb6'.mono HB5.out.size);
         have HUs := Lib.hid hus; have HVs6 := Lib.hid (HVs.out.later hb6'); clear HQ; have HQ : Hid (∀ x f : Nat, x < V.heap.size → w6.cell? ⟨x, f, none⟩ = V.cell? ⟨x, f, none⟩) := Lib.hid (fun x f hx => hb6.cell (p := ⟨x, f, none⟩) hx);
         have HB6 := Lib.hid hb6; clear hb6 hb6' hrv hus)
      | (go_at_call 16; refine (strs_any va ua vc uc VS VS HVs6.out HUs.out).mono ?_; rintro e w7 ⟨he7, hb7'⟩; replace he7 : e = .returned (.bool true) := he7.trans (by simp); subst he7;
         have hb7 : Below V.heap.size V w7 := HB6.out.trans (hb7'.mono HB6.out.size);
         clear HQ; have HQ : Hid (∀ x f : Nat, x < V.heap.size → w7.cell? ⟨x, f, none⟩ = V.cell? ⟨x, f, none⟩) := Lib.hid (fun x f hx => hb7.cell (p := ⟨x, f, none⟩) hx);
         have HB7 := Lib.hid hb7; clear hb7 hb7')))
  go_wp2_with fail
  go_ret
  exact ⟨rfl, HBV.out.trans (HB7.out.mono HBV.out.size)⟩
end Go.Proofs.Ytoelfiendfemaaa
