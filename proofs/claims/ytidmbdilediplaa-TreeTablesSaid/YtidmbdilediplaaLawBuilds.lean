/- The walk of the law TreeBuilds. -/
import Derived.Test.YtidmbdilediplaaWalkAwake
namespace Go.Proofs.Ytidmbdilediplaa
open Go.RowKit Go.Deep
set_option linter.unusedVariables false
set_option linter.unusedSimpArgs false

/-- What Build answers, in one word for a table of a tree and for any other. -/
theorem build_one (l : List Pl.Rw) : ∃ (t : Pl.Tr) (kd : Int), ((l = Pl.tab t 0 (-1) ∧ kd = 0) ∨ kd = 7) ∧ ∀ w1 e w', BuildP l w1 e w' → Below w1.heap.size w1 w' ∧ ∃ r : Sl, IsT w' t r ∧
    e = .returned (.tuple #[.agg #[.int .i64 t.kind, .string t.text, .slice r.ga t.gaps.length r.gc, .slice r.da t.kids.length r.dc], .int .i64 kd]) := by
  by_cases h : ∃ t, l = Pl.tab t 0 (-1)
  · obtain ⟨t, ht⟩ := h
    refine ⟨t, 0, .inl ⟨ht, rfl⟩, ?_⟩
    rintro w1 e w' ⟨hb, ⟨t2, r, ht2, hr, rfl⟩ | ⟨hno, rfl⟩⟩
    · obtain rfl := Pl.tab_inj0 (ht.symm.trans ht2)
      exact ⟨hb, r, hr, rfl⟩
    · exact absurd ht (hno t)
  · refine ⟨zeroT, 7, .inr rfl, ?_⟩
    rintro w1 e w' ⟨hb, ⟨t2, r, ht2, hr, rfl⟩ | ⟨hno, rfl⟩⟩
    · exact absurd ⟨t2, ht2⟩ h
    · exact ⟨hb, ⟨none, 0, none, 0⟩, isT_zero _, rfl⟩

set_option maxHeartbeats 1600000 in
set_option maxRecDepth 100000 in
theorem builds_any {P : Nat → Prop} {w1 : World} (a : Option Addr) (c : Nat) (l : List Pl.Rw) (R : Nat → Sl) (hx : TabIn P w1 a l R) (hP : ∀ b, P b → b < w1.heap.size) :
    Calls Try.prog 5 #[.slice a l.length c] w1 fun e w' => e = .returned (.bool true) ∧ Below w1.heap.size w1 w' := by
  have HSh := Lib.hid (short_any a c l R hx)
  obtain ⟨t, kd, _, hone⟩ := build_one l
  have HBd := Lib.hid (fun (hs : Sht l) => (build_any a c l R hx hP (by have := hs.1; omega) (fun x hx => ⟨by have := (hs.2 x hx).2; omega, by have := (hs.2 x hx).1; omega⟩)).mono (hone _))
  have HRd := Lib.hid (fun (hs : Sht l) (w2 : World) (hb : Below w1.heap.size w1 w2) => (rbuild_any a c l R (hx.keep (Same.below hb hP) (fun _ h => h)) (fun b hb2 => Nat.lt_of_lt_of_le (hP b hb2) hb.size) (by have := hs.1; omega)).mono (hone _))
  obtain ⟨n, hn⟩ : ∃ n, n = l.length := ⟨_, rfl⟩
  rw [← hn] at HBd HRd HSh ⊢
  clear hx hn hone
  have hkk : (kd == kd) = true := by simp
  go_enter Try.func5, Try.ntmps5
  go_wp2_with (first
    | (go_at_call 22; refine HSh.out.mono ?_; rintro e w2 ⟨b, hb, rfl, rfl⟩; have HBs := Lib.hid hb; clear hb; cases b)
    | (go_at_call 23; refine (HBd.out (HBs.out (by trivial))).mono ?_; rintro e w2 ⟨hb2, r, hr, rfl⟩; have HR := Lib.hid hr; have HB2 := Lib.hid hb2; clear hb2 hr)
    | (go_at_call 24; refine (HRd.out (HBs.out (by trivial)) _ (HB2.out.trans (((Below.refl _ _).alloc (Nat.le_refl _) _).mono HB2.out.size))).mono ?_; rintro e w3 ⟨hb3, r2, hr2, rfl⟩; obtain ⟨l3, n3, k3, b3⟩ := after_call hb3; have HR2 := Lib.hid hr2; have HR3 := Lib.hid (HR.out.later b3); have N3 := Lib.hid n3; have B3 := Lib.hid (HB2.out.trans (b3.mono HB2.out.size)); clear hr2 hb3 n3 k3 b3)
    | (go_at_call 11; have g9 := B3.out; clear g9; refine (awake_any _).mono ?_; rintro e w4 ⟨rfl, hb4⟩; obtain ⟨l4, n4, k4, b4⟩ := after_call hb4; have HR4 := Lib.hid (HR3.out.later b4); have HR5 := Lib.hid (HR2.out.later b4); have B4 := Lib.hid (B3.out.trans (b4.mono B3.out.size)); obtain ⟨⟨a0, a1, a2, a3⟩, _⟩ := blk_cells ((k4 _ l3).trans N3.out); obtain ⟨⟨c0, c1, c2, c3⟩, _⟩ := blk_cells n4; clear hb4 n4 k4 b4)
    | (go_at_call 11; refine (awake_any _).mono ?_; rintro e w3 ⟨rfl, hb3⟩; have HB3 := Lib.hid hb3; clear hb3)
    | (go_at_call 18; refine (requal_at (P := fun y => y < w4.heap.size) HR4.out (fun _ h => h) t r2 HR5.out _ (Same.refl _ _) (Nat.le_refl _)).mono ?_; rintro e w5 ⟨rfl, hb5⟩; rw [show eqT t t = true from eqT_iff.2 rfl]; have B5 := Lib.hid (B4.out.trans (hb5.mono B4.out.size)); clear hb5))
  · exact bodyPost_ret (v := .bool true) (by simp [results, Try.results5, go_sem]) rfl ⟨rfl, HB3.out⟩
  · exact bodyPost_ret (v := .bool true) (by simp [results, Try.results5, go_sem]) rfl ⟨rfl, B5.out⟩
theorem builds_law (W : World) {a : Option Addr} {c : Nat} {l : List Pl.Rw} {R : Nat → Sl} (h : TabIn (fun b => b < W.heap.size) W a l R) :
    Calls Try.prog 5 #[.slice a l.length c] W fun e w' => e = .returned (.bool true) ∧ Below W.heap.size W w' := builds_any a c l R h (fun _ h => h)
end Go.Proofs.Ytidmbdilediplaa
