/- The walks of Fits, Light and light. -/
import Derived.Test.YtidmbdilediplaaWalkLight
namespace Go.Proofs.Ytidmbdilediplaa
open Go.RowKit
set_option linter.unusedVariables false
set_option linter.unusedSimpArgs false

/-- Behind a box: what was there is as it was. -/
theorem same_box {P : Nat → Prop} {w w1 : World} {o : Obj} (hs : Same P w w1) (hP : ∀ b, P b → b < w.heap.size) (hge : w.heap.size ≤ w1.heap.size) : Same P w (w1.alloc o) :=
  hs.trans (Same.below ((Below.refl _ _).alloc (Nat.le_refl _) _) fun b hb => Nat.lt_of_lt_of_le (hP b hb) hge)
/-- A box of a node: its four cells. -/
def Box (w : World) (b : Nat) (k : Int) (s : ByteArray) (gv kv : Value) : Prop :=
  w.cell? ⟨b, 0, none⟩ = some (.int .i64 k) ∧ w.cell? ⟨b, 1, none⟩ = some (.string s) ∧ w.cell? ⟨b, 2, none⟩ = some gv ∧ w.cell? ⟨b, 3, none⟩ = some kv
theorem box_new (w : World) (k : Int) (s : ByteArray) (gv kv : Value) : Box (w.alloc (.cells #[.int .i64 k, .string s, gv, kv] 25)) w.heap.size k s gv kv := by
  refine ⟨?_, ?_, ?_, ?_⟩ <;> simp
theorem Box.keep {w w' : World} {b : Nat} {k : Int} {s : ByteArray} {gv kv : Value} (h : Box w b k s gv kv) (hb : w'.heap[b]? = w.heap[b]?) : Box w' b k s gv kv :=
  ⟨(World.cell?_of_block (w := w) (a := ⟨b, 0, none⟩) hb).trans h.1, (World.cell?_of_block (w := w) (a := ⟨b, 1, none⟩) hb).trans h.2.1, (World.cell?_of_block (w := w) (a := ⟨b, 2, none⟩) hb).trans h.2.2.1, (World.cell?_of_block (w := w) (a := ⟨b, 3, none⟩) hb).trans h.2.2.2⟩
theorem Box.at4 {w : World} {b : Nat} {k : Int} {s : ByteArray} {gv kv : Value} (h : Box w b k s gv kv) : At4 w b 0 k s gv kv := h
theorem box_range {w : World} (k : Int) (s : ByteArray) (gv kv : Value) : (w.alloc (.cells #[.int .i64 k, .string s, gv, kv] 25)).rangeAt w.heap.size 0 [.int .i64 k, .string s, gv, kv] := (box_new w k s gv kv).at4.range

/-- A tree of moderate size. -/
def Lit (t : Pl.Tr) : Prop := Pl.sz t ≤ 400 ∧ ∀ x ∈ Pl.pre t, (x.gaps.length : Int) ≤ 40000
/-- The answer of light, of which only what true says is wanted. -/
def LitP (t : Pl.Tr) (w : World) (e : Ending) (w' : World) : Prop := ∃ b : Bool, (b = true → Lit t) ∧ e = .returned (.bool b) ∧ Below w.heap.size w w'
def FitP (t : Pl.Tr) (w : World) (e : Ending) (w' : World) : Prop := ∃ b : Bool, (b = true → Pl.sz t ≤ 400) ∧ e = .returned (.bool b) ∧ Below w.heap.size w w'

set_option maxHeartbeats 400000 in
theorem fits_at {P : Nat → Prop} {w : World} {t : Pl.Tr} {r : Sl} (h : Tin P w t r) (hP : ∀ b, P b → b < w.heap.size) (w1 : World) (hs : Same P w w1) (hge : w.heap.size ≤ w1.heap.size) :
    Calls Try.prog 46 #[.agg #[.int .i64 t.kind, .string t.text, .slice r.ga t.gaps.length r.gc, .slice r.da t.kids.length r.dc], .int .i64 400, .int .i64 60] w1 (FitP t w1) := by
  have HL := Lib.hid (fun w1 hs hge => left_at h hP w1 hs hge 400 60 (by omega) (by omega) (by omega) (by omega))
  have HS := Lib.hid (fun o => same_box (o := o) hs hP hge)
  obtain ⟨ga, gc, a, c⟩ := r
  clear h hs
  go_enter Try.func46, Try.ntmps46
  go_wp2_with ((go_at_call 50; refine (HL.out _ (HS.out _) (by simp; omega)).mono ?_; rintro e w' ⟨q, hq, rfl, hb2⟩; have HB2 := Lib.hid hb2; clear hb2; have HQ := Lib.hid hq))
  · go_ret
    exact ⟨_, (fun h => by have := of_decide_eq_true h; have := HQ.out; omega), rfl, ((Below.refl _ _).alloc (Nat.le_refl _) _).trans (HB2.out.mono (by simp))⟩
set_option maxHeartbeats 400000 in
theorem lightR_at {P : Nat → Prop} {w : World} {t : Pl.Tr} {r : Sl} (h : Tin P w t r) (hP : ∀ b, P b → b < w.heap.size) (w1 : World) (hs : Same P w w1) (hge : w.heap.size ≤ w1.heap.size) :
    Calls Try.prog 30 #[.agg #[.int .i64 t.kind, .string t.text, .slice r.ga t.gaps.length r.gc, .slice r.da t.kids.length r.dc], .int .i64 400, .int .i64 60, .int .i64 40000] w1 (LitP t w1) := by
  have HF := Lib.hid (fun w1 hs hge => fits_at h hP w1 hs hge)
  have HW := Lib.hid (fun w1 hs hge => weigh_at h hP w1 hs hge 40000 (by omega) (by omega))
  have HS := Lib.hid (fun o => same_box (o := o) hs hP hge)
  obtain ⟨ga, gc, a, c⟩ := r
  clear h hs
  go_enter Try.func30, Try.ntmps30
  go_wp2_with (go_at_call 46; refine (HF.out _ (HS.out _) (by simp; omega)).mono ?_; rintro e w' ⟨b1, hb1, rfl, hb2⟩; have HB2 := Lib.hid hb2; have HQ := Lib.hid hb1; clear hb1; obtain ⟨c0, c1, c2, c3⟩ := (box_new w1 t.kind t.text (.slice ga t.gaps.length gc) (.slice a t.kids.length c)).keep (hb2.block w1.heap.size (by simp)); clear hb2; cases b1)
  · go_ret
    exact ⟨false, (fun h => by cases h), rfl, ((Below.refl _ _).alloc (Nat.le_refl _) _).trans (HB2.out.mono (by simp))⟩
  · have HS2 := Lib.hid ((HS.out (.cells #[.int .i64 t.kind, .string t.text, .slice ga t.gaps.length gc, .slice a t.kids.length c] 25)).trans (Same.below HB2.out (fun b hb => by have := hP b hb; simp; omega)))
    go_wp2_with (go_at_call 47; refine (HW.out _ HS2.out (by have := HB2.out.size; simp at this; omega)).mono ?_; rintro e w3 ⟨q, hq, rfl, hb3⟩; have HB3 := Lib.hid hb3; clear hb3; have HQ2 := Lib.hid hq; clear hq)
    go_ret
    refine ⟨_, (fun h => ⟨HQ.out (by trivial), ?_⟩), rfl, (((Below.refl _ _).alloc (Nat.le_refl _) _).trans (HB2.out.mono (by simp))).trans (HB3.out.mono (by have := HB2.out.size; simp at this; omega))⟩
    have := of_decide_eq_true h
    rcases HQ2.out with h2 | h2
    · omega
    · exact h2.2.2
set_option maxHeartbeats 400000 in
theorem light_at {P : Nat → Prop} {w : World} {t : Pl.Tr} {r : Sl} (h : Tin P w t r) (hP : ∀ b, P b → b < w.heap.size) (w1 : World) (hs : Same P w w1) (hge : w.heap.size ≤ w1.heap.size) :
    Calls Try.prog 10 #[.agg #[.int .i64 t.kind, .string t.text, .slice r.ga t.gaps.length r.gc, .slice r.da t.kids.length r.dc]] w1 (LitP t w1) := by
  have HF := Lib.hid (fun w1 hs hge => lightR_at h hP w1 hs hge)
  have HS := Lib.hid (fun o => same_box (o := o) hs hP hge)
  obtain ⟨ga, gc, a, c⟩ := r
  clear h hs
  go_enter Try.func10, Try.ntmps10
  go_wp2_with ((go_at_call 30; refine (HF.out _ (HS.out _) (by simp; omega)).mono ?_; rintro e w' ⟨b1, hb1, rfl, hb2⟩; have HB2 := Lib.hid hb2; clear hb2; have HQ := Lib.hid hb1; clear hb1))
  go_ret
  exact ⟨b1, HQ.out, rfl, ((Below.refl _ _).alloc (Nat.le_refl _) _).trans (HB2.out.mono (by simp))⟩
end Go.Proofs.Ytidmbdilediplaa
