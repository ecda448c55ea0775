/- The walk of Rows. -/
import Derived.Test.YtoelfiendfemaaaWalkRows
namespace Go.Proofs.Ytoelfiendfemaaa
open Go.RowKit Go.Deep
set_option linter.unusedVariables false
set_option linter.unusedSimpArgs false

/-- The table of a tree. -/
def TabP (t : Pl.Tr) (w1 : World) (e : Ending) (w' : World) : Prop :=
  ∃ (a : Option Addr) (c : Nat) (R : Nat → Sl), e = .returned (.slice a (Pl.tab t 0 (-1)).length c) ∧ TabIn (fun b => b < w'.heap.size) w' a (Pl.tab t 0 (-1)) R ∧ Below w1.heap.size w1 w'
theorem tabP_of {B : Nat} {P : Nat → Prop} {t : Pl.Tr} {a : Option Addr} {c : Nat} {w1 w w' : World} {e : Ending} (h : RowsP B P t (-1) a 0 c [] w e w') (hsz : Pl.sz t ≤ 1000000) (hb : Below w1.heap.size w1 w) (ha : ∀ k, (Value.slice a 0 c).ownBlock = some k → w1.heap.size ≤ k) : TabP t w1 e w' := by
  obtain ⟨g, c', L2, rfl, hm, hown, hgr, hg, hlt, hrows⟩ := h
  rw [Nat.zero_add] at hown
  refine ⟨some ⟨g, 0, none⟩, c', places L2, by rw [Pl.tab_len, Nat.zero_add], ⟨by rw [Pl.tab_len]; unfold maxLen; omega, .inr ?_, fun j x hx => ?_⟩, hb.grown hgr hb.size ha⟩
  · have hlen : Pl.sz t = L2.length := by have := congrArg List.length hm; rw [List.length_map, Pl.tab_len] at this; exact this.symm
    obtain ⟨g2, cap2, he, _, _, _, hat⟩ := owns5_at hown hlen (Pl.sz_pos t)
    injection he with he1 he2 he3
    injection he1 with he4
    injection he4 with he5
    subst he5
    refine ⟨g, 0, rfl, hlt, fun j x hx => ?_⟩
    obtain ⟨r, hr⟩ := isTab_get hm hx
    rw [places_get hr]
    exact hat j _ hr
  · obtain ⟨r, hr⟩ := isTab_get hm hx
    rw [places_get hr]
    exact (hrows j _ hr).keep (Same.refl _ _) (fun b hb => hb.2.1)
theorem rowsP_frame {B : Nat} {P : Nat → Prop} {t : Pl.Tr} {p : Int} {a : Option Addr} {n c : Nat} {L : List (Pl.Rw × Sl)} {w w' : World} {e : Ending} (h : RowsP B P t p a n c L w e w') (x : Nat) (hx : x < w.heap.size) (hne : some x ≠ (Value.slice a n c).ownBlock) : w'.heap[x]? = w.heap[x]? := by
  obtain ⟨g, c', L2, _, _, _, hgr, _⟩ := h
  exact hgr.block x hx hne
/-- make of rows with room for so many. -/
theorem make_rows (n : Nat) (hn : n ≤ 1099511627776) (w : World) :
    (Instr.makeSlice 44 (.int .i64 0) (.int .i64 (n : Int))).run Try.prog w = .ok (.slice (some ⟨w.heap.size, 0, none⟩) 0 n) (w.alloc (.cells (madeCells #[.int .i64 0, .int .i64 0, .string ⟨#[]⟩, .slice none 0 0, .slice none 0 0] (n * 5)) 47)) := by
  obtain ⟨i, hi, hzz⟩ := Option.map_eq_some_iff.1 infoR
  simp only [Prod.mk.injEq] at hzz
  obtain ⟨hz, hs, hb⟩ := hzz
  have h := run_make (P := Try.prog) w 44 47 i _ Try.underlying44 hi hz .i64 .i64 0 n (Int.le_refl _) (by omega) (by rw [hb]; omega) (by omega)
  have e : (Value.agg #[.int .i64 0, .int .i64 0, .string ⟨#[]⟩, .slice none 0 0, .slice none 0 0]).cells = #[.int .i64 0, .int .i64 0, .string ⟨#[]⟩, .slice none 0 0, .slice none 0 0] := by simp [Value.cells]
  rw [hs, e, Int.toNat_natCast] at h
  exact h
theorem owns_room (w : World) (n B : Nat) (hB : B ≤ w.heap.size) (hn : n ≤ maxLen) : (w.alloc (.cells (madeCells #[.int .i64 0, .int .i64 0, .string ⟨#[]⟩, .slice none 0 0, .slice none 0 0] (n * 5)) 47)).ownsRow B 47 5 (.slice (some ⟨w.heap.size, 0, none⟩) 0 n) 0 (row5 []) :=
  ⟨by simp [row5], .inr ⟨w.heap.size, n, _, rfl, hB, heap_alloc_new _ _, Nat.zero_le _, hn, by simp [size_madeCells], by simp [row5]⟩⟩
set_option maxHeartbeats 800000 in
set_option maxRecDepth 100000 in
theorem rows_at {P : Nat → Prop} {w : World} {t : Pl.Tr} {r : Sl} (h : Tin P w t r) (hP : ∀ b, P b → b < w.heap.size) (w1 : World) (hsame : Same P w w1) (hge : w.heap.size ≤ w1.heap.size) (hgap : ∀ x ∈ Pl.pre t, x.gaps.length ≤ 1000000) (hsz : Pl.sz t ≤ 1000000) :
    Calls Try.prog 45 #[.agg #[.int .i64 t.kind, .string t.text, .slice r.ga t.gaps.length r.gc, .slice r.da t.kids.length r.dc]] w1 (TabP t w1) := by
  have hmk := make_rows (Pl.sz t) (by omega)
  have HSz := Lib.hid (fun w1 hs hge => size_at h hP w1 hs hge hsz)
  have HA := Lib.hid (fun w1 hs (hge : w.heap.size ≤ w1.heap.size) a c ho => append_at h hP w.heap.size (Nat.le_refl _) w1 hs hge hgap a 0 c [] (-1) (by omega) rfl ho)
  have HS := Lib.hid hsame
  obtain ⟨ga, gc, a, c⟩ := r
  clear h hsame hgap
  go_enter Try.func45, Try.ntmps45
  go_wp2_with fail
  obtain ⟨W, hW⟩ : ∃ W, W = w1.alloc (.cells #[.int .i64 t.kind, .string t.text, .slice ga t.gaps.length gc, .slice a t.kids.length c] 54) := ⟨_, rfl⟩
  rw [← hW]
  obtain ⟨c0, c1, c2, c3⟩ := box_new w1 t.kind t.text (.slice ga t.gaps.length gc) (.slice a t.kids.length c)
  rw [← hW] at c0 c1 c2 c3
  have hlow : Below w1.heap.size w1 W := by rw [hW]; exact (Below.refl _ _).alloc (Nat.le_refl _) _
  have hWs : w1.heap.size < W.heap.size := by rw [hW]; simp
  have HLow := Lib.hid hlow
  clear hW hlow
  have d0 : W.drew.cell? ⟨w1.heap.size, 0, none⟩ = some (.int .i64 t.kind) := c0
  have d1 : W.drew.cell? ⟨w1.heap.size, 1, none⟩ = some (.string t.text) := c1
  have d2 : W.drew.cell? ⟨w1.heap.size, 2, none⟩ = some (.slice ga t.gaps.length gc) := c2
  have d3 : W.drew.cell? ⟨w1.heap.size, 3, none⟩ = some (.slice a t.kids.length c) := c3
  go_region_held3 (fun w' => w'.cell? ⟨w1.heap.size, 0, none⟩ = some (.int .i64 t.kind) ∧ w'.cell? ⟨w1.heap.size, 1, none⟩ = some (.string t.text) ∧ w'.cell? ⟨w1.heap.size, 2, none⟩ = some (.slice ga t.gaps.length gc) ∧ w'.cell? ⟨w1.heap.size, 3, none⟩ = some (.slice a t.kids.length c))
    (first
      | with_reducible exact ⟨d0, d1, d2, d3⟩
      | with_reducible exact ⟨q0, q1, q2, q3⟩
      | with_reducible exact ⟨r0, r1, r2, r3⟩
      | exact ⟨(pa w2 _ 0 hb8).trans q0, (pa w2 _ 1 hb8).trans q1, (pa w2 _ 2 hb8).trans q2, (pa w2 _ 3 hb8).trans q3⟩
      | go_keep)
    ((first
      | (go_at_call 62; refine (HSz.out W.drew (HS.out.trans (Same.below HLow.out.drew fun b hb => by have := hP b hb; omega)) (by show w.heap.size ≤ W.heap.size; omega)).mono ?_; rintro e w2 ⟨rfl, hbel'⟩;
         have hbel : Below W.heap.size W w2 := (Below.refl _ W).drew.trans hbel';
         have q0 := (hbel.cell (p := ⟨w1.heap.size, 0, none⟩) hWs).trans c0;
         have q1 := (hbel.cell (p := ⟨w1.heap.size, 1, none⟩) hWs).trans c1;
         have q2 := (hbel.cell (p := ⟨w1.heap.size, 2, none⟩) hWs).trans c2;
         have q3 := (hbel.cell (p := ⟨w1.heap.size, 3, none⟩) hWs).trans c3;
         have hb8 : w1.heap.size < w2.heap.size := by have := hbel.size; omega;
         have pa := cell_past w1.heap.size;
         have HBel := Lib.hid (HLow.out.trans (hbel.mono (by omega)));
         clear hbel hbel')
      | (go_at_call 61; refine (HA.out _ (HS.out.trans (Same.below (HBel.out.alloc (by omega) _) fun b hb => by have := hP b hb; omega)) (by simp; omega) _ _ (owns_room w2 (Pl.sz t) w.heap.size (by omega) (by unfold maxLen; omega))).mono ?_; intro e w3 hr;
         have r4 := tabP_of hr hsz (HBel.out.alloc (by omega) _) (fun k hk => by simp [Value.ownBlock] at hk; omega);
         obtain ⟨ra, rc, RR, rfl, ht, hb3⟩ := r4;
         have hgb : w3.heap[w1.heap.size]? = w2.heap[w1.heap.size]? := (rowsP_frame hr w1.heap.size (by simp; omega) (by simp [Value.ownBlock]; omega)).trans (Below.heap_alloc _ _ _ hb8);
         have r0 := (World.cell?_of_block (w := w2) (a := ⟨w1.heap.size, 0, none⟩) hgb).trans q0;
         have r1 := (World.cell?_of_block (w := w2) (a := ⟨w1.heap.size, 1, none⟩) hgb).trans q1;
         have r2 := (World.cell?_of_block (w := w2) (a := ⟨w1.heap.size, 2, none⟩) hgb).trans q2;
         have r3 := (World.cell?_of_block (w := w2) (a := ⟨w1.heap.size, 3, none⟩) hgb).trans q3;
         have HT := Lib.hid ht;
         have HB3 := Lib.hid hb3;
         clear hr hgb ht hb3)))
  go_wp2_with fail
  go_ret
  exact ⟨ra, rc, RR, rfl, HT.out, HB3.out⟩
end Go.Proofs.Ytoelfiendfemaaa
