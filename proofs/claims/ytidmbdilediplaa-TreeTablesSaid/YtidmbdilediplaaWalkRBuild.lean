/- The walk of the reference's Build. -/
import Derived.Test.YtidmbdilediplaaWalkGrow
namespace Go.Proofs.Ytidmbdilediplaa
open Go.RowKit Go.Deep
set_option linter.unusedVariables false
set_option linter.unusedSimpArgs false

set_option maxHeartbeats 1600000 in
set_option maxRecDepth 100000 in
theorem rbuild_any {P : Nat → Prop} {w1 : World} (a : Option Addr) (c : Nat) (l : List Pl.Rw) (R : Nat → Sl) (hx : TabIn P w1 a l R) (hP : ∀ b, P b → b < w1.heap.size) (hl : l.length ≤ 100000) :
    Calls Try.prog 24 #[.slice a l.length c] w1 (BuildP l w1) := by
  have HT := Lib.hid (table_any (w1 := w1.alloc (.cells #[.int .i64 0, .string ⟨#[]⟩, .slice none 0 0, .slice none 0 0] 25)) a c l R (hx.keep (Same.below ((Below.refl w1.heap.size w1).alloc (Nat.le_refl _) _) hP) (fun _ h => h)) (fun b hb => by have := hP b hb; simp; omega) hl)
  have HX := Lib.hid hx
  obtain ⟨n, hn⟩ : ∃ n, n = l.length := ⟨_, rfl⟩
  have HN := Lib.hid hn
  rw [← hn] at HT hl ⊢
  clear hn hx
  go_enter Try.func24, Try.ntmps24
  by_cases htab : Pl.IsTab l
  · obtain ⟨t, ht⟩ := (Pl.isTab_iff l).1 htab
    have HTab := Lib.hid htab
    have HTT := Lib.hid ht
    have hlen0 : 0 < l.length := by rw [ht, Pl.tab_len]; cases t; rw [Pl.sz]; omega
    rcases HX.out.2.1 with h0 | ⟨b, o, rfl, hb, hat⟩
    · rw [h0] at hlen0; simp at hlen0
    have HAT := Lib.hid hat
    have hsub : Pl.Sub l 0 t := ⟨-1, [], by rw [List.drop_zero, List.append_nil]; exact ht⟩
    have HG : Hid (∀ w2, Same P w1 w2 → w1.heap.size ≤ w2.heap.size → Calls Try.prog 42 #[.slice (some ⟨b, o, none⟩) n c, .int .i64 0] w2 (GrowP P t w2)) := Lib.hid (by
      have := grow_at b o c l R HX.out hat hb hP (by rw [← HN.out]; exact hl) t 0 hsub
      rw [← HN.out] at this
      exact this)
    clear htab ht hlen0 hat hsub
    go_wp2_with (first
      | (go_at_call 41; refine HT.out.mono ?_; rintro e w2 ⟨z, hz, rfl, hb2'⟩; have hb2 : Below w1.heap.size w1 w2 := ((Below.refl w1.heap.size w1).alloc (Nat.le_refl _) _).trans (hb2'.mono (by simp)); have HZ := Lib.hid ((hb2'.block w1.heap.size (by simp)).trans (heap_alloc_new w1 _)); obtain ⟨⟨p0, p1, p2, p3⟩, z0, z1, z2, z3⟩ := blk_cells HZ.out; have hlt2 : w1.heap.size + 1 ≤ w2.heap.size := (by have h9 := hb2'.size; simp at h9; omega); obtain rfl : z = true := hz.2 HTab.out; have HB2 := Lib.hid hb2; clear hz hb2 hb2')
      | (go_at_call 42; refine (HG.out w2 (Same.below HB2.out hP) HB2.out.size).mono ?_; rintro e w3 ⟨⟨ga, gc, da, dc⟩, rfl, ht3, hb3⟩; have HT3 := Lib.hid ht3; have HB3 := Lib.hid hb3; have hz3 := (hb3.block w1.heap.size (by omega)).trans HZ.out; obtain ⟨⟨r0, r1, r2, r3⟩, y0, y1, y2, y3⟩ := blk_cells hz3; have hlt3 := hb3.size; clear ht3 hb3 hz3 p0 p1 p2 p3 z0 z1 z2 z3))
    refine bodyPost_ret (v := .tuple #[.agg #[.int .i64 t.kind, .string t.text, .slice ga t.gaps.length gc, .slice da t.kids.length dc], .int .i64 0]) (by simp [results, Try.results24, go_sem, r0, r1, r2, r3]) rfl ?_
    refine ⟨below_set4 (HB2.out.trans (HB3.out.mono (by omega))) (Nat.le_refl _), .inl ⟨t, ⟨ga, gc, da, dc⟩, HTT.out, ?_, rfl⟩⟩
    refine HT3.out.keep (fun y hy => heap_set4 ?_) (fun y hy => ?_)
    · exact hy.elim (fun h => by have := hP y h; omega) (fun h => by omega)
    · exact hy.elim (fun h => by have := hP y h; simp; omega) (fun h => by simp; omega)
  · have HNo : Hid (∀ t, l ≠ Pl.tab t 0 (-1)) := Lib.hid fun t e => htab ((Pl.isTab_iff l).2 ⟨t, e⟩)
    have HTab := Lib.hid htab
    clear htab
    go_wp2_with (first
      | (go_at_call 41; refine HT.out.mono ?_; rintro e w2 ⟨z, hz, rfl, hb2'⟩; have hb2 : Below w1.heap.size w1 w2 := ((Below.refl w1.heap.size w1).alloc (Nat.le_refl _) _).trans (hb2'.mono (by simp)); have HZ := Lib.hid ((hb2'.block w1.heap.size (by simp)).trans (heap_alloc_new w1 _)); obtain ⟨⟨p0, p1, p2, p3⟩, z0, z1, z2, z3⟩ := blk_cells HZ.out; have hlt2 : w1.heap.size + 1 ≤ w2.heap.size := (by have h9 := hb2'.size; simp at h9; omega); obtain rfl : z = false := Bool.eq_false_iff.2 (fun h => HTab.out (hz.1 h)); have HB2 := Lib.hid hb2; clear hz hb2 hb2'))
    exact bodyPost_ret (v := .tuple #[.agg #[.int .i64 0, .string ⟨#[]⟩, .slice none 0 0, .slice none 0 0], .int .i64 7]) (by simp [results, Try.results24, go_sem, p0, p1, p2, p3]) rfl ⟨below_set4 HB2.out (Nat.le_refl _), .inr ⟨HNo.out, rfl⟩⟩
end Go.Proofs.Ytidmbdilediplaa
