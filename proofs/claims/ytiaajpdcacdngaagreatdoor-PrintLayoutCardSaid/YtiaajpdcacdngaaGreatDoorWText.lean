/- The walks of source and Text. -/
import Derived.Test.YtiaajpdcacdngaaGreatDoorWStepS
import Derived.Test.YtiaajpdcacdngaaGreatDoorWStepW
import Derived.Laws.EntriesVeiled
namespace Go.Proofs.YtiaajpdcacdngaaGreatDoor
open Go.RowKit
set_option linter.unusedVariables false
set_option linter.unusedSimpArgs false

set_option maxRecDepth 100000 in
set_option maxHeartbeats 1600000 in
theorem source_any (t : Pl.Tr) (w : World) (r : Sl) (x : ByteArray) (h : IsT w t r) (hf : Pl.firstE t = 0) (hz : Pl.sz t ≤ 100000) (hht : Pl.ht t ≤ 900) (hlen : (Pl.source t).length ≤ 65536) (hx : Pl.mk (Pl.source t) = x) :
    Calls Tryz.prog 32 #[.agg #[.int .i64 t.kind, .string t.text, .slice r.ga t.gaps.length r.gc, .slice r.da t.kids.length r.dc]] w fun e w' => e = .returned (.tuple #[.string x, .int .i64 0]) ∧ Below w.heap.size w w' := by
  obtain ⟨A, hA, hsl, hfix⟩ := isT_lt (h.later (box_low w (.cells #[.int .i64 t.kind, .string t.text, .slice r.ga t.gaps.length r.gc, .slice r.da t.kids.length r.dc] 25)))
  have hfix0 := hfix w.heap.size 0 (box_at t r w)
  have B0 := Lib.hid (box_low w (.cells #[.int .i64 t.kind, .string t.text, .slice r.ga t.gaps.length r.gc, .slice r.da t.kids.length r.dc] 25))
  obtain ⟨W0, hW0⟩ : ∃ W0, W0 = w.alloc (.cells #[.int .i64 t.kind, .string t.text, .slice r.ga t.gaps.length r.gc, .slice r.da t.kids.length r.dc] 25) := ⟨_, rfl⟩
  rw [← hW0] at hfix0 B0
  have hs0 : W0.heap.size = w.heap.size + 1 := by rw [hW0]; simp
  obtain ⟨n1, n2⟩ := src_new W0
  have HW : Hid (Calls Tryz.prog 29 #[.pointer (some ⟨w.heap.size, 0, none⟩), .func (.func 54) #[] #[.pointer (some ⟨W0.heap.size + 3, 0, none⟩), .pointer (some ⟨W0.heap.size + 2, 0, none⟩)]] _ fun en w' => en = .returned (.tuple #[]) ∧ Src W0.heap.size (Pl.source t) (Pl.lastW ⟨#[]⟩ (Pl.evT t 0 ⟨#[]⟩)) w' ∧ Below W0.heap.size W0 w') := Lib.hid (by
    refine (walkS_any (W0.heap.size + 3) (W0.heap.size + 2) _ _ (stepS W0 A w.heap.size 0 hfix0 (by rw [hA]; exact hf) (by rw [hA]; omega) (by rw [hA]; exact hlen)) A w.heap.size 0 [] _ (by rw [hA]; exact hf) (by rw [hA]; exact hz) (by rw [hA]; exact hht) (fun D w2 hi => fixL_later hfix0 hi.low) (List.prefix_refl _) ⟨n2, n1⟩).mono ?_
    rintro en w' ⟨rfl, hi, _⟩
    have hs := hi.s
    rw [List.nil_append, evL_wd, hA] at hs
    exact ⟨rfl, hs, hi.low⟩)
  obtain ⟨n, hn⟩ : ∃ n, n = (Pl.source t).length := ⟨_, rfl⟩
  rw [← hn] at hlen
  have d1 : decide (65536 < (n : Int)) = false := decide_eq_false (by omega)
  have HN := Lib.hid hn
  have HX := Lib.hid hx
  have HBelow := Lib.hid n2
  rw [hs0] at HW
  rw [hW0] at HW
  have HS0 := Lib.hid hs0
  clear h hf hz hht hfix hfix0 hA hsl n1 n2 hx hn hW0 hs0
  generalize Pl.lastW ⟨#[]⟩ (Pl.evT t 0 ⟨#[]⟩) = la at *
  generalize Pl.source t = SRC at *
  generalize t.kind = k at *
  generalize t.text = s at *
  generalize t.gaps.length = gn at *
  generalize t.kids.length = m at *
  obtain ⟨ga, gc, da, dc⟩ := r
  simp only at *
  go_enter Tryz.func32, Tryz.ntmps32
  go_wp2_with (first
    | (go_at_call 29; refine HW.out.mono ?_; rintro e w2 ⟨rfl, hs2, hb2⟩; have c2 := cell_of_one hs2.s; rw [← HN.out] at c2; have HS2 := Lib.hid hs2.b; have HB2 := Lib.hid hb2; clear hs2 hb2)
    | (go_at_call 57; refine (Tk.bstring_any _ _ _ HS2.out).mono ?_; rintro e w3 ⟨rfl, hb3⟩))
  go_ret2
  refine ⟨?_, ?_⟩
  · rw [HX.out]; rfl
  · exact (box_low _ _).trans ((HB2.out.trans hb3).mono (Nat.le_succ _))
set_option maxRecDepth 100000 in
set_option maxHeartbeats 800000 in
theorem text_bad (t : Pl.Tr) (w : World) (r : Sl) (v : Int) (hT : Tabs w) (h : IsT w t r) (hc : Pl.chk t = v) (hv : v ≠ 0) :
    Calls Tryz.prog 14 #[.agg #[.int .i64 t.kind, .string t.text, .slice r.ga t.gaps.length r.gc, .slice r.da t.kids.length r.dc]] w fun e w' => e = .returned (.tuple #[.string ⟨#[]⟩, .int .i64 v]) ∧ Below w.heap.size w w' := by
  have HC := Lib.hid (fun w2 (hb : Below w.heap.size w w2) => check_is t w2 r v hc (hT.later hb) (h.later hb))
  obtain ⟨v1, v2⟩ := int_neq2 hv
  have B0 := Lib.hid (box_low w (.cells #[.int .i64 t.kind, .string t.text, .slice r.ga t.gaps.length r.gc, .slice r.da t.kids.length r.dc] 25))
  clear hT h hc hv
  generalize t.kind = k at *
  generalize t.text = s at *
  generalize t.gaps.length = n at *
  generalize t.kids.length = m at *
  obtain ⟨ga, gc, da, dc⟩ := r
  simp only at *
  go_enter Tryz.func14, Tryz.ntmps14
  go_wp2_with (go_at_call 28; refine (HC.out _ B0.out).mono ?_; rintro e w1 ⟨rfl, hb1⟩)
  go_ret2
  exact ⟨rfl, B0.out.trans (hb1.mono B0.out.size)⟩
set_option maxRecDepth 100000 in
set_option maxHeartbeats 800000 in
theorem text_ok (t : Pl.Tr) (w : World) (r : Sl) (x : ByteArray) (hT : Tabs w) (h : IsT w t r) (hc : Pl.chk t = 0) (hz : Pl.sz t ≤ 100000) (hlen : (Pl.source t).length ≤ 65536) (hx : Pl.mk (Pl.source t) = x) :
    Calls Tryz.prog 14 #[.agg #[.int .i64 t.kind, .string t.text, .slice r.ga t.gaps.length r.gc, .slice r.da t.kids.length r.dc]] w fun e w' => e = .returned (.tuple #[.string x, .int .i64 0]) ∧ Below w.heap.size w w' := by
  have hf := (Pl.chk_zero t hc).2.2.2
  have hht := Pl.chk_ht t hc (by omega)
  have HC := Lib.hid (fun w2 (hb : Below w.heap.size w w2) => check_is t w2 r 0 hc (hT.later hb) (h.later hb))
  have HSrc := Lib.hid (fun w2 (hb : Below w.heap.size w w2) => source_any t w2 r x (h.later hb) hf hz (by omega) hlen hx)
  have B0 := Lib.hid (box_low w (.cells #[.int .i64 t.kind, .string t.text, .slice r.ga t.gaps.length r.gc, .slice r.da t.kids.length r.dc] 25))
  have A0 := Lib.hid (box_at t r w)
  clear hT h hc hf hht hx hlen
  generalize t.kind = k at *
  generalize t.text = s at *
  generalize t.gaps.length = n at *
  generalize t.kids.length = m at *
  obtain ⟨ga, gc, da, dc⟩ := r
  simp only at *
  go_enter Tryz.func14, Tryz.ntmps14
  go_wp2_with (first
    | (go_at_call 28; refine (HC.out _ B0.out).mono ?_; rintro e w1 ⟨rfl, hb1⟩; have A1 := Lib.hid (at4_below A0.out hb1); have B1 := Lib.hid (B0.out.trans (hb1.mono B0.out.size)); obtain ⟨c0, c1, c2, c3⟩ := A1.out; clear hb1)
    | (go_at_call 32; refine (HSrc.out _ B1.out).mono ?_; rintro e w2 ⟨rfl, hb2⟩))
  go_ret2
  exact ⟨rfl, B1.out.trans (hb2.mono B1.out.size)⟩
end Go.Proofs.YtiaajpdcacdngaaGreatDoor
