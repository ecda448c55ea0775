/- The walks of Size and Height, and of the reference's. -/
import Derived.Test.YtoelfiendfemaaaMem
import Derived.Deep.RegionHeld3
import Derived.Deep.OwnRows
import Derived.Laws.CopyOwn
import Derived.Deep.Upon
namespace Go.Proofs.Ytoelfiendfemaaa
open Go.RowKit
set_option linter.unusedVariables false
set_option linter.unusedSimpArgs false

set_option maxHeartbeats 800000 in
theorem size_at {P : Nat → Prop} {w : World} {t : Pl.Tr} {r : Sl} (h : Tin P w t r) (hP : ∀ b, P b → b < w.heap.size) : ∀ w1, Same P w w1 → w.heap.size ≤ w1.heap.size → Pl.sz t ≤ 1000000 →
    Calls Try.prog 62 #[.agg #[.int .i64 t.kind, .string t.text, .slice r.ga t.gaps.length r.gc, .slice r.da t.kids.length r.dc]] w1 fun e w' => e = .returned (.int .i64 (Pl.sz t)) ∧ Below w1.heap.size w1 w' := by
  induction h with
  | mk t r R hs hg hl hk hr ih =>
    intro w1 hsame hge hsz
    cases t with
    | node k s g ks =>
      obtain ⟨ga, gc, a, c⟩ := r
      simp only [Pl.Tr.kids, Pl.Tr.gaps, Pl.Tr.text, Pl.Tr.kind] at *
      unfold Pl.sz at hsz ⊢
      unfold maxLen at hl
      obtain ⟨n, hn⟩ : ∃ n, n = ks.length := ⟨_, rfl⟩
      rw [← hn] at hl ⊢
      have HN := Lib.hid hn
      have HK := Lib.hid hk
      have HI := Lib.hid ih
      have HS := Lib.hid hsame
      have hz0 : Pl.szs (ks.take 0) = 0 := by simp [Pl.szs]
      have HZ := Lib.hid hz0
      clear hn hk hg hr ih hsame hz0
      go_enter Try.func62, Try.ntmps62
      go_wp2_with fail
      go_loopw [3, 9] (fun s i wr => ∃ j m : Nat, j ≤ n ∧ i = .int .i64 j ∧ s = .int .i64 m ∧ m = Pl.szs (ks.take j) + 1 ∧ Below w1.heap.size w1 wr ∧ w1.heap.size < wr.heap.size) (fun _ i _ => n - (intOf i).toNat)
      case atStart => exact ⟨0, 1, Nat.zero_le _, rfl, rfl, by rw [HZ.out], (Below.refl _ _).alloc (Nat.le_refl _) _, by simp⟩
      case round =>
        obtain ⟨j, m, hj, rfl, rfl, hm, hbel, hgt⟩ := hrel
        have HB := Lib.hid hbel
        by_cases hlt : j < n
        · have hjk : j < ks.length := by rw [← HN.out]; exact hlt
          have hu := List.getElem?_eq_getElem hjk
          have hstep := Pl.szs_step ks j hjk
          have HT := Lib.hid (Pl.szs_take ks j hjk)
          have hsr : Same P w wr := HS.out.trans (Same.below hbel fun b hb => Nat.lt_of_lt_of_le (hP b hb) hge)
          rcases HK.out with h0 | ⟨b, o, rfl, hb, hat⟩
          · rw [h0] at hjk; simp at hjk
          · have l1 := Lib.hid (At4.keep (hat j _ hu) hsr hb).range
            have HI1 := Lib.hid (HI.out j _ hu)
            generalize ks[j] = u at *
            generalize R j = r1 at *
            obtain ⟨ga1, gc1, da1, dc1⟩ := r1
            have hms : m + Pl.sz u ≤ 1000000 := by omega
            
            have HM := Lib.hid hm
            have HSR := Lib.hid hsr
            clear hat hm hu hsr hbel hstep
            go_wp2_with (first
              | (refine wpList_load_mid rfl 54 _ rfl b (o + j * 4) rfl [.int .i64 u.kind, .string u.text, .slice ga1 u.gaps.length gc1, .slice da1 u.kids.length dc1] _ l1.out Try.underlying54 rfl sizeN ?_)
              | (go_at_call 62; refine (HI1.out _ (HSR.out.trans (Same.below ((Below.refl _ _).alloc (Nat.le_refl _) _) (fun b hb => by have := hP b hb; omega))) (by simp; omega) (by omega)).mono ?_; rintro e w' ⟨rfl, hb2⟩; have HB2 := Lib.hid hb2; clear hb2))
            exact ⟨⟨j + 1, m + Pl.sz u, by omega, by go_num, by go_num, by rw [HT.out, HM.out]; omega, (HB.out.alloc (by omega) _).trans (HB2.out.mono (by simp; omega)), by have := HB2.out.size; simp at this; omega⟩, by simp [intOf]; omega⟩
        · have hjn : j = n := by omega
          subst hjn
          have HR : Hid (m = Pl.szs ks + 1) := Lib.hid (by rw [hm, HN.out, List.take_length])
          clear hm hbel
          go_wp2_with fail
          go_ret
          exact ⟨ret_int (by rw [HR.out]), HB.out⟩
end Go.Proofs.Ytoelfiendfemaaa

namespace Go.Proofs.Ytoelfiendfemaaa
open Go.RowKit
set_option linter.unusedVariables false
set_option linter.unusedSimpArgs false

/-- What is left is below zero, or what the tree does not take. -/
def LeftP (t : Pl.Tr) (nodes : Int) (w : World) (e : Ending) (w' : World) : Prop :=
  ∃ q : Int, (q = -1 ∨ (0 ≤ q ∧ q + Pl.sz t = nodes)) ∧ e = .returned (.int .i64 q) ∧ Below w.heap.size w w'
set_option maxHeartbeats 1600000 in
theorem left_at {P : Nat → Prop} {w : World} {t : Pl.Tr} {r : Sl} (h : Tin P w t r) (hP : ∀ b, P b → b < w.heap.size) : ∀ w1, Same P w w1 → w.heap.size ≤ w1.heap.size → ∀ nodes levels : Int, nodes ≤ 1000000 → -1000000 ≤ nodes → levels ≤ 1000000 → -1000000 ≤ levels →
    Calls Try.prog 88 #[.agg #[.int .i64 t.kind, .string t.text, .slice r.ga t.gaps.length r.gc, .slice r.da t.kids.length r.dc], .int .i64 nodes, .int .i64 levels] w1 (LeftP t nodes w1) := by
  induction h with
  | mk t r R hs hg hl hk hr ih =>
    intro w1 hsame hge nodes levels hn1 hn0 hl1 hl0
    cases t with
    | node k s g ks =>
      obtain ⟨ga, gc, a, c⟩ := r
      simp only [Pl.Tr.kids, Pl.Tr.gaps, Pl.Tr.text, Pl.Tr.kind] at *
      have hsz : Pl.sz (.node k s g ks) = Pl.szs ks + 1 := by rw [Pl.sz]
      have HSZ := Lib.hid hsz
      unfold maxLen at hl
      obtain ⟨n, hn⟩ : ∃ n, n = ks.length := ⟨_, rfl⟩
      rw [← hn] at hl ⊢
      have HN := Lib.hid hn
      have HK := Lib.hid hk
      have HI := Lib.hid ih
      have HS := Lib.hid hsame
      have hz0 : Pl.szs (ks.take 0) = 0 := by simp [Pl.szs]
      have HZ := Lib.hid hz0
      clear hn hk hg hr ih hsame hz0 hsz
      by_cases c1 : nodes < 1
      · go_enter Try.func88, Try.ntmps88
        go_wp2_with fail
        go_ret
        exact ⟨-1, .inl rfl, rfl, (Below.refl _ _).alloc (Nat.le_refl _) _⟩
      by_cases c2 : levels < 1
      · go_enter Try.func88, Try.ntmps88
        go_wp2_with fail
        go_ret
        exact ⟨-1, .inl rfl, rfl, (Below.refl _ _).alloc (Nat.le_refl _) _⟩
      by_cases c3 : nodes < (n : Int)
      · go_enter Try.func88, Try.ntmps88
        go_wp2_with fail
        go_ret
        exact ⟨-1, .inl rfl, rfl, (Below.refl _ _).alloc (Nat.le_refl _) _⟩
      go_enter Try.func88, Try.ntmps88
      go_wp2_with fail
      go_loopw [7, 8] (fun s i wr => ∃ (j : Nat) (m : Int), j ≤ n ∧ i = .int .i64 j ∧ s = .int .i64 m ∧ (0 ≤ m ∧ m + (Pl.szs (ks.take j) + 1 : Nat) = nodes) ∧ Below w1.heap.size w1 wr ∧ w1.heap.size < wr.heap.size ∧ wr.cell? ⟨w1.heap.size, 3, none⟩ = some (.slice a n c)) (fun _ i _ => n - (intOf i).toNat)
      case atStart => exact ⟨0, nodes - 1, Nat.zero_le _, rfl, rfl, ⟨by omega, by rw [HZ.out]; omega⟩, (Below.refl _ _).alloc (Nat.le_refl _) _, by simp, by simp⟩
      case round =>
        obtain ⟨j, m, hj, rfl, rfl, ⟨hm0, hm⟩, hbel, hgt, hcell⟩ := hrel
        have HB := Lib.hid hbel
        have HC := Lib.hid hcell
        by_cases hlt : j < n
        · have hjk : j < ks.length := by rw [← HN.out]; exact hlt
          have hu := List.getElem?_eq_getElem hjk
          have HT := Lib.hid (Pl.szs_take ks j hjk)
          have hsr : Same P w wr := HS.out.trans (Same.below hbel fun b hb => Nat.lt_of_lt_of_le (hP b hb) hge)
          rcases HK.out with h0 | ⟨b, o, rfl, hb, hat⟩
          · rw [h0] at hjk; simp at hjk
          · have l1 := Lib.hid (At4.keep (hat j _ hu) hsr hb).range
            have HI1 := Lib.hid (HI.out j _ hu)
            generalize ks[j] = u at *
            generalize R j = r1 at *
            obtain ⟨ga1, gc1, da1, dc1⟩ := r1
            have hm1 : m ≤ 1000000 := by omega
            have HM := Lib.hid hm
            have HSR := Lib.hid hsr
            clear hat hm hu hsr hbel
            go_wp2_with (first
              | (refine wpList_load_mid rfl 54 _ rfl b (o + j * 4) rfl [.int .i64 u.kind, .string u.text, .slice ga1 u.gaps.length gc1, .slice da1 u.kids.length dc1] _ l1.out Try.underlying54 rfl sizeN ?_)
              | (go_at_call 88; refine (HI1.out _ HSR.out (by omega) m (levels - 1) (by omega) (by omega) (by omega) (by omega)).mono ?_; rintro e w' ⟨q, hq, rfl, hb2⟩; have HB2 := Lib.hid hb2; clear hb2; have HQ := Lib.hid hq; by_cases hq0 : q < 0))
            · go_ret
              exact ⟨-1, .inl rfl, rfl, HB.out.trans (HB2.out.mono (by omega))⟩
            · exact ⟨⟨j + 1, q, by omega, by go_num, rfl, ⟨by omega, by have := HQ.out; have := HM.out; rw [HT.out]; omega⟩, HB.out.trans (HB2.out.mono (by omega)), by have := HB2.out.size; omega, (HB2.out.cell (p := ⟨_, _, none⟩) hgt).trans HC.out⟩, by simp [intOf]; omega⟩
        · have hjn : j = n := by omega
          subst hjn
          have HR : Hid (m + (Pl.szs ks + 1 : Nat) = nodes) := Lib.hid (by rw [HN.out, List.take_length] at hm; exact hm)
          clear hm hbel
          go_wp2_with fail
          go_ret
          exact ⟨m, .inr ⟨hm0, by rw [HSZ.out]; exact HR.out⟩, rfl, HB.out⟩

/-- What is left of the bytes, and that no node has more gaps. -/
def WeighP (t : Pl.Tr) (bytes : Int) (w : World) (e : Ending) (w' : World) : Prop :=
  ∃ q : Int, (q = -1 ∨ (0 ≤ q ∧ q ≤ bytes ∧ ∀ x ∈ Pl.pre t, (x.gaps.length : Int) ≤ bytes ∧ (x.text.size : Int) ≤ bytes)) ∧ e = .returned (.int .i64 q) ∧ Below w.heap.size w w'
set_option maxHeartbeats 1600000 in
theorem weigh_at {P : Nat → Prop} {w : World} {t : Pl.Tr} {r : Sl} (h : Tin P w t r) (hP : ∀ b, P b → b < w.heap.size) : ∀ w1, Same P w w1 → w.heap.size ≤ w1.heap.size → ∀ bytes : Int, bytes ≤ 1000000 → 0 ≤ bytes →
    Calls Try.prog 67 #[.agg #[.int .i64 t.kind, .string t.text, .slice r.ga t.gaps.length r.gc, .slice r.da t.kids.length r.dc], .int .i64 bytes] w1 (WeighP t bytes w1) := by
  induction h with
  | mk t r R hs hg hl hk hr ih =>
    intro w1 hsame hge bytes hn1 hn0
    cases t with
    | node k s g ks =>
      obtain ⟨ga, gc, a, c⟩ := r
      simp only [Pl.Tr.kids, Pl.Tr.gaps, Pl.Tr.text, Pl.Tr.kind] at *
      obtain ⟨hgl, hgx, hga⟩ := hg
      unfold maxLen at hl hs hgl
      obtain ⟨n, hn⟩ : ∃ n, n = ks.length := ⟨_, rfl⟩
      obtain ⟨m, hm⟩ : ∃ m, m = g.length := ⟨_, rfl⟩
      rw [← hn] at hl ⊢
      rw [← hm] at hgl ⊢
      have HN := Lib.hid hn
      have HM := Lib.hid hm
      have HK := Lib.hid hk
      have HG := Lib.hid hga
      have HX := Lib.hid hgx
      have HI := Lib.hid ih
      have HS := Lib.hid hsame
      clear hn hm hk hga hgx hr ih hsame
      by_cases c1 : bytes < (s.size : Int)
      · go_enter Try.func67, Try.ntmps67
        go_wp2_with fail
        go_ret
        exact ⟨-1, .inl rfl, rfl, (Below.refl _ _).alloc (Nat.le_refl _) _⟩
      by_cases c2 : bytes < (m : Int)
      · go_enter Try.func67, Try.ntmps67
        go_wp2_with fail
        go_ret
        exact ⟨-1, .inl rfl, rfl, (Below.refl _ _).alloc (Nat.le_refl _) _⟩
      go_enter Try.func67, Try.ntmps67
      go_wp2_with fail
      go_loopw [5, 6] (fun s i wr => ∃ (j : Nat) (q : Int), j ≤ m ∧ i = .int .i64 j ∧ s = .int .i64 q ∧ 0 ≤ q ∧ q ≤ bytes ∧ Below w1.heap.size w1 wr ∧ w1.heap.size < wr.heap.size ∧ wr.cell? ⟨w1.heap.size, 2, none⟩ = some (.slice ga m gc) ∧ wr.cell? ⟨w1.heap.size, 3, none⟩ = some (.slice a n c)) (fun _ i _ => m - (intOf i).toNat)
      case atStart => exact ⟨0, bytes - s.size, Nat.zero_le _, rfl, rfl, by omega, by omega, (Below.refl _ _).alloc (Nat.le_refl _) _, by simp, by simp, by simp⟩
      case round =>
        obtain ⟨j, q, hj, rfl, rfl, hq0, hq1, hbel, hgt, hcg, hck⟩ := hrel
        have HB := Lib.hid hbel
        by_cases hlt : j < m
        · have hjk : j < g.length := by rw [← HM.out]; exact hlt
          have hu := List.getElem?_eq_getElem hjk
          have hsr : Same P w wr := HS.out.trans (Same.below hbel fun b hb => Nat.lt_of_lt_of_le (hP b hb) hge)
          rcases HG.out with h0 | ⟨b, o, rfl, hb, hat⟩
          · rw [h0] at hjk; simp at hjk
          · have hcell := (hsr.cell hb).trans (hat j _ hu)
            have hxs := HX.out g[j] (List.getElem_mem _)
            unfold maxLen at hxs
            have HCG := Lib.hid hcg
            have HCK := Lib.hid hck
            generalize g[j] = x at *
            clear hat hu hsr hbel
            by_cases hxq : q ≤ (x.size : Int)
            · go_wp2_with fail
              go_ret
              exact ⟨-1, .inl rfl, rfl, HB.out⟩
            · go_wp2_with fail
              exact ⟨⟨j + 1, q - x.size - 1, by omega, by go_num, rfl, by omega, by omega, HB.out, hgt, HCG.out, HCK.out⟩, by simp [intOf]; omega⟩
        · have hjn : j = m := by omega
          subst hjn
          have HCK := Lib.hid hck
          clear hbel
          go_wp2_with fail
          go_loopw [5, 7] (fun s i wr => ∃ (j : Nat) (q : Int), j ≤ n ∧ i = .int .i64 j ∧ s = .int .i64 q ∧ 0 ≤ q ∧ q ≤ bytes ∧ (∀ t ∈ ks.take j, ∀ x ∈ Pl.pre t, (x.gaps.length : Int) ≤ bytes ∧ (x.text.size : Int) ≤ bytes) ∧ Below w1.heap.size w1 wr ∧ w1.heap.size < wr.heap.size ∧ wr.cell? ⟨w1.heap.size, 3, none⟩ = some (.slice a n c)) (fun _ i _ => n - (intOf i).toNat)
          case atStart => exact ⟨0, q, Nat.zero_le _, rfl, rfl, hq0, hq1, (fun t ht => by simp at ht), HB.out, hgt, HCK.out⟩
          case round =>
            obtain ⟨j, q, hj, rfl, rfl, hq0, hq1, hall, hbel, hgt, hcell⟩ := hrel
            have HB := Lib.hid hbel
            have HC := Lib.hid hcell
            have HA := Lib.hid hall
            by_cases hlt : j < n
            · have hjk : j < ks.length := by rw [← HN.out]; exact hlt
              have hu := List.getElem?_eq_getElem hjk
              have HT := Lib.hid (List.take_succ_eq_append_getElem hjk)
              have hsr : Same P w wr := HS.out.trans (Same.below hbel fun b hb => Nat.lt_of_lt_of_le (hP b hb) hge)
              rcases HK.out with h0 | ⟨b, o, rfl, hb, hat⟩
              · rw [h0] at hjk; simp at hjk
              · have l1 := Lib.hid (At4.keep (hat j _ hu) hsr hb).range
                have HI1 := Lib.hid (HI.out j _ hu)
                generalize ks[j] = u at *
                generalize R j = r1 at *
                obtain ⟨ga1, gc1, da1, dc1⟩ := r1
                have HSR := Lib.hid hsr
                clear hat hu hsr hbel hall
                go_wp2_with (first
                  | (refine wpList_load_mid rfl 54 _ rfl b (o + j * 4) rfl [.int .i64 u.kind, .string u.text, .slice ga1 u.gaps.length gc1, .slice da1 u.kids.length dc1] _ l1.out Try.underlying54 rfl sizeN ?_)
                  | (go_at_call 67; refine (HI1.out _ HSR.out (by omega) q (by omega) (by omega)).mono ?_; rintro e w' ⟨p, hp, rfl, hb2⟩; have HB2 := Lib.hid hb2; clear hb2; have HQ := Lib.hid hp; by_cases hp0 : p < 0))
                · go_ret
                  exact ⟨-1, .inl rfl, rfl, HB.out.trans (HB2.out.mono (by omega))⟩
                · have hp3 : 0 ≤ p ∧ p ≤ q ∧ ∀ x ∈ Pl.pre u, (x.gaps.length : Int) ≤ q ∧ (x.text.size : Int) ≤ q := by
                    rcases HQ.out with h | h
                    · omega
                    · exact h
                  exact ⟨⟨j + 1, p, by omega, by go_num, rfl, by omega, by omega, (fun t ht x hx => by
                    rw [HT.out] at ht
                    rcases List.mem_append.1 ht with ht | ht
                    · exact HA.out t ht x hx
                    · simp at ht; subst ht; have := hp3.2.2 x hx; omega), HB.out.trans (HB2.out.mono (by omega)), by have := HB2.out.size; omega, (HB2.out.cell (p := ⟨_, _, none⟩) hgt).trans HC.out⟩, by simp [intOf]; omega⟩
            · have hjn : j = n := by omega
              subst hjn
              have HR : Hid (∀ t ∈ ks, ∀ x ∈ Pl.pre t, (x.gaps.length : Int) ≤ bytes ∧ (x.text.size : Int) ≤ bytes) := Lib.hid (by rw [HN.out, List.take_length] at hall; exact hall)
              clear hall hbel
              go_wp2_with fail
              go_ret
              refine ⟨q, .inr ⟨hq0, hq1, fun x hx => ?_⟩, rfl, HB.out⟩
              rw [Pl.pre] at hx
              rcases List.mem_cons.1 hx with rfl | hx
              · refine ⟨?_, ?_⟩
                · show ((g.length : Nat) : Int) ≤ bytes
                  rw [← HM.out]; omega
                · show (s.size : Int) ≤ bytes
                  omega
              · obtain ⟨t, ht, hxt⟩ := Pl.pres_mem hx
                exact HR.out t ht x hxt
end Go.Proofs.Ytoelfiendfemaaa

namespace Go.Proofs.Ytoelfiendfemaaa
open Go.RowKit
set_option linter.unusedVariables false
set_option linter.unusedSimpArgs false

/-- Behind a box: what was there is as it was. -/
theorem same_box {P : Nat → Prop} {w w1 : World} {o : Obj} (hs : Same P w w1) (hP : ∀ b, P b → b < w.heap.size) (hge : w.heap.size ≤ w1.heap.size) : Same P w (w1.alloc o) :=
  hs.trans (Same.below ((Below.refl _ _).alloc (Nat.le_refl _) _) fun b hb => Nat.lt_of_lt_of_le (hP b hb) hge)
/-- A box of a node: its four cells. -/
def Box (w : World) (b : Nat) (k : Int) (s : ByteArray) (gv kv : Value) : Prop :=
  w.cell? ⟨b, 0, none⟩ = some (.int .i64 k) ∧ w.cell? ⟨b, 1, none⟩ = some (.string s) ∧ w.cell? ⟨b, 2, none⟩ = some gv ∧ w.cell? ⟨b, 3, none⟩ = some kv
theorem box_new (w : World) (k : Int) (s : ByteArray) (gv kv : Value) : Box (w.alloc (.cells #[.int .i64 k, .string s, gv, kv] 54)) w.heap.size k s gv kv := by
  refine ⟨?_, ?_, ?_, ?_⟩ <;> simp
theorem Box.keep {w w' : World} {b : Nat} {k : Int} {s : ByteArray} {gv kv : Value} (h : Box w b k s gv kv) (hb : w'.heap[b]? = w.heap[b]?) : Box w' b k s gv kv :=
  ⟨(World.cell?_of_block (w := w) (a := ⟨b, 0, none⟩) hb).trans h.1, (World.cell?_of_block (w := w) (a := ⟨b, 1, none⟩) hb).trans h.2.1, (World.cell?_of_block (w := w) (a := ⟨b, 2, none⟩) hb).trans h.2.2.1, (World.cell?_of_block (w := w) (a := ⟨b, 3, none⟩) hb).trans h.2.2.2⟩
theorem Box.at4 {w : World} {b : Nat} {k : Int} {s : ByteArray} {gv kv : Value} (h : Box w b k s gv kv) : At4 w b 0 k s gv kv := h
theorem box_range {w : World} (k : Int) (s : ByteArray) (gv kv : Value) : (w.alloc (.cells #[.int .i64 k, .string s, gv, kv] 54)).rangeAt w.heap.size 0 [.int .i64 k, .string s, gv, kv] := (box_new w k s gv kv).at4.range

/-- A tree of moderate size. -/
def Lit (t : Pl.Tr) : Prop := Pl.sz t ≤ 200 ∧ ∀ x ∈ Pl.pre t, x.gaps.length ≤ 8000 ∧ x.text.size ≤ 8000
/-- The answer of Light, of which only what true says is wanted. -/
def LitP (t : Pl.Tr) (w : World) (e : Ending) (w' : World) : Prop := ∃ b : Bool, (b = true → Lit t) ∧ e = .returned (.bool b) ∧ Below w.heap.size w w'
def FitP (t : Pl.Tr) (w : World) (e : Ending) (w' : World) : Prop := ∃ b : Bool, (b = true → Pl.sz t ≤ 200) ∧ e = .returned (.bool b) ∧ Below w.heap.size w w'

set_option maxHeartbeats 400000 in
theorem fits_at {P : Nat → Prop} {w : World} {t : Pl.Tr} {r : Sl} (h : Tin P w t r) (hP : ∀ b, P b → b < w.heap.size) (w1 : World) (hs : Same P w w1) (hge : w.heap.size ≤ w1.heap.size) (N : Nat) (hN : N ≤ 200) :
    Calls Try.prog 66 #[.agg #[.int .i64 t.kind, .string t.text, .slice r.ga t.gaps.length r.gc, .slice r.da t.kids.length r.dc], .int .i64 N, .int .i64 60] w1 (FitP t w1) := by
  have HL := Lib.hid (fun w1 hs hge => left_at h hP w1 hs hge N 60 (by omega) (by omega) (by omega) (by omega))
  have HS := Lib.hid (fun o => same_box (o := o) hs hP hge)
  obtain ⟨ga, gc, a, c⟩ := r
  clear h hs
  go_enter Try.func66, Try.ntmps66
  go_wp2_with ((go_at_call 88; refine (HL.out _ (HS.out _) (by simp; omega)).mono ?_; rintro e w' ⟨q, hq, rfl, hb2⟩; have HB2 := Lib.hid hb2; clear hb2; have HQ := Lib.hid hq))
  · go_ret
    exact ⟨_, (fun h => by have := of_decide_eq_true h; have := HQ.out; omega), rfl, ((Below.refl _ _).alloc (Nat.le_refl _) _).trans (HB2.out.mono (by simp))⟩
set_option maxHeartbeats 400000 in
theorem lightR_at {P : Nat → Prop} {w : World} {t : Pl.Tr} {r : Sl} (h : Tin P w t r) (hP : ∀ b, P b → b < w.heap.size) (w1 : World) (hs : Same P w w1) (hge : w.heap.size ≤ w1.heap.size) (N : Nat) (hN : N ≤ 200) :
    Calls Try.prog 53 #[.agg #[.int .i64 t.kind, .string t.text, .slice r.ga t.gaps.length r.gc, .slice r.da t.kids.length r.dc], .int .i64 N, .int .i64 60, .int .i64 8000] w1 (LitP t w1) := by
  have HF := Lib.hid (fun w1 hs hge => fits_at h hP w1 hs hge N hN)
  have HW := Lib.hid (fun w1 hs hge => weigh_at h hP w1 hs hge 8000 (by omega) (by omega))
  have HS := Lib.hid (fun o => same_box (o := o) hs hP hge)
  obtain ⟨ga, gc, a, c⟩ := r
  clear h hs
  go_enter Try.func53, Try.ntmps53
  go_wp2_with (go_at_call 66; refine (HF.out _ (HS.out _) (by simp; omega)).mono ?_; rintro e w' ⟨b1, hb1, rfl, hb2⟩; have HB2 := Lib.hid hb2; have HQ := Lib.hid hb1; clear hb1; obtain ⟨c0, c1, c2, c3⟩ := (box_new w1 t.kind t.text (.slice ga t.gaps.length gc) (.slice a t.kids.length c)).keep (hb2.block w1.heap.size (by simp)); clear hb2; cases b1)
  · go_ret
    exact ⟨false, (fun h => by cases h), rfl, ((Below.refl _ _).alloc (Nat.le_refl _) _).trans (HB2.out.mono (by simp))⟩
  · have HS2 := Lib.hid ((HS.out (.cells #[.int .i64 t.kind, .string t.text, .slice ga t.gaps.length gc, .slice a t.kids.length c] 54)).trans (Same.below HB2.out (fun b hb => by have := hP b hb; simp; omega)))
    go_wp2_with (go_at_call 67; refine (HW.out _ HS2.out (by have := HB2.out.size; simp at this; omega)).mono ?_; rintro e w3 ⟨q, hq, rfl, hb3⟩; have HB3 := Lib.hid hb3; clear hb3; have HQ2 := Lib.hid hq; clear hq)
    go_ret
    refine ⟨_, (fun h => ⟨HQ.out (by trivial), ?_⟩), rfl, (((Below.refl _ _).alloc (Nat.le_refl _) _).trans (HB2.out.mono (by simp))).trans (HB3.out.mono (by have := HB2.out.size; simp at this; omega))⟩
    have := of_decide_eq_true h
    rcases HQ2.out with h2 | h2
    · omega
    · intro x hx
      have := h2.2.2 x hx
      omega
end Go.Proofs.Ytoelfiendfemaaa

namespace Go.Proofs.Ytoelfiendfemaaa
open Go.RowKit
set_option linter.unusedVariables false
set_option linter.unusedSimpArgs false

/-- What a block that is known whole tells: its cells, and that it may be written. -/
theorem blk_cells {w : World} {b : Nat} {v0 v1 v2 v3 : Value} {T : TypeId} (h : w.heap[b]? = some (.cells #[v0, v1, v2, v3] T (0, 0))) :
    (w.cell? ⟨b, 0, none⟩ = some v0 ∧ w.cell? ⟨b, 1, none⟩ = some v1 ∧ w.cell? ⟨b, 2, none⟩ = some v2 ∧ w.cell? ⟨b, 3, none⟩ = some v3) ∧
    (w.frozen? ⟨b, 0, none⟩ = false ∧ w.frozen? ⟨b, 1, none⟩ = false ∧ w.frozen? ⟨b, 2, none⟩ = false ∧ w.frozen? ⟨b, 3, none⟩ = false) := by
  refine ⟨⟨?_, ?_, ?_, ?_⟩, ?_, ?_, ?_, ?_⟩
  · rw [cell_of_row _ _ _ _ _ _ h]; rfl
  · rw [cell_of_row _ _ _ _ _ _ h]; rfl
  · rw [cell_of_row _ _ _ _ _ _ h]; rfl
  · rw [cell_of_row _ _ _ _ _ _ h]; rfl
  all_goals simp [World.frozen?, h]

/-- The second of two blocks laid one behind the other. -/
theorem heap_at2 (w : World) (o1 o2 : Obj) : ((w.alloc o1).alloc o2).heap[w.heap.size + 1]? = some o2 := by
  have h := heap_alloc_new (w.alloc o1) o2
  rw [show (w.alloc o1).heap.size = w.heap.size + 1 from by simp] at h
  exact h
/-- Behind two new blocks and a call: the blocks hold what they held. -/
theorem two_after {w w2 : World} {o1 o2 : Obj} (hb : Below ((w.alloc o1).alloc o2).heap.size ((w.alloc o1).alloc o2) w2) :
    w2.heap[w.heap.size]? = some o1 ∧ w2.heap[w.heap.size + 1]? = some o2 ∧ Below w.heap.size w w2 ∧ w.heap.size + 1 < w2.heap.size := by
  have hz := hb.size
  simp at hz
  have e1 : w2.heap[w.heap.size]? = (w.alloc o1).heap[w.heap.size]? := (hb.block _ (by simp <;> omega)).trans (Below.heap_alloc _ _ _ (by simp))
  have e2 := hb.block (w.heap.size + 1) (by simp)
  exact ⟨e1.trans (heap_alloc_new _ _), e2.trans (heap_at2 _ _ _), (((Below.refl _ _).alloc (Nat.le_refl _) _).alloc (by simp) _).trans (hb.mono (by simp <;> omega)), by omega⟩
/-- Four stores into a block of the call's own. -/
theorem below_set4 {B b : Nat} {w w2 : World} {v0 v1 v2 v3 : Value} (h : Below B w w2) (hb : B ≤ b) : Below B w ((((w2.setCell ⟨b, 0, none⟩ v0).setCell ⟨b, 1, none⟩ v1).setCell ⟨b, 2, none⟩ v2).setCell ⟨b, 3, none⟩ v3) :=
  (((h.setCell (p := ⟨b, 0, none⟩) hb _).setCell (p := ⟨b, 1, none⟩) hb _).setCell (p := ⟨b, 2, none⟩) hb _).setCell (p := ⟨b, 3, none⟩) hb _
theorem heap_set4 {b x : Nat} {w2 : World} {v0 v1 v2 v3 : Value} (hb : x ≠ b) : ((((w2.setCell ⟨b, 0, none⟩ v0).setCell ⟨b, 1, none⟩ v1).setCell ⟨b, 2, none⟩ v2).setCell ⟨b, 3, none⟩ v3).heap[x]? = w2.heap[x]? :=
  (Below.heap_setCell _ ⟨b, 3, none⟩ _ x hb).trans ((Below.heap_setCell _ ⟨b, 2, none⟩ _ x hb).trans ((Below.heap_setCell _ ⟨b, 1, none⟩ _ x hb).trans (Below.heap_setCell _ ⟨b, 0, none⟩ _ x hb)))
/-- A node is found, or so many indices are left. -/
def FindP (P : Nat → Prop) (w : World) (t : Pl.Tr) (i : Nat) (w1 : World) (e : Ending) (w' : World) : Prop :=
  Below w1.heap.size w1 w' ∧ ((∃ u r, (Pl.pre t)[i]? = some u ∧ Tin P w u r ∧ e = .returned (.tuple #[.agg #[.int .i64 u.kind, .string u.text, .slice r.ga u.gaps.length r.gc, .slice r.da u.kids.length r.dc], .int .i64 (-1)])) ∨
    (∃ m : Nat, m + Pl.sz t = i ∧ e = .returned (.tuple #[.agg #[.int .i64 0, .string ⟨#[]⟩, .slice none 0 0, .slice none 0 0], .int .i64 m])))
/-- A node is found, or so many indices are left: the reference's answer. -/
def RFindP (P : Nat → Prop) (w : World) (t : Pl.Tr) (i : Nat) (w1 : World) (e : Ending) (w' : World) : Prop :=
  Below w1.heap.size w1 w' ∧ ((∃ u r, (Pl.pre t)[i]? = some u ∧ Tin P w u r ∧ e = .returned (.tuple #[.agg #[.int .i64 u.kind, .string u.text, .slice r.ga u.gaps.length r.gc, .slice r.da u.kids.length r.dc], .int .i64 0, .bool true])) ∨
    (∃ m : Nat, m + Pl.sz t = i ∧ e = .returned (.tuple #[.agg #[.int .i64 0, .string ⟨#[]⟩, .slice none 0 0, .slice none 0 0], .int .i64 m, .bool false])))
end Go.Proofs.Ytoelfiendfemaaa

namespace Go.Proofs.Ytoelfiendfemaaa
open Go.RowKit Go.Deep
set_option linter.unusedVariables false
set_option linter.unusedSimpArgs false

theorem infoS : (Try.prog.info? 9).map (fun i => (i.zero, i.size, i.bytes)) = some (some (.string ⟨#[]⟩), 1, 16) := by kernel_rfl
theorem sizeS : (Try.prog.info? 9).map (·.size) = some 1 := by kernel_rfl
/-- Strings in new memory. -/
def TextsP (xs : List ByteArray) (w1 : World) (e : Ending) (w' : World) : Prop :=
  ∃ b, e = .returned (.slice (some ⟨b, 0, none⟩) xs.length xs.length) ∧ b = w1.heap.size ∧ Strs (fun x => x = b) w' (some ⟨b, 0, none⟩) xs ∧ Below w1.heap.size w1 w' ∧ b < w'.heap.size
theorem splice_all {α : Type} (a b : List α) (h : a.length = b.length) : splice a 0 b = b := by
  unfold splice
  rw [List.take_zero, Nat.zero_add, List.drop_of_length_le (by omega)]; simp
set_option maxHeartbeats 400000 in
theorem texts_any {P : Nat → Prop} {w1 : World} (a : Option Addr) (c : Nat) (xs : List ByteArray) (h : Strs P w1 a xs) (hn : xs.length ≤ 1099511627776) :
    Calls Try.prog 76 #[.slice a xs.length c] w1 (TextsP xs w1) := by
  have hmk := run_make_row' (P := Try.prog) 33 9 (.string ⟨#[]⟩) 16 Try.underlying33 infoS rfl .i64 .i64 xs.length (by omega) (by omega)
  have HX := Lib.hid h
  have hlen : ((xs.map Value.string).length) = xs.length := List.length_map _
  have HL := Lib.hid hlen
  clear h hlen
  go_enter Try.func76, Try.ntmps76
  go_wp2_with (refine wpList_copy_splice rfl _ _ 33 33 rfl 9 Try.underlying33 sizeS _ _ _ _ _ _ rfl rfl w1.heap.size 0 (madeCells #[.string ⟨#[]⟩] xs.length).toList 9 (by simpa using heap_alloc_new _ _) (xs.map Value.string) (by simp) ?hpos (by simp [size_madeCells]) (by simp [Value.oneCell']) w1.heap.size w1 ((Below.refl _ _).alloc (Nat.le_refl _) _) (Nat.le_refl _) ?next)
  case hpos =>
    intro h0
    rcases HX.out.2.2 with h1 | ⟨b, o, rfl, _, hat⟩
    · rw [h1] at h0; cases h0
    · refine ⟨_, rfl, fun j v hv => ?_⟩
      rw [Addr.add_mid]
      have hc := hat j v hv
      have hlt := World.block_lt_of_cell? w1 _ hc
      exact (World.cell?_of_block (w := w1) (a := ⟨b, o + j, none⟩) (Below.heap_alloc _ _ _ hlt)).trans hc
  case next =>
    intro w2 hblk hb
    have HB := Lib.hid hb
    clear hb
    go_wp2_with fail
    go_ret
    have hblk2 := hblk.out
    rw [splice_all _ _ (by simp [size_madeCells])] at hblk2
    refine ⟨_, rfl, rfl, ⟨HX.out.1, HX.out.2.1, .inr ⟨_, 0, rfl, rfl, fun j x hx => ?_⟩⟩, HB.out, lt_of_block hblk2⟩
    rw [cell_of_row _ _ _ _ _ _ hblk2]
    simp [hx]
end Go.Proofs.Ytoelfiendfemaaa

namespace Go.Proofs.Ytoelfiendfemaaa
open Go.RowKit Go.Deep
set_option linter.unusedVariables false
set_option linter.unusedSimpArgs false

theorem kind_node (k : Int) (s : ByteArray) (g : List ByteArray) (ks : List Pl.Tr) : (Pl.Tr.node k s g ks).kind = k := rfl
theorem text_node (k : Int) (s : ByteArray) (g : List ByteArray) (ks : List Pl.Tr) : (Pl.Tr.node k s g ks).text = s := rfl
theorem gaps_node (k : Int) (s : ByteArray) (g : List ByteArray) (ks : List Pl.Tr) : (Pl.Tr.node k s g ks).gaps = g := rfl
theorem kids_node (k : Int) (s : ByteArray) (g : List ByteArray) (ks : List Pl.Tr) : (Pl.Tr.node k s g ks).kids = ks := rfl
/-- Some cells of one block have been written, from an offset on. -/
structure Wrote (w w' : World) (b o : Nat) (vs : List Value) : Prop where
  os : w'.os = w.os
  tape : w'.tape = w.tape
  output : w'.output = w.output
  size : w'.heap.size = w.heap.size
  other : ∀ x, x ≠ b → w'.heap[x]? = w.heap[x]?
  here : w'.rangeAt b o vs
  apart : ∀ o' cs, o' + cs.length ≤ o ∨ o + vs.length ≤ o' → w.rangeAt b o' cs → w'.rangeAt b o' cs
  there : ∀ o' n, w.there b o' n → w'.there b o' n
theorem wrote_setCells (w : World) (b : Nat) : ∀ (vs : List Value) (o : Nat), (w.setCells b o vs).os = w.os ∧ (w.setCells b o vs).tape = w.tape ∧ (w.setCells b o vs).output = w.output ∧ (w.setCells b o vs).heap.size = w.heap.size ∧ ∀ x, x ≠ b → (w.setCells b o vs).heap[x]? = w.heap[x]? := by
  intro vs
  induction vs generalizing w with
  | nil => intro o; exact ⟨rfl, rfl, rfl, rfl, fun _ _ => rfl⟩
  | cons v vs ih =>
    intro o
    obtain ⟨h1, h2, h3, h4, h5⟩ := ih (w.setCell ⟨b, o, none⟩ v) (o + 1)
    exact ⟨h1, h2, h3, h4.trans (by simp [World.setCell]), fun x hx => (h5 x hx).trans (Below.heap_setCell _ _ _ _ hx)⟩
theorem wrote_mk (w : World) (b o : Nat) (vs : List Value) (ht : w.there b o vs.length) : Wrote w (w.setCells b o vs) b o vs := by
  obtain ⟨h1, h2, h3, h4, h5⟩ := wrote_setCells w b vs o
  exact ⟨h1, h2, h3, h4, h5, World.rangeAt_setCells_same w b o vs ht, fun o' cs hap h => World.rangeAt_setCells_apart h b o vs (.inr hap), fun o' n h => World.there_setCells h b o vs⟩
theorem Wrote.below {w w' w0 : World} {b o B : Nat} {vs : List Value} (h : Wrote w w' b o vs) (hb : Below B w0 w) (hB : B ≤ b) : Below B w0 w' :=
  hb.trans ⟨h.os, h.tape, h.output, by rw [h.size]; exact Nat.le_refl _, fun x hx => h.other x (by omega)⟩
theorem Wrote.same {w w' : World} {b o : Nat} {vs : List Value} {P : Nat → Prop} (h : Wrote w w' b o vs) (hP : ∀ x, P x → x ≠ b) : Same P w w' := fun x hx => h.other x (hP x hx)
/-- A node is stored. -/
theorem wpList_store4 {ops : Array Oper} {rest : List Oper} {op : Oper} {a : Act} {w : World} {Q : Exit → Act → World → Prop} (hgd : op.guard = none) (x y : Operand) (ho : op.op = .store 54 x y)
    (b o : Nat) (k : Int) (s : ByteArray) (ga da : Option Addr) (gn gc dn dc : Nat) (hx : a.eval x = .pointer (some ⟨b, o, none⟩)) (hy : a.eval y = .agg #[.int .i64 k, .string s, .slice ga gn gc, .slice da dn dc])
    (ht : w.there b o 4)
    (h : ∀ w', Wrote w w' b o [.int .i64 k, .string s, .slice ga gn gc, .slice da dn dc] → wpList Try.prog ops Q rest (a.put op.dst undef) w') : wpList Try.prog ops Q (op :: rest) a w :=
  wpList_store_mid hgd 54 x y ho b o _ hx hy ht sizeN (by simp [Value.oneCell']) (h _ (wrote_mk w b o _ ht))
theorem at4_of_range {w : World} {b o : Nat} {k : Int} {s : ByteArray} {gv kv : Value} (h : w.rangeAt b o [.int .i64 k, .string s, gv, kv]) : At4 w b o k s gv kv :=
  ⟨h 0 _ rfl, h 1 _ rfl, h 2 _ rfl, h 3 _ rfl⟩
/-- A block of cells, none of them frozen, is there. -/
theorem there_block {w : World} {b : Nat} {cs : Array Value} {T : TypeId} (h : w.heap[b]? = some (.cells cs T (0, 0))) (o n : Nat) (hn : o + n ≤ cs.size) : w.there b o n := by
  intro j hj
  refine ⟨?_, by simp [World.frozen?, h]⟩
  rw [cell_of_row _ _ _ _ _ _ h, Array.getElem?_eq_getElem (by omega)]; rfl
theorem there_keep {w w' : World} {b o n : Nat} (h : w.there b o n) (hb : w'.heap[b]? = w.heap[b]?) : w'.there b o n := by
  intro j hj
  obtain ⟨h1, h2⟩ := h j hj
  exact ⟨by rw [World.cell?_of_block (w := w) (a := ⟨b, o + j, none⟩) hb]; exact h1, by rw [World.frozen?_of_block (w := w) (a := ⟨b, o + j, none⟩) hb]; exact h2⟩
theorem there_sub {w : World} {b o n : Nat} (h : w.there b 0 n) (m : Nat) (hn : o + m ≤ n) : w.there b o m := by
  intro j hj
  have := h (o + j) (by omega)
  rw [Nat.zero_add] at this
  exact this
theorem infoN : (Try.prog.info? 54).map (fun i => (i.zero, i.size, i.bytes)) = some (some (.agg #[.int .i64 0, .string ⟨#[]⟩, .slice none 0 0, .slice none 0 0]), 4, 72) := by kernel_rfl
/-- make of nodes, for every world. -/
theorem make_nodes (n : Nat) (hn : n ≤ 1099511627776) (w : World) :
    (Instr.makeSlice 52 (.int .i64 (n : Int)) (.int .i64 (n : Int))).run Try.prog w = .ok (.slice (some ⟨w.heap.size, 0, none⟩) n n) (w.alloc (.cells (madeCells #[.int .i64 0, .string ⟨#[]⟩, .slice none 0 0, .slice none 0 0] (n * 4)) 54)) := by
  obtain ⟨i, hi, hzz⟩ := Option.map_eq_some_iff.1 infoN
  simp only [Prod.mk.injEq] at hzz
  obtain ⟨hz, hs, hb⟩ := hzz
  have h := run_make (P := Try.prog) w 52 54 i _ Try.underlying52 hi hz .i64 .i64 n n (by omega) (Int.le_refl _) (by rw [hb]; omega) (by omega)
  have e : (Value.agg #[.int .i64 0, .string ⟨#[]⟩, .slice none 0 0, .slice none 0 0]).cells = #[.int .i64 0, .string ⟨#[]⟩, .slice none 0 0, .slice none 0 0] := by simp [Value.cells]
  rw [hs, e, Int.toNat_natCast] at h
  exact h
/-- A tree in new memory. -/
def CopyP (t : Pl.Tr) (w1 : World) (e : Ending) (w' : World) : Prop :=
  ∃ r : Sl, e = .returned (.agg #[.int .i64 t.kind, .string t.text, .slice r.ga t.gaps.length r.gc, .slice r.da t.kids.length r.dc]) ∧ Tin (fun b => w1.heap.size ≤ b ∧ b < w'.heap.size) w' t r ∧ Below w1.heap.size w1 w'
/-- The kids in new memory. -/
def EachP (f : Pl.Tr → Pl.Tr) (ks : List Pl.Tr) (w1 : World) (e : Ending) (w' : World) : Prop :=
  ∃ (b : Nat) (R : Nat → Sl), e = .returned (.slice (some ⟨b, 0, none⟩) ks.length ks.length) ∧ b = w1.heap.size ∧ (∀ (j : Nat) u, ks[j]? = some u → AtT w' b (j * 4) (f u) (R j) ∧ Tin (fun x => w1.heap.size ≤ x ∧ x < w'.heap.size) w' (f u) (R j)) ∧ Below w1.heap.size w1 w' ∧ b < w'.heap.size
theorem below_size {B : Nat} {w w' : World} (h : Below B w w') : w.heap.size ≤ w'.heap.size := h.size
end Go.Proofs.Ytoelfiendfemaaa

namespace Go.Proofs.Ytoelfiendfemaaa
open Go.RowKit Go.Deep
set_option linter.unusedVariables false
set_option linter.unusedSimpArgs false

theorem pre_mem_trans {t u x : Pl.Tr} {i : Nat} (h : (Pl.pre t)[i]? = some u) (hx : x ∈ Pl.pre u) : x ∈ Pl.pre t := by
  obtain ⟨h1, h2⟩ := Pl.pre_sub t i u h
  obtain ⟨j, hj⟩ := List.getElem?_of_mem hx
  have hjl : j < Pl.sz u := by rw [← Pl.pre_len]; exact (List.getElem?_eq_some_iff.1 hj).1
  exact List.mem_of_getElem? ((h2 j hjl).trans hj)
theorem cell_past (b : Nat) : ∀ (wx : World) (ob : Obj) (f : Nat), b < wx.heap.size → (wx.alloc ob).cell? ⟨b, f, none⟩ = wx.cell? ⟨b, f, none⟩ :=
  fun wx ob f h => World.cell?_of_block (w := wx) (a := ⟨b, f, none⟩) (Below.heap_alloc _ _ _ h)
theorem frozen_past (b : Nat) : ∀ (wx : World) (ob : Obj) (f : Nat), b < wx.heap.size → (wx.alloc ob).frozen? ⟨b, f, none⟩ = wx.frozen? ⟨b, f, none⟩ :=
  fun wx ob f h => World.frozen?_of_block (w := wx) (a := ⟨b, f, none⟩) (Below.heap_alloc _ _ _ h)
/-- A node's tree, or none. -/
def AtP (t : Pl.Tr) (i : Int) (w1 : World) (e : Ending) (w' : World) : Prop :=
  Below w1.heap.size w1 w' ∧ ((∃ (n : Nat) (u : Pl.Tr) (r : Sl), i = n ∧ (Pl.pre t)[n]? = some u ∧ IsT w' u r ∧ e = .returned (.tuple #[.agg #[.int .i64 u.kind, .string u.text, .slice r.ga u.gaps.length r.gc, .slice r.da u.kids.length r.dc], .bool true])) ∨
    ((i < 0 ∨ (Pl.sz t : Int) ≤ i) ∧ e = .returned (.tuple #[.agg #[.int .i64 0, .string ⟨#[]⟩, .slice none 0 0, .slice none 0 0], .bool false])))
end Go.Proofs.Ytoelfiendfemaaa
