/- The walks of small, Equal, Same and awake; what the laws keep. -/
import Derived.Test.YtiaajpdcacdngaaGreatDoorWLayout
import Derived.Test.YtiaajpdcacdngaaGreatDoorPMore
import Derived.Test.YtiaajpdcacdngaaGreatDoorBRCheck
import Derived.Deep.DeepCutAuto
import Derived.Deep.RegionWith
import Derived.Deep.RegionHeld3
namespace Go.Proofs.YtiaajpdcacdngaaGreatDoor.Li
open Go.RowKit
set_option linter.unusedVariables false
set_option linter.unusedSimpArgs false

/-- What is left is below zero, or what the tree does not take. -/
def LeftP (t : Pl.Tr) (nodes : Int) (w : World) (e : Ending) (w' : World) : Prop :=
  ∃ q : Int, (q = -1 ∨ (0 ≤ q ∧ q + Pl.sz t = nodes)) ∧ e = .returned (.int .i64 q) ∧ Below w.heap.size w w'
set_option maxHeartbeats 1600000 in
set_option maxRecDepth 100000 in
theorem left_at {P : Nat → Prop} {w : World} {t : Pl.Tr} {r : Sl} (h : Tin P w t r) (hP : ∀ b, P b → b < w.heap.size) : ∀ w1, Same P w w1 → w.heap.size ≤ w1.heap.size → ∀ nodes levels : Int, nodes ≤ 1000000 → -1000000 ≤ nodes → levels ≤ 1000000 → -1000000 ≤ levels →
    Calls Tryz.prog 67 #[.agg #[.int .i64 t.kind, .string t.text, .slice r.ga t.gaps.length r.gc, .slice r.da t.kids.length r.dc], .int .i64 nodes, .int .i64 levels] w1 (LeftP t nodes w1) := by
  induction h with
  | mk t r R hs hg hl hk hr ih =>
    intro w1 hsame hge nodes levels hn1 hn0 hl1 hl0
    cases t with
    | node k s g ks =>
      obtain ⟨ga, gc, a, c⟩ := r
      simp only [Pl.Tr.kids, Pl.Tr.gaps, Pl.Tr.text, Pl.Tr.kind] at *
      have hsz : Pl.sz (.node k s g ks) = Pl.szs ks + 1 := by rw [Pl.sz]
      have HSZ := Lib.hid hsz
      unfold maxLen at hl
      obtain ⟨n, hn⟩ : ∃ n, n = ks.length := ⟨_, rfl⟩
      rw [← hn] at hl ⊢
      have HN := Lib.hid hn
      have HK := Lib.hid hk
      have HI := Lib.hid ih
      have HS := Lib.hid hsame
      have hz0 : Pl.szs (ks.take 0) = 0 := by simp [Pl.szs]
      have HZ := Lib.hid hz0
      clear hn hk hg hr ih hsame hz0 hsz
      by_cases c1 : nodes < 1
      · go_enter Tryz.func67, Tryz.ntmps67
        go_wp2_with fail
        go_ret
        exact ⟨-1, .inl rfl, rfl, (Below.refl _ _).alloc (Nat.le_refl _) _⟩
      by_cases c2 : levels < 1
      · go_enter Tryz.func67, Tryz.ntmps67
        go_wp2_with fail
        go_ret
        exact ⟨-1, .inl rfl, rfl, (Below.refl _ _).alloc (Nat.le_refl _) _⟩
      by_cases c3 : nodes < (n : Int)
      · go_enter Tryz.func67, Tryz.ntmps67
        go_wp2_with fail
        go_ret
        exact ⟨-1, .inl rfl, rfl, (Below.refl _ _).alloc (Nat.le_refl _) _⟩
      go_enter Tryz.func67, Tryz.ntmps67
      go_wp2_with fail
      go_loopw [7, 8] (fun s i wr => ∃ (j : Nat) (m : Int), j ≤ n ∧ i = .int .i64 j ∧ s = .int .i64 m ∧ (0 ≤ m ∧ m + (Pl.szs (ks.take j) + 1 : Nat) = nodes) ∧ Below w1.heap.size w1 wr ∧ w1.heap.size < wr.heap.size ∧ wr.cell? ⟨w1.heap.size, 3, none⟩ = some (.slice a n c)) (fun _ i _ => n - (intOf i).toNat)
      case atStart => exact ⟨0, nodes - 1, Nat.zero_le _, rfl, rfl, ⟨by omega, by rw [HZ.out]; omega⟩, (Below.refl _ _).alloc (Nat.le_refl _) _, by simp, by simp⟩
      case round =>
        obtain ⟨j, m, hj, rfl, rfl, ⟨hm0, hm⟩, hbel, hgt, hcell⟩ := hrel
        have HB := Lib.hid hbel
        have HC := Lib.hid hcell
        by_cases hlt : j < n
        · have hjk : j < ks.length := by rw [← HN.out]; exact hlt
          have hu := List.getElem?_eq_getElem hjk
          have HT := Lib.hid (Pl.szs_take ks j hjk)
          have hsr : Same P w wr := HS.out.trans (Same.below hbel fun b hb => Nat.lt_of_lt_of_le (hP b hb) hge)
          rcases HK.out with h0 | ⟨b, o, rfl, hb, hat⟩
          · rw [h0] at hjk; simp at hjk
          · have l1 := Lib.hid (At4.keep (hat j _ hu) hsr hb).range
            have HI1 := Lib.hid (HI.out j _ hu)
            generalize ks[j] = u at *
            generalize R j = r1 at *
            obtain ⟨ga1, gc1, da1, dc1⟩ := r1
            have hm1 : m ≤ 1000000 := by omega
            have HM := Lib.hid hm
            have HSR := Lib.hid hsr
            clear hat hm hu hsr hbel
            go_wp2_with (first
              | (refine wpList_load_mid rfl 25 _ rfl b (o + j * 4) rfl [.int .i64 u.kind, .string u.text, .slice ga1 u.gaps.length gc1, .slice da1 u.kids.length dc1] _ l1.out Tryz.underlying25 rfl sizeN ?_)
              | (go_at_call 67; refine (HI1.out _ HSR.out (by omega) m (levels - 1) (by omega) (by omega) (by omega) (by omega)).mono ?_; rintro e w' ⟨q, hq, rfl, hb2⟩; have HB2 := Lib.hid hb2; clear hb2; have HQ := Lib.hid hq; by_cases hq0 : q < 0))
            · go_ret
              exact ⟨-1, .inl rfl, rfl, HB.out.trans (HB2.out.mono (by omega))⟩
            · exact ⟨⟨j + 1, q, by omega, by go_num, rfl, ⟨by omega, by have := HQ.out; have := HM.out; rw [HT.out]; omega⟩, HB.out.trans (HB2.out.mono (by omega)), by have := HB2.out.size; omega, (HB2.out.cell (p := ⟨_, _, none⟩) hgt).trans HC.out⟩, by simp [intOf]; omega⟩
        · have hjn : j = n := by omega
          subst hjn
          have HR : Hid (m + (Pl.szs ks + 1 : Nat) = nodes) := Lib.hid (by rw [HN.out, List.take_length] at hm; exact hm)
          clear hm hbel
          go_wp2_with fail
          go_ret
          exact ⟨m, .inr ⟨hm0, by rw [HSZ.out]; exact HR.out⟩, rfl, HB.out⟩

theorem gs_take (g : List ByteArray) (j : Nat) (h : j < g.length) : ((g.take (j + 1)).map (·.size)).sum = ((g.take j).map (·.size)).sum + g[j].size := by
  rw [List.take_succ_eq_append_getElem h, List.map_append, List.sum_append]
  show _ + (g[j].size + 0) = _
  omega
theorem wts_take (ks : List Pl.Tr) (j : Nat) (h : j < ks.length) : Pl.wts (ks.take (j + 1)) = Pl.wts (ks.take j) + Pl.wt ks[j] := by
  rw [List.take_succ_eq_append_getElem h]
  generalize ks.take j = l
  induction l with
  | nil => simp [Pl.wts]
  | cons a l ih => rw [List.cons_append, Pl.wts, Pl.wts, ih]; omega
/-- What is left of the bytes. -/
def WeighP (t : Pl.Tr) (bytes : Int) (w : World) (e : Ending) (w' : World) : Prop :=
  ∃ q : Int, (q = -1 ∨ (0 ≤ q ∧ q + (Pl.wt t : Nat) ≤ bytes)) ∧ e = .returned (.int .i64 q) ∧ Below w.heap.size w w'
set_option maxHeartbeats 1600000 in
set_option maxRecDepth 100000 in
theorem weigh_at {P : Nat → Prop} {w : World} {t : Pl.Tr} {r : Sl} (h : Tin P w t r) (hP : ∀ b, P b → b < w.heap.size) : ∀ w1, Same P w w1 → w.heap.size ≤ w1.heap.size → ∀ bytes : Int, bytes ≤ 1000000 → 0 ≤ bytes →
    Calls Tryz.prog 44 #[.agg #[.int .i64 t.kind, .string t.text, .slice r.ga t.gaps.length r.gc, .slice r.da t.kids.length r.dc], .int .i64 bytes] w1 (WeighP t bytes w1) := by
  induction h with
  | mk t r R hs hg hl hk hr ih =>
    intro w1 hsame hge bytes hn1 hn0
    cases t with
    | node k s g ks =>
      obtain ⟨ga, gc, a, c⟩ := r
      simp only [Pl.Tr.kids, Pl.Tr.gaps, Pl.Tr.text, Pl.Tr.kind] at *
      obtain ⟨hgl, hgx, hga⟩ := hg
      unfold maxLen at hl hs hgl
      obtain ⟨n, hn⟩ : ∃ n, n = ks.length := ⟨_, rfl⟩
      obtain ⟨m, hm⟩ : ∃ m, m = g.length := ⟨_, rfl⟩
      rw [← hn] at hl ⊢
      rw [← hm] at hgl ⊢
      have HN := Lib.hid hn
      have HWT := Lib.hid (show Pl.wt (.node k s g ks) = s.size + (g.map (·.size)).sum + Pl.wts ks by rw [Pl.wt])
      have HW0 := Lib.hid (show Pl.wts (ks.take 0) = 0 by simp [Pl.wts])
      have HM := Lib.hid hm
      have HK := Lib.hid hk
      have HG := Lib.hid hga
      have HX := Lib.hid hgx
      have HI := Lib.hid ih
      have HS := Lib.hid hsame
      clear hn hm hk hga hgx hr ih hsame
      by_cases c1 : bytes < (s.size : Int)
      · go_enter Tryz.func44, Tryz.ntmps44
        go_wp2_with fail
        go_ret
        exact ⟨-1, .inl rfl, rfl, (Below.refl _ _).alloc (Nat.le_refl _) _⟩
      by_cases c2 : bytes < (m : Int)
      · go_enter Tryz.func44, Tryz.ntmps44
        go_wp2_with fail
        go_ret
        exact ⟨-1, .inl rfl, rfl, (Below.refl _ _).alloc (Nat.le_refl _) _⟩
      go_enter Tryz.func44, Tryz.ntmps44
      go_wp2_with fail
      go_loopw [5, 6] (fun v0 i wr => ∃ (j : Nat) (q : Int), j ≤ m ∧ i = .int .i64 j ∧ v0 = .int .i64 q ∧ 0 ≤ q ∧ q + (((g.take j).map (·.size)).sum : Nat) + s.size ≤ bytes ∧ Below w1.heap.size w1 wr ∧ w1.heap.size < wr.heap.size ∧ wr.cell? ⟨w1.heap.size, 2, none⟩ = some (.slice ga m gc) ∧ wr.cell? ⟨w1.heap.size, 3, none⟩ = some (.slice a n c)) (fun _ i _ => m - (intOf i).toNat)
      case atStart => exact ⟨0, bytes - s.size, Nat.zero_le _, rfl, rfl, by omega, by simp, (Below.refl _ _).alloc (Nat.le_refl _) _, by simp, by simp, by simp⟩
      case round =>
        obtain ⟨j, q, hj, rfl, rfl, hq0, hq1, hbel, hgt, hcg, hck⟩ := hrel
        have HB := Lib.hid hbel
        have HQ1 := Lib.hid hq1
        have hqb : q ≤ 1000000 := by omega
        clear hq1
        by_cases hlt : j < m
        · have hjk : j < g.length := by rw [← HM.out]; exact hlt
          have hu := List.getElem?_eq_getElem hjk
          have HT := Lib.hid (gs_take g j hjk)
          have hsr : Same P w wr := HS.out.trans (Same.below hbel fun b hb => Nat.lt_of_lt_of_le (hP b hb) hge)
          rcases HG.out with h0 | ⟨b, o, rfl, hb, hat⟩
          · rw [h0] at hjk; simp at hjk
          · have hcell := (hsr.cell hb).trans (hat j _ hu)
            have hxs := HX.out g[j] (List.getElem_mem _)
            unfold maxLen at hxs
            have HCG := Lib.hid hcg
            have HCK := Lib.hid hck
            generalize g[j] = x at *
            clear hat hu hsr hbel
            by_cases hxq : q ≤ (x.size : Int)
            · go_wp2_with fail
              go_ret
              exact ⟨-1, .inl rfl, rfl, HB.out⟩
            · go_wp2_with fail
              exact ⟨⟨j + 1, q - x.size - 1, by omega, by go_num, rfl, by omega, by have := HQ1.out; rw [HT.out]; omega, HB.out, hgt, HCG.out, HCK.out⟩, by simp [intOf]; omega⟩
        · have hjn : j = m := by omega
          subst hjn
          have HCK := Lib.hid hck
          have HQ2 : Hid (q + ((g.map (·.size)).sum : Nat) + s.size ≤ bytes) := Lib.hid (by have e := HQ1.out; rw [HM.out, List.take_length] at e; exact e)
          clear hbel
          go_wp2_with fail
          go_loopw [5, 7] (fun v0 i wr => ∃ (j : Nat) (q : Int), j ≤ n ∧ i = .int .i64 j ∧ v0 = .int .i64 q ∧ 0 ≤ q ∧ q + (Pl.wts (ks.take j) + (g.map (·.size)).sum : Nat) + s.size ≤ bytes ∧ Below w1.heap.size w1 wr ∧ w1.heap.size < wr.heap.size ∧ wr.cell? ⟨w1.heap.size, 3, none⟩ = some (.slice a n c)) (fun _ i _ => n - (intOf i).toNat)
          case atStart => exact ⟨0, q, Nat.zero_le _, rfl, rfl, hq0, by have := HQ2.out; rw [HW0.out]; omega, HB.out, hgt, HCK.out⟩
          case round =>
            obtain ⟨j, q, hj, rfl, rfl, hq0, hq1, hbel, hgt, hcell⟩ := hrel
            have HB := Lib.hid hbel
            have HC := Lib.hid hcell
            have HQ1 := Lib.hid hq1
            have hqb : q ≤ 1000000 := by omega
            clear hq1
            by_cases hlt : j < n
            · have hjk : j < ks.length := by rw [← HN.out]; exact hlt
              have hu := List.getElem?_eq_getElem hjk
              have HT := Lib.hid (wts_take ks j hjk)
              have hsr : Same P w wr := HS.out.trans (Same.below hbel fun b hb => Nat.lt_of_lt_of_le (hP b hb) hge)
              rcases HK.out with h0 | ⟨b, o, rfl, hb, hat⟩
              · rw [h0] at hjk; simp at hjk
              · have l1 := Lib.hid (At4.keep (hat j _ hu) hsr hb).range
                have HI1 := Lib.hid (HI.out j _ hu)
                generalize ks[j] = u at *
                generalize R j = r1 at *
                obtain ⟨ga1, gc1, da1, dc1⟩ := r1
                have HSR := Lib.hid hsr
                clear hat hu hsr hbel
                go_wp2_with (first
                  | (refine wpList_load_mid rfl 25 _ rfl b (o + j * 4) rfl [.int .i64 u.kind, .string u.text, .slice ga1 u.gaps.length gc1, .slice da1 u.kids.length dc1] _ l1.out Tryz.underlying25 rfl sizeN ?_)
                  | (go_at_call 44; refine (HI1.out _ HSR.out (by omega) q (by omega) (by omega)).mono ?_; rintro e w' ⟨p, hp, rfl, hb2⟩; have HB2 := Lib.hid hb2; clear hb2; have HQ := Lib.hid hp; by_cases hp0 : p < 0))
                · go_ret
                  exact ⟨-1, .inl rfl, rfl, HB.out.trans (HB2.out.mono (by omega))⟩
                · have hp3 : 0 ≤ p ∧ p + (Pl.wt u : Nat) ≤ q := by
                    rcases HQ.out with h | h
                    · omega
                    · exact h
                  exact ⟨⟨j + 1, p, by omega, by go_num, rfl, by omega, by have := HQ1.out; rw [HT.out]; omega, HB.out.trans (HB2.out.mono (by omega)), by have := HB2.out.size; omega, (HB2.out.cell (p := ⟨_, _, none⟩) hgt).trans HC.out⟩, by simp [intOf]; omega⟩
            · have hjn : j = n := by omega
              subst hjn
              have HR : Hid (q + (Pl.wts ks + (g.map (·.size)).sum : Nat) + s.size ≤ bytes) := Lib.hid (by have e := HQ1.out; rw [HN.out, List.take_length] at e; exact e)
              clear hbel
              go_wp2_with fail
              go_ret
              refine ⟨q, .inr ⟨hq0, ?_⟩, rfl, HB.out⟩
              rw [HWT.out]
              have := HR.out
              omega
/-- Behind a box: what was there is as it was. -/
theorem same_box {P : Nat → Prop} {w w1 : World} {o : Obj} (hs : Same P w w1) (hP : ∀ b, P b → b < w.heap.size) (hge : w.heap.size ≤ w1.heap.size) : Same P w (w1.alloc o) :=
  hs.trans (Same.below ((Below.refl _ _).alloc (Nat.le_refl _) _) fun b hb => Nat.lt_of_lt_of_le (hP b hb) hge)
/-- A box of a node: its four cells. -/
def Box (w : World) (b : Nat) (k : Int) (s : ByteArray) (gv kv : Value) : Prop :=
  w.cell? ⟨b, 0, none⟩ = some (.int .i64 k) ∧ w.cell? ⟨b, 1, none⟩ = some (.string s) ∧ w.cell? ⟨b, 2, none⟩ = some gv ∧ w.cell? ⟨b, 3, none⟩ = some kv
theorem box_new (w : World) (k : Int) (s : ByteArray) (gv kv : Value) : Box (w.alloc (.cells #[.int .i64 k, .string s, gv, kv] 25)) w.heap.size k s gv kv := by
  refine ⟨?_, ?_, ?_, ?_⟩ <;> simp
theorem Box.keep {w w' : World} {b : Nat} {k : Int} {s : ByteArray} {gv kv : Value} (h : Box w b k s gv kv) (hb : w'.heap[b]? = w.heap[b]?) : Box w' b k s gv kv :=
  ⟨(World.cell?_of_block (w := w) (a := ⟨b, 0, none⟩) hb).trans h.1, (World.cell?_of_block (w := w) (a := ⟨b, 1, none⟩) hb).trans h.2.1, (World.cell?_of_block (w := w) (a := ⟨b, 2, none⟩) hb).trans h.2.2.1, (World.cell?_of_block (w := w) (a := ⟨b, 3, none⟩) hb).trans h.2.2.2⟩
theorem Box.at4 {w : World} {b : Nat} {k : Int} {s : ByteArray} {gv kv : Value} (h : Box w b k s gv kv) : At4 w b 0 k s gv kv := h
theorem box_range {w : World} (k : Int) (s : ByteArray) (gv kv : Value) : (w.alloc (.cells #[.int .i64 k, .string s, gv, kv] 25)).rangeAt w.heap.size 0 [.int .i64 k, .string s, gv, kv] := (box_new w k s gv kv).at4.range

/-- A tree of moderate size. -/
def Lit (t : Pl.Tr) : Prop := Pl.sz t ≤ 250 ∧ Pl.wt t ≤ 3000
/-- The answer of light, of which only what true says is wanted. -/
def LitP (t : Pl.Tr) (w : World) (e : Ending) (w' : World) : Prop := ∃ b : Bool, (b = true → Lit t) ∧ e = .returned (.bool b) ∧ Below w.heap.size w w'
def FitP (t : Pl.Tr) (w : World) (e : Ending) (w' : World) : Prop := ∃ b : Bool, (b = true → Pl.sz t ≤ 250) ∧ e = .returned (.bool b) ∧ Below w.heap.size w w'

set_option maxHeartbeats 400000 in
set_option maxRecDepth 100000 in
theorem fits_at {P : Nat → Prop} {w : World} {t : Pl.Tr} {r : Sl} (h : Tin P w t r) (hP : ∀ b, P b → b < w.heap.size) (w1 : World) (hs : Same P w w1) (hge : w.heap.size ≤ w1.heap.size) :
    Calls Tryz.prog 43 #[.agg #[.int .i64 t.kind, .string t.text, .slice r.ga t.gaps.length r.gc, .slice r.da t.kids.length r.dc], .int .i64 250, .int .i64 70] w1 (FitP t w1) := by
  have HL := Lib.hid (fun w1 hs hge => left_at h hP w1 hs hge 250 70 (by omega) (by omega) (by omega) (by omega))
  have HS := Lib.hid (fun o => same_box (o := o) hs hP hge)
  obtain ⟨ga, gc, a, c⟩ := r
  clear h hs
  go_enter Tryz.func43, Tryz.ntmps43
  go_wp2_with ((go_at_call 67; refine (HL.out _ (HS.out _) (by simp; omega)).mono ?_; rintro e w' ⟨q, hq, rfl, hb2⟩; have HB2 := Lib.hid hb2; clear hb2; have HQ := Lib.hid hq))
  · go_ret
    exact ⟨_, (fun h => by have := of_decide_eq_true h; have := HQ.out; omega), rfl, ((Below.refl _ _).alloc (Nat.le_refl _) _).trans (HB2.out.mono (by simp))⟩
set_option maxHeartbeats 400000 in
set_option maxRecDepth 100000 in
theorem lightR_at {P : Nat → Prop} {w : World} {t : Pl.Tr} {r : Sl} (h : Tin P w t r) (hP : ∀ b, P b → b < w.heap.size) (w1 : World) (hs : Same P w w1) (hge : w.heap.size ≤ w1.heap.size) :
    Calls Tryz.prog 26 #[.agg #[.int .i64 t.kind, .string t.text, .slice r.ga t.gaps.length r.gc, .slice r.da t.kids.length r.dc], .int .i64 250, .int .i64 70, .int .i64 3000] w1 (LitP t w1) := by
  have HF := Lib.hid (fun w1 hs hge => fits_at h hP w1 hs hge)
  have HW := Lib.hid (fun w1 hs hge => weigh_at h hP w1 hs hge 3000 (by omega) (by omega))
  have HS := Lib.hid (fun o => same_box (o := o) hs hP hge)
  obtain ⟨ga, gc, a, c⟩ := r
  clear h hs
  go_enter Tryz.func26, Tryz.ntmps26
  go_wp2_with (go_at_call 43; refine (HF.out _ (HS.out _) (by simp; omega)).mono ?_; rintro e w' ⟨b1, hb1, rfl, hb2⟩; have HB2 := Lib.hid hb2; have HQ := Lib.hid hb1; clear hb1; obtain ⟨c0, c1, c2, c3⟩ := (box_new w1 t.kind t.text (.slice ga t.gaps.length gc) (.slice a t.kids.length c)).keep (hb2.block w1.heap.size (by simp)); clear hb2; cases b1)
  · go_ret
    exact ⟨false, (fun h => by cases h), rfl, ((Below.refl _ _).alloc (Nat.le_refl _) _).trans (HB2.out.mono (by simp))⟩
  · have HS2 := Lib.hid ((HS.out (.cells #[.int .i64 t.kind, .string t.text, .slice ga t.gaps.length gc, .slice a t.kids.length c] 25)).trans (Same.below HB2.out (fun b hb => by have := hP b hb; simp; omega)))
    go_wp2_with (go_at_call 44; refine (HW.out _ HS2.out (by have := HB2.out.size; simp at this; omega)).mono ?_; rintro e w3 ⟨q, hq, rfl, hb3⟩; have HB3 := Lib.hid hb3; clear hb3; have HQ2 := Lib.hid hq; clear hq)
    go_ret
    refine ⟨_, (fun h => ⟨HQ.out (by trivial), ?_⟩), rfl, (((Below.refl _ _).alloc (Nat.le_refl _) _).trans (HB2.out.mono (by simp))).trans (HB3.out.mono (by have := HB2.out.size; simp at this; omega))⟩
    have := of_decide_eq_true h
    rcases HQ2.out with h2 | h2
    · omega
    · exact by omega
set_option maxHeartbeats 400000 in
set_option maxRecDepth 100000 in
theorem light_at {P : Nat → Prop} {w : World} {t : Pl.Tr} {r : Sl} (h : Tin P w t r) (hP : ∀ b, P b → b < w.heap.size) (w1 : World) (hs : Same P w w1) (hge : w.heap.size ≤ w1.heap.size) :
    Calls Tryz.prog 9 #[.agg #[.int .i64 t.kind, .string t.text, .slice r.ga t.gaps.length r.gc, .slice r.da t.kids.length r.dc]] w1 (LitP t w1) := by
  have HF := Lib.hid (fun w1 hs hge => lightR_at h hP w1 hs hge)
  have HS := Lib.hid (fun o => same_box (o := o) hs hP hge)
  obtain ⟨ga, gc, a, c⟩ := r
  clear h hs
  go_enter Tryz.func9, Tryz.ntmps9
  go_wp2_with ((go_at_call 26; refine (HF.out _ (HS.out _) (by simp; omega)).mono ?_; rintro e w' ⟨b1, hb1, rfl, hb2⟩; have HB2 := Lib.hid hb2; clear hb2; have HQ := Lib.hid hb1; clear hb1))
  go_ret
  exact ⟨b1, HQ.out, rfl, ((Below.refl _ _).alloc (Nat.le_refl _) _).trans (HB2.out.mono (by simp))⟩
theorem small_at (t : Pl.Tr) (w : World) (r : Sl) (h : IsT w t r) :
    Calls Tryz.prog 9 #[.agg #[.int .i64 t.kind, .string t.text, .slice r.ga t.gaps.length r.gc, .slice r.da t.kids.length r.dc]] w (LitP t w) :=
  light_at h (fun _ h => h) w (Same.refl _ _) (Nat.le_refl _)
end Go.Proofs.YtiaajpdcacdngaaGreatDoor.Li

namespace Go.Proofs.YtiaajpdcacdngaaGreatDoor.Li
open Go.RowKit
set_option linter.unusedVariables false
set_option linter.unusedSimpArgs false
set_option maxRecDepth 100000

theorem mem_ne {α : Type} {a b : List α} (h : a ≠ b) (hl : a.length = b.length) : ∃ (j : Nat) (x y : α), a[j]? = some x ∧ b[j]? = some y ∧ x ≠ y := by
  induction a generalizing b with
  | nil =>
    cases b with
    | nil => exact absurd rfl h
    | cons _ _ => cases hl
  | cons x a ih =>
    cases b with
    | nil => cases hl
    | cons y b =>
      by_cases hxy : x = y
      · subst hxy
        obtain ⟨j, u, v, h1, h2, h3⟩ := ih (fun e => h (by rw [e])) (by simpa using hl)
        exact ⟨j + 1, u, v, h1, h2, h3⟩
      · exact ⟨0, x, y, rfl, rfl, hxy⟩
theorem take_same {α : Type} {a b : List α} {k : Nat} {x : α} (h : a.take k = b.take k) (ha : a[k]? = some x) (hb : b[k]? = some x) : a.take (k + 1) = b.take (k + 1) := by
  rw [List.take_add_one, List.take_add_one, ha, hb, h]
theorem take_differ {α : Type} {a b : List α} {k : Nat} {x y : α} (ha : a[k]? = some x) (hb : b[k]? = some y) (h : x ≠ y) : a ≠ b := by
  rintro rfl; rw [ha] at hb; exact h (Option.some.inj hb)
theorem str_ne {x y : ByteArray} (h : x ≠ y) : (x.toList == y.toList) = false := by
  have : x.toList ≠ y.toList := fun e => h (by
    have e2 : x.data.toList = y.data.toList := by
      rw [← ByteArray.toList_eq, ← ByteArray.toList_eq] <;> exact e
    cases x; cases y; simp at e2; rw [e2])
  simpa using this
/- LISTS -/
set_option maxHeartbeats 400000 in
theorem rstrings_any {P Q : Nat → Prop} {w : World} (a b : Option Addr) (c d : Nat) (xs ys : List ByteArray) (hx : Strs P w a xs) (hy : Strs Q w b ys) :
    Calls Tryz.prog 38 #[.slice a xs.length c, .slice b ys.length d] w fun e w' => e = .returned (.bool (decide (xs = ys))) ∧ Below w.heap.size w w' := by
  have hn1 : xs.length ≤ maxLen := hx.1
  have hn2 : ys.length ≤ maxLen := hy.1
  unfold maxLen at hn1 hn2
  by_cases hl : xs.length = ys.length
  · have HX := Lib.hid hx
    have HY := Lib.hid hy
    have HLen := Lib.hid hl
    clear hx hy
    rw [← hl]
    obtain ⟨n, hn⟩ : ∃ n, n = xs.length := ⟨_, rfl⟩
    have HN := Lib.hid hn
    rw [← hn] at hn1 ⊢
    clear hl hn hn2
    go_enter Tryz.func38, Tryz.ntmps38
    go_wp2_with fail
    go_loopw [5] (fun i wr => ∃ k nq : Nat, k ≤ n ∧ i = .int .i64 k ∧ xs.take k = ys.take k ∧ wr = w.drewN nq) (fun i _ => n - (intOf i).toNat)
    case atStart => exact ⟨0, 0, Nat.zero_le _, rfl, rfl, rfl⟩
    case round =>
      obtain ⟨k, nq, hk, rfl, heq, rfl⟩ := hrel
      have HE := Lib.hid heq
      clear heq
      by_cases hlt : k < n
      · have hkx : k < xs.length := by rw [← HN.out]; exact hlt
        have hky : k < ys.length := by rw [← HLen.out]; exact hkx
        have hgx := List.getElem?_eq_getElem hkx
        have hgy := List.getElem?_eq_getElem hky
        have hi0 : (0 : Int) ≤ (k : Int) := Int.natCast_nonneg _
        have hi1 : (k : Int) < (n : Int) := by omega
        rcases HX.out.2.2 with h0 | ⟨b1, o1, rfl, _, hat1⟩
        · rw [h0] at hkx; simp at hkx
        · rcases HY.out.2.2 with h0 | ⟨b2, o2, rfl, _, hat2⟩
          · rw [h0] at hky; simp at hky
          · have c1 := hat1 k _ hgx
            have c2 := hat2 k _ hgy
            have HGX := Lib.hid hgx
            have HGY := Lib.hid hgy
            generalize xs[k] = x at *
            generalize ys[k] = y at *
            clear hat1 hat2 hgx hgy
            by_cases hxy : x = y
            · subst hxy
              have HT := Lib.hid (take_same HE.out HGX.out HGY.out)
              have hb : (x.toList != x.toList) = false := by simp
              go_wp2_with fail
              go_quiet (fail)
              go_wp2_with fail
              exact ⟨⟨k + 1, _, by omega, by go_num, HT.out, rfl⟩, by simp [intOf]; omega⟩
            · have HD := Lib.hid (take_differ HGX.out HGY.out hxy)
              have hb := str_ne hxy
              have hb2 : (x.toList != y.toList) = true := by rw [bne, hb]; rfl
              clear hxy
              go_wp2_with fail
              go_quiet (fail)
              go_wp2_with fail
              go_ret
              exact ⟨ret_bool (decide_eq_false HD.out).symm, ⟨rfl, rfl, rfl, Nat.le_refl _, fun _ _ => rfl⟩⟩
      · have hkn : k = n := by omega
        subst hkn
        have HD : Hid (xs = ys) := Lib.hid (by have := HE.out; rw [HN.out, List.take_length] at this; rw [this, HLen.out, List.take_length])
        go_wp2_with fail
        go_ret
        exact ⟨ret_bool (decide_eq_true HD.out).symm, below_drewN _ _⟩
  · have HD := Lib.hid (show xs ≠ ys from fun e => hl (by rw [e]))
    obtain ⟨n, hn⟩ : ∃ n, n = xs.length := ⟨_, rfl⟩
    obtain ⟨m, hm⟩ : ∃ m, m = ys.length := ⟨_, rfl⟩
    rw [← hn, ← hm] at hl ⊢
    have hl2 : ((n : Int) == (m : Int)) = false := by simpa using fun h : (n : Int) = m => hl (by omega)
    have hl3 : ((n : Int) != (m : Int)) = true := by simpa using fun h : (n : Int) = m => hl (by omega)
    clear hn hm hx hy hl
    go_enter Tryz.func38, Tryz.ntmps38
    go_wp2_with fail
    go_ret
    exact ⟨ret_bool (decide_eq_false HD.out).symm, Below.refl _ _⟩
/-- Are two trees one? -/
noncomputable def eqT (t u : Pl.Tr) : Bool := @decide (t = u) (Classical.propDecidable _)
theorem eqT_iff {t u : Pl.Tr} : eqT t u = true ↔ t = u := by unfold eqT; exact @decide_eq_true_iff _ (Classical.propDecidable _)
theorem eqT_no {t u : Pl.Tr} (h : t ≠ u) : eqT t u = false := by unfold eqT; exact @decide_eq_false _ (Classical.propDecidable _) h
/-- Are two trees one but for their gaps? -/
noncomputable def sameT (t u : Pl.Tr) : Bool := eqT (Pl.bare t) (Pl.bare u)
theorem sameT_iff {t u : Pl.Tr} : sameT t u = true ↔ Pl.bare t = Pl.bare u := eqT_iff
theorem sameT_no {t u : Pl.Tr} (h : Pl.bare t ≠ Pl.bare u) : sameT t u = false := eqT_no h
theorem rstrings_is {P Q : Nat → Prop} {w : World} (a b : Option Addr) (c d : Nat) (xs ys : List ByteArray) (hx : Strs P w a xs) (hy : Strs Q w b ys) (z : Bool) (hz : decide (xs = ys) = z) :
    Calls Tryz.prog 38 #[.slice a xs.length c, .slice b ys.length d] w fun e w' => e = .returned (.bool z) ∧ Below w.heap.size w w' := hz ▸ rstrings_any a b c d xs ys hx hy
theorem int_ne {x y : Int} (h : x ≠ y) : (x != y) = true ∧ (x == y) = false := ⟨by simpa using h, by simpa using h⟩
theorem str_neq {x y : ByteArray} (h : x ≠ y) : (x.toList != y.toList) = true ∧ (x.toList == y.toList) = false := ⟨by rw [bne, str_ne h]; rfl, str_ne h⟩
theorem boxes_after {w1 w2 : World} {k k' : Int} {s s' : ByteArray} {gv kv gv' kv' : Value} (hb : Below ((w1.alloc (.cells #[.int .i64 k, .string s, gv, kv] 25)).alloc (.cells #[.int .i64 k', .string s', gv', kv'] 25)).heap.size ((w1.alloc (.cells #[.int .i64 k, .string s, gv, kv] 25)).alloc (.cells #[.int .i64 k', .string s', gv', kv'] 25)) w2) :
    Box w2 w1.heap.size k s gv kv ∧ Box w2 (w1.heap.size + 1) k' s' gv' kv' ∧ Below w1.heap.size w1 w2 ∧ w1.heap.size + 1 < w2.heap.size := by
  have hz := hb.size
  simp at hz
  have e1 : w2.heap[w1.heap.size]? = (w1.alloc (.cells #[.int .i64 k, .string s, gv, kv] 25)).heap[w1.heap.size]? := (hb.block _ (by simp <;> omega)).trans (Below.heap_alloc _ _ _ (by simp))
  have e2 := hb.block (w1.heap.size + 1) (by simp)
  refine ⟨(box_new w1 k s gv kv).keep e1, ?_, (((Below.refl _ _).alloc (Nat.le_refl _) _).alloc (by simp) _).trans (hb.mono (by simp <;> omega)), by omega⟩
  have := box_new (w1.alloc (.cells #[.int .i64 k, .string s, gv, kv] 25)) k' s' gv' kv'
  rw [show (w1.alloc (.cells #[.int .i64 k, .string s, gv, kv] 25)).heap.size = w1.heap.size + 1 from by simp] at this
  exact this.keep e2
/-- Behind two boxes. -/
theorem same_box2 {P : Nat → Prop} {w w1 : World} {o1 o2 : Obj} (hs : Same P w w1) (hP : ∀ b, P b → b < w.heap.size) (hge : w.heap.size ≤ w1.heap.size) : Same P w ((w1.alloc o1).alloc o2) :=
  hs.trans (Same.below (((Below.refl _ _).alloc (Nat.le_refl _) _).alloc (by simp) _) fun b hb => Nat.lt_of_lt_of_le (hP b hb) hge)
set_option maxHeartbeats 800000 in
set_option maxRecDepth 100000 in
theorem requal_at {P : Nat → Prop} {w : World} {t : Pl.Tr} {r : Sl} (h : Tin P w t r) (hP : ∀ b, P b → b < w.heap.size) : ∀ (u : Pl.Tr) (q : Sl), Tin P w u q → ∀ w1, Same P w w1 → w.heap.size ≤ w1.heap.size →
    Calls Tryz.prog 20 #[.agg #[.int .i64 t.kind, .string t.text, .slice r.ga t.gaps.length r.gc, .slice r.da t.kids.length r.dc], .agg #[.int .i64 u.kind, .string u.text, .slice q.ga u.gaps.length q.gc, .slice q.da u.kids.length q.dc]] w1 fun e w' => e = .returned (.bool (eqT t u)) ∧ Below w1.heap.size w1 w' := by
  induction h with
  | mk t r R hs hg hl hk hr ih =>
    intro u q hu w1 hsame hge
    cases hu with
    | mk _ _ R2 hs2 hg2 hl2 hk2 hr2 =>
    cases t with
    | node k s g ks =>
    cases u with
    | node k2 s2 g2 ls =>
      obtain ⟨ga, gc, a, c⟩ := r
      obtain ⟨ga2, gc2, a2, c2⟩ := q
      simp only [Pl.Tr.kids, Pl.Tr.gaps, Pl.Tr.text, Pl.Tr.kind] at *
      have HK := Lib.hid hk
      have HK2 := Lib.hid hk2
      have HR2 := Lib.hid hr2
      have HI := Lib.hid ih
      have HS := Lib.hid hsame
      have HG1 := Lib.hid hg
      have HG2 := Lib.hid hg2
      have hgl1 := hg.1
      have hgl2 := hg2.1
      unfold maxLen at hl hl2 hgl1 hgl2
      clear hk hr ih hsame hk2 hr2 hg hg2
      rcases (Classical.em (k = k2)).symm with hkk | hkk
      · obtain ⟨hb1, hb2⟩ := int_ne hkk
        go_enter Tryz.func20, Tryz.ntmps20
        go_wp2_with fail
        go_ret
        exact ⟨ret_bool (eqT_no (fun e => hkk (by injection e))).symm, ((Below.refl _ _).alloc (Nat.le_refl _) _).alloc (by simp) _⟩
      subst hkk
      rcases (Classical.em (s = s2)).symm with hss | hss
      · obtain ⟨hb1, hb2⟩ := str_neq hss
        go_enter Tryz.func20, Tryz.ntmps20
        go_wp2_with fail
        go_ret
        exact ⟨ret_bool (eqT_no (fun e => hss (by injection e))).symm, ((Below.refl _ _).alloc (Nat.le_refl _) _).alloc (by simp) _⟩
      subst hss
      rcases (Classical.em (g = g2)).symm with hgg | hgg
      · have HZ := Lib.hid (decide_eq_false hgg)
        obtain ⟨n, hn⟩ : ∃ n, n = ks.length := ⟨_, rfl⟩
        obtain ⟨m, hm⟩ : ∃ m, m = ls.length := ⟨_, rfl⟩
        rw [← hn, ← hm]
        clear hn hm
        go_enter Tryz.func20, Tryz.ntmps20
        go_wp2_with (go_at_call 38; refine (rstrings_is _ _ _ _ g g2 (HG1.out.keep (same_box2 HS.out hP hge) (fun _ h => h)) (HG2.out.keep (same_box2 HS.out hP hge) (fun _ h => h)) false HZ.out).mono ?_; rintro e w2 ⟨rfl, hb2⟩; obtain ⟨⟨c10, c11, c12, c13⟩, ⟨c20, c21, c22, c23⟩, hb0, hsz2⟩ := boxes_after hb2; have HB0 := Lib.hid hb0; clear hb2 hb0)
        go_ret
        exact ⟨ret_bool (eqT_no (fun e => hgg (by injection e))).symm, HB0.out⟩
      subst hgg
      rcases (Classical.em (ks.length = ls.length)).symm with hnn | hnn
      · have HN2 : Hid (¬ ks.length = ls.length) := Lib.hid hnn
        obtain ⟨n, hn⟩ : ∃ n, n = ks.length := ⟨_, rfl⟩
        obtain ⟨m, hm⟩ : ∃ m, m = ls.length := ⟨_, rfl⟩
        obtain ⟨hb1, hb2⟩ := int_ne (x := (n : Int)) (y := m) (fun e => hnn (by omega))
        rw [← hn] at hl ⊢
        rw [← hm] at hl2 ⊢
        clear hn hm hnn
        have HZ := Lib.hid (decide_eq_true (rfl : g = g))
        go_enter Tryz.func20, Tryz.ntmps20
        go_wp2_with (go_at_call 38; refine (rstrings_is _ _ _ _ g g (HG1.out.keep (same_box2 HS.out hP hge) (fun _ h => h)) (HG2.out.keep (same_box2 HS.out hP hge) (fun _ h => h)) true HZ.out).mono ?_; rintro e w2 ⟨rfl, hb2⟩; obtain ⟨⟨c10, c11, c12, c13⟩, ⟨c20, c21, c22, c23⟩, hb0, hsz2⟩ := boxes_after hb2; have HB0 := Lib.hid hb0; clear hb2 hb0)
        go_ret
        exact ⟨ret_bool (eqT_no (fun e => HN2.out (by injection e with _ _ _ e4; rw [e4]))).symm, HB0.out⟩
      have HL := Lib.hid hnn
      obtain ⟨n, hn⟩ : ∃ n, n = ks.length := ⟨_, rfl⟩
      obtain ⟨m, hm⟩ : ∃ m, m = n := ⟨_, rfl⟩
      rw [← hnn, ← hn] at hl2 ⊢
      rw [← hn] at hl
      have HN := Lib.hid hn
      have HZ := Lib.hid (decide_eq_true (rfl : g = g))
      clear hn hnn
      subst hm
      go_enter Tryz.func20, Tryz.ntmps20
      go_wp2_with (go_at_call 38; refine (rstrings_is _ _ _ _ g g (HG1.out.keep (same_box2 HS.out hP hge) (fun _ h => h)) (HG2.out.keep (same_box2 HS.out hP hge) (fun _ h => h)) true HZ.out).mono ?_; rintro e w2 ⟨rfl, hb2⟩; obtain ⟨⟨c10, c11, c12, c13⟩, ⟨c20, c21, c22, c23⟩, hb0, hsz2⟩ := boxes_after hb2; have HB0 := Lib.hid hb0; clear hb2 hb0)
      go_loopw [5] (fun i wr => ∃ j : Nat, j ≤ m ∧ i = .int .i64 j ∧ ks.take j = ls.take j ∧ Below w1.heap.size w1 wr ∧ w1.heap.size + 1 < wr.heap.size ∧ wr.cell? ⟨w1.heap.size, 3, none⟩ = some (.slice a m c) ∧ wr.cell? ⟨w1.heap.size + 1, 3, none⟩ = some (.slice a2 m c2)) (fun i _ => m - (intOf i).toNat)
      case atStart => exact ⟨0, Nat.zero_le _, rfl, rfl, HB0.out, hsz2, c13, c23⟩
      case round =>
        obtain ⟨j, hj, rfl, heq, hbel, hgt, hc1, hc2⟩ := hrel
        have HB := Lib.hid hbel
        have HE := Lib.hid heq
        clear heq
        by_cases hlt : j < m
        · have hjk : j < ks.length := by rw [← HN.out]; exact hlt
          have hjl : j < ls.length := by rw [← HL.out]; exact hjk
          have hu := List.getElem?_eq_getElem hjk
          have hv := List.getElem?_eq_getElem hjl
          have hi0 : (0 : Int) ≤ (j : Int) := Int.natCast_nonneg _
          have hi1 : (j : Int) < (m : Int) := by omega
          have hsr : Same P w wr := HS.out.trans (Same.below hbel fun b hb => Nat.lt_of_lt_of_le (hP b hb) hge)
          rcases HK.out with h0 | ⟨b, o, rfl, hb, hat⟩
          · rw [h0] at hjk; simp at hjk
          rcases HK2.out with h0 | ⟨b2, o2, rfl, hb2, hat2⟩
          · rw [h0] at hjl; simp at hjl
          have A1 := Lib.hid (At4.keep (hat j _ hu) hsr hb)
          have A2 := Lib.hid (At4.keep (hat2 j _ hv) hsr hb2)
          have HI1 := Lib.hid (HI.out j _ hu _ _ (HR2.out j _ hv))
          have HU := Lib.hid hu
          have HV := Lib.hid hv
          generalize ks[j] = u at *
          generalize ls[j] = v at *
          generalize R j = r1 at *
          generalize R2 j = r2 at *
          obtain ⟨ga3, gc3, da3, dc3⟩ := r1
          obtain ⟨ga4, gc4, da4, dc4⟩ := r2
          have HSR := Lib.hid hsr
          clear hat hat2 hu hv hsr hbel
          have k1 : ∀ n : Later wr, n.u.cell? ⟨w1.heap.size, 3, none⟩ = some (.slice (some ⟨b, o, none⟩) m c) := fun n => (n.h.cell (p := ⟨_, _, none⟩) (by show w1.heap.size < _; omega)).trans hc1
          have k2 : ∀ n : Later wr, n.u.cell? ⟨w1.heap.size + 1, 3, none⟩ = some (.slice (some ⟨b2, o2, none⟩) m c2) := fun n => (n.h.cell (p := ⟨_, _, none⟩) hgt).trans hc2
          have CALL : ∀ n : Later wr, Calls Tryz.prog 20 #[.agg #[.int .i64 u.kind, .string u.text, .slice ga3 u.gaps.length gc3, .slice da3 u.kids.length dc3], .agg #[.int .i64 v.kind, .string v.text, .slice ga4 v.gaps.length gc4, .slice da4 v.kids.length dc4]] n.u fun e w'' => e = .returned (.bool (eqT u v)) ∧ ∃ k : Later wr, w'' = k.u :=
            fun n => (HI1.out n.u (HSR.out.trans (Same.below n.h (fun b hb => by have := hP b hb; omega))) (by have := n.h.size; omega)).mono fun e w'' ⟨he, hw⟩ => ⟨he, ⟨w'', n.h.trans (hw.mono n.h.size)⟩, rfl⟩
          go_wp2_with fail
          clear hc1 hc2
          refine region_later (by kernel_rfl) (by kernel_rfl) ?_
          iterate 4 (go_big_quiet_step (fail))
          refine quiet_load (by rfl) 25 _ (by rfl) (.pointer (some ⟨b, o + j * 4, none⟩)) _ (by rfl) (fun x hx => by obtain ⟨n, rfl⟩ := hx; exact (at4_later A1.out n).load) ?_
          simp only [Act.put, List.setIfInBounds_toArray, List.set_cons_succ, List.set_cons_zero]
          iterate 4 (go_big_quiet_step (fail))
          refine quiet_load (by rfl) 25 _ (by rfl) (.pointer (some ⟨b2, o2 + j * 4, none⟩)) _ (by rfl) (fun x hx => by obtain ⟨n, rfl⟩ := hx; exact (at4_later A2.out n).load) ?_
          simp only [Act.put, List.setIfInBounds_toArray, List.set_cons_succ, List.set_cons_zero]
          go_big_quiet_step (exact CALL _)
          go_big_quiet_step (fail)
          refine wpQuiet_nil ?_
          intro _ hw'
          obtain ⟨n1, rfl⟩ := hw'
          have hsz := n1.h.size
          have HB3 := Lib.hid (HB.out.trans (n1.h.mono (by omega)))
          have q1 := k1 n1
          have q2 := k2 n1
          clear k1 k2 CALL
          cases hZ : eqT u v
          · have HNo := Lib.hid hZ
            clear hZ
            go_wp2_with fail
            go_ret
            exact ⟨ret_bool (eqT_no (fun e => by injection e with _ _ _ e4; subst e4; have e5 := HU.out.symm.trans HV.out; injection e5 with e5; have := eqT_iff.2 e5; rw [HNo.out] at this; cases this)).symm, HB3.out⟩
          · have HYes := Lib.hid (eqT_iff.1 hZ)
            clear hZ
            have Q1 := Lib.hid q1
            have Q2 := Lib.hid q2
            go_wp2_with fail
            exact ⟨⟨j + 1, by omega, by go_num, take_same HE.out HU.out (by rw [HYes.out]; exact HV.out), HB3.out, by omega, Q1.out, Q2.out⟩, by simp [intOf]; omega⟩
        · have hjn : j = m := by omega
          subst hjn
          have HR : Hid (ks = ls) := Lib.hid (by have := HE.out; rw [HN.out, List.take_length, HL.out, List.take_length] at this; exact this)
          clear hbel
          go_wp2_with fail
          go_ret
          exact ⟨ret_bool (eqT_iff.2 (by rw [HR.out])).symm, HB.out⟩
set_option maxHeartbeats 800000 in
set_option maxRecDepth 100000 in
theorem rsame_at {P : Nat → Prop} {w : World} {t : Pl.Tr} {r : Sl} (h : Tin P w t r) (hP : ∀ b, P b → b < w.heap.size) : ∀ (u : Pl.Tr) (q : Sl), Tin P w u q → ∀ w1, Same P w w1 → w.heap.size ≤ w1.heap.size →
    Calls Tryz.prog 22 #[.agg #[.int .i64 t.kind, .string t.text, .slice r.ga t.gaps.length r.gc, .slice r.da t.kids.length r.dc], .agg #[.int .i64 u.kind, .string u.text, .slice q.ga u.gaps.length q.gc, .slice q.da u.kids.length q.dc]] w1 fun e w' => e = .returned (.bool (sameT t u)) ∧ Below w1.heap.size w1 w' := by
  induction h with
  | mk t r R hs hg hl hk hr ih =>
    intro u q hu w1 hsame hge
    cases hu with
    | mk _ _ R2 hs2 hg2 hl2 hk2 hr2 =>
    cases t with
    | node k s g ks =>
    cases u with
    | node k2 s2 g2 ls =>
      obtain ⟨ga, gc, a, c⟩ := r
      obtain ⟨ga2, gc2, a2, c2⟩ := q
      simp only [Pl.Tr.kids, Pl.Tr.gaps, Pl.Tr.text, Pl.Tr.kind] at *
      have HK := Lib.hid hk
      have HK2 := Lib.hid hk2
      have HR2 := Lib.hid hr2
      have HI := Lib.hid ih
      have HS := Lib.hid hsame
      have HG1 := Lib.hid hg
      have HG2 := Lib.hid hg2
      have hgl1 := hg.1
      have hgl2 := hg2.1
      unfold maxLen at hl hl2 hgl1 hgl2
      clear hk hr ih hsame hk2 hr2 hg hg2
      rcases (Classical.em (k = k2)).symm with hkk | hkk
      · obtain ⟨hb1, hb2⟩ := int_ne hkk
        go_enter Tryz.func22, Tryz.ntmps22
        go_wp2_with fail
        go_ret
        exact ⟨ret_bool (sameT_no (fun e => hkk (by rw [Pl.bare, Pl.bare] at e; injection e))).symm, ((Below.refl _ _).alloc (Nat.le_refl _) _).alloc (by simp) _⟩
      subst hkk
      rcases (Classical.em (s = s2)).symm with hss | hss
      · obtain ⟨hb1, hb2⟩ := str_neq hss
        go_enter Tryz.func22, Tryz.ntmps22
        go_wp2_with fail
        go_ret
        exact ⟨ret_bool (sameT_no (fun e => hss (by rw [Pl.bare, Pl.bare] at e; injection e))).symm, ((Below.refl _ _).alloc (Nat.le_refl _) _).alloc (by simp) _⟩
      subst hss
      rcases (Classical.em (ks.length = ls.length)).symm with hnn | hnn
      · have HN2 : Hid (¬ ks.length = ls.length) := Lib.hid hnn
        obtain ⟨n, hn⟩ : ∃ n, n = ks.length := ⟨_, rfl⟩
        obtain ⟨m, hm⟩ : ∃ m, m = ls.length := ⟨_, rfl⟩
        obtain ⟨hb1, hb2⟩ := int_ne (x := (n : Int)) (y := m) (fun e => hnn (by omega))
        rw [← hn] at hl ⊢
        rw [← hm] at hl2 ⊢
        clear hn hm hnn
        go_enter Tryz.func22, Tryz.ntmps22
        go_wp2_with fail
        go_ret
        exact ⟨ret_bool (sameT_no (fun e => HN2.out (by rw [Pl.bare, Pl.bare] at e; injection e with _ _ _ e4; rw [Pl.bares_map, Pl.bares_map] at e4; have := congrArg List.length e4; simpa using this))).symm, ((Below.refl _ _).alloc (Nat.le_refl _) _).alloc (by simp) _⟩
      have HL := Lib.hid hnn
      obtain ⟨n, hn⟩ : ∃ n, n = ks.length := ⟨_, rfl⟩
      obtain ⟨m, hm⟩ : ∃ m, m = n := ⟨_, rfl⟩
      rw [← hnn, ← hn] at hl2 ⊢
      rw [← hn] at hl
      have HN := Lib.hid hn
      clear hn hnn
      subst hm
      go_enter Tryz.func22, Tryz.ntmps22
      go_wp2_with fail
      go_loopw [5] (fun i wr => ∃ j : Nat, j ≤ m ∧ i = .int .i64 j ∧ (ks.take j).map Pl.bare = (ls.take j).map Pl.bare ∧ Below w1.heap.size w1 wr ∧ w1.heap.size + 1 < wr.heap.size ∧ wr.cell? ⟨w1.heap.size, 3, none⟩ = some (.slice a m c) ∧ wr.cell? ⟨w1.heap.size + 1, 3, none⟩ = some (.slice a2 m c2)) (fun i _ => m - (intOf i).toNat)
      case atStart => exact ⟨0, Nat.zero_le _, rfl, rfl, ((Below.refl _ _).alloc (Nat.le_refl _) _).alloc (by simp) _, by simp, by simp, by simp⟩
      case round =>
        obtain ⟨j, hj, rfl, heq, hbel, hgt, hc1, hc2⟩ := hrel
        have HB := Lib.hid hbel
        have HE := Lib.hid heq
        clear heq
        by_cases hlt : j < m
        · have hjk : j < ks.length := by rw [← HN.out]; exact hlt
          have hjl : j < ls.length := by rw [← HL.out]; exact hjk
          have hu := List.getElem?_eq_getElem hjk
          have hv := List.getElem?_eq_getElem hjl
          have hi0 : (0 : Int) ≤ (j : Int) := Int.natCast_nonneg _
          have hi1 : (j : Int) < (m : Int) := by omega
          have hsr : Same P w wr := HS.out.trans (Same.below hbel fun b hb => Nat.lt_of_lt_of_le (hP b hb) hge)
          rcases HK.out with h0 | ⟨b, o, rfl, hb, hat⟩
          · rw [h0] at hjk; simp at hjk
          rcases HK2.out with h0 | ⟨b2, o2, rfl, hb2, hat2⟩
          · rw [h0] at hjl; simp at hjl
          have A1 := Lib.hid (At4.keep (hat j _ hu) hsr hb)
          have A2 := Lib.hid (At4.keep (hat2 j _ hv) hsr hb2)
          have HI1 := Lib.hid (HI.out j _ hu _ _ (HR2.out j _ hv))
          have HU := Lib.hid hu
          have HV := Lib.hid hv
          generalize ks[j] = u at *
          generalize ls[j] = v at *
          generalize R j = r1 at *
          generalize R2 j = r2 at *
          obtain ⟨ga3, gc3, da3, dc3⟩ := r1
          obtain ⟨ga4, gc4, da4, dc4⟩ := r2
          have HSR := Lib.hid hsr
          clear hat hat2 hu hv hsr hbel
          have k1 : ∀ n : Later wr, n.u.cell? ⟨w1.heap.size, 3, none⟩ = some (.slice (some ⟨b, o, none⟩) m c) := fun n => (n.h.cell (p := ⟨_, _, none⟩) (by show w1.heap.size < _; omega)).trans hc1
          have k2 : ∀ n : Later wr, n.u.cell? ⟨w1.heap.size + 1, 3, none⟩ = some (.slice (some ⟨b2, o2, none⟩) m c2) := fun n => (n.h.cell (p := ⟨_, _, none⟩) hgt).trans hc2
          have CALL : ∀ n : Later wr, Calls Tryz.prog 22 #[.agg #[.int .i64 u.kind, .string u.text, .slice ga3 u.gaps.length gc3, .slice da3 u.kids.length dc3], .agg #[.int .i64 v.kind, .string v.text, .slice ga4 v.gaps.length gc4, .slice da4 v.kids.length dc4]] n.u fun e w'' => e = .returned (.bool (sameT u v)) ∧ ∃ k : Later wr, w'' = k.u :=
            fun n => (HI1.out n.u (HSR.out.trans (Same.below n.h (fun b hb => by have := hP b hb; omega))) (by have := n.h.size; omega)).mono fun e w'' ⟨he, hw⟩ => ⟨he, ⟨w'', n.h.trans (hw.mono n.h.size)⟩, rfl⟩
          go_wp2_with fail
          clear hc1 hc2
          refine region_later (by kernel_rfl) (by kernel_rfl) ?_
          iterate 4 (go_big_quiet_step (fail))
          refine quiet_load (by rfl) 25 _ (by rfl) (.pointer (some ⟨b, o + j * 4, none⟩)) _ (by rfl) (fun x hx => by obtain ⟨n, rfl⟩ := hx; exact (at4_later A1.out n).load) ?_
          simp only [Act.put, List.setIfInBounds_toArray, List.set_cons_succ, List.set_cons_zero]
          iterate 4 (go_big_quiet_step (fail))
          refine quiet_load (by rfl) 25 _ (by rfl) (.pointer (some ⟨b2, o2 + j * 4, none⟩)) _ (by rfl) (fun x hx => by obtain ⟨n, rfl⟩ := hx; exact (at4_later A2.out n).load) ?_
          simp only [Act.put, List.setIfInBounds_toArray, List.set_cons_succ, List.set_cons_zero]
          go_big_quiet_step (exact CALL _)
          go_big_quiet_step (fail)
          refine wpQuiet_nil ?_
          intro _ hw'
          obtain ⟨n1, rfl⟩ := hw'
          have hsz := n1.h.size
          have HB3 := Lib.hid (HB.out.trans (n1.h.mono (by omega)))
          have q1 := k1 n1
          have q2 := k2 n1
          clear k1 k2 CALL
          cases hZ : sameT u v
          · have HNo := Lib.hid hZ
            clear hZ
            go_wp2_with fail
            go_ret
            exact ⟨ret_bool (sameT_no (fun e => by rw [Pl.bare, Pl.bare] at e; injection e with _ _ _ e4; rw [Pl.bares_map, Pl.bares_map] at e4; have e5 := congrArg (fun l => l[j]?) e4; simp only [List.getElem?_map, HU.out, HV.out, Option.map_some] at e5; injection e5 with e5; have := sameT_iff.2 e5; rw [HNo.out] at this; cases this)).symm, HB3.out⟩
          · have HYes := Lib.hid (sameT_iff.1 hZ)
            clear hZ
            have Q1 := Lib.hid q1
            have Q2 := Lib.hid q2
            go_wp2_with fail
            exact ⟨⟨j + 1, by omega, by go_num, by rw [List.map_take, List.map_take]; exact take_same (by have := HE.out; rw [List.map_take, List.map_take] at this; exact this) (by rw [List.getElem?_map, HU.out]; rfl) (by rw [List.getElem?_map, HV.out, HYes.out]; rfl), HB3.out, by omega, Q1.out, Q2.out⟩, by simp [intOf]; omega⟩
        · have hjn : j = m := by omega
          subst hjn
          have HR : Hid (ks.map Pl.bare = ls.map Pl.bare) := Lib.hid (by have := HE.out; rw [HN.out, List.take_length, HL.out, List.take_length] at this; exact this)
          clear hbel
          go_wp2_with fail
          go_ret
          exact ⟨ret_bool (sameT_iff.2 (by rw [Pl.bare, Pl.bare, Pl.bares_map, Pl.bares_map, HR.out])).symm, HB.out⟩
end Go.Proofs.YtiaajpdcacdngaaGreatDoor.Li

namespace Go.Proofs.YtiaajpdcacdngaaGreatDoor.Pl
open Go
set_option linter.unusedVariables false
set_option maxRecDepth 100000

/-- The laws' sample trees. -/
def sumT (op : ByteArray) (g h : List ByteArray) : Tr := .node 24 op g [.node 17 ⟨#[49]⟩ [] [], .node 17 ⟨#[50]⟩ h []]
def retT : Tr := .node 12 ⟨#[]⟩ [] [.node 17 ⟨#[49]⟩ [⟨#[]⟩] []]
def plusT : Tr := sumT ⟨#[43]⟩ [⟨#[]⟩] []
def askT : Tr := sumT ⟨#[63]⟩ [] []
def divT : Tr := sumT ⟨#[47]⟩ [] [⟨#[47, 47, 32, 99, 10]⟩]
theorem chk_plus : chk plusT = 0 := by decide +kernel
theorem chk_ret : chk retT = 0 := by decide +kernel
theorem chk_ask : chk askT = 7 := by decide +kernel
theorem chk_div : chk divT = 0 := by decide +kernel
theorem src_plus : mk (source plusT) = ⟨#[49, 43, 32, 50]⟩ := by decide +kernel
theorem src_bare : mk (source (bare plusT)) = ⟨#[49, 32, 43, 32, 50]⟩ := by decide +kernel
theorem src_ret : mk (source retT) = ⟨#[114, 101, 116, 117, 114, 110, 32, 49, 59]⟩ := by decide +kernel
theorem src_div : mk (source divT) = ⟨#[49, 32, 47, 32, 47, 47, 32, 99, 10, 50]⟩ := by decide +kernel
theorem len_plus : (source plusT).length ≤ 65536 := by decide +kernel
theorem len_bare : (source (bare plusT)).length ≤ 65536 := by decide +kernel
theorem len_ret : (source retT).length ≤ 65536 := by decide +kernel
theorem len_div : (source divT).length ≤ 65536 := by decide +kernel
theorem words_plus : words plusT = [⟨#[49]⟩, ⟨#[43]⟩, ⟨#[50]⟩] := by decide +kernel
theorem lay_plus : (layout plusT).gaps = [⟨#[32]⟩] ∧ (layout plusT).kind = 24 ∧ (layout plusT).text = ⟨#[43]⟩ ∧ (layout plusT).kids.length = 2 := by decide +kernel
theorem sz_plus : sz plusT ≤ 100000 := by decide +kernel
theorem sz_ret : sz retT ≤ 100000 := by decide +kernel
theorem sz_div : sz divT ≤ 100000 := by decide +kernel
end Go.Proofs.YtiaajpdcacdngaaGreatDoor.Pl

namespace Go.Proofs.YtiaajpdcacdngaaGreatDoor.Aw
open Go.RowKit
set_option linter.unusedVariables false
set_option linter.unusedSimpArgs false

theorem at4_row {w : World} {b o : Nat} {cs : Array Value} {T : TypeId} {k : Int} {s : ByteArray} {gv kv : Value} (h : w.heap[b]? = some (.cells cs T (0, 0))) (h0 : cs[o]? = some (.int .i64 k)) (h1 : cs[o + 1]? = some (.string s)) (h2 : cs[o + 2]? = some gv) (h3 : cs[o + 3]? = some kv) : At4 w b o k s gv kv := by
  refine ⟨?_, ?_, ?_, ?_⟩
  · rw [cell_of_row _ _ _ _ _ _ h]; exact h0
  · rw [cell_of_row _ _ _ _ _ _ h]; exact h1
  · rw [cell_of_row _ _ _ _ _ _ h]; exact h2
  · rw [cell_of_row _ _ _ _ _ _ h]; exact h3
theorem last2 {w W : World} {o1 o2 : Obj} (h : (w.alloc o1).alloc o2 = W) : W.heap[w.heap.size + 1]? = some o2 ∧ Below w.heap.size w W ∧ W.heap.size = w.heap.size + 1 + 1 := by
  subst h
  refine ⟨?_, (box_below w o1).alloc (by simp) _, by simp⟩
  have := heap_alloc_new (w.alloc o1) o2
  simpa using this
theorem strs_one {P : Nat → Prop} {w : World} {b : Nat} {x : ByteArray} {T : TypeId} (h : w.heap[b]? = some (.cells #[.string x] T (0, 0))) (hx : x.size ≤ 1000) (hb : P b) : Strs P w (some ⟨b, 0, none⟩) [x] := by
  refine ⟨by simp [maxLen], fun y hy => ?_, .inr ⟨b, 0, rfl, hb, fun j y hy => ?_⟩⟩
  · obtain rfl : y = x := by simpa using hy
    unfold maxLen; omega
  · match j, hy with
    | 0, hy =>
      obtain rfl : x = y := by simpa using hy
      rw [cell_of_row _ _ _ _ _ _ h]; rfl
    | j + 1, hy => simp at hy
abbrev one : ByteArray := ⟨#[49]⟩
abbrev two : ByteArray := ⟨#[50]⟩
/-- The row of the sum's kids; the second one has these gaps. -/
abbrev kidsRow (gv : Value) : Array Value := #[.int .i64 17, .string one, .slice none 0 0, .slice none 0 0, .int .i64 17, .string two, gv, .slice none 0 0]
/-- What sum answers. -/
def SumP (op : ByteArray) (w : World) (e : Ending) (w' : World) : Prop :=
  ∃ g, e = .returned (.agg #[.int .i64 24, .string op, .slice none 0 0, .slice (some ⟨g, 0, none⟩) 2 2]) ∧ Below w.heap.size w w' ∧ w.heap.size ≤ g ∧ w'.heap[g]? = some (.cells (kidsRow (.slice none 0 0)) 25 (0, 0))
set_option maxRecDepth 100000 in
theorem sum_any (op : ByteArray) (w : World) :
    Calls Tryz.prog 27 #[.string op] w (SumP op w) := by
  go_enter Tryz.func27, Tryz.ntmps27
  go_wp2_with fail
  refine bodyPost_ret (v := .agg #[.int .i64 24, .string op, .slice none 0 0, .slice (some ⟨w.heap.size + 1, 0, none⟩) 2 2]) (by simp [results, Tryz.results27, go_sem]) rfl ?_
  generalize hW : (World.alloc _ _) = W
  obtain ⟨h1, h2, h3⟩ := last2 hW
  exact ⟨_, rfl, h2, by omega, h1⟩
/-- The sum lies in its row. -/
theorem sum_lies {P : Nat → Prop} {w : World} {g : Nat} {op : ByteArray} {gs hs : List ByteArray} {ga ha : Option Addr} {gc hc : Nat} (ho : op.size ≤ 1000) (hg : Strs P w ga gs) (hh : Strs P w ha hs) (hP : P g) (hr : w.heap[g]? = some (.cells (kidsRow (.slice ha hs.length hc)) 25 (0, 0))) :
    Tin P w (Pl.sumT op gs hs) ⟨ga, gc, some ⟨g, 0, none⟩, 2⟩ := by
  refine .mk _ _ (fun j => if j = 0 then ⟨none, 0, none, 0⟩ else ⟨ha, hc, none, 0⟩) (show op.size ≤ maxLen by unfold maxLen; omega) hg (show 2 ≤ maxLen by decide) (.inr ⟨g, 0, rfl, hP, fun j u hu => ?_⟩) (fun j u hu => ?_)
  · match j, hu with
    | 0, hu => cases hu; exact at4_row hr rfl rfl rfl rfl
    | 1, hu => cases hu; exact at4_row hr rfl rfl rfl rfl
    | j + 2, hu => cases hu
  · match j, hu with
    | 0, hu => cases hu; exact .mk _ _ (fun _ => ⟨none, 0, none, 0⟩) (show 1 ≤ maxLen by decide) (strs_nil _ _ _) (show 0 ≤ maxLen by decide) (.inl rfl) (fun j u h => by cases h)
    | 1, hu => cases hu; exact .mk _ _ (fun _ => ⟨none, 0, none, 0⟩) (show 1 ≤ maxLen by decide) hh (show 0 ≤ maxLen by decide) (.inl rfl) (fun j u h => by cases h)
    | j + 2, hu => cases hu
/-- What is known of the first box. -/
structure K1 (w : World) (b g gs : Nat) (V : World) : Prop where
  low : Below w.heap.size w V
  box : At4 V b 0 24 ⟨#[43]⟩ (.slice (some ⟨gs, 0, none⟩) 1 1) (.slice (some ⟨g, 0, none⟩) 2 2)
  tree : IsT V Pl.plusT ⟨some ⟨gs, 0, none⟩, 1, some ⟨g, 0, none⟩, 2⟩
theorem K1.later {w V V' : World} {b g gs : Nat} (h : K1 w b g gs V) (hb : Below V.heap.size V V') : K1 w b g gs V' :=
  ⟨h.low.trans (hb.mono h.low.size), at4_below h.box hb, h.tree.later hb⟩
theorem k1_new {w w1 : World} {g : Nat} (h : Below w.heap.size w w1) (hr : w1.heap[g]? = some (.cells (kidsRow (.slice none 0 0)) 25 (0, 0))) :
    K1 w w1.heap.size g (w1.heap.size + 1) ((w1.alloc (.cells #[.int .i64 24, .string ⟨#[43]⟩, .slice (some ⟨w1.heap.size + 1, 0, none⟩) 1 1, .slice (some ⟨g, 0, none⟩) 2 2] 25)).alloc (.cells #[.string ⟨#[]⟩] 9)) := by
  have hlt : g < w1.heap.size := (Array.getElem?_eq_some_iff.1 hr).1
  have b1 := box_below w1 (.cells #[.int .i64 24, .string ⟨#[43]⟩, .slice (some ⟨w1.heap.size + 1, 0, none⟩) 1 1, .slice (some ⟨g, 0, none⟩) 2 2] 25)
  have a1 := at4_new w1 24 ⟨#[43]⟩ (.slice (some ⟨w1.heap.size + 1, 0, none⟩) 1 1) (.slice (some ⟨g, 0, none⟩) 2 2)
  have b2 := box_below (w1.alloc (.cells #[.int .i64 24, .string ⟨#[43]⟩, .slice (some ⟨w1.heap.size + 1, 0, none⟩) 1 1, .slice (some ⟨g, 0, none⟩) 2 2] 25)) (.cells #[.string ⟨#[]⟩] 9)
  have e2 := heap_alloc_new (w1.alloc (.cells #[.int .i64 24, .string ⟨#[43]⟩, .slice (some ⟨w1.heap.size + 1, 0, none⟩) 1 1, .slice (some ⟨g, 0, none⟩) 2 2] 25)) (.cells #[.string ⟨#[]⟩] 9)
  rw [show (w1.alloc (.cells #[.int .i64 24, .string ⟨#[43]⟩, .slice (some ⟨w1.heap.size + 1, 0, none⟩) 1 1, .slice (some ⟨g, 0, none⟩) 2 2] 25)).heap.size = w1.heap.size + 1 by simp] at e2
  refine ⟨h.trans ((b1.trans (b2.mono b1.size)).mono h.size), at4_below a1 b2, sum_lies (ha := none) (hc := 0) (by decide) (strs_one e2 (by decide) (by first | (simp; done) | (simp; omega))) (strs_nil _ _ _) (by first | (simp; done) | (simp; omega)) ?_⟩
  rw [b2.block g (by first | (simp; done) | (simp; omega)), b1.block g hlt]
  exact hr
/-- The box of what Layout answered, and the words. -/
structure K2 (w : World) (lb lo bm gb go' gc : Nat) (kv : Value) (V : World) : Prop where
  low : Below w.heap.size w V
  word : V.cell? ⟨lb, lo + 1, none⟩ = some (.string ⟨#[43]⟩)
  box : At4 V bm 0 24 ⟨#[43]⟩ (.slice (some ⟨gb, go', none⟩) 1 gc) kv
  gap : V.cell? ⟨gb, go', none⟩ = some (.string ⟨#[32]⟩)
theorem K2.later {w V V' : World} {lb lo bm gb go' gc : Nat} {kv : Value} (h : K2 w lb lo bm gb go' gc kv V) (hb : Below V.heap.size V V') : K2 w lb lo bm gb go' gc kv V' :=
  ⟨h.low.trans (hb.mono h.low.size), (hb.cell (World.block_lt_of_cell? V _ h.word)).trans h.word, at4_below h.box hb, (hb.cell (World.block_lt_of_cell? V _ h.gap)).trans h.gap⟩
theorem plus_words (ga da : Option Addr) (W : World) (hT : Tabs W) (h : IsT W Pl.plusT ⟨ga, 1, da, 2⟩) :
    Calls Tryz.prog 11 #[.agg #[.int .i64 24, .string ⟨#[43]⟩, .slice ga 1 1, .slice da 2 2]] W fun e w' => ∃ lb lo c, e = .returned (.tuple #[.slice (some ⟨lb, lo, none⟩) 3 c, .int .i64 0]) ∧ w'.cell? ⟨lb, lo + 1, none⟩ = some (.string ⟨#[43]⟩) ∧ Below W.heap.size W w' := by
  refine Calls.mono (words_ok Pl.plusT W ⟨ga, 1, da, 2⟩ 3 hT h Pl.chk_plus Pl.sz_plus (by rw [Pl.words_plus]; rfl)) ?_
  rintro e w' ⟨a, c, rfl, hs, hb⟩
  rw [Pl.words_plus] at hs
  rcases hs.2.2 with h0 | ⟨lb, lo, rfl, -, hat⟩
  · cases h0
  · exact ⟨lb, lo, c, rfl, hat 1 _ rfl, hb⟩
theorem plus_layout (ga da : Option Addr) (W : World) (hT : Tabs W) (h : IsT W Pl.plusT ⟨ga, 1, da, 2⟩) :
    Calls Tryz.prog 18 #[.agg #[.int .i64 24, .string ⟨#[43]⟩, .slice ga 1 1, .slice da 2 2]] W fun e w' => ∃ gb go' gc dva dvc, e = .returned (.tuple #[.agg #[.int .i64 24, .string ⟨#[43]⟩, .slice (some ⟨gb, go', none⟩) 1 gc, .slice dva 2 dvc], .int .i64 0]) ∧ w'.cell? ⟨gb, go', none⟩ = some (.string ⟨#[32]⟩) ∧ Below W.heap.size W w' := by
  refine Calls.mono (layout_ok Pl.plusT W ⟨ga, 1, da, 2⟩ hT h Pl.chk_plus Pl.sz_plus) ?_
  rintro e w' ⟨⟨ga', gc', da', dc'⟩, rfl, ht, hb⟩
  obtain ⟨e1, e2, e3, e4⟩ := Pl.lay_plus
  cases ht with
  | mk _ _ R hs hg hl hk hr =>
    simp only [e1, e2, e3, e4] at hg ⊢
    rcases hg.2.2 with h0 | ⟨gb, go', rfl, -, hat⟩
    · cases h0
    · exact ⟨gb, go', gc', _, _, rfl, hat 0 _ rfl, hb⟩
theorem g9_cell {w : World} {g : Nat} (h : w.heap[g]? = some (.cells (kidsRow (.slice none 0 0)) 25 (0, 0))) (o1 o2 : Obj) :
    ((w.alloc o1).alloc o2).cell? ⟨g, 6, none⟩ = some (.slice none 0 0) ∧ ((w.alloc o1).alloc o2).frozen? ⟨g, 6, none⟩ = false := by
  have hlt : g < w.heap.size := (Array.getElem?_eq_some_iff.1 h).1
  have e : ((w.alloc o1).alloc o2).heap[g]? = some (.cells (kidsRow (.slice none 0 0)) 25 (0, 0)) := (Below.heap_alloc _ _ _ (by simp; omega)).trans ((Below.heap_alloc _ _ _ hlt).trans h)
  refine ⟨by rw [cell_of_row _ _ _ _ _ _ e]; rfl, by simp [World.frozen?, e]⟩
/-- The tree with a remark before its second kid. -/
structure KD (w : World) (lb lo bm gb go' gc : Nat) (kv : Value) (bd g : Nat) (V : World) : Prop where
  k2 : K2 w lb lo bm gb go' gc kv V
  box : At4 V bd 0 24 ⟨#[47]⟩ (.slice none 0 0) (.slice (some ⟨g, 0, none⟩) 2 2)
  tree : IsT V Pl.divT ⟨none, 0, some ⟨g, 0, none⟩, 2⟩
theorem div_made {w V0 V : World} {lb lo bm gb go' gc g : Nat} {kv : Value} (h0 : K2 w lb lo bm gb go' gc kv V0) (hb : Below V0.heap.size V0 V) (hg : V0.heap.size ≤ g) (hr : V.heap[g]? = some (.cells (kidsRow (.slice none 0 0)) 25 (0, 0))) (W10 : World)
    (hW : W10 = V.alloc (.cells #[.int .i64 24, .string ⟨#[47]⟩, .slice none 0 0, .slice (some ⟨g, 0, none⟩) 2 2] 25)) :
    KD w lb lo bm gb go' gc kv V.heap.size g ((W10.alloc (.cells #[.string ⟨#[47, 47, 32, 99, 10]⟩] 9)).setCell ⟨g, 6, none⟩ (.slice (some ⟨W10.heap.size, 0, none⟩) 1 1)) := by
  subst hW
  have hlt : g < V.heap.size := (Array.getElem?_eq_some_iff.1 hr).1
  have b1 := box_below V (.cells #[.int .i64 24, .string ⟨#[47]⟩, .slice none 0 0, .slice (some ⟨g, 0, none⟩) 2 2] 25)
  have a1 := at4_new V 24 ⟨#[47]⟩ (.slice none 0 0) (.slice (some ⟨g, 0, none⟩) 2 2)
  have e1 : (V.alloc (.cells #[.int .i64 24, .string ⟨#[47]⟩, .slice none 0 0, .slice (some ⟨g, 0, none⟩) 2 2] 25)).heap[g]? = some (.cells (kidsRow (.slice none 0 0)) 25 (0, 0)) := (Below.heap_alloc _ _ _ hlt).trans hr
  have z1 : (V.alloc (.cells #[.int .i64 24, .string ⟨#[47]⟩, .slice none 0 0, .slice (some ⟨g, 0, none⟩) 2 2] 25)).heap.size = V.heap.size + 1 := by simp
  generalize V.alloc _ = W10 at *
  have b2 := box_below W10 (.cells #[.string ⟨#[47, 47, 32, 99, 10]⟩] 9)
  have n2 := heap_alloc_new W10 (.cells #[.string ⟨#[47, 47, 32, 99, 10]⟩] 9)
  have e2 : (W10.alloc (.cells #[.string ⟨#[47, 47, 32, 99, 10]⟩] 9)).heap[g]? = some (.cells (kidsRow (.slice none 0 0)) 25 (0, 0)) := (Below.heap_alloc _ _ _ (by omega)).trans e1
  have a2 := at4_below a1 b2
  have z2 : (W10.alloc (.cells #[.string ⟨#[47, 47, 32, 99, 10]⟩] 9)).heap.size = W10.heap.size + 1 := by simp
  have hbw : Below V0.heap.size V0 (W10.alloc (.cells #[.string ⟨#[47, 47, 32, 99, 10]⟩] 9)) := (hb.trans (b1.mono hb.size)).trans (b2.mono (by have := hb.size; omega))
  generalize W10.alloc _ = W11 at *
  have hne : ∀ x, x ≠ g → (W11.setCell ⟨g, 6, none⟩ (.slice (some ⟨W10.heap.size, 0, none⟩) 1 1)).heap[x]? = W11.heap[x]? := fun x hx => Below.heap_setCell _ ⟨g, 6, none⟩ _ x hx
  have zs : (W11.setCell ⟨g, 6, none⟩ (.slice (some ⟨W10.heap.size, 0, none⟩) 1 1)).heap.size = W11.heap.size := by simp
  refine ⟨h0.later (hbw.setCell (p := ⟨g, 6, none⟩) hg _), At4.keep (P := fun x => x ≠ g) a2 (fun x hx => hne x hx) (by omega), ?_⟩
  refine sum_lies (ga := none) (gc := 0) (ha := some ⟨W10.heap.size, 0, none⟩) (hc := 1) (by decide) (strs_nil _ _ _) (strs_one ((hne _ (by omega)).trans n2) (by decide) (by omega)) (by omega) ?_
  simp [World.setCell, Array.getElem?_modify, e2]
theorem ret_tree {w W : World} (h : (w.alloc (.cells #[.string ⟨#[]⟩] 9)).alloc (.cells #[.int .i64 17, .string one, .slice (some ⟨w.heap.size, 0, none⟩) 1 1, .slice none 0 0] 25) = W) :
    Below w.heap.size w W ∧ IsT W Pl.retT ⟨none, 0, some ⟨w.heap.size + 1, 0, none⟩, 1⟩ := by
  subst h
  have b1 := box_below w (.cells #[.string ⟨#[]⟩] 9)
  have e1 := heap_alloc_new w (.cells #[.string ⟨#[]⟩] 9)
  have b2 := box_below (w.alloc (.cells #[.string ⟨#[]⟩] 9)) (.cells #[.int .i64 17, .string one, .slice (some ⟨w.heap.size, 0, none⟩) 1 1, .slice none 0 0] 25)
  have a2 := at4_new (w.alloc (.cells #[.string ⟨#[]⟩] 9)) 17 one (.slice (some ⟨w.heap.size, 0, none⟩) 1 1) (.slice none 0 0)
  rw [show (w.alloc (.cells #[.string ⟨#[]⟩] 9)).heap.size = w.heap.size + 1 by simp] at a2
  refine ⟨b1.trans (b2.mono b1.size), .mk _ _ (fun _ => ⟨some ⟨w.heap.size, 0, none⟩, 1, none, 0⟩) (show 0 ≤ maxLen by decide) (strs_nil _ _ _) (show 1 ≤ maxLen by decide) (.inr ⟨w.heap.size + 1, 0, rfl, by simp, fun j u hu => ?_⟩) (fun j u hu => ?_)⟩
  · match j, hu with
    | 0, hu => cases hu; exact a2
    | j + 1, hu => cases hu
  · match j, hu with
    | 0, hu =>
      cases hu
      refine .mk _ _ (fun _ => ⟨none, 0, none, 0⟩) (show 1 ≤ maxLen by decide) (strs_one ((b2.block w.heap.size (by simp)).trans e1) (by decide) (by first | (simp; done) | (simp; omega))) (show 0 ≤ maxLen by decide) (.inl rfl) (fun j u h => by cases h)
    | j + 1, hu => cases hu
set_option maxHeartbeats 3200000 in
set_option maxRecDepth 100000 in
theorem awake_any (w : World) (hT : Tabs w) : Calls Tryz.prog 10 #[] w fun e w' => e = .returned (.bool true) ∧ Below w.heap.size w w' := by
  have HT := Lib.hid hT
  clear hT
  go_enter Tryz.func10, Tryz.ntmps10
  go_upto_region 3 with (go_at_call 27; (with_reducible refine (sum_any ⟨#[43]⟩ _).mono ?_); rintro e w1 ⟨g1, rfl, hb1, hg1, hr1⟩; have B1 := Lib.hid hb1; have R1 := Lib.hid hr1; clear hb1 hr1)
  have HK := Lib.hid (k1_new B1.out R1.out)
  generalize (World.alloc _ _) = W at HK ⊢
  generalize w1.heap.size = b1 at *
  clear B1 R1 hg1
  obtain ⟨c0, c1, c2, c3⟩ := HK.out.box
  go_upto_region 4 with (go_at_call 11; refine (plus_words _ _ _ (HT.out.later HK.out.low) HK.out.tree).mono ?_; rintro e w2 ⟨lb, lo, lc, rfl, hword, hb2⟩; have HK2 := Lib.hid (HK.out.later hb2); have HW := Lib.hid hword; clear hb2 hword)
  clear c0 c1 c2 c3 HK
  obtain ⟨c0, c1, c2, c3⟩ := HK2.out.box
  go_upto_region 5 with (go_at_call 14; refine (text_ok Pl.plusT _ ⟨some ⟨_, 0, none⟩, 1, some ⟨_, 0, none⟩, 2⟩ ⟨#[49, 43, 32, 50]⟩ (HT.out.later HK2.out.low) HK2.out.tree Pl.chk_plus Pl.sz_plus Pl.len_plus Pl.src_plus).mono ?_; rintro e w3 ⟨rfl, hb3⟩; have HK3 := Lib.hid (HK2.out.later hb3); have HW3 := Lib.hid ((hb3.cell (World.block_lt_of_cell? _ _ HW.out)).trans HW.out); clear hb3)
  clear c0 c1 c2 c3 HK2 HW
  obtain ⟨c0, c1, c2, c3⟩ := HK3.out.box
  go_upto_region 6 with (go_at_call 16; refine (plain_ok Pl.plusT _ ⟨some ⟨_, 0, none⟩, 1, some ⟨_, 0, none⟩, 2⟩ ⟨#[49, 32, 43, 32, 50]⟩ (HT.out.later HK3.out.low) HK3.out.tree Pl.chk_plus Pl.sz_plus Pl.len_bare Pl.src_bare).mono ?_; rintro e w4 ⟨rfl, hb4⟩; have HK4 := Lib.hid (HK3.out.later hb4); have HW4 := Lib.hid ((hb4.cell (World.block_lt_of_cell? _ _ HW3.out)).trans HW3.out); clear hb4)
  clear c0 c1 c2 c3 HK3 HW3
  go_upto_region 7 with (go_at_call 14; obtain ⟨R5b, R5t⟩ := ret_tree (w := w4) rfl; refine (text_ok Pl.retT _ ⟨none, 0, some ⟨_, 0, none⟩, 1⟩ ⟨#[114, 101, 116, 117, 114, 110, 32, 49, 59]⟩ (HT.out.later (HK4.out.later R5b).low) R5t Pl.chk_ret Pl.sz_ret Pl.len_ret Pl.src_ret).mono ?_; rintro e w5 ⟨rfl, hb5⟩; have hb5 := R5b.trans (hb5.mono R5b.size); have HK5 := Lib.hid (HK4.out.later hb5); have HW5 := Lib.hid ((hb5.cell (World.block_lt_of_cell? _ _ HW4.out)).trans HW4.out); clear hb5 R5b R5t)
  clear HK4 HW4
  go_upto_region 8 with (first
    | (go_at_call 14; refine (text_bad Pl.askT _ ⟨none, 0, some ⟨_, 0, none⟩, 2⟩ 7 (HT.out.later HK6.out.low) (sum_lies (ha := none) (hc := 0) (by decide) (strs_nil _ _ _) (strs_nil _ _ _) (Array.getElem?_eq_some_iff.1 R6.out).1 R6.out) Pl.chk_ask (by decide)).mono ?_; rintro e w7 ⟨rfl, hb7⟩; have HK7 := Lib.hid (HK6.out.later hb7); have HW7 := Lib.hid ((hb7.cell (World.block_lt_of_cell? _ _ HW6.out)).trans HW6.out); clear hb7)
    | (go_at_call 27; (with_reducible refine (sum_any ⟨#[63]⟩ _).mono ?_); rintro e w6 ⟨g6, rfl, hb6, hg6, hr6⟩; have R6 := Lib.hid hr6; have HK6 := Lib.hid (HK5.out.later hb6); have HW6 := Lib.hid ((hb6.cell (World.block_lt_of_cell? _ _ HW5.out)).trans HW5.out); clear hb6 hr6 hg6))
  clear HK5 HW5 HK6 HW6 R6
  obtain ⟨c0, c1, c2, c3⟩ := HK7.out.box
  go_upto_region 9 with (go_at_call 18; refine (plus_layout _ _ _ (HT.out.later HK7.out.low) HK7.out.tree).mono ?_; rintro e w8 ⟨gb, go', gc, dva, dvc, rfl, hgap, hb8⟩; have HK8 := Lib.hid (HK7.out.later hb8); have HG8 := Lib.hid hgap; have HW8 := Lib.hid ((hb8.cell (World.block_lt_of_cell? _ _ HW7.out)).trans HW7.out); clear hb8 hgap)
  clear c0 c1 c2 c3 HK7 HW7
  go_upto_region 10 with (go_at_call 27; (with_reducible refine (sum_any ⟨#[47]⟩ _).mono ?_); rintro e w9 ⟨g9, rfl, hb9, hg9, hr9⟩; have R9 := Lib.hid hr9; have B9 := Lib.hid hb9; have G9 := Lib.hid hg9; clear hb9 hr9 hg9)
  have hK9 : K2 w lb lo w8.heap.size gb go' gc (.slice dva 2 dvc) (w8.alloc (.cells #[.int .i64 24, .string ⟨#[43]⟩, .slice (some ⟨gb, go', none⟩) 1 gc, .slice dva 2 dvc] 25)) :=
    ⟨HK8.out.low.trans ((box_below _ _).mono HK8.out.low.size), ((box_below w8 _).cell (World.block_lt_of_cell? _ _ HW8.out)).trans HW8.out, at4_new _ _ _ _ _, ((box_below w8 _).cell (World.block_lt_of_cell? _ _ HG8.out)).trans HG8.out⟩
  have HX := Lib.hid (div_made hK9 B9.out G9.out R9.out _ rfl)
  generalize w8.heap.size = bm at *
  have c3 : (w9.alloc (.cells #[.int .i64 24, .string ⟨#[47]⟩, .slice none 0 0, .slice (some ⟨g9, 0, none⟩) 2 2] 25)).cell? ⟨w9.heap.size, 3, none⟩ = some (.slice (some ⟨g9, 0, none⟩) 2 2) := by simp
  obtain ⟨cq, fq⟩ := g9_cell R9.out (.cells #[.int .i64 24, .string ⟨#[47]⟩, .slice none 0 0, .slice (some ⟨g9, 0, none⟩) 2 2] 25) (.cells #[.string ⟨#[47, 47, 32, 99, 10]⟩] 9)
  generalize hW10 : w9.alloc _ = W10 at *
  generalize w9.heap.size = bd at *
  clear B9 R9 G9 hW10 hK9 HK8 HG8 HW8
  go_upto_region 11 with fail
  generalize (World.setCell _ _ _) = W12 at *
  obtain ⟨c0, c1, c2, c3⟩ := HX.out.box
  go_wp2_with (go_at_call 14; refine (text_ok Pl.divT _ ⟨none, 0, some ⟨_, 0, none⟩, 2⟩ ⟨#[49, 32, 47, 32, 47, 47, 32, 99, 10, 50]⟩ (HT.out.later HX.out.k2.low) HX.out.tree Pl.chk_div Pl.sz_div Pl.len_div Pl.src_div).mono ?_; rintro e w13 ⟨rfl, hb13⟩; have HF := Lib.hid (HX.out.k2.later hb13); clear hb13 c0 c1 c2 c3; have f1 := HF.out.word; obtain ⟨d0, d1, d2, d3⟩ := HF.out.box; have f2 := HF.out.gap)
  go_ret
  exact ⟨rfl, HF.out.low⟩
end Go.Proofs.YtiaajpdcacdngaaGreatDoor.Aw

namespace Go.Proofs.YtiaajpdcacdngaaGreatDoor.Aw
open Go.RowKit
set_option linter.unusedVariables false
set_option linter.unusedSimpArgs false
set_option maxRecDepth 100000

/-- A node as a value. -/
abbrev nv (t : Pl.Tr) (r : Sl) : Value := .agg #[.int .i64 t.kind, .string t.text, .slice r.ga t.gaps.length r.gc, .slice r.da t.kids.length r.dc]
abbrev nb (t : Pl.Tr) (r : Sl) : Obj := .cells #[.int .i64 t.kind, .string t.text, .slice r.ga t.gaps.length r.gc, .slice r.da t.kids.length r.dc] 25
/-- A tree in a box. -/
structure Bx (b : Nat) (t : Pl.Tr) (r : Sl) (V : World) : Prop where
  box : At4 V b 0 t.kind t.text (.slice r.ga t.gaps.length r.gc) (.slice r.da t.kids.length r.dc)
  tree : IsT V t r
theorem Bx.later {b : Nat} {t : Pl.Tr} {r : Sl} {V V' : World} (h : Bx b t r V) (hb : Below V.heap.size V V') : Bx b t r V' := ⟨at4_below h.box hb, h.tree.later hb⟩
theorem bx_new {t : Pl.Tr} {r : Sl} {V : World} (h : IsT V t r) : Bx V.heap.size t r (V.alloc (nb t r)) := ⟨box_at t r V, h.later (box_below _ _)⟩
/-- A world behind the call's first one. -/
structure Lo (w V : World) : Prop where
  low : Below w.heap.size w V
  tabs : Tabs V
theorem Lo.later {w V V' : World} (h : Lo w V) (hb : Below V.heap.size V V') : Lo w V' := ⟨h.low.trans (hb.mono h.low.size), h.tabs.later hb⟩
theorem lo_new {w : World} (h : Tabs w) (o : Obj) : Lo w (w.alloc o) := ⟨box_below w o, h.later (box_below w o)⟩

theorem wts_bare (ks : List Pl.Tr) (h : ∀ u ∈ ks, Pl.wt (Pl.bare u) ≤ Pl.wt u) : Pl.wts (Pl.bares ks) ≤ Pl.wts ks := by
  induction ks with
  | nil => rw [Pl.bares]; exact Nat.le_refl _
  | cons a ks ih =>
    rw [Pl.bares, Pl.wts, Pl.wts]
    have := h a (by simp)
    have := ih fun u hu => h u (by simp [hu])
    omega
theorem wt_bare (t : Pl.Tr) : Pl.wt (Pl.bare t) ≤ Pl.wt t := by
  refine Pl.Tr.ind (M := fun t => Pl.wt (Pl.bare t) ≤ Pl.wt t) ?_ t
  intro k s g ks ih
  rw [Pl.bare, Pl.wt, Pl.wt]
  have := wts_bare ks ih
  simp
  omega
theorem text_len (t : Pl.Tr) (hc : Pl.chk t = 0) (hl : Li.Lit t) : (Pl.source t).length ≤ 65536 :=
  Pl.source_len t (Pl.chk_zero t hc).2.2.2 (Pl.chk_ht t hc (by have := hl.1; omega)) hl.1 hl.2
theorem bare_len (t : Pl.Tr) (hc : Pl.chk t = 0) (hl : Li.Lit t) : (Pl.source (Pl.bare t)).length ≤ 65536 :=
  Pl.source_len _ (Pl.bare_first t (Pl.chk_zero t hc).2.2.2 (by have := hl.1; omega)) (by rw [Pl.bare_ht]; exact Pl.chk_ht t hc (by have := hl.1; omega)) (by rw [Pl.bare_sz]; exact hl.1) (by have := wt_bare t; have := hl.2; omega)
theorem rcheck_is (t : Pl.Tr) (v : Int) (hc : Pl.chk t = v) (hl : Li.Lit t) (w : World) (r : Sl) (h : IsT w t r) :
    Calls Tryz.prog 21 #[nv t r] w fun e w' => e = .returned (.int .i64 v) ∧ Below w.heap.size w w' := by
  rw [← hc, Pl.chk_rchk t (by have := hl.1; omega)]
  exact rcheck_at t w r h
theorem same_is (t u : Pl.Tr) (hs : Pl.bare t = Pl.bare u) (w : World) (r q : Sl) (h : IsT w t r) (k : IsT w u q) :
    Calls Tryz.prog 22 #[nv t r, nv u q] w fun e w' => e = .returned (.bool true) ∧ Below w.heap.size w w' := by
  have := Li.rsame_at h (fun _ h => h) u q k w (Same.refl _ _) (Nat.le_refl _)
  rwa [Li.sameT_iff.2 hs] at this
theorem equal_is (t : Pl.Tr) (w : World) (r q : Sl) (h : IsT w t r) (k : IsT w t q) :
    Calls Tryz.prog 20 #[nv t r, nv t q] w fun e w' => e = .returned (.bool true) ∧ Below w.heap.size w w' := by
  have := Li.requal_at h (fun _ h => h) t q k w (Same.refl _ _) (Nat.le_refl _)
  rwa [Li.eqT_iff.2 rfl] at this
/-- What a call answers that gives a tree and no error. -/
def LayP (T : Pl.Tr) (w : World) (e : Ending) (w' : World) : Prop := ∃ r : Sl, e = .returned (.tuple #[nv T r, .int .i64 0]) ∧ IsT w' T r ∧ Below w.heap.size w w'
/-- What a call answers that gives a string and no error. -/
def StrP (x : ByteArray) (w : World) (e : Ending) (w' : World) : Prop := e = .returned (.tuple #[.string x, .int .i64 0]) ∧ Below w.heap.size w w'
end Go.Proofs.YtiaajpdcacdngaaGreatDoor.Aw
