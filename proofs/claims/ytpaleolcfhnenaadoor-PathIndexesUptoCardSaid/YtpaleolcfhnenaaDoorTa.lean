/- tree.At: the program's copy of a tree in new memory. -/
import Derived.Test.YtpaleolcfhnenaaDoorRRep
import Derived.Deep.OwnRows
import Derived.Laws.CopyOwn
import Derived.Deep.Upon
namespace Go.Proofs.YtpaleolcfhnenaaDoor.Rt.Ta
open Go.RowKit Go.Deep
set_option linter.unusedVariables false
set_option linter.unusedSimpArgs false
set_option maxRecDepth 100000

/-- A node is found, or so many indices are left. -/
def FindP (P : Nat → Prop) (w : World) (t : Pl.Tr) (i : Nat) (w1 : World) (e : Ending) (w' : World) : Prop :=
  Below w1.heap.size w1 w' ∧ ((∃ u r, (Pl.pre t)[i]? = some u ∧ Tin P w u r ∧ e = .returned (.tuple #[.agg #[.int .i64 u.kind, .string u.text, .slice r.ga u.gaps.length r.gc, .slice r.da u.kids.length r.dc], .int .i64 (-1)])) ∨
    (∃ m : Nat, m + Pl.sz t = i ∧ e = .returned (.tuple #[.agg #[.int .i64 0, .string ⟨#[]⟩, .slice none 0 0, .slice none 0 0], .int .i64 m])))
set_option maxHeartbeats 400000 in
theorem find_at {P : Nat → Prop} {w : World} {t : Pl.Tr} {r : Sl} (h : Tin P w t r) (hP : ∀ b, P b → b < w.heap.size) : ∀ w1, Same P w w1 → w.heap.size ≤ w1.heap.size → Pl.sz t ≤ 1000000 → ∀ i : Nat, i ≤ 9223372036854775807 →
    Calls Tryd.prog 61 #[.agg #[.int .i64 t.kind, .string t.text, .slice r.ga t.gaps.length r.gc, .slice r.da t.kids.length r.dc], .int .i64 i] w1 (FindP P w t i w1) := by
  induction h with
  | mk t r R hs hg hl hk hr hcap ih =>
    intro w1 hsame hge hsz i hi
    cases t with
    | node k s g ks =>
      obtain ⟨ga, gc, a, c⟩ := r
      simp only [Pl.Tr.kids, Pl.Tr.gaps, Pl.Tr.text, Pl.Tr.kind] at *
      rw [Pl.sz] at hsz
      unfold maxLen at hl
      rcases Nat.eq_zero_or_pos i with rfl | hi0
      · have HT := Lib.hid (Tin.mk (.node k s g ks) ⟨ga, gc, a, c⟩ R hs hg hl hk hr hcap)
        clear hk hr ih hg hsame
        go_enter Tryd.func61, Tryd.ntmps61
        go_wp2_with fail
        exact bodyPost_ret (v := .tuple #[.agg #[.int .i64 k, .string s, .slice ga g.length gc, .slice a ks.length c], .int .i64 (-1)]) (by simp [results, Tryd.results61, go_sem]) rfl
          ⟨((Below.refl _ _).alloc (Nat.le_refl _) _).alloc (by simp) _, .inl ⟨_, _, rfl, HT.out, rfl⟩⟩
      · obtain ⟨n, hn⟩ : ∃ n, n = ks.length := ⟨_, rfl⟩
        rw [← hn] at hl ⊢
        have HN := Lib.hid hn
        have HK := Lib.hid hk
        have HI := Lib.hid ih
        have HR := Lib.hid hr
        have HS := Lib.hid hsame
        have hz0 : Pl.szs (ks.take 0) = 0 := by simp [Pl.szs]
        have HZ := Lib.hid hz0
        have hib : ((i : Int) == 0) = false := by simp; omega
        clear hn hk hg hr ih hsame hz0
        go_enter Tryd.func61, Tryd.ntmps61
        go_wp2_with fail
        go_loopw [1, 17] (fun x y wr => ∃ j m : Nat, j ≤ n ∧ y = .int .i64 j ∧ x = .int .i64 m ∧ m + Pl.szs (ks.take j) + 1 = i ∧ Below w1.heap.size w1 wr ∧ w1.heap.size + 1 < wr.heap.size ∧
          wr.heap[w1.heap.size + 1]? = some (.cells #[.int .i64 0, .string ⟨#[]⟩, .slice none 0 0, .slice none 0 0] 25 (0, 0))) (fun _ y _ => n - (intOf y).toNat)
        case atStart => exact ⟨0, i - 1, Nat.zero_le _, rfl, by congr 1; omega, by rw [HZ.out]; omega, ((Below.refl _ _).alloc (Nat.le_refl _) _).alloc (by simp) _, by simp, by have := heap_alloc_new (w1.alloc (.cells #[.int .i64 k, .string s, .slice ga g.length gc, .slice a n c] 25)) (.cells #[.int .i64 0, .string ⟨#[]⟩, .slice none 0 0, .slice none 0 0] 25); simpa using this⟩
        case round =>
          obtain ⟨j, m, hj, rfl, rfl, hm, hbel, hgt, hblk⟩ := hrel
          have HB := Lib.hid hbel
          by_cases hlt : j < n
          · have hjk : j < ks.length := by rw [← HN.out]; exact hlt
            have hu := List.getElem?_eq_getElem hjk
            have hstep := Pl.szs_step ks j hjk
            have HT := Lib.hid (Pl.szs_take ks j hjk)
            have HPK := Lib.hid (Pl.pres_kid ks j hjk)
            have hsr : Same P w wr := HS.out.trans (Same.below hbel fun b hb => Nat.lt_of_lt_of_le (hP b hb) hge)
            rcases HK.out with h0 | ⟨b, o, rfl, hb, hat⟩
            · rw [h0] at hjk; simp at hjk
            · have l1 := Lib.hid (At4.keep (hat j _ hu) hsr hb).range
              have HI1 := Lib.hid (HI.out j _ hu)
              generalize ks[j] = u at *
              generalize R j = r1 at *
              obtain ⟨ga1, gc1, da1, dc1⟩ := r1
              have hms : Pl.sz u ≤ 1000000 := by omega
              have hmi : m ≤ 9223372036854775807 := by omega
              have HM := Lib.hid hm
              have HSR := Lib.hid hsr
              have hgr := hbel.size
              have HBL := Lib.hid hblk
              clear hat hm hu hsr hbel hstep hblk
              go_wp2_with (first
                | (refine wpList_load_mid rfl 25 _ rfl b (o + j * 4) rfl [.int .i64 u.kind, .string u.text, .slice ga1 u.gaps.length gc1, .slice da1 u.kids.length dc1] _ l1.out Tryd.underlying25 rfl sizeN ?_)
                | (go_at_call 61; refine (HI1.out _ (same_box2 HSR.out hP (by omega)) (by simp; omega) hms m hmi).mono ?_; rintro e w2 ⟨hb2, ⟨v, r2, hv, hr2, rfl⟩ | ⟨q, hq, rfl⟩⟩ <;> (obtain ⟨_, hb8, hb5, hz2⟩ := two_after hb2; have hb4 := (hb5.block (w1.heap.size + 1) hgt).trans HBL.out; have HB2 := Lib.hid hb5; obtain ⟨⟨x0, x1, x2, x3⟩, y0, y1, y2, y3⟩ := blk_cells hb8; obtain ⟨⟨p0, p1, p2, p3⟩, z0, z1, z2, z3⟩ := blk_cells hb4; have HB8 := Lib.hid hb8; have HB4 := Lib.hid hb4; clear hb8 hb4 hb2 hb5 l1)))
              · have hpv : (Pl.pre (.node k s g ks))[i]? = some v := by
                  have hmu : m < Pl.sz u := by
                    rw [← Pl.pre_len]; exact (List.getElem?_eq_some_iff.1 hv).1
                  rw [show i = (Pl.szs (ks.take j) + m) + 1 from by have := HM.out; omega, Pl.pre_succ]
                  exact (HPK.out m hmu).trans hv
                exact bodyPost_ret (v := .tuple #[.agg #[.int .i64 v.kind, .string v.text, .slice r2.ga v.gaps.length r2.gc, .slice r2.da v.kids.length r2.dc], .int .i64 (-1)]) (by simp [results, Tryd.results61, go_sem, p0, p1, p2, p3]) rfl
                  ⟨below_set4 (below_set4 (HB.out.trans (HB2.out.mono hgr)) (by omega)) (by omega), .inl ⟨v, r2, hpv, hr2, rfl⟩⟩
              · refine ⟨⟨j + 1, q, by omega, by go_num, rfl, by have := HM.out; have := HT.out; omega, below_set4 (HB.out.trans (HB2.out.mono hgr)) (by omega), by simp; omega, ?_⟩, by simp [intOf]; omega⟩
                exact (heap_set4 (by simp; omega)).trans HB4.out
          · have hjn : j = n := by omega
            subst hjn
            have HRes : Hid (m + Pl.sz (.node k s g ks) = i) := Lib.hid (by rw [HN.out, List.take_length] at hm; rw [Pl.sz]; omega)
            obtain ⟨⟨p0, p1, p2, p3⟩, z0, z1, z2, z3⟩ := blk_cells hblk
            clear hm hbel hblk
            go_wp2_with fail
            exact bodyPost_ret (v := .tuple #[.agg #[.int .i64 0, .string ⟨#[]⟩, .slice none 0 0, .slice none 0 0], .int .i64 m]) (by simp [results, Tryd.results61, go_sem, p0, p1, p2, p3]) rfl
              ⟨below_set4 HB.out (by omega), .inr ⟨m, HRes.out, rfl⟩⟩

theorem infoS : (Tryd.prog.info? 9).map (fun i => (i.zero, i.size, i.bytes)) = some (some (.string ⟨#[]⟩), 1, 16) := by kernel_rfl
theorem sizeS : (Tryd.prog.info? 9).map (·.size) = some 1 := by kernel_rfl
/-- Strings in new memory. -/
def TextsP (xs : List ByteArray) (w1 : World) (e : Ending) (w' : World) : Prop :=
  ∃ b, e = .returned (.slice (some ⟨b, 0, none⟩) xs.length xs.length) ∧ b = w1.heap.size ∧ Strs (fun x => x = b) w' (some ⟨b, 0, none⟩) xs ∧ Below w1.heap.size w1 w' ∧ b < w'.heap.size
theorem splice_all {α : Type} (a b : List α) (h : a.length = b.length) : splice a 0 b = b := by
  unfold splice
  rw [List.take_zero, Nat.zero_add, List.drop_of_length_le (by omega)]; simp
set_option maxHeartbeats 400000 in
theorem texts_any {P : Nat → Prop} {w1 : World} (a : Option Addr) (c : Nat) (xs : List ByteArray) (h : Strs P w1 a xs) (hn : xs.length ≤ 1099511627776) :
    Calls Tryd.prog 73 #[.slice a xs.length c] w1 (TextsP xs w1) := by
  have hmk := run_make_row' (P := Tryd.prog) 22 9 (.string ⟨#[]⟩) 16 Tryd.underlying22 infoS rfl .i64 .i64 xs.length (by omega) (by omega)
  have HX := Lib.hid h
  have hlen : ((xs.map Value.string).length) = xs.length := List.length_map _
  have HL := Lib.hid hlen
  clear h hlen
  go_enter Tryd.func73, Tryd.ntmps73
  go_wp2_with (refine wpList_copy_splice rfl _ _ 22 22 rfl 9 Tryd.underlying22 sizeS _ _ _ _ _ _ rfl rfl w1.heap.size 0 (madeCells #[.string ⟨#[]⟩] xs.length).toList 9 (by simpa using heap_alloc_new _ _) (xs.map Value.string) (by simp) ?hpos (by simp [size_madeCells]) (by simp [Value.oneCell']) w1.heap.size w1 ((Below.refl _ _).alloc (Nat.le_refl _) _) (Nat.le_refl _) ?next)
  case hpos =>
    intro h0
    rcases HX.out.2.2 with h1 | ⟨b, o, rfl, _, hat⟩
    · rw [h1] at h0; cases h0
    · refine ⟨_, rfl, fun j v hv => ?_⟩
      rw [Addr.add_mid]
      have hc := hat j v hv
      have hlt := World.block_lt_of_cell? w1 _ hc
      exact (World.cell?_of_block (w := w1) (a := ⟨b, o + j, none⟩) (Below.heap_alloc _ _ _ hlt)).trans hc
  case next =>
    intro w2 hblk hb
    have HB := Lib.hid hb
    clear hb
    go_wp2_with fail
    go_ret
    have hblk2 := hblk.out
    rw [splice_all _ _ (by simp [size_madeCells])] at hblk2
    refine ⟨_, rfl, rfl, ⟨HX.out.1, HX.out.2.1, .inr ⟨_, 0, rfl, rfl, fun j x hx => ?_⟩⟩, HB.out, lt_of_block hblk2⟩
    rw [cell_of_row _ _ _ _ _ _ hblk2]
    simp [hx]
/-- Some cells of one block have been written, from an offset on. -/
structure Wrote (w w' : World) (b o : Nat) (vs : List Value) : Prop where
  os : w'.os = w.os
  tape : w'.tape = w.tape
  output : w'.output = w.output
  size : w'.heap.size = w.heap.size
  other : ∀ x, x ≠ b → w'.heap[x]? = w.heap[x]?
  here : w'.rangeAt b o vs
  apart : ∀ o' cs, o' + cs.length ≤ o ∨ o + vs.length ≤ o' → w.rangeAt b o' cs → w'.rangeAt b o' cs
  there : ∀ o' n, w.there b o' n → w'.there b o' n
theorem wrote_setCells (w : World) (b : Nat) : ∀ (vs : List Value) (o : Nat), (w.setCells b o vs).os = w.os ∧ (w.setCells b o vs).tape = w.tape ∧ (w.setCells b o vs).output = w.output ∧ (w.setCells b o vs).heap.size = w.heap.size ∧ ∀ x, x ≠ b → (w.setCells b o vs).heap[x]? = w.heap[x]? := by
  intro vs
  induction vs generalizing w with
  | nil => intro o; exact ⟨rfl, rfl, rfl, rfl, fun _ _ => rfl⟩
  | cons v vs ih =>
    intro o
    obtain ⟨h1, h2, h3, h4, h5⟩ := ih (w.setCell ⟨b, o, none⟩ v) (o + 1)
    exact ⟨h1, h2, h3, h4.trans (by simp [World.setCell]), fun x hx => (h5 x hx).trans (Below.heap_setCell _ _ _ _ hx)⟩
theorem wrote_mk (w : World) (b o : Nat) (vs : List Value) (ht : w.there b o vs.length) : Wrote w (w.setCells b o vs) b o vs := by
  obtain ⟨h1, h2, h3, h4, h5⟩ := wrote_setCells w b vs o
  exact ⟨h1, h2, h3, h4, h5, World.rangeAt_setCells_same w b o vs ht, fun o' cs hap h => World.rangeAt_setCells_apart h b o vs (.inr hap), fun o' n h => World.there_setCells h b o vs⟩
theorem Wrote.below {w w' w0 : World} {b o B : Nat} {vs : List Value} (h : Wrote w w' b o vs) (hb : Below B w0 w) (hB : B ≤ b) : Below B w0 w' :=
  hb.trans ⟨h.os, h.tape, h.output, by rw [h.size]; exact Nat.le_refl _, fun x hx => h.other x (by omega)⟩
theorem Wrote.same {w w' : World} {b o : Nat} {vs : List Value} {P : Nat → Prop} (h : Wrote w w' b o vs) (hP : ∀ x, P x → x ≠ b) : Same P w w' := fun x hx => h.other x (hP x hx)
/-- A node is stored. -/
theorem wpList_store4 {ops : Array Oper} {rest : List Oper} {op : Oper} {a : Act} {w : World} {Q : Exit → Act → World → Prop} (hgd : op.guard = none) (x y : Operand) (ho : op.op = .store 25 x y)
    (b o : Nat) (k : Int) (s : ByteArray) (ga da : Option Addr) (gn gc dn dc : Nat) (hx : a.eval x = .pointer (some ⟨b, o, none⟩)) (hy : a.eval y = .agg #[.int .i64 k, .string s, .slice ga gn gc, .slice da dn dc])
    (ht : w.there b o 4)
    (h : ∀ w', Wrote w w' b o [.int .i64 k, .string s, .slice ga gn gc, .slice da dn dc] → wpList Tryd.prog ops Q rest (a.put op.dst undef) w') : wpList Tryd.prog ops Q (op :: rest) a w :=
  wpList_store_mid hgd 25 x y ho b o _ hx hy ht sizeN (by simp [Value.oneCell']) (h _ (wrote_mk w b o _ ht))
theorem at4_of_range {w : World} {b o : Nat} {k : Int} {s : ByteArray} {gv kv : Value} (h : w.rangeAt b o [.int .i64 k, .string s, gv, kv]) : At4 w b o k s gv kv :=
  ⟨h 0 _ rfl, h 1 _ rfl, h 2 _ rfl, h 3 _ rfl⟩
/-- A block of cells, none of them frozen, is there. -/
theorem there_block {w : World} {b : Nat} {cs : Array Value} {T : TypeId} (h : w.heap[b]? = some (.cells cs T (0, 0))) (o n : Nat) (hn : o + n ≤ cs.size) : w.there b o n := by
  intro j hj
  refine ⟨?_, by simp [World.frozen?, h]⟩
  rw [cell_of_row _ _ _ _ _ _ h, Array.getElem?_eq_getElem (by omega)]; rfl
theorem there_keep {w w' : World} {b o n : Nat} (h : w.there b o n) (hb : w'.heap[b]? = w.heap[b]?) : w'.there b o n := by
  intro j hj
  obtain ⟨h1, h2⟩ := h j hj
  exact ⟨by rw [World.cell?_of_block (w := w) (a := ⟨b, o + j, none⟩) hb]; exact h1, by rw [World.frozen?_of_block (w := w) (a := ⟨b, o + j, none⟩) hb]; exact h2⟩
theorem there_sub {w : World} {b o n : Nat} (h : w.there b 0 n) (m : Nat) (hn : o + m ≤ n) : w.there b o m := by
  intro j hj
  have := h (o + j) (by omega)
  rw [Nat.zero_add] at this
  exact this
theorem infoN : (Tryd.prog.info? 25).map (fun i => (i.zero, i.size, i.bytes)) = some (some (.agg #[.int .i64 0, .string ⟨#[]⟩, .slice none 0 0, .slice none 0 0]), 4, 72) := by kernel_rfl
/-- make of nodes, for every world. -/
theorem make_nodes (n : Nat) (hn : n ≤ 1099511627776) (w : World) :
    (Instr.makeSlice 23 (.int .i64 (n : Int)) (.int .i64 (n : Int))).run Tryd.prog w = .ok (.slice (some ⟨w.heap.size, 0, none⟩) n n) (w.alloc (.cells (madeCells #[.int .i64 0, .string ⟨#[]⟩, .slice none 0 0, .slice none 0 0] (n * 4)) 25)) := by
  obtain ⟨i, hi, hzz⟩ := Option.map_eq_some_iff.1 infoN
  simp only [Prod.mk.injEq] at hzz
  obtain ⟨hz, hs, hb⟩ := hzz
  have h := run_make (P := Tryd.prog) w 23 25 i _ Tryd.underlying23 hi hz .i64 .i64 n n (by omega) (Int.le_refl _) (by rw [hb]; omega) (by omega)
  have e : (Value.agg #[.int .i64 0, .string ⟨#[]⟩, .slice none 0 0, .slice none 0 0]).cells = #[.int .i64 0, .string ⟨#[]⟩, .slice none 0 0, .slice none 0 0] := by simp [Value.cells]
  rw [hs, e, Int.toNat_natCast] at h
  exact h
/-- A tree in new memory. -/
def CopyP (t : Pl.Tr) (w1 : World) (e : Ending) (w' : World) : Prop :=
  ∃ r : Sl, e = .returned (.agg #[.int .i64 t.kind, .string t.text, .slice r.ga t.gaps.length r.gc, .slice r.da t.kids.length r.dc]) ∧ Tin (fun b => w1.heap.size ≤ b ∧ b < w'.heap.size) w' t r ∧ Below w1.heap.size w1 w'
/-- The kids in new memory. -/
def EachP (f : Pl.Tr → Pl.Tr) (ks : List Pl.Tr) (w1 : World) (e : Ending) (w' : World) : Prop :=
  ∃ (b : Nat) (R : Nat → Sl), e = .returned (.slice (some ⟨b, 0, none⟩) ks.length ks.length) ∧ b = w1.heap.size ∧ (∀ (j : Nat) u, ks[j]? = some u → AtT w' b (j * 4) (f u) (R j) ∧ Tin (fun x => w1.heap.size ≤ x ∧ x < w'.heap.size) w' (f u) (R j)) ∧ Below w1.heap.size w1 w' ∧ b < w'.heap.size
theorem below_size {B : Nat} {w w' : World} (h : Below B w w') : w.heap.size ≤ w'.heap.size := h.size
set_option maxHeartbeats 800000 in
theorem each_copy {P : Nat → Prop} {w : World} (hP : ∀ b, P b → b < w.heap.size) (ks : List Pl.Tr) (a : Option Addr) (c : Nat) (R : Nat → Sl) (hl : ks.length ≤ 1099511627776) (hk : Lies P w ks a R)
    (hc : ∀ (j : Nat) u, ks[j]? = some u → ∀ w1, Same P w w1 → w.heap.size ≤ w1.heap.size → Calls Tryd.prog 62 #[.agg #[.int .i64 u.kind, .string u.text, .slice (R j).ga u.gaps.length (R j).gc, .slice (R j).da u.kids.length (R j).dc]] w1 (CopyP u w1))
    (w1 : World) (hsame : Same P w w1) (hge : w.heap.size ≤ w1.heap.size) :
    Calls Tryd.prog 74 #[.slice a ks.length c, .func (.func 62) #[] #[]] w1 (EachP id ks w1) := by
  have HK := Lib.hid hk
  have HF := Lib.hid hc
  have HS := Lib.hid hsame
  clear hk hc hsame
  obtain ⟨n, hn⟩ : ∃ n, n = ks.length := ⟨_, rfl⟩
  rw [← hn] at hl
  have HN := Lib.hid hn
  have hargs : (#[.slice a ks.length c, .func (.func 62) #[] #[]] : Array Value) = #[.slice a n c, .func (.func 62) #[] #[]] := by rw [hn]
  rw [hargs]
  clear hn hargs
  have hmk := make_nodes n hl
  go_enter Tryd.func74, Tryd.ntmps74
  go_wp2_with fail
  clear hmk
  go_loopw [13] (fun i wr => ∃ (j : Nat) (R2 : Nat → Sl), j ≤ n ∧ i = .int .i64 j ∧ Below w1.heap.size w1 wr ∧ w1.heap.size < wr.heap.size ∧ wr.there w1.heap.size 0 (n * 4) ∧
    (∀ (q : Nat) u, q < j → ks[q]? = some u → AtT wr w1.heap.size (q * 4) u (R2 q) ∧ Tin (fun x => w1.heap.size < x ∧ x < wr.heap.size) wr u (R2 q))) (fun i _ => n - (intOf i).toNat)
  case atStart => exact ⟨0, fun _ => ⟨none, 0, none, 0⟩, Nat.zero_le _, rfl, (Below.refl _ _).alloc (Nat.le_refl _) _, by simp, there_block (heap_alloc_new _ _) 0 _ (by simp [size_madeCells]), fun q u hq => by omega⟩
  case round =>
    obtain ⟨j, R2, hj, rfl, hbel, hgt, hth, hall⟩ := hrel
    have HB := Lib.hid hbel
    have HTh := Lib.hid hth
    have HA := Lib.hid hall
    clear hth hall
    by_cases hlt : j < n
    · have hjk : j < ks.length := by rw [← HN.out]; exact hlt
      have hu := List.getElem?_eq_getElem hjk
      have hsr : Same P w wr := HS.out.trans (Same.below hbel fun b hb => Nat.lt_of_lt_of_le (hP b hb) hge)
      rcases HK.out with h0 | ⟨b, o, rfl, hb, hat⟩
      · rw [h0] at hjk; simp at hjk
      have l1 := Lib.hid (At4.keep (hat j _ hu) hsr hb).range
      have HI1 := Lib.hid (HF.out j _ hu)
      have HU := Lib.hid hu
      generalize ks[j] = u at *
      generalize R j = r1 at *
      obtain ⟨ga1, gc1, da1, dc1⟩ := r1
      have HSR := Lib.hid hsr
      have hgr := hbel.size
      clear hat hu hsr hbel
      go_wp2_with (first
        | (refine wpList_load_mid rfl 25 _ rfl b (o + j * 4) rfl [.int .i64 u.kind, .string u.text, .slice ga1 u.gaps.length gc1, .slice da1 u.kids.length dc1] _ l1.out Tryd.underlying25 rfl sizeN ?_)
        | (refine wpList_store4 rfl (.tmp 23) (.tmp 22) rfl w1.heap.size (j * 4) _ _ _ _ _ _ _ _ rfl rfl HTh2.out ?_; intro w3 hw3; have HW3 := Lib.hid hw3; clear hw3)
        | (go_at_call 62; refine (HI1.out _ (HSR.out.trans (Same.below ((Below.refl _ _).alloc (Nat.le_refl _) _) (fun b hb => by have := hP b hb; omega))) (by simp; omega)).mono ?_; rintro e w2 ⟨⟨ga2, gc2, da2, dc2⟩, rfl, ht2, hb2⟩; have hz2 := hb2.size; simp at hz2; have HT2 := Lib.hid ht2; have HB2 := Lib.hid hb2; have HTh2 := Lib.hid (there_sub (there_keep HTh.out ((hb2.block w1.heap.size (by simp; omega)).trans (Below.heap_alloc _ _ _ hgt))) (o := j * 4) 4 (by omega)); clear ht2 hb2 l1))
      have hlow : Below w1.heap.size w1 w2 := (HB.out.alloc (by omega) _).trans (HB2.out.mono (by simp; omega))
      have hkeep : Same (fun x => w1.heap.size < x ∧ x < wr.heap.size) wr w3 :=
        (Same.below (((Below.refl _ _).alloc (Nat.le_refl _) _).trans (HB2.out.mono (by simp))) (fun x hx => hx.2)).trans (HW3.out.same fun x hx => by omega)
      refine ⟨⟨j + 1, fun q => if q = j then ⟨ga2, gc2, da2, dc2⟩ else R2 q, by omega, by go_num, HW3.out.below hlow (Nat.le_refl _), by rw [HW3.out.size]; omega, ?_, fun q v hq hv => ?_⟩, by simp [intOf]; omega⟩
      · refine HW3.out.there _ _ ?_
        exact there_keep HTh.out ((HB2.out.block w1.heap.size (by simp; omega)).trans (Below.heap_alloc _ _ _ hgt))
      · by_cases hqj : q = j
        · subst hqj
          obtain rfl : u = v := Option.some.inj (HU.out.symm.trans hv)
          simp only [if_pos]
          refine ⟨at4_of_range HW3.out.here, ?_⟩
          exact HT2.out.keep (HW3.out.same fun x hx => by simp at hx; omega) fun x hx => by rw [HW3.out.size]; simp at hx; omega
        · simp only [if_neg hqj]
          obtain ⟨h1, h2⟩ := HA.out q v (by omega) hv
          refine ⟨at4_of_range (HW3.out.apart _ _ (by simp; omega) ?_), h2.keep hkeep fun x hx => by rw [HW3.out.size]; omega⟩
          exact (At4.keep (P := fun x => x = w1.heap.size) h1 (fun x hx => by subst hx; exact (HB2.out.block _ (by simp; omega)).trans (Below.heap_alloc _ _ _ hgt)) rfl).range
    · have hjn : j = n := by omega
      subst hjn
      have HB1 := Lib.hid hbel
      clear hbel
      go_wp2_with fail
      go_ret
      exact ⟨w1.heap.size, R2, by rw [← HN.out]; rfl, rfl, fun q u hu => ⟨(HA.out q u (by rw [HN.out]; exact (List.getElem?_eq_some_iff.1 hu).1) hu).1, (HA.out q u (by rw [HN.out]; exact (List.getElem?_eq_some_iff.1 hu).1) hu).2.keep (Same.refl _ _) fun x hx => by omega⟩, HB1.out, hgt⟩
set_option maxHeartbeats 800000 in
set_option maxRecDepth 100000 in
theorem copy_at {P : Nat → Prop} {w : World} {t : Pl.Tr} {r : Sl} (h : Tin P w t r) (hP : ∀ b, P b → b < w.heap.size) : ∀ w1, Same P w w1 → w.heap.size ≤ w1.heap.size → (∀ x ∈ Pl.pre t, x.gaps.length ≤ 1048576) → Pl.sz t ≤ 1000000 →
    Calls Tryd.prog 62 #[.agg #[.int .i64 t.kind, .string t.text, .slice r.ga t.gaps.length r.gc, .slice r.da t.kids.length r.dc]] w1 (CopyP t w1) := by
  induction h with
  | mk t r R hs hg hl hk hr hcap ih =>
    intro w1 hsame hge hgap hsz
    cases t with
    | node k s g ks =>
      obtain ⟨ga, gc, a, c⟩ := r
      simp only [kids_node, gaps_node, text_node, kind_node] at *
      rw [Pl.sz] at hsz
      have hlen := Pl.len_szs ks
      have hg1 : g.length ≤ 1048576 := hgap (.node k s g ks) (by rw [Pl.pre]; exact List.mem_cons_self ..)
      have HE := Lib.hid (fun w1 hs hge => each_copy hP ks a c R (by omega) hk (fun j u hu w1 hs hge => ih j u hu w1 hs hge (fun x hx => hgap x (by rw [Pl.pre]; exact List.mem_cons_of_mem _ (Pl.mem_pres (List.mem_of_getElem? hu) hx))) (by have := Pl.sz_mem (List.mem_of_getElem? hu); omega)) w1 hs hge)
      have HT := Lib.hid (fun (w1 : World) (hs : Same P w w1) => texts_any (w1 := w1) ga gc g (hg.keep hs (fun _ h => h)) (by omega))
      have HS := Lib.hid hsame
      have HG := Lib.hid hg
      have HGap := Lib.hid hgap
      clear hg hk hr ih hsame hgap hlen
      go_enter Tryd.func62, Tryd.ntmps62
      go_wp2_with fail
      obtain ⟨W, hW⟩ : ∃ W, W = (w1.alloc (.cells #[.int .i64 k, .string s, .slice ga g.length gc, .slice a ks.length c] 25)).alloc (.cells #[.int .i64 0, .string ⟨#[]⟩, .slice none 0 0, .slice none 0 0] 25) := ⟨_, rfl⟩
      rw [← hW]
      obtain ⟨hb1, hb2, hlow, hz⟩ := two_after (w := w1) (w2 := W) (by rw [← hW]; exact Below.refl _ _)
      obtain ⟨⟨c0, c1, c2, c3⟩, _⟩ := blk_cells hb1
      have HB2 := Lib.hid hb2
      have HLow := Lib.hid hlow
      clear hW hb1 hb2 hlow
      have d0 : W.drew.cell? ⟨w1.heap.size, 0, none⟩ = some (.int .i64 k) := c0
      have d1 : W.drew.cell? ⟨w1.heap.size, 1, none⟩ = some (.string s) := c1
      have d2 : W.drew.cell? ⟨w1.heap.size, 2, none⟩ = some (.slice ga g.length gc) := c2
      have d3 : W.drew.cell? ⟨w1.heap.size, 3, none⟩ = some (.slice a ks.length c) := c3
      go_region_held3 (fun w' => w'.cell? ⟨w1.heap.size, 0, none⟩ = some (.int .i64 k) ∧ w'.cell? ⟨w1.heap.size, 1, none⟩ = some (.string s) ∧ w'.cell? ⟨w1.heap.size, 2, none⟩ = some (.slice ga g.length gc) ∧ w'.cell? ⟨w1.heap.size, 3, none⟩ = some (.slice a ks.length c))
        (first
          | with_reducible exact ⟨d0, d1, d2, d3⟩
          | with_reducible exact ⟨q0, q1, q2, q3⟩
          | with_reducible exact ⟨r0, r1, r2, r3⟩
          | go_keep)
        ((first
          | (go_at_call 73; refine (HT.out W.drew (HS.out.trans (Same.below HLow.out.drew fun b hb => Nat.lt_of_lt_of_le (hP b hb) hge))).mono ?_; rintro e w2 ⟨b2, rfl, hb, hst, hbel', hlt⟩;
             have hbel : Below W.heap.size W w2 := (Below.refl _ W).drew.trans hbel';
             have q0 := (hbel.cell (p := ⟨w1.heap.size, 0, none⟩) (by show w1.heap.size < _; omega)).trans c0;
             have q1 := (hbel.cell (p := ⟨w1.heap.size, 1, none⟩) (by show w1.heap.size < _; omega)).trans c1;
             have q2 := (hbel.cell (p := ⟨w1.heap.size, 2, none⟩) (by show w1.heap.size < _; omega)).trans c2;
             have q3 := (hbel.cell (p := ⟨w1.heap.size, 3, none⟩) (by show w1.heap.size < _; omega)).trans c3;
             have hz2 := hbel.size;
             have HBel := Lib.hid hbel;
             have HST := Lib.hid hst;
             have HBe := Lib.hid hb;
             clear hbel hbel' hst hb)
          | (go_at_call 74; refine (HE.out w2 (HS.out.trans (Same.below (HLow.out.trans (HBel.out.mono (by omega))) fun b hb => Nat.lt_of_lt_of_le (hP b hb) hge)) (by omega)).mono ?_; rintro e w3 ⟨b3, R3, rfl, hb, hall, hbel, hlt3⟩;
             have r0 := (hbel.cell (p := ⟨w1.heap.size, 0, none⟩) (by show w1.heap.size < _; omega)).trans q0;
             have r1 := (hbel.cell (p := ⟨w1.heap.size, 1, none⟩) (by show w1.heap.size < _; omega)).trans q1;
             have r2 := (hbel.cell (p := ⟨w1.heap.size, 2, none⟩) (by show w1.heap.size < _; omega)).trans q2;
             have r3 := (hbel.cell (p := ⟨w1.heap.size, 3, none⟩) (by show w1.heap.size < _; omega)).trans q3;
             have hz3 := hbel.size;
             have hblk := (hbel.block (w1.heap.size + 1) (by omega)).trans ((HBel.out.block (w1.heap.size + 1) (by omega)).trans HB2.out);
             obtain ⟨⟨p0, p1, p2, p3⟩, z0, z1, z2, z3⟩ := blk_cells hblk;
             have HBel3 := Lib.hid hbel;
             have HALL := Lib.hid hall;
             have HBe3 := Lib.hid hb;
             clear hbel hall hblk hb)))
      have hbe := HBe.out
      have hbe3 := HBe3.out
      have e2 : b2 = W.heap.size := hbe
      clear hbe
      have HS3 : Hid (Same (fun x => x ≠ w1.heap.size + 1) w3 ((((w3.setCell ⟨w1.heap.size + 1, 0, none⟩ (.int .i64 k)).setCell ⟨w1.heap.size + 1, 1, none⟩ (.string s)).setCell ⟨w1.heap.size + 1, 2, none⟩ (.slice (some ⟨b2, 0, none⟩) g.length g.length)).setCell ⟨w1.heap.size + 1, 3, none⟩ (.slice (some ⟨b3, 0, none⟩) ks.length ks.length))) :=
        Lib.hid fun x hx => heap_set4 hx
      have E2 := Lib.hid e2
      have E3 := Lib.hid hbe3
      clear e2 hbe3
      go_wp2_with fail
      refine bodyPost_ret (v := .agg #[.int .i64 k, .string s, .slice (some ⟨b2, 0, none⟩) g.length g.length, .slice (some ⟨b3, 0, none⟩) ks.length ks.length]) (by simp [results, Tryd.results62, go_sem, p0, p1, p2, p3]) rfl ?_
      have e2 := E2.out
      have e3 := E3.out
      refine ⟨⟨some ⟨b2, 0, none⟩, g.length, some ⟨b3, 0, none⟩, ks.length⟩, rfl, .mk _ _ R3 hs ?_ (by unfold maxLen at *; exact hl) (.inr ⟨b3, 0, rfl, ⟨by omega, by simp; omega⟩, fun j u hu => ?_⟩) (fun j u hu => ?_) (Nat.le_refl _), ?_⟩
      · exact (HST.out.keep (Q := fun x => x = b2) ((Same.below HBel3.out fun x hx => by omega).trans (fun x hx => HS3.out x (by omega))) (fun x hx => hx)).keep (Same.refl _ _) (fun x hx => ⟨by omega, by simp; omega⟩)
      · rw [Nat.zero_add]
        exact At4.keep (P := fun x => x = b3) (HALL.out j u hu).1 (fun x hx => HS3.out x (by omega)) rfl
      · exact (HALL.out j u hu).2.keep (fun x hx => HS3.out x (by omega)) (fun x hx => ⟨by omega, by simp; omega⟩)
      · exact below_set4 ((HLow.out.trans (HBel.out.mono (by omega))).trans (HBel3.out.mono (by omega))) (by omega)
theorem pre_mem_trans {t u x : Pl.Tr} {i : Nat} (h : (Pl.pre t)[i]? = some u) (hx : x ∈ Pl.pre u) : x ∈ Pl.pre t := by
  obtain ⟨h1, h2⟩ := Pl.pre_sub t i u h
  obtain ⟨j, hj⟩ := List.getElem?_of_mem hx
  have hjl : j < Pl.sz u := by rw [← Pl.pre_len]; exact (List.getElem?_eq_some_iff.1 hj).1
  exact List.mem_of_getElem? ((h2 j hjl).trans hj)
/-- A node's tree, or none. -/
def AtP (t : Pl.Tr) (i : Int) (w1 : World) (e : Ending) (w' : World) : Prop :=
  Below w1.heap.size w1 w' ∧ ((∃ (n : Nat) (u : Pl.Tr) (r : Sl), i = n ∧ (Pl.pre t)[n]? = some u ∧ Tin (fun b => w1.heap.size ≤ b ∧ b < w'.heap.size) w' u r ∧ e = .returned (.tuple #[.agg #[.int .i64 u.kind, .string u.text, .slice r.ga u.gaps.length r.gc, .slice r.da u.kids.length r.dc], .bool true])) ∨
    ((i < 0 ∨ (Pl.sz t : Int) ≤ i) ∧ e = .returned (.tuple #[.agg #[.int .i64 0, .string ⟨#[]⟩, .slice none 0 0, .slice none 0 0], .bool false])))
set_option maxHeartbeats 800000 in
theorem at_at {P : Nat → Prop} {w : World} {t : Pl.Tr} {r : Sl} (h : Tin P w t r) (hP : ∀ b, P b → b < w.heap.size) (w1 : World) (hsame : Same P w w1) (hge : w.heap.size ≤ w1.heap.size) (hgap : ∀ x ∈ Pl.pre t, x.gaps.length ≤ 1048576) (hsz : Pl.sz t ≤ 1000000) (i : Int) (hi : i ≤ 9223372036854775807) :
    Calls Tryd.prog 52 #[.agg #[.int .i64 t.kind, .string t.text, .slice r.ga t.gaps.length r.gc, .slice r.da t.kids.length r.dc], .int .i64 i] w1 (AtP t i w1) := by
  have HF := Lib.hid (fun w1 hs hge i hi => find_at h hP w1 hs hge hsz i hi)
  have HG := Lib.hid hgap
  have HS := Lib.hid hsame
  obtain ⟨ga, gc, a, c⟩ := r
  clear h hsame hgap
  by_cases hneg : i < 0
  · go_enter Tryd.func52, Tryd.ntmps52
    go_wp2_with fail
    exact bodyPost_ret (v := .tuple #[.agg #[.int .i64 0, .string ⟨#[]⟩, .slice none 0 0, .slice none 0 0], .bool false]) (by simp [results, Tryd.results52, go_sem]) rfl
      ⟨((Below.refl _ _).alloc (Nat.le_refl _) _).alloc (by simp) _, .inr ⟨.inl hneg, rfl⟩⟩
  obtain ⟨n, rfl⟩ : ∃ n : Nat, i = n := ⟨i.toNat, by omega⟩
  go_enter Tryd.func52, Tryd.ntmps52
  go_wp2_with (go_at_call 61; refine (HF.out _ (same_box2 HS.out hP hge) (by simp; omega) n (by omega)).mono ?_; rintro e w2 ⟨hb2, ⟨u, r2, hv, hr2, rfl⟩ | ⟨q, hq, rfl⟩⟩ <;> (obtain ⟨_, hb8, hb5, hz2⟩ := two_after hb2; have HB2 := Lib.hid hb5; obtain ⟨⟨p0, p1, p2, p3⟩, z0, z1, z2, z3⟩ := blk_cells hb8; have pa := cell_past (w1.heap.size + 1); have fa := frozen_past (w1.heap.size + 1); have HB8 := Lib.hid hb8; clear hb8 hb2 hb5))
  · have hsu : Pl.sz u ≤ 1000000 := by have := (Pl.pre_sub t n u hv).1; omega
    have HC := Lib.hid (fun w1 hs hge => copy_at hr2 hP w1 hs hge (fun x hx => HG.out x (pre_mem_trans hv hx)) hsu)
    have HV := Lib.hid hv
    have HSW : Hid (Same P w w2) := Lib.hid (HS.out.trans (Same.below HB2.out fun b hb => Nat.lt_of_lt_of_le (hP b hb) hge))
    clear hv
    go_wp2_with (go_at_call 62; refine (HC.out _ (same_box HSW.out hP (by omega)) (by simp; omega)).mono ?_; rintro e w3 ⟨⟨ga3, gc3, da3, dc3⟩, rfl, ht3, hb3⟩; have hz3 := hb3.size; simp at hz3; have hblk := (hb3.block (w1.heap.size + 1) (by simp; omega)).trans ((Below.heap_alloc _ _ _ hz2).trans HB8.out); obtain ⟨⟨s0, s1, s2, s3⟩, y0, y1, y2, y3⟩ := blk_cells hblk; have HT3 := Lib.hid ht3; have HB3 := Lib.hid hb3; clear ht3 hb3 hblk)
    refine bodyPost_ret (v := .tuple #[.agg #[.int .i64 u.kind, .string u.text, .slice ga3 u.gaps.length gc3, .slice da3 u.kids.length dc3], .bool true]) (by simp [results, Tryd.results52, go_sem, s0, s1, s2, s3]) rfl
      ⟨below_set4 ((HB2.out.alloc (by omega) _).trans (HB3.out.mono (by simp; omega))) (by omega), .inl ⟨n, u, ⟨ga3, gc3, da3, dc3⟩, rfl, HV.out, ?_, rfl⟩⟩
    exact HT3.out.keep (fun x hx => heap_set4 (by simp at hx; omega)) (fun x hx => by simp at hx ⊢; omega)
  · have hQ := Lib.hid hq
    clear hq
    exact bodyPost_ret (v := .tuple #[.agg #[.int .i64 0, .string ⟨#[]⟩, .slice none 0 0, .slice none 0 0], .bool false]) (by simp [results, Tryd.results52, go_sem, p0, p1, p2, p3, pa, hz2]) rfl
      ⟨(below_set4 HB2.out (by omega)).alloc (by simp; omega) _, .inr ⟨.inr (by have := hQ.out; omega), rfl⟩⟩
end Go.Proofs.YtpaleolcfhnenaaDoor.Rt.Ta
