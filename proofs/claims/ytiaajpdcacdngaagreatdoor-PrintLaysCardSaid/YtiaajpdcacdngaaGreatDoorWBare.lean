/- The walk of tree.Bare: a fresh tree, no two nodes in one place. -/
import Derived.Test.YtiaajpdcacdngaaGreatDoorWFresh
import Derived.Deep.RegionHeld3
namespace Go.Proofs.YtiaajpdcacdngaaGreatDoor
open Go.RowKit Go.Deep
set_option linter.unusedVariables false
set_option linter.unusedSimpArgs false

/-- Some cells of one block have been written, from an offset on. -/
structure Wrote (w w' : World) (b o : Nat) (vs : List Value) : Prop where
  os : w'.os = w.os
  tape : w'.tape = w.tape
  output : w'.output = w.output
  size : w'.heap.size = w.heap.size
  other : ∀ x, x ≠ b → w'.heap[x]? = w.heap[x]?
  here : w'.rangeAt b o vs
  apart : ∀ o' cs, o' + cs.length ≤ o ∨ o + vs.length ≤ o' → w.rangeAt b o' cs → w'.rangeAt b o' cs
  there : ∀ o' n, w.there b o' n → w'.there b o' n
  blk : ∀ x, NBlk w x → NBlk w' x
theorem wrote_setCells (w : World) (b : Nat) : ∀ (vs : List Value) (o : Nat), (w.setCells b o vs).os = w.os ∧ (w.setCells b o vs).tape = w.tape ∧ (w.setCells b o vs).output = w.output ∧ (w.setCells b o vs).heap.size = w.heap.size ∧ ∀ x, x ≠ b → (w.setCells b o vs).heap[x]? = w.heap[x]? := by
  intro vs
  induction vs generalizing w with
  | nil => intro o; exact ⟨rfl, rfl, rfl, rfl, fun _ _ => rfl⟩
  | cons v vs ih =>
    intro o
    obtain ⟨h1, h2, h3, h4, h5⟩ := ih (w.setCell ⟨b, o, none⟩ v) (o + 1)
    exact ⟨h1, h2, h3, h4.trans (by simp [World.setCell]), fun x hx => (h5 x hx).trans (Below.heap_setCell _ _ _ _ hx)⟩
theorem wrote_mk (w : World) (b o : Nat) (vs : List Value) (ht : w.there b o vs.length) : Wrote w (w.setCells b o vs) b o vs := by
  obtain ⟨h1, h2, h3, h4, h5⟩ := wrote_setCells w b vs o
  exact ⟨h1, h2, h3, h4, h5, World.rangeAt_setCells_same w b o vs ht, fun o' cs hap h => World.rangeAt_setCells_apart h b o vs (.inr hap), fun o' n h => World.there_setCells h b o vs, fun x hx => NBlk.sets vs b o hx⟩
theorem Wrote.below {w w' w0 : World} {b o B : Nat} {vs : List Value} (h : Wrote w w' b o vs) (hb : Below B w0 w) (hB : B ≤ b) : Below B w0 w' :=
  hb.trans ⟨h.os, h.tape, h.output, by rw [h.size]; exact Nat.le_refl _, fun x hx => h.other x (by omega)⟩
/-- A node is stored. -/
theorem wpList_store4 {ops : Array Oper} {rest : List Oper} {op : Oper} {a : Act} {w : World} {Q : Exit → Act → World → Prop} (hgd : op.guard = none) (x y : Operand) (ho : op.op = .store 25 x y)
    (b o : Nat) (k : Int) (s : ByteArray) (ga da : Option Addr) (gn gc dn dc : Nat) (hx : a.eval x = .pointer (some ⟨b, o, none⟩)) (hy : a.eval y = .agg #[.int .i64 k, .string s, .slice ga gn gc, .slice da dn dc])
    (ht : w.there b o 4)
    (h : ∀ w', Wrote w w' b o [.int .i64 k, .string s, .slice ga gn gc, .slice da dn dc] → wpList Tryz.prog ops Q rest (a.put op.dst undef) w') : wpList Tryz.prog ops Q (op :: rest) a w :=
  wpList_store_mid hgd 25 x y ho b o _ hx hy ht sizeN (by simp [Value.oneCell']) (h _ (wrote_mk w b o _ ht))
theorem at4_of_range {w : World} {b o : Nat} {k : Int} {s : ByteArray} {gv kv : Value} (h : w.rangeAt b o [.int .i64 k, .string s, gv, kv]) : At4 w b o k s gv kv :=
  ⟨h 0 _ rfl, h 1 _ rfl, h 2 _ rfl, h 3 _ rfl⟩
theorem there_block {w : World} {b : Nat} {cs : Array Value} {T : TypeId} (h : w.heap[b]? = some (.cells cs T (0, 0))) (o n : Nat) (hn : o + n ≤ cs.size) : w.there b o n := by
  intro j hj
  refine ⟨?_, by simp [World.frozen?, h]⟩
  rw [cell_of_row _ _ _ _ _ _ h, Array.getElem?_eq_getElem (by omega)]; rfl
theorem there_keep {w w' : World} {b o n : Nat} (h : w.there b o n) (hb : w'.heap[b]? = w.heap[b]?) : w'.there b o n := by
  intro j hj
  obtain ⟨h1, h2⟩ := h j hj
  exact ⟨by rw [World.cell?_of_block (w := w) (a := ⟨b, o + j, none⟩) hb]; exact h1, by rw [World.frozen?_of_block (w := w) (a := ⟨b, o + j, none⟩) hb]; exact h2⟩
theorem there_sub {w : World} {b o n : Nat} (h : w.there b 0 n) (m : Nat) (hn : o + m ≤ n) : w.there b o m := by
  intro j hj
  have := h (o + j) (by omega)
  rw [Nat.zero_add] at this
  exact this
theorem infoN : (Tryz.prog.info? 25).map (fun i => (i.zero, i.size, i.bytes)) = some (some (.agg #[.int .i64 0, .string ⟨#[]⟩, .slice none 0 0, .slice none 0 0]), 4, 72) := by kernel_rfl
/-- make of nodes, for every world. -/
theorem make_nodes (n : Nat) (hn : n ≤ 1099511627776) (w : World) :
    (Instr.makeSlice 23 (.int .i64 (n : Int)) (.int .i64 (n : Int))).run Tryz.prog w = .ok (.slice (some ⟨w.heap.size, 0, none⟩) n n) (w.alloc (.cells (madeCells #[.int .i64 0, .string ⟨#[]⟩, .slice none 0 0, .slice none 0 0] (n * 4)) 25)) := by
  obtain ⟨i, hi, hz, hs, hb⟩ := info_parts infoN
  have h := run_make (P := Tryz.prog) w 23 25 i _ Tryz.underlying23 hi hz .i64 .i64 n n (by omega) (Int.le_refl _) (by rw [hb]; omega) (by omega)
  have e : (Value.agg #[.int .i64 0, .string ⟨#[]⟩, .slice none 0 0, .slice none 0 0]).cells = #[.int .i64 0, .string ⟨#[]⟩, .slice none 0 0, .slice none 0 0] := by simp [Value.cells]
  rw [hs, e, Int.toNat_natCast] at h
  exact h
/-- A tree without gaps in new memory. -/
def CopyB (u : Pl.Tr) (w1 : World) (e : Ending) (w' : World) : Prop :=
  ∃ (A : LT) (db dc : Nat), er A = Pl.bare u ∧ A.sl.da = some ⟨db, 0, none⟩ ∧ A.sl.dc = dc ∧ e = .returned (.agg #[.int .i64 u.kind, .string u.text, .slice none 0 0, .slice (some ⟨db, 0, none⟩) u.kids.length dc]) ∧ KidsB w' A ∧ Fresh A w1.heap.size w'.heap.size ∧ Below w1.heap.size w1 w'
/-- The kids made so far, in block b. -/
structure BR (w1 wr : World) (b : Nat) (us : List Pl.Tr) (L : List LT) (H : Nat → Nat) : Prop where
  er : L.map er = us.map Pl.bare
  h0 : b < H 0
  hm : ∀ q, q < L.length → H q ≤ H (q + 1)
  hh : H L.length ≤ wr.heap.size
  each : ∀ (q : Nat) A, L[q]? = some A → Fresh A (H q) (H (q + 1)) ∧ KidsB wr A ∧ At4 wr b (q * 4) A.kind A.text (.slice none 0 0) (.slice A.sl.da A.kids.length A.sl.dc)
theorem bare_parts (u : Pl.Tr) : (Pl.bare u).kind = u.kind ∧ (Pl.bare u).text = u.text ∧ (Pl.bare u).gaps = [] ∧ (Pl.bare u).kids.length = u.kids.length := by
  cases u with
  | node k s g ks => rw [Pl.bare]; exact ⟨rfl, rfl, rfl, Pl.bares_len ks⟩
theorem er_bare {A : LT} {u : Pl.Tr} (h : er A = Pl.bare u) : A.kind = u.kind ∧ A.text = u.text ∧ A.gaps = [] ∧ A.kids.length = u.kids.length := by
  obtain ⟨h1, h2, h3, h4⟩ := bare_parts u
  rw [← h] at h1 h2 h3 h4
  rw [er_kind] at h1
  rw [er_text] at h2
  rw [er_gaps] at h3
  rw [er_kids, ers_len] at h4
  exact ⟨h1, h2, h3, h4⟩
theorem br_step {w1 wr wc w2 w3 : World} {b : Nat} {us : List Pl.Tr} {L : List LT} {H : Nat → Nat} {u : Pl.Tr} {A : LT} {db dc : Nat} (h : BR w1 wr b us L H) (hbr : b < wr.heap.size) (hc : Below wr.heap.size wr wc) (hA : er A = Pl.bare u) (hda : A.sl.da = some ⟨db, 0, none⟩) (hdc : A.sl.dc = dc) (hk : KidsB w2 A) (hf : Fresh A wc.heap.size w2.heap.size) (hb2 : Below wc.heap.size wc w2)
    (hw : Wrote w2 w3 b (L.length * 4) [.int .i64 u.kind, .string u.text, .slice none 0 0, .slice (some ⟨db, 0, none⟩) u.kids.length dc]) :
    BR w1 w3 b (us ++ [u]) (L ++ [A]) (fun q => if q ≤ L.length then H q else w3.heap.size) := by
  have hsc := hc.size
  have hs2 := hb2.size
  have hs3 := hw.size
  have keep : ∀ x, x < wr.heap.size → x ≠ b → w3.heap[x]? = wr.heap[x]? := fun x hx hn => (hw.other x hn).trans ((hb2.block x (by omega)).trans (hc.block x hx))
  have hhh := h.hh
  obtain ⟨e1, e2, e3, e4⟩ := er_bare hA
  refine ⟨by rw [List.map_append, List.map_append, h.er]; simp [hA], by rw [if_pos (Nat.zero_le _)]; exact h.h0, fun q hq => ?_, ?_, fun q B hB => ?_⟩
  · rw [List.length_append, List.length_singleton] at hq
    rw [if_pos (by omega)]
    by_cases hq2 : q + 1 ≤ L.length
    · rw [if_pos hq2]; exact h.hm q (by omega)
    · rw [if_neg hq2, show q = L.length from by omega]; omega
  · rw [List.length_append, List.length_singleton, if_neg (by omega)]; exact Nat.le_refl _
  · by_cases hq : q < L.length
    · rw [List.getElem?_append_left hq] at hB
      obtain ⟨f1, f2, f3⟩ := h.each q B hB
      have m1 := mono_to h.hm L.length (q + 1) (by omega) (Nat.le_refl _)
      have m0 := mono_to h.hm q 0 (by omega) (by omega)
      have hb0 := h.h0
      rw [if_pos (by omega), if_pos (by omega)]
      refine ⟨f1, kids_keep f1 f2 (fun x hx1 hx2 => keep x (by omega) (by omega)), ?_⟩
      refine at4_of_range (hw.apart _ _ (.inl (by simp; omega)) ?_)
      exact (f3.keep (w' := w2) (P := fun x => x = b) (fun x hx => by rw [hx]; exact (hb2.block b (by omega)).trans (hc.block b hbr)) rfl).range
    · rw [List.getElem?_append_right (by omega)] at hB
      have hq2 : q - L.length = 0 := by
        rcases Nat.eq_zero_or_pos (q - L.length) with h | h
        · exact h
        · rw [List.getElem?_eq_none (by simp; omega)] at hB; cases hB
      rw [hq2] at hB
      obtain rfl : A = B := by simpa using hB
      have hqe : q = L.length := by
        have := (show q - L.length = 0 from hq2)
        omega
      subst hqe
      have hH := h.hh
      rw [if_pos (Nat.le_refl _), if_neg (by omega)]
      refine ⟨hf.wide (by omega) (by omega), kids_keep hf hk (fun x hx1 hx2 => hw.other x (by omega)), ?_⟩
      rw [e1, e2, e4, hda, hdc]
      exact at4_of_range hw.here
set_option maxHeartbeats 1600000 in
set_option maxRecDepth 100000 in
theorem each_bare (ks : List Pl.Tr) (a : Option Addr) (c : Nat) (R : Nat → Sl) (w1 : World) (hl : ks.length ≤ 1000000) (hk : Lies (fun b => b < w1.heap.size) w1 ks a R) (hr : ∀ (j : Nat) u, ks[j]? = some u → IsT w1 u (R j))
    (hc : ∀ (j : Nat) u, ks[j]? = some u → ∀ w r, IsT w u r → Calls Tryz.prog 34 #[.agg #[.int .i64 u.kind, .string u.text, .slice r.ga u.gaps.length r.gc, .slice r.da u.kids.length r.dc]] w (CopyB u w)) (n : Nat) (hn : n = ks.length) :
    Calls Tryz.prog 62 #[.slice a n c, .func (.func 34) #[] #[]] w1 fun e w' => ∃ (L : List LT) (H : Nat → Nat), e = .returned (.slice (some ⟨w1.heap.size, 0, none⟩) n n) ∧ BR w1 w' w1.heap.size ks L H ∧ NBlk w' w1.heap.size ∧ Below w1.heap.size w1 w' ∧ w1.heap.size < w'.heap.size := by
  have HK := Lib.hid hk
  have HR := Lib.hid hr
  have HF := Lib.hid hc
  have HN := Lib.hid hn
  rw [← hn] at hl
  clear hk hr hc hn
  have hmk := make_nodes n (by omega)
  go_enter Tryz.func62, Tryz.ntmps62
  go_wp2_with fail
  clear hmk
  go_loopw [13] (fun i wr => ∃ (j : Nat) (L : List LT) (H : Nat → Nat), j ≤ n ∧ i = .int .i64 j ∧ Hid (L.length = j) ∧ Hid (Below w1.heap.size w1 wr) ∧ w1.heap.size < wr.heap.size ∧ Hid (wr.there w1.heap.size 0 (n * 4)) ∧ Hid (NBlk wr w1.heap.size) ∧ Hid (BR w1 wr w1.heap.size (ks.take j) L H)) (fun i _ => n - (intOf i).toNat)
  case atStart => exact ⟨0, [], fun _ => w1.heap.size + 1, Nat.zero_le _, rfl, Lib.hid rfl, Lib.hid ((Below.refl _ _).alloc (Nat.le_refl _) _), by simp, Lib.hid (there_block (heap_alloc_new _ _) 0 _ (by simp [size_madeCells])), Lib.hid ⟨_, heap_alloc_new _ _⟩, Lib.hid ⟨rfl, Nat.lt_succ_self _, fun q hq => by simp at hq, by simp, fun q A hA => by simp at hA⟩⟩
  case round =>
    obtain ⟨j, L, H, hj, rfl, HL, HB, hgt, HTh, HNB, HBR⟩ := hrel
    by_cases hlt : j < n
    · have hjk : j < ks.length := by rw [← HN.out]; exact hlt
      have hu := List.getElem?_eq_getElem hjk
      rcases HK.out with h0 | ⟨b, o, rfl, hb, hat⟩
      · rw [h0] at hjk; simp at hjk
      have l1 := Lib.hid (At4.keep (hat j _ hu) (Same.below HB.out fun _ h => h) hb).range
      have HI1 := Lib.hid (HF.out j _ hu)
      have HT1 := Lib.hid ((HR.out j _ hu).later HB.out)
      have HTk : Hid (ks.take (j + 1) = ks.take j ++ [ks[j]]) := Lib.hid (List.take_succ_eq_append_getElem hjk)
      generalize ks[j] = u at *
      generalize R j = r1 at *
      obtain ⟨ga1, gc1, da1, dc1⟩ := r1
      clear hat hu
      go_wp2_with (first
        | (refine wpList_load_mid rfl 25 _ rfl b (o + j * 4) rfl [.int .i64 u.kind, .string u.text, .slice ga1 u.gaps.length gc1, .slice da1 u.kids.length dc1] _ l1.out Tryz.underlying25 rfl sizeN ?_)
        | (refine wpList_store4 rfl (.tmp 23) (.tmp 22) rfl w1.heap.size (j * 4) _ _ _ _ _ _ _ _ rfl rfl HTh2.out ?_; intro w3 hw3; have HW3 := Lib.hid hw3; clear hw3)
        | (go_at_call 34; refine (HI1.out (wr.alloc (.cells #[.int .i64 u.kind, .string u.text, .slice ga1 u.gaps.length gc1, .slice da1 u.kids.length dc1] 25)) ⟨ga1, gc1, da1, dc1⟩ (HT1.out.later (box_low _ _))).mono ?_; rintro e w2 ⟨A, db, dc, hA, hda, hdc, rfl, hkb, hfr, hb2⟩; have hz2 := hb2.size; simp at hz2; have HA := Lib.hid hA; have HDA := Lib.hid hda; have HDC := Lib.hid hdc; have HKB := Lib.hid hkb; have HFR := Lib.hid hfr; have HB2 := Lib.hid hb2; have HTh2 := Lib.hid (there_sub (there_keep HTh.out ((hb2.block w1.heap.size (by simp; omega)).trans (Below.heap_alloc _ _ _ hgt))) (o := j * 4) 4 (by omega)); clear hA hda hdc hkb hfr hb2 l1))
      have hlow : Below w1.heap.size w1 w2 := (HB.out.alloc (by omega) _).trans (HB2.out.mono (by simp; omega))
      have heq2 : w2.heap[w1.heap.size]? = wr.heap[w1.heap.size]? := (HB2.out.block w1.heap.size (by simp; omega)).trans (Below.heap_alloc _ _ _ hgt)
      have hL := HL.out
      have hstep := br_step HBR.out hgt (box_low wr _) HA.out HDA.out HDC.out HKB.out HFR.out HB2.out (by rw [hL]; exact HW3.out)
      rw [← HTk.out] at hstep
      refine ⟨⟨j + 1, L ++ [A], _, by omega, by go_num, Lib.hid (by rw [List.length_append, hL]; rfl), Lib.hid (HW3.out.below hlow (Nat.le_refl _)), by rw [HW3.out.size]; omega, Lib.hid (HW3.out.there _ _ (there_keep HTh.out heq2)), Lib.hid (HW3.out.blk _ (HNB.out.of heq2)), Lib.hid hstep⟩, by simp [intOf]; omega⟩
    · have hjn : j = n := by omega
      subst hjn
      go_wp2_with fail
      go_ret
      have hbr := HBR.out
      rw [HN.out, List.take_length] at hbr
      exact ⟨L, H, rfl, hbr, HNB.out, HB.out, hgt⟩
theorem kids_of_br {w1 w' W : World} {b : Nat} {ks : List Pl.Tr} {L : List LT} {H : Nat → Nat} {k : Int} {s : ByteArray} {g : List ByteArray} (h : BR w1 w' b ks L H) (hnb : NBlk w' b) (hlo : w1.heap.size ≤ b) (hs : ∀ x, b ≤ x → x < w'.heap.size → W.heap[x]? = w'.heap[x]?) (hb : b < w'.heap.size) (hz : w'.heap.size ≤ W.heap.size) (m : Nat) :
    er (.node k s [] L ⟨none, 0, some ⟨b, 0, none⟩, m⟩) = Pl.bare (.node k s g ks) ∧ KidsB W (.node k s [] L ⟨none, 0, some ⟨b, 0, none⟩, m⟩) ∧ Fresh (.node k s [] L ⟨none, 0, some ⟨b, 0, none⟩, m⟩) w1.heap.size W.heap.size := by
  have hh := h.hh
  have h0 := h.h0
  refine ⟨?_, ⟨rfl, rfl, fixBs_of W L _ _ fun j A hA => ?_⟩, .mk k s [] L _ _ _ H hlo rfl h0 h.hm (by omega) fun j A hA => (h.each j A hA).1⟩
  · rw [er, Pl.bare, ers_map, h.er, Pl.bares_map]
  · obtain ⟨f1, f2, f3⟩ := h.each j A hA
    have hj := (List.getElem?_eq_some_iff.1 hA).1
    have m0 := mono_to h.hm j 0 (by omega) (by omega)
    have m1 := mono_to h.hm L.length (j + 1) (by omega) (Nat.le_refl _)
    have f4 := kids_keep f1 f2 (w' := W) (fun x hx1 hx2 => hs x (by omega) (by omega))
    show FixB W A b (0 + j * 4)
    rw [Nat.zero_add]
    exact kidsB_fix f4 (hnb.of (hs b (Nat.le_refl _) hb)) (f3.keep (P := fun x => x = b) (fun x hx => by rw [hx]; exact hs b (Nat.le_refl _) hb) rfl)
set_option maxHeartbeats 1600000 in
set_option maxRecDepth 100000 in
theorem bare_at (t : Pl.Tr) : Pl.sz t ≤ 1000000 → ∀ w r, IsT w t r →
    Calls Tryz.prog 34 #[.agg #[.int .i64 t.kind, .string t.text, .slice r.ga t.gaps.length r.gc, .slice r.da t.kids.length r.dc]] w (CopyB t w) := by
  refine Pl.Tr.ind (M := fun t => Pl.sz t ≤ 1000000 → ∀ w r, IsT w t r → Calls Tryz.prog 34 #[.agg #[.int .i64 t.kind, .string t.text, .slice r.ga t.gaps.length r.gc, .slice r.da t.kids.length r.dc]] w (CopyB t w)) ?_ t
  intro k s g ks ih hsz w1 r h
  obtain ⟨hs, hg, hl, R, hks, hr⟩ := h.parts
  rw [Pl.sz] at hsz
  have hlen := Pl.len_szs ks
  obtain ⟨ga, gc, a, c⟩ := r
  simp only [Pl.Tr.kind, Pl.Tr.text, Pl.Tr.gaps, Pl.Tr.kids] at *
  obtain ⟨n, hn⟩ : ∃ n, n = ks.length := ⟨_, rfl⟩
  have HE := Lib.hid (fun W (hb : Below w1.heap.size w1 W) => each_bare ks a c R W (by omega) (hks.later hb) (fun j u hu => (hr j u hu).later hb) (fun j u hu w2 r2 h2 => ih u (List.mem_of_getElem? hu) (by have := Pl.sz_mem (List.mem_of_getElem? hu); omega) w2 r2 h2) n hn)
  have HPost : Hid (CopyB (.node k s g ks) w1 = fun e w' => ∃ (A : LT) (db dc : Nat), er A = Pl.bare (.node k s g ks) ∧ A.sl.da = some ⟨db, 0, none⟩ ∧ A.sl.dc = dc ∧ e = .returned (.agg #[.int .i64 k, .string s, .slice none 0 0, .slice (some ⟨db, 0, none⟩) n dc]) ∧ KidsB w' A ∧ Fresh A w1.heap.size w'.heap.size ∧ Below w1.heap.size w1 w') := Lib.hid (by unfold CopyB; rw [hn]; rfl)
  rw [HPost.out]
  obtain ⟨gn, hgn⟩ : ∃ gn, gn = g.length := ⟨_, rfl⟩
  rw [← hn, ← hgn]
  clear hg hks hr ih hlen HPost hn h hs hl hsz hgn
  go_enter Tryz.func34, Tryz.ntmps34
  go_wp2_with fail
  obtain ⟨W, hW⟩ : ∃ W, W = (w1.alloc (.cells #[.int .i64 k, .string s, .slice ga gn gc, .slice a n c] 25)).alloc (.cells #[.int .i64 0, .string ⟨#[]⟩, .slice none 0 0, .slice none 0 0] 25) := ⟨_, rfl⟩
  rw [← hW]
  obtain ⟨hb1, hb2, hlow, hz⟩ := two_after (w := w1) (w2 := W) (by rw [← hW]; exact Below.refl _ _)
  obtain ⟨⟨c0, c1, c2, c3⟩, _⟩ := blk_cells hb1
  have HB2 := Lib.hid hb2
  have HLow := Lib.hid hlow
  clear hW hb1 hb2 hlow
  have d0 : W.drew.cell? ⟨w1.heap.size, 0, none⟩ = some (.int .i64 k) := c0
  have d1 : W.drew.cell? ⟨w1.heap.size, 1, none⟩ = some (.string s) := c1
  have d2 : W.drew.cell? ⟨w1.heap.size, 2, none⟩ = some (.slice ga gn gc) := c2
  have d3 : W.drew.cell? ⟨w1.heap.size, 3, none⟩ = some (.slice a n c) := c3
  go_region_held3 (fun w' => w'.cell? ⟨w1.heap.size, 0, none⟩ = some (.int .i64 k) ∧ w'.cell? ⟨w1.heap.size, 1, none⟩ = some (.string s) ∧ w'.cell? ⟨w1.heap.size, 2, none⟩ = some (.slice ga gn gc) ∧ w'.cell? ⟨w1.heap.size, 3, none⟩ = some (.slice a n c))
    (first
      | with_reducible exact ⟨d0, d1, d2, d3⟩
      | with_reducible exact ⟨r0, r1, r2, r3⟩
      | go_keep)
    ((first
      | (go_at_call 62; refine (HE.out W.drew HLow.out.drew).mono ?_; rintro e w3 ⟨L, H, rfl, hbr, hnb, hbel', hlt3⟩;
         have hbel : Below W.heap.size W w3 := (Below.refl _ W).drew.trans hbel';
         have r0 := (hbel.cell (p := ⟨w1.heap.size, 0, none⟩) (by show w1.heap.size < _; omega)).trans c0;
         have r1 := (hbel.cell (p := ⟨w1.heap.size, 1, none⟩) (by show w1.heap.size < _; omega)).trans c1;
         have r2 := (hbel.cell (p := ⟨w1.heap.size, 2, none⟩) (by show w1.heap.size < _; omega)).trans c2;
         have r3 := (hbel.cell (p := ⟨w1.heap.size, 3, none⟩) (by show w1.heap.size < _; omega)).trans c3;
         have hz3 := hbel.size;
         have hblk := (hbel.block (w1.heap.size + 1) (by omega)).trans HB2.out;
         obtain ⟨⟨p0, p1, p2, p3⟩, z0, z1, z2, z3⟩ := blk_cells hblk;
         have HBel3 := Lib.hid hbel;
         have HBR := Lib.hid hbr;
         have HNB := Lib.hid hnb;
         have HLT := Lib.hid hlt3;
         clear hbel hbel' hbr hnb hlt3 hblk)))
  have hDW : W.drew.heap.size = W.heap.size := rfl
  have HDW := Lib.hid hDW
  clear hDW
  go_wp2_with fail
  refine bodyPost_ret (v := .agg #[.int .i64 k, .string s, .slice none 0 0, .slice (some ⟨W.drew.heap.size, 0, none⟩) n n]) (by simp [results, Tryz.results34, go_sem, p0, p1, p2, p3]) rfl ?_
  have hd := HDW.out
  have hlt := HLT.out
  obtain ⟨q1, q2, q3⟩ := kids_of_br (k := k) (s := s) (g := g) (w1 := W.drew) (W := ((((w3.setCell ⟨w1.heap.size + 1, 0, none⟩ (.int .i64 k)).setCell ⟨w1.heap.size + 1, 1, none⟩ (.string s)).setCell ⟨w1.heap.size + 1, 2, none⟩ (.slice none 0 0)).setCell ⟨w1.heap.size + 1, 3, none⟩ (.slice (some ⟨W.drew.heap.size, 0, none⟩) n n))) HBR.out HNB.out (Nat.le_refl _) (fun x hx1 hx2 => heap_set4 (by omega)) hlt (by simp) n
  exact ⟨_, W.drew.heap.size, n, q1, rfl, rfl, rfl, q2, q3.wide (by omega) (Nat.le_refl _), below_set4 (HLow.out.trans (HBel3.out.mono (by omega))) (by omega)⟩
end Go.Proofs.YtiaajpdcacdngaaGreatDoor
