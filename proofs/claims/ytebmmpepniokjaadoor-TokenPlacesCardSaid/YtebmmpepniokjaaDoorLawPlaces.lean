/- The walk of the law TokenPlaces. -/
import Derived.Test.YtebmmpepniokjaaDoorLawBlanks
namespace Go.Proofs.YtebmmpepniokjaaDoor
open Go.RowKit
set_option linter.unusedVariables false
set_option linter.unusedSimpArgs false

/-- A world behind another one: what was there is as it was. -/
structure Later (W : World) where
  u : World
  h : Below W.heap.size W u
instance laterSome (W : World) : Nonempty (Later W) := ⟨⟨W, Below.refl _ _⟩⟩
/-- A region that draws its order, whose operations only read and whose callees leave what was there. -/
theorem region_later {P : Program} {id : Nat} {Q : Exit → Act → World → Prop} {a : Act} {w : World} {l : List Oper} (hm : P.follows .mixedOrders = true) (hB : Region.lexB .any l.toArray = true)
    (h : wpQuiet P l.toArray (fun w' => ∃ n : Later w, w' = n.u) (fun a' => ∀ w', (∃ n : Later w, w' = n.u) → Q .normal a' w') l a) : (Code.region id l.toArray true).wp P Q a w :=
  wp_region_quiet (C := fun w' => ∃ n : Later w, w' = n.u) hm hB ⟨⟨_, (Below.refl w.heap.size w).drew⟩, rfl⟩ h

/-- What stands at a place of the tokens' list. -/
theorem places_end (s : ByteArray) (a : Nat) (ha : a ≤ s.size) (h : (rest s a).length ≤ Pl.eo (rest s a)) : Pl.tk (rest s a) a = ([⟨4, rest s a, [], s.size⟩], none) ∧ val (rest s a) = true := by
  have h1 := Pl.eo_le (rest s a)
  have h2 := rest_len s a
  have := Pl.tk_end (rest s a) a h
  refine ⟨?_, ?_⟩
  · rw [this, show a + Pl.eo (rest s a) = s.size from by omega]
  · unfold val; rw [beq_iff_eq]; omega
theorem val_take (l : Pl.Bs) : val (l.take (Pl.eo l)) = true := by
  unfold val
  rw [Pl.eo_take, List.length_take, beq_iff_eq]
  have := Pl.eo_le l
  omega

/-- What the law asks of the token at place k, behind offset a. -/
def Placed (s : ByteArray) (A : List Pl.Tok) (k n a kd : Nat) (ld tx : ByteArray) (ps : Nat) : Prop :=
  (∃ t, A[k]? = some t ∧ t4 t = ⟨kd, ld, tx, ps⟩) ∧ val ld.data.toList = true ∧ ps = a + ld.size ∧ ps + tx.size ≤ s.size ∧ s.extract ps (ps + tx.size) = tx ∧
  ((k + 1 = n ∧ kd = 4 ∧ tx = ⟨#[]⟩ ∧ ps = s.size) ∨ (k + 1 < n ∧ kd ≠ 0 ∧ Pl.kd tx.data.toList = kd ∧ Pl.tk (rest s (ps + tx.size)) (ps + tx.size) = (A.drop (k + 1), none)))
theorem placed (s : ByteArray) (A : List Pl.Tok) (k n a : Nat) (hk : k < A.length) (hn : A.length = n) (ha : a ≤ s.size) (h : Pl.tk (rest s a) a = (A.drop k, none)) : ∃ kd ld tx ps, Placed s A k n a kd ld tx ps := by
  have hdrop := List.drop_eq_getElem_cons hk
  have hget := List.getElem?_eq_getElem hk
  by_cases hfin : (rest s a).length ≤ Pl.eo (rest s a)
  · obtain ⟨hT, hval⟩ := places_end s a ha hfin
    rw [hT, hdrop, Prod.mk.injEq, List.cons.injEq] at h
    obtain ⟨⟨hx, hnil⟩, _⟩ := h
    have hlast : k + 1 = n := by
      have := congrArg List.length hnil
      rw [List.length_drop, List.length_nil] at this
      omega
    refine ⟨4, Pl.mk (rest s a), ⟨#[]⟩, s.size, ⟨_, hget, by rw [← hx]; rfl⟩, by rw [Pl.mk_list]; exact hval, ?_, Nat.le_refl _, ?_, .inl ⟨hlast, rfl, rfl, rfl⟩⟩
    · rw [Pl.mk_size, rest_len]; omega
    · apply Pl.list_ext
      rw [Pl.extract_list]
      show (s.data.toList.take s.size).drop s.size = []
      rw [List.drop_of_length_le]
      rw [List.length_take]; omega
  · have hel := Pl.eo_le (rest s a)
    have hrl := rest_len s a
    obtain ⟨q, hq⟩ : ∃ q, q = Pl.eo (rest s a) := ⟨_, rfl⟩
    have hd : (rest s a).drop q = rest s (a + q) := rest_rest s a q
    have hvt := val_take (rest s a)
    rw [← hq] at hel hfin hvt
    by_cases hk0 : (Pl.fst (rest s (a + q))).1 = 0
    · have hT := Pl.tk_bad (rest s a) a (by rw [← hq]; omega) (by rw [← hq, hd]; exact hk0)
      rw [hT, Prod.mk.injEq] at h
      cases h.2
    · obtain ⟨kd, m, hf⟩ : ∃ kd m, Pl.fst (rest s (a + q)) = (kd, m) := ⟨_, _, rfl⟩
      rw [hf] at hk0
      have hq2 := Pl.fst_le (rest s (a + q))
      rw [hf, rest_len] at hq2
      simp only at hk0 hq2
      have hT := Pl.tk_go (rest s a) a (by rw [← hq]; omega) kd m (by rw [← hq, hd]; exact hf) hk0
      rw [← hq, hd, rest_rest s a (q + m)] at hT
      rw [h, hdrop, Prod.mk.injEq, List.cons.injEq] at hT
      obtain ⟨⟨hx, htl⟩, hno⟩ := hT
      have hw := Pl.fst_take (rest s (a + q)) kd m hf hk0
      have hnum : a + (q + m) = a + q + m := by omega
      rw [hnum] at htl hno
      have htk : Pl.tk (rest s (a + q + m)) (a + q + m) = (A.drop (k + 1), none) := Prod.ext htl.symm hno.symm
      have hmore := tk_some _ _ (congrArg Prod.snd htk)
      rw [htk] at hmore
      simp only [List.length_drop] at hmore
      have hz : (Pl.mk ((rest s (a + q)).take m)).size = m := by rw [Pl.mk_size, List.length_take, rest_len]; omega
      refine ⟨kd, Pl.mk ((rest s a).take q), Pl.mk ((rest s (a + q)).take m), a + q, ⟨_, hget, by rw [hx]; rfl⟩, by rw [Pl.mk_list]; exact hvt, ?_, ?_, ?_, .inr ⟨by omega, hk0, ?_, ?_⟩⟩
      · rw [Pl.mk_size, List.length_take]; omega
      · rw [hz]; omega
      · rw [hz]
        apply Pl.list_ext
        rw [Pl.mk_list, Pl.extract_list]; unfold rest; rw [List.drop_take, Nat.add_sub_cancel_left]
      · rw [Pl.mk_list]; exact Pl.kd_whole _ _ hw
      · rw [hz]; exact htk

theorem valid_later {W : World} (n : Later W) (x : ByteArray) (h : val x.data.toList = true) (hx : x.size ≤ maxLen) :
    Calls Tryd.prog 20 #[.string x] n.u fun e w'' => e = .returned (.bool true) ∧ ∃ m : Later W, w'' = m.u :=
  (tvalid_is x true h n.u hx).mono fun e w'' ⟨he, hb⟩ => ⟨he, ⟨w'', n.h.trans (hb.mono n.h.size)⟩, rfl⟩
theorem kind_later {W : World} (n : Later W) (x : ByteArray) (k : Nat) (h : Pl.kd x.data.toList = k) (hx : x.size ≤ 1099511627776) (hE : Errs W) :
    Calls Tryd.prog 16 #[.string x] n.u fun e w'' => e = .returned (.int .i64 k) ∧ ∃ m : Later W, w'' = m.u :=
  (kind_is x k h n.u hx (hE.later n.h)).mono fun e w'' ⟨he, hb⟩ => ⟨he, ⟨w'', n.h.trans (hb.mono n.h.size)⟩, rfl⟩

set_option maxHeartbeats 6400000 in
set_option maxRecDepth 100000 in
theorem lawPlaces (s : ByteArray) (w : World) (hE : Errs w) (hs : s.size ≤ maxLen) :
    Calls Tryd.prog 7 #[.string s] w fun e w' => e = .returned (.bool true) ∧ Below w.heap.size w w' := by
  have HE := Lib.hid hE
  clear hE
  unfold maxLen at hs
  by_cases h1 : 1000 < s.size
  · go_enter Tryd.func7, Tryd.ntmps7
    go_wp2_with (go_at_call 10; refine (awake_any _ HE.out).mono ?_; rintro e w1 ⟨rfl, k1⟩)
    go_ret
    exact ⟨rfl, k1⟩
  · cases hR : (Pl.tk s.data.toList 0).2 with
    | some off =>
      have HA := Lib.hid (fun w hE => toks_any s w (by omega) hE)
      have HR := Lib.hid hR
      clear hR
      go_enter Tryd.func7, Tryd.ntmps7
      go_wp2_with (first
        | (go_at_call 11; refine (HA.out _ HE.out).mono ?_; intro e w1 hx; obtain ⟨rfl, k1⟩ := lexed_err hx off HR.out; clear hx; have HE1 := Lib.hid (HE.out.later k1))
        | (go_at_call 10; refine (awake_any _ HE1.out).mono ?_; rintro e w2 ⟨rfl, k2⟩; have k12 := k1.trans (k2.mono k1.size)))
      go_ret
      exact ⟨rfl, k12⟩
    | none =>
      have hlen := Pl.tk_len s.data.toList 0
      rw [← Lib.size_eq] at hlen
      have h0 := tk_some _ _ hR
      have hTA : Pl.tk s.data.toList 0 = ((Pl.tk s.data.toList 0).1, none) := Prod.ext rfl hR
      generalize hA : (Pl.tk s.data.toList 0).1 = A at *
      clear hA
      obtain ⟨n, hn⟩ : ∃ n, A.length = n := ⟨_, rfl⟩
      have H1 := Lib.hid (fun w hE => row_of s A n w (by omega) hE hTA hn (by omega))
      have hstart : Pl.tk (rest s 0) 0 = (A.drop 0, none) := by rw [rest_all, List.drop_zero]; exact hTA
      have HST := Lib.hid hstart
      have HN := Lib.hid hn
      rw [hn] at hlen h0
      clear hTA hR hn hstart
      go_enter Tryd.func7, Tryd.ntmps7
      go_wp2_with (go_at_call 11; refine (H1.out _ HE.out).mono ?_; rintro e w1 ⟨b, o, c, rfl, hbb, ht, k1⟩; have HT := Lib.hid ht; have HE1 := Lib.hid (HE.out.later k1); have K1 := Lib.hid k1; clear ht k1)
      go_loopw [6, 7] (fun u i wr => ∃ k a : Nat, k < n ∧ a ≤ s.size ∧ i = .int .i64 k ∧ u = .int .i64 a ∧ Pl.tk (rest s a) a = (A.drop k, none) ∧ Below w1.heap.size w1 wr) (fun _ i _ => n - (intOf i).toNat)
      case atStart => exact ⟨0, 0, by omega, Nat.zero_le _, rfl, rfl, HST.out, Below.refl _ _⟩
      case round =>
        obtain ⟨k, a, hk, ha, rfl, rfl, htk, hbel⟩ := hrel
        have HTr := Lib.hid (HT.out.later hbb hbel)
        have HEr := Lib.hid (HE1.out.later hbel)
        have HB := Lib.hid (K1.out.trans (hbel.mono K1.out.size))
        have HB1 := Lib.hid hbel
        have hkA : k < A.length := by rw [HN.out]; exact hk
        obtain ⟨kd, ld, tx, ps, ⟨t, hg, ht4⟩, hval, hps, htx, hex, hway⟩ := placed s A k n a hkA HN.out ha htk
        have g1 : At4 wr b (o + k * 4) ⟨kd, ld, tx, ps⟩ := by
          have := HTr.out k (t4 t) (by rw [List.getElem?_map, hg]; rfl)
          rw [Nat.mul_comm, ht4] at this
          exact this
        have G1 := Lib.hid g1
        have HV := Lib.hid hval
        have HX := Lib.hid hex
        have HWAY := Lib.hid hway
        have hlz : ld.size ≤ maxLen := by unfold maxLen; omega
        have hlz2 : ld.size ≤ s.size := by omega
        have HPS := Lib.hid hps
        clear hps
        clear hkA hg ht4 hval hex hway g1 hbel htk
        go_wp2_with (refine wpList_load_mid rfl 32 _ rfl b (o + k * 4) rfl [.int .i64 kd, .string ld, .string tx, .int .i64 ps] _ (at4_range G1.out) Tryd.underlying32 rfl size4 ?_)
        obtain ⟨wx, hwx⟩ : ∃ wx, wx = wr.alloc (.cells #[.int .i64 kd, .string ld, .string tx, .int .i64 ps] 32) := ⟨_, rfl⟩
        have hblk : wx.heap[wr.heap.size]? = some (.cells #[.int .i64 kd, .string ld, .string tx, .int .i64 ps] 32 (0, 0)) := by rw [hwx]; exact heap_alloc_new _ _
        have hbx : Below w1.heap.size w1 wx := by rw [hwx]; exact HB1.out.alloc HB1.out.size _
        have hsz : wr.heap.size < wx.heap.size := lt_of_block hblk
        have cc : ∀ (m : Later wx) (f : Nat), m.u.cell? ⟨wr.heap.size, f, none⟩ = (#[.int .i64 kd, .string ld, .string tx, .int .i64 ps] : Array Value)[f]? := by
          intro m f
          exact cell_of_row m.u wr.heap.size f _ _ _ ((m.h.block _ hsz).trans hblk)
        have c0 : ∀ m : Later wx, m.u.cell? ⟨wr.heap.size, 0, none⟩ = some (.int .i64 kd) := fun m => cc m 0
        have c1 : ∀ m : Later wx, m.u.cell? ⟨wr.heap.size, 1, none⟩ = some (.string ld) := fun m => cc m 1
        have c2 : ∀ m : Later wx, m.u.cell? ⟨wr.heap.size, 2, none⟩ = some (.string tx) := fun m => cc m 2
        have c3 : ∀ m : Later wx, m.u.cell? ⟨wr.heap.size, 3, none⟩ = some (.int .i64 ps) := fun m => cc m 3
        have HBX := Lib.hid hbx
        have HEX := Lib.hid (HE1.out.later hbx)
        clear cc hblk hbx
        rw [← hwx]
        refine region_later (by kernel_rfl) (by kernel_rfl) ?_
        iterate 2 (go_big_quiet_step (fail))
        go_big_quiet_step (exact valid_later _ _ HV.out hlz)
        have d1 : ((ps : Int) != (a : Int) + (ld.size : Int)) = false := by have := HPS.out; simp; omega
        have d2 : decide ((s.size : Int) - (ps : Int) < (tx.size : Int)) = false := decide_eq_false (by omega)
        have d3 : ((s.extract ps (ps + tx.size)).toList == tx.toList) = true := by rw [HX.out]; exact beq_self_eq_true _
        have q1 : (0 : Int) ≤ (ps : Int) := by omega
        have q2 : (ps : Int) ≤ (ps : Int) + (tx.size : Int) := by omega
        have q3 : (ps : Int) + (tx.size : Int) ≤ (s.size : Int) := by omega
        have q4 : (0 : Int) ≤ (ps : Int) + (tx.size : Int) := by omega
        repeat (go_big_quiet_step (fail))
        refine wpQuiet_nil ?_
        intro _ hw'
        obtain ⟨m1, rfl⟩ := hw'
        have e0 := c0 m1
        have e1 := c1 m1
        have e2 := c2 m1
        have e3 := c3 m1
        have hm1 := m1.h
        have HB2 := Lib.hid (HBX.out.trans (hm1.mono HBX.out.size))
        have HE2 := Lib.hid (HEX.out.later hm1)
        clear c0 c1 c2 c3 d1 d2 d3 q1 q2 q3 q4
        rcases HWAY.out with ⟨hl, rfl, rfl, hpe⟩ | ⟨hl, hk0, hkd, hnext⟩
        · have hke : ((k : Int) == (n : Int) - 1) = true := beq_iff_eq.2 (by omega)
          have hpb : ((ps : Int) == (s.size : Int)) = true := beq_iff_eq.2 (by omega)
          go_wp2_with (go_at_call 10; refine (awake_any _ HE2.out).mono ?_; rintro e w3 ⟨rfl, k3⟩)
          go_ret
          have kk := K1.out.trans (HB2.out.mono K1.out.size)
          exact ⟨rfl, kk.trans (k3.mono kk.size)⟩
        · have hke : ((k : Int) == (n : Int) - 1) = false := beq_eq_false_iff_ne.2 (by omega)
          have hkb : ((kd : Int) == 0) = false := beq_eq_false_iff_ne.2 (by omega)
          have htz : tx.size ≤ 1099511627776 := by omega
          have hblt : wr.heap.size < m1.u.heap.size := Lib.lt_of_cell e0
          have c0 : ∀ m : Later m1.u, m.u.cell? ⟨wr.heap.size, 0, none⟩ = some (.int .i64 kd) := fun m => (m.h.cell (p := ⟨wr.heap.size, 0, none⟩) hblt).trans e0
          have c2 : ∀ m : Later m1.u, m.u.cell? ⟨wr.heap.size, 2, none⟩ = some (.string tx) := fun m => (m.h.cell (p := ⟨wr.heap.size, 2, none⟩) hblt).trans e2
          have c3 : ∀ m : Later m1.u, m.u.cell? ⟨wr.heap.size, 3, none⟩ = some (.int .i64 ps) := fun m => (m.h.cell (p := ⟨wr.heap.size, 3, none⟩) hblt).trans e3
          have HK := Lib.hid hkd
          have HNX := Lib.hid hnext
          clear hkd hnext hk0
          go_wp2_with fail
          clear e0 e1 e2 e3
          refine region_later (by kernel_rfl) (by kernel_rfl) ?_
          iterate 6 (go_big_quiet_step (fail))
          go_big_quiet_step (exact kind_later _ _ _ HK.out htz HE2.out)
          repeat (go_big_quiet_step (fail))
          refine wpQuiet_nil ?_
          intro _ hw'
          obtain ⟨m2, rfl⟩ := hw'
          have e2 := c2 m2
          have e3 := c3 m2
          have HB3 := Lib.hid (HB2.out.trans (m2.h.mono HB2.out.size))
          clear c0 c2 c3
          go_wp2_with fail
          exact ⟨⟨k + 1, ps + tx.size, by omega, by omega, by go_num, by go_num, HNX.out, HB3.out⟩, by simp [intOf]; omega⟩
end Go.Proofs.YtebmmpepniokjaaDoor
