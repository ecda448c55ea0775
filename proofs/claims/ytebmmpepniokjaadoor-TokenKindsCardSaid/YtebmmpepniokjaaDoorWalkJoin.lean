/- The walks of the reference's Same, of Join and of the reference's Join. -/
import Derived.Test.YtebmmpepniokjaaDoorWalkRow
import Derived.Test.YtebmmpepniokjaaDoorWalkBuild
import Derived.Deep.MidRow
namespace Go.Proofs.YtebmmpepniokjaaDoor
open Go.RowKit
set_option linter.unusedVariables false
set_option linter.unusedSimpArgs false

theorem at4_range {w : World} {b o : Nat} {t : T4} (h : At4 w b o t) : w.rangeAt b o (cells4 t) := by
  obtain ⟨h1, h2, h3, h4⟩ := h
  intro j v hv
  match j, hv with
  | 0, hv => simp [cells4] at hv; subst hv; exact h1
  | 1, hv => simp [cells4] at hv; subst hv; exact h2
  | 2, hv => simp [cells4] at hv; subst hv; exact h3
  | 3, hv => simp [cells4] at hv; subst hv; exact h4
theorem size4 : (Tryd.prog.info? 32).map (·.size) = some 4 := by kernel_rfl
/-- A token is loaded. -/
theorem load4 {w : World} {b o : Nat} {t : T4} (h : At4 w b o t) : (Instr.loadAt 32 (.pointer (some ⟨b, o, none⟩))).run Tryd.prog w = .ok (.agg #[.int .i64 t.k, .string t.lead, .string t.text, .int .i64 t.pos]) w :=
  run_loadAt_mid w b o 32 (cells4 t) _ (at4_range h) Tryd.underlying32 rfl size4
theorem at4_drewN {w : World} {b o : Nat} {t : T4} (h : At4 w b o t) (n : Nat) : At4 (w.drewN n) b o t := h

/-- A load in a region that only reads, by what it answers in every world that the region may stand in. -/
theorem quiet_load {P : Program} {ops : Array Oper} {C : World → Prop} {Q : Act → Prop} {o : Oper} {rest : List Oper} {a : Act} (hw : Region.wanted o (yielded ops a.tmps) = true) (ty : TypeId) (x : Operand) (ho : o.op = .load ty x) (p v : Value) (hx : a.eval x = p)
    (hl : ∀ w, C w → (Instr.loadAt ty p).run P w = .ok v w) (h : wpQuiet P ops C Q rest (a.put o.dst v)) : wpQuiet P ops C Q (o :: rest) a := by
  unfold wpQuiet
  rw [if_pos hw]
  refine ⟨v, fun w hC => ?_, h⟩
  unfold Oper.quietAt execOp
  simp only [ho, hx, hl w hC, Sem.run_bind, Sem.run_pure, Result.andThen_ok]
  exact ⟨rfl, rfl⟩

set_option maxHeartbeats 400000 in
theorem same_none (a b : Option Addr) (c d : Nat) (w : World) :
    Calls Tryd.prog 13 #[.slice a 0 c, .slice b 0 d] w fun e w' => e = .returned (.bool true) ∧ w = w' := by
  go_enter Tryd.func13, Tryd.ntmps13
  go_wp2
  refine wp_loop_rounds 1 ?_; rw [rounds_succ]
  go_wp2
  go_ret
  exact ⟨rfl, rfl⟩
set_option maxHeartbeats 1600000 in
theorem same_some (g go h ho c d : Nat) (L : List T4) (w : World) (hn : L.length ≤ 1099511627776) (hg : Toks w g go L) (hh : Toks w h ho L) :
    Calls Tryd.prog 13 #[.slice (some ⟨g, go, none⟩) L.length c, .slice (some ⟨h, ho, none⟩) L.length d] w fun e w' => e = .returned (.bool true) ∧ ∃ n, w' = w.drewN n := by
  have HG := Lib.hid hg
  have HH := Lib.hid hh
  clear hg hh
  obtain ⟨n, hnn⟩ : ∃ n, n = L.length := ⟨_, rfl⟩
  rw [← hnn] at hn ⊢
  have HN := Lib.hid hnn
  clear hnn
  go_enter Tryd.func13, Tryd.ntmps13
  go_wp2
  go_loopw [5] (fun i wr => ∃ k nq : Nat, k ≤ n ∧ i = .int .i64 k ∧ wr = w.drewN nq) (fun i _ => n - (intOf i).toNat)
  case atStart => exact ⟨0, 0, Nat.zero_le _, rfl, rfl⟩
  case round =>
    obtain ⟨k, nq, hk, rfl, rfl⟩ := hrel
    by_cases hlt : k < n
    · have hlt2 : k < L.length := by rw [← HN.out]; exact hlt
      have g1 := HG.out k _ (List.getElem?_eq_getElem hlt2)
      have h1 := HH.out k _ (List.getElem?_eq_getElem hlt2)
      rw [Nat.mul_comm] at g1 h1
      generalize L[k] = x at g1 h1
      have l1 : ∀ m, (Instr.loadAt 32 (.pointer (some ⟨g, go + k * 4, none⟩))).run Tryd.prog ((w.drewN nq).drewN m) = .ok (.agg #[.int .i64 x.k, .string x.lead, .string x.text, .int .i64 x.pos]) ((w.drewN nq).drewN m) := fun m => load4 (at4_drewN (at4_drewN g1 nq) m)
      have l2 : ∀ m, (Instr.loadAt 32 (.pointer (some ⟨h, ho + k * 4, none⟩))).run Tryd.prog ((w.drewN nq).drewN m) = .ok (.agg #[.int .i64 x.k, .string x.lead, .string x.text, .int .i64 x.pos]) ((w.drewN nq).drewN m) := fun m => load4 (at4_drewN (at4_drewN h1 nq) m)
      clear g1 h1
      go_wp2
      refine wp_region_quiet_lit (by kernel_rfl) (by kernel_rfl) ?_
      iterate 3 (go_big_quiet_step (fail))
      refine quiet_load (by rfl) 32 _ (by rfl) (.pointer (some ⟨g, go + k * 4, none⟩)) _ (by rfl) (fun u hu => by obtain ⟨m, rfl⟩ := hu; exact l1 m) ?_
      simp only [Act.put, List.setIfInBounds_toArray, List.set_cons_succ, List.set_cons_zero]
      iterate 3 (go_big_quiet_step (fail))
      refine quiet_load (by rfl) 32 _ (by rfl) (.pointer (some ⟨h, ho + k * 4, none⟩)) _ (by rfl) (fun u hu => by obtain ⟨m, rfl⟩ := hu; exact l2 m) ?_
      simp only [Act.put, List.setIfInBounds_toArray, List.set_cons_succ, List.set_cons_zero]
      go_big_quiet_step (fail)
      refine wpQuiet_nil ?_
      intro _ hw'
      obtain ⟨nq2, rfl⟩ := hw'
      go_wp2
      exact ⟨⟨k + 1, _, by omega, by go_num, rfl⟩, by simp [intOf]; omega⟩
    · go_wp2
      go_ret
      exact ⟨rfl, _, rfl⟩
theorem below_drewN (w : World) (n : Nat) : Below w.heap.size w (w.drewN n) := ⟨rfl, rfl, rfl, Nat.le_refl _, fun _ _ => rfl⟩
theorem same_any (u v : Value) (L : List T4) (w : World) (hn : L.length ≤ 1099511627776) (hu : Reads w u L) (hv : Reads w v L) :
    Calls Tryd.prog 13 #[u, v] w fun e w' => e = .returned (.bool true) ∧ Below w.heap.size w w' := by
  by_cases h0 : L.length = 0
  · obtain ⟨a, c, rfl⟩ := reads_len hu
    obtain ⟨b, d, rfl⟩ := reads_len hv
    rw [h0]
    exact (same_none a b c d w).mono fun e w' ⟨he, hw⟩ => ⟨he, hw ▸ Below.refl _ _⟩
  · rcases hu with ⟨rfl, _⟩ | ⟨g, go, c, rfl, _, hg, _⟩
    · exact absurd rfl h0
    · rcases hv with ⟨rfl, _⟩ | ⟨h, ho, d, rfl, _, hh, _⟩
      · exact absurd rfl h0
      · exact (same_some g go h ho c d L w hn hg hh).mono fun e w' ⟨he, n, hw⟩ => ⟨he, hw ▸ below_drewN w n⟩

/- ### Join -/
/-- Lead and text of each token. -/
def jn (L : List T4) : Pl.Bs := (L.map fun t => t.lead.data.toList ++ t.text.data.toList).flatten
theorem jn_take (L : List T4) (k : Nat) (h : k < L.length) : jn (L.take (k + 1)) = jn (L.take k) ++ L[k].lead.data.toList ++ L[k].text.data.toList := by
  unfold jn
  rw [List.take_succ_eq_append_getElem h, List.map_append, List.flatten_append]
  simp
theorem jn_le (L : List T4) (k : Nat) : (jn (L.take k)).length ≤ (jn L).length := by
  have : jn L = jn (L.take k) ++ jn (L.drop k) := by unfold jn; rw [← List.flatten_append, ← List.map_append, List.take_append_drop]
  rw [this, List.length_append]; omega
theorem jn_step (L : List T4) (k : Nat) (h : k < L.length) : (jn (L.take k)).length + L[k].lead.size + L[k].text.size ≤ (jn L).length := by
  have h1 := jn_le L (k + 1)
  rw [jn_take L k h, List.length_append, List.length_append, ← Lib.size_eq, ← Lib.size_eq] at h1
  exact h1
theorem new_builder (w : World) : BHolds w.heap.size [] (w.alloc (.cells #[.pointer none, .slice none 0 0] 44)) := by
  have e2 : (w.alloc (.cells #[.pointer none, .slice none 0 0] 44)).heap[w.heap.size]? = some (.cells #[.pointer none, .slice none 0 0] 44 (0, 0)) := heap_alloc_new _ _
  exact .inl ⟨Nat.le_refl _, .slice none 0 0, e2, World.ownsRowF_nil _ _ _ _, by simp [Value.ownBlock]⟩
set_option maxHeartbeats 1600000 in
theorem join_some (g go c n : Nat) (L : List T4) (w : World) (hnn : n = L.length) (hl : (jn L).length ≤ 1099511627776) (hn : n ≤ 1099511627776) (hb : g < w.heap.size) (hg : Toks w g go L) :
    Calls Tryd.prog 18 #[.slice (some ⟨g, go, none⟩) n c] w fun e w' => e = .returned (.string (Pl.mk (jn L))) ∧ Below w.heap.size w w' := by
  have HG := Lib.hid hg
  have HN := Lib.hid hnn
  have HB0 := Lib.hid (new_builder w)
  have HA0 := Lib.hid ((Below.refl w.heap.size w).alloc (Nat.le_refl _) (.cells #[.pointer none, .slice none 0 0] 44))
  clear hg hnn
  go_enter Tryd.func18, Tryd.ntmps18
  go_wp2_with fail
  go_loopw [8] (fun i wr => ∃ k : Nat, k ≤ n ∧ i = .int .i64 k ∧ BHolds w.heap.size (jn (L.take k)) wr ∧ Below w.heap.size w wr) (fun i _ => n - (intOf i).toNat)
  case atStart => exact ⟨0, Nat.zero_le _, rfl, HB0.out, HA0.out⟩
  case round =>
    obtain ⟨k, hk, rfl, hbb, hbel⟩ := hrel
    have HBB := Lib.hid hbb
    have HBE := Lib.hid hbel
    have hwz := hbel.size
    by_cases hlt : k < n
    · have hlt2 : k < L.length := by rw [← HN.out]; exact hlt
      have g1 := (HG.out.later hb hbel) k _ (List.getElem?_eq_getElem hlt2)
      have hstep := jn_step L k hlt2
      have HT := Lib.hid (jn_take L k hlt2)
      rw [Nat.mul_comm] at g1
      generalize L[k] = x at *
      have G1 := Lib.hid g1
      clear g1 hbb hbel
      have HOLD := Lib.hid (holds_later HBB.out ((Below.refl _ _).alloc (Nat.le_refl wr.heap.size) (.cells #[.int .i64 x.k, .string x.lead, .string x.text, .int .i64 x.pos] 32)))
      have hnew : (wr.alloc (.cells #[.int .i64 x.k, .string x.lead, .string x.text, .int .i64 x.pos] 32)).heap[wr.heap.size]? = some (.cells #[.int .i64 x.k, .string x.lead, .string x.text, .int .i64 x.pos] 32 (0, 0)) := heap_alloc_new _ _
      have HNEW := Lib.hid hnew
      have hbw := Nat.lt_of_lt_of_le (holds_lt HBB.out) (Nat.le_refl _)
      clear hnew
      go_wp2_with (refine wpList_load_mid rfl 32 _ rfl g (go + k * 4) rfl [.int .i64 x.k, .string x.lead, .string x.text, .int .i64 x.pos] _ (at4_range G1.out) Tryd.underlying32 rfl size4 ?_)
      refine (wstr_any w.heap.size (jn (L.take k)) x.lead (wr.alloc (.cells #[.int .i64 x.k, .string x.lead, .string x.text, .int .i64 x.pos] 32)) HOLD.out (by omega)).mono ?_
      rintro e w1 ⟨rfl, hh1, hb1, ho1⟩
      have hk1 := ho1 _ _ HNEW.out (by simp; omega) (by intro c fz; simp)
      have hc1 := cell_of_row w1 wr.heap.size 2 _ _ _ hk1
      simp at hc1
      have HH1 := Lib.hid hh1
      clear hk1 ho1 hh1
      go_wp2_with (go_at_call 28; refine (wstr_any w.heap.size _ x.text _ HH1.out (by rw [List.length_append, ← Lib.size_eq]; omega)).mono ?_; rintro e w2 ⟨rfl, hh2, hb2, _⟩; have HH2 := Lib.hid hh2; clear hh2)
      go_roundw
      case rel =>
        refine ⟨k + 1, by omega, by go_num, by rw [HT.out]; exact HH2.out, ?_⟩
        exact ((HBE.out.alloc hwz _).trans hb1).trans hb2
      case measure => simp [intOf]; omega
    · obtain rfl : k = n := by omega
      have HF : Hid (BHolds w.heap.size (jn L) wr) := Lib.hid (by have := HBB.out; rw [HN.out, List.take_length] at this; exact this)
      clear hbb hbel
      go_wp2_with (go_at_call 29; refine (bstring_any w.heap.size _ _ HF.out).mono ?_; rintro e w2 ⟨rfl, hb2⟩)
      go_ret
      exact ⟨rfl, HBE.out.trans hb2⟩
set_option maxHeartbeats 800000 in
theorem join_none (a : Option Addr) (c : Nat) (w : World) :
    Calls Tryd.prog 18 #[.slice a 0 c] w fun e w' => e = .returned (.string (Pl.mk [])) ∧ Below w.heap.size w w' := by
  have HB0 := Lib.hid (new_builder w)
  have HA0 := Lib.hid ((Below.refl w.heap.size w).alloc (Nat.le_refl _) (.cells #[.pointer none, .slice none 0 0] 44))
  go_enter Tryd.func18, Tryd.ntmps18
  go_wp2_with fail
  refine wp_loop_rounds 1 ?_; rw [rounds_succ]
  go_wp2_with (go_at_call 29; refine (bstring_any w.heap.size _ _ HB0.out).mono ?_; rintro e w2 ⟨rfl, hb2⟩)
  go_ret
  exact ⟨rfl, HA0.out.trans hb2⟩
theorem join_any (v : Value) (L : List T4) (w : World) (h : Reads w v L) (hl : (jn L).length ≤ 1099511627776) (hn : L.length ≤ 1099511627776) :
    Calls Tryd.prog 18 #[v] w fun e w' => e = .returned (.string (Pl.mk (jn L))) ∧ Below w.heap.size w w' := by
  rcases h with ⟨rfl, a, c, rfl, _⟩ | ⟨b, o, c, rfl, h1, h2, h3⟩
  · exact join_none a c w
  · exact join_some b o c _ L w rfl hl hn h1 h2
theorem join_is (v : Value) (L : List T4) (x : ByteArray) (hx : Pl.mk (jn L) = x) (w : World) (h : Reads w v L) (hl : (jn L).length ≤ 1099511627776) (hn : L.length ≤ 1099511627776) :
    Calls Tryd.prog 18 #[v] w fun e w' => e = .returned (.string x) ∧ Below w.heap.size w w' := hx ▸ join_any v L w h hl hn

/- ### The reference's Join -/
theorem rjoin_none (a : Option Addr) (c : Nat) (w : World) :
    Calls Tryd.prog 19 #[.slice a 0 c] w fun e w' => e = .returned (.string (Pl.mk [])) ∧ Below w.heap.size w w' := by
  go_enter Tryd.func19, Tryd.ntmps19
  go_wp2_with fail
  refine wp_loop_rounds 1 ?_; rw [rounds_succ]
  go_wp2_with fail
  go_ret
  exact ⟨rfl, Below.refl _ _⟩
set_option maxHeartbeats 1600000 in
theorem rjoin_some (g go c n : Nat) (L : List T4) (w : World) (hnn : n = L.length) (hl : (jn L).length ≤ 1099511627776) (hn : n ≤ 1099511627776) (hg : Toks w g go L) :
    Calls Tryd.prog 19 #[.slice (some ⟨g, go, none⟩) n c] w fun e w' => e = .returned (.string (Pl.mk (jn L))) ∧ Below w.heap.size w w' := by
  have HG := Lib.hid hg
  have HN := Lib.hid hnn
  clear hg hnn
  go_enter Tryd.func19, Tryd.ntmps19
  go_wp2_with fail
  go_loopw [3, 4] (fun o i wr => ∃ k nq : Nat, k ≤ n ∧ i = .int .i64 k ∧ o = .string (Pl.mk (jn (L.take k))) ∧ wr = w.drewN nq) (fun _ i _ => n - (intOf i).toNat)
  case atStart => exact ⟨0, 0, Nat.zero_le _, rfl, rfl, rfl⟩
  case round =>
    obtain ⟨k, nq, hk, rfl, rfl, rfl⟩ := hrel
    by_cases hlt : k < n
    · have hlt2 : k < L.length := by rw [← HN.out]; exact hlt
      obtain ⟨_, g2, g3, _⟩ := HG.out k _ (List.getElem?_eq_getElem hlt2)
      have hstep := jn_step L k hlt2
      have HT := Lib.hid (jn_take L k hlt2)
      rw [Nat.mul_comm] at g2 g3
      obtain ⟨acc, hacc⟩ : ∃ acc, Pl.mk (jn (L.take k)) = acc := ⟨_, rfl⟩
      have hal : acc.size = (jn (L.take k)).length := by rw [← hacc, Pl.mk_size]
      have HACC := Lib.hid hacc
      rw [hacc]
      clear hacc
      generalize L[k] = x at *
      have s1 : acc.size + x.lead.size ≤ 1099511627776 := by omega
      have s2 : (acc ++ x.lead).size + x.text.size ≤ 1099511627776 := by rw [ByteArray.size_append]; omega
      go_wp2
      go_quiet (fail)
      go_wp2
      have e : acc ++ x.lead ++ x.text = Pl.mk (jn (L.take (k + 1))) := by
        apply Pl.list_ext
        rw [Pl.mk_list, HT.out, ByteArray.data_append, Array.toList_append, ByteArray.data_append, Array.toList_append, ← HACC.out, Pl.mk_list]
      exact ⟨⟨k + 1, _, by omega, by go_num, by rw [e], rfl⟩, by simp [intOf]; omega⟩
    · obtain rfl : k = n := by omega
      have HF : Hid (Pl.mk (jn (L.take k)) = Pl.mk (jn L)) := Lib.hid (by rw [HN.out, List.take_length])
      go_wp2
      go_ret
      exact ⟨ret_str HF.out, below_drewN w nq⟩
theorem rjoin_any (v : Value) (L : List T4) (w : World) (h : Reads w v L) (hl : (jn L).length ≤ 1099511627776) (hn : L.length ≤ 1099511627776) :
    Calls Tryd.prog 19 #[v] w fun e w' => e = .returned (.string (Pl.mk (jn L))) ∧ Below w.heap.size w w' := by
  rcases h with ⟨rfl, a, c, rfl, _⟩ | ⟨b, o, c, rfl, h1, h2, h3⟩
  · exact rjoin_none a c w
  · exact rjoin_some b o c _ L w rfl hl hn h2
end Go.Proofs.YtebmmpepniokjaaDoor
