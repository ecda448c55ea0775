/- Nodes among the arguments and in boxes. -/
import Derived.Test.YtmfmlkdojgbhfaaDoorWalkFits
import Derived.Test.YtmfmlkdojgbhfaaDoorWalkText
namespace Go.Proofs.YtmfmlkdojgbhfaaDoor
open Go.RowKit
set_option linter.unusedVariables false
set_option linter.unusedSimpArgs false

theorem IsT.parts {w : World} {k : Int} {s : ByteArray} {g : List ByteArray} {ks : List Pl.Tr} {r : Sl} (h : IsT w (.node k s g ks) r) :
    s.size ≤ maxLen ∧ Strs (fun b => b < w.heap.size) w r.ga g ∧ ks.length ≤ maxLen ∧ ∃ R, Lies (fun b => b < w.heap.size) w ks r.da R ∧ ∀ (j : Nat) u, ks[j]? = some u → IsT w u (R j) := by
  cases h with
  | mk t r R hs hg hl hk hr => exact ⟨hs, hg, hl, R, hk, hr⟩
theorem Lies.later {w w' : World} {ks : List Pl.Tr} {a : Option Addr} {R : Nat → Sl} (h : Lies (fun b => b < w.heap.size) w ks a R) (hb : Below w.heap.size w w') : Lies (fun b => b < w'.heap.size) w' ks a R :=
  h.keep (Same.below hb fun _ h => h) fun b h => Nat.lt_of_lt_of_le h hb.size
theorem Strs.later {w w' : World} {a : Option Addr} {xs : List ByteArray} (h : Strs (fun b => b < w.heap.size) w a xs) (hb : Below w.heap.size w w') : Strs (fun b => b < w'.heap.size) w' a xs :=
  h.keep (Same.below hb fun _ h => h) fun b h => Nat.lt_of_lt_of_le h hb.size
theorem at4_later {w : World} {b o : Nat} {k : Int} {s : ByteArray} {gv kv : Value} (h : At4 w b o k s gv kv) (m : Later w) : At4 m.u b o k s gv kv := by
  have hb := h.lt
  exact h.keep (P := fun x => x = b) (fun x hx => m.h.block x (by omega)) rfl
theorem at4_below {w w' : World} {b o : Nat} {k : Int} {s : ByteArray} {gv kv : Value} (h : At4 w b o k s gv kv) (hb : Below w.heap.size w w') : At4 w' b o k s gv kv := at4_later h ⟨w', hb⟩
theorem at4_new (w : World) (k : Int) (s : ByteArray) (gv kv : Value) : At4 (w.alloc (.cells #[.int .i64 k, .string s, gv, kv] 25)) w.heap.size 0 k s gv kv := by
  have h := heap_alloc_new w (.cells #[.int .i64 k, .string s, gv, kv] 25)
  refine ⟨?_, ?_, ?_, ?_⟩ <;> rw [cell_of_row _ _ _ _ _ _ h] <;> rfl
theorem quiet_load {P : Program} {ops : Array Oper} {C : World → Prop} {Q : Act → Prop} {o : Oper} {rest : List Oper} {a : Act} (hw : Region.wanted o (yielded ops a.tmps) = true) (ty : TypeId) (x : Operand) (ho : o.op = .load ty x) (p v : Value) (hx : a.eval x = p)
    (hl : ∀ w, C w → (Instr.loadAt ty p).run P w = .ok v w) (h : wpQuiet P ops C Q rest (a.put o.dst v)) : wpQuiet P ops C Q (o :: rest) a := by
  unfold wpQuiet
  rw [if_pos hw]
  refine ⟨v, fun w hC => ?_, h⟩
  unfold Oper.quietAt execOp
  simp only [ho, hx, hl w hC, Sem.run_bind, Sem.run_pure, Result.andThen_ok]
  exact ⟨rfl, rfl⟩
/-- The first kids fit. -/
theorem fitA_drop (k : Int) (ks : List Pl.Tr) (j : Nat) (h : j < ks.length) : Pl.fitA k j (ks.drop j) = (Pl.fits k j ks[j].kind && Pl.fitA k (j + 1) (ks.drop (j + 1))) := by
  rw [List.drop_eq_getElem_cons h]; rfl
theorem box_below (w : World) (o : Obj) : Below w.heap.size w (w.alloc o) := (Below.refl _ _).alloc (Nat.le_refl _) o

set_option maxHeartbeats 1600000 in
theorem fitKids_at (k : Nat) (hk1 : 1 ≤ k) (hk : k < 27) (s : ByteArray) (n gc dc : Nat) (ga da : Option Addr) (ks : List Pl.Tr) (R : Nat → Sl) (w : World) (hT : Tabs w) (hl : ks.length ≤ maxLen) (hks : Lies (fun b => b < w.heap.size) w ks da R) :
    Calls Tryd.prog 42 #[.agg #[.int .i64 k, .string s, .slice ga n gc, .slice da ks.length dc]] w fun e w' => e = .returned (.bool (decide (Pl.least k ≤ ks.length) && Pl.fitA k 0 ks)) ∧ Below w.heap.size w w' := by
  unfold maxLen at hl
  obtain ⟨m, hm⟩ : ∃ m, m = ks.length := ⟨_, rfl⟩
  rw [← hm] at hl ⊢
  have HM := Lib.hid hm
  have HK := Lib.hid hks
  have HT := Lib.hid hT
  obtain ⟨q, hq⟩ : ∃ q, q = Pl.least k := ⟨_, rfl⟩
  have c1 : (w.alloc (.cells #[.int .i64 k, .string s, .slice ga n gc, .slice da m dc] 25)).cell? ⟨3, k, none⟩ = some (.int .i64 q) := by
    rw [hq]; exact (hT.later (box_below _ _)).2.2.2.1 k hk
  have c2 : (w.alloc (.cells #[.int .i64 k, .string s, .slice ga n gc, .slice da m dc] 25)).drew.cell? ⟨3, k, none⟩ = some (.int .i64 q) := c1
  rw [← hq]
  clear hm hks hT hq
  by_cases hlq : q ≤ m
  · have d1 : decide ((m : Int) < q) = false := decide_eq_false (by omega)
    rw [decide_eq_true hlq, Bool.true_and]
    obtain ⟨b, hb⟩ : ∃ b, b = Pl.fitA k 0 ks := ⟨_, rfl⟩
    rw [← hb]
    have HB := Lib.hid hb
    clear hb hlq
    go_enter Tryd.func42, Tryd.ntmps42
    go_wp2_with fail
    go_quiet (fail)
    go_wp2_with fail
    go_loopw [16] (fun i wr => ∃ j : Nat, j ≤ m ∧ i = .int .i64 j ∧ Pl.fitA k j (ks.drop j) = b ∧ Below w.heap.size w wr ∧ w.heap.size < wr.heap.size ∧ wr.cell? ⟨w.heap.size, 0, none⟩ = some (.int .i64 k)) (fun i _ => m - (intOf i).toNat)
    case atStart =>
      exact ⟨0, Nat.zero_le _, rfl, HB.out.symm, box_drewN _ _ _, by simp, (at4_new _ _ _ _ _).1⟩
    case round =>
      obtain ⟨j, hj, rfl, hfit, hbel, hgt, hcell⟩ := hrel
      have HBL := Lib.hid hbel
      have HF := Lib.hid hfit
      clear hfit
      by_cases hlt : j < m
      · have hjk : j < ks.length := by rw [← HM.out]; exact hlt
        have hu := List.getElem?_eq_getElem hjk
        have HD := Lib.hid (fitA_drop k ks j hjk)
        rcases HK.out with h0 | ⟨b1, o1, rfl, hb1, hat⟩
        · rw [h0] at hjk; simp at hjk
        have l1 := Lib.hid (At4.keep (hat j _ hu) (Same.below hbel fun _ h => h) hb1).range
        have HT1 := Lib.hid ((HT.out.later hbel).later (box_below _ (.cells #[.int .i64 ks[j].kind, .string ks[j].text, .slice (R j).ga ks[j].gaps.length (R j).gc, .slice (R j).da ks[j].kids.length (R j).dc] 25)))
        generalize ks[j] = u at *
        generalize R j = r1 at *
        obtain ⟨ga1, gc1, da1, dc1⟩ := r1
        obtain ⟨f, hf⟩ : ∃ f, f = Pl.fits k j u.kind := ⟨_, rfl⟩
        rw [← hf] at HD
        have HFF := Lib.hid hf
        clear hf hat hu hbel
        have hc2 : (wr.alloc (.cells #[.int .i64 u.kind, .string u.text, .slice ga1 u.gaps.length gc1, .slice da1 u.kids.length dc1] 25)).cell? ⟨w.heap.size, 0, none⟩ = some (.int .i64 k) := ((box_below wr _).cell (p := ⟨_, _, none⟩) hgt).trans hcell
        have HC2 := Lib.hid hc2
        cases f
        · have HNo : Hid (b = false) := Lib.hid (by rw [← HF.out, HD.out, Bool.false_and])
          clear hcell
          go_wp2_with (first
            | (refine wpList_load_mid rfl 25 _ rfl b1 (o1 + j * 4) rfl [.int .i64 u.kind, .string u.text, .slice ga1 u.gaps.length gc1, .slice da1 u.kids.length dc1] _ l1.out Tryd.underlying25 rfl sizeN ?_)
            | (go_at_call 17; refine (fits_is _ _ _ _ HFF.out.symm _ HT1.out).mono ?_; rintro e w' ⟨rfl, rfl⟩))
          go_ret
          exact ⟨ret_bool HNo.out.symm, HBL.out.trans ((box_below _ _).mono (HBL.out.size))⟩
        · have HYes : Hid (Pl.fitA k (j + 1) (ks.drop (j + 1)) = b) := Lib.hid (by rw [← HF.out, HD.out, Bool.true_and])
          clear hcell
          go_wp2_with (first
            | (refine wpList_load_mid rfl 25 _ rfl b1 (o1 + j * 4) rfl [.int .i64 u.kind, .string u.text, .slice ga1 u.gaps.length gc1, .slice da1 u.kids.length dc1] _ l1.out Tryd.underlying25 rfl sizeN ?_)
            | (go_at_call 17; refine (fits_is _ _ _ _ HFF.out.symm _ HT1.out).mono ?_; rintro e w' ⟨rfl, rfl⟩))
          exact ⟨⟨j + 1, by omega, by go_num, HYes.out, HBL.out.trans ((box_below _ _).mono (HBL.out.size)), by simp; omega, HC2.out⟩, by simp [intOf]; omega⟩
      · obtain rfl : j = m := by omega
        have HYes : Hid (b = true) := Lib.hid (by
          have e := HF.out
          rw [List.drop_of_length_le (by rw [HM.out]; exact Nat.le_refl _)] at e
          exact e.symm)
        go_wp2_with fail
        go_ret
        exact ⟨ret_bool HYes.out.symm, HBL.out⟩
  · have d1 : decide ((m : Int) < q) = true := decide_eq_true (by omega)
    rw [decide_eq_false hlq, Bool.false_and]
    go_enter Tryd.func42, Tryd.ntmps42
    go_wp2_with fail
    go_quiet (fail)
    go_wp2_with fail
    go_ret
    exact ⟨rfl, box_drewN _ _ _⟩
end Go.Proofs.YtmfmlkdojgbhfaaDoor
