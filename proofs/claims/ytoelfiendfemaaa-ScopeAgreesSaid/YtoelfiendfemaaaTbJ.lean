/- The walks of the reference's space and IsUse. -/
import Derived.Test.YtoelfiendfemaaaUn
import Derived.Test.YtoelfiendfemaaaWalkRRows
import Derived.Deep.RegionWith
import Derived.Deep.DeepCutAuto
import Derived.Deep.RegionLaw
import Derived.Laws.OwnMore
namespace Go.Proofs.Ytoelfiendfemaaa
open Go.RowKit Go.Deep
set_option linter.unusedVariables false
set_option linter.unusedSimpArgs false

theorem str_same (s t : ByteArray) : (s.toList == t.toList) = decide (s = t) := by
  rw [Bool.eq_iff_iff, beq_iff_eq, decide_eq_true_eq]
  exact ⟨fun h => Pl.list_ext (by rw [← Pl.toList_eq, ← Pl.toList_eq]; exact h), fun h => by rw [h]⟩
theorem str_lit (s t : ByteArray) (l : List UInt8) (h : t = ⟨l.toArray⟩) : (s = t) = (s.toList = l) := by
  subst h
  rw [eq_iff_iff]
  exact ⟨fun h => by rw [h, Pl.toList_eq], fun h => Pl.list_ext (by rw [← Pl.toList_eq, h])⟩
/-- The value of a row. -/
abbrev rowV (x : Pl.Rw) (r : Sl) : Value := .agg #[.int .i64 x.parent, .int .i64 x.kind, .string x.text, .slice r.ga x.gaps.length r.gc, .slice r.da x.kids.length r.dc]
set_option maxHeartbeats 800000 in
theorem space_any (p k : Int) (s : ByteArray) (gv kv : Value) (w : World) :
    Calls Try.prog 42 #[.agg #[.int .i64 p, .int .i64 k, .string s, gv, kv]] w fun e w' => e = .returned (.int .i64 (Pl.space k s)) ∧ Below w.heap.size w w' := by
  obtain ⟨g, hg⟩ : ∃ g, g = Pl.space k s := ⟨_, rfl⟩
  rw [← hg]
  have HG := Lib.hid hg
  clear hg
  go_enter Try.func42, Try.ntmps42
  go_wp2
  all_goals go_ret
  all_goals refine ⟨ret_int ?_, (Below.refl _ _).alloc (Nat.le_refl _) _⟩
  all_goals rw [HG.out]
  all_goals unfold Pl.space
  all_goals simp only [str_lit s Pl.sInt [105, 110, 116] rfl, str_lit s Pl.sBool [98, 111, 111, 108] rfl, str_lit s Pl.sNo [] rfl]
  all_goals clear HG
  all_goals simp only [beq_iff_eq, beq_eq_false_iff_ne, ne_eq, bne_iff_ne, bne_eq_false_iff_eq, Bool.not_eq_true', Bool.not_eq_false', List.isEmpty_iff] at *
  all_goals (simp_all <;> try omega)
theorem isUse_any (p k : Int) (s : ByteArray) (gv kv : Value) (w : World) :
    Calls Try.prog 39 #[.agg #[.int .i64 p, .int .i64 k, .string s, gv, kv]] w fun e w' => e = .returned (.bool (decide (Pl.space k s ≠ 0))) ∧ Below w.heap.size w w' := by
  have HS := Lib.hid (fun w => space_any p k s gv kv w)
  generalize Pl.space k s = g at *
  go_enter Try.func39, Try.ntmps39
  go_wp2_with (go_at_call 42; refine (HS.out _).mono ?_; rintro e w' ⟨rfl, hb2⟩; have HB2 := Lib.hid hb2; clear hb2)
  go_ret
  refine ⟨ret_bool ?_, ((Below.refl _ _).alloc (Nat.le_refl _) _).trans (HB2.out.mono (by simp))⟩
  rw [Bool.eq_iff_iff]; simp
end Go.Proofs.Ytoelfiendfemaaa

namespace Go.Proofs.Ytoelfiendfemaaa
open Go.RowKit Go.Deep
set_option linter.unusedVariables false
set_option linter.unusedSimpArgs false

theorem int_no {a b : Int} (h : a ≠ b) : (a == b) = false ∧ (a != b) = true := by
  constructor
  · simpa using h
  · simpa using h
theorem int_yes {a b : Int} (h : a = b) : (a == b) = true ∧ (a != b) = false := by
  subst h
  constructor <;> simp
/-- A table at an address. -/
def Tb (w : World) (b o : Nat) (l : List Pl.Rw) (R : Nat → Sl) : Prop :=
  b < w.heap.size ∧ (∀ (j : Nat) x, l[j]? = some x → At5 w b (o + j * 5) x (R j)) ∧ ∀ (j : Nat) x, l[j]? = some x → Ints (fun y => y < w.heap.size) w (R j).da x.kids
theorem Tb.later {w w' : World} {b o : Nat} {l : List Pl.Rw} {R : Nat → Sl} (h : Tb w b o l R) (hb : Below w.heap.size w w') : Tb w' b o l R :=
  ⟨Nat.lt_of_lt_of_le h.1 hb.size, fun j x hx => (h.2.1 j x hx).keep (hb.block b h.1), fun j x hx => (h.2.2 j x hx).keep (Same.below hb fun _ h => h) fun y hy => Nat.lt_of_lt_of_le hy hb.size⟩
theorem tb_of {w : World} {a : Option Addr} {l : List Pl.Rw} {R : Nat → Sl} (h : TabIn (fun b => b < w.heap.size) w a l R) (hne : 0 < l.length) : ∃ b o, a = some ⟨b, o, none⟩ ∧ Tb w b o l R := by
  rcases h.2.1 with h0 | ⟨b, o, e, hb, hat⟩
  · rw [h0] at hne; simp at hne
  · exact ⟨b, o, e, hb, hat, fun j x hx => (h.2.2 j x hx).2.2⟩
/-- The cells of a row. -/
theorem Tb.row {w : World} {b o : Nat} {l : List Pl.Rw} {R : Nat → Sl} (h : Tb w b o l R) {i : Nat} (hi : i < l.length) :
    ∃ x : Pl.Rw, ∃ r : Sl, l[i]? = some x ∧ Pl.rw l i = x ∧ w.cell? ⟨b, o + i * 5, none⟩ = some (.int .i64 x.parent) ∧ w.cell? ⟨b, o + i * 5 + 1, none⟩ = some (.int .i64 x.kind) ∧ w.cell? ⟨b, o + i * 5 + 2, none⟩ = some (.string x.text) ∧
      w.cell? ⟨b, o + i * 5 + 3, none⟩ = some (.slice r.ga x.gaps.length r.gc) ∧ w.cell? ⟨b, o + i * 5 + 4, none⟩ = some (.slice r.da x.kids.length r.dc) ∧ Ints (fun y => y < w.heap.size) w r.da x.kids ∧ At5 w b (o + i * 5) x r := by
  have hx := List.getElem?_eq_getElem hi
  obtain ⟨c0, c1, c2, c3, c4⟩ := (h.2.1 i _ hx).cells
  exact ⟨_, R i, hx, Pl.rw_get hx, c0, c1, c2, c3, c4, h.2.2 i _ hx, h.2.1 i _ hx⟩
/-- Lists of numbers that a call makes. -/
def IntsP (xs : List Int) (w : World) (e : Ending) (w' : World) : Prop := ∃ a c, e = .returned (.slice a xs.length c) ∧ Ints (fun b => b < w'.heap.size) w' a xs ∧ Below w.heap.size w w'
theorem ints_flat_eq (L : List Int) : ints L = L.flatMap cellsI := by
  unfold ints
  induction L with
  | nil => rfl
  | cons x L ih => rw [List.map_cons, List.flatMap_cons, ← ih]; rfl
theorem ints_own {w : World} {B n : Nat} {v : Value} {L : List Int} (h : w.ownsRow B 3 1 v n (ints L)) (hn : n = L.length) : ∃ a c, v = .slice a L.length c ∧ Ints (fun b => b < w.heap.size) w a L := by
  rw [ints_flat_eq] at h
  obtain ⟨a, c, e, hf⟩ := flat_row (cl := cellsI) (fun _ => rfl) (by decide) h hn
  exact ⟨a, c, e, ints_flat hf⟩
theorem ints_snoc (L : List Int) (x : Int) : ints (L ++ [x]) = ints L ++ [.int .i64 x] := by simp [ints]
theorem blockVars_take (l : List Pl.Rw) (k : Int) (ks : List Int) (j : Nat) (c : Int) (h : ks[j]? = some c) :
    Pl.blockVars l k (ks.take (j + 1)) = Pl.blockVars l k (ks.take j) ++ (if c < k ∧ (Pl.rw l c).kind = 10 then [c] else []) := by
  unfold Pl.blockVars
  rw [List.take_add_one, h, Option.toList_some, List.filter_append]
  congr 1
  by_cases hc : c < k ∧ (Pl.rw l c).kind = 10
  · rw [if_pos hc]; simp [hc]
  · rw [if_neg hc]; simp only [List.filter_cons, List.filter_nil, decide_eq_true_eq, if_neg hc]
theorem declared_block {l : List Pl.Rw} {p k : Int} (h : (Pl.rw l p).kind = 6) : Pl.declared l p k = Pl.blockVars l k (Pl.rw l p).kids := by
  unfold Pl.declared
  rw [if_pos h, if_neg (by omega), List.append_nil]
theorem declared_func {l : List Pl.Rw} {p k : Int} (h : (Pl.rw l p).kind = 2) (h2 : (Pl.rw l k).kind = 6) : Pl.declared l p k = Pl.funcVars l k (Pl.rw l p).kids := by
  unfold Pl.declared
  rw [if_neg (by omega), if_pos ⟨h, h2⟩, List.nil_append]
theorem declared_none {l : List Pl.Rw} {p k : Int} (h : (Pl.rw l p).kind ≠ 6) (h2 : ¬ ((Pl.rw l p).kind = 2 ∧ (Pl.rw l k).kind = 6)) : Pl.declared l p k = [] := by
  unfold Pl.declared
  rw [if_neg h, if_neg h2]; rfl
set_option maxHeartbeats 1600000 in
set_option maxRecDepth 100000 in
theorem decl_block (b o c n : Nat) (l : List Pl.Rw) (R : Nat → Sl) (w : World) (hT : Tb w b o l R) (hok : Pl.Ok l) (hn : n = l.length) (p k : Nat) (hp : p < n) (hk : k < n) (h6 : (Pl.rw l p).kind = 6) :
    Calls Try.prog 50 #[.slice (some ⟨b, o, none⟩) n c, .int .i64 p, .int .i64 k] w (IntsP (Pl.declared l p k) w) := by
  obtain ⟨j0, hj0, hy0, hy1, hy2⟩ := info_parts infoI
  rw [declared_block h6]
  obtain ⟨x, r, hx, hrw, c0, c1, c2, c3, c4, hks, hat⟩ := hT.row (i := p) (by omega)
  obtain ⟨_, _, hkl, hkm⟩ := hok.2 p x hx
  have hll := hok.1
  rw [hrw] at h6 ⊢
  obtain ⟨ga, gc, ka, kc⟩ := r
  simp only at c3 c4 hks
  have HT := Lib.hid hT
  have HN := Lib.hid hn
  have HKM := Lib.hid hkm
  have HKS := Lib.hid hks
  have HAT := Lib.hid hat
  have hbw := hT.1
  have hp0 : (0 : Int) ≤ (p : Int) := Int.natCast_nonneg _
  have hp1 : (p : Int) < (n : Int) := by omega
  have hll2 : n ≤ 1000000 := by omega
  have e1 := (int_yes h6).1
  have e2 : (x.kind == 2) = false := (int_no (by omega)).1
  obtain ⟨m, hm⟩ : ∃ m, m = x.kids.length := ⟨_, rfl⟩
  rw [← hm] at hkl c4
  have HM := Lib.hid hm
  clear hT hok hx hkm hks hat hn hrw hll hm
  go_enter Try.func50, Try.ntmps50
  go_wp2_with fail
  go_loopw [7, 8] (fun v i wr => ∃ j : Nat, ∃ a q cc, ∃ L : List Int, j ≤ m ∧ i = .int .i64 j ∧ v = .slice a q cc ∧ q = L.length ∧ q ≤ j ∧ L = Pl.blockVars l k (x.kids.take j) ∧ wr.ownsRow w.heap.size 3 1 (.slice a q cc) q (ints L) ∧ Below w.heap.size w wr) (fun _ i _ => m - (intOf i).toNat)
  case atStart => exact ⟨0, none, 0, 0, [], Nat.zero_le _, rfl, rfl, rfl, Nat.le_refl _, rfl, World.ownsRow_nil _ _ _ _, Below.refl _ _⟩
  case round =>
    obtain ⟨j, a, q, cc, L, hj, rfl, rfl, hq, hqj, hL, hown, hbel⟩ := hrel
    have hgr := hbel.size
    have hownlt := hown.lt
    have HLT := Lib.hid hownlt
    have HO := Lib.hid hown
    have HL := Lib.hid hL
    have HQ := Lib.hid hq
    have HB := Lib.hid hbel
    obtain ⟨_, w1, _, _, w4⟩ := (HAT.out.keep (hbel.block b hbw)).cells
    simp only at w4
    rw [← HM.out] at w4
    clear hown hL hq hownlt
    by_cases hlt : j < m
    · have hj0' : (0 : Int) ≤ (j : Int) := Int.natCast_nonneg _
      have hj1 : (j : Int) < (m : Int) := by omega
      have hjx : j < x.kids.length := by rw [← HM.out]; exact hlt
      have hgx := List.getElem?_eq_getElem hjx
      have HTk := Lib.hid (blockVars_take l k x.kids j _ hgx)
      have hin := HKM.out _ (List.getElem_mem hjx)
      rcases HKS.out.2 with h0 | ⟨kb, ko, hka, hkb, hat2⟩
      · rw [h0] at hjx; simp at hjx
      obtain rfl : ka = some ⟨kb, ko, none⟩ := hka
      have hc := (hbel.cell (p := ⟨kb, ko + j, none⟩) hkb).trans (hat2 j _ hgx)
      generalize x.kids[j] = d at *
      obtain ⟨e, rfl⟩ : ∃ e : Nat, d = e := ⟨d.toNat, by omega⟩
      have hel : e < l.length := by omega
      have he1 : (e : Int) < (n : Int) := by rw [HN.out]; omega
      have he0 : (0 : Int) ≤ (e : Int) := Int.natCast_nonneg _
      obtain ⟨y, ry, _, hyr, _, d1, _⟩ := (HT.out.later hbel).row hel
      rw [hyr] at HTk
      clear hat2 hgx hin hel hyr
      by_cases hc2 : (e : Int) < k ∧ y.kind = 10
      · have HTk : Hid (Pl.blockVars l k (x.kids.take (j + 1)) = Pl.blockVars l k (x.kids.take j) ++ [(e : Int)]) := Lib.hid (by rw [HTk.out, if_pos hc2])
        obtain ⟨g1, g2⟩ := hc2
        have hy := (int_yes g2).1
        clear g2
        go_wp2_with (refine wpList_append_lies _ rfl (.tmp 48) (.tmp 50) 45 rfl w.heap.size 3 j0 _ 1 8 Try.underlying45 hj0 hy0 hy1 hy2 rfl (by omega) (.slice a q cc) q (ints L) rfl (HO.out.alloc _) ⟨wr.heap.size, 0, none⟩ 1 1 [.int .i64 e] rfl rfl (news_int wr _) (by simp [Value.oneCell']) (by omega) (by unfold maxLen; omega) (by omega) (by simp; omega) (wr.heap.size + 1) (by simp) ?_; intro g5 cap5 w5 hown5 hgrow5 hat5 hlt5; have HO5 := Lib.hid hown5; have HG5 := Lib.hid hgrow5; clear hown5 hgrow5 hat5)
        refine ⟨⟨j + 1, some ⟨g5, 0, none⟩, q + 1, cap5, L ++ [(e : Int)], by omega, by go_num, rfl, by rw [HQ.out]; simp, by omega, by rw [HTk.out, HL.out], by rw [ints_snoc]; exact HO5.out, ?_⟩, by simp [intOf]; omega⟩
        exact (HB.out.alloc hgr _).grown HG5.out (by simp; omega) (fun z hz => (HLT.out z hz).1)
      · have HTk : Hid (Pl.blockVars l k (x.kids.take (j + 1)) = Pl.blockVars l k (x.kids.take j)) := Lib.hid (by rw [HTk.out, if_neg hc2, List.append_nil])
        by_cases g1 : (e : Int) < k
        · have hy := (int_no (fun h => hc2 ⟨g1, h⟩ : y.kind ≠ 10)).1
          clear hc2
          go_wp2_with fail
          exact ⟨⟨j + 1, a, q, cc, L, by omega, by go_num, rfl, HQ.out, by omega, by rw [HTk.out, HL.out], HO.out, HB.out⟩, by simp [intOf]; omega⟩
        · clear hc2
          go_wp2_with fail
          exact ⟨⟨j + 1, a, q, cc, L, by omega, by go_num, rfl, HQ.out, by omega, by rw [HTk.out, HL.out], HO.out, HB.out⟩, by simp [intOf]; omega⟩
    · have hjm : j = m := by omega
      subst hjm
      have HF : Hid (L = Pl.blockVars l k x.kids) := Lib.hid (by rw [HL.out, HM.out, List.take_length])
      have hw2 : wr.cell? ⟨b, o + p * 5 + 1, none⟩ = some (.int .i64 x.kind) := w1
      go_wp2_with fail
      go_ret
      obtain ⟨a2, c2, he, hI⟩ := ints_own HO.out HQ.out
      exact ⟨a2, c2, by rw [he, HF.out]; rfl, by rw [← HF.out]; exact hI, HB.out⟩
end Go.Proofs.Ytoelfiendfemaaa

namespace Go.Proofs.Ytoelfiendfemaaa
open Go.RowKit Go.Deep
set_option linter.unusedVariables false
set_option linter.unusedSimpArgs false

theorem funcVars_take (l : List Pl.Rw) (k : Int) (ks : List Int) (j : Nat) (c : Int) (h : ks[j]? = some c) :
    Pl.funcVars l k (ks.take (j + 1)) = Pl.funcVars l k (ks.take j) ++ Pl.parKids l k c := by
  unfold Pl.funcVars
  rw [List.take_add_one, h, Option.toList_some, List.flatMap_append]
  simp
def parTo (l : List Pl.Rw) (k c : Int) (i : Nat) : List Int := ((Pl.rw l c).kids.take i).filter fun d => decide (c < k ∧ (Pl.rw l c).kind = 3 ∧ (Pl.rw l d).kind = 4)
theorem parTo_all (l : List Pl.Rw) (k c : Int) (i : Nat) (h : i = (Pl.rw l c).kids.length) : parTo l k c i = Pl.parKids l k c := by
  unfold parTo Pl.parKids; rw [h, List.take_length]
theorem parTo_succ (l : List Pl.Rw) (k c : Int) (i : Nat) (d : Int) (h : (Pl.rw l c).kids[i]? = some d) :
    parTo l k c (i + 1) = parTo l k c i ++ (if c < k ∧ (Pl.rw l c).kind = 3 ∧ (Pl.rw l d).kind = 4 then [d] else []) := by
  unfold parTo
  rw [List.take_add_one, h, Option.toList_some, List.filter_append]
  congr 1
  by_cases hc : c < k ∧ (Pl.rw l c).kind = 3 ∧ (Pl.rw l d).kind = 4
  · rw [if_pos hc]; simp [hc]
  · rw [if_neg hc]; simp only [List.filter_cons, List.filter_nil, decide_eq_true_eq, if_neg hc]
set_option maxHeartbeats 3200000 in
set_option maxRecDepth 100000 in
theorem decl_func (b o c n : Nat) (l : List Pl.Rw) (R : Nat → Sl) (w : World) (hT : Tb w b o l R) (hok : Pl.Ok l) (hn : n = l.length) (p k : Nat) (hp : p < n) (hk : k < n) (h2 : (Pl.rw l p).kind = 2) (h6 : (Pl.rw l k).kind = 6) :
    Calls Try.prog 50 #[.slice (some ⟨b, o, none⟩) n c, .int .i64 p, .int .i64 k] w (IntsP (Pl.declared l p k) w) := by
  obtain ⟨j0, hj0, hy0, hy1, hy2⟩ := info_parts infoI
  rw [declared_func h2 h6]
  obtain ⟨x, r, hx, hrw, c0, c1, c2, c3, c4, hks, hat⟩ := hT.row (i := p) (by omega)
  obtain ⟨xk, rk, hxk, hrwk, k0, k1, _⟩ := hT.row (i := k) (by omega)
  obtain ⟨_, _, hkl, hkm⟩ := hok.2 p x hx
  have hll := hok.1
  rw [hrw] at h2 ⊢
  rw [hrwk] at h6
  obtain ⟨ga, gc, ka, kc⟩ := r
  simp only at c3 c4 hks
  have HT := Lib.hid hT
  have HN := Lib.hid hn
  have HKM := Lib.hid hkm
  have HKS := Lib.hid hks
  have HAT := Lib.hid hat
  have HOk := Lib.hid hok
  have hbw := hT.1
  have hp0 : (0 : Int) ≤ (p : Int) := Int.natCast_nonneg _
  have hp1 : (p : Int) < (n : Int) := by omega
  have hk0 : (0 : Int) ≤ (k : Int) := Int.natCast_nonneg _
  have hk1 : (k : Int) < (n : Int) := by omega
  have hll2 : n ≤ 1000000 := by omega
  have e1 := (int_yes h2).1
  have e2 : (x.kind == 6) = false := (int_no (by omega)).1
  have e3 := (int_yes h6).1
  obtain ⟨m, hm⟩ : ∃ m, m = x.kids.length := ⟨_, rfl⟩
  rw [← hm] at hkl c4
  have HM := Lib.hid hm
  clear hT hok hx hkm hks hat hn hrw hll hm hxk hrwk
  go_enter Try.func50, Try.ntmps50
  go_wp2_with fail
  go_loopw [7, 10] (fun v i wr => ∃ j : Nat, ∃ a q cc, ∃ L : List Int, j ≤ m ∧ i = .int .i64 j ∧ v = .slice a q cc ∧ q = L.length ∧ q ≤ j * 1000000 ∧ L = Pl.funcVars l k (x.kids.take j) ∧ wr.ownsRow w.heap.size 3 1 (.slice a q cc) q (ints L) ∧ Below w.heap.size w wr) (fun _ i _ => m - (intOf i).toNat)
  case atStart => exact ⟨0, none, 0, 0, [], Nat.zero_le _, rfl, rfl, rfl, Nat.zero_le _, rfl, World.ownsRow_nil _ _ _ _, Below.refl _ _⟩
  case round =>
    obtain ⟨j, a, q, cc, L, hj, rfl, rfl, hq, hqj, hL, hown, hbel⟩ := hrel
    have hgr := hbel.size
    have HO := Lib.hid hown
    have HL := Lib.hid hL
    have HQ := Lib.hid hq
    have HB := Lib.hid hbel
    obtain ⟨_, w1, _, _, w4⟩ := (HAT.out.keep (hbel.block b hbw)).cells
    simp only at w4
    rw [← HM.out] at w4
    clear hown hL hq
    by_cases hlt : j < m
    · have hj0' : (0 : Int) ≤ (j : Int) := Int.natCast_nonneg _
      have hj1 : (j : Int) < (m : Int) := by omega
      have hjx : j < x.kids.length := by rw [← HM.out]; exact hlt
      have hgx := List.getElem?_eq_getElem hjx
      have HTk := Lib.hid (funcVars_take l k x.kids j _ hgx)
      have hin := HKM.out _ (List.getElem_mem hjx)
      rcases HKS.out.2 with h0 | ⟨kb, ko, hka, hkb, hat2⟩
      · rw [h0] at hjx; simp at hjx
      obtain rfl : ka = some ⟨kb, ko, none⟩ := hka
      have hc := (hbel.cell (p := ⟨kb, ko + j, none⟩) hkb).trans (hat2 j _ hgx)
      generalize x.kids[j] = d at *
      obtain ⟨e, rfl⟩ : ∃ e : Nat, d = e := ⟨d.toNat, by omega⟩
      have hel : e < l.length := by omega
      have he1 : (e : Int) < (n : Int) := by rw [HN.out]; omega
      have he0 : (0 : Int) ≤ (e : Int) := Int.natCast_nonneg _
      obtain ⟨y, ry, hgy, hyr, _, d1, _, _, d4, hyks, hyat⟩ := HT.out.row hel
      obtain ⟨_, _, hyl, hym⟩ := HOk.out.2 e y hgy
      obtain ⟨ga2, gc2, ka2, kc2⟩ := ry
      simp only at d4 hyks
      have HY := Lib.hid hyr
      have HYK := Lib.hid hyks
      have HYA := Lib.hid hyat
      have HYM := Lib.hid hym
      obtain ⟨m2, hm2⟩ : ∃ m, m = y.kids.length := ⟨_, rfl⟩
      have HM2 := Lib.hid hm2
      rw [← hm2] at hyl
      clear hat2 hgx hin hel hyr d1 d4 hyks hyat hym hgy hm2
      go_wp2_with fail
      go_loopw [7, 12] (fun v i wr => ∃ j2 : Nat, ∃ a q cc, ∃ L2 : List Int, j2 ≤ m2 ∧ i = .int .i64 j2 ∧ v = .slice a q cc ∧ q = (L ++ L2).length ∧ q ≤ j * 1000000 + j2 ∧ L2 = parTo l k e j2 ∧ wr.ownsRow w.heap.size 3 1 (.slice a q cc) q (ints (L ++ L2)) ∧ Below w.heap.size w wr) (fun _ i _ => m2 - (intOf i).toNat)
      case atStart => exact ⟨0, a, q, cc, [], Nat.zero_le _, rfl, rfl, by rw [List.append_nil]; exact HQ.out, Nat.le_trans hqj (Nat.le_add_right _ _), by simp [parTo], by rw [List.append_nil]; exact HO.out, HB.out⟩
      case round =>
        rename_i wm _ _ _ _ _ _ _ _ _ _
        obtain ⟨j2, a3, q3, cc3, L2, hj2, rfl, rfl, hq3, hqj3, hL3, hown3, hbel3⟩ := hrel
        have hgr3 := hbel3.size
        have hownlt := hown3.lt
        have HLT := Lib.hid hownlt
        have HO3 := Lib.hid hown3
        have HL3 := Lib.hid hL3
        have HQ3 := Lib.hid hq3
        have HB3 := Lib.hid hbel3
        obtain ⟨_, v1, _, _, v4⟩ := (HYA.out.keep (hbel3.block b hbw)).cells
        simp only at v4
        rw [← HM2.out] at v4
        clear hown3 hL3 hq3 hownlt
        by_cases hlt2 : j2 < m2
        · have hj20 : (0 : Int) ≤ (j2 : Int) := Int.natCast_nonneg _
          have hj21 : (j2 : Int) < (m2 : Int) := by omega
          have hjx : j2 < y.kids.length := by rw [← HM2.out]; exact hlt2
          have hgx := List.getElem?_eq_getElem hjx
          have HTs := Lib.hid (parTo_succ l k e j2 y.kids[j2] (by rw [HY.out]; exact hgx))
          rw [HY.out] at HTs
          have hin := HYM.out _ (List.getElem_mem hjx)
          rcases HYK.out.2 with h0 | ⟨kb2, ko2, hka, hkb2, hat2⟩
          · rw [h0] at hjx; simp at hjx
          obtain rfl : ka2 = some ⟨kb2, ko2, none⟩ := hka
          have hc3 := (hbel3.cell (p := ⟨kb2, ko2 + j2, none⟩) hkb2).trans (hat2 j2 _ hgx)
          generalize y.kids[j2] = d at *
          obtain ⟨f, rfl⟩ : ∃ f : Nat, d = f := ⟨d.toNat, by omega⟩
          have hfl : f < l.length := by omega
          have hf1 : (f : Int) < (n : Int) := by rw [HN.out]; omega
          have hf0 : (0 : Int) ≤ (f : Int) := Int.natCast_nonneg _
          obtain ⟨z, rz, _, hzr, _, z1, _⟩ := (HT.out.later hbel3).row hfl
          rw [hzr] at HTs
          clear hat2 hgx hin hfl hzr
          by_cases hc2 : (e : Int) < k ∧ y.kind = 3 ∧ z.kind = 4
          · have HTs : Hid (parTo l k e (j2 + 1) = parTo l k e j2 ++ [(f : Int)]) := Lib.hid (by rw [HTs.out, if_pos hc2])
            obtain ⟨g1, g2, g3⟩ := hc2
            have hy := (int_yes g2).1
            have hz := (int_yes g3).1
            clear g2 g3
            go_wp2_with (refine wpList_append_lies _ rfl (.tmp 120) (.tmp 129) 45 rfl w.heap.size 3 j0 _ 1 8 Try.underlying45 hj0 hy0 hy1 hy2 rfl (by omega) (.slice a3 q3 cc3) q3 (ints (L ++ L2)) rfl (HO3.out.alloc _) ⟨wr.heap.size, 0, none⟩ 1 1 [.int .i64 f] rfl rfl (news_int wr _) (by simp [Value.oneCell']) (by omega) (by unfold maxLen; omega) (by omega) (by simp; omega) (wr.heap.size + 1) (by simp) ?_; intro g5 cap5 w5 hown5 hgrow5 hat5 hlt5; have HO5 := Lib.hid hown5; have HG5 := Lib.hid hgrow5; clear hown5 hgrow5 hat5)
            refine ⟨⟨j2 + 1, some ⟨g5, 0, none⟩, q3 + 1, cap5, L2 ++ [(f : Int)], by omega, by go_num, rfl, by rw [HQ3.out]; simp; omega, by omega, by rw [HTs.out, HL3.out], by rw [← List.append_assoc, ints_snoc]; exact HO5.out, ?_⟩, by simp [intOf]; omega⟩
            exact (HB3.out.alloc hgr3 _).grown HG5.out (by simp; omega) (fun z hz => (HLT.out z hz).1)
          · have HTs : Hid (parTo l k e (j2 + 1) = parTo l k e j2) := Lib.hid (by rw [HTs.out, if_neg hc2, List.append_nil])
            by_cases g1 : (e : Int) < k
            · by_cases g2 : y.kind = 3
              · have hz := (int_no (fun h => hc2 ⟨g1, g2, h⟩ : z.kind ≠ 4)).1
                have hy := (int_yes g2).1
                clear hc2 g2
                go_wp2_with fail
                exact ⟨⟨j2 + 1, a3, q3, cc3, L2, by omega, by go_num, rfl, HQ3.out, by omega, by rw [HTs.out, HL3.out], HO3.out, HB3.out⟩, by simp [intOf]; omega⟩
              · have hy := (int_no g2).1
                clear hc2 g2
                go_wp2_with fail
                exact ⟨⟨j2 + 1, a3, q3, cc3, L2, by omega, by go_num, rfl, HQ3.out, by omega, by rw [HTs.out, HL3.out], HO3.out, HB3.out⟩, by simp [intOf]; omega⟩
            · clear hc2
              go_wp2_with fail
              exact ⟨⟨j2 + 1, a3, q3, cc3, L2, by omega, by go_num, rfl, HQ3.out, by omega, by rw [HTs.out, HL3.out], HO3.out, HB3.out⟩, by simp [intOf]; omega⟩
        · have hjm : j2 = m2 := by omega
          subst hjm
          have HF : Hid (L ++ L2 = Pl.funcVars l k (x.kids.take (j + 1))) := Lib.hid (by rw [HTk.out, HL.out, HL3.out, parTo_all l k e j2 (by rw [HY.out]; exact HM2.out)])
          go_wp2_with fail
          exact ⟨⟨j + 1, a3, q3, cc3, L ++ L2, by omega, by go_num, rfl, HQ3.out, by omega, HF.out, HO3.out, HB3.out⟩, by simp [intOf]; omega⟩
    · have hjm : j = m := by omega
      subst hjm
      have HF : Hid (L = Pl.funcVars l k x.kids) := Lib.hid (by rw [HL.out, HM.out, List.take_length])
      go_wp2_with fail
      go_ret
      obtain ⟨a2, c2, he, hI⟩ := ints_own HO.out HQ.out
      exact ⟨a2, c2, by rw [he, HF.out]; rfl, by rw [← HF.out]; exact hI, HB.out⟩
set_option maxHeartbeats 1600000 in
theorem decl_none (b o c n : Nat) (l : List Pl.Rw) (R : Nat → Sl) (w : World) (hT : Tb w b o l R) (hok : Pl.Ok l) (hn : n = l.length) (p k : Nat) (hp : p < n) (hk : k < n) (h6 : (Pl.rw l p).kind ≠ 6) (h2 : ¬ ((Pl.rw l p).kind = 2 ∧ (Pl.rw l k).kind = 6)) :
    Calls Try.prog 50 #[.slice (some ⟨b, o, none⟩) n c, .int .i64 p, .int .i64 k] w (IntsP (Pl.declared l p k) w) := by
  rw [declared_none h6 h2]
  obtain ⟨x, r, hx, hrw, c0, c1, _⟩ := hT.row (i := p) (by omega)
  obtain ⟨xk, rk, hxk, hrwk, k0, k1, _⟩ := hT.row (i := k) (by omega)
  rw [hrw] at h2 h6
  rw [hrwk] at h2
  have hp0 : (0 : Int) ≤ (p : Int) := Int.natCast_nonneg _
  have hp1 : (p : Int) < (n : Int) := by omega
  have hk0 : (0 : Int) ≤ (k : Int) := Int.natCast_nonneg _
  have hk1 : (k : Int) < (n : Int) := by omega
  have e2 : (x.kind == 6) = false := (int_no h6).1
  by_cases hp2 : x.kind = 2
  · have e1 := (int_yes hp2).1
    have e3 := (int_no (fun h => h2 ⟨hp2, h⟩ : xk.kind ≠ 6)).1
    clear hT hok hx hn hrw hxk hrwk h2 hp2 h6
    go_enter Try.func50, Try.ntmps50
    go_wp2_with fail
    go_ret
    exact ⟨_, _, rfl, ints_nil _ _ _, Below.refl _ _⟩
  · have e1 := (int_no hp2).1
    clear hT hok hx hn hrw hxk hrwk h2 hp2 h6
    go_enter Try.func50, Try.ntmps50
    go_wp2_with fail
    go_ret
    exact ⟨_, _, rfl, ints_nil _ _ _, Below.refl _ _⟩
theorem declared_any (b o c n : Nat) (l : List Pl.Rw) (R : Nat → Sl) (w : World) (hT : Tb w b o l R) (hok : Pl.Ok l) (hn : n = l.length) (p k : Nat) (hp : p < n) (hk : k < n) :
    Calls Try.prog 50 #[.slice (some ⟨b, o, none⟩) n c, .int .i64 p, .int .i64 k] w (IntsP (Pl.declared l p k) w) := by
  by_cases h6 : (Pl.rw l p).kind = 6
  · exact decl_block b o c n l R w hT hok hn p k hp hk h6
  by_cases h2 : (Pl.rw l p).kind = 2 ∧ (Pl.rw l k).kind = 6
  · exact decl_func b o c n l R w hT hok hn p k hp hk h2.1 h2.2
  · exact decl_none b o c n l R w hT hok hn p k hp hk h6 h2
end Go.Proofs.Ytoelfiendfemaaa

namespace Go.Proofs.Ytoelfiendfemaaa
open Go.RowKit Go.Deep
set_option linter.unusedVariables false
set_option linter.unusedSimpArgs false

theorem str_yes {s t : ByteArray} (h : s = t) : (s.toList == t.toList) = true := by rw [h]; exact beq_self_eq_true _
theorem str_no {s t : ByteArray} (h : s ≠ t) : (s.toList == t.toList) = false := by rw [str_same]; simpa using h
theorem find_at {α : Type} {D : List α} {f : α → Bool} {i : Nat} {d : α} (h : (D.take i).find? f = none) (hd : D[i]? = some d) (hf : f d = true) : D.find? f = some d := by
  have e : D = D.take i ++ d :: D.drop (i + 1) := by
    have hi := (List.getElem?_eq_some_iff.1 hd)
    obtain ⟨hl, rfl⟩ := hi
    rw [List.getElem_cons_drop, List.take_append_drop]
  rw [e, List.find?_append, h, Option.none_or, List.find?_cons_of_pos hf]
theorem find_not {α : Type} {D : List α} {f : α → Bool} {i : Nat} {d : α} (h : (D.take i).find? f = none) (hd : D[i]? = some d) (hf : f d = false) : (D.take (i + 1)).find? f = none := by
  rw [List.take_add_one, hd, Option.toList_some, List.find?_append, h, Option.none_or, List.find?_cons_of_neg (by simp [hf])]; rfl
theorem declared_mem {l : List Pl.Rw} (hok : Pl.Ok l) {p k d : Int} (hp0 : 0 ≤ p) (hp : p < l.length) (h : d ∈ Pl.declared l p k) : 0 ≤ d ∧ d < l.length := by
  have kid : ∀ {q c : Int}, 0 ≤ q → q < l.length → c ∈ (Pl.rw l q).kids → 0 ≤ c ∧ c < l.length := by
    intro q c h0 h1 hc
    obtain ⟨i, rfl, hg, _⟩ := hok.row h0 h1
    have := (hok.2 i _ hg).2.2.2 c hc
    omega
  unfold Pl.declared at h
  rcases List.mem_append.1 h with h | h
  · split at h
    · exact kid hp0 hp (List.mem_filter.1 h).1
    · cases h
  · split at h
    · obtain ⟨c, hc, hd⟩ := List.mem_flatMap.1 h
      obtain ⟨c0, c1⟩ := kid hp0 hp hc
      exact kid c0 c1 (List.mem_filter.1 hd).1
    · cases h
theorem ok_par {l : List Pl.Rw} (hok : Pl.Ok l) {k : Int} (h0 : 0 ≤ k) (h1 : k < l.length) : -1 ≤ (Pl.rw l k).parent ∧ (Pl.rw l k).parent < k := by
  obtain ⟨_, _, _, a, b⟩ := hok.row h0 h1
  exact ⟨a, b⟩
theorem var_step {l : List Pl.Rw} (hok : Pl.Ok l) {k : Int} (h0 : 0 ≤ k) (h1 : k < l.length) (s : ByteArray) :
    Pl.var l k s = if (Pl.rw l k).parent < 0 then none else match (Pl.declared l (Pl.rw l k).parent k).find? (fun d => decide ((Pl.rw l d).text = s)) with
      | some v => some v
      | none => if (Pl.rw l (Pl.rw l k).parent).kind = 2 then none else Pl.var l (Pl.rw l k).parent s := by
  unfold Pl.var
  rw [Pl.vis_step hok h0 h1]
  by_cases hp : (Pl.rw l k).parent < 0
  · rw [if_pos hp, if_pos hp]; rfl
  · rw [if_neg hp, if_neg hp, List.find?_append]
    cases (Pl.declared l (Pl.rw l k).parent k).find? (fun d => decide ((Pl.rw l d).text = s)) with
    | some v => rfl
    | none =>
      simp only [Option.none_or]
      split
      · rfl
      · rfl
def optI : Option Int → Int
  | some v => v
  | none => -1
set_option maxHeartbeats 3200000 in
set_option maxRecDepth 100000 in
theorem variable_any (b o c n : Nat) (l : List Pl.Rw) (R : Nat → Sl) (w : World) (hT : Tb w b o l R) (hok : Pl.Ok l) (hn : n = l.length) (k0 : Nat) (hk0 : k0 < n) (s : ByteArray) :
    Calls Try.prog 43 #[.slice (some ⟨b, o, none⟩) n c, .int .i64 k0, .string s] w fun e w' => e = .returned (.int .i64 (optI (Pl.var l k0 s))) ∧ Below w.heap.size w w' := by
  obtain ⟨x, r, hx, hrw, c0, _⟩ := hT.row (i := k0) (by omega)
  have HT := Lib.hid hT
  have HN := Lib.hid hn
  have HOk := Lib.hid hok
  have hbw := hT.1
  have hp0 : (0 : Int) ≤ (k0 : Int) := Int.natCast_nonneg _
  have hp1 : (k0 : Int) < (n : Int) := by omega
  have hll2 : n ≤ 1000000 := by rw [hn]; exact hok.1
  have HR := Lib.hid hrw
  clear hT hok hn hx hrw
  go_enter Try.func43, Try.ntmps43
  go_wp2_with fail
  go_loopw [7, 8] (fun u v wr => ∃ k : Nat, k < n ∧ u = .int .i64 k ∧ v = .int .i64 (Pl.rw l k).parent ∧ Pl.var l k0 s = Pl.var l k s ∧ Below w.heap.size w wr) (fun u _ _ => (intOf u).toNat)
  case atStart => exact ⟨k0, hk0, rfl, by rw [HR.out], rfl, Below.refl _ _⟩
  case round =>
    obtain ⟨k, hk, rfl, rfl, hv, hbel⟩ := hrel
    have hgr := hbel.size
    obtain ⟨hq1, hq2⟩ := ok_par HOk.out (k := k) (by omega) (by rw [← HN.out]; omega)
    have HV := Lib.hid (var_step HOk.out (k := k) (by omega) (by rw [← HN.out]; omega) s)
    have HB := Lib.hid hbel
    have HV0 := Lib.hid hv
    clear hv
    obtain ⟨q, hq⟩ : ∃ q, q = (Pl.rw l k).parent := ⟨_, rfl⟩
    rw [← hq] at hq1 hq2 HV ⊢
    clear hq
    by_cases hneg : q < 0
    · have HF : Hid (Pl.var l k0 s = none) := Lib.hid (by rw [HV0.out, HV.out, if_pos hneg])
      go_wp2_with fail
      go_ret
      exact ⟨ret_int (by rw [HF.out]; rfl), HB.out⟩
    · obtain ⟨p, rfl⟩ : ∃ p : Nat, q = p := ⟨q.toNat, by omega⟩
      rw [if_neg hneg] at HV
      have hpn : p < n := by omega
      have hpl : (p : Int) < l.length := by rw [← HN.out]; omega
      have hpp0 : (0 : Int) ≤ (p : Int) := Int.natCast_nonneg _
      have hpp1 : (p : Int) < (n : Int) := by omega
      have HD := Lib.hid (fun (w1 : World) (h : Below w.heap.size w w1) => declared_any b o c n l R w1 (HT.out.later h) HOk.out HN.out p k hpn hk)
      have HM := Lib.hid (fun d hd => declared_mem (k := k) (d := d) HOk.out hpp0 hpl hd)
      obtain ⟨D, hD⟩ : ∃ D, D = Pl.declared l p k := ⟨_, rfl⟩
      rw [← hD] at HV HD HM
      clear hD
      go_wp2_with (go_at_call 50; refine (HD.out _ HB.out).mono ?_; rintro e w2 ⟨da, dc, rfl, hI, hb2⟩; have HI := Lib.hid hI; have HB2 := Lib.hid (HB.out.trans (hb2.mono hgr)); have hgr2 := hb2.size; clear hb2 hI hbel)
      obtain ⟨m, hm⟩ : ∃ m, m = D.length := ⟨_, rfl⟩
      have HMl := Lib.hid hm
      have hml : m ≤ maxLen := by rw [hm]; exact HI.out.1
      unfold maxLen at hml
      try rw [← hm]
      clear hm
      go_loopw [10] (fun u wr2 => ∃ j : Nat, j ≤ m ∧ u = .int .i64 j ∧ (D.take j).find? (fun d => decide ((Pl.rw l d).text = s)) = none ∧ w2 = wr2) (fun u _ => m - (intOf u).toNat)
      case atStart => exact ⟨0, Nat.zero_le _, rfl, rfl, rfl⟩
      case round =>
        obtain ⟨j, hj, rfl, hno, rfl⟩ := hrel
        have HNo := Lib.hid hno
        clear hno
        by_cases hlt : j < m
        · have hj0 : (0 : Int) ≤ (j : Int) := Int.natCast_nonneg _
          have hj1 : (j : Int) < (m : Int) := by omega
          have hjx : j < D.length := by rw [← HMl.out]; exact hlt
          have hgx := List.getElem?_eq_getElem hjx
          have hin := HM.out _ (List.getElem_mem hjx)
          rcases HI.out.2 with h0 | ⟨kb, ko, hka, hkb, hat2⟩
          · rw [h0] at hjx; simp at hjx
          obtain rfl : da = some ⟨kb, ko, none⟩ := hka
          have hc := hat2 j _ hgx
          have HFY := Lib.hid (fun hf => find_at HNo.out hgx hf)
          have HFN := Lib.hid (fun hf => find_not HNo.out hgx hf)
          generalize D[j] = d at *
          obtain ⟨e, rfl⟩ : ∃ e : Nat, d = e := ⟨d.toNat, by omega⟩
          have hel : e < l.length := by omega
          have he1 : (e : Int) < (n : Int) := by rw [HN.out]; omega
          have he0 : (0 : Int) ≤ (e : Int) := Int.natCast_nonneg _
          obtain ⟨y, ry, _, hyr, _, _, y2, _⟩ := (HT.out.later HB2.out).row hel
          rw [hyr] at HFY HFN
          clear hat2 hgx hin hel hyr
          by_cases he : y.text = s
          · have hs := str_yes he
            have HF : Hid (Pl.var l k0 s = some (e : Int)) := Lib.hid (by rw [HV0.out, HV.out, HFY.out (by simpa using he)])
            clear he HFY HFN
            go_wp2_with fail
            go_ret
            exact ⟨ret_int (by rw [HF.out]; rfl), HB2.out⟩
          · have hs := str_no he
            have HF := Lib.hid (HFN.out (by simpa using he))
            clear he HFY HFN
            go_wp2_with fail
            exact ⟨⟨j + 1, by omega, by go_num, HF.out, by trivial⟩, by simp [intOf]; omega⟩
        · have hjm : j = m := by omega
          subst hjm
          have HFN : Hid (D.find? (fun d => decide ((Pl.rw l d).text = s)) = none) := Lib.hid (by have := HNo.out; rw [HMl.out, List.take_length] at this; exact this)
          obtain ⟨y, ry, _, hyr, y0, y1, _⟩ := (HT.out.later HB2.out).row (i := p) (by omega)
          rw [hyr] at HV
          have HYR := Lib.hid hyr
          clear hyr
          by_cases hy : y.kind = 2
          · have hk2 := (int_yes hy).1
            have HF : Hid (Pl.var l k0 s = none) := Lib.hid (by rw [HV0.out, HV.out, HFN.out]; simp only; rw [if_pos hy])
            clear hy
            go_wp2_with fail
            go_ret
            exact ⟨ret_int (by rw [HF.out]; rfl), HB2.out⟩
          · have hk2 := (int_no hy).1
            have HF : Hid (Pl.var l k0 s = Pl.var l p s) := Lib.hid (by rw [HV0.out, HV.out, HFN.out]; simp only; rw [if_neg hy])
            clear hy
            go_wp2_with fail
            exact ⟨⟨p, hpn, rfl, by rw [HYR.out], HF.out, HB2.out⟩, by simp [intOf]; omega⟩
end Go.Proofs.Ytoelfiendfemaaa

namespace Go.Proofs.Ytoelfiendfemaaa
open Go.RowKit Go.Deep
set_option linter.unusedVariables false
set_option linter.unusedSimpArgs false

theorem blk_one {w : World} {b : Nat} {cs : Array Value} {T : TypeId} (h : w.heap[b]? = some (.cells cs T (0, 0))) (f : Nat) (v : Value) (hf : cs[f]? = some v) : w.cell? ⟨b, f, none⟩ = some v ∧ w.frozen? ⟨b, f, none⟩ = false := by
  constructor
  · rw [cell_of_row _ _ _ _ _ _ h]; exact hf
  · simp [World.frozen?, h]
theorem blk_two {w : World} {b : Nat} {v0 v1 : Value} {T : TypeId} (h : w.heap[b]? = some (.cells #[v0, v1] T (0, 0))) :
    (w.cell? ⟨b, 0, none⟩ = some v0 ∧ w.cell? ⟨b, 1, none⟩ = some v1) ∧ w.frozen? ⟨b, 0, none⟩ = false ∧ w.frozen? ⟨b, 1, none⟩ = false :=
  ⟨⟨(blk_one h 0 v0 rfl).1, (blk_one h 1 v1 rfl).1⟩, (blk_one h 0 v0 rfl).2, (blk_one h 1 v1 rfl).2⟩
theorem below_set2 {B b : Nat} {w w2 : World} {v0 v1 : Value} (h : Below B w w2) (hb : B ≤ b) : Below B w ((w2.setCell ⟨b, 0, none⟩ v0).setCell ⟨b, 1, none⟩ v1) :=
  (h.setCell (p := ⟨b, 0, none⟩) hb _).setCell (p := ⟨b, 1, none⟩) hb _
/-- Behind one new block and a call: the block holds what it held. -/
theorem one_after {w w2 : World} {o1 : Obj} (hb : Below (w.alloc o1).heap.size (w.alloc o1) w2) :
    w2.heap[w.heap.size]? = some o1 ∧ Below w.heap.size w w2 ∧ w.heap.size < w2.heap.size := by
  have hz := hb.size
  simp at hz
  exact ⟨(hb.block _ (by simp)).trans (heap_alloc_new _ _), ((Below.refl _ _).alloc (Nat.le_refl _) _).trans (hb.mono (by simp)), by omega⟩
theorem lt_blk {w : World} {b : Nat} {o : Obj} (h : w.heap[b]? = some o) : b < w.heap.size := (Array.getElem?_eq_some_iff.1 h).1
theorem blk_keep {w w2 : World} {b : Nat} {o : Obj} (h : w.heap[b]? = some o) (hb : Below w.heap.size w w2) : w2.heap[b]? = some o := (hb.block b (lt_blk h)).trans h
/-- The value of a place. -/
abbrev refV (r : Pl.Rf) : Value := .agg #[.int .i64 r.1, .int .i64 r.2]
def foundV : Option Pl.Rf → Value
  | some r => .tuple #[refV r, .bool true]
  | none => .tuple #[refV (0, 0), .bool false]
/-- The cells of one record. -/
theorem Flat.one {α : Type} {z : Nat} {cl : α → List Value} {P : Nat → Prop} {w : World} {a : Option Addr} {xs : List α} (h : Flat z cl P w a xs) {j : Nat} {x : α} (hx : xs[j]? = some x) : ∃ b o, a = some ⟨b, o, none⟩ ∧ P b ∧ w.rangeAt b (o + j * z) (cl x) := by
  rcases h.2 with h0 | ⟨b, o, e, hb, hat⟩
  · rw [h0] at hx; cases j <;> cases hx
  · exact ⟨b, o, e, hb, hat j x hx⟩
end Go.Proofs.Ytoelfiendfemaaa
