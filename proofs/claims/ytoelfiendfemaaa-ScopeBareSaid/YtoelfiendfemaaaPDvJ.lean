/- The walk of Doubles. -/
import Derived.Test.YtoelfiendfemaaaPUseJ
import Derived.Test.YtoelfiendfemaaaShelf
import Derived.Test.YtoelfiendfemaaaOnes
namespace Go.Proofs.Ytoelfiendfemaaa
open Go.RowKit Go.Deep
set_option linter.unusedVariables false
set_option linter.unusedSimpArgs false
set_option maxRecDepth 100000

theorem dbl_key (T : List (List Pl.Rw)) (a b : Pl.Dc) (h1 : 1 ≤ b.kind) (h6 : b.kind ≤ 6) : Pl.dbl T a b = true ↔ kyOf T a = kyOf T b := by
  unfold Pl.dbl
  rw [decide_eq_true_eq]
  have hkey : kyOf T a = kyOf T b ↔ a.kind = b.kind ∧ a.name = b.name ∧ (if loc a.kind then a.unit else 0) = (if loc b.kind then b.unit else 0) ∧ (if loc a.kind then Pl.parOf T a.unit a.node else 0) = (if loc b.kind then Pl.parOf T b.unit b.node else 0) := by
    unfold kyOf kyV
    simp
  rw [hkey]
  constructor
  · rintro ⟨e1, e2, h⟩
    refine ⟨e1, e2, ?_⟩
    rw [e1]
    cases hl : loc b.kind with
    | false => simp
    | true =>
      have : b.kind = 4 ∨ b.kind = 5 ∨ b.kind = 6 := by unfold loc at hl; simpa using hl
      rcases h with h | h | h | h
      · omega
      · omega
      · omega
      · rw [if_pos rfl, if_pos rfl, if_pos rfl, if_pos rfl]; exact h
  · rintro ⟨e1, e2, h3, h4⟩
    refine ⟨e1, e2, ?_⟩
    rw [e1] at h3 h4
    cases hl : loc b.kind with
    | false =>
      have : ¬ (b.kind = 4 ∨ b.kind = 5 ∨ b.kind = 6) := by unfold loc at hl; simpa using hl
      omega
    | true =>
      rw [hl] at h3 h4
      exact .inr (.inr (.inr ⟨by simpa using h3, by simpa using h4⟩))
/-- What stands first under a key. -/
theorem dbl_fst (T : List (List Pl.Rw)) : ∀ (D : List Pl.Dc) (k : Nat) (x : Pl.Dc), (∀ d ∈ D, 1 ≤ d.kind ∧ d.kind ≤ 6) → D.Pairwise (fun a b => ¬ (a.unit = b.unit ∧ a.node = b.node)) → D[k]? = some x →
    ∃ a, fstOf T D (kyOf T x) = some (refA a) ∧ (!(a.unit == x.unit && a.node == x.node)) = Pl.dblTo T D k x
  | [], k, x, _, _, h => by cases k <;> cases h
  | d :: D, 0, x, hk, hp, h => by
    obtain rfl : d = x := Option.some.inj h
    exact ⟨d, by unfold fstOf; rw [if_pos rfl], by simp [Pl.dblTo]⟩
  | d :: D, k + 1, x, hk, hp, h => by
    have hx : D[k]? = some x := h
    have hm := List.mem_of_getElem? hx
    have hkx := hk x (List.mem_cons_of_mem _ hm)
    have e : Pl.dblTo T (d :: D) (k + 1) x = (Pl.dbl T d x || Pl.dblTo T D k x) := by unfold Pl.dblTo; rw [List.take_succ_cons, List.any_cons]
    by_cases hd : kyOf T d = kyOf T x
    · refine ⟨d, by unfold fstOf; rw [if_pos hd], ?_⟩
      rw [e, (dbl_key T d x hkx.1 hkx.2).2 hd, Bool.true_or]
      have := (List.pairwise_cons.1 hp).1 x hm
      simp
      omega
    · obtain ⟨a, h1, h2⟩ := dbl_fst T D k x (fun d' hd' => hk d' (List.mem_cons_of_mem _ hd')) (List.pairwise_cons.1 hp).2 hx
      refine ⟨a, by unfold fstOf; rw [if_neg hd]; exact h1, ?_⟩
      have hf : Pl.dbl T d x = false := by
        cases hb : Pl.dbl T d x with
        | false => rfl
        | true => exact absurd ((dbl_key T d x hkx.1 hkx.2).1 hb) hd
      rw [e, hf, Bool.false_or]
      exact h2
theorem drow_place {l : List Pl.Rw} {u i : Int} {d : Pl.Dc} (h : Pl.drow l u i = some d) : d.unit = u ∧ d.node = i := ⟨(decl1_place h).1, (decl1_place h).2.1⟩
theorem drows_pw (l : List Pl.Rw) (u : Int) (n : Nat) : (Pl.drows l u 0 n).Pairwise (fun a b => ¬ (a.unit = b.unit ∧ a.node = b.node)) := by
  unfold Pl.drows
  rw [List.pairwise_filterMap]
  refine List.pairwise_lt_range.imp (fun {a b} hab x hx y hy => ?_)
  rintro ⟨_, h2⟩
  rw [(drow_place hx).2, (drow_place hy).2] at h2
  omega
theorem decls_pw {us : List Pl.Un} (hF : Few us) : (Pl.decls us).Pairwise (fun a b => ¬ (a.unit = b.unit ∧ a.node = b.node)) := by
  have key : ∀ m, m ≤ us.length → (Pl.declsTo us m).Pairwise (fun a b => ¬ (a.unit = b.unit ∧ a.node = b.node)) ∧ ∀ d ∈ Pl.declsTo us m, d.unit < (m : Int) := by
    intro m
    induction m with
    | zero => intro _; exact ⟨by simp [Pl.declsTo], by simp [Pl.declsTo]⟩
    | succ m ih =>
      intro hm
      obtain ⟨h1, h2⟩ := ih (by omega)
      have hx := List.getElem?_eq_getElem (show m < us.length by omega)
      have hsz := (hF.2 _ (List.getElem_mem (show m < us.length by omega))).1
      rw [Pl.declsTo_succ us m _ hx, Pl.declsOf_rows _ (by omega)]
      have hu : ∀ d ∈ Pl.drows (Pl.tbl us[m]) m 0 (Pl.tbl us[m]).length, d.unit = (m : Int) := by
        intro d hd
        unfold Pl.drows at hd
        obtain ⟨j, _, hj⟩ := List.mem_filterMap.1 hd
        exact (drow_place hj).1
      refine ⟨List.pairwise_append.2 ⟨h1, drows_pw _ _ _, fun a ha b hb => ?_⟩, fun d hd => ?_⟩
      · rintro ⟨h3, _⟩
        have := h2 a ha
        have := hu b hb
        omega
      · rcases List.mem_append.1 hd with hd | hd
        · have := h2 d hd; omega
        · have := hu d hd; omega
  exact (key _ (Nat.le_refl _)).1
theorem decls_kinds {us : List Pl.Un} (hF : Few us) (d : Pl.Dc) (hd : d ∈ Pl.decls us) : 1 ≤ d.kind ∧ d.kind ≤ 6 := by
  obtain ⟨u, j, x, hx, hj, hd⟩ := decls_mem hF hd
  exact decl1_kind hd
set_option maxHeartbeats 3200000 in
theorem doubles_any (a : Option Addr) (n c : Nat) (us : List Pl.Un) (R : Nat → Sl) (w : World) (hU : IsU w a us R) (hF : Few us) (hn : n = us.length) :
    Calls Try.prog 22 #[.slice a n c] w (RefsP (Pl.doubles us) w) := by
  obtain ⟨i0, hi0, hz0, hz1, hz2⟩ := info_parts infoF
  have HTb := Lib.hid (ptables_any a n c us R w hU hF hn)
  have HD := Lib.hid (fun w1 (h : Below w.heap.size w w1) => pdecls_any a n c us R w1 (hU.later h) hF hn)
  have HU : Hid (Pl.doubles us = Pl.dbls (Pl.tbls us) (Pl.decls us) (Pl.decls us).length) := Lib.hid rfl
  have HIn := Lib.hid (fun d hd => decls_in hF (d := d) hd)
  have HKey := Lib.hid (fun d hd => decls_key hF d hd)
  have HFst := Lib.hid (fun k x h => dbl_fst (Pl.tbls us) (Pl.decls us) k x (decls_kinds hF) (decls_pw hF) h)
  have hdl := decls_len us hF
  have HTl : Hid (∀ l ∈ Pl.tbls us, l.length ≤ maxLen) := Lib.hid (fun l hl => by
    obtain ⟨j, hj⟩ := List.getElem?_of_mem hl
    exact Nat.le_trans (tbls_get hF hj).choose_spec.2.2.2 (by unfold maxLen; omega))
  clear hU hF hn
  generalize Pl.decls us = D at *
  generalize Pl.tbls us = T at *
  generalize Pl.doubles us = L0 at *
  have HFi := Lib.hid (fun (ta : Option Addr) (tc : Nat) (da : Option Addr) (dc : Nat) (wx : World) (hD : FlatW 5 cellsD wx da D) (hT : TabsIn wx ta T) => firsts_any D T da D.length dc ta T.length tc wx hD rfl (by omega) hT rfl HTl.out HIn.out HKey.out)
  go_enter Try.func22, Try.ntmps22
  go_wp2_with (first
    | (go_at_call 32; refine HTb.out.mono ?_; rintro e w2 ⟨ta, tc, rfl, hta, hb2⟩; have HTA := Lib.hid hta; have HB2 := Lib.hid hb2; clear hta hb2)
    | (go_at_call 34; refine (HD.out _ HB2.out).mono ?_; rintro e w3 ⟨da, dc, rfl, hda, hb3⟩; have HDA3 := Lib.hid hda; have HTA3 := Lib.hid (HTA.out.later hb3); have HB3 := Lib.hid (HB2.out.trans (hb3.mono HB2.out.size)); clear hda hb3)
    | (go_at_call 33; refine (HFi.out ta tc da dc w3 HDA3.out HTA3.out).mono ?_; rintro e w4 ⟨mb, rfl, hmge, hmf, hb4⟩; have HMf := Lib.hid hmf; have HDA := Lib.hid (HDA3.out.later hb4); have HTA4 := Lib.hid (HTA3.out.later hb4); have HB4 := Lib.hid (HB3.out.trans (hb4.mono HB3.out.size)); clear hmf hb4))
  obtain ⟨m, hm⟩ : ∃ m, m = D.length := ⟨_, rfl⟩
  rw [← hm] at hdl
  have HM := Lib.hid hm
  try rw [← hm]
  clear hm
  go_loopw [3, 18] (fun v i wr => ∃ (k : Nat) (a2 : Option Addr) (n2 c2 : Nat), k ≤ m ∧ i = .int .i64 k ∧ v = .slice a2 n2 c2 ∧ n2 = (Pl.dbls T D k).length ∧ n2 ≤ k ∧ wr.ownsRow w4.heap.size 29 2 (.slice a2 n2 c2) n2 ((Pl.dbls T D k).flatMap cellsR) ∧ Below w4.heap.size w4 wr) (fun _ i _ => m - (intOf i).toNat)
  case atStart => exact ⟨0, none, 0, 0, Nat.zero_le _, rfl, rfl, rfl, Nat.le_refl _, World.ownsRow_nil _ _ _ _, Below.refl _ _⟩
  case round =>
    obtain ⟨k, a2, n2, c2, hk, rfl, rfl, hn2, hle, hown, hbel⟩ := hrel
    have HN2 := Lib.hid hn2
    have HO := Lib.hid hown
    have HB := Lib.hid hbel
    have hgr := hbel.size
    by_cases hlt : k < m
    · have hkx : k < D.length := by rw [← HM.out]; exact hlt
      have hx := List.getElem?_eq_getElem hkx
      have HS := Lib.hid (Pl.dbls_succ T D k _ hx)
      have HInx := HIn.out _ (List.getElem_mem hkx)
      obtain ⟨kl, hkl⟩ := HKey.out _ (List.getElem_mem hkx)
      obtain ⟨f, hf1, hf2⟩ := HFst.out k _ hx
      obtain ⟨b, o, rfl, hb, hrg⟩ := HDA.out.one hx
      have hk0 : (0 : Int) ≤ (k : Int) := Int.natCast_nonneg _
      have hk1 : (k : Int) < (m : Int) := by omega
      generalize D[k] = x at *
      have HRG : Hid (wr.rangeAt b (o + k * 5) [.int .i64 x.kind, .string x.owner, .string x.name, .int .i64 x.unit, .int .i64 x.node]) := Lib.hid (fun i v hv => (hbel.cell (p := ⟨b, o + k * 5 + i, none⟩) hb).trans (hrg i v hv))
      obtain ⟨X, hX⟩ : ∃ X, X = wr.alloc (.cells #[.int .i64 x.kind, .string x.owner, .string x.name, .int .i64 x.unit, .int .i64 x.node] 77) := ⟨_, rfl⟩
      have hbX : Below wr.heap.size wr X := by rw [hX]; exact below_1 _ _
      have x0 : X.heap[wr.heap.size]? = some (.cells #[.int .i64 x.kind, .string x.owner, .string x.name, .int .i64 x.unit, .int .i64 x.node] 77 (0, 0)) := by rw [hX]; exact heap_alloc_new _ _
      have hXs : X.heap.size = wr.heap.size + 1 := by rw [hX]; simp
      have HXw := Lib.hid hX
      have HBX : Hid (Below w4.heap.size w4 X) := Lib.hid (hbel.trans (hbX.mono hgr))
      have HOX := Lib.hid (owns_later hown hbX)
      have HX0 := Lib.hid x0
      obtain ⟨⟨p0, p1, p2, p3, p4⟩, pl⟩ := blk_five x0
      have HXs := Lib.hid hXs
      have HTX := Lib.hid (HTA4.out.later HBX.out)
      have HMX := Lib.hid (HMf.out.keep (HBX.out.block mb HMf.out.lt))
      obtain ⟨bb, hbb⟩ : ∃ bb, bb = Pl.dblTo T D k x := ⟨_, rfl⟩
      rw [← hbb] at hf2 HS
      have C0 : ∀ z : Later X, Calls Try.prog 51 #[decV x, .slice ta T.length tc] z.u fun e w'' => e = .returned (kyOf T x) ∧ ∃ y : Later X, w'' = y.u :=
        fun z => (keyOf_any T x HInx ta T.length tc z.u (HTX.out.later z.h) rfl HTl.out).mono fun e w'' ⟨he, hw⟩ => ⟨he, ⟨w'', z.h.trans (hw.mono z.h.size)⟩, rfl⟩
      have k5 : ∀ z : Later X, (Instr.loadAt 77 (.pointer (some ⟨wr.heap.size, 0, none⟩))).run Try.prog z.u = .ok (decV x) z.u := fun z =>
        run_loadAt_mid z.u wr.heap.size 0 77 _ _ (blk_range ((z.h.block _ pl).trans HX0.out)) Try.underlying77 rfl sizeD
      have kl2 : ∀ z : Later X, (Instr.lookup 59 (.map (some mb)) (kyOf T x) false).run Try.prog z.u = .ok (refA f) z.u := fun z => by
        have := (HMX.out.keep (z.h.block mb HMX.out.lt)).look (t := 59) kyKeyed Try.underlying59 zero_ref hkl false
        rw [hf1] at this
        exact this
      have k3 : ∀ z : Later X, z.u.cell? ⟨wr.heap.size, 3, none⟩ = some (.int .i64 x.unit) := fun z => (z.h.cell (p := ⟨_, _, none⟩) pl).trans p3
      have k4 : ∀ z : Later X, z.u.cell? ⟨wr.heap.size, 4, none⟩ = some (.int .i64 x.node) := fun z => (z.h.cell (p := ⟨_, _, none⟩) pl).trans p4
      have HPl := Lib.hid pl
      clear hx hrg hn2 hown hbel hX hbX x0 hXs hbb hf1 hkl p0 p1 p2 p3 p4
      go_upto_region 8 with (refine wpList_load_mid rfl 77 _ rfl b (o + k * 5) rfl [.int .i64 x.kind, .string x.owner, .string x.name, .int .i64 x.unit, .int .i64 x.node] _ HRG.out Try.underlying77 rfl sizeD ?_)
      rw [← HXw.out]
      refine region_later (by kernel_rfl) (by kernel_rfl) ?_
      iterate 1 (go_big_quiet_step (fail))
      refine quiet_load (by rfl) 77 _ (by rfl) (.pointer (some ⟨wr.heap.size, 0, none⟩)) _ (by rfl) (fun x hx => by obtain ⟨n, rfl⟩ := hx; exact k5 n) ?_
      simp only [Act.put, List.setIfInBounds_toArray, List.set_cons_succ, List.set_cons_zero]
      iterate 1 (go_big_quiet_step (fail))
      go_big_quiet_step (exact C0 _)
      refine quiet_lookF (by rfl) 59 _ _ false (by rfl) mb (kyOf T x) (refA f) (by rfl) (by rfl) (fun x hx => by obtain ⟨n, rfl⟩ := hx; exact kl2 n) ?_
      simp only [Act.put, List.setIfInBounds_toArray, List.set_cons_succ, List.set_cons_zero]
      iterate 2 (go_big_quiet_step (fail))
      refine quiet_bin (by rfl) .neq 29 29 _ _ (by rfl) (.agg #[.int .i64 f.unit, .int .i64 f.node]) (.agg #[.int .i64 x.unit, .int .i64 x.node]) _ (by rfl) (by rfl) (fun u hu => refs_neq_is _ _ f.unit f.node x.unit x.node bb hf2 u) ?_
      simp only [Act.put, List.setIfInBounds_toArray, List.set_cons_succ, List.set_cons_zero]
      refine wpQuiet_nil ?_
      intro _ hw'
      obtain ⟨n1, rfl⟩ := hw'
      have HBn : Hid (Below w4.heap.size w4 n1.u) := Lib.hid (HBX.out.trans (n1.h.mono HBX.out.size))
      have HOn := Lib.hid (owns_later HOX.out n1.h)
      have hsn := n1.h.size
      have HSn : Hid (wr.heap.size < n1.u.heap.size) := Lib.hid (by have := HXs.out; omega)
      have k3' := k3 n1
      have k4' := k4 n1
      clear k3 k4 k5 kl2 C0 hf2 hsn
      cases bb with
      | false =>
        have HS2 : Hid (Pl.dbls T D (k + 1) = Pl.dbls T D k) := Lib.hid (by rw [HS.out]; simp)
        go_wp2_with fail
        exact ⟨⟨k + 1, a2, n2, c2, by omega, by go_num, rfl, by rw [HS2.out]; exact HN2.out, by omega, by rw [HS2.out]; exact HOn.out, HBn.out⟩, by simp [intOf]; omega⟩
      | true =>
        have HS2 : Hid (Pl.dbls T D (k + 1) = Pl.dbls T D k ++ [(x.unit, x.node)]) := Lib.hid (by rw [HS.out]; simp)
        go_wp2_with (at_builtin; go_loud (refine wpList_append_lies _ rfl (.tmp 30) (.tmp 33) 37 rfl w4.heap.size 29 i0 _ 2 16 Try.underlying37 hi0 hz0 hz1 hz2 rfl (by omega) (.slice a2 n2 c2) n2 ((Pl.dbls T D k).flatMap cellsR) rfl (HOn.out.alloc _) ⟨n1.u.heap.size, 0, none⟩ 1 1 (cellsR (x.unit, x.node)) rfl rfl (World.news_of_block (cs := #[.int .i64 x.unit, .int .i64 x.node]) (t := 29) (fr := (0, 0)) (heap_alloc_new n1.u _)) (by simp [Value.oneCell', cellsR]) (by omega) (by unfold maxLen; omega) (by omega) (by simp; have := HSn.out; omega) (n1.u.heap.size + 1) (by simp) ?_; intro g5 cap5 w5 hown5 hgrow5 hat5 hlt5; have HO5 := Lib.hid hown5; have HG5 := Lib.hid hgrow5; clear hown5 hgrow5 hat5))
        have hlen : (Pl.dbls T D (k + 1)).length = n2 + 1 := by rw [HS2.out, List.length_append, ← HN2.out]; rfl
        refine ⟨⟨k + 1, some ⟨g5, 0, none⟩, n2 + 1, cap5, by omega, by go_num, rfl, hlen.symm, by omega, by rw [HS2.out, flatten_snoc]; exact HO5.out, ?_⟩, by simp [intOf]; omega⟩
        exact (HBn.out.alloc (by have := HSn.out; omega) _).grown HG5.out (by simp; have := HSn.out; omega) (fun z hz => (HOn.out.lt z hz).1)
    · have hkn : k = m := by omega
      subst hkn
      have HDn : Hid (Pl.dbls T D k = L0) := Lib.hid (by rw [HU.out, HM.out])
      clear hn2 hown hbel
      go_wp2_with fail
      go_ret
      obtain ⟨a3, c3, he, hf⟩ := flat_row (cl := cellsR) (fun _ => rfl) (by decide) HO.out HN2.out
      exact ⟨a3, c3, by rw [he, HDn.out]; rfl, by rw [← HDn.out]; exact hf, HB4.out.trans (HB.out.mono HB4.out.size)⟩
end Go.Proofs.Ytoelfiendfemaaa

namespace Go.Proofs.Ytoelfiendfemaaa
open Go.RowKit Go.Deep
set_option linter.unusedVariables false
set_option linter.unusedSimpArgs false
set_option maxRecDepth 100000

theorem infoS9 : (Try.prog.info? 9).map (fun i => (i.zero, i.size, i.bytes)) = some (some (.string ⟨#[]⟩), 1, 16) := by kernel_rfl
theorem strO_fr {c : Array Value} {f : Nat × Nat} : ¬ FrObj (.cells c 9 f) := fun h => by rcases h with h | h <;> exact absurd h (by decide)
theorem strS_fr {c : Array Value} {f : Nat × Nat} : ¬ FrObj (.cells c 33 f) := fun h => by rcases h with h | h <;> exact absurd h (by decide)
/-- Is a declaration's name listed? -/
def vsOk (l : List Pl.Rw) (q : Int) (d : Pl.Dc) : Bool := (Pl.var l q d.name).isSome || decide (d.kind = 3)
def vsL (l : List Pl.Rw) (q : Int) (D : List Pl.Dc) : List ByteArray := (D.filter (vsOk l q)).map (·.name)
theorem vsL_take (l : List Pl.Rw) (q : Int) (D : List Pl.Dc) (k : Nat) (d : Pl.Dc) (h : D[k]? = some d) : vsL l q (D.take (k + 1)) = vsL l q (D.take k) ++ (if vsOk l q d then [d.name] else []) := by
  unfold vsL
  rw [List.take_add_one, h, Option.toList_some, List.filter_append, List.map_append]
  congr 1
  cases hv : vsOk l q d <;> simp [hv]
theorem vsL_len (l : List Pl.Rw) (q : Int) (D : List Pl.Dc) (k : Nat) : (vsL l q (D.take k)).length ≤ k := by
  unfold vsL
  rw [List.length_map]
  exact Nat.le_trans (List.length_filter_le _ _) (List.length_take_le _ _)
/-- The list of the names. -/
def VsJ (B0 : Nat) (lb : Nat) (F : Nat → List ByteArray) (i : Nat) (w : World) : Prop :=
  ∃ a c, (F i = [] → a = none ∧ c = 0) ∧ w.heap[lb]? = some (.cells #[.slice a (F i).length c] 33 (0, 0)) ∧ w.ownsRow B0 9 1 (.slice a (F i).length c) (F i).length ((F i).map Value.string)
theorem vsJ_kept {B0 lb : Nat} {F : Nat → List ByteArray} (i : Nat) (w w' : World) (h : VsJ B0 lb F i w) (k : Kept (WOD B0) w w') : VsJ B0 lb F i w' := by
  obtain ⟨a, c, h0, h1, h2⟩ := h
  refine ⟨a, c, h0, k.keep _ _ h1 (.inr strS_fr), owns_keep h2 (fun b hb => ?_)⟩
  obtain ⟨cur, ho, _⟩ := own_objT h2 hb
  rw [k.keep _ _ ho (.inr strO_fr), ho]
theorem owns_base {w : World} {B B' n z : Nat} {T : TypeId} {v : Value} {xs : List Value} (h : w.ownsRow B T z v n xs) (hB : B' ≤ B) : w.ownsRow B' T z v n xs := by
  refine ⟨h.1, ?_⟩
  rcases h.2 with h2 | ⟨g, cap, cur, e1, e2, e3⟩
  · exact .inl h2
  · exact .inr ⟨g, cap, cur, e1, Nat.le_trans hB e2, e3⟩
def vsF (l : List Pl.Rw) (q : Int) (D : List Pl.Dc) (i : Nat) : List ByteArray := if (i : Int) ≤ q ∨ q < 0 then [] else vsL l q D
set_option maxHeartbeats 6400000 in
theorem visible1_step {w0 : World} {lb : Nat} {l : List Pl.Rw} (q : Int) (D : List Pl.Dc) (ab ub : Nat) (ua : Option Addr) (un uc : Nat)
    (hq : ∀ wx, On w0 (PB w0 (fun x => x = lb)) wx → wx.cell? ⟨ab, 1, none⟩ = some (.int .i64 q) ∧ wx.cell? ⟨ub, 0, none⟩ = some (.slice ua un uc) ∧ Calls Try.prog 34 #[.slice ua un uc] wx (DeclsP D wx))
    (hlb : lb < w0.heap.size) (hdl : D.length ≤ 800) (htx : ∀ d ∈ D, d.name.size ≤ maxLen) :
    StepOk w0 (fun x => x = lb) l 46 #[.pointer (some ⟨ab, 0, none⟩), .pointer (some ⟨ub, 0, none⟩), .pointer (some ⟨lb, 0, none⟩)] (VsJ w0.heap.size lb (vsF l q D)) := by
  obtain ⟨i0, hi0, hz0, hz1, hz2⟩ := info_parts infoS9
  intro i hi w hon hJ bx hfind
  show Calls Try.prog 46 #[.int .i64 i, .func (.func 89) #[] #[.pointer (some ⟨bx, 0, none⟩)], .pointer (some ⟨ab, 0, none⟩), .pointer (some ⟨ub, 0, none⟩), .pointer (some ⟨lb, 0, none⟩)] w _
  obtain ⟨q1, q2, hdc⟩ := hq w hon
  have HJ := Lib.hid hJ
  have HFind := Lib.hid hfind
  have hge := hon.2
  have HDc := Lib.hid hdc
  have HTx := Lib.hid htx
  clear hon hJ hfind hq hdc htx
  by_cases hiq : (i : Int) = q
  case neg =>
    have e0 := (int_no hiq).1
    have HE : Hid (VsJ w0.heap.size lb (vsF l q D) (i + 1) w) := Lib.hid (by
      have : vsF l q D (i + 1) = vsF l q D i := by
        unfold vsF
        by_cases h : (i : Int) ≤ q ∨ q < 0
        · rw [if_pos h, if_pos (by omega)]
        · rw [if_neg h, if_neg (by omega)]
      unfold VsJ
      rw [this]
      exact HJ.out)
    clear hiq
    go_enter Try.func46, Try.ntmps46
    go_wp2_with fail
    exact bodyPost_ret (v := .tuple #[]) (by simp [results, Try.results46, go_sem]) rfl ⟨rfl, HE.out, Kept.refl _ _⟩
  have e1 := (int_yes hiq).1
  have hF0 : vsF l q D i = [] := by unfold vsF; rw [if_pos (by omega)]
  have HF1 : Hid (vsF l q D (i + 1) = vsL l q D) := Lib.hid (by unfold vsF; rw [if_neg (by omega)])
  obtain ⟨a0, c0, j0, j1, j2⟩ := HJ.out
  obtain ⟨rfl, rfl⟩ := j0 hF0
  rw [hF0] at j1
  have HJ1 : Hid (w.heap[lb]? = some (.cells #[.slice none 0 0] 33 (0, 0))) := Lib.hid j1
  subst hiq
  have hlw := lt_blk j1
  clear j0 j1 j2 hF0
  go_enter Try.func46, Try.ntmps46
  go_wp2_with (go_at_call 34; refine HDc.out.mono ?_; rintro e w3 ⟨da, dc, rfl, hda, hb3⟩; have HDA := Lib.hid hda; have HB3 := Lib.hid hb3; clear hda hb3)
  obtain ⟨m, hm⟩ : ∃ m, m = D.length := ⟨_, rfl⟩
  rw [← hm] at hdl
  have HM := Lib.hid hm
  try rw [← hm]
  clear hm
  have hs3 := HB3.out.size
  have HL3 : Hid (w3.heap[lb]? = some (.cells #[.slice none 0 0] 33 (0, 0))) := Lib.hid ((HB3.out.block _ hlw).trans HJ1.out)
  go_loopw [18] (fun c wr => ∃ (k : Nat) (a2 : Option Addr) (n2 c2 : Nat), k ≤ m ∧ c = .int .i64 k ∧ n2 = (vsL l i (D.take k)).length ∧ (n2 = 0 → a2 = none ∧ c2 = 0) ∧ wr.heap[lb]? = some (.cells #[.slice a2 n2 c2] 33 (0, 0)) ∧ wr.ownsRow w3.heap.size 9 1 (.slice a2 n2 c2) n2 ((vsL l i (D.take k)).map Value.string) ∧ Kept (fun b _ => b < w3.heap.size ∧ b ≠ lb) w3 wr) (fun c _ => m - (intOf c).toNat)
  case atStart => exact ⟨0, none, 0, 0, Nat.zero_le _, rfl, rfl, fun _ => ⟨rfl, rfl⟩, HL3.out, World.ownsRow_nil _ _ _ _, Kept.refl _ _⟩
  case round =>
    obtain ⟨k, a2, n2, c2, hk, rfl, hn2, hnz, hlb2, hown, hkp⟩ := hrel
    have HN2 := Lib.hid hn2
    have HNz := Lib.hid hnz
    have HLb := Lib.hid hlb2
    have HO := Lib.hid hown
    have HK := Lib.hid hkp
    have hgr := hkp.size
    by_cases hlt : k < m
    · have hkx : k < D.length := by rw [← HM.out]; exact hlt
      have hx := List.getElem?_eq_getElem hkx
      have HS := Lib.hid (vsL_take l i D k _ hx)
      have hle := vsL_len l i D k
      rw [← hn2] at hle
      have hsz := HTx.out _ (List.getElem_mem hkx)
      obtain ⟨b, o, rfl, hb, hrg⟩ := HDA.out.one hx
      have hk0 : (0 : Int) ≤ (k : Int) := Int.natCast_nonneg _
      have hk1 : (k : Int) < (m : Int) := by omega
      generalize D[k] = x at *
      have hbl : b ≠ lb := fun e => by
        have h0 := hrg 0 _ rfl
        subst e
        have hc : (#[Value.slice none 0 0] : Array Value)[o + k * 5 + 0]? = some (.int .i64 x.kind) := by
          simpa [World.cell?, HL3.out] using h0
        match o + k * 5 + 0, hc with
        | 0, h => cases h
        | f + 1, h => simp at h
      have HRG : Hid (wr.rangeAt b (o + k * 5) [.int .i64 x.kind, .string x.owner, .string x.name, .int .i64 x.unit, .int .i64 x.node]) := Lib.hid (fun i v hv => (World.cell?_of_block (w := w3) (a := ⟨b, o + k * 5 + i, none⟩) ((hkp.keep b _ (Array.getElem?_eq_getElem hb) ⟨hb, hbl⟩).trans (Array.getElem?_eq_getElem hb).symm)).trans (hrg i v hv))
      obtain ⟨X, hX⟩ : ∃ X, X = wr.alloc (.cells #[.int .i64 x.kind, .string x.owner, .string x.name, .int .i64 x.unit, .int .i64 x.node] 77) := ⟨_, rfl⟩
      have hbX : Below wr.heap.size wr X := by rw [hX]; exact below_1 _ _
      have x0 : X.heap[wr.heap.size]? = some (.cells #[.int .i64 x.kind, .string x.owner, .string x.name, .int .i64 x.unit, .int .i64 x.node] 77 (0, 0)) := by rw [hX]; exact heap_alloc_new _ _
      have hXs : X.heap.size = wr.heap.size + 1 := by rw [hX]; simp
      have HXs := Lib.hid hXs
      have HXw := Lib.hid hX
      have HKX : Hid (Kept (fun b _ => b < w3.heap.size ∧ b ≠ lb) w3 X) := Lib.hid (hkp.trans (Kept.below hbX))
      have HOX := Lib.hid (owns_later hown hbX)
      have hlX := (hbX.block lb (lt_blk hlb2)).trans hlb2
      have HLX := Lib.hid hlX
      obtain ⟨l0, l0'⟩ := blk_one hlX 0 _ rfl
      obtain ⟨⟨p0, p1, p2, p3, p4⟩, pl⟩ := blk_five x0
      have HFi := Lib.hid (HFind.out X ((Kept.below HB3.out).trans (HKX.out.mono fun b o ho hD => by
        rcases hD with h | h
        · exact ⟨by omega, h.2⟩
        · have := lt_blk ho; exact ⟨this, by omega⟩)) x.name hsz)
      have hlX2 : lb < X.heap.size := lt_blk hlX
      clear hx hrg hn2 hnz hlb2 hown hkp hX hbX x0 hXs hlX
      cases hv : vsOk l i x with
      | false =>
        have HS2 : Hid (vsL l i (D.take (k + 1)) = vsL l i (D.take k)) := Lib.hid (by rw [HS.out, hv]; simp)
        have hvv : Pl.var l i x.name = none ∧ x.kind ≠ 3 := by
          unfold vsOk at hv
          simpa using hv
        have k3 := (int_no hvv.2).1
        rw [hvv.1] at HFi
        unfold ansV at HFi
        clear hv hvv
        go_upto_region 4 with (refine wpList_load_mid rfl 77 _ rfl b (o + k * 5) rfl [.int .i64 x.kind, .string x.owner, .string x.name, .int .i64 x.unit, .int .i64 x.node] _ HRG.out Try.underlying77 rfl sizeD ?_)
        rw [← HXw.out]
        go_wp2_with (go_at_call 89; refine HFi.out.mono ?_; rintro e w6 ⟨rfl, hw6⟩; rw [hw6]; clear hw6 w6)
        exact ⟨⟨k + 1, a2, n2, c2, by omega, by go_num, by rw [HS2.out]; exact HN2.out, HNz.out, HLX.out, by rw [HS2.out]; exact HOX.out, HKX.out⟩, by simp [intOf]; omega⟩
      | true =>
        have HS2 : Hid (vsL l i (D.take (k + 1)) = vsL l i (D.take k) ++ [x.name]) := Lib.hid (by rw [HS.out, hv]; simp)
        have hne8 : ∀ g, (Value.slice a2 n2 c2).ownBlock = some g → g ≠ lb := fun g hg e => by
          have := (HO.out.lt g hg).1
          omega
        have HNe := Lib.hid hne8
        have hcase : (∃ v, Pl.var l i x.name = some v) ∨ (Pl.var l i x.name = none ∧ x.kind = 3) := by
          cases hvr : Pl.var l i x.name with
          | some v => exact .inl ⟨v, rfl⟩
          | none => unfold vsOk at hv; rw [hvr] at hv; exact .inr ⟨rfl, by simpa using hv⟩
        have HEnd : Hid (∀ (g9 cap9 : Nat) (w9 : World), w9.ownsRow w3.heap.size 9 1 (.slice (some ⟨g9, 0, none⟩) (n2 + 1) cap9) (n2 + 1) ((vsL l i (D.take k)).map Value.string ++ [.string x.name]) → (X.alloc (.cells #[.string x.name] 9)).grownBy w9 (Value.slice a2 n2 c2).ownBlock →
            w9.heap[lb]? = some (.cells #[.slice a2 n2 c2] 33 (0, 0)) ∧
            ((k + 1 : Nat) ≤ m → ∃ (k' : Nat) (a' : Option Addr) (n' c' : Nat), k' = k + 1 ∧ n' = (vsL l i (D.take k')).length ∧ (n' = 0 → a' = none ∧ c' = 0) ∧ (w9.setCell ⟨lb, 0, none⟩ (.slice (some ⟨g9, 0, none⟩) (n2 + 1) cap9)).heap[lb]? = some (.cells #[.slice a' n' c'] 33 (0, 0)) ∧ (w9.setCell ⟨lb, 0, none⟩ (.slice (some ⟨g9, 0, none⟩) (n2 + 1) cap9)).ownsRow w3.heap.size 9 1 (.slice a' n' c') n' ((vsL l i (D.take k')).map Value.string) ∧ Kept (fun b _ => b < w3.heap.size ∧ b ≠ lb) w3 (w9.setCell ⟨lb, 0, none⟩ (.slice (some ⟨g9, 0, none⟩) (n2 + 1) cap9)))) := Lib.hid (by
          intro g9 cap9 w9 hown9 hg9
          have hl9 : w9.heap[lb]? = some (.cells #[.slice a2 n2 c2] 33 (0, 0)) := (hg9.block lb (by simp; omega) (fun e => HNe.out _ e.symm rfl)).trans ((Below.heap_alloc X _ lb hlX2).trans HLX.out)
          refine ⟨hl9, fun _ => ⟨k + 1, some ⟨g9, 0, none⟩, n2 + 1, cap9, rfl, by rw [HS2.out, List.length_append, ← HN2.out]; rfl, fun h => by omega, by rw [heap_setCell_same _ _ _ _ _ _ hl9]; rfl, ?_, ?_⟩⟩
          · rw [HS2.out, List.map_append]
            exact ownsRow_setCell_not hown9 (fun e => by
              have := (hown9.lt _ e).1
              dsimp only at this
              omega) _
          · refine HKX.out.trans ((Kept.below ((Below.refl _ _).alloc (Nat.le_refl _) _)).trans ((Kept.grown hg9 (fun b o ho hD e => ?_)).trans (Kept.setCell _ (fun o ho hD => hD.2 rfl) _)))
            have := (HOX.out.lt b e).1
            omega)
        clear hv
        rcases hcase with ⟨v, hvr⟩ | ⟨hvr, hk3⟩
        · rw [hvr] at HFi
          unfold ansV at HFi
          clear hvr
          go_upto_region 4 with (refine wpList_load_mid rfl 77 _ rfl b (o + k * 5) rfl [.int .i64 x.kind, .string x.owner, .string x.name, .int .i64 x.unit, .int .i64 x.node] _ HRG.out Try.underlying77 rfl sizeD ?_)
          rw [← HXw.out]
          go_wp2_with (first | (go_at_call 89; refine HFi.out.mono ?_; rintro e w6 ⟨rfl, hw6⟩; rw [hw6]; clear hw6 w6) | (at_builtin; go_loud (refine wpList_append_lies _ rfl (.tmp 35) (.tmp 38) 33 rfl w3.heap.size 9 i0 _ 1 16 Try.underlying33 hi0 hz0 hz1 hz2 rfl (by omega) (.slice a2 n2 c2) n2 ((vsL l i (D.take k)).map Value.string) rfl (HOX.out.alloc _) ⟨X.heap.size, 0, none⟩ 1 1 [.string x.name] rfl rfl (World.news_of_block (cs := #[.string x.name]) (t := 9) (fr := (0, 0)) (heap_alloc_new X _)) (by simp [Value.oneCell']) (by omega) (by unfold maxLen; omega) (by omega) (by simp; have := HXs.out; omega) (X.heap.size + 1) (by simp) ?_; intro g9 cap9 w9 hown9 hgrow9 hat9 hlt9; obtain ⟨hl9, hrel9⟩ := HEnd.out g9 cap9 w9 hown9 hgrow9; have HR9 := Lib.hid hrel9; obtain ⟨r9, r9'⟩ := blk_one hl9 0 _ rfl; clear hown9 hgrow9 hat9 hl9 hrel9)))
          obtain ⟨_, a', n', c', rfl, h1, h2, h3, h4, h5⟩ := HR9.out (by omega)
          exact ⟨⟨k + 1, a', n', c', by omega, by go_num, h1, h2, h3, h4, h5⟩, by simp [intOf]; omega⟩
        · rw [hvr] at HFi
          unfold ansV at HFi
          have k3 := (int_yes hk3).1
          clear hvr hk3
          go_upto_region 4 with (refine wpList_load_mid rfl 77 _ rfl b (o + k * 5) rfl [.int .i64 x.kind, .string x.owner, .string x.name, .int .i64 x.unit, .int .i64 x.node] _ HRG.out Try.underlying77 rfl sizeD ?_)
          rw [← HXw.out]
          go_wp2_with (first | (go_at_call 89; refine HFi.out.mono ?_; rintro e w6 ⟨rfl, hw6⟩; rw [hw6]; clear hw6 w6) | (at_builtin; go_loud (refine wpList_append_lies _ rfl (.tmp 35) (.tmp 38) 33 rfl w3.heap.size 9 i0 _ 1 16 Try.underlying33 hi0 hz0 hz1 hz2 rfl (by omega) (.slice a2 n2 c2) n2 ((vsL l i (D.take k)).map Value.string) rfl (HOX.out.alloc _) ⟨X.heap.size, 0, none⟩ 1 1 [.string x.name] rfl rfl (World.news_of_block (cs := #[.string x.name]) (t := 9) (fr := (0, 0)) (heap_alloc_new X _)) (by simp [Value.oneCell']) (by omega) (by unfold maxLen; omega) (by omega) (by simp; have := HXs.out; omega) (X.heap.size + 1) (by simp) ?_; intro g9 cap9 w9 hown9 hgrow9 hat9 hlt9; obtain ⟨hl9, hrel9⟩ := HEnd.out g9 cap9 w9 hown9 hgrow9; have HR9 := Lib.hid hrel9; obtain ⟨r9, r9'⟩ := blk_one hl9 0 _ rfl; clear hown9 hgrow9 hat9 hl9 hrel9)))
          obtain ⟨_, a', n', c', rfl, h1, h2, h3, h4, h5⟩ := HR9.out (by omega)
          exact ⟨⟨k + 1, a', n', c', by omega, by go_num, h1, h2, h3, h4, h5⟩, by simp [intOf]; omega⟩
    · have hkn : k = m := by omega
      subst hkn
      have hall : D.take k = D := by rw [HM.out, List.take_length]
      have HE : Hid (VsJ w0.heap.size lb (vsF l i D) (i + 1) wr) := Lib.hid (by
        unfold VsJ
        rw [HF1.out, ← hall, ← hn2]
        exact ⟨a2, c2, fun h => hnz (by rw [hn2, h]; rfl), hlb2, owns_base hown (by omega)⟩)
      clear hn2 hnz hlb2 hown hkp hall
      go_wp2_with fail
      go_end0
      exact ⟨rfl, HE.out, (Kept.below HB3.out).trans (HK.out.mono fun b o ho hD => by
        rcases hD with h | h
        · exact ⟨by omega, h.2⟩
        · have := lt_blk ho; exact ⟨this, by omega⟩)⟩
end Go.Proofs.Ytoelfiendfemaaa

namespace Go.Proofs.Ytoelfiendfemaaa
open Go.RowKit Go.Deep
set_option linter.unusedVariables false
set_option linter.unusedSimpArgs false

theorem below_putS {B : Nat} {w w' : World} (h : Below B w w') {g : Nat} (hg : B ≤ g) (hB : B ≤ w'.heap.size) (n : Nat) (off : Nat) (d : Array (List UInt8)) (os : Array Obj) :
    Below B w (Sort.grow (Sort.putRow encStr (Sort.ahead w' n) g off d) os) := by
  refine ⟨h.os, h.tape, h.output, ?_, fun k hk => ?_⟩
  · rw [Sort.size_grow, Sort.size_putRow]; exact Nat.le_trans h.size (Nat.le_add_right _ _)
  · rw [Sort.heap_grow_old _ _ (by rw [Sort.size_putRow]; exact Nat.lt_of_lt_of_le hk hB)]
    refine Eq.trans ?_ (h.block k hk)
    show (w'.heap.modify g _)[k]? = _
    rw [Array.getElem?_modify, if_neg (by omega)]
theorem below_putS0 {B : Nat} {w w' : World} (h : Below B w w') {g : Nat} (hg : B ≤ g) (n : Nat) (off : Nat) (d : Array (List UInt8)) :
    Below B w (Sort.putRow encStr (Sort.ahead w' n) g off d) := by
  refine ⟨h.os, h.tape, h.output, ?_, fun k hk => ?_⟩
  · rw [Sort.size_putRow]; exact h.size
  · refine Eq.trans ?_ (h.block k hk)
    show (w'.heap.modify g _)[k]? = _
    rw [Array.getElem?_modify, if_neg (by omega)]

/-- The cells hold these strings, and may be written. -/
def OwnS (w : World) (g : Nat) (l : List Pl.Bs) : Prop := Sort.Holds encStr w g 0 l.toArray ∧ g < w.heap.size
def SortedS (g : Nat) (l : List Pl.Bs) (w : World) (e : Ending) (w' : World) : Prop := e = .returned (.tuple #[]) ∧ OwnS w' g (Pl.srt l) ∧ ∀ B, B ≤ g → Below B w w'
theorem psort_any (g cap n : Nat) (l : List Pl.Bs) (w : World) (h : OwnS w g l) (hn : n = l.length) (hl : l.length ≤ 1000) :
    Calls Try.prog 47 #[.slice (some ⟨g, 0, none⟩) n cap] w (SortedS g l w) := by
  subst hn
  obtain ⟨h1, h2⟩ := h
  refine (Try.slices_Sort_string g 0 cap l w h1 h2 (by omega)).mono ?_
  rintro e w' ⟨rfl, q, os, rfl⟩
  refine ⟨rfl, ⟨?_, ?_⟩, fun B hB => below_putS (Below.refl _ _) hB (by omega) _ _ _ _⟩
  · refine Sort.holds_grow _ _ _ _ _ _ (by rw [Sort.size_putRow]; exact h2) ?_
    refine Sort.holds_putRow encStr (Sort.ahead w q) g 0 l.toArray _ h1 ?_
    have := Pl.srt_len l
    unfold Pl.srt at this
    simp only [List.size_toArray]
    exact this
  · rw [Sort.size_grow, Sort.size_putRow]
    exact Nat.lt_of_lt_of_le h2 (Nat.le_add_right _ _)
def CompactedS (g cap : Nat) (l : List Pl.Bs) (w : World) (e : Ending) (w' : World) : Prop :=
  e = .returned (.slice (some ⟨g, 0, none⟩) ((Lib.compact l).map Pl.mk).length cap) ∧ StrsAt w' g 0 ((Lib.compact l).map Pl.mk) ∧ g < w'.heap.size ∧ ∀ B, B ≤ g → Below B w w'
theorem pcompact_any (g cap n : Nat) (l : List Pl.Bs) (w : World) (h : OwnS w g l) (hn : n = l.length) (hl : l.length ≤ 1000) (hc : l.length ≤ cap) :
    Calls Try.prog 48 #[.slice (some ⟨g, 0, none⟩) n cap] w (CompactedS g cap l w) := by
  subst hn
  obtain ⟨h1, h2⟩ := h
  refine (Try.slices_Compact_string g 0 cap l w h1 (by omega) hc).mono ?_
  rintro e w' ⟨rfl, q, rfl⟩
  have hle := Lib.compact_length_le l
  refine ⟨by rw [List.length_map], fun j x hx => ?_, by rw [Sort.size_putRow]; exact h2, fun B hB => below_putS0 (Below.refl _ _) hB _ _ _⟩
  have hj : j < (Lib.compact l).length := by
    have := (List.getElem?_eq_some_iff.1 hx).1
    rwa [List.length_map] at this
  rw [Sort.cell?_putRow encStr (Sort.ahead w q) g 0 l.toArray _ h1 (by simp; omega) j (by simp; omega)]
  rw [List.getElem?_map, List.getElem?_eq_getElem hj] at hx
  simp only [Option.map_some, Option.some.injEq] at hx
  subst hx
  congr 1
  have : (Lib.compact l ++ List.replicate (l.length - (Lib.compact l).length) ([] : Pl.Bs)).toArray[j]! = (Lib.compact l)[j] := by
    rw [getElem!_pos _ j (by simp; omega), List.getElem_toArray, List.getElem_append_left hj]
  rw [this]
  rfl

theorem ownS_of_row {w : World} {B g n cap : Nat} {ys : List ByteArray} (h : w.ownsRow B 9 1 (.slice (some ⟨g, 0, none⟩) n cap) n (ys.map Value.string)) (hn : n = ys.length) : OwnS w g (Pl.bs ys) := by
  refine ⟨fun j hj => ?_, ?_⟩
  · have hj2 : j < ys.length := by simpa [Pl.bs] using hj
    refine ⟨?_, by rw [Nat.zero_add]; exact h.frozenAt j⟩
    rw [Nat.zero_add, h.cellAt j (by omega), List.getElem?_map, List.getElem?_eq_getElem hj2]
    have : (Pl.bs ys).toArray[j]! = ys[j].data.toList := by
      rw [getElem!_pos _ j hj, List.getElem_toArray]
      simp [Pl.bs]
    rw [this]
    show some (Value.string ys[j]) = some (Value.string (Pl.mk ys[j].data.toList))
    rw [Pl.mk_self]
  · rcases h.2 with ⟨h', _⟩ | ⟨g', cap', cur, h', _, hg, _⟩
    · simp at h'
    · simp only [Value.slice.injEq, Option.some.injEq, Addr.mk.injEq, and_true, true_and] at h'
      obtain ⟨rfl, rfl⟩ := h'
      exact (Array.getElem?_eq_some_iff.1 hg).1

theorem compact_ref (xs ys : List ByteArray) (h : ∀ x, x ∈ xs ↔ x ∈ ys) : (Lib.compact (Pl.srt (Pl.bs xs))).map Pl.mk = Pl.refB ys := by
  unfold Pl.refB
  congr 1
  refine Pl.strict_ext _ _ (Pl.comp_strict _ (Pl.srt_le _)) (Pl.refL_facts _).1 fun x => ?_
  rw [Pl.comp_mem _ (Pl.srt_le _), Pl.srt_mem, (Pl.refL_facts _).2]
  unfold Pl.bs
  rw [List.mem_map, List.mem_map]
  exact ⟨fun ⟨y, hy, e⟩ => ⟨y, (h y).1 hy, e⟩, fun ⟨y, hy, e⟩ => ⟨y, (h y).2 hy, e⟩⟩
theorem vis_kind {l : List Pl.Rw} (hok : Pl.Ok l) {k v : Int} (h0 : 0 ≤ k) (h1 : k < l.length) (hm : v ∈ Pl.vis l k) : (Pl.rw l v).kind = 4 ∨ (Pl.rw l v).kind = 10 := by
  have dk : ∀ p k, v ∈ Pl.declared l p k → (Pl.rw l v).kind = 4 ∨ (Pl.rw l v).kind = 10 := by
    intro p k hv
    by_cases h6 : (Pl.rw l p).kind = 6
    · rw [declared_block h6] at hv
      unfold Pl.blockVars at hv
      have := (List.mem_filter.1 hv).2
      simp only [decide_eq_true_eq] at this
      exact .inr this.2
    · by_cases h2 : (Pl.rw l p).kind = 2 ∧ (Pl.rw l k).kind = 6
      · rw [declared_func h2.1 h2.2] at hv
        unfold Pl.funcVars at hv
        obtain ⟨c, _, hc⟩ := List.mem_flatMap.1 hv
        unfold Pl.parKids at hc
        have := (List.mem_filter.1 hc).2
        simp only [decide_eq_true_eq] at this
        exact .inl this.2.2
      · rw [declared_none h6 h2] at hv
        cases hv
  have key : ∀ (n : Nat) (k : Int), 0 ≤ k → k < l.length → k.toNat < n → v ∈ Pl.vis l k → (Pl.rw l v).kind = 4 ∨ (Pl.rw l v).kind = 10 := by
    intro n
    induction n with
    | zero => intro k _ _ h; omega
    | succ n ih =>
      intro k h0 h1 hn hm
      rw [Pl.vis_step hok h0 h1] at hm
      obtain ⟨hp1, hp2⟩ := ok_par hok h0 h1
      split at hm
      · cases hm
      · rcases List.mem_append.1 hm with hm | hm
        · exact dk _ _ hm
        · split at hm
          · cases hm
          · exact ih _ (by omega) (by omega) (by omega) hm
  exact key (k.toNat + 1) k h0 h1 (by omega) hm
theorem vis_in {l : List Pl.Rw} (hok : Pl.Ok l) {k v : Int} (h0 : 0 ≤ k) (h1 : k < l.length) (hm : v ∈ Pl.vis l k) : 0 ≤ v ∧ v < l.length := by
  have key : ∀ (n : Nat) (k : Int), 0 ≤ k → k < l.length → k.toNat < n → v ∈ Pl.vis l k → 0 ≤ v ∧ v < l.length := by
    intro n
    induction n with
    | zero => intro k _ _ h; omega
    | succ n ih =>
      intro k h0 h1 hn hm
      rw [Pl.vis_step hok h0 h1] at hm
      obtain ⟨hp1, hp2⟩ := ok_par hok h0 h1
      split at hm
      · cases hm
      · rcases List.mem_append.1 hm with hm | hm
        · exact declared_mem hok (by omega) (by omega) hm
        · split at hm
          · cases hm
          · exact ih _ (by omega) (by omega) (by omega) hm
  exact key (k.toNat + 1) k h0 h1 (by omega) hm
theorem var_some {l : List Pl.Rw} {k : Int} {s : ByteArray} : (Pl.var l k s).isSome = true ↔ ∃ v ∈ Pl.vis l k, (Pl.rw l v).text = s := by
  unfold Pl.var
  rw [List.find?_isSome]
  simp
theorem decls_of_row {us : List Pl.Un} (hF : Few us) {u j : Nat} {x : Pl.Un} {d : Pl.Dc} (hx : us[u]? = some x) (hj : j < (Pl.tbl x).length) (hd : Pl.drow (Pl.tbl x) u j = some d) : d ∈ Pl.decls us := by
  have hlt : u < us.length := (List.getElem?_eq_some_iff.1 hx).1
  have hsz := (hF.2 x (List.mem_of_getElem? hx)).1
  unfold Pl.decls Pl.declsTo
  refine List.mem_flatMap.2 ⟨u, by simpa using hlt, ?_⟩
  rw [hx]
  simp only
  rw [Pl.declsOf_rows _ (by omega)]
  unfold Pl.drows
  exact List.mem_filterMap.2 ⟨j, by simpa using hj, by rw [Nat.zero_add]; exact hd⟩
/-- The names that Visible lists are those that are asked for. -/
theorem vsL_mem {us : List Pl.Un} (hF : Few us) {u i : Nat} {l : List Pl.Rw} (hl : (Pl.tbls us)[u]? = some l) (hi : i < l.length) (s : ByteArray) : s ∈ vsL l i (Pl.decls us) ↔ s ∈ Pl.names (Pl.decls us) l i := by
  obtain ⟨x, hx, rfl, hok, _⟩ := tbls_get hF hl
  unfold vsL Pl.names Pl.consts
  rw [List.mem_append, List.mem_map, List.mem_map, List.mem_map]
  constructor
  · rintro ⟨d, hd, rfl⟩
    obtain ⟨h1, h2⟩ := List.mem_filter.1 hd
    unfold vsOk at h2
    rw [Bool.or_eq_true] at h2
    rcases h2 with h2 | h2
    · obtain ⟨v, hv, e⟩ := var_some.1 h2
      exact .inr ⟨v, hv, e⟩
    · exact .inl ⟨d, List.mem_filter.2 ⟨h1, h2⟩, rfl⟩
  · rintro (⟨d, hd, rfl⟩ | ⟨v, hv, rfl⟩)
    · obtain ⟨h1, h2⟩ := List.mem_filter.1 hd
      exact ⟨d, List.mem_filter.2 ⟨h1, by unfold vsOk; rw [h2, Bool.or_true]⟩, rfl⟩
    · have hvk := vis_kind hok (by omega) (by omega) hv
      have hvr : 0 ≤ v ∧ v < (Pl.tbl x).length := by
        have hs : (Pl.var (Pl.tbl x) i (Pl.rw (Pl.tbl x) v).text).isSome = true := var_some.2 ⟨v, hv, rfl⟩
        by_cases h : 0 ≤ v ∧ v < (Pl.tbl x).length
        · exact h
        · exfalso
          exact h (vis_in hok (by omega) (by omega) hv)
      obtain ⟨j, rfl⟩ : ∃ j : Nat, v = j := ⟨v.toNat, by omega⟩
      have hdr : ∃ d, Pl.drow (Pl.tbl x) u j = some d ∧ d.name = (Pl.rw (Pl.tbl x) j).text := by
        unfold Pl.drow Pl.decl1
        rcases hvk with h | h
        · rw [h]; exact ⟨_, rfl, rfl⟩
        · rw [h]; exact ⟨_, rfl, rfl⟩
      obtain ⟨d, hd, hn⟩ := hdr
      refine ⟨d, List.mem_filter.2 ⟨decls_of_row hF hx (by omega) hd, ?_⟩, hn⟩
      unfold vsOk
      rw [hn, var_some.2 ⟨_, hv, rfl⟩, Bool.true_or]
end Go.Proofs.Ytoelfiendfemaaa

namespace Go.Proofs.Ytoelfiendfemaaa
open Go.RowKit Go.Deep
set_option linter.unusedVariables false
set_option linter.unusedSimpArgs false
set_option maxRecDepth 100000

theorem compact_nil : (Lib.compact (Pl.srt (Pl.bs []))).map Pl.mk = [] := by simp [Pl.bs, Pl.srt, Lib.compact, Lib.compactUpTo]
set_option maxHeartbeats 800000 in
theorem pvisible_no (a : Option Addr) (n c : Nat) (w : World) (p q : Int) (hp : p < 0 ∨ (n : Int) ≤ p) :
    Calls Try.prog 17 #[.slice a n c, .agg #[.int .i64 p, .int .i64 q]] w (NamesP [] w) := by
  obtain ⟨B1, hB1⟩ : ∃ W, W = (w.alloc (.cells #[.slice a n c] 22)).alloc (.cells #[.int .i64 p, .int .i64 q] 29) := ⟨_, rfl⟩
  have hb1 : Below w.heap.size w B1 := by rw [hB1]; exact below_2 _ _ _
  have v0 : B1.heap[w.heap.size]? = some (.cells #[.slice a n c] 22 (0, 0)) := by rw [hB1]; exact (Below.heap_alloc _ _ _ (by simp)).trans (heap_alloc_new _ _)
  have v1 : B1.heap[w.heap.size + 1]? = some (.cells #[.int .i64 p, .int .i64 q] 29 (0, 0)) := by
    rw [hB1]
    have := heap_alloc_new (w.alloc (.cells #[.slice a n c] 22)) (.cells #[.int .i64 p, .int .i64 q] 29)
    rw [World.size_alloc] at this
    exact this
  have c0 := (blk_one v0 0 _ rfl).1
  have c1 := (blk_one v1 0 _ rfl).1
  have c2 := (blk_one v1 1 _ rfl).1
  have HBw := Lib.hid hB1
  have HB1 := Lib.hid hb1
  clear hB1 hb1 v0 v1
  rcases hp with hp | hp
  · go_enter Try.func17, Try.ntmps17
    go_upto_region 1 with fail
    rw [← HBw.out]
    go_wp2_with fail
    go_ret
    exact ⟨_, rfl, .inl ⟨rfl, none, 0, rfl, fun _ => rfl⟩, HB1.out⟩
  · by_cases h0 : p < 0
    · exfalso; omega
    · have hp0 : 0 ≤ p := by omega
      clear h0
      go_enter Try.func17, Try.ntmps17
      go_upto_region 1 with fail
      rw [← HBw.out]
      go_wp2_with fail
      go_ret
      exact ⟨_, rfl, .inl ⟨rfl, none, 0, rfl, fun _ => rfl⟩, HB1.out⟩
set_option maxHeartbeats 6400000 in
theorem pvisible_in (a : Option Addr) (n c : Nat) (us : List Pl.Un) (R : Nat → Sl) (w : World) (hU : IsU w a us R) (hF : Few us) (hn : n = us.length) (k : Nat) (hk : k < n) (q : Int) :
    Calls Try.prog 17 #[.slice a n c, .agg #[.int .i64 k, .int .i64 q]] w (NamesP (Pl.visible us k q) w) := by
  obtain ⟨B1, hB1⟩ : ∃ W, W = (w.alloc (.cells #[.slice a n c] 22)).alloc (.cells #[.int .i64 k, .int .i64 q] 29) := ⟨_, rfl⟩
  have hb1 : Below w.heap.size w B1 := by rw [hB1]; exact below_2 _ _ _
  have hs1 : B1.heap.size = w.heap.size + 2 := by rw [hB1]; simp
  have v0 : B1.heap[w.heap.size]? = some (.cells #[.slice a n c] 22 (0, 0)) := by rw [hB1]; exact (Below.heap_alloc _ _ _ (by simp)).trans (heap_alloc_new _ _)
  have v1 : B1.heap[w.heap.size + 1]? = some (.cells #[.int .i64 k, .int .i64 q] 29 (0, 0)) := by
    rw [hB1]
    have := heap_alloc_new (w.alloc (.cells #[.slice a n c] 22)) (.cells #[.int .i64 k, .int .i64 q] 29)
    rw [World.size_alloc] at this
    exact this
  have c0 := (blk_one v0 0 _ rfl).1
  have c1 := (blk_one v1 0 _ rfl).1
  have c2 := (blk_one v1 1 _ rfl).1
  have hku : k < us.length := by rw [← hn]; exact hk
  have hx := List.getElem?_eq_getElem hku
  have hlit := hF.2 _ (List.getElem_mem hku)
  obtain ⟨b, o, rfl, hb, hrg, hT⟩ := hU.one hx
  have hk0 : (0 : Int) ≤ (k : Int) := Int.natCast_nonneg _
  have hk1 : (k : Int) < (n : Int) := by omega
  have HTl : Hid ((Pl.tbls us)[k]? = some (Pl.tbl us[k])) := Lib.hid (by unfold Pl.tbls; rw [List.getElem?_map, hx]; rfl)
  have HTa : Hid (Pl.tblAt us k = Pl.tbl us[k]) := Lib.hid (by unfold Pl.tblAt; rw [Int.toNat_natCast, HTl.out]; rfl)
  have HEx : Hid (Pl.exs (Pl.tbls us) k q = decide (0 ≤ q ∧ q < (Pl.tbl us[k]).length)) := Lib.hid (by
    unfold Pl.exs
    rw [Int.toNat_natCast, HTl.out, Option.getD_some]
    have : k < (Pl.tbls us).length := by unfold Pl.tbls; rw [List.length_map]; exact hku
    rw [decide_eq_decide]
    omega)
  obtain ⟨r0, r1, r6, hrg2⟩ := range7 (w := B1) (b := b) (o := o + k * 7) (x := us[k]) (r := R k) (fun i v hv => (hb1.cell (p := ⟨b, o + k * 7 + i, none⟩) hb).trans (hrg i v hv))
  have HBw := Lib.hid hB1
  have HB1 := Lib.hid hb1
  have HU := Lib.hid hU
  have HF := Lib.hid hF
  have HN := Lib.hid hn
  generalize us[k] = x at *
  cases hbr : x.broken with
  | true =>
    have HV : Hid (Pl.visible us k q = []) := Lib.hid (by
      unfold Pl.visible
      rw [HEx.out]
      unfold Pl.tbl
      rw [if_pos hbr]
      rw [if_neg]
      simp only [decide_eq_true_eq, List.length_nil]
      omega)
    rw [hbr] at r6
    rw [HV.out]
    clear hB1 hb1 v0 v1 hU hF hn hx hrg hrg2 hT
    go_enter Try.func17, Try.ntmps17
    go_upto_region 1 with fail
    rw [← HBw.out]
    go_wp2_with fail
    go_ret
    exact ⟨_, rfl, .inl ⟨rfl, none, 0, rfl, fun _ => rfl⟩, HB1.out⟩
  | false =>
    have HE : Hid (Pl.tbl x = Pl.tab x.tree 0 (-1)) := Lib.hid (by unfold Pl.tbl; rw [if_neg (by simp [hbr])])
    rw [hbr] at r6
    obtain ⟨B2, hB2⟩ : ∃ W, W = B1.alloc (.cells #[.slice none 0 0] 33) := ⟨_, rfl⟩
    have hb2 : Below w.heap.size w B2 := by rw [hB2]; exact hb1.trans ((below_1 _ _).mono (by omega))
    have hb12 : Below B1.heap.size B1 B2 := by rw [hB2]; exact below_1 _ _
    have hs2 : B2.heap.size = B1.heap.size + 1 := by rw [hB2]; simp
    have v2 : B2.heap[B1.heap.size]? = some (.cells #[.slice none 0 0] 33 (0, 0)) := by
      rw [hB2]; exact heap_alloc_new _ _
    have HR := Lib.hid (prows_at hT (fun b h => h) B2 (Same.below hb2 fun _ h => h) hb2.size (fun y hy => by have := (hlit.2 y hy).1; omega) (by have := hlit.1; omega))
    rw [← HE.out] at HR
    have g0 := (blk_one ((hb12.block _ (by omega)).trans v0) 0 _ rfl).1
    have g1 := (blk_one ((hb12.block _ (by omega)).trans v1) 0 _ rfl).1
    have g2 := (blk_one ((hb12.block _ (by omega)).trans v1) 1 _ rfl).1
    have HRG : Hid (B2.rangeAt b (o + k * 7 + 2) [.int .i64 x.tree.kind, .string x.tree.text, .slice (R k).ga x.tree.gaps.length (R k).gc, .slice (R k).da x.tree.kids.length (R k).dc]) := Lib.hid (fun i v hv => (hb12.cell (p := ⟨b, o + k * 7 + 2 + i, none⟩) (by show b < B1.heap.size; omega)).trans (hrg2 i v hv))
    have HB2w := Lib.hid hB2
    have HB2 := Lib.hid hb2
    have HV0 := Lib.hid ((hb12.block _ (by omega)).trans v0)
    have HV1 := Lib.hid ((hb12.block _ (by omega)).trans v1)
    have HV2 := Lib.hid v2
    have hs1' := Lib.hid hs1
    have hs2' := Lib.hid hs2
    have hbw := Lib.hid hb
    obtain ⟨l, hl⟩ : ∃ l, l = Pl.tbl x := ⟨_, rfl⟩
    have hl0 : 0 < l.length := by rw [hl, HE.out, Pl.tab_len]; exact Pl.sz_pos _
    rw [← hl] at HR HTl HTa HEx
    have hTg := tbls_get HF.out HTl.out
    have hok : Pl.Ok l := hTg.choose_spec.2.2.1
    have hl200 : l.length ≤ 200 := hTg.choose_spec.2.2.2
    have HRun : Hid (∀ (w2 : World) (ta : Option Addr) (tc : Nat) (TR : Nat → Sl), TabIn (fun y => (y < w.heap.size ∨ B2.heap.size ≤ y) ∧ y < w2.heap.size) w2 ta l TR → Below B2.heap.size B2 w2 →
        Calls Try.prog 35 #[.slice ta l.length tc, .func (.func 46) #[] #[.pointer (some ⟨w.heap.size + 1, 0, none⟩), .pointer (some ⟨w.heap.size, 0, none⟩), .pointer (some ⟨B1.heap.size, 0, none⟩)]] w2 fun e w' => e = .returned (.tuple #[]) ∧ VsJ w2.heap.size B1.heap.size (vsF l q (Pl.decls us)) l.length w' ∧ Kept (SKD w2.heap.size (fun x => x = B1.heap.size)) w2 w') := Lib.hid (by
      intro w2 ta tc TR hti hb22
      have hs22 := hb22.size
      obtain ⟨t, hsit, hszt⟩ := tbl_sits HF.out HTl.out hl0
      obtain ⟨rb, ro, rfl, _⟩ := tb_of (hti.keep (Same.refl _ _) fun y hy => hy.2) hl0
      have hfp : ∀ y, ((y < w.heap.size ∨ B2.heap.size ≤ y) ∧ y < w2.heap.size) → PB w2 (fun x => x = B1.heap.size) y := fun y hy => ⟨hy.2, by have := hs1'.out; have := hs2'.out; omega⟩
      have HBs : Base w2 (PB w2 (fun x => x = B1.heap.size)) rb ro l.length l TR := ⟨fun y hy => hy.1, fun wx hs hz => by
        obtain ⟨b', o', e, h⟩ := tb_of (hti.keep (fun y hy => hs y (hfp y hy)) fun y hy => Nat.lt_of_lt_of_le hy.2 hz) hl0
        cases e
        exact h, hok, rfl, by omega, fun j => tbl_text HF.out HTl.out j⟩
      have hlow : ∀ wx, On w2 (PB w2 (fun x => x = B1.heap.size)) wx → ∀ y, y < B1.heap.size → wx.heap[y]? = B2.heap[y]? := fun wx hon y hy => by
        have := hs2'.out
        exact (hon.1 y ⟨by omega, by omega⟩).trans (hb22.block y (by omega))
      have hq : ∀ wx, On w2 (PB w2 (fun x => x = B1.heap.size)) wx → wx.cell? ⟨w.heap.size + 1, 1, none⟩ = some (.int .i64 q) ∧ wx.cell? ⟨w.heap.size, 0, none⟩ = some (.slice (some ⟨b, o, none⟩) n c) ∧ Calls Try.prog 34 #[.slice (some ⟨b, o, none⟩) n c] wx (DeclsP (Pl.decls us) wx) := fun wx hon => by
        have h1 := hs1'.out
        have h2 := hs2'.out
        refine ⟨(blk_one ((hlow wx hon _ (by omega)).trans HV1.out) 1 _ rfl).1, (blk_one ((hlow wx hon _ (by omega)).trans HV0.out) 0 _ rfl).1, pdecls_any _ n c us R wx (Units.keep HU.out (fun y hy => ?_) fun y hy => ?_) HF.out HN.out⟩
        · exact (hlow wx hon y (by omega)).trans (HB2.out.block y hy)
        · have := hon.2; omega
      have h1 := hs1'.out
      have h2 := hs2'.out
      have hstep := visible1_step (w0 := w2) (lb := B1.heap.size) (l := l) q (Pl.decls us) (w.heap.size + 1) w.heap.size (some ⟨b, o, none⟩) n c hq (by omega) (decls_len us HF.out) (fun d hd => by
        obtain ⟨u, j, y, hy, hj, hd⟩ := decls_mem HF.out hd
        rw [(decl1_place hd).2.2]
        exact tbl_text (j := u) HF.out (by unfold Pl.tbls; rw [List.getElem?_map, hy]; rfl) j)
      have hF0 : vsF l q (Pl.decls us) 0 = [] := by unfold vsF; rw [if_pos (by omega)]
      have hJ0 : VsJ w2.heap.size B1.heap.size (vsF l q (Pl.decls us)) 0 w2 := by
        unfold VsJ
        rw [hF0]
        exact ⟨none, 0, fun _ => ⟨rfl, rfl⟩, (hb22.block _ (by omega)).trans HV2.out, World.ownsRow_nil _ _ _ _⟩
      exact run_any HBs tc 46 _ _ vsJ_kept hstep (fun args wx => by rfl) hsit hszt ⟨Same.refl _ _, Nat.le_refl _⟩ hJ0)
    have HVis : Hid (Pl.visible us k q = (Lib.compact (Pl.srt (Pl.bs (vsF l q (Pl.decls us) l.length)))).map Pl.mk) := Lib.hid (by
      unfold Pl.visible
      rw [HEx.out, HTa.out]
      by_cases hin : 0 ≤ q ∧ q < l.length
      · rw [if_pos (by simpa using hin)]
        unfold vsF
        rw [if_neg (by omega)]
        obtain ⟨i, rfl⟩ : ∃ i : Nat, q = i := ⟨q.toNat, by omega⟩
        exact (compact_ref _ _ (fun s => vsL_mem HF.out HTl.out (by omega) s)).symm
      · rw [if_neg (by simpa using hin)]
        unfold vsF
        rw [if_pos (by omega), compact_nil])
    have HLn : Hid ((vsF l q (Pl.decls us) l.length).length ≤ 800) := Lib.hid (by
      unfold vsF
      split
      · simp
      · have := vsL_len l q (Pl.decls us) (Pl.decls us).length
        rw [List.take_length] at this
        have := decls_len us HF.out
        omega)
    clear hB1 hb1 v0 v1 hU hF hn hx hrg hrg2 hT hB2 hb2 hb12 v2 hbr hs1 hs2 hb hl hTg hok hl200 hl0
    rw [HVis.out]
    generalize vsF l q (Pl.decls us) = FL at *
    go_enter Try.func17, Try.ntmps17
    go_upto_region 1 with fail
    rw [← HBw.out]
    go_upto_region 4 with fail
    rw [← HB2w.out]
    have n0 : B2.cell? ⟨b, o + k * 7 + 2, none⟩ = some (.int .i64 x.tree.kind) := HRG.out 0 _ rfl
    have n1 : B2.cell? ⟨b, o + k * 7 + 2 + 1, none⟩ = some (.string x.tree.text) := HRG.out 1 _ rfl
    have n2 : B2.cell? ⟨b, o + k * 7 + 2 + 2, none⟩ = some (.slice (R k).ga x.tree.gaps.length (R k).gc) := HRG.out 2 _ rfl
    have n3 : B2.cell? ⟨b, o + k * 7 + 2 + 3, none⟩ = some (.slice (R k).da x.tree.kids.length (R k).dc) := HRG.out 3 _ rfl
    go_upto_region 5 with (first
      | (go_at_call 45; refine HR.out.mono ?_; rintro e w2 ⟨ta, tc, TR, rfl, hti, hb22⟩; have HRn := Lib.hid (HRun.out w2 ta tc TR hti hb22); have HB22 := Lib.hid hb22; clear hti hb22)
      | (go_at_call 35; refine HRn.out.mono ?_; rintro e w5 ⟨rfl, hj5, hk5⟩; have HJ5 := Lib.hid hj5; have HK5 := Lib.hid hk5; clear hj5 hk5))
    have h1 := hs1'.out
    have h2 := hs2'.out
    have hs22 := HB22.out.size
    have HBw5 : Hid (Below w.heap.size w w5) := Lib.hid (HB2.out.trans ((HB22.out.mono (by omega)).trans ⟨HK5.out.os, HK5.out.tape, HK5.out.output, HK5.out.size, fun y hy => by
      have hy2 : y < w2.heap.size := by omega
      rw [HK5.out.keep y _ (Array.getElem?_eq_getElem hy2) (.inl ⟨hy2, by omega⟩)]
      exact (Array.getElem?_eq_getElem hy2).symm⟩))
    obtain ⟨a5, c5, hz5, hl5, ho5⟩ := HJ5.out
    have hLn := HLn.out
    obtain ⟨Lst, hLst⟩ : ∃ L, L = FL l.length := ⟨_, rfl⟩
    have HLst := Lib.hid hLst
    rw [← hLst] at hz5 hl5 ho5 hLn
    clear hLst
    by_cases hem : Lst = []
    · subst hem
      obtain ⟨rfl, rfl⟩ := hz5 rfl
      have l0 : w5.cell? ⟨B1.heap.size, 0, none⟩ = some (.slice none 0 0) := (blk_one hl5 0 _ rfl).1
      clear hz5 hl5 ho5 h1 h2 hs22
      go_wp2_with (first
        | (go_at_call 47; refine (Try.slices_Sort_string_none none 0 w5).mono ?_; rintro e w6 ⟨rfl, hw6⟩; rw [hw6]; clear hw6 w6)
        | (go_at_call 48; refine (Try.slices_Compact_string_empty none 0 w5).mono ?_; rintro e w7 ⟨rfl, hw7⟩; rw [hw7]; clear hw7 w7))
      go_ret
      refine ⟨_, rfl, ?_, HBw5.out⟩
      rw [← HLst.out, compact_nil]
      exact .inl ⟨rfl, none, 0, rfl, fun _ => rfl⟩
    · have hn0 : 0 < Lst.length := List.length_pos_iff.2 hem
      obtain ⟨g, cap, rfl, hgB, hcap⟩ : ∃ g cap, a5 = some ⟨g, 0, none⟩ ∧ w2.heap.size ≤ g ∧ Lst.length ≤ c5 := by
        rcases ho5.2 with ⟨e, h3⟩ | ⟨g, cap, cur, e, e2, e3, e4, _⟩
        · omega
        · injection e with x y z
          subst z
          exact ⟨g, c5, x, e2, e4⟩
      have hOw := ownS_of_row ho5 rfl
      have hbl : (Pl.bs Lst).length = Lst.length := by simp [Pl.bs]
      have HSo := Lib.hid (psort_any g c5 Lst.length (Pl.bs Lst) w5 hOw hbl.symm (by omega))
      have HCo := Lib.hid (fun wx (h : OwnS wx g (Pl.srt (Pl.bs Lst))) => pcompact_any g c5 Lst.length (Pl.srt (Pl.bs Lst)) wx h (by rw [Pl.srt_len, hbl]) (by rw [Pl.srt_len, hbl]; omega) (by rw [Pl.srt_len, hbl]; exact hcap))
      have hcl : ((Lib.compact (Pl.srt (Pl.bs Lst))).map Pl.mk).length ≤ maxLen := by
        rw [List.length_map]
        have := Lib.compact_length_le (Pl.srt (Pl.bs Lst))
        rw [Pl.srt_len, hbl] at this
        unfold maxLen
        omega
      have HCl := Lib.hid hcl
      have l0 : w5.cell? ⟨B1.heap.size, 0, none⟩ = some (.slice (some ⟨g, 0, none⟩) Lst.length c5) := (blk_one hl5 0 _ rfl).1
      have hlw5 := lt_blk hl5
      have hlt2 : B1.heap.size < w2.heap.size := by omega
      have hle2 : w.heap.size ≤ w2.heap.size := by omega
      have hk52 := HK5.out.size
      clear hz5 hl5 ho5 h1 h2 hs22 hem hcl hOw hbl
      go_wp2_with (first
        | (go_at_call 47; refine HSo.out.mono ?_; rintro e w6 ⟨rfl, ho6, hb6⟩; have HO6 := Lib.hid ho6; have hb6' := hb6 w2.heap.size hgB; have HB6 := Lib.hid hb6'; have l6 : w6.cell? ⟨B1.heap.size, 0, none⟩ = some (.slice (some ⟨g, 0, none⟩) Lst.length c5) := (World.cell?_of_block (w := w5) (a := ⟨B1.heap.size, 0, none⟩) (hb6'.block _ hlt2)).trans l0; clear ho6 hb6 hb6')
        | (go_at_call 48; refine (HCo.out w6 HO6.out).mono ?_; rintro e w7 ⟨rfl, hr7, hg7, hb7⟩; have HR7 := Lib.hid hr7; have HG7 := Lib.hid hg7; have HB7 := Lib.hid (hb7 w2.heap.size hgB); clear hr7 hg7 hb7))
      go_ret
      refine ⟨_, rfl, ?_, HBw5.out.trans ((HB6.out.mono hle2).trans (HB7.out.mono hle2))⟩
      rw [← HLst.out]
      exact .inr ⟨g, 0, c5, by rw [List.length_map]; rfl, HG7.out, HR7.out, HCl.out⟩
theorem pvisible_any (a : Option Addr) (n c : Nat) (us : List Pl.Un) (R : Nat → Sl) (w : World) (hU : IsU w a us R) (hF : Few us) (hn : n = us.length) (p q : Int) :
    Calls Try.prog 17 #[.slice a n c, .agg #[.int .i64 p, .int .i64 q]] w (NamesP (Pl.visible us p q) w) := by
  by_cases hp : 0 ≤ p ∧ p < n
  · obtain ⟨k, rfl⟩ : ∃ k : Nat, p = k := ⟨p.toNat, by omega⟩
    exact pvisible_in a n c us R w hU hF hn k (by omega) q
  · have : Pl.visible us p q = [] := by
      unfold Pl.visible
      rw [if_neg]
      unfold Pl.exs
      simp only [decide_eq_true_eq]
      have : (Pl.tbls us).length = n := by unfold Pl.tbls; rw [List.length_map, hn]
      omega
    rw [this]
    exact pvisible_no a n c w p q (by omega)
/-- What the laws ask of the program's five functions. -/
theorem prg : Prg := ⟨fun a n c us R w _ hU hF hn => uses_any a n c us R w hU hF hn, fun a n c us R w _ hU hF hn p q => presolve_any a n c us R w hU hF hn p q, fun a n c us R w _ hU hF hn p q => pvisible_any a n c us R w hU hF hn p q, fun a n c us R w _ hU hF hn => unbound_any a n c us R w hU hF hn, fun a n c us R w _ hU hF hn => doubles_any a n c us R w hU hF hn⟩
end Go.Proofs.Ytoelfiendfemaaa

namespace Go.Proofs.Ytoelfiendfemaaa
end Go.Proofs.Ytoelfiendfemaaa
