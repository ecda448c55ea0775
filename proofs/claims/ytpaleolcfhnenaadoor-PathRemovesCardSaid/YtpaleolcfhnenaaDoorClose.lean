/- Frames, trees among a law's arguments, the five tables out of the listed variables. -/
import Derived.Test.YtpaleolcfhnenaaDoorRows
import Derived.Test.YtpaleolcfhnenaaDoorBMem
import Derived.Test.YtpaleolcfhnenaaDoorTab
import Derived.Test.YtpaleolcfhnenaaDoorCards
import Derived.Test.YtpaleolcfhnenaaDoorTie
import Derived.WalkKit
import Derived.ProofKit
import Derived.OpenShut
import Derived.JoinedCond
import Derived.SizedLaws
import Derived.SliceStrings
import Derived.Deep.Slices
import Derived.Deep.DeepHandedRow
import Derived.Lib.LaidTab
import Derived.Stop.LaidErr
import Derived.Clock
namespace Go.Proofs.YtpaleolcfhnenaaDoor
open Go.ChangeShapes Go.WideShapes Go.ChangeAt Go.RowKit
set_option linter.unusedVariables false

theorem Tryd.own : ownKnob Tryd.prog.godebug = none := by kernel_rfl
theorem Tryd.laidOut : laidOutB Tryd.prog = true := by kernel_rfl

/-- Behind the call all arguments read as they read. -/
theorem all_stay {H : Type} {enc : TypeId × Value → H} {W W' : World} (hb : Below W.heap.size W W') : ∀ {ts : List TypeId} {vs : List Value} {ds : List (DataW H)} {ps : List MemPlace},
    (∀ t ∈ ts, Tryd.prog.readableRec t = true ∧ t < Tryd.prog.types.size) → DataW.TrodAll enc Tryd.prog W 0 (fun _ => true) true ts vs ds ps → (∀ x ∈ ps, x.block < W.heap.size) → DataW.TrodAll enc Tryd.prog W' 0 (fun b => decide (b < W.heap.size)) true ts vs ds ps
  | [], [], _, _, _, h, _ => by obtain ⟨_, rfl, rfl⟩ := trodAll_nil h; exact trodAll_mk0
  | [], _ :: _, _, _, _, h, _ => by obtain ⟨h1, _, _⟩ := trodAll_nil h; cases h1
  | t :: ts, vs, ds, ps, ht, h, hlt => by
    obtain ⟨v0, vs0, d0, ds0, p0, q0, rfl, rfl, rfl, h0, r0⟩ := trodAll_cons h
    have h1 := ht t (by simp)
    exact trodAll_cons_mk (Below.trod Tryd.laidOut h1.1 h1.2 h0 hb (fun x hx => hlt x (by simp [hx]))) (all_stay hb (fun x hx => ht x (by simp [hx])) r0 (fun x hx => hlt x (by simp [hx])))

theorem law_post {H : Type} {enc : TypeId × Value → H} {f : Func} {s : ChangeSpec} {W W' : World} {args : Array Value} {ds gs : List (DataW H)} {before : List MemPlace}
    (hr : f.resultTypes.toList = [4]) (hr2 : f.resultTypes.size = 1) (hp : ∀ t ∈ f.params.toList, Tryd.prog.readableRec t = true ∧ t < Tryd.prog.types.size) (hv : s.vars = [])
    (hres : (s.fn H (ds ++ gs)).results = [.lit (.bool true)]) (harg : (s.fn H (ds ++ gs)).args = ds) (hvar : (s.fn H (ds ++ gs)).vars = [])
    (hW : DataW.Whole enc Tryd.prog f.params.toList s.vars false W args.toList ds gs before) (hb : Below W.heap.size W W') :
    s.post enc Tryd.prog f false true false false W args (.bool true) W' := by
  have hW' := hW
  have hlt := hW.lt
  obtain ⟨p, q, hA, hV, rfl, hfz, hnd⟩ := hW
  refine ⟨ds, gs, p ++ q, [], p, [], hW', ?_, ?_, ?_, hb.frame _, fun h => by cases h⟩
  · rw [hres, hr, hr2]
    exact trodAll_mk1 (shut_bool Tryd.underlying4 _)
  · rw [harg]
    exact all_stay hb hp hA (fun x hx => hlt x (by simp [hx]))
  · rw [hvar, hv]
    exact rfl
end Go.Proofs.YtpaleolcfhnenaaDoor

namespace Go.Proofs.YtpaleolcfhnenaaDoor
open Go.ChangeShapes Go.WideShapes Go.ChangeAt Go.RowKit Go.Deep
set_option linter.unusedVariables false
set_option linter.constructorNameAsVariable false
set_option maxRecDepth 100000
set_option linter.unusedSimpArgs false

theorem cellsI : Tryd.prog.cellsOf 3 = 1 := by kernel_rfl
theorem cellsS : Tryd.prog.cellsOf 9 = 1 := by kernel_rfl
theorem cellsG : Tryd.prog.cellsOf 22 = 1 := by kernel_rfl
theorem cellsK : Tryd.prog.cellsOf 23 = 1 := by kernel_rfl
theorem cellsN : Tryd.prog.cellsOf 25 = 4 := by kernel_rfl
theorem strs_bulk {H : Type} (l : List ByteArray) : l.length ≤ Rows.uptoBulkAll (strs (H := H) l) := by
  induction l with
  | nil => exact Nat.zero_le _
  | cons a l ih =>
    have e : strs (H := H) (a :: l) = .lit (.string a.data.toList) :: strs l := rfl
    rw [e, Rows.uptoBulkAll, Rows.uptoBulk, List.length_cons]
    omega
theorem mem_bulk {H : Type} (E : List (DataW H)) (j : Nat) (d : DataW H) (h : E[j]? = some d) : Rows.uptoBulk d ≤ Rows.uptoBulkAll E := by
  induction E generalizing j with
  | nil => cases j <;> cases h
  | cons a E ih =>
    rw [Rows.uptoBulkAll]
    cases j with
    | zero => cases h; omega
    | succ j => have := ih j (by simpa using h); omega
/-- The sum of the sizes, by parts. -/
theorem szs_bulk {H : Type} (L : List (Pl.Tr × Sl)) (E : List (DataW H)) (hl : L.length = E.length) (h : ∀ (i : Nat) p, L[i]? = some p → ∀ d, E[i]? = some d → Pl.sz p.1 ≤ Rows.uptoBulk d) : Pl.szs (L.map Prod.fst) ≤ Rows.uptoBulkAll E := by
  induction L generalizing E with
  | nil => rw [List.map_nil, Pl.szs]; exact Nat.zero_le _
  | cons p L ih =>
    cases E with
    | nil => simp at hl
    | cons d E =>
      rw [List.map_cons, Pl.szs, Rows.uptoBulkAll]
      have h0 := h 0 p rfl d rfl
      have := ih E (by simpa using hl) (fun i q hq e he => h (i + 1) q (by simpa using hq) e (by simpa using he))
      omega
theorem bulk_last {H : Type} (a b c d : DataW H) : Rows.uptoBulk d ≤ Rows.uptoBulkAll [a, b, c, d] := by
  simp only [Rows.uptoBulkAll]; omega
/-- So many, one by one, as a list. -/
theorem list_of {α : Type} (Q : Nat → α → Prop) (n : Nat) (h : ∀ i, i < n → ∃ t, Q i t) : ∃ L : List α, L.length = n ∧ ∀ (i : Nat) t, L[i]? = some t → Q i t := by
  induction n with
  | zero => exact ⟨[], rfl, fun i t hi => by simp at hi⟩
  | succ n ih =>
    obtain ⟨L, hL, hq⟩ := ih (fun i hi => h i (by omega))
    obtain ⟨t, ht⟩ := h n (by omega)
    refine ⟨L ++ [t], by simp [hL], fun i x hx => ?_⟩
    by_cases hi : i < L.length
    · rw [List.getElem?_append_left hi] at hx; exact hq i x hx
    · rw [List.getElem?_append_right (by omega)] at hx
      have hi2 : i - L.length = 0 := by
        rcases Nat.eq_zero_or_pos (i - L.length) with h | h
        · exact h
        · rw [List.getElem?_eq_none (by simp; omega)] at hx; cases hx
      rw [hi2] at hx
      obtain rfl : t = x := by simpa using hx
      have : i = n := by omega
      subst this; exact ht
theorem add_mid (b o j : Nat) : (⟨b, o, none⟩ : Addr).add j = ⟨b, o + j, none⟩ := by unfold Addr.add; split <;> simp_all
theorem spot_of {W : World} {a : Addr} {v : Value} (h : W.cell? a = some v) : a.spot = none ∧ a.block < W.heap.size := by
  unfold World.cell? at h
  cases hb : W.heap[a.block]? with
  | none => rw [hb] at h; cases h
  | some o =>
    refine ⟨?_, (Array.getElem?_eq_some_iff.1 hb).1⟩
    rw [hb] at h
    cases o <;> simp at h
    cases hs : a.spot with
    | none => rfl
    | some k => rw [hs] at h; simp at h

theorem int_hi {x : Int} (h : (Lit.int .i64 x).wf = true) : x ≤ 9223372036854775807 ∧ -9223372036854775808 ≤ x := by
  simp [Lit.wf, show IntKind.i64.min = -9223372036854775808 from by decide, show IntKind.i64.max = 9223372036854775807 from by decide] at h
  omega
section
variable {H : Type} {enc : TypeId × Value → H} {W : World} {sp : Nat → Bool} {hd : Bool} {hb : Nat}
/-- An address whose cells are known lies in a block as it stands. -/
theorem plain_addr {a : Addr} {v : Value} (h : W.cell? (a.add 0) = some v) : ∃ b o, a = ⟨b, o, none⟩ ∧ b < W.heap.size := by
  obtain ⟨b, o, s⟩ := a
  rw [show (⟨b, o, s⟩ : Addr).add 0 = ⟨b, o, s⟩ by simp [Addr.add]] at h
  have h1 := spot_of h
  exact ⟨b, o, by rw [show s = none from h1.1], h1.2⟩
theorem open_strs {fuel : Nat} {cs : List Value} {x : DataW H × List MemPlace} (h : DataW.trod enc Tryd.prog W hb sp hd fuel 22 cs = some x) :
    ∃ a len cap xs, cs = [.slice a len cap] ∧ xs.length = len ∧ Strs (fun b => b < W.heap.size) W a xs ∧ len ≤ Rows.uptoBulk x.1 := by
  rcases open_strings Tryd.underlying22 Tryd.underlying9 cellsS h with ⟨rfl, hx⟩ | ⟨a, len, cap, ss, rfl, hbl, hl, hm, hz, hx, hcell, hsz⟩
  · exact ⟨none, 0, 0, [], rfl, rfl, strs_nil _ _ _, Nat.zero_le _⟩
  · have hle : len ≤ ss.length := by rw [hz]; split <;> omega
    have hxs : (ss.take len).length = len := by rw [List.length_take]; omega
    refine ⟨some a, len, cap, ss.take len, rfl, hxs, ⟨by rw [hxs]; omega, fun x hx => hsz x (List.mem_of_mem_take hx), ?_⟩, by rw [hx]; simp only [Rows.uptoBulk]; have := strs_bulk (H := H) (ss.take len); omega⟩
    by_cases h0 : len = 0
    · left; subst h0; rfl
    · right
      obtain ⟨b, o, rfl, hlt⟩ := plain_addr (hcell 0 (by omega))
      refine ⟨b, o, rfl, hlt, fun j x hx => ?_⟩
      have hj : j < len := by have := (List.getElem?_eq_some_iff.1 hx).1; omega
      have h2 := hcell j (by omega)
      rw [List.getElem?_take, if_pos hj] at hx
      rw [List.getD_eq_getElem?_getD, hx, add_mid] at h2
      exact h2
/-- Four cells of a node's kind. -/
def isNode (W : World) (cs : List Value) (t : Pl.Tr) (r : Sl) : Prop := cs = [.int .i64 t.kind, .string t.text, .slice r.ga t.gaps.length r.gc, .slice r.da t.kids.length r.dc] ∧ IsT W t r
theorem open_tree (fuel : Nat) : ∀ (cs : List Value) (x : DataW H × List MemPlace), DataW.trod enc Tryd.prog W hb sp hd fuel 25 cs = some x → ∃ t r, isNode W cs t r ∧ ∀ y ∈ Pl.pre t, y.gaps.length ≤ Rows.uptoBulk x.1 := by
  induction fuel using Nat.strongRecOn with
  | ind fuel ih =>
    intro cs x h
    obtain ⟨ys, n, rfl, hxe, hcl, hyl, hfs⟩ := DataW.trod_struct Tryd.underlying25 h
    rw [cellsN] at hcl
    obtain ⟨x0, x1, x2, x3, rfl⟩ : ∃ x0 x1 x2 x3, cs = [x0, x1, x2, x3] := by
      match cs, hcl with
      | [x0, x1, x2, x3], _ => exact ⟨x0, x1, x2, x3, rfl⟩
    have hy : ys.length = 4 := hyl
    have t0 := (hfs 0 _ rfl).trans (List.getElem?_eq_getElem (by omega))
    have t1 := (hfs 1 _ rfl).trans (List.getElem?_eq_getElem (by omega))
    have t2 := (hfs 2 _ rfl).trans (List.getElem?_eq_getElem (by omega))
    have t3 := (hfs 3 _ rfl).trans (List.getElem?_eq_getElem (by omega))
    obtain ⟨n0, e0, _, _⟩ := DataW.trod_int Tryd.underlying3 t0
    obtain ⟨s1, e1, _, z1⟩ := DataW.trod_string Tryd.underlying9 t1
    obtain ⟨ga, gl, gc, gs, e2, hgl, hgs, hgB⟩ := open_strs t2
    obtain rfl : x0 = .int .i64 n0 := by simpa [cellsI] using e0
    obtain rfl : x1 = .string s1 := by simpa [cellsS] using e1
    obtain rfl : x2 = .slice ga gl gc := by simpa [cellsG] using e2
    have k3 : DataW.trod enc Tryd.prog W hb sp hd n 23 [x3] = some ys[3] := by simpa [cellsK] using t3
    obtain ⟨y0, y1, y2, y3, rfl⟩ : ∃ y0 y1 y2 y3, ys = [y0, y1, y2, y3] := by
      match ys, hy with
      | [y0, y1, y2, y3], _ => exact ⟨y0, y1, y2, y3, rfl⟩
    simp only [List.getElem_cons_succ, List.getElem_cons_zero] at k3
    rcases DataW.trod_slice Tryd.underlying23 k3 with ⟨e3, _⟩ | ⟨a, len, cap, elems, rest, m, rfl, e3, hyd, hbl, hlc, hcm, hlen, hel, _, _⟩
    · obtain rfl : x3 = .slice none 0 0 := by simpa using e3
      exact ⟨.node n0 s1 gs [], ⟨ga, gc, none, 0⟩, ⟨by rw [← hgl]; rfl, .mk _ _ (fun _ => ⟨none, 0, none, 0⟩) z1 hgs (Nat.zero_le _) (.inl rfl) (fun j u hu => by cases j <;> cases hu) (Nat.zero_le _)⟩, fun y hy => by
        have e : y = .node n0 s1 gs [] := by simpa [Pl.pre, Pl.pres] using hy
        subst e
        rw [hxe]
        show gs.length ≤ _
        simp only [Rows.uptoBulk, List.map_cons, List.map_nil, Rows.uptoBulkAll]
        simp only [List.getElem_cons_succ, List.getElem_cons_zero] at hgB
        omega⟩
    · obtain rfl : x3 = .slice (some a) len cap := by simpa using e3
      obtain ⟨L, hL, hq⟩ := list_of (fun i (p : Pl.Tr × Sl) => ∃ ds, W.cells? hb (a.add (i * 4)) 4 = some ds ∧ isNode W ds p.1 p.2 ∧ ∀ e, elems[i]? = some e → ∀ y ∈ Pl.pre p.1, y.gaps.length ≤ Rows.uptoBulk e.1) len (fun i hi => by
        have he := (hel i hi).trans (List.getElem?_eq_getElem (show i < elems.length by omega))
        rw [cellsN] at he
        obtain ⟨ds, hd1, hd2⟩ := Option.bind_eq_some_iff.1 he
        obtain ⟨t, r, ht, hb2⟩ := ih m (by omega) ds _ hd2
        exact ⟨(t, r), ds, hd1, ht, fun e he2 => by rw [List.getElem?_eq_getElem (show i < elems.length by omega)] at he2; obtain rfl := Option.some.inj he2; exact hb2⟩)
      have hgetk : ∀ (j : Nat) u, (L.map Prod.fst)[j]? = some u → ∃ r, L[j]? = some (u, r) := fun j u hu => by
        rw [List.getElem?_map] at hu
        obtain ⟨p, hp, rfl⟩ := Option.map_eq_some_iff.1 hu
        exact ⟨p.2, hp⟩
      have e : (L.map Prod.fst).length = len := List.length_map .. |>.trans hL
      have hbulk : ∀ (q : Nat) p, L[q]? = some p → ∀ y ∈ Pl.pre p.1, y.gaps.length ≤ Rows.uptoBulkAll (elems.map (·.1)) := fun q p hp y hy => by
        have hql : q < elems.length := by have := (List.getElem?_eq_some_iff.1 hp).1; omega
        obtain ⟨_, _, _, hq3⟩ := hq q p hp
        have h1 := hq3 _ (List.getElem?_eq_getElem hql) y hy
        have h2 := mem_bulk (elems.map (·.1)) q elems[q].1 (by rw [List.getElem?_map, List.getElem?_eq_getElem hql]; rfl)
        omega
      have hbl2 := bulk_last y0.1 y1.1 y2.1 y3.1
      have hy3 : Rows.uptoBulk y3.1 = Rows.uptoBulkAll (elems.map (·.1)) + Rows.uptoBulkAll (rest.map (·.1)) + 1 := by rw [hyd]; simp only [Rows.uptoBulk]
      refine ⟨.node n0 s1 gs (L.map Prod.fst), ⟨ga, gc, some a, cap⟩, ⟨by rw [← hgl, ← e]; rfl, .mk _ _ (fun j => match L[j]? with | some p => p.2 | none => ⟨none, 0, none, 0⟩) z1 hgs (by show (L.map Prod.fst).length ≤ _; rw [List.length_map, hL]; omega) ?_ ?_ (by show (L.map Prod.fst).length ≤ cap; rw [List.length_map, hL]; exact hlc)⟩, ?_⟩
      · by_cases h0 : len = 0
        · left; show L.map Prod.fst = []; rw [List.length_eq_zero_iff.1 (hL.trans h0)]; rfl
        · right
          have each : ∀ (j : Nat) (p : Pl.Tr × Sl), L[j]? = some p → ∀ f, f < 4 → W.cell? (a.add (j * 4 + f)) = [Value.int .i64 p.1.kind, .string p.1.text, .slice p.2.ga p.1.gaps.length p.2.gc, .slice p.2.da p.1.kids.length p.2.dc][f]? := fun j p hp f hf => by
            obtain ⟨ds, hd1, ⟨rfl, _⟩, _⟩ := hq j p hp
            obtain ⟨_, _, hat⟩ := World.cells?_some hd1
            rw [← add_add]
            exact hat f hf
          obtain ⟨p0, hp0⟩ : ∃ p, L[0]? = some p := ⟨_, List.getElem?_eq_getElem (by omega)⟩
          obtain ⟨b, o, rfl, hlt⟩ := plain_addr (each 0 p0 hp0 0 (by decide))
          refine ⟨b, o, rfl, hlt, fun j u hu => ?_⟩
          obtain ⟨r, hr⟩ := hgetk j u hu
          have e := each j _ hr
          simp only [add_mid, ← Nat.add_assoc] at e
          show At4 _ _ _ _ _ _ _
          simp only [hr]
          exact ⟨e 0 (by decide), e 1 (by decide), e 2 (by decide), e 3 (by decide)⟩
      · intro j u hu
        obtain ⟨r, hr⟩ := hgetk j u hu
        simp only [hr]
        obtain ⟨ds, _, ⟨_, ht⟩, _⟩ := hq j _ hr
        exact ht
      · intro y hy
        rw [hxe]
        show y.gaps.length ≤ Rows.uptoBulk (.agg [y0.1, y1.1, y2.1, y3.1])
        simp only [List.getElem_cons_succ, List.getElem_cons_zero] at hgB
        simp only [Rows.uptoBulk, Rows.uptoBulkAll] at hbl2 ⊢
        rw [Pl.pre] at hy
        rcases List.mem_cons.1 hy with rfl | hy
        · show gs.length ≤ _
          omega
        · obtain ⟨v, hv, hyv⟩ := Pl.pres_mem hy
          obtain ⟨q, hq2⟩ := List.getElem?_of_mem hv
          obtain ⟨r, hr⟩ := hgetk q v hq2
          have := hbulk q _ hr y hyv
          omega
theorem open_node {base : Nat} {v : Value} {d : DataW H} {p : List MemPlace} (hv : Value.okWide Tryd.prog W .any base 25 v) (h : DataW.Trod enc Tryd.prog W hb sp hd 25 v d p) :
    ∃ (t : Pl.Tr) (r : Sl), v = .agg #[.int .i64 t.kind, .string t.text, .slice r.ga t.gaps.length r.gc, .slice r.da t.kids.length r.dc] ∧ IsT W t r ∧ ∀ y ∈ Pl.pre t, y.gaps.length ≤ Rows.uptoBulk d := by
  obtain ⟨cs, rfl, _⟩ := okWide_struct Tryd.underlying25 hv
  obtain ⟨fuel, hf⟩ := h
  obtain ⟨t, r, ⟨he, ht⟩, hbk⟩ := open_tree fuel _ _ hf
  exact ⟨t, r, by rw [← Array.toList_inj.1 (show (Value.agg cs).cells.toList = #[Value.int .i64 t.kind, .string t.text, .slice r.ga t.gaps.length r.gc, .slice r.da t.kids.length r.dc].toList from he)]; rfl, ht, hbk⟩
end
end Go.Proofs.YtpaleolcfhnenaaDoor

namespace Go.Proofs.YtpaleolcfhnenaaDoor
open Go.ChangeShapes Go.WideShapes Go.ChangeAt Go.RowKit Go.Deep
set_option linter.unusedVariables false
set_option linter.constructorNameAsVariable false
set_option maxRecDepth 100000
set_option linter.unusedSimpArgs false

theorem cellsA27 : Tryd.prog.cellsOf 81 = 27 := by kernel_rfl
theorem cellsA3 : Tryd.prog.cellsOf 85 = 3 := by kernel_rfl
def zs_groups : List Int := [0, 0, 1, 0, 0, 0, 0, 1, 0, 1, 2, 2, 2, 2, 0, 2, 2, 3, 3, 3, 3, 3, 3, 3, 3, 3, 3]
theorem g_groups : Tryd.prog.globalNamed "treemerge/grammar.groups" = some 4 := by kernel_rfl
theorem gt_groups : (Tryd.prog.globals[4]?).map (·.type) = some 81 := by kernel_rfl
theorem z_groups : ∀ m : Nat, m < 27 → zs_groups.getD m 0 = Pl.grp m := by decide +kernel
theorem tab_groups {W : World} {rest : List (String × DataW Unit)} (h : laidMet Tryd.prog (("treemerge/grammar.groups", Rows.laid_treemerge_grammar_groups) :: rest) W) : TabAt W 4 27 Pl.grp := by
  have ht : Lib.TabIs Tryd.prog W "treemerge/grammar.groups" .i64 zs_groups := Lib.tabIs_of_head (rest := rest) g_groups gt_groups Tryd.underlying81 Tryd.underlying3 cellsI cellsA27 h
  intro m hm
  rw [ht.cell g_groups m hm, z_groups m hm]
def zs_owns : List Int := [0, 1, 2, 2, 1, 1, 2, 4, 2, 4, 4, 3, 2, 1, 1, 1, 1, 1, 1, 1, 3, 4, 4, 1, 1, 1, 2]
theorem g_owns : Tryd.prog.globalNamed "treemerge/grammar.owns" = some 0 := by kernel_rfl
theorem gt_owns : (Tryd.prog.globals[0]?).map (·.type) = some 81 := by kernel_rfl
theorem z_owns : ∀ m : Nat, m < 27 → zs_owns.getD m 0 = Pl.ownT m := by decide +kernel
theorem tab_owns {W : World} {rest : List (String × DataW Unit)} (h : laidMet Tryd.prog (("treemerge/grammar.owns", Rows.laid_treemerge_grammar_owns) :: rest) W) : TabAt W 0 27 Pl.ownT := by
  have ht : Lib.TabIs Tryd.prog W "treemerge/grammar.owns" .i64 zs_owns := Lib.tabIs_of_head (rest := rest) g_owns gt_owns Tryd.underlying81 Tryd.underlying3 cellsI cellsA27 h
  intro m hm
  rw [ht.cell g_owns m hm, z_owns m hm]
def zs_least : List Int := [0, 0, 3, 0, 1, 0, 0, 1, 0, 1, 1, 1, 1, 3, 0, 2, 1, 0, 0, 0, 0, 1, 0, 0, 2, 1, 1]
theorem g_least : Tryd.prog.globalNamed "treemerge/grammar.least" = some 1 := by kernel_rfl
theorem gt_least : (Tryd.prog.globals[1]?).map (·.type) = some 81 := by kernel_rfl
theorem z_least : ∀ m : Nat, m < 27 → zs_least.getD m 0 = Pl.least m := by decide +kernel
theorem tab_least {W : World} {rest : List (String × DataW Unit)} (h : laidMet Tryd.prog (("treemerge/grammar.least", Rows.laid_treemerge_grammar_least) :: rest) W) : TabAt W 1 27 Pl.least := by
  have ht : Lib.TabIs Tryd.prog W "treemerge/grammar.least" .i64 zs_least := Lib.tabIs_of_head (rest := rest) g_least gt_least Tryd.underlying81 Tryd.underlying3 cellsI cellsA27 h
  intro m hm
  rw [ht.cell g_least m hm, z_least m hm]
def zs_partsOfFunc : List Int := [3, 5, 6]
theorem g_partsOfFunc : Tryd.prog.globalNamed "treemerge/grammar.partsOfFunc" = some 3 := by kernel_rfl
theorem gt_partsOfFunc : (Tryd.prog.globals[3]?).map (·.type) = some 85 := by kernel_rfl
theorem z_partsOfFunc : ∀ m : Nat, m < 3 → zs_partsOfFunc.getD m 0 = partT m := by decide +kernel
theorem tab_partsOfFunc {W : World} {rest : List (String × DataW Unit)} (h : laidMet Tryd.prog (("treemerge/grammar.partsOfFunc", Rows.laid_treemerge_grammar_partsOfFunc) :: rest) W) : TabAt W 3 3 partT := by
  have ht : Lib.TabIs Tryd.prog W "treemerge/grammar.partsOfFunc" .i64 zs_partsOfFunc := Lib.tabIs_of_head (rest := rest) g_partsOfFunc gt_partsOfFunc Tryd.underlying85 Tryd.underlying3 cellsI cellsA3 h
  intro m hm
  rw [ht.cell g_partsOfFunc m hm, z_partsOfFunc m hm]
def zs_texts : List Int := [0, 0, 1, 0, 1, 1, 0, 1, 2, 1, 1, 1, 0, 0, 0, 0, 0, 3, 4, 1, 1, 1, 1, 4, 4, 4, 0]
theorem g_texts : Tryd.prog.globalNamed "treemerge/grammar.texts" = some 2 := by kernel_rfl
theorem gt_texts : (Tryd.prog.globals[2]?).map (·.type) = some 81 := by kernel_rfl
theorem z_texts : ∀ m : Nat, m < 27 → zs_texts.getD m 0 = Pl.txt m := by decide +kernel
theorem tab_texts {W : World} {rest : List (String × DataW Unit)} (h : laidMet Tryd.prog (("treemerge/grammar.texts", Rows.laid_treemerge_grammar_texts) :: rest) W) : TabAt W 2 27 Pl.txt := by
  have ht : Lib.TabIs Tryd.prog W "treemerge/grammar.texts" .i64 zs_texts := Lib.tabIs_of_head (rest := rest) g_texts gt_texts Tryd.underlying81 Tryd.underlying3 cellsI cellsA27 h
  intro m hm
  rw [ht.cell g_texts m hm, z_texts m hm]
/- ### What a law reads -/
theorem bound {H : Type} {l : List (DataW H)} (hk : Rows.uptoSmall H l = true) : Rows.uptoBulkAll l ≤ 1048576 := of_decide_eq_true hk
theorem head_bulk {H : Type} (d : DataW H) (l : List (DataW H)) (h : Rows.uptoBulkAll (d :: l) ≤ 1048576) : Rows.uptoBulk d ≤ 1048576 := by
  simp only [Rows.uptoBulkAll] at h; omega
end Go.Proofs.YtpaleolcfhnenaaDoor
