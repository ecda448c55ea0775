/- Trees and tables among the arguments of a law. -/
import Derived.Test.YtoelfiendfemaaaFrame
import Derived.Test.YtoelfiendfemaaaUn
import Derived.SliceStrings
import Derived.Deep.Slices
namespace Go.Proofs.Ytoelfiendfemaaa
open Go.ChangeShapes Go.WideShapes Go.ChangeAt Go.RowKit Go.Deep
set_option linter.unusedVariables false
set_option linter.constructorNameAsVariable false
set_option maxRecDepth 100000
set_option linter.unusedSimpArgs false

theorem cofI : Try.prog.cellsOf 3 = 1 := by kernel_rfl
theorem cofS : Try.prog.cellsOf 9 = 1 := by kernel_rfl
theorem cofG : Try.prog.cellsOf 33 = 1 := by kernel_rfl
theorem cofK : Try.prog.cellsOf 52 = 1 := by kernel_rfl
theorem cofD : Try.prog.cellsOf 45 = 1 := by kernel_rfl
theorem cofN : Try.prog.cellsOf 54 = 4 := by kernel_rfl
theorem cofB : Try.prog.cellsOf 4 = 1 := by kernel_rfl
theorem cofU : Try.prog.cellsOf 56 = 7 := by kernel_rfl
theorem cofF : Try.prog.cellsOf 29 = 2 := by kernel_rfl
theorem cofR : Try.prog.cellsOf 47 = 5 := by kernel_rfl
/-- So many, one by one, as a list. -/
theorem list_of {α : Type} (Q : Nat → α → Prop) (n : Nat) (h : ∀ i, i < n → ∃ t, Q i t) : ∃ L : List α, L.length = n ∧ ∀ (i : Nat) t, L[i]? = some t → Q i t := by
  induction n with
  | zero => exact ⟨[], rfl, fun i t hi => by simp at hi⟩
  | succ n ih =>
    obtain ⟨L, hL, hq⟩ := ih (fun i hi => h i (by omega))
    obtain ⟨t, ht⟩ := h n (by omega)
    refine ⟨L ++ [t], by simp [hL], fun i x hx => ?_⟩
    by_cases hi : i < L.length
    · rw [List.getElem?_append_left hi] at hx; exact hq i x hx
    · rw [List.getElem?_append_right (by omega)] at hx
      have hi2 : i - L.length = 0 := by
        rcases Nat.eq_zero_or_pos (i - L.length) with h | h
        · exact h
        · rw [List.getElem?_eq_none (by simp; omega)] at hx; cases hx
      rw [hi2] at hx
      obtain rfl : t = x := by simpa using hx
      have : i = n := by omega
      subst this; exact ht
theorem add_mid (b o j : Nat) : (⟨b, o, none⟩ : Addr).add j = ⟨b, o + j, none⟩ := by unfold Addr.add; split <;> simp_all
theorem spot_of {W : World} {a : Addr} {v : Value} (h : W.cell? a = some v) : a.spot = none ∧ a.block < W.heap.size := by
  unfold World.cell? at h
  cases hb : W.heap[a.block]? with
  | none => rw [hb] at h; cases h
  | some o =>
    refine ⟨?_, (Array.getElem?_eq_some_iff.1 hb).1⟩
    rw [hb] at h
    cases o <;> simp at h
    cases hs : a.spot with
    | none => rfl
    | some k => rw [hs] at h; simp at h

theorem int_hi {x : Int} (h : (Lit.int .i64 x).wf = true) : x ≤ 9223372036854775807 ∧ -9223372036854775808 ≤ x := by
  simp [Lit.wf, show IntKind.i64.min = -9223372036854775808 from by decide, show IntKind.i64.max = 9223372036854775807 from by decide] at h
  omega
section
variable {H : Type} {enc : TypeId × Value → H} {W : World} {sp : Nat → Bool} {hd : Bool} {hb : Nat}
/-- An address whose cells are known lies in a block as it stands. -/
theorem plain_addr {a : Addr} {v : Value} (h : W.cell? (a.add 0) = some v) : ∃ b o, a = ⟨b, o, none⟩ ∧ b < W.heap.size := by
  obtain ⟨b, o, s⟩ := a
  rw [show (⟨b, o, s⟩ : Addr).add 0 = ⟨b, o, s⟩ by simp [Addr.add]] at h
  have h1 := spot_of h
  exact ⟨b, o, by rw [show s = none from h1.1], h1.2⟩
theorem open_strs {fuel : Nat} {cs : List Value} {x : DataW H × List MemPlace} (h : DataW.trod enc Try.prog W hb sp hd fuel 33 cs = some x) :
    ∃ a len cap xs, cs = [.slice a len cap] ∧ xs.length = len ∧ Strs (fun b => b < W.heap.size) W a xs := by
  rcases open_strings Try.underlying33 Try.underlying9 cofS h with ⟨rfl, hx⟩ | ⟨a, len, cap, ss, rfl, hbl, hl, hm, hz, hx, hcell, hsz⟩
  · exact ⟨none, 0, 0, [], rfl, rfl, strs_nil _ _ _⟩
  · have hle : len ≤ ss.length := by rw [hz]; split <;> omega
    have hxs : (ss.take len).length = len := by rw [List.length_take]; omega
    refine ⟨some a, len, cap, ss.take len, rfl, hxs, by rw [hxs]; omega, fun x hx => hsz x (List.mem_of_mem_take hx), ?_⟩
    by_cases h0 : len = 0
    · left; subst h0; rfl
    · right
      obtain ⟨b, o, rfl, hlt⟩ := plain_addr (hcell 0 (by omega))
      refine ⟨b, o, rfl, hlt, fun j x hx => ?_⟩
      have hj : j < len := by have := (List.getElem?_eq_some_iff.1 hx).1; omega
      have h2 := hcell j (by omega)
      rw [List.getElem?_take, if_pos hj] at hx
      rw [List.getD_eq_getElem?_getD, hx, add_mid] at h2
      exact h2
theorem open_nums {fuel : Nat} {cs : List Value} {x : DataW H × List MemPlace} (h : DataW.trod enc Try.prog W hb sp hd fuel 45 cs = some x) :
    ∃ a len cap xs, cs = [.slice a len cap] ∧ xs.length = len ∧ Ints (fun b => b < W.heap.size) W a xs := by
  rcases open_slice1 Try.underlying45 cofI h with ⟨rfl, hx⟩ | ⟨a, len, cap, m, n, V, D, Pq, rfl, hbl, hl, hm, hz, hx, hcell⟩
  · exact ⟨none, 0, 0, [], rfl, rfl, ints_nil _ _ _⟩
  · have hle : len ≤ m := by rw [hz]; split <;> omega
    obtain ⟨xs, hxs, hq⟩ := list_of (fun i (v : Int) => W.cell? (a.add i) = some (.int .i64 v)) len (fun i hi => by
      obtain ⟨h1, h2⟩ := hcell i (by omega)
      obtain ⟨n, hn, _⟩ := DataW.trod_int Try.underlying3 h2
      obtain hn : V i = .int .i64 n := by simpa using hn
      exact ⟨n, by rw [h1, hn]⟩)
    refine ⟨some a, len, cap, xs, rfl, hxs, by rw [hxs]; omega, ?_⟩
    by_cases h0 : len = 0
    · left; subst h0; exact List.length_eq_zero_iff.1 hxs
    · right
      obtain ⟨b, o, rfl, hlt⟩ := plain_addr (hq 0 _ (List.getElem?_eq_getElem (by omega)))
      refine ⟨b, o, rfl, hlt, fun j x hx => ?_⟩
      have := hq j x hx
      rw [add_mid] at this
      exact this
/-- Four cells of a node's kind. -/
def isNode (W : World) (cs : List Value) (t : Pl.Tr) (r : Sl) : Prop := cs = [.int .i64 t.kind, .string t.text, .slice r.ga t.gaps.length r.gc, .slice r.da t.kids.length r.dc] ∧ IsT W t r
theorem open_tree (fuel : Nat) : ∀ (cs : List Value) (x : DataW H × List MemPlace), DataW.trod enc Try.prog W hb sp hd fuel 54 cs = some x → ∃ t r, isNode W cs t r := by
  induction fuel using Nat.strongRecOn with
  | ind fuel ih =>
    intro cs x h
    obtain ⟨ys, n, rfl, _, hcl, hyl, hfs⟩ := DataW.trod_struct Try.underlying54 h
    rw [cofN] at hcl
    obtain ⟨x0, x1, x2, x3, rfl⟩ : ∃ x0 x1 x2 x3, cs = [x0, x1, x2, x3] := by
      match cs, hcl with
      | [x0, x1, x2, x3], _ => exact ⟨x0, x1, x2, x3, rfl⟩
    have hy : ys.length = 4 := hyl
    have t0 := (hfs 0 _ rfl).trans (List.getElem?_eq_getElem (by omega))
    have t1 := (hfs 1 _ rfl).trans (List.getElem?_eq_getElem (by omega))
    have t2 := (hfs 2 _ rfl).trans (List.getElem?_eq_getElem (by omega))
    have t3 := (hfs 3 _ rfl).trans (List.getElem?_eq_getElem (by omega))
    obtain ⟨n0, e0, _, _⟩ := DataW.trod_int Try.underlying3 t0
    obtain ⟨s1, e1, _, z1⟩ := DataW.trod_string Try.underlying9 t1
    obtain ⟨ga, gl, gc, gs, e2, hgl, hgs⟩ := open_strs t2
    obtain rfl : x0 = .int .i64 n0 := by simpa [cofI] using e0
    obtain rfl : x1 = .string s1 := by simpa [cofS] using e1
    obtain rfl : x2 = .slice ga gl gc := by simpa [cofG] using e2
    have k3 : DataW.trod enc Try.prog W hb sp hd n 52 [x3] = some ys[3] := by simpa [cofK] using t3
    rcases DataW.trod_slice Try.underlying52 k3 with ⟨e3, _⟩ | ⟨a, len, cap, elems, rest, m, rfl, e3, _, hbl, hlc, hcm, hlen, hel, _, _⟩
    · obtain rfl : x3 = .slice none 0 0 := by simpa using e3
      exact ⟨.node n0 s1 gs [], ⟨ga, gc, none, 0⟩, by rw [← hgl]; rfl, .mk _ _ (fun _ => ⟨none, 0, none, 0⟩) z1 hgs (Nat.zero_le _) (.inl rfl) (fun j u hu => by cases j <;> cases hu)⟩
    · obtain rfl : x3 = .slice (some a) len cap := by simpa using e3
      obtain ⟨L, hL, hq⟩ := list_of (fun i (p : Pl.Tr × Sl) => ∃ ds, W.cells? hb (a.add (i * 4)) 4 = some ds ∧ isNode W ds p.1 p.2) len (fun i hi => by
        have he := (hel i hi).trans (List.getElem?_eq_getElem (show i < elems.length by omega))
        rw [cofN] at he
        obtain ⟨ds, hd1, hd2⟩ := Option.bind_eq_some_iff.1 he
        obtain ⟨t, r, ht⟩ := ih m (by omega) ds _ hd2
        exact ⟨(t, r), ds, hd1, ht⟩)
      have hgetk : ∀ (j : Nat) u, (L.map Prod.fst)[j]? = some u → ∃ r, L[j]? = some (u, r) := fun j u hu => by
        rw [List.getElem?_map] at hu
        obtain ⟨p, hp, rfl⟩ := Option.map_eq_some_iff.1 hu
        exact ⟨p.2, hp⟩
      have e : (L.map Prod.fst).length = len := List.length_map .. |>.trans hL
      refine ⟨.node n0 s1 gs (L.map Prod.fst), ⟨ga, gc, some a, cap⟩, by rw [← hgl, ← e]; rfl, .mk _ _ (fun j => match L[j]? with | some p => p.2 | none => ⟨none, 0, none, 0⟩) z1 hgs (by show (L.map Prod.fst).length ≤ _; rw [List.length_map, hL]; omega) ?_ ?_⟩
      · by_cases h0 : len = 0
        · left; show L.map Prod.fst = []; rw [List.length_eq_zero_iff.1 (hL.trans h0)]; rfl
        · right
          have each : ∀ (j : Nat) (p : Pl.Tr × Sl), L[j]? = some p → ∀ f, f < 4 → W.cell? (a.add (j * 4 + f)) = [Value.int .i64 p.1.kind, .string p.1.text, .slice p.2.ga p.1.gaps.length p.2.gc, .slice p.2.da p.1.kids.length p.2.dc][f]? := fun j p hp f hf => by
            obtain ⟨ds, hd1, rfl, _⟩ := hq j p hp
            obtain ⟨_, _, hat⟩ := World.cells?_some hd1
            rw [← add_add]
            exact hat f hf
          obtain ⟨p0, hp0⟩ : ∃ p, L[0]? = some p := ⟨_, List.getElem?_eq_getElem (by omega)⟩
          obtain ⟨b, o, rfl, hlt⟩ := plain_addr (each 0 p0 hp0 0 (by decide))
          refine ⟨b, o, rfl, hlt, fun j u hu => ?_⟩
          obtain ⟨r, hr⟩ := hgetk j u hu
          have e := each j _ hr
          simp only [add_mid, ← Nat.add_assoc] at e
          show At4 _ _ _ _ _ _ _
          simp only [hr]
          exact ⟨e 0 (by decide), e 1 (by decide), e 2 (by decide), e 3 (by decide)⟩
      · intro j u hu
        obtain ⟨r, hr⟩ := hgetk j u hu
        simp only [hr]
        obtain ⟨ds, _, _, ht⟩ := hq j _ hr
        exact ht
theorem open_node {base : Nat} {v : Value} {d : DataW H} {p : List MemPlace} (hv : Value.okWide Try.prog W .any base 54 v) (h : DataW.Trod enc Try.prog W hb sp hd 54 v d p) :
    ∃ (t : Pl.Tr) (r : Sl), v = .agg #[.int .i64 t.kind, .string t.text, .slice r.ga t.gaps.length r.gc, .slice r.da t.kids.length r.dc] ∧ IsT W t r := by
  obtain ⟨cs, rfl, _⟩ := okWide_struct Try.underlying54 hv
  obtain ⟨fuel, hf⟩ := h
  obtain ⟨t, r, he, ht⟩ := open_tree fuel _ _ hf
  exact ⟨t, r, by rw [← Array.toList_inj.1 (show (Value.agg cs).cells.toList = #[Value.int .i64 t.kind, .string t.text, .slice r.ga t.gaps.length r.gc, .slice r.da t.kids.length r.dc].toList from he)]; rfl, ht⟩
theorem open_units {base : Nat} {v : Value} {d : DataW H} {p : List MemPlace} (hv : Value.okWide Try.prog W .any base 22 v) (h : DataW.Trod enc Try.prog W hb sp hd 22 v d p) :
    ∃ (a : Option Addr) (c : Nat) (us : List Pl.Un) (R : Nat → Sl), v = .slice a us.length c ∧ IsU W a us R := by
  obtain ⟨a0, len, cap, rfl⟩ := okWide_slice Try.underlying22 hv
  obtain ⟨fuel, hf⟩ := h
  rcases open_slice Try.underlying22 hf with ⟨hcs, _⟩ | ⟨a, len', cap', m, nf, D, Pq, hcs, hbl, hl, hm, hmm, _, hi⟩
  · simp [Value.cells] at hcs
    obtain ⟨rfl, rfl, rfl⟩ := hcs
    exact ⟨none, 0, [], fun _ => ⟨none, 0, none, 0⟩, rfl, by decide, .inl rfl, fun j x hx => by cases hx⟩
  · simp [Value.cells] at hcs
    obtain ⟨rfl, rfl, rfl⟩ := hcs
    have hle : len ≤ m := by rw [hmm]; split <;> omega
    obtain ⟨L, hL, hq⟩ := list_of (fun i (p : Pl.Un × Sl) => (∀ f, f < 7 → W.cell? (a.add (i * 7 + f)) = (cells7 p.1 p.2)[f]?) ∧ IsT W p.1.tree p.2 ∧ p.1.path.size ≤ maxLen ∧ p.1.text.size ≤ maxLen) len (fun i him => by
      obtain ⟨cs, hc, ht⟩ := hi i (by omega)
      rw [cofU] at hc
      obtain ⟨ys, n, rfl, _, _, hyl, hfs⟩ := DataW.trod_struct Try.underlying56 ht
      obtain ⟨_, hcl, hat⟩ := World.cells?_some hc
      obtain ⟨x0, x1, x2, x3, x4, x5, x6, rfl⟩ : ∃ x0 x1 x2 x3 x4 x5 x6, cs = [x0, x1, x2, x3, x4, x5, x6] := by
        match cs, hcl with
        | [x0, x1, x2, x3, x4, x5, x6], _ => exact ⟨x0, x1, x2, x3, x4, x5, x6, rfl⟩
      have hy : ys.length = 4 := hyl
      have t0 := (hfs 0 _ rfl).trans (List.getElem?_eq_getElem (by omega))
      have t1 := (hfs 1 _ rfl).trans (List.getElem?_eq_getElem (by omega))
      have t2 := (hfs 2 _ rfl).trans (List.getElem?_eq_getElem (by omega))
      have t3 := (hfs 3 _ rfl).trans (List.getElem?_eq_getElem (by omega))
      obtain ⟨s0, e0, _, z0⟩ := DataW.trod_string Try.underlying9 t0
      obtain ⟨s1, e1, _, z1⟩ := DataW.trod_string Try.underlying9 t1
      obtain ⟨t, r, e2, hT⟩ := open_tree _ _ _ t2
      obtain ⟨b3, e3, _⟩ := DataW.trod_bool Try.underlying4 t3
      obtain rfl : x0 = .string s0 := by simpa [cofS] using e0
      obtain rfl : x1 = .string s1 := by simpa [cofS] using e1
      have e2' : [x2, x3, x4, x5] = [.int .i64 t.kind, .string t.text, .slice r.ga t.gaps.length r.gc, .slice r.da t.kids.length r.dc] := by simpa [cofN] using e2
      simp only [List.cons.injEq, and_true] at e2'
      obtain ⟨rfl, rfl, rfl, rfl⟩ := e2'
      obtain rfl : x6 = .bool b3 := by simpa [cofB] using e3
      refine ⟨(⟨s0, s1, t, b3⟩, r), fun f hf => ?_, hT, z0, z1⟩
      rw [← add_add, hat f hf]
      rfl)
    refine ⟨some a, cap, L.map Prod.fst, fun j => match L[j]? with | some p => p.2 | none => ⟨none, 0, none, 0⟩, by rw [List.length_map, hL], by rw [List.length_map, hL]; omega, ?_, ?_⟩
    · by_cases h0 : len = 0
      · left; rw [List.length_eq_zero_iff.1 (hL.trans h0)]; rfl
      · right
        obtain ⟨p0, hp0⟩ : ∃ p, L[0]? = some p := ⟨_, List.getElem?_eq_getElem (by omega)⟩
        obtain ⟨b, o, rfl, hlt⟩ := plain_addr ((hq 0 p0 hp0).1 0 (by decide))
        refine ⟨b, o, rfl, hlt, fun j x hx => ?_⟩
        rw [List.getElem?_map] at hx
        obtain ⟨p, hp, rfl⟩ := Option.map_eq_some_iff.1 hx
        simp only [hp]
        intro f v hv
        have hf : f < 7 := (List.getElem?_eq_some_iff.1 hv).1
        have := (hq j p hp).1 f hf
        rw [add_mid, ← Nat.add_assoc] at this
        exact this.trans hv
    · intro j x hx
      rw [List.getElem?_map] at hx
      obtain ⟨p, hp, rfl⟩ := Option.map_eq_some_iff.1 hx
      simp only [hp]
      exact (hq j p hp).2
theorem open_ref {base : Nat} {v : Value} {d : DataW H} {p : List MemPlace} (hv : Value.okWide Try.prog W .any base 29 v) (h : DataW.Trod enc Try.prog W hb sp hd 29 v d p) : ∃ x y : Int, v = .agg #[.int .i64 x, .int .i64 y] := by
  obtain ⟨cs, rfl, _⟩ := okWide_struct Try.underlying29 hv
  obtain ⟨fuel, hf⟩ := h
  obtain ⟨ys, n, rfl, hxe, hcl, hyl, hfs⟩ := DataW.trod_struct Try.underlying29 hf
  rw [cofF] at hcl
  obtain ⟨x0, x1, hc⟩ : ∃ x0 x1, cs.toList = [x0, x1] := by
    have hcl2 : cs.toList.length = 2 := hcl
    match cs.toList, hcl2 with
    | [x0, x1], _ => exact ⟨x0, x1, rfl⟩
  have hy : ys.length = 2 := hyl
  have t0 := (hfs 0 _ rfl).trans (List.getElem?_eq_getElem (by omega))
  have t1 := (hfs 1 _ rfl).trans (List.getElem?_eq_getElem (by omega))
  have hcv : (Value.agg cs).cells.toList = [x0, x1] := hc
  rw [hcv] at t0 t1
  obtain ⟨n0, e0, _, _⟩ := DataW.trod_int Try.underlying3 t0
  obtain ⟨n1, e1, _, _⟩ := DataW.trod_int Try.underlying3 t1
  obtain rfl : x0 = .int .i64 n0 := by simpa [cofI] using e0
  obtain rfl : x1 = .int .i64 n1 := by simpa [cofI] using e1
  exact ⟨n0, n1, by rw [← Array.toList_inj.1 (show cs.toList = #[Value.int .i64 n0, .int .i64 n1].toList from hc)]⟩
end
end Go.Proofs.Ytoelfiendfemaaa
