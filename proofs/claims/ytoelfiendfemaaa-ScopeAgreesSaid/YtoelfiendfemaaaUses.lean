/- The walks of the reference's Fits and Uses. -/
import Derived.Test.YtoelfiendfemaaaTables
import Derived.Test.YtoelfiendfemaaaFound
namespace Go.Proofs.Ytoelfiendfemaaa
open Go.RowKit Go.Deep
set_option linter.unusedVariables false
set_option linter.unusedSimpArgs false

/-- What Fits answers, of which only what true says is wanted. -/
def FewP (us : List Pl.Un) (w : World) (e : Ending) (w' : World) : Prop := ∃ b : Bool, (b = true → Few us) ∧ e = .returned (.bool b) ∧ Below w.heap.size w w'
set_option maxHeartbeats 800000 in
set_option maxRecDepth 100000 in
theorem fits12_any (a : Option Addr) (n c : Nat) (us : List Pl.Un) (R : Nat → Sl) (w : World) (hU : IsU w a us R) (hn : n = us.length) (N : Nat) (hN : N ≤ 200) :
    Calls Try.prog 28 #[.slice a n c, .int .i64 4, .int .i64 N, .int .i64 8000] w (FewP us w) := by
  have hml : n ≤ maxLen := by rw [hn]; exact hU.1
  unfold maxLen at hml
  have HU := Lib.hid hU
  have HN := Lib.hid hn
  clear hU hn
  by_cases hn4 : 4 < n
  · go_enter Try.func28, Try.ntmps28
    go_wp2_with fail
    go_ret
    exact ⟨false, (fun h => by cases h), rfl, Below.refl _ _⟩
  go_enter Try.func28, Try.ntmps28
  go_wp2_with fail
  go_loopw [9] (fun i wr => ∃ k : Nat, k ≤ n ∧ i = .int .i64 k ∧ (∀ x ∈ us.take k, Lit x.tree) ∧ Below w.heap.size w wr) (fun i _ => n - (intOf i).toNat)
  case atStart => exact ⟨0, Nat.zero_le _, rfl, (fun x hx => by simp at hx), Below.refl _ _⟩
  case round =>
    obtain ⟨k, hk, rfl, hall, hbel⟩ := hrel
    have HA := Lib.hid hall
    have HB := Lib.hid hbel
    have hgr := hbel.size
    by_cases hlt : k < n
    · have hkx : k < us.length := by rw [← HN.out]; exact hlt
      have hx := List.getElem?_eq_getElem hkx
      have HTk := Lib.hid (List.take_succ_eq_append_getElem hkx)
      obtain ⟨b, o, rfl, hb, hrg, hT⟩ := HU.out.one hx
      have hk0 : (0 : Int) ≤ (k : Int) := Int.natCast_nonneg _
      have hk1 : (k : Int) < (n : Int) := by omega
      generalize us[k] = x at *
      generalize R k = r at *
      obtain ⟨_, _, _, st⟩ := range7 (fun i v hv => (hbel.cell (p := ⟨b, o + k * 7 + i, none⟩) hb).trans (hrg i v hv))
      have HST := Lib.hid st
      have HL := Lib.hid (lightR_at hT (fun b h => h) wr (Same.below hbel fun _ h => h) hgr N hN)
      obtain ⟨ga, gc, da, dc⟩ := r
      clear hx hrg st hall hbel hT
      go_wp2_with (first
        | (refine wpList_load_mid rfl 54 _ rfl b (o + k * 7 + 2) rfl [.int .i64 x.tree.kind, .string x.tree.text, .slice ga x.tree.gaps.length gc, .slice da x.tree.kids.length dc] _ HST.out Try.underlying54 rfl sizeN ?_)
        | (go_at_call 53; refine HL.out.mono ?_; rintro e w2 ⟨bb, hbb, rfl, hb2⟩; have HBB := Lib.hid hbb; have HB2 := Lib.hid (HB.out.trans (hb2.mono hgr)); clear hbb hb2; cases bb))
      · go_ret
        exact ⟨false, (fun h => by cases h), rfl, HB2.out⟩
      · exact ⟨⟨k + 1, by omega, by go_num, (fun y hy => by
          rw [HTk.out] at hy
          rcases List.mem_append.1 hy with hy | hy
          · exact HA.out y hy
          · simp at hy; subst hy; exact HBB.out (by trivial)), HB2.out⟩, by simp [intOf]; omega⟩
    · have hkn : k = n := by omega
      subst hkn
      have HF : Hid (Few us) := Lib.hid ⟨by rw [← HN.out]; omega, fun x hx => hall x (by rw [HN.out, List.take_length]; exact hx)⟩
      clear hall
      go_wp2_with fail
      go_ret
      exact ⟨true, (fun _ => HF.out), rfl, HB.out⟩
theorem fit_any (a : Option Addr) (n c : Nat) (us : List Pl.Un) (R : Nat → Sl) (w : World) (hU : IsU w a us R) (hn : n = us.length) :
    Calls Try.prog 10 #[.slice a n c] w (FewP us w) := by
  have HF := Lib.hid (fits12_any a n c us R w hU hn 200 (by omega))
  clear hU hn
  go_enter Try.func10, Try.ntmps10
  go_wp2_with (go_at_call 28; refine HF.out.mono ?_; rintro e w2 ⟨bb, hbb, rfl, hb2⟩; have HBB := Lib.hid hbb; have HB2 := Lib.hid hb2; clear hbb hb2)
  go_ret
  exact ⟨bb, HBB.out, rfl, HB2.out⟩

/- ### Uses -/
def fv (o : Option Pl.Rf) : Pl.Rf := o.getD (0, 0)
theorem foundV_eq (o : Option Pl.Rf) : foundV o = .tuple #[.agg #[.int .i64 (fv o).1, .int .i64 (fv o).2], .bool o.isSome] := by cases o <;> rfl
theorem mkUse_eq (u i : Int) (o : Option Pl.Rf) : Pl.mkUse u i o = ⟨u, i, (fv o).1, (fv o).2, o.isSome⟩ := by cases o <;> rfl
/-- What the walks ask of the tables of few units. -/
theorem tbls_get {us : List Pl.Un} (hF : Few us) {j : Nat} {l : List Pl.Rw} (h : (Pl.tbls us)[j]? = some l) : ∃ x, us[j]? = some x ∧ l = Pl.tbl x ∧ Pl.Ok l ∧ l.length ≤ 200 := by
  unfold Pl.tbls at h
  rw [List.getElem?_map] at h
  obtain ⟨x, hx, rfl⟩ := Option.map_eq_some_iff.1 h
  have hsz := (hF.2 x (List.mem_of_getElem? hx)).1
  refine ⟨x, hx, rfl, Pl.ok_tbl x (by omega), ?_⟩
  unfold Pl.tbl
  split
  · simp
  · rw [Pl.tab_len]; exact hsz
theorem var_mem {l : List Pl.Rw} (hok : Pl.Ok l) {k : Int} (h0 : 0 ≤ k) (h1 : k < l.length) {s : ByteArray} {v : Int} (h : Pl.var l k s = some v) : 0 ≤ v ∧ v < l.length := by
  have hm : v ∈ Pl.vis l k := List.mem_of_find?_eq_some h
  clear h
  have key : ∀ (n : Nat) (k : Int), 0 ≤ k → k < l.length → k.toNat < n → v ∈ Pl.vis l k → 0 ≤ v ∧ v < l.length := by
    intro n
    induction n with
    | zero => intro k _ _ h; omega
    | succ n ih =>
      intro k h0 h1 hn hm
      rw [Pl.vis_step hok h0 h1] at hm
      obtain ⟨hp1, hp2⟩ := ok_par hok h0 h1
      split at hm
      · cases hm
      · rcases List.mem_append.1 hm with hm | hm
        · exact declared_mem hok (by omega) (by omega) hm
        · split at hm
          · cases hm
          · exact ih _ (by omega) (by omega) (by omega) hm
  exact key (k.toNat + 1) k h0 h1 (by omega) hm
theorem usesTo_len (D : List Pl.Dc) (l : List Pl.Rw) (u : Int) (k : Nat) : (Pl.usesTo D l u k).length ≤ k := by
  unfold Pl.usesTo
  have := List.length_filterMap_le (fun (i : Nat) => Pl.use1 D l u i) (List.range k)
  simpa using this
theorem usesUp_len (D : List Pl.Dc) (T : List (List Pl.Rw)) (hT : ∀ l ∈ T, l.length ≤ 200) : ∀ k, k ≤ T.length → (Pl.usesUp D T k).length ≤ k * 200 := by
  intro k
  induction k with
  | zero => intro _; simp [Pl.usesUp]
  | succ k ih =>
    intro hk
    rw [Pl.usesUp_succ D T k _ (List.getElem?_eq_getElem (show k < T.length by omega)), List.length_append]
    have h1 := ih (by omega)
    have h2 := hT _ (List.getElem_mem (show k < T.length by omega))
    have h3 := usesTo_len D T[k] k T[k].length
    omega
/-- Uses that a call lists. -/
def UsesP (L : List Pl.Us) (w : World) (e : Ending) (w' : World) : Prop := ∃ a c, e = .returned (.slice a L.length c) ∧ FlatW 5 cellsU w' a L ∧ Below w.heap.size w w'
end Go.Proofs.Ytoelfiendfemaaa
