/- The walk of the reference's Resolve. -/
import Derived.Test.YtoelfiendfemaaaIns
import Derived.Test.YtoelfiendfemaaaDbls
namespace Go.Proofs.Ytoelfiendfemaaa
open Go.RowKit Go.Deep
set_option linter.unusedVariables false
set_option linter.unusedSimpArgs false

theorem space_kinds (k : Int) (s : ByteArray) : Pl.space k s = 0 ∨ Pl.space k s = 6 ∨ Pl.space k s = 1 ∨ Pl.space k s = 2 := by
  unfold Pl.space
  split
  · exact .inr (.inl rfl)
  split
  · exact .inr (.inr (.inl rfl))
  split
  · exact .inr (.inr (.inr rfl))
  split
  · split
    · exact .inl rfl
    · exact .inr (.inr (.inr rfl))
  split
  · split
    · exact .inl rfl
    · exact .inr (.inr (.inr rfl))
  · exact .inl rfl
theorem decl1_owner {k : Int} {s : ByteArray} {u i : Int} {fn cl : ByteArray} {m : Bool} {d : Pl.Dc} (h : Pl.decl1 k s u i fn cl m = some d) (hk : d.kind = 1 ∨ d.kind = 2 ∨ d.kind = 3) : d.owner = Pl.sNo := by
  unfold Pl.decl1 at h
  split at h
  · split at h <;> (obtain rfl := Option.some.inj h)
    · simp at hk
    · rfl
  split at h
  · obtain rfl := Option.some.inj h; rfl
  split at h
  · obtain rfl := Option.some.inj h; rfl
  split at h
  · obtain rfl := Option.some.inj h; simp at hk
  split at h
  · obtain rfl := Option.some.inj h; simp at hk
  · cases h
theorem find_congr {α : Type} {f g : α → Bool} : ∀ (l : List α), (∀ x ∈ l, f x = g x) → l.find? f = l.find? g
  | [], _ => rfl
  | x :: l, h => by
    rw [List.find?_cons, List.find?_cons, h x (by simp), find_congr l (fun y hy => h y (by simp [hy]))]
/-- A declaration of a function, a class or a constant has no owner. -/
theorem look_find {us : List Pl.Un} (hF : Few us) (k : Int) (hk : k = 1 ∨ k = 2 ∨ k = 3) (s : ByteArray) : Pl.look (Pl.decls us) k s = (findD (Pl.decls us) k Pl.sNo s).map fun d => (d.unit, d.node) := by
  unfold Pl.look findD
  congr 1
  refine find_congr _ fun d hd => ?_
  obtain ⟨u, j, x, _, _, hr⟩ := decls_mem hF hd
  rw [Bool.eq_iff_iff, decide_eq_true_eq, decide_eq_true_eq]
  constructor
  · rintro ⟨h1, h2⟩; exact ⟨h1, decl1_owner hr (by rw [h1]; exact hk), h2⟩
  · rintro ⟨h1, _, h3⟩; exact ⟨h1, h3⟩
theorem resolve_none {us : List Pl.Un} {a b : Int} (h : Pl.exs (Pl.tbls us) a b = false) : Pl.resolve us a b = none := by unfold Pl.resolve; rw [h]; rfl
theorem resolve_some {us : List Pl.Un} {u i : Nat} {x : Pl.Un} (hx : us[u]? = some x) (hi : i < (Pl.tbl x).length) : Pl.resolve us u i = Pl.found (Pl.decls us) (Pl.tbl x) u i := by
  have hl : (Pl.tbls us)[u]? = some (Pl.tbl x) := by unfold Pl.tbls; rw [List.getElem?_map, hx]; rfl
  unfold Pl.resolve Pl.tblAt
  rw [exs_nat hl, if_pos (by simpa using hi), Int.toNat_natCast, hl]; rfl
/-- The cells of a declaration's place. -/
def decR (o : Option Pl.Dc) : Pl.Rf := fv (o.map fun d => (d.unit, d.node))
theorem declV_eq (o : Option Pl.Dc) : declV o = .tuple #[.agg #[.int .i64 ((o.map Pl.Dc.kind).getD 0), .string ((o.map Pl.Dc.owner).getD ⟨#[]⟩), .string ((o.map Pl.Dc.name).getD ⟨#[]⟩), .int .i64 (decR o).1, .int .i64 (decR o).2], .bool o.isSome] := by cases o <;> rfl
theorem foundP_of {o : Option Pl.Rf} {w w' : World} {e : Ending} (he : e = .returned (.tuple #[.agg #[.int .i64 (fv o).1, .int .i64 (fv o).2], .bool o.isSome])) (hb : Below w.heap.size w w') : FoundP o w e w' := ⟨by rw [he, foundV_eq], hb⟩
set_option maxHeartbeats 1600000 in
set_option maxRecDepth 100000 in
theorem res_unit (a : Option Addr) (n c : Nat) (us : List Pl.Un) (R : Nat → Sl) (w : World) (hU : IsU w a us R) (hn : n = us.length) (p q : Int) (h : ¬ ∃ (u : Nat) (x : Pl.Un), p = u ∧ us[u]? = some x ∧ x.broken = false) :
    Calls Try.prog 15 #[.slice a n c, .agg #[.int .i64 p, .int .i64 q]] w (FoundP (Pl.resolve us p q) w) := by
  have HR : Hid (Pl.resolve us p q = none) := Lib.hid (resolve_none (by
    rw [Bool.eq_false_iff]
    intro he
    obtain ⟨u, i, l, rfl, rfl, hl, hi⟩ := exs_iff.1 he
    unfold Pl.tbls at hl
    rw [List.getElem?_map] at hl
    obtain ⟨x, hx, rfl⟩ := Option.map_eq_some_iff.1 hl
    refine h ⟨u, x, rfl, hx, ?_⟩
    cases hb : x.broken
    · rfl
    · unfold Pl.tbl at hi; rw [if_pos hb] at hi; simp at hi))
  by_cases h1 : p < 0
  · clear h hU hn
    go_enter Try.func15, Try.ntmps15
    go_wp2_with fail
    exact bodyPost_ret (v := .tuple #[.agg #[.int .i64 0, .int .i64 0], .bool false]) (by simp [results, Try.results15, go_sem]) rfl ⟨by rw [HR.out]; rfl, below_2 _ _ _⟩
  obtain ⟨u, rfl⟩ : ∃ u : Nat, p = u := ⟨p.toNat, by omega⟩
  have u0 : (0 : Int) ≤ (u : Int) := Int.natCast_nonneg _
  by_cases h2 : u < n
  case neg =>
    have u1 : ¬ (u : Int) < (n : Int) := by omega
    have u2 : (n : Int) ≤ (u : Int) := by omega
    clear h hU hn h1 h2
    go_enter Try.func15, Try.ntmps15
    go_wp2_with fail
    exact bodyPost_ret (v := .tuple #[.agg #[.int .i64 0, .int .i64 0], .bool false]) (by simp [results, Try.results15, go_sem]) rfl ⟨by rw [HR.out]; rfl, below_2 _ _ _⟩
  have u1 : (u : Int) < (n : Int) := by omega
  obtain ⟨x, hx⟩ : ∃ x, us[u]? = some x := ⟨_, List.getElem?_eq_getElem (show u < us.length by omega)⟩
  have hb : x.broken = true := by
    cases hb : x.broken
    · exact absurd ⟨u, _, rfl, hx, hb⟩ h
    · rfl
  obtain ⟨b, o, rfl, hbw, hrg, hT⟩ := hU.one hx
  obtain ⟨_, _, s6, _⟩ := range7 (fun i v hv => (Below.cell (below_2 w (.cells #[.int .i64 u, .int .i64 q] 29) (.cells #[.int .i64 0, .int .i64 0] 29)) (p := ⟨b, o + u * 7 + i, none⟩) hbw).trans (hrg i v hv))
  rw [hb] at s6
  clear h hU hn hx hb hrg hT
  go_enter Try.func15, Try.ntmps15
  go_wp2_with fail
  exact bodyPost_ret (v := .tuple #[.agg #[.int .i64 0, .int .i64 0], .bool false]) (by simp [results, Try.results15, go_sem]) rfl ⟨by rw [HR.out]; rfl, below_2 _ _ _⟩
set_option maxHeartbeats 1600000 in
set_option maxRecDepth 100000 in
theorem res_node (a : Option Addr) (n c : Nat) (us : List Pl.Un) (R : Nat → Sl) (w : World) (hU : IsU w a us R) (hF : Few us) (hn : n = us.length) (u : Nat) (x : Pl.Un) (hx : us[u]? = some x) (hbr : x.broken = false) (q : Int) (h : ¬ ∃ i : Nat, q = i ∧ i < (Pl.tbl x).length) :
    Calls Try.prog 15 #[.slice a n c, .agg #[.int .i64 u, .int .i64 q]] w (FoundP (Pl.resolve us u q) w) := by
  have HR : Hid (Pl.resolve us u q = none) := Lib.hid (resolve_none (by
    rw [Bool.eq_false_iff]
    intro he
    obtain ⟨u2, i, l, h1, rfl, hl, hi⟩ := exs_iff.1 he
    obtain rfl : u = u2 := by omega
    unfold Pl.tbls at hl
    rw [List.getElem?_map, hx] at hl
    obtain rfl : _ = l := Option.some.inj hl
    exact h ⟨i, rfl, hi⟩))
  have hlit := hF.2 x (List.mem_of_getElem? hx)
  have hul := (List.getElem?_eq_some_iff.1 hx).1
  have u0 : (0 : Int) ≤ (u : Int) := Int.natCast_nonneg _
  have u1 : (u : Int) < (n : Int) := by omega
  have hok : Pl.Ok (Pl.tbl x) := Pl.ok_tbl x (by have := hlit.1; omega)
  obtain ⟨b, o, rfl, hbw, hrg, hT⟩ := hU.one hx
  have HE : Hid (Pl.tbl x = Pl.tab x.tree 0 (-1)) := Lib.hid (by unfold Pl.tbl; rw [if_neg (by simp [hbr])])
  obtain ⟨W, hW⟩ : ∃ W, W = (w.alloc (.cells #[.int .i64 u, .int .i64 q] 29)).alloc (.cells #[.int .i64 0, .int .i64 0] 29) := ⟨_, rfl⟩
  have hB : Below w.heap.size w W := by rw [hW]; exact below_2 _ _ _
  have hk1 : W.heap[w.heap.size]? = some (.cells #[.int .i64 u, .int .i64 q] 29) := by rw [hW]; exact (Below.heap_alloc _ _ _ (by simp)).trans (heap_alloc_new _ _)
  have hk2 : W.heap[w.heap.size + 1]? = some (.cells #[.int .i64 0, .int .i64 0] 29) := by rw [hW]; exact heap_at2 _ _ _
  have HK1 := Lib.hid hk1
  have HK2 := Lib.hid hk2
  obtain ⟨⟨p0, p1⟩, _⟩ := blk_two hk1
  obtain ⟨_, _, s6, st⟩ := range7 (fun i v hv => (hB.cell (p := ⟨b, o + u * 7 + i, none⟩) hbw).trans (hrg i v hv))
  rw [hbr] at s6
  have HST := Lib.hid st
  have HRw := Lib.hid (rrows2_at hT (fun b h => h) W (Same.below hB fun _ h => h) hB.size (by have := hlit.1; omega))
  rw [← HE.out] at HRw
  have HFi := Lib.hid (fun w1 (h : Below w.heap.size w w1) k s => rfind_any (some ⟨b, o, none⟩) n c us R w1 (hU.later h) hF hn k ⟨#[]⟩ s)
  have HW := Lib.hid hW
  have HB := Lib.hid hB
  have hlow : w.heap.size + 1 < W.heap.size := by rw [hW]; simp
  generalize R u = r at *
  obtain ⟨ga, gc, da, dc⟩ := r
  generalize Pl.tbl x = l at *
  by_cases h1 : q < 0
  · clear h
    clear hW hB hk1 hk2 st hrg hT hx hU hF hn hbr hlit hul
    go_enter Try.func15, Try.ntmps15
    go_upto_region 1 with fail
    rw [← HW.out]
    clear HW
    go_wp2_with (first
    | (refine wpList_load_mid rfl 54 _ rfl b (o + u * 7 + 2) rfl [.int .i64 x.tree.kind, .string x.tree.text, .slice ga x.tree.gaps.length gc, .slice da x.tree.kids.length dc] _ HST.out Try.underlying54 rfl sizeN ?_)
    | (go_at_call 41; refine HRw.out.mono ?_; rintro e w2 ⟨ta, tc, TR, rfl, hti, hb2⟩; have hk1 := blk_keep HK1.out hb2; have hk2 := blk_keep HK2.out hb2; obtain ⟨⟨p0, p1⟩, _⟩ := blk_two hk1; obtain ⟨⟨e0, e1⟩, e2, e3⟩ := blk_two hk2; have HTI := Lib.hid hti; have HB2 := Lib.hid (HB.out.trans (hb2.mono HB.out.size)); have HK3 := Lib.hid hk1; have HK4 := Lib.hid hk2; have hz2 := hb2.size; clear hti hb2 hk1 hk2))
    exact bodyPost_ret (v := .tuple #[.agg #[.int .i64 0, .int .i64 0], .bool false]) (by simp [results, Try.results15, go_sem, e0, e1]) rfl ⟨by rw [HR.out]; rfl, below_set2 HB2.out (by omega)⟩
  obtain ⟨i, rfl⟩ : ∃ i : Nat, q = i := ⟨q.toNat, by omega⟩
  have h2 : ¬ i < l.length := fun h2 => h ⟨i, rfl, h2⟩
  have h3 : (l.length : Int) ≤ (i : Int) := by omega
  have h4 : (0 : Int) ≤ (i : Int) := Int.natCast_nonneg _
  clear h h1
  clear hW hB hk1 hk2 st hrg hT hx hU hF hn hbr hlit hul
  go_enter Try.func15, Try.ntmps15
  go_upto_region 1 with fail
  rw [← HW.out]
  clear HW
  go_wp2_with (first
    | (refine wpList_load_mid rfl 54 _ rfl b (o + u * 7 + 2) rfl [.int .i64 x.tree.kind, .string x.tree.text, .slice ga x.tree.gaps.length gc, .slice da x.tree.kids.length dc] _ HST.out Try.underlying54 rfl sizeN ?_)
    | (go_at_call 41; refine HRw.out.mono ?_; rintro e w2 ⟨ta, tc, TR, rfl, hti, hb2⟩; have hk1 := blk_keep HK1.out hb2; have hk2 := blk_keep HK2.out hb2; obtain ⟨⟨p0, p1⟩, _⟩ := blk_two hk1; obtain ⟨⟨e0, e1⟩, e2, e3⟩ := blk_two hk2; have HTI := Lib.hid hti; have HB2 := Lib.hid (HB.out.trans (hb2.mono HB.out.size)); have HK3 := Lib.hid hk1; have HK4 := Lib.hid hk2; have hz2 := hb2.size; clear hti hb2 hk1 hk2))
  exact bodyPost_ret (v := .tuple #[.agg #[.int .i64 0, .int .i64 0], .bool false]) (by simp [results, Try.results15, go_sem, e0, e1]) rfl ⟨by rw [HR.out]; rfl, below_set2 HB2.out (by omega)⟩
set_option maxHeartbeats 1600000 in
set_option maxRecDepth 100000 in
theorem res_zero (a : Option Addr) (n c : Nat) (us : List Pl.Un) (R : Nat → Sl) (w : World) (hU : IsU w a us R) (hF : Few us) (hn : n = us.length) (u : Nat) (x : Pl.Un) (hx : us[u]? = some x) (hbr : x.broken = false) (i : Nat) (hi : i < (Pl.tbl x).length) (y : Pl.Rw) (hy : Pl.rw (Pl.tbl x) i = y) (h0 : Pl.space y.kind y.text = 0) :
    Calls Try.prog 15 #[.slice a n c, .agg #[.int .i64 u, .int .i64 i]] w (FoundP (Pl.resolve us u i) w) := by
  have HR : Hid (Pl.resolve us u i = none) := Lib.hid (by rw [resolve_some hx hi]; unfold Pl.found Pl.spc; rw [hy, if_pos h0])
  have hlit := hF.2 x (List.mem_of_getElem? hx)
  have hul := (List.getElem?_eq_some_iff.1 hx).1
  have u0 : (0 : Int) ≤ (u : Int) := Int.natCast_nonneg _
  have u1 : (u : Int) < (n : Int) := by omega
  have hok : Pl.Ok (Pl.tbl x) := Pl.ok_tbl x (by have := hlit.1; omega)
  obtain ⟨b, o, rfl, hbw, hrg, hT⟩ := hU.one hx
  have hil0 := hi
  have HE : Hid (Pl.tbl x = Pl.tab x.tree 0 (-1)) := Lib.hid (by unfold Pl.tbl; rw [if_neg (by simp [hbr])])
  obtain ⟨W, hW⟩ : ∃ W, W = (w.alloc (.cells #[.int .i64 u, .int .i64 i] 29)).alloc (.cells #[.int .i64 0, .int .i64 0] 29) := ⟨_, rfl⟩
  have hB : Below w.heap.size w W := by rw [hW]; exact below_2 _ _ _
  have hk1 : W.heap[w.heap.size]? = some (.cells #[.int .i64 u, .int .i64 i] 29) := by rw [hW]; exact (Below.heap_alloc _ _ _ (by simp)).trans (heap_alloc_new _ _)
  have hk2 : W.heap[w.heap.size + 1]? = some (.cells #[.int .i64 0, .int .i64 0] 29) := by rw [hW]; exact heap_at2 _ _ _
  have HK1 := Lib.hid hk1
  have HK2 := Lib.hid hk2
  obtain ⟨⟨p0, p1⟩, _⟩ := blk_two hk1
  obtain ⟨_, _, s6, st⟩ := range7 (fun i v hv => (hB.cell (p := ⟨b, o + u * 7 + i, none⟩) hbw).trans (hrg i v hv))
  rw [hbr] at s6
  have HST := Lib.hid st
  have HRw := Lib.hid (rrows2_at hT (fun b h => h) W (Same.below hB fun _ h => h) hB.size (by have := hlit.1; omega))
  rw [← HE.out] at HRw
  have HFi := Lib.hid (fun w1 (h : Below w.heap.size w w1) k s => rfind_any (some ⟨b, o, none⟩) n c us R w1 (hU.later h) hF hn k ⟨#[]⟩ s)
  have HW := Lib.hid hW
  have HB := Lib.hid hB
  have hlow : w.heap.size + 1 < W.heap.size := by rw [hW]; simp
  generalize R u = r at *
  obtain ⟨ga, gc, da, dc⟩ := r
  have HY := Lib.hid hy
  have HSp := Lib.hid (fun gv kv w => space_any y.parent y.kind y.text gv kv w)
  have HLk := Lib.hid (fun k hk => look_find hF k hk y.text)
  have i0 : (0 : Int) ≤ (i : Int) := Int.natCast_nonneg _
  have i1 : (i : Int) < ((Pl.tbl x).length : Int) := by omega
  have HOk := Lib.hid hok
  have hll : (Pl.tbl x).length ≤ 1000000 := hok.1
  obtain ⟨l, hl⟩ : ∃ l, l = Pl.tbl x := ⟨_, rfl⟩
  rw [← hl] at hil0 i1 hll HOk HRw HY HE
  have hil := hil0
  rw [h0] at HSp
  clear h0 HLk HFi
  clear hl hy hi hok hil0 hW hB hk1 hk2 st hrg hT hx hU hF hn hbr hlit hul
  go_enter Try.func15, Try.ntmps15
  go_upto_region 1 with fail
  rw [← HW.out]
  clear HW
  go_wp2_with (first
    | (refine wpList_load_mid rfl 54 _ rfl b (o + u * 7 + 2) rfl [.int .i64 x.tree.kind, .string x.tree.text, .slice ga x.tree.gaps.length gc, .slice da x.tree.kids.length dc] _ HST.out Try.underlying54 rfl sizeN ?_)
    | (go_at_call 41; refine HRw.out.mono ?_; rintro e w2 ⟨ta, tc, TR, rfl, hti, hb2⟩; have hk1 := blk_keep HK1.out hb2; have hk2 := blk_keep HK2.out hb2; obtain ⟨⟨p0, p1⟩, _⟩ := blk_two hk1; obtain ⟨⟨e0, e1⟩, e2, e3⟩ := blk_two hk2; have HTI := Lib.hid hti; have HB2 := Lib.hid (HB.out.trans (hb2.mono HB.out.size)); have HK3 := Lib.hid hk1; have HK4 := Lib.hid hk2; have hz2 := hb2.size; have hti2 : TabIn (fun b => b < w2.heap.size) w2 ta l TR := hti.keep (Same.refl _ _) fun b hb => hb.2; obtain ⟨rb, ro, rfl, hTb⟩ := tb_of hti2 (by omega); obtain ⟨y', rr, hgy, hyr, _, _, hytx, _, _, _, hat⟩ := hTb.row hil; obtain rfl : y = y' := HY.out.symm.trans hyr; have HAT := Lib.hid hat; have HTx := Lib.hid hytx; have hrb := hTb.1; have HTb := Lib.hid hTb; clear hti hti2 hb2 hk1 hk2 hTb hgy hyr hytx hat)
    | (refine wpList_load_mid rfl 47 _ rfl rb (ro + i * 5) rfl (cells5 (y, rr)) _ HAT.out Try.underlying47 rfl sizeR ?_)
    | (go_at_call 42; refine (HSp.out _ _ _).mono ?_; rintro e w3 ⟨rfl, hb3⟩; clear p0 p1 e0 e1 e2 e3; have hk1 := blk_keep HK3.out hb3; have hk2 := blk_keep HK4.out hb3; obtain ⟨⟨p0, p1⟩, _⟩ := blk_two hk1; obtain ⟨⟨e0, e1⟩, e2, e3⟩ := blk_two hk2; have tx : w3.cell? ⟨rb, ro + i * 5 + 2, none⟩ = some (.string y.text) := (hb3.cell (p := ⟨rb, ro + i * 5 + 2, none⟩) hrb).trans HTx.out; have HB3 := Lib.hid (HB2.out.trans (hb3.mono HB2.out.size)); have HBs := Lib.hid hb3; have HK5 := Lib.hid hk1; have HK6 := Lib.hid hk2; have hz3 := hb3.size; clear hb3 hk1 hk2))
  exact bodyPost_ret (v := .tuple #[.agg #[.int .i64 0, .int .i64 0], .bool false]) (by simp [results, Try.results15, go_sem, e0, e1]) rfl ⟨by rw [HR.out]; rfl, below_set2 HB3.out (by omega)⟩
set_option maxHeartbeats 1600000 in
set_option maxRecDepth 100000 in
theorem res_else (a : Option Addr) (n c : Nat) (us : List Pl.Un) (R : Nat → Sl) (w : World) (hU : IsU w a us R) (hF : Few us) (hn : n = us.length) (u : Nat) (x : Pl.Un) (hx : us[u]? = some x) (hbr : x.broken = false) (i : Nat) (hi : i < (Pl.tbl x).length) (y : Pl.Rw) (hy : Pl.rw (Pl.tbl x) i = y) (h0 : Pl.space y.kind y.text ≠ 0) (h6 : Pl.space y.kind y.text ≠ 6) :
    Calls Try.prog 15 #[.slice a n c, .agg #[.int .i64 u, .int .i64 i]] w (FoundP (Pl.resolve us u i) w) := by
  have HR0 : Hid (Pl.resolve us u i = Pl.look (Pl.decls us) (Pl.space y.kind y.text) y.text) := Lib.hid (by rw [resolve_some hx hi]; unfold Pl.found Pl.spc; rw [hy, if_neg h0, if_neg h6])
  have hlit := hF.2 x (List.mem_of_getElem? hx)
  have hul := (List.getElem?_eq_some_iff.1 hx).1
  have u0 : (0 : Int) ≤ (u : Int) := Int.natCast_nonneg _
  have u1 : (u : Int) < (n : Int) := by omega
  have hok : Pl.Ok (Pl.tbl x) := Pl.ok_tbl x (by have := hlit.1; omega)
  obtain ⟨b, o, rfl, hbw, hrg, hT⟩ := hU.one hx
  have hil0 := hi
  have HE : Hid (Pl.tbl x = Pl.tab x.tree 0 (-1)) := Lib.hid (by unfold Pl.tbl; rw [if_neg (by simp [hbr])])
  obtain ⟨W, hW⟩ : ∃ W, W = (w.alloc (.cells #[.int .i64 u, .int .i64 i] 29)).alloc (.cells #[.int .i64 0, .int .i64 0] 29) := ⟨_, rfl⟩
  have hB : Below w.heap.size w W := by rw [hW]; exact below_2 _ _ _
  have hk1 : W.heap[w.heap.size]? = some (.cells #[.int .i64 u, .int .i64 i] 29) := by rw [hW]; exact (Below.heap_alloc _ _ _ (by simp)).trans (heap_alloc_new _ _)
  have hk2 : W.heap[w.heap.size + 1]? = some (.cells #[.int .i64 0, .int .i64 0] 29) := by rw [hW]; exact heap_at2 _ _ _
  have HK1 := Lib.hid hk1
  have HK2 := Lib.hid hk2
  obtain ⟨⟨p0, p1⟩, _⟩ := blk_two hk1
  obtain ⟨_, _, s6, st⟩ := range7 (fun i v hv => (hB.cell (p := ⟨b, o + u * 7 + i, none⟩) hbw).trans (hrg i v hv))
  rw [hbr] at s6
  have HST := Lib.hid st
  have HRw := Lib.hid (rrows2_at hT (fun b h => h) W (Same.below hB fun _ h => h) hB.size (by have := hlit.1; omega))
  rw [← HE.out] at HRw
  have HFi := Lib.hid (fun w1 (h : Below w.heap.size w w1) k s => rfind_any (some ⟨b, o, none⟩) n c us R w1 (hU.later h) hF hn k ⟨#[]⟩ s)
  have HW := Lib.hid hW
  have HB := Lib.hid hB
  have hlow : w.heap.size + 1 < W.heap.size := by rw [hW]; simp
  generalize R u = r at *
  obtain ⟨ga, gc, da, dc⟩ := r
  have HY := Lib.hid hy
  have HSp := Lib.hid (fun gv kv w => space_any y.parent y.kind y.text gv kv w)
  have HLk := Lib.hid (fun k hk => look_find hF k hk y.text)
  have i0 : (0 : Int) ≤ (i : Int) := Int.natCast_nonneg _
  have i1 : (i : Int) < ((Pl.tbl x).length : Int) := by omega
  have HOk := Lib.hid hok
  have hll : (Pl.tbl x).length ≤ 1000000 := hok.1
  obtain ⟨l, hl⟩ : ∃ l, l = Pl.tbl x := ⟨_, rfl⟩
  rw [← hl] at hil0 i1 hll HOk HRw HY HE
  have hil := hil0
  have HR : Hid (Pl.resolve us u i = (findD (Pl.decls us) (Pl.space y.kind y.text) ⟨#[]⟩ y.text).map fun d => (d.unit, d.node)) := Lib.hid (by
    rw [HR0.out, HLk.out _ (by rcases space_kinds y.kind y.text with h | h | h | h <;> omega)]; rfl)
  have s0 := (int_no h0).1
  have s6' := (int_no h6).1
  generalize Pl.space y.kind y.text = K at *
  have HFi := Lib.hid (fun w1 h => HFi.out w1 h K y.text)
  generalize findD (Pl.decls us) K ⟨#[]⟩ y.text = fo at *
  clear h0 h6 HLk
  clear hl hy hi hok hil0 hW hB hk1 hk2 st hrg hT hx hU hF hn hbr hlit hul
  go_enter Try.func15, Try.ntmps15
  go_upto_region 1 with fail
  rw [← HW.out]
  clear HW
  go_wp2_with (first
    | (refine wpList_load_mid rfl 54 _ rfl b (o + u * 7 + 2) rfl [.int .i64 x.tree.kind, .string x.tree.text, .slice ga x.tree.gaps.length gc, .slice da x.tree.kids.length dc] _ HST.out Try.underlying54 rfl sizeN ?_)
    | (go_at_call 41; refine HRw.out.mono ?_; rintro e w2 ⟨ta, tc, TR, rfl, hti, hb2⟩; have hk1 := blk_keep HK1.out hb2; have hk2 := blk_keep HK2.out hb2; obtain ⟨⟨p0, p1⟩, _⟩ := blk_two hk1; obtain ⟨⟨e0, e1⟩, e2, e3⟩ := blk_two hk2; have HTI := Lib.hid hti; have HB2 := Lib.hid (HB.out.trans (hb2.mono HB.out.size)); have HK3 := Lib.hid hk1; have HK4 := Lib.hid hk2; have hz2 := hb2.size; have hti2 : TabIn (fun b => b < w2.heap.size) w2 ta l TR := hti.keep (Same.refl _ _) fun b hb => hb.2; obtain ⟨rb, ro, rfl, hTb⟩ := tb_of hti2 (by omega); obtain ⟨y', rr, hgy, hyr, _, _, hytx, _, _, _, hat⟩ := hTb.row hil; obtain rfl : y = y' := HY.out.symm.trans hyr; have HAT := Lib.hid hat; have HTx := Lib.hid hytx; have hrb := hTb.1; have HTb := Lib.hid hTb; clear hti hti2 hb2 hk1 hk2 hTb hgy hyr hytx hat)
    | (refine wpList_load_mid rfl 47 _ rfl rb (ro + i * 5) rfl (cells5 (y, rr)) _ HAT.out Try.underlying47 rfl sizeR ?_)
    | (go_at_call 42; refine (HSp.out _ _ _).mono ?_; rintro e w3 ⟨rfl, hb3⟩; clear p0 p1 e0 e1 e2 e3; have hk1 := blk_keep HK3.out hb3; have hk2 := blk_keep HK4.out hb3; obtain ⟨⟨p0, p1⟩, _⟩ := blk_two hk1; obtain ⟨⟨e0, e1⟩, e2, e3⟩ := blk_two hk2; have tx : w3.cell? ⟨rb, ro + i * 5 + 2, none⟩ = some (.string y.text) := (hb3.cell (p := ⟨rb, ro + i * 5 + 2, none⟩) hrb).trans HTx.out; have HB3 := Lib.hid (HB2.out.trans (hb3.mono HB2.out.size)); have HBs := Lib.hid hb3; have HK5 := Lib.hid hk1; have HK6 := Lib.hid hk2; have hz3 := hb3.size; clear hb3 hk1 hk2)
    | (go_at_call 44; refine (HFi.out _ HB3.out).mono ?_; rintro e w5 ⟨he, hb5⟩; rw [declV_eq] at he; subst he; have hk2 := blk_keep HK6.out hb5; obtain ⟨⟨x0, x1⟩, x2, x3⟩ := blk_two hk2; have HB5 := Lib.hid (Below.trans HB3.out (hb5.mono (Below.size HB3.out))); have HK9 := Lib.hid hk2; have hz5 := hb5.size; have xa := cell_past (w.heap.size + 1); have xf := frozen_past (w.heap.size + 1); have xl : w.heap.size + 1 < w5.heap.size := (by omega); clear hb5 hk2))
  refine bodyPost_ret (v := .tuple #[.agg #[.int .i64 (decR fo).1, .int .i64 (decR fo).2], .bool fo.isSome]) (by simp [results, Try.results15, go_sem, x0, x1, xa, xl]) rfl (foundP_of (by rw [HR.out]; simp [decR]) ?_)
  exact (below_set2 HB5.out (by omega)).alloc (by simp; omega) _
set_option maxHeartbeats 1600000 in
set_option maxRecDepth 100000 in
theorem res_var (a : Option Addr) (n c : Nat) (us : List Pl.Un) (R : Nat → Sl) (w : World) (hU : IsU w a us R) (hF : Few us) (hn : n = us.length) (u : Nat) (x : Pl.Un) (hx : us[u]? = some x) (hbr : x.broken = false) (i : Nat) (hi : i < (Pl.tbl x).length) (y : Pl.Rw) (hy : Pl.rw (Pl.tbl x) i = y) (h6 : Pl.space y.kind y.text = 6) (v : Int) (hv : Pl.var (Pl.tbl x) i y.text = some v) (hv0 : 0 ≤ v) :
    Calls Try.prog 15 #[.slice a n c, .agg #[.int .i64 u, .int .i64 i]] w (FoundP (Pl.resolve us u i) w) := by
  have HR : Hid (Pl.resolve us u i = some ((u : Int), v)) := Lib.hid (by rw [resolve_some hx hi]; unfold Pl.found Pl.spc; rw [hy, h6, if_neg (by decide), if_pos rfl, hv])
  have hlit := hF.2 x (List.mem_of_getElem? hx)
  have hul := (List.getElem?_eq_some_iff.1 hx).1
  have u0 : (0 : Int) ≤ (u : Int) := Int.natCast_nonneg _
  have u1 : (u : Int) < (n : Int) := by omega
  have hok : Pl.Ok (Pl.tbl x) := Pl.ok_tbl x (by have := hlit.1; omega)
  obtain ⟨b, o, rfl, hbw, hrg, hT⟩ := hU.one hx
  have hil0 := hi
  have HE : Hid (Pl.tbl x = Pl.tab x.tree 0 (-1)) := Lib.hid (by unfold Pl.tbl; rw [if_neg (by simp [hbr])])
  obtain ⟨W, hW⟩ : ∃ W, W = (w.alloc (.cells #[.int .i64 u, .int .i64 i] 29)).alloc (.cells #[.int .i64 0, .int .i64 0] 29) := ⟨_, rfl⟩
  have hB : Below w.heap.size w W := by rw [hW]; exact below_2 _ _ _
  have hk1 : W.heap[w.heap.size]? = some (.cells #[.int .i64 u, .int .i64 i] 29) := by rw [hW]; exact (Below.heap_alloc _ _ _ (by simp)).trans (heap_alloc_new _ _)
  have hk2 : W.heap[w.heap.size + 1]? = some (.cells #[.int .i64 0, .int .i64 0] 29) := by rw [hW]; exact heap_at2 _ _ _
  have HK1 := Lib.hid hk1
  have HK2 := Lib.hid hk2
  obtain ⟨⟨p0, p1⟩, _⟩ := blk_two hk1
  obtain ⟨_, _, s6, st⟩ := range7 (fun i v hv => (hB.cell (p := ⟨b, o + u * 7 + i, none⟩) hbw).trans (hrg i v hv))
  rw [hbr] at s6
  have HST := Lib.hid st
  have HRw := Lib.hid (rrows2_at hT (fun b h => h) W (Same.below hB fun _ h => h) hB.size (by have := hlit.1; omega))
  rw [← HE.out] at HRw
  have HFi := Lib.hid (fun w1 (h : Below w.heap.size w w1) k s => rfind_any (some ⟨b, o, none⟩) n c us R w1 (hU.later h) hF hn k ⟨#[]⟩ s)
  have HW := Lib.hid hW
  have HB := Lib.hid hB
  have hlow : w.heap.size + 1 < W.heap.size := by rw [hW]; simp
  generalize R u = r at *
  obtain ⟨ga, gc, da, dc⟩ := r
  have HY := Lib.hid hy
  have HSp := Lib.hid (fun gv kv w => space_any y.parent y.kind y.text gv kv w)
  have HLk := Lib.hid (fun k hk => look_find hF k hk y.text)
  have i0 : (0 : Int) ≤ (i : Int) := Int.natCast_nonneg _
  have i1 : (i : Int) < ((Pl.tbl x).length : Int) := by omega
  have HOk := Lib.hid hok
  have hll : (Pl.tbl x).length ≤ 1000000 := hok.1
  obtain ⟨l, hl⟩ : ∃ l, l = Pl.tbl x := ⟨_, rfl⟩
  rw [← hl] at hil0 i1 hll HOk HRw HY HE
  have hil := hil0
  rw [← hl] at hv
  have HOpt : Hid (optI (Pl.var l i y.text) = v) := Lib.hid (by rw [hv]; rfl)
  rw [h6] at HSp
  clear h6 HLk HFi hv
  have HDR : Hid (∀ (wx : World) (x f : Nat), wx.drew.cell? ⟨x, f, none⟩ = wx.cell? ⟨x, f, none⟩) := Lib.hid fun _ _ _ => rfl
  clear hl hy hi hok hil0 hW hB hk1 hk2 st hrg hT hx hU hF hn hbr hlit hul
  go_enter Try.func15, Try.ntmps15
  go_upto_region 1 with fail
  rw [← HW.out]
  clear HW
  go_upto_region 8 with (first
    | (refine wpList_load_mid rfl 54 _ rfl b (o + u * 7 + 2) rfl [.int .i64 x.tree.kind, .string x.tree.text, .slice ga x.tree.gaps.length gc, .slice da x.tree.kids.length dc] _ HST.out Try.underlying54 rfl sizeN ?_)
    | (go_at_call 41; refine HRw.out.mono ?_; rintro e w2 ⟨ta, tc, TR, rfl, hti, hb2⟩; have hk1 := blk_keep HK1.out hb2; have hk2 := blk_keep HK2.out hb2; obtain ⟨⟨p0, p1⟩, _⟩ := blk_two hk1; obtain ⟨⟨e0, e1⟩, e2, e3⟩ := blk_two hk2; have HTI := Lib.hid hti; have HB2 := Lib.hid (HB.out.trans (hb2.mono HB.out.size)); have HK3 := Lib.hid hk1; have HK4 := Lib.hid hk2; have hz2 := hb2.size; have hti2 : TabIn (fun b => b < w2.heap.size) w2 ta l TR := hti.keep (Same.refl _ _) fun b hb => hb.2; obtain ⟨rb, ro, rfl, hTb⟩ := tb_of hti2 (by omega); obtain ⟨y', rr, hgy, hyr, _, _, hytx, _, _, _, hat⟩ := hTb.row hil; obtain rfl : y = y' := HY.out.symm.trans hyr; have HAT := Lib.hid hat; have HTx := Lib.hid hytx; have hrb := hTb.1; have HTb := Lib.hid hTb; clear hti hti2 hb2 hk1 hk2 hTb hgy hyr hytx hat)
    | (refine wpList_load_mid rfl 47 _ rfl rb (ro + i * 5) rfl (cells5 (y, rr)) _ HAT.out Try.underlying47 rfl sizeR ?_)
    | (go_at_call 42; refine (HSp.out _ _ _).mono ?_; rintro e w3 ⟨rfl, hb3⟩; clear p0 p1 e0 e1 e2 e3; have hk1 := blk_keep HK3.out hb3; have hk2 := blk_keep HK4.out hb3; obtain ⟨⟨p0, p1⟩, _⟩ := blk_two hk1; obtain ⟨⟨e0, e1⟩, e2, e3⟩ := blk_two hk2; have tx : w3.cell? ⟨rb, ro + i * 5 + 2, none⟩ = some (.string y.text) := (hb3.cell (p := ⟨rb, ro + i * 5 + 2, none⟩) hrb).trans HTx.out; have HB3 := Lib.hid (HB2.out.trans (hb3.mono HB2.out.size)); have HBs := Lib.hid hb3; have HK5 := Lib.hid hk1; have HK6 := Lib.hid hk2; have hz3 := hb3.size; clear hb3 hk1 hk2))
  have hwl : w.heap.size < w3.heap.size := by omega
  have hrb3 : rb < w3.heap.size := by omega
  have HVa := Lib.hid (fun z (hz : Below w3.heap.size w3 z) => variable_any rb ro tc l.length l TR z ((HTb.out.later HBs.out).later hz) HOk.out rfl i hil y.text)
  go_upto_region 8 with fail
  have d0 := p0
  go_region_held3 (fun w' => (∀ f : Nat, w'.cell? ⟨w.heap.size, f, none⟩ = w3.cell? ⟨w.heap.size, f, none⟩) ∧ ∀ f : Nat, w'.cell? ⟨rb, f, none⟩ = w3.cell? ⟨rb, f, none⟩)
    ((refine ⟨?_, ?_⟩ <;> (intro f; iterate 4 (first
      | (with_reducible exact rfl)
      | (with_reducible exact HQa.out f)
      | (with_reducible exact HQb.out f)
      | (with_reducible refine (HDR.out _ _ _).trans ?_)
      | skip))))
    ((go_at_call 43; refine (HVa.out w3.drew (Below.refl w3.heap.size w3).drew).mono ?_; rintro e w4 ⟨he, hb4'⟩; rw [HOpt.out] at he; subst he;
      have hb4 : Below w3.heap.size w3 w4 := (Below.refl w3.heap.size w3).drew.trans hb4';
      have HQa : Hid (∀ f : Nat, w4.cell? ⟨w.heap.size, f, none⟩ = w3.cell? ⟨w.heap.size, f, none⟩) := Lib.hid (fun f => hb4.cell (p := ⟨w.heap.size, f, none⟩) hwl);
      have HQb : Hid (∀ f : Nat, w4.cell? ⟨rb, f, none⟩ = w3.cell? ⟨rb, f, none⟩) := Lib.hid (fun f => hb4.cell (p := ⟨rb, f, none⟩) hrb3);
      have HB4 := Lib.hid (HB3.out.trans (hb4.mono HB3.out.size)); have hk1 := blk_keep HK5.out hb4; have hk2 := blk_keep HK6.out hb4; have HK7 := Lib.hid hk1; have HK8 := Lib.hid hk2; have hz4 := hb4.size; have ty := (hb4.cell (p := ⟨rb, ro + i * 5 + 2, none⟩) hrb3).trans tx; clear hb4 hb4' hk1 hk2))
  obtain ⟨⟨p0, p1⟩, _⟩ := blk_two HK7.out
  obtain ⟨⟨x0, x1⟩, x2, x3⟩ := blk_two HK8.out
  go_wp2_with fail
  exact bodyPost_ret (v := .tuple #[.agg #[.int .i64 u, .int .i64 v], .bool true]) (by simp [results, Try.results15, go_sem, x0, x1]) rfl ⟨by rw [HR.out]; rfl, below_set2 HB4.out (by omega)⟩
set_option maxHeartbeats 1600000 in
set_option maxRecDepth 100000 in
theorem res_const (a : Option Addr) (n c : Nat) (us : List Pl.Un) (R : Nat → Sl) (w : World) (hU : IsU w a us R) (hF : Few us) (hn : n = us.length) (u : Nat) (x : Pl.Un) (hx : us[u]? = some x) (hbr : x.broken = false) (i : Nat) (hi : i < (Pl.tbl x).length) (y : Pl.Rw) (hy : Pl.rw (Pl.tbl x) i = y) (h6 : Pl.space y.kind y.text = 6) (hv : Pl.var (Pl.tbl x) i y.text = none) :
    Calls Try.prog 15 #[.slice a n c, .agg #[.int .i64 u, .int .i64 i]] w (FoundP (Pl.resolve us u i) w) := by
  have HR0 : Hid (Pl.resolve us u i = Pl.look (Pl.decls us) 3 y.text) := Lib.hid (by rw [resolve_some hx hi]; unfold Pl.found Pl.spc; rw [hy, h6, if_neg (by decide), if_pos rfl, hv])
  have hlit := hF.2 x (List.mem_of_getElem? hx)
  have hul := (List.getElem?_eq_some_iff.1 hx).1
  have u0 : (0 : Int) ≤ (u : Int) := Int.natCast_nonneg _
  have u1 : (u : Int) < (n : Int) := by omega
  have hok : Pl.Ok (Pl.tbl x) := Pl.ok_tbl x (by have := hlit.1; omega)
  obtain ⟨b, o, rfl, hbw, hrg, hT⟩ := hU.one hx
  have hil0 := hi
  have HE : Hid (Pl.tbl x = Pl.tab x.tree 0 (-1)) := Lib.hid (by unfold Pl.tbl; rw [if_neg (by simp [hbr])])
  obtain ⟨W, hW⟩ : ∃ W, W = (w.alloc (.cells #[.int .i64 u, .int .i64 i] 29)).alloc (.cells #[.int .i64 0, .int .i64 0] 29) := ⟨_, rfl⟩
  have hB : Below w.heap.size w W := by rw [hW]; exact below_2 _ _ _
  have hk1 : W.heap[w.heap.size]? = some (.cells #[.int .i64 u, .int .i64 i] 29) := by rw [hW]; exact (Below.heap_alloc _ _ _ (by simp)).trans (heap_alloc_new _ _)
  have hk2 : W.heap[w.heap.size + 1]? = some (.cells #[.int .i64 0, .int .i64 0] 29) := by rw [hW]; exact heap_at2 _ _ _
  have HK1 := Lib.hid hk1
  have HK2 := Lib.hid hk2
  obtain ⟨⟨p0, p1⟩, _⟩ := blk_two hk1
  obtain ⟨_, _, s6, st⟩ := range7 (fun i v hv => (hB.cell (p := ⟨b, o + u * 7 + i, none⟩) hbw).trans (hrg i v hv))
  rw [hbr] at s6
  have HST := Lib.hid st
  have HRw := Lib.hid (rrows2_at hT (fun b h => h) W (Same.below hB fun _ h => h) hB.size (by have := hlit.1; omega))
  rw [← HE.out] at HRw
  have HFi := Lib.hid (fun w1 (h : Below w.heap.size w w1) k s => rfind_any (some ⟨b, o, none⟩) n c us R w1 (hU.later h) hF hn k ⟨#[]⟩ s)
  have HW := Lib.hid hW
  have HB := Lib.hid hB
  have hlow : w.heap.size + 1 < W.heap.size := by rw [hW]; simp
  generalize R u = r at *
  obtain ⟨ga, gc, da, dc⟩ := r
  have HY := Lib.hid hy
  have HSp := Lib.hid (fun gv kv w => space_any y.parent y.kind y.text gv kv w)
  have HLk := Lib.hid (fun k hk => look_find hF k hk y.text)
  have i0 : (0 : Int) ≤ (i : Int) := Int.natCast_nonneg _
  have i1 : (i : Int) < ((Pl.tbl x).length : Int) := by omega
  have HOk := Lib.hid hok
  have hll : (Pl.tbl x).length ≤ 1000000 := hok.1
  obtain ⟨l, hl⟩ : ∃ l, l = Pl.tbl x := ⟨_, rfl⟩
  rw [← hl] at hil0 i1 hll HOk HRw HY HE
  have hil := hil0
  have HR : Hid (Pl.resolve us u i = (findD (Pl.decls us) 3 ⟨#[]⟩ y.text).map fun d => (d.unit, d.node)) := Lib.hid (by
    rw [HR0.out, HLk.out _ (by omega)]; rfl)
  have HFi := Lib.hid (fun w1 h => HFi.out w1 h 3 y.text)
  generalize findD (Pl.decls us) 3 ⟨#[]⟩ y.text = fo at *
  rw [← hl] at hv
  have HOpt : Hid (optI (Pl.var l i y.text) = -1) := Lib.hid (by rw [hv]; rfl)
  rw [h6] at HSp
  clear h6 HLk hv
  have HDR : Hid (∀ (wx : World) (x f : Nat), wx.drew.cell? ⟨x, f, none⟩ = wx.cell? ⟨x, f, none⟩) := Lib.hid fun _ _ _ => rfl
  clear hl hy hi hok hil0 hW hB hk1 hk2 st hrg hT hx hU hF hn hbr hlit hul
  go_enter Try.func15, Try.ntmps15
  go_upto_region 1 with fail
  rw [← HW.out]
  clear HW
  go_upto_region 8 with (first
    | (refine wpList_load_mid rfl 54 _ rfl b (o + u * 7 + 2) rfl [.int .i64 x.tree.kind, .string x.tree.text, .slice ga x.tree.gaps.length gc, .slice da x.tree.kids.length dc] _ HST.out Try.underlying54 rfl sizeN ?_)
    | (go_at_call 41; refine HRw.out.mono ?_; rintro e w2 ⟨ta, tc, TR, rfl, hti, hb2⟩; have hk1 := blk_keep HK1.out hb2; have hk2 := blk_keep HK2.out hb2; obtain ⟨⟨p0, p1⟩, _⟩ := blk_two hk1; obtain ⟨⟨e0, e1⟩, e2, e3⟩ := blk_two hk2; have HTI := Lib.hid hti; have HB2 := Lib.hid (HB.out.trans (hb2.mono HB.out.size)); have HK3 := Lib.hid hk1; have HK4 := Lib.hid hk2; have hz2 := hb2.size; have hti2 : TabIn (fun b => b < w2.heap.size) w2 ta l TR := hti.keep (Same.refl _ _) fun b hb => hb.2; obtain ⟨rb, ro, rfl, hTb⟩ := tb_of hti2 (by omega); obtain ⟨y', rr, hgy, hyr, _, _, hytx, _, _, _, hat⟩ := hTb.row hil; obtain rfl : y = y' := HY.out.symm.trans hyr; have HAT := Lib.hid hat; have HTx := Lib.hid hytx; have hrb := hTb.1; have HTb := Lib.hid hTb; clear hti hti2 hb2 hk1 hk2 hTb hgy hyr hytx hat)
    | (refine wpList_load_mid rfl 47 _ rfl rb (ro + i * 5) rfl (cells5 (y, rr)) _ HAT.out Try.underlying47 rfl sizeR ?_)
    | (go_at_call 42; refine (HSp.out _ _ _).mono ?_; rintro e w3 ⟨rfl, hb3⟩; clear p0 p1 e0 e1 e2 e3; have hk1 := blk_keep HK3.out hb3; have hk2 := blk_keep HK4.out hb3; obtain ⟨⟨p0, p1⟩, _⟩ := blk_two hk1; obtain ⟨⟨e0, e1⟩, e2, e3⟩ := blk_two hk2; have tx : w3.cell? ⟨rb, ro + i * 5 + 2, none⟩ = some (.string y.text) := (hb3.cell (p := ⟨rb, ro + i * 5 + 2, none⟩) hrb).trans HTx.out; have HB3 := Lib.hid (HB2.out.trans (hb3.mono HB2.out.size)); have HBs := Lib.hid hb3; have HK5 := Lib.hid hk1; have HK6 := Lib.hid hk2; have hz3 := hb3.size; clear hb3 hk1 hk2))
  have hwl : w.heap.size < w3.heap.size := by omega
  have hrb3 : rb < w3.heap.size := by omega
  have HVa := Lib.hid (fun z (hz : Below w3.heap.size w3 z) => variable_any rb ro tc l.length l TR z ((HTb.out.later HBs.out).later hz) HOk.out rfl i hil y.text)
  go_upto_region 8 with fail
  have d0 := p0
  go_region_held3 (fun w' => (∀ f : Nat, w'.cell? ⟨w.heap.size, f, none⟩ = w3.cell? ⟨w.heap.size, f, none⟩) ∧ ∀ f : Nat, w'.cell? ⟨rb, f, none⟩ = w3.cell? ⟨rb, f, none⟩)
    ((refine ⟨?_, ?_⟩ <;> (intro f; iterate 4 (first
      | (with_reducible exact rfl)
      | (with_reducible exact HQa.out f)
      | (with_reducible exact HQb.out f)
      | (with_reducible refine (HDR.out _ _ _).trans ?_)
      | skip))))
    ((go_at_call 43; refine (HVa.out w3.drew (Below.refl w3.heap.size w3).drew).mono ?_; rintro e w4 ⟨he, hb4'⟩; rw [HOpt.out] at he; subst he;
      have hb4 : Below w3.heap.size w3 w4 := (Below.refl w3.heap.size w3).drew.trans hb4';
      have HQa : Hid (∀ f : Nat, w4.cell? ⟨w.heap.size, f, none⟩ = w3.cell? ⟨w.heap.size, f, none⟩) := Lib.hid (fun f => hb4.cell (p := ⟨w.heap.size, f, none⟩) hwl);
      have HQb : Hid (∀ f : Nat, w4.cell? ⟨rb, f, none⟩ = w3.cell? ⟨rb, f, none⟩) := Lib.hid (fun f => hb4.cell (p := ⟨rb, f, none⟩) hrb3);
      have HB4 := Lib.hid (HB3.out.trans (hb4.mono HB3.out.size)); have hk1 := blk_keep HK5.out hb4; have hk2 := blk_keep HK6.out hb4; have HK7 := Lib.hid hk1; have HK8 := Lib.hid hk2; have hz4 := hb4.size; have ty := (hb4.cell (p := ⟨rb, ro + i * 5 + 2, none⟩) hrb3).trans tx; clear hb4 hb4' hk1 hk2))
  obtain ⟨⟨p0, p1⟩, _⟩ := blk_two HK7.out
  go_wp2_with (first
    | (go_at_call 44; refine (HFi.out _ HB4.out).mono ?_; rintro e w5 ⟨he, hb5⟩; rw [declV_eq] at he; subst he; have hk2 := blk_keep HK8.out hb5; obtain ⟨⟨x0, x1⟩, x2, x3⟩ := blk_two hk2; have HB5 := Lib.hid (Below.trans HB4.out (hb5.mono (Below.size HB4.out))); have HK9 := Lib.hid hk2; have hz5 := hb5.size; have xa := cell_past (w.heap.size + 1); have xf := frozen_past (w.heap.size + 1); have xl : w.heap.size + 1 < w5.heap.size := (by omega); clear hb5 hk2))
  refine bodyPost_ret (v := .tuple #[.agg #[.int .i64 (decR fo).1, .int .i64 (decR fo).2], .bool fo.isSome]) (by simp [results, Try.results15, go_sem, x0, x1, xa, xl]) rfl (foundP_of (by rw [HR.out]; simp [decR]) ?_)
  exact (below_set2 HB5.out (by omega)).alloc (by simp; omega) _
theorem resolve_any (a : Option Addr) (n c : Nat) (us : List Pl.Un) (R : Nat → Sl) (w : World) (hU : IsU w a us R) (hF : Few us) (hn : n = us.length) (p q : Int) :
    Calls Try.prog 15 #[.slice a n c, .agg #[.int .i64 p, .int .i64 q]] w (FoundP (Pl.resolve us p q) w) := by
  by_cases h : ∃ (u : Nat) (x : Pl.Un), p = u ∧ us[u]? = some x ∧ x.broken = false
  case neg => exact res_unit a n c us R w hU hn p q h
  obtain ⟨u, x, rfl, hx, hb⟩ := h
  by_cases h : ∃ i : Nat, q = i ∧ i < (Pl.tbl x).length
  case neg => exact res_node a n c us R w hU hF hn u x hx hb q h
  obtain ⟨i, rfl, hi⟩ := h
  by_cases h0 : Pl.space (Pl.rw (Pl.tbl x) i).kind (Pl.rw (Pl.tbl x) i).text = 0
  · exact res_zero a n c us R w hU hF hn u x hx hb i hi _ rfl h0
  by_cases h6 : Pl.space (Pl.rw (Pl.tbl x) i).kind (Pl.rw (Pl.tbl x) i).text = 6
  · cases hv : Pl.var (Pl.tbl x) i (Pl.rw (Pl.tbl x) i).text with
    | none => exact res_const a n c us R w hU hF hn u x hx hb i hi _ rfl h6 hv
    | some v => exact res_var a n c us R w hU hF hn u x hx hb i hi _ rfl h6 v hv (var_mem (Pl.ok_tbl x (by have := (hF.2 x (List.mem_of_getElem? hx)).1; omega)) (by omega) (by omega) hv).1
  · exact res_else a n c us R w hU hF hn u x hx hb i hi _ rfl h0 h6
end Go.Proofs.Ytoelfiendfemaaa
