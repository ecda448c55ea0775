/- The walks of the package's Replace, Insert and Remove. -/
import Derived.Test.YtpaleolcfhnenaaDoorChg
import Derived.Test.YtpaleolcfhnenaaDoorShelf
namespace Go.Proofs.YtpaleolcfhnenaaDoor.Pl
open Go
set_option linter.unusedVariables false
set_option linter.unusedSimpArgs false

/-- What change is asked. -/
def Asks (t : Tr) (q : List Int) (i : Int) (cut : Nat) (add : List Tr) (E : Int) (T : Tr) : Prop :=
  (E = 5 ∧ (getP q t = none ∨ ∃ u, getP q t = some u ∧ (i < 0 ∨ (u.kids.length : Int) - cut < i))) ∨ (∃ (u : Tr) (k : Nat), getP q t = some u ∧ i = k ∧ k + cut ≤ u.kids.length ∧ T = putP (wth u (u.kids.take k ++ add ++ u.kids.drop (k + cut))) q t ∧ E = if chk T = 0 then 0 else 7)
theorem fits_or {T u : Tr} {q : List Int} {i : Int} {x : Tr} {b : Bool} (hz : sz T ≤ 1048576) (hu : getP q T = some u) (hk : kidA u i = some x) (hb : fits u.kind i x.kind = b) : (if b = false then 7 else if rchk T = 0 then 0 else 7) = if chk T = 0 then (0 : Int) else 7 := by
  rw [← chk_rchk T hz]
  cases b with
  | true => rfl
  | false =>
    rw [if_pos rfl, if_neg]
    intro h0
    have := first_fits (chk_zero T h0).2.2.2 hu hk
    rw [hb] at this
    cases this
theorem asks_replace (t x : Tr) (q : List Int) (i : Int) (hz : sz t ≤ 10000) (hx : sz x ≤ 10000) : Asks t q i 1 [x] (replE t (q ++ [i]) x) (putP x (q ++ [i]) t) := by
  cases hq : getP q t with
  | none =>
    exact .inl ⟨replE_none (by rw [getP_append, hq]; rfl), .inl hq⟩
  | some u =>
    by_cases hb : i < 0 ∨ (u.kids.length : Int) - (1 : Nat) < i
    · have hk : kidA u i = none := kidA_none (by rcases hb with h | h; exact .inl h; right; omega)
      exact .inl ⟨replE_none (snoc_none hq hk), .inr ⟨u, hq, hb⟩⟩
    · obtain ⟨k, rfl⟩ : ∃ k : Nat, i = k := ⟨i.toNat, by omega⟩
      have hkl : k < u.kids.length := by omega
      have hk : kidA u (k : Int) = some u.kids[k] := by rw [kidA_nat]; exact List.getElem?_eq_getElem hkl
      have hg : getP (q ++ [(k : Int)]) t = some u.kids[k] := by rw [getP_append, hq]; show getP [(k : Int)] u = _; rw [getP_cons _ _ _ _ hk]; rfl
      have hT : putP x (q ++ [(k : Int)]) t = putP (wth u (u.kids.take k ++ [x] ++ u.kids.drop (k + 1))) q t := by
        rw [put_snoc x hq hk, Int.toNat_natCast]
        congr 1
        have e : u.kids.take k ++ [x] ++ u.kids.drop (k + 1) = u.kids.set k x := by rw [List.set_eq_take_append_cons_drop, if_pos hkl, List.append_assoc]; rfl
        rw [e, wth_len u _ (List.length_set)]
      refine .inr ⟨u, k, hq, rfl, by omega, hT, ?_⟩
      rw [replE_some hg, fitP_snoc _ _ hq]
      have hz2 : sz (putP x (q ++ [(k : Int)]) t) ≤ 1048576 := by have := sz_put x hg; omega
      have ha := get_above x hq hk
      rw [Int.toNat_natCast] at ha
      exact fits_or hz2 ha (i := (k : Int)) (x := x) (by rw [kidA_nat]; exact List.getElem?_set_self hkl) rfl
theorem asks_insert (t x : Tr) (q : List Int) (i : Int) (hz : sz t ≤ 10000) (hx : sz x ≤ 10000) : Asks t q i 0 [x] (insE t (q ++ [i]) x) (insT t (q ++ [i]) x) := by
  cases hq : getP q t with
  | none => exact .inl ⟨insE_none i x hq, .inl hq⟩
  | some u =>
    by_cases hb : i < 0 ∨ (u.kids.length : Int) < i
    · exact .inl ⟨by rw [insE_some i x hq, if_pos hb], .inr ⟨u, hq, by rcases hb with h | h; exact .inl h; right; omega⟩⟩
    · obtain ⟨k, rfl⟩ : ∃ k : Nat, i = k := ⟨i.toNat, by omega⟩
      have hkl : k ≤ u.kids.length := by omega
      have hT : insT t (q ++ [(k : Int)]) x = putP (wth u (insK u.kids k x)) q t := by rw [insT_snoc _ x hq, Int.toNat_natCast]
      refine .inr ⟨u, k, hq, rfl, by omega, ?_, ?_⟩
      · rw [hT, Nat.add_zero, List.append_assoc]; rfl
      · rw [insE_some _ x hq, if_neg hb]
        have hz2 : sz (insT t (q ++ [(k : Int)]) x) ≤ 1048576 := by
          rw [hT]
          have h1 := sz_put (wth u (insK u.kids k x)) hq
          have h2 : sz (wth u (insK u.kids k x)) = szs (insK u.kids k x) + 1 := by unfold wth; rw [sz]
          have h3 := szs_ins u.kids k x
          have h4 := sz_eq u
          omega
        exact fits_or hz2 (u := wth u (insK u.kids k x)) (q := q) (i := (k : Int)) (x := x) (by rw [hT]; exact get_put _ hq) (by rw [kidA_nat]; exact ins_get _ _ _ hkl) rfl
theorem asks_remove (t : Tr) (q : List Int) (i : Int) (hz : sz t ≤ 10000) : Asks t q i 1 [] (remE t (q ++ [i])) (remT t (q ++ [i])) := by
  cases hq : getP q t with
  | none => exact .inl ⟨remE_none (by rw [getP_append, hq]; rfl), .inl hq⟩
  | some u =>
    by_cases hb : i < 0 ∨ (u.kids.length : Int) - (1 : Nat) < i
    · have hk : kidA u i = none := kidA_none (by rcases hb with h | h; exact .inl h; right; omega)
      exact .inl ⟨remE_none (snoc_none hq hk), .inr ⟨u, hq, hb⟩⟩
    · obtain ⟨k, rfl⟩ : ∃ k : Nat, i = k := ⟨i.toNat, by omega⟩
      have hkl : k < u.kids.length := by omega
      have hk : kidA u (k : Int) = some u.kids[k] := by rw [kidA_nat]; exact List.getElem?_eq_getElem hkl
      have hg : getP (q ++ [(k : Int)]) t = some u.kids[k] := by rw [getP_append, hq]; show getP [(k : Int)] u = _; rw [getP_cons _ _ _ _ hk]; rfl
      have hT : remT t (q ++ [(k : Int)]) = putP (wth u (u.kids.eraseIdx k)) q t := by rw [remT_snoc _ hq, Int.toNat_natCast]
      refine .inr ⟨u, k, hq, rfl, by omega, ?_, ?_⟩
      · rw [hT, List.eraseIdx_eq_take_drop_succ, List.append_nil]
      · rw [remE_some (by simp) hg]
        have hz2 : sz (remT t (q ++ [(k : Int)])) ≤ 1048576 := by
          rw [hT]
          have h1 := sz_put (wth u (u.kids.eraseIdx k)) hq
          have h2 : sz (wth u (u.kids.eraseIdx k)) = szs (u.kids.eraseIdx k) + 1 := by unfold wth; rw [sz]
          have h3 := szs_erase u.kids k
          have h4 := sz_eq u
          omega
        rw [chk_rchk _ hz2]
end Go.Proofs.YtpaleolcfhnenaaDoor.Pl
namespace Go.Proofs.YtpaleolcfhnenaaDoor.Rt
open Go.RowKit
set_option linter.unusedVariables false
set_option linter.unusedSimpArgs false
set_option maxRecDepth 100000

theorem chg_any (t : Pl.Tr) (r : Sl) (p : List Int) (pa : Option Addr) (pc : Nat) (cut : Nat) (add : List Pl.Tr) (aa : Option Addr) (ac : Nat) (w1 : World) (hT : Tabs w1) (h : IsT w1 t r) (hp : IsI w1 pa p) (hpc : p.length ≤ pc) (ha : KidsIn (fun b => b < w1.heap.size) w1 aa add) (hcut : cut ≤ 1) (hadd : add.length ≤ 1) (haz : Pl.szs add ≤ 10000) (hz : Pl.sz t ≤ 10000) (E : Int) (T : Pl.Tr)
    (hE : (p = [] ∧ E = 5) ∨ ∃ q i, p = q ++ [i] ∧ Pl.Asks t q i cut add E T) :
    Calls Tryd.prog 42 #[nv t r, .slice pa p.length pc, .int .i64 cut, .slice aa add.length ac] w1 (WelP E T w1) := by
  rcases hE with ⟨rfl, rfl⟩ | ⟨q, i, rfl, hA⟩
  · exact change_nil t r pa pc cut _ T w1
  · rw [List.length_append] at hpc ⊢
    exact change_at t r q i pa pc cut add aa ac w1 hT h hp hpc ha hcut hadd haz hz E T hA
theorem wel_resr {E : Int} {T : Pl.Tr} {w1 w' : World} {e : Ending} (h : WelP E T w1 e w') : ResR E T w1 e w' := by
  obtain ⟨h1, U, r, ht, h2, h3, he⟩ := h
  exact ⟨h1, U, r, ht.keep (Same.refl _ _) (fun b hb => hb.2), h2, h3, he⟩
set_option maxHeartbeats 800000 in
theorem remove_at (t : Pl.Tr) (r : Sl) (p : List Int) (pa : Option Addr) (pc : Nat) (w1 : World) (hT : Tabs w1) (h : IsT w1 t r) (hp : IsI w1 pa p) (hpc : p.length ≤ pc) (hz : Pl.sz t ≤ 10000) :
    Calls Tryd.prog 23 #[nv t r, .slice pa p.length pc] w1 (ResR (Pl.remE t p) (Pl.remT t p) w1) := by
  have hE : (p = [] ∧ Pl.remE t p = 5) ∨ ∃ q i, p = q ++ [i] ∧ Pl.Asks t q i 1 [] (Pl.remE t p) (Pl.remT t p) := by
    rcases List.eq_nil_or_concat p with rfl | ⟨q, i, rfl⟩
    · exact .inl ⟨rfl, rfl⟩
    · rw [List.concat_eq_append]
      exact .inr ⟨q, i, rfl, Pl.asks_remove t q i hz⟩
  have HC := Lib.hid (fun W (hb : Below w1.heap.size w1 W) => chg_any t r p pa pc 1 [] none 0 W (hT.later hb) (h.later hb) (hp.later hb) hpc ⟨Nat.zero_le _, fun _ => ⟨none, 0, none, 0⟩, .inl rfl, fun j u hu => by cases hu⟩ (Nat.le_refl _) (Nat.zero_le _) (Nat.zero_le _) hz _ _ hE)
  generalize Pl.remE t p = E at HC ⊢
  generalize Pl.remT t p = T at HC ⊢
  obtain ⟨n, hn⟩ : ∃ n, n = p.length := ⟨_, rfl⟩
  rw [← hn] at HC ⊢
  obtain ⟨k0, s0, g0, ks0⟩ := t
  obtain ⟨ga0, gc0, da0, dc0⟩ := r
  unfold nv at HC ⊢
  simp only [Pl.Tr.kids, Pl.Tr.gaps, Pl.Tr.text, Pl.Tr.kind, List.length_nil] at HC ⊢
  rw [show ((1 : Nat) : Int) = 1 from rfl] at HC
  clear h hT hz hp hpc hE hn
  obtain ⟨W, hW⟩ : ∃ W, W = (w1.alloc (.cells #[.int .i64 k0, .string s0, .slice ga0 g0.length gc0, .slice da0 ks0.length dc0] 25)).alloc (.cells #[.int .i64 0, .string ⟨#[]⟩, .slice none 0 0, .slice none 0 0] 25) := ⟨_, rfl⟩
  obtain ⟨h1, h2, h3, h4⟩ := two_after (w := w1) (w2 := W) (by rw [← hW]; exact Below.refl _ _)
  obtain ⟨⟨c0, c1, c2, c3⟩, _⟩ := blk_cells h1
  have H2 := Lib.hid h2
  have HB := Lib.hid h3
  have HW := Lib.hid hW
  clear hW h1 h2 h3
  go_enter Tryd.func23, Tryd.ntmps23
  go_upto_region 1 with fail
  rw [← HW.out]
  go_wp2_with (go_at_call 42; refine (HC.out _ HB.out).mono ?_; rintro e w2 ⟨hb2, U, ⟨gz, gcz, dz, dcz⟩, htz, hU1, hU2, rfl⟩; have g2 := blk_keep H2.out hb2; obtain ⟨⟨e0, e1, e2, e3⟩, y0, y1, y2, y3⟩ := blk_cells g2; have HB2 := Lib.hid (HB.out.trans (hb2.mono HB.out.size)); have HTZ := Lib.hid htz; have HU1 := Lib.hid hU1; have HU2 := Lib.hid hU2; clear hb2 g2 htz hU1 hU2)
  have hlow := below_set4 (v0 := .int .i64 U.kind) (v1 := .string U.text) (v2 := .slice gz U.gaps.length gcz) (v3 := .slice dz U.kids.length dcz) HB2.out (show w1.heap.size ≤ w1.heap.size + 1 by omega)
  refine bodyPost_ret (v := .tuple #[.agg #[.int .i64 U.kind, .string U.text, .slice gz U.gaps.length gcz, .slice dz U.kids.length dcz], .int .i64 E]) (by simp [results, Tryd.results23, go_sem, e0, e1, e2, e3]) rfl ⟨hlow, U, ⟨gz, gcz, dz, dcz⟩, ?_, HU1.out, HU2.out, rfl⟩
  refine HTZ.out.keep (fun y hy => heap_set4 ?_) (fun y hy => ?_)
  · have := hy.1; omega
  · have := hy.2; rw [size_set4]; omega
set_option maxHeartbeats 800000 in
theorem insert_at (t x : Pl.Tr) (r rx : Sl) (p : List Int) (pa : Option Addr) (pc : Nat) (w1 : World) (hT : Tabs w1) (h : IsT w1 t r) (hx : IsT w1 x rx) (hp : IsI w1 pa p) (hpc : p.length ≤ pc) (hz : Pl.sz t ≤ 10000) (hxz : Pl.sz x ≤ 10000) :
    Calls Tryd.prog 21 #[nv t r, .slice pa p.length pc, nv x rx] w1 (ResR (Pl.insE t p x) (Pl.insT t p x) w1) := by
  have hE : (p = [] ∧ Pl.insE t p x = 5) ∨ ∃ q i, p = q ++ [i] ∧ Pl.Asks t q i 0 [x] (Pl.insE t p x) (Pl.insT t p x) := by
    rcases List.eq_nil_or_concat p with rfl | ⟨q, i, rfl⟩
    · exact .inl ⟨rfl, rfl⟩
    · rw [List.concat_eq_append]
      exact .inr ⟨q, i, rfl, Pl.asks_insert t x q i hz hxz⟩
  have HC := Lib.hid (fun W (hb : Below w1.heap.size w1 W) aa (ha : KidsIn (fun b => b < W.heap.size) W aa [x]) => chg_any t r p pa pc 0 [x] aa 1 W (hT.later hb) (h.later hb) (hp.later hb) hpc ha (by omega) (Nat.le_refl _) (by simp [Pl.szs]; exact hxz) hz _ _ hE)
  have HX := Lib.hid hx
  generalize Pl.insE t p x = E at HC ⊢
  generalize Pl.insT t p x = T at HC ⊢
  obtain ⟨n, hn⟩ : ∃ n, n = p.length := ⟨_, rfl⟩
  rw [← hn] at HC ⊢
  obtain ⟨kx, sx, gx, ksx⟩ := x
  obtain ⟨gax, gcx, dax, dcx⟩ := rx
  obtain ⟨k0, s0, g0, ks0⟩ := t
  obtain ⟨ga0, gc0, da0, dc0⟩ := r
  unfold nv at HC ⊢
  simp only [Pl.Tr.kids, Pl.Tr.gaps, Pl.Tr.text, Pl.Tr.kind, List.length_nil, List.length_cons, Nat.zero_add] at HC ⊢
  rw [show ((0 : Nat) : Int) = 0 from rfl] at HC
  clear h hT hz hp hpc hE hn hx hxz
  obtain ⟨W, hW⟩ : ∃ W, W = ((w1.alloc (.cells #[.int .i64 k0, .string s0, .slice ga0 g0.length gc0, .slice da0 ks0.length dc0] 25)).alloc (.cells #[.int .i64 kx, .string sx, .slice gax gx.length gcx, .slice dax ksx.length dcx] 25)).alloc (.cells #[.int .i64 0, .string ⟨#[]⟩, .slice none 0 0, .slice none 0 0] 25) := ⟨_, rfl⟩
  obtain ⟨h1, h2, h3, h4, h5⟩ := three_new w1 (.cells #[.int .i64 k0, .string s0, .slice ga0 g0.length gc0, .slice da0 ks0.length dc0] 25) (.cells #[.int .i64 kx, .string sx, .slice gax gx.length gcx, .slice dax ksx.length dcx] 25) (.cells #[.int .i64 0, .string ⟨#[]⟩, .slice none 0 0, .slice none 0 0] 25)
  rw [← hW] at h1 h2 h3 h4 h5
  obtain ⟨⟨c0, c1, c2, c3⟩, _⟩ := blk_cells h1
  obtain ⟨⟨x0, x1, x2, x3⟩, _⟩ := blk_cells h2
  have H3 := Lib.hid h3
  have HB := Lib.hid h4
  have HW := Lib.hid hW
  have H5 := Lib.hid h5
  clear hW h1 h2 h3 h4 h5
  go_enter Tryd.func21, Tryd.ntmps21
  go_upto_region 1 with fail
  rw [← HW.out]
  go_wp2_with (go_at_call 42; refine (HC.out _ (HB.out.trans ((box_below _ _).mono HB.out.size)) (some ⟨W.heap.size, 0, none⟩) (one_kid (r := ⟨gax, gcx, dax, dcx⟩) (new_row W kx sx _ _) (by simp) ((HX.out.later HB.out).later (box_below _ _)))).mono ?_; rintro e w2 ⟨hb2, U, ⟨gz, gcz, dz, dcz⟩, htz, hU1, hU2, rfl⟩; have g2 := blk_keep ((Below.heap_alloc _ _ _ (lt_blk H3.out)).trans H3.out) hb2; obtain ⟨⟨e0, e1, e2, e3⟩, y0, y1, y2, y3⟩ := blk_cells g2; have HB2 := Lib.hid ((HB.out.trans ((box_below _ _).mono HB.out.size)).trans (hb2.mono (by have := HB.out.size; simp; omega))); have HTZ := Lib.hid htz; have HU1 := Lib.hid hU1; have HU2 := Lib.hid hU2; clear hb2 g2 htz hU1 hU2)
  have hlow := below_set4 (v0 := .int .i64 U.kind) (v1 := .string U.text) (v2 := .slice gz U.gaps.length gcz) (v3 := .slice dz U.kids.length dcz) HB2.out (show w1.heap.size ≤ w1.heap.size + 1 + 1 by omega)
  refine bodyPost_ret (v := .tuple #[.agg #[.int .i64 U.kind, .string U.text, .slice gz U.gaps.length gcz, .slice dz U.kids.length dcz], .int .i64 E]) (by simp [results, Tryd.results21, go_sem, e0, e1, e2, e3]) rfl ⟨hlow, U, ⟨gz, gcz, dz, dcz⟩, ?_, HU1.out, HU2.out, rfl⟩
  have hz5 := H5.out
  refine HTZ.out.keep (fun y hy => heap_set4 ?_) (fun y hy => ?_)
  · have := hy.1; simp at this; omega
  · have := hy.2; rw [size_set4]; omega
set_option maxHeartbeats 800000 in
theorem replace_at (t x : Pl.Tr) (r rx : Sl) (p : List Int) (pa : Option Addr) (pc : Nat) (w1 : World) (hT : Tabs w1) (h : IsT w1 t r) (hx : IsT w1 x rx) (hp : IsI w1 pa p) (hpc : p.length ≤ pc) (hz : Pl.sz t ≤ 10000) (hxz : Pl.sz x ≤ 10000) :
    Calls Tryd.prog 19 #[nv t r, .slice pa p.length pc, nv x rx] w1 (ResR (Pl.replE t p x) (Pl.putP x p t) w1) := by
  have HC := Lib.hid (fun W (hb : Below w1.heap.size w1 W) aa (ha : KidsIn (fun b => b < W.heap.size) W aa [x]) q i (hq : p = q ++ [i]) => chg_any t r p pa pc 1 [x] aa 1 W (hT.later hb) (h.later hb) (hp.later hb) hpc ha (by omega) (Nat.le_refl _) (by simp [Pl.szs]; exact hxz) hz (Pl.replE t p x) (Pl.putP x p t) (.inr ⟨q, i, hq, by rw [hq]; exact Pl.asks_replace t x q i hz hxz⟩))
  have HWe := Lib.hid (fun W (hb : Below w1.heap.size w1 W) E (hE : E = if Pl.chk x = 0 then 0 else 7) => well_at x W rx (hT.later hb) (hx.later hb) (by omega) E hE)
  have HX := Lib.hid hx
  have HEn : Hid (p = [] → Pl.replE t p x = (if Pl.chk x = 0 then 0 else 7) ∧ Pl.putP x p t = x) := Lib.hid (by
    rintro rfl
    refine ⟨?_, rfl⟩
    rw [Pl.replE_some (u := t) rfl, Pl.fitP_nil, if_neg (by decide), Pl.chk_rchk x (by omega)]
    rfl)
  obtain ⟨n, hn⟩ : ∃ n, n = p.length := ⟨_, rfl⟩
  have HN := Lib.hid hn
  rw [← hn] at HC ⊢
  generalize Pl.replE t p x = E at HC HEn ⊢
  generalize Pl.putP x p t = T at HC HEn ⊢
  obtain ⟨kx, sx, gx, ksx⟩ := x
  obtain ⟨gax, gcx, dax, dcx⟩ := rx
  obtain ⟨k0, s0, g0, ks0⟩ := t
  obtain ⟨ga0, gc0, da0, dc0⟩ := r
  unfold nv at HC HWe ⊢
  simp only [Pl.Tr.kids, Pl.Tr.gaps, Pl.Tr.text, Pl.Tr.kind, List.length_nil, List.length_cons, Nat.zero_add] at HC HWe ⊢
  rw [show ((1 : Nat) : Int) = 1 from rfl] at HC
  clear h hT hz hp hpc hn hx hxz
  obtain ⟨W, hW⟩ : ∃ W, W = ((w1.alloc (.cells #[.int .i64 k0, .string s0, .slice ga0 g0.length gc0, .slice da0 ks0.length dc0] 25)).alloc (.cells #[.int .i64 kx, .string sx, .slice gax gx.length gcx, .slice dax ksx.length dcx] 25)).alloc (.cells #[.int .i64 0, .string ⟨#[]⟩, .slice none 0 0, .slice none 0 0] 25) := ⟨_, rfl⟩
  obtain ⟨h1, h2, h3, h4, h5⟩ := three_new w1 (.cells #[.int .i64 k0, .string s0, .slice ga0 g0.length gc0, .slice da0 ks0.length dc0] 25) (.cells #[.int .i64 kx, .string sx, .slice gax gx.length gcx, .slice dax ksx.length dcx] 25) (.cells #[.int .i64 0, .string ⟨#[]⟩, .slice none 0 0, .slice none 0 0] 25)
  rw [← hW] at h1 h2 h3 h4 h5
  obtain ⟨⟨c0, c1, c2, c3⟩, _⟩ := blk_cells h1
  obtain ⟨⟨x0, x1, x2, x3⟩, _⟩ := blk_cells h2
  have H3 := Lib.hid h3
  have HB := Lib.hid h4
  have HW := Lib.hid hW
  have H5 := Lib.hid h5
  clear hW h1 h2 h3 h4 h5
  by_cases h0 : n = 0
  · have hp0 : p = [] := List.eq_nil_of_length_eq_zero (by rw [← HN.out]; exact h0)
    obtain ⟨hE, hTx⟩ := HEn.out hp0
    have HE := Lib.hid hE
    have HTx := Lib.hid hTx
    have hn0 : ((n : Int) == 0) = true := by simp [h0]
    clear h0 hp0 hE hTx
    go_enter Tryd.func19, Tryd.ntmps19
    go_upto_region 1 with fail
    rw [← HW.out]
    go_wp2_with (go_at_call 41; refine (HWe.out _ HB.out E HE.out).mono ?_; rintro e w2 ⟨hb2, U, ⟨gz, gcz, dz, dcz⟩, htz, hU1, hU2, rfl⟩; have g2 := blk_keep H3.out hb2; obtain ⟨⟨e0, e1, e2, e3⟩, y0, y1, y2, y3⟩ := blk_cells g2; have HB2 := Lib.hid (HB.out.trans (hb2.mono HB.out.size)); have HTZ := Lib.hid htz; have HU1 := Lib.hid hU1; have HU2 := Lib.hid hU2; clear hb2 g2 htz hU1 hU2)
    have hlow := below_set4 (v0 := .int .i64 U.kind) (v1 := .string U.text) (v2 := .slice gz U.gaps.length gcz) (v3 := .slice dz U.kids.length dcz) HB2.out (show w1.heap.size ≤ w1.heap.size + 1 + 1 by omega)
    refine bodyPost_ret (v := .tuple #[.agg #[.int .i64 U.kind, .string U.text, .slice gz U.gaps.length gcz, .slice dz U.kids.length dcz], .int .i64 E]) (by simp [results, Tryd.results19, go_sem, e0, e1, e2, e3]) rfl ⟨hlow, U, ⟨gz, gcz, dz, dcz⟩, ?_, fun h => by rw [HTx.out]; exact HU1.out h, HU2.out, rfl⟩
    have hz5 := H5.out
    refine HTZ.out.keep (fun y hy => heap_set4 ?_) (fun y hy => ?_)
    · have := hy.1; omega
    · have := hy.2; rw [size_set4]; omega
  · have hqi : ∃ q i, p = q ++ [i] := by
      rcases List.eq_nil_or_concat p with h | ⟨q, i, h⟩
      · rw [h] at HN; exact absurd HN.out h0
      · exact ⟨q, i, by rw [h, List.concat_eq_append]⟩
    obtain ⟨q, i, hqi⟩ := hqi
    have HQI := Lib.hid hqi
    have hn0 : ((n : Int) == 0) = false := by simp; omega
    clear h0 hqi
    go_enter Tryd.func19, Tryd.ntmps19
    go_upto_region 1 with fail
    rw [← HW.out]
    go_wp2_with (go_at_call 42; refine (HC.out _ (HB.out.trans ((box_below _ _).mono HB.out.size)) (some ⟨W.heap.size, 0, none⟩) (one_kid (r := ⟨gax, gcx, dax, dcx⟩) (new_row W kx sx _ _) (by simp) ((HX.out.later HB.out).later (box_below _ _))) q i HQI.out).mono ?_; rintro e w2 ⟨hb2, U, ⟨gz, gcz, dz, dcz⟩, htz, hU1, hU2, rfl⟩; have g2 := blk_keep ((Below.heap_alloc _ _ _ (lt_blk H3.out)).trans H3.out) hb2; obtain ⟨⟨e0, e1, e2, e3⟩, y0, y1, y2, y3⟩ := blk_cells g2; have HB2 := Lib.hid ((HB.out.trans ((box_below _ _).mono HB.out.size)).trans (hb2.mono (by have := HB.out.size; simp; omega))); have HTZ := Lib.hid htz; have HU1 := Lib.hid hU1; have HU2 := Lib.hid hU2; clear hb2 g2 htz hU1 hU2)
    have hlow := below_set4 (v0 := .int .i64 U.kind) (v1 := .string U.text) (v2 := .slice gz U.gaps.length gcz) (v3 := .slice dz U.kids.length dcz) HB2.out (show w1.heap.size ≤ w1.heap.size + 1 + 1 by omega)
    refine bodyPost_ret (v := .tuple #[.agg #[.int .i64 U.kind, .string U.text, .slice gz U.gaps.length gcz, .slice dz U.kids.length dcz], .int .i64 E]) (by simp [results, Tryd.results19, go_sem, e0, e1, e2, e3]) rfl ⟨hlow, U, ⟨gz, gcz, dz, dcz⟩, ?_, HU1.out, HU2.out, rfl⟩
    have hz5 := H5.out
    refine HTZ.out.keep (fun y hy => heap_set4 ?_) (fun y hy => ?_)
    · have := hy.1; simp at this; omega
    · have := hy.2; rw [size_set4]; omega
end Go.Proofs.YtpaleolcfhnenaaDoor.Rt

namespace Go.Proofs.YtpaleolcfhnenaaDoor.Rt
open Go.RowKit
set_option linter.unusedVariables false
set_option linter.unusedSimpArgs false
set_option maxRecDepth 100000

/-- The path of a node, from its end to its beginning, in new memory; or what is left of the index. -/
def TraceP (t : Pl.Tr) (i : Nat) (w1 : World) (e : Ending) (w' : World) : Prop :=
  Below w1.heap.size w1 w' ∧ ((∃ (p : List Int) (n c : Nat) (a : Option Addr), Pl.idxP p t = some i ∧ n = p.length ∧ w'.ownsRow w1.heap.size 3 1 (.slice a n c) n (ints p.reverse) ∧ e = .returned (.tuple #[.slice a n c, .int .i64 (-1)])) ∨
    (∃ m : Nat, m + Pl.sz t = i ∧ e = .returned (.tuple #[.slice none 0 0, .int .i64 m])))
set_option maxHeartbeats 1600000 in
theorem trace_at {P : Nat → Prop} {w : World} {t : Pl.Tr} {r : Sl} (h : Tin P w t r) (hP : ∀ b, P b → b < w.heap.size) : ∀ w1, Same P w w1 → w.heap.size ≤ w1.heap.size → Pl.sz t ≤ 1000000 → ∀ i : Nat, i ≤ 9223372036854775807 →
    Calls Tryd.prog 33 #[nv t r, .int .i64 i] w1 (TraceP t i w1) := by
  obtain ⟨j0, hj0, hy0, hy1, hy2⟩ := info_parts infoI
  unfold nv
  induction h with
  | mk t r R hs hg hl hk hr hcap ih =>
    intro w1 hsame hge hsz i hi
    cases t with
    | node k s g ks =>
      obtain ⟨ga, gc, a, c⟩ := r
      simp only [Pl.Tr.kids, Pl.Tr.gaps, Pl.Tr.text, Pl.Tr.kind] at *
      rw [Pl.sz] at hsz
      unfold maxLen at hl
      rcases Nat.eq_zero_or_pos i with rfl | hi0
      · clear hk hr ih hg hsame
        go_enter Tryd.func33, Tryd.ntmps33
        go_wp2_with fail
        go_ret2
        exact ⟨(Below.refl _ _).alloc (Nat.le_refl _) _, .inl ⟨[], 0, 0, none, rfl, rfl, World.ownsRow_nil _ _ _ _, rfl⟩⟩
      · obtain ⟨n, hn⟩ : ∃ n, n = ks.length := ⟨_, rfl⟩
        rw [← hn] at hl ⊢
        have HN := Lib.hid hn
        have HK := Lib.hid hk
        have HI := Lib.hid ih
        have HS := Lib.hid hsame
        have hz0 : Pl.szs (ks.take 0) = 0 := by simp [Pl.szs]
        have HZ := Lib.hid hz0
        have hib : ((i : Int) == 0) = false := by simp; omega
        clear hn hk hg hr ih hsame hz0 hcap
        go_enter Tryd.func33, Tryd.ntmps33
        go_wp2_with fail
        go_loopw [1, 16] (fun x y wr => ∃ j m : Nat, j ≤ n ∧ y = .int .i64 j ∧ x = .int .i64 m ∧ m + Pl.szs (ks.take j) + 1 = i ∧ Below w1.heap.size w1 wr) (fun _ y _ => n - (intOf y).toNat)
        case atStart => exact ⟨0, i - 1, Nat.zero_le _, rfl, by congr 1; omega, by rw [HZ.out]; omega, (Below.refl _ _).alloc (Nat.le_refl _) _⟩
        case round =>
          obtain ⟨j, m, hj, rfl, rfl, hm, hbel⟩ := hrel
          have HB := Lib.hid hbel
          by_cases hlt : j < n
          · have hjk : j < ks.length := by rw [← HN.out]; exact hlt
            have hu := List.getElem?_eq_getElem hjk
            have hstep := Pl.szs_step ks j hjk
            have HT := Lib.hid (Pl.szs_take ks j hjk)
            have HPK : Hid (∀ p x, Pl.idxP p ks[j] = some x → Pl.idxP ((j : Int) :: p) (.node k s g ks) = some (x + 1 + Pl.szs (ks.take j))) := Lib.hid (fun p x hx => by
              rw [Pl.idxP_cons _ p (.node k s g ks) ks[j] (by rw [Pl.kidA_nat]; exact hu), hx, Int.toNat_natCast]; rfl)
            have hsr : Same P w wr := HS.out.trans (Same.below hbel fun b hb => Nat.lt_of_lt_of_le (hP b hb) hge)
            rcases HK.out with h0 | ⟨b, o, rfl, hb, hat⟩
            · rw [h0] at hjk; simp at hjk
            · have l1 := Lib.hid (At4.keep (hat j _ hu) hsr hb).range
              have HI1 := Lib.hid (HI.out j _ hu)
              generalize ks[j] = u at *
              generalize R j = r1 at *
              obtain ⟨ga1, gc1, da1, dc1⟩ := r1
              have hms : Pl.sz u ≤ 1000000 := by omega
              have hmi : m ≤ 9223372036854775807 := by omega
              have HM := Lib.hid hm
              have HSR := Lib.hid hsr
              have hgr := hbel.size
              have hji : (j : Int) ≤ 9223372036854775807 := by omega
              clear hat hm hu hsr hbel hstep
              go_wp2_with (first
                | (refine wpList_load_mid rfl 25 _ rfl b (o + j * 4) rfl [.int .i64 u.kind, .string u.text, .slice ga1 u.gaps.length gc1, .slice da1 u.kids.length dc1] _ l1.out Tryd.underlying25 rfl sizeN ?_)
                | (go_at_call 33; refine (HI1.out _ (HSR.out.trans (Same.below (box_below _ _) fun b hb => by have := hP b hb; omega)) (by simp; omega) hms m hmi).mono ?_; rintro e w2 ⟨hb2, ⟨p, q, qc, qa, hx, hq, hrow, rfl⟩ | ⟨q, hq, rfl⟩⟩ <;> (have HB2 := Lib.hid (HB.out.trans (((box_below _ _).mono hgr).trans (hb2.mono (by simp; omega)))); have hz2 := hb2.size; simp at hz2; have HQ := Lib.hid hq; clear hb2 l1); first | (have HRow := Lib.hid (hrow.mono (show w1.heap.size ≤ (wr.alloc _).heap.size by simp; omega)); have HXI := Lib.hid hx; have hql : q ≤ 1000000 := (by have := Pl.path_len hx; have := Pl.idx_lt hx; omega); clear hrow hx hq) | clear hq)
                | (have gg := HRow; clear gg; at_builtin; refine wpList_append_lies _ rfl (.tmp 29) (.tmp 31) 26 rfl w1.heap.size 3 j0 _ 1 8 Tryd.underlying26 hj0 hy0 hy1 hy2 rfl (by omega) (.slice qa q qc) q (ints p.reverse) rfl (HRow.out.alloc _) ⟨w2.heap.size, 0, none⟩ 1 1 [.int .i64 j] rfl rfl (news_int w2 _) (by simp [Value.oneCell']) (by omega) (by unfold maxLen; omega) (by omega) (by simp; omega) (w2.heap.size + 1) (by simp) ?_; intro g4 cap4 w4 hown4 hgrow4 hat4 hlt4; have HO4 := Lib.hid hown4; have HB4 := Lib.hid ((HB2.out.alloc (by omega) _).grown hgrow4 (by simp; omega) (fun y hy => (HRow.out.lt y hy).1)); clear hown4 hgrow4 hat4))
              · have HPI := Lib.hid (HPK.out p m HXI.out)
                go_ret2
                refine ⟨HB4.out, .inl ⟨(j : Int) :: p, q + 1, cap4, some ⟨g4, 0, none⟩, ?_, by rw [List.length_cons, HQ.out], ?_, rfl⟩⟩
                · rw [HPI.out]; congr 1; have := HM.out; omega
                · rw [List.reverse_cons, ints_snoc]; exact HO4.out
              · refine ⟨⟨j + 1, q, by omega, by go_num, rfl, by have := HM.out; have := HT.out; have := HQ.out; omega, HB2.out⟩, by simp [intOf]; omega⟩
          · have hjn : j = n := by omega
            subst hjn
            have HRes : Hid (m + Pl.sz (.node k s g ks) = i) := Lib.hid (by rw [HN.out, List.take_length] at hm; rw [Pl.sz]; omega)
            clear hm hbel
            go_wp2_with fail
            go_ret2
            exact ⟨HB.out, .inr ⟨m, HRes.out, rfl⟩⟩
/-- slices.Reverse of a list of the call's own. -/
def RevP (B : Nat) (a : Option Addr) (p : List Int) (w : World) (e : Ending) (w' : World) : Prop := e = .returned (.tuple #[]) ∧ Below B w w' ∧ Ints (fun b => B ≤ b ∧ b < w'.heap.size) w' a p
set_option maxHeartbeats 800000 in
theorem rev_any (p : List Int) (a : Option Addr) (n c B : Nat) (w : World) (h : w.ownsRow B 3 1 (.slice a n c) n (ints p.reverse)) (hn : n = p.length) (hm : n ≤ 1000000) (hB : B ≤ w.heap.size) :
    Calls Tryd.prog 34 #[.slice a n c] w (RevP B a p w) := by
  rcases Nat.eq_zero_or_pos n with h0 | h0
  · subst h0
    obtain rfl : p = [] := List.eq_nil_of_length_eq_zero hn.symm
    refine (Tryd.slices_Reverse_int_empty a c w).mono ?_
    rintro e w' ⟨he, rfl⟩
    exact ⟨he, (Below.refl w'.heap.size w').mono hB, ints_nil _ _ _⟩
  · obtain ⟨g, cap, he, hg, hlt⟩ := h.form h0
    injection he with h1 h2 h3
    subst h1
    subst h3
    have hl : p.reverse.length = n := by rw [List.length_reverse, hn]
    refine (Tryd.slices_Reverse_int_cells g 0 n c p.reverse w (by omega) (by omega) (fun j hj => ?_) (fun j hj => by rw [Nat.zero_add]; exact h.frozenAt j)).mono ?_
    · rw [Nat.zero_add, h.cellAt j (by omega)]
      unfold ints
      rw [List.getElem?_map, List.getD_eq_getElem?_getD, List.getElem?_eq_getElem hj]; rfl
    · rintro e w' ⟨he, q, rfl⟩
      have e1 : (p.reverse.take n).reverse = p := by rw [List.take_of_length_le (by omega), List.reverse_reverse]
      rw [e1]
      obtain ⟨s1, s2, s3, s4, s5⟩ := Ta.wrote_setCells (w.drewN q) g (p.map (Value.int .i64)) 0
      refine ⟨he, ⟨s1, s2, s3, by rw [s4]; exact Nat.le_refl _, fun k hk => s5 k (by omega)⟩, by unfold maxLen; omega, .inr ⟨g, 0, rfl, ⟨hg, by rw [s4]; exact hlt⟩, fun j x hx => ?_⟩⟩
      have hj := (List.getElem?_eq_some_iff.1 hx).1
      have := World.cell?_setCells_in g (p.map (Value.int .i64)) 0 (w.drewN q) (fun y hy => by
        rw [Nat.zero_add]
        show (w.cell? ⟨g, y, none⟩).isSome = true
        rw [List.length_map] at hy
        rw [h.cellAt y (by omega)]
        unfold ints
        rw [List.getElem?_map, List.getElem?_eq_getElem (by rw [hl, hn]; exact hy)]; rfl) j (by rw [List.length_map]; exact hj)
      rw [this, List.getElem_map, (List.getElem?_eq_some_iff.1 hx).2]
set_option maxHeartbeats 1600000 in
theorem of_at (t : Pl.Tr) (r : Sl) (i : Int) (w1 : World) (h : IsT w1 t r) (hi : i ≤ 9223372036854775807) (hz : Pl.sz t ≤ 1000000) :
    Calls Tryd.prog 11 #[nv t r, .int .i64 i] w1 (OfP t i w1) := by
  have HTr := Lib.hid (fun W (hb : Below w1.heap.size w1 W) (n : Nat) (hn : n ≤ 9223372036854775807) => trace_at h (fun _ h => h) W (Same.below hb fun _ h => h) hb.size hz n hn)
  have HZ := Lib.hid hz
  obtain ⟨k0, s0, g0, ks0⟩ := t
  obtain ⟨ga0, gc0, da0, dc0⟩ := r
  unfold nv at HTr ⊢
  simp only [Pl.Tr.kids, Pl.Tr.gaps, Pl.Tr.text, Pl.Tr.kind] at HTr ⊢
  have HBx := Lib.hid (box_below w1 (.cells #[.int .i64 k0, .string s0, .slice ga0 g0.length gc0, .slice da0 ks0.length dc0] 25))
  clear h hz
  by_cases hneg : i < 0
  · go_enter Tryd.func11, Tryd.ntmps11
    go_wp2_with fail
    go_ret2
    exact ⟨HBx.out, .inr ⟨.inl hneg, rfl⟩⟩
  obtain ⟨n, rfl⟩ : ∃ n : Nat, i = n := ⟨i.toNat, by omega⟩
  have hn : n ≤ 9223372036854775807 := by omega
  go_enter Tryd.func11, Tryd.ntmps11
  go_wp2_with (first
    | (go_at_call 33; refine (HTr.out _ HBx.out n hn).mono ?_; rintro e w2 ⟨hb2, ⟨p, q, qc, qa, hx, hq, hrow, rfl⟩ | ⟨q, hq, rfl⟩⟩ <;> (have HB2 := Lib.hid (HBx.out.trans (hb2.mono HBx.out.size)); have hz2 := hb2.size; simp at hz2; have HQ := Lib.hid hq; clear hb2); first | (have HRow := Lib.hid (hrow.mono (show w1.heap.size ≤ (w1.alloc _).heap.size by simp)); have HXI := Lib.hid hx; have hql : q ≤ 1000000 := (by have := Pl.path_len hx; have := Pl.idx_lt hx; have := HZ.out; omega); have HCap := Lib.hid (own_cap hrow); clear hrow hx hq) | clear hq)
    | (have gg := HRow; clear gg; go_at_call 34; refine (rev_any p qa q qc w1.heap.size w2 HRow.out HQ.out hql HB2.out.size).mono ?_; rintro e w3 ⟨rfl, hb3, hI3⟩; have HB3 := Lib.hid (HB2.out.trans hb3); have HI3 := Lib.hid hI3; clear hb3 hI3))
  · go_ret2
    exact ⟨HB3.out, .inl ⟨n, p, qa, qc, rfl, by rw [← HQ.out]; exact HCap.out, HXI.out, HI3.out, by rw [← HQ.out]; rfl⟩⟩
  · go_ret2
    exact ⟨HB2.out, .inr ⟨.inr (by have := HQ.out; omega), rfl⟩⟩
theorem kid_got {P : Nat → Prop} {w : World} {t u : Pl.Tr} {x : Int} {w1 w' : World} {e : Ending} (h : KidP P w t x w1 e w') (hu : Pl.kidA t x = some u) :
    Below w1.heap.size w1 w' ∧ ∃ r : Sl, Tin P w u r ∧ e = .returned (.tuple #[.agg #[.int .i64 u.kind, .string u.text, .slice r.ga u.gaps.length r.gc, .slice r.da u.kids.length r.dc], .bool true]) := by
  obtain ⟨h1, ⟨v, r, hv, ht, he⟩ | ⟨hv, _⟩⟩ := h
  · obtain rfl := Option.some.inj (hu.symm.trans hv)
    exact ⟨h1, r, ht, he⟩
  · rw [hu] at hv; cases hv
theorem kid_non {P : Nat → Prop} {w : World} {t : Pl.Tr} {x : Int} {w1 w' : World} {e : Ending} (h : KidP P w t x w1 e w') (hu : Pl.kidA t x = none) :
    Below w1.heap.size w1 w' ∧ e = .returned (.tuple #[.agg #[.int .i64 0, .string ⟨#[]⟩, .slice none 0 0, .slice none 0 0], .bool false]) := by
  obtain ⟨h1, ⟨v, r, hv, _⟩ | ⟨_, he⟩⟩ := h
  · rw [hu] at hv; cases hv
  · exact ⟨h1, he⟩
set_option maxHeartbeats 1600000 in
theorem index_at (t : Pl.Tr) (r : Sl) (p : List Int) (pa : Option Addr) (pc : Nat) (w1 : World) (h : IsT w1 t r) (hp : IsI w1 pa p) (hz : Pl.sz t ≤ 10000) :
    Calls Tryd.prog 13 #[nv t r, .slice pa p.length pc] w1 (IndexP t p w1) := by
  have hpl := hp.1
  unfold maxLen at hpl
  obtain ⟨n, hn⟩ : ∃ n, n = p.length := ⟨_, rfl⟩
  rw [← hn] at hpl ⊢
  have HN := Lib.hid hn
  have HT := Lib.hid h
  have HPI := Lib.hid hp
  have HZ := Lib.hid hz
  obtain ⟨k0, s0, g0, ks0⟩ := t
  obtain ⟨ga0, gc0, da0, dc0⟩ := r
  unfold nv
  simp only [Pl.Tr.kids, Pl.Tr.gaps, Pl.Tr.text, Pl.Tr.kind]
  clear h hp hz hn
  go_enter Tryd.func13, Tryd.ntmps13
  go_wp2_with fail
  go_loopw [6, 15] (fun xv iv wr => ∃ (k x : Nat) (u : Pl.Tr) (ru : Sl), k ≤ n ∧ iv = .int .i64 k ∧ xv = .int .i64 x ∧ Pl.getP (p.take k) (.node k0 s0 g0 ks0) = some u ∧ Pl.idxP (p.take k) (.node k0 s0 g0 ks0) = some x ∧ IsT w1 u ru ∧ Below w1.heap.size w1 wr ∧
      wr.heap[w1.heap.size]? = some (.cells #[.int .i64 u.kind, .string u.text, .slice ru.ga u.gaps.length ru.gc, .slice ru.da u.kids.length ru.dc] 25 (0, 0))) (fun _ iv _ => n - (intOf iv).toNat)
  case atStart => exact ⟨0, 0, .node k0 s0 g0 ks0, ⟨ga0, gc0, da0, dc0⟩, Nat.zero_le _, rfl, rfl, rfl, rfl, HT.out, (Below.refl _ _).alloc (Nat.le_refl _) _, heap_alloc_new _ _⟩
  case round =>
    obtain ⟨k, x, u, ru, hk, rfl, rfl, hu, hx, htu, hbel, hbox⟩ := hrel
    have HB := Lib.hid hbel
    have HU := Lib.hid hu
    have HXI := Lib.hid hx
    have HBX := Lib.hid hbox
    have HTU := Lib.hid htu
    have hgr := hbel.size
    have hxl : x ≤ 10000 := by have := Pl.idx_lt hx; have := HZ.out; omega
    have hsr : Same (fun b => b < w1.heap.size) w1 wr := Same.below hbel fun _ h => h
    have HKid := Lib.hid (fun y => kidAt_at htu (fun _ h => h) y wr hsr hgr)
    have hsu : Pl.szs u.kids ≤ 10000 := by have := (kids_le hu).1; have := HZ.out; have := Pl.sz_eq u; omega
    have hul : u.kids.length ≤ 10000 := by have := Pl.len_szs u.kids; omega
    have HCapK : Hid (u.kids.length ≤ ru.dc ∧ KidsIn (fun b => b < w1.heap.size) w1 ru.da u.kids) := Lib.hid (by
      cases htu with
      | mk _ _ R a1 a2 a3 a4 a5 a6 => exact ⟨a6, a3, R, a4, a5⟩)
    obtain ⟨gu, gcu, du, dcu⟩ := ru
    unfold nv at HKid
    simp only at HKid hbox HCapK
    obtain ⟨⟨c0, c1, c2, c3⟩, z0, z1, z2, z3⟩ := blk_cells hbox
    clear hu hbel hbox htu hsr hx
    by_cases hlt : k < n
    · have hkp : k < p.length := by rw [← HN.out]; exact hlt
      have hy := List.getElem?_eq_getElem hkp
      have hi0 : (0 : Int) ≤ (k : Int) := Int.natCast_nonneg _
      have hi1 : (k : Int) < (n : Int) := by omega
      rcases HPI.out.2 with h0 | ⟨b1, o1, rfl, hb1, hat1⟩
      · rw [h0] at hkp; simp at hkp
      have cp := (HB.out.cell (p := ⟨b1, o1 + k, none⟩) hb1).trans (hat1 k _ hy)
      have HY := Lib.hid hy
      generalize p[k] = y at *
      clear hat1 hy
      have arm : True := trivial
      cases hka : Pl.kidA u y with
      | none =>
        have HNo : Hid (Pl.idxP p (.node k0 s0 g0 ks0) = none) := Lib.hid (idx_none (get_bad p _ u k y HU.out HY.out hka))
        have HKa := Lib.hid hka
        clear hka
        go_wp2_with (go_at_call 36; refine ((HKid.out y).mono fun e w' h => kid_non h HKa.out).mono ?_; rintro e w2 ⟨hb2, rfl⟩; have HB2 := Lib.hid (HB.out.trans (hb2.mono hgr)); clear hb2)
        go_ret2
        exact ⟨HB2.out.alloc HB2.out.size _, .inr ⟨HNo.out, rfl⟩⟩
      | some v =>
        obtain ⟨a, rfl, hal, hv⟩ := Pl.kidA_some hka
        have hs := Pl.idx_snoc HU.out HXI.out hv
        have HG : Hid (Pl.getP (p.take (k + 1)) (.node k0 s0 g0 ks0) = some v ∧ Pl.idxP (p.take (k + 1)) (.node k0 s0 g0 ks0) = some (x + 1 + Pl.szs (u.kids.take a))) := Lib.hid (by
          rw [List.take_add_one, HY.out]; exact ⟨hs.2, hs.1⟩)
        have HKa := Lib.hid hka
        have ha0 : (0 : Int) ≤ (a : Int) := Int.natCast_nonneg _
        have ha1 : (a : Int) < (u.kids.length : Int) := by omega
        have hadc : (a : Int) ≤ (dcu : Int) := by have := HCapK.out.1; omega
        clear hka hs hv
        go_upto_region 9 with (go_at_call 36; refine ((HKid.out (a : Int)).mono fun e w' h => kid_got h HKa.out).mono ?_; rintro e w2 ⟨hb2, ⟨gv, gcv, dv, dcv⟩, htv, rfl⟩; have g1 := blk_keep HBX.out hb2; clear c0 c1 c2 c3 z0 z1 z2 z3; have HB2 := Lib.hid (HB.out.trans (hb2.mono hgr)); have HTV := Lib.hid htv; have G1 := Lib.hid g1; clear hb2 g1 htv)
        obtain ⟨V, hV⟩ : ∃ V, V = w2.alloc (.cells #[.int .i64 v.kind, .string v.text, .slice gv v.gaps.length gcv, .slice dv v.kids.length dcv] 25) := ⟨_, rfl⟩
        obtain ⟨NB, hNB⟩ : ∃ b, b = w2.heap.size := ⟨_, rfl⟩
        rw [← hV, ← hNB]
        have hbV : Below w2.heap.size w2 V := by rw [hV]; exact box_below _ _
        have v1 := blk_keep G1.out hbV
        have vn : V.heap[NB]? = some (.cells #[.int .i64 v.kind, .string v.text, .slice gv v.gaps.length gcv, .slice dv v.kids.length dcv] 25 (0, 0)) := by rw [hV, hNB]; exact heap_alloc_new _ _
        have HBV := Lib.hid (HB2.out.trans (hbV.mono HB2.out.size))
        have HV1 := Lib.hid v1
        have HVN := Lib.hid vn
        have hlV := HBV.out.size
        have hnb : w1.heap.size < NB := by rw [hNB]; exact lt_blk G1.out
        have hnb2 : w1.heap.size ≠ NB := by omega
        obtain ⟨_, R, hkL, hrL⟩ := HCapK.out.2
        rcases hkL with h0 | ⟨b, o, hda, hb, hat⟩
        · rw [h0] at hal; simp at hal
        try simp only at hda
        subst hda
        have HAT := Lib.hid hat
        have HRL := Lib.hid hrL
        obtain ⟨⟨c0, c1, c2, c3⟩, z0, z1, z2, z3⟩ := blk_cells v1
        clear hV hNB hbV v1 vn hat hrL
        go_wp2_with fail
        obtain ⟨wo, hwo⟩ : ∃ wo, wo = wr := ⟨_, rfl⟩
        subst hwo
        go_loopw [6, 34] (fun xv jv wr => ∃ j : Nat, j ≤ a ∧ jv = .int .i64 j ∧ xv = .int .i64 ((x + 1 + Pl.szs (u.kids.take j) : Nat) : Int) ∧ Below V.heap.size V wr) (fun _ jv _ => a - (intOf jv).toNat)
        case atStart => exact ⟨0, Nat.zero_le _, rfl, by simp [Pl.szs], Below.refl _ _⟩
        case round =>
          obtain ⟨j, hj, rfl, rfl, hbl⟩ := hrel
          have HBL := Lib.hid hbl
          have hgl := hbl.size
          have hst := Pl.szs_take_le u.kids j
          by_cases hjl : j < a
          · have hjk : j < u.kids.length := by omega
            have huj := List.getElem?_eq_getElem hjk
            have HSt := Lib.hid (Pl.szs_take u.kids j hjk)
            have hsl : Same (fun b => b < w1.heap.size) w1 wr := Same.below (HBV.out.trans (hbl.mono hlV)) fun _ h => h
            have l1 := Lib.hid (At4.keep (HAT.out j _ huj) hsl hb).range
            have HTj := Lib.hid (HRL.out j _ huj)
            have hszj := Pl.szs_step u.kids j hjk
            generalize u.kids[j] = uj at *
            generalize R j = r1 at *
            obtain ⟨ga1, gc1, da1, dc1⟩ := r1
            have hsw : Pl.szw uj = (Pl.sz uj : Int) := Pl.szw_eq uj (by omega)
            have HSz := Lib.hid (fun W (hW : Below w1.heap.size w1 W) => size_at uj W ⟨ga1, gc1, da1, dc1⟩ ((show IsT w1 uj ⟨ga1, gc1, da1, dc1⟩ from HTj.out).later hW))
            rw [hsw] at HSz
            have HBW := Lib.hid (HBV.out.trans (hbl.mono hlV))
            obtain ⟨su, hsu2⟩ : ∃ su, su = Pl.sz uj := ⟨_, rfl⟩
            rw [← hsu2] at HSz HSt
            obtain ⟨st, hst2⟩ : ∃ st, st = Pl.szs (u.kids.take j) := ⟨_, rfl⟩
            rw [← hst2] at HSt ⊢
            have hb1' : st ≤ 10000 := by omega
            have hb2' : su ≤ 10000 := by omega
            clear huj hsl hszj hsu2 hst2 hst hsw hbl
            go_wp2_with (first
              | (refine wpList_load_mid rfl 25 _ rfl b (o + j * 4) rfl [.int .i64 uj.kind, .string uj.text, .slice ga1 uj.gaps.length gc1, .slice da1 uj.kids.length dc1] _ l1.out Tryd.underlying25 rfl sizeN ?_)
              | (go_at_call 37; refine (HSz.out _ (HBW.out.trans ((box_below _ _).mono HBW.out.size))).mono ?_; rintro e w4 ⟨rfl, hb4⟩; have HB4 := Lib.hid (HBL.out.trans (((box_below _ _).mono hgl).trans (hb4.mono (by simp; omega)))); clear hb4 l1))
            exact ⟨⟨j + 1, by omega, by go_num, by rw [HSt.out]; congr 1; omega, HB4.out⟩, by simp [intOf]; omega⟩
          · have hja : j = a := by omega
            subst hja
            have g1 := blk_keep HV1.out hbl
            have gn := blk_keep HVN.out hbl
            clear c0 c1 c2 c3 z0 z1 z2 z3
            obtain ⟨⟨c0, c1, c2, c3⟩, z0, z1, z2, z3⟩ := blk_cells g1
            obtain ⟨⟨q0, q1, q2, q3⟩, _⟩ := blk_cells gn
            have HGA := Lib.hid g1
            clear g1 gn hbl
            go_wp2_with fail
            refine ⟨⟨k + 1, _, v, ⟨gv, gcv, dv, dcv⟩, by omega, by go_num, rfl, HG.out.1, HG.out.2, HTV.out, below_set4 (HBV.out.trans (HBL.out.mono hlV)) (Nat.le_refl _), set4_blk HGA.out⟩, by simp [intOf]; omega⟩
    · have hkn : k = n := by omega
      subst hkn
      have HRes : Hid (Pl.idxP p (.node k0 s0 g0 ks0) = some x) := Lib.hid (by have := HXI.out; rw [HN.out, List.take_length] at this; exact this)
      go_wp2_with fail
      go_ret2
      exact ⟨HB.out, .inl ⟨x, HRes.out, rfl⟩⟩
end Go.Proofs.YtpaleolcfhnenaaDoor.Rt
