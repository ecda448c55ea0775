/- The walks of the reference's Ints, Get, Index and Of. -/
import Derived.Test.YtpaleolcfhnenaaDoorRows5
namespace Go.Proofs.YtpaleolcfhnenaaDoor.Rt
open Go.RowKit
set_option linter.unusedVariables false
set_option linter.unusedSimpArgs false

theorem rints_any {P Q : Nat → Prop} {w : World} (a b : Option Addr) (c d : Nat) (xs ys : List Int) (hx : Ints P w a xs) (hy : Ints Q w b ys) :
    Calls Tryd.prog 17 #[.slice a xs.length c, .slice b ys.length d] w fun e w' => e = .returned (.bool (decide (xs = ys))) ∧ Below w.heap.size w w' := by
  have hn1 : xs.length ≤ maxLen := hx.1
  have hn2 : ys.length ≤ maxLen := hy.1
  unfold maxLen at hn1 hn2
  by_cases hl : xs.length = ys.length
  · have HX := Lib.hid hx
    have HY := Lib.hid hy
    have HLen := Lib.hid hl
    clear hx hy
    rw [← hl]
    obtain ⟨n, hn⟩ : ∃ n, n = xs.length := ⟨_, rfl⟩
    have HN := Lib.hid hn
    rw [← hn] at hn1 ⊢
    clear hl hn hn2
    go_enter Tryd.func17, Tryd.ntmps17
    go_wp2_with fail
    go_loopw [5] (fun i wr => ∃ k nq : Nat, k ≤ n ∧ i = .int .i64 k ∧ xs.take k = ys.take k ∧ wr = w.drewN nq) (fun i _ => n - (intOf i).toNat)
    case atStart => exact ⟨0, 0, Nat.zero_le _, rfl, rfl, rfl⟩
    case round =>
      obtain ⟨k, nq, hk, rfl, heq, rfl⟩ := hrel
      have HE := Lib.hid heq
      clear heq
      by_cases hlt : k < n
      · have hkx : k < xs.length := by rw [← HN.out]; exact hlt
        have hky : k < ys.length := by rw [← HLen.out]; exact hkx
        have hgx := List.getElem?_eq_getElem hkx
        have hgy := List.getElem?_eq_getElem hky
        have hi0 : (0 : Int) ≤ (k : Int) := Int.natCast_nonneg _
        have hi1 : (k : Int) < (n : Int) := by omega
        rcases HX.out.2 with h0 | ⟨b1, o1, rfl, _, hat1⟩
        · rw [h0] at hkx; simp at hkx
        · rcases HY.out.2 with h0 | ⟨b2, o2, rfl, _, hat2⟩
          · rw [h0] at hky; simp at hky
          · have c1 := hat1 k _ hgx
            have c2 := hat2 k _ hgy
            have HGX := Lib.hid hgx
            have HGY := Lib.hid hgy
            generalize xs[k] = x at *
            generalize ys[k] = y at *
            clear hat1 hat2 hgx hgy
            by_cases hxy : x = y
            · subst hxy
              have HT := Lib.hid (take_same HE.out HGX.out HGY.out)
              have hb : (x != x) = false := by simp
              go_wp2_with fail
              go_quiet (fail)
              go_wp2_with fail
              exact ⟨⟨k + 1, _, by omega, by go_num, HT.out, rfl⟩, by simp [intOf]; omega⟩
            · have HD := Lib.hid (take_differ HGX.out HGY.out hxy)
              obtain ⟨hb2, hb⟩ := int_ne hxy
              clear hxy
              go_wp2_with fail
              go_quiet (fail)
              go_wp2_with fail
              go_ret
              exact ⟨ret_bool (decide_eq_false HD.out).symm, ⟨rfl, rfl, rfl, Nat.le_refl _, fun _ _ => rfl⟩⟩
      · have hkn : k = n := by omega
        subst hkn
        have HD : Hid (xs = ys) := Lib.hid (by have := HE.out; rw [HN.out, List.take_length] at this; rw [this, HLen.out, List.take_length])
        go_wp2_with fail
        go_ret
        exact ⟨ret_bool (decide_eq_true HD.out).symm, below_drewN _ _⟩
  · have HD := Lib.hid (show xs ≠ ys from fun e => hl (by rw [e]))
    obtain ⟨n, hn⟩ : ∃ n, n = xs.length := ⟨_, rfl⟩
    obtain ⟨m, hm⟩ : ∃ m, m = ys.length := ⟨_, rfl⟩
    rw [← hn, ← hm] at hl ⊢
    have hl2 : ((n : Int) == (m : Int)) = false := by simpa using fun h : (n : Int) = m => hl (by omega)
    have hl3 : ((n : Int) != (m : Int)) = true := by simpa using fun h : (n : Int) = m => hl (by omega)
    clear hn hm hx hy hl
    go_enter Tryd.func17, Tryd.ntmps17
    go_wp2_with fail
    go_ret
    exact ⟨ret_bool (decide_eq_false HD.out).symm, Below.refl _ _⟩

/-- A node as a value. -/
def nv (t : Pl.Tr) (r : Sl) : Value := .agg #[.int .i64 t.kind, .string t.text, .slice r.ga t.gaps.length r.gc, .slice r.da t.kids.length r.dc]
def zv : Value := .agg #[.int .i64 0, .string ⟨#[]⟩, .slice none 0 0, .slice none 0 0]
/-- The node at a path, as it lies, or none. -/
def GetP (P : Nat → Prop) (w : World) (t : Pl.Tr) (p : List Int) (w1 : World) (e : Ending) (w' : World) : Prop :=
  Below w1.heap.size w1 w' ∧ ((∃ u r, Pl.getP p t = some u ∧ Tin P w u r ∧ e = .returned (.tuple #[.agg #[.int .i64 u.kind, .string u.text, .slice r.ga u.gaps.length r.gc, .slice r.da u.kids.length r.dc], .int .i64 0])) ∨ (Pl.getP p t = none ∧ e = .returned (.tuple #[.agg #[.int .i64 0, .string ⟨#[]⟩, .slice none 0 0, .slice none 0 0], .int .i64 5])))
theorem get_take (p : List Int) (t u : Pl.Tr) (k : Nat) (x : Int) (h : Pl.getP (p.take k) t = some u) (hx : p[k]? = some x) : Pl.getP (p.take (k + 1)) t = (Pl.kidA u x) := by
  rw [List.take_add_one, hx]
  show Pl.getP (p.take k ++ [x]) t = _
  rw [Pl.getP_append, h]
  show Pl.getP [x] u = _
  cases hk : Pl.kidA u x with
  | none => exact Pl.getP_stop x [] u hk
  | some v => rw [Pl.getP_cons x [] u v hk]; rfl
theorem get_bad (p : List Int) (t u : Pl.Tr) (k : Nat) (x : Int) (h : Pl.getP (p.take k) t = some u) (hx : p[k]? = some x) (hn : Pl.kidA u x = none) : Pl.getP p t = none := by
  have e := get_take p t u k x h hx
  rw [hn] at e
  rw [← List.take_append_drop (k + 1) p, Pl.getP_append, e]
  rfl
theorem set4_blk {w : World} {b : Nat} {x0 x1 x2 x3 v0 v1 v2 v3 : Value} {T : TypeId} (h : w.heap[b]? = some (.cells #[x0, x1, x2, x3] T (0, 0))) :
    ((((w.setCell ⟨b, 0, none⟩ v0).setCell ⟨b, 1, none⟩ v1).setCell ⟨b, 2, none⟩ v2).setCell ⟨b, 3, none⟩ v3).heap[b]? = some (.cells #[v0, v1, v2, v3] T (0, 0)) := by
  simp [World.setCell, Array.getElem?_modify, h]
theorem size_set4 {w : World} {b : Nat} {v0 v1 v2 v3 : Value} : ((((w.setCell ⟨b, 0, none⟩ v0).setCell ⟨b, 1, none⟩ v1).setCell ⟨b, 2, none⟩ v2).setCell ⟨b, 3, none⟩ v3).heap.size = w.heap.size := by simp
set_option maxHeartbeats 1600000 in
theorem rget_at {P Q : Nat → Prop} {w : World} {t : Pl.Tr} {r : Sl} (h : Tin P w t r) (hP : ∀ b, P b → b < w.heap.size) (p : List Int) (pa : Option Addr) (pc : Nat) (hp : Ints Q w pa p) (hQ : ∀ b, Q b → b < w.heap.size)
    (w1 : World) (hsame : Same P w w1) (hsq : Same Q w w1) (hge : w.heap.size ≤ w1.heap.size) :
    Calls Tryd.prog 16 #[nv t r, .slice pa p.length pc] w1 (GetP P w t p w1) := by
  have hpl := hp.1
  unfold maxLen at hpl
  obtain ⟨n, hn⟩ : ∃ n, n = p.length := ⟨_, rfl⟩
  rw [← hn] at hpl ⊢
  have HN := Lib.hid hn
  have HT := Lib.hid h
  have HPI := Lib.hid hp
  have HS := Lib.hid hsame
  have HSQ := Lib.hid hsq
  obtain ⟨k0, s0, g0, ks0⟩ := t
  obtain ⟨ga0, gc0, da0, dc0⟩ := r
  unfold nv
  simp only [Pl.Tr.kids, Pl.Tr.gaps, Pl.Tr.text, Pl.Tr.kind]
  clear h hp hsame hsq hn
  go_enter Tryd.func16, Tryd.ntmps16
  go_wp2_with fail
  go_loopw [6] (fun i wr => ∃ (k : Nat) (u : Pl.Tr) (ru : Sl), k ≤ n ∧ i = .int .i64 k ∧ Pl.getP (p.take k) (.node k0 s0 g0 ks0) = some u ∧ Tin P w u ru ∧ Below w1.heap.size w1 wr ∧ w1.heap.size + 1 < wr.heap.size ∧
      wr.heap[w1.heap.size]? = some (.cells #[.int .i64 u.kind, .string u.text, .slice ru.ga u.gaps.length ru.gc, .slice ru.da u.kids.length ru.dc] 25 (0, 0)) ∧
      wr.heap[w1.heap.size + 1]? = some (.cells #[.int .i64 0, .string ⟨#[]⟩, .slice none 0 0, .slice none 0 0] 25 (0, 0))) (fun i _ => n - (intOf i).toNat)
  case atStart =>
    obtain ⟨h1, h2, h3, h4⟩ := two_after (w := w1) (o1 := .cells #[.int .i64 k0, .string s0, .slice ga0 g0.length gc0, .slice da0 ks0.length dc0] 25) (o2 := .cells #[.int .i64 0, .string ⟨#[]⟩, .slice none 0 0, .slice none 0 0] 25) (Below.refl _ _)
    exact ⟨0, .node k0 s0 g0 ks0, ⟨ga0, gc0, da0, dc0⟩, Nat.zero_le _, rfl, rfl, HT.out, h3, h4, h1, h2⟩
  case round =>
    obtain ⟨k, u, ru, hk, rfl, hu, htu, hbel, hgt, hbox, hres⟩ := hrel
    have HB := Lib.hid hbel
    have HU := Lib.hid hu
    have HTU := Lib.hid htu
    have HBX := Lib.hid hbox
    have HRS := Lib.hid hres
    have hlk : u.kids.length ≤ maxLen := by cases htu with | mk _ _ R _ _ hl _ _ => exact hl
    unfold maxLen at hlk
    obtain ⟨⟨c0, c1, c2, c3⟩, z0, z1, z2, z3⟩ := blk_cells hbox
    obtain ⟨⟨e0, e1, e2, e3⟩, y0, y1, y2, y3⟩ := blk_cells hres
    clear hu hbel hbox hres htu
    by_cases hlt : k < n
    · have hkp : k < p.length := by rw [← HN.out]; exact hlt
      have hx := List.getElem?_eq_getElem hkp
      have hi0 : (0 : Int) ≤ (k : Int) := Int.natCast_nonneg _
      have hi1 : (k : Int) < (n : Int) := by omega
      rcases HPI.out.2 with h0 | ⟨b1, o1, rfl, hb1, hat1⟩
      · rw [h0] at hkp; simp at hkp
      have cp := ((HSQ.out.trans (Same.below HB.out fun b hb => Nat.lt_of_lt_of_le (hQ b hb) hge)).cell hb1).trans (hat1 k _ hx)
      have HX := Lib.hid hx
      generalize p[k] = x at *
      clear hat1 hx
      by_cases hneg : x < 0
      · have HNo : Hid (Pl.getP p (.node k0 s0 g0 ks0) = none) := Lib.hid (get_bad p _ u k x HU.out HX.out (Pl.kidA_none (.inl hneg)))
        go_wp2_with fail
        go_quiet (fail)
        go_wp2_with fail
        exact bodyPost_ret (v := .tuple #[zv, .int .i64 5]) (by have dd : ∀ a, (wr.drewN nq).cell? a = wr.cell? a := fun _ => rfl; simp [results, Tryd.results16, go_sem, dd, e0, e1, e2, e3, zv]) rfl ⟨below_set4 (HB.out.trans ((below_drewN _ _).mono HB.out.size)) (by omega), .inr ⟨HNo.out, rfl⟩⟩
      by_cases hbig : (u.kids.length : Int) ≤ x
      · have HNo : Hid (Pl.getP p (.node k0 s0 g0 ks0) = none) := Lib.hid (get_bad p _ u k x HU.out HX.out (Pl.kidA_none (.inr hbig)))
        go_wp2_with fail
        go_quiet (fail)
        go_wp2_with fail
        exact bodyPost_ret (v := .tuple #[zv, .int .i64 5]) (by have dd : ∀ a, (wr.drewN nq).cell? a = wr.cell? a := fun _ => rfl; simp [results, Tryd.results16, go_sem, dd, e0, e1, e2, e3, zv]) rfl ⟨below_set4 (HB.out.trans ((below_drewN _ _).mono HB.out.size)) (by omega), .inr ⟨HNo.out, rfl⟩⟩
      obtain ⟨a, rfl⟩ : ∃ a : Nat, x = a := ⟨x.toNat, by omega⟩
      have hal : a < u.kids.length := by omega
      have hv := List.getElem?_eq_getElem hal
      have htu := HTU.out
      obtain ⟨gu, gcu, du, dcu⟩ := ru
      cases htu with
      | mk _ _ R hs hg hl hkL hr =>
        rcases hkL with h0 | ⟨b, o, hda, hb, hat⟩
        · rw [h0] at hal; simp at hal
        simp only at hda
        subst hda
        obtain ⟨d0, d1, d2, d3⟩ := At4.keep (hat a _ hv) (HS.out.trans (Same.below HB.out fun b hb => Nat.lt_of_lt_of_le (hP b hb) hge)) hb
        have HV := Lib.hid hv
        have HR := Lib.hid (hr a _ hv)
        have HG : Hid (Pl.getP (p.take (k + 1)) (.node k0 s0 g0 ks0) = some u.kids[a]) := Lib.hid (by rw [get_take p _ u k a HU.out HX.out, Pl.kidA_nat]; exact hv)
        generalize u.kids[a] = v at *
        generalize R a = rv at *
        obtain ⟨gv, gcv, dv, dcv⟩ := rv
        simp only at d0 d1 d2 d3
        have ha0 : (0 : Int) ≤ (a : Int) := Int.natCast_nonneg _
        have ha1 : (a : Int) < (u.kids.length : Int) := by omega
        clear hat hv hs hg hl hr
        go_wp2_with fail
        go_quiet (fail)
        go_wp2_with fail
        go_region
        go_wp2_with fail
        refine ⟨⟨k + 1, v, ⟨gv, gcv, dv, dcv⟩, by omega, by go_num, HG.out, HR.out, below_set4 (HB.out.trans ((below_drewN _ _).mono HB.out.size)) (Nat.le_refl _), by rw [size_set4]; exact hgt, ?_, ?_⟩, by simp [intOf]; omega⟩
        · exact set4_blk (w := wr.drewN (nq + 1)) HBX.out
        · exact (heap_set4 (by omega)).trans HRS.out
    · have hkn : k = n := by omega
      subst hkn
      have HRes : Hid (Pl.getP p (.node k0 s0 g0 ks0) = some u) := Lib.hid (by have := HU.out; rw [HN.out, List.take_length] at this; exact this)
      go_wp2_with fail
      exact bodyPost_ret (v := .tuple #[nv u ru, .int .i64 0]) (by simp [results, Tryd.results16, go_sem, e0, e1, e2, e3, nv]) rfl ⟨below_set4 HB.out (by omega), .inl ⟨u, ru, HRes.out, HTU.out, rfl⟩⟩
end Go.Proofs.YtpaleolcfhnenaaDoor.Rt
