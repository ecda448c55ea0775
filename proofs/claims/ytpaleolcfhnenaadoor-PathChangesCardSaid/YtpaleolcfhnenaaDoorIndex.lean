/- The walk of the reference's Index. -/
import Derived.Test.YtpaleolcfhnenaaDoorGet
namespace Go.Proofs.YtpaleolcfhnenaaDoor.Rt
open Go.RowKit
set_option linter.unusedVariables false
set_option linter.unusedSimpArgs false

/-- The index of the node at a path, or none. -/
def IndexP (t : Pl.Tr) (p : List Int) (w1 : World) (e : Ending) (w' : World) : Prop :=
  Below w1.heap.size w1 w' ∧ ((∃ x : Nat, Pl.idxP p t = some x ∧ e = .returned (.tuple #[.int .i64 x, .bool true])) ∨ (Pl.idxP p t = none ∧ e = .returned (.tuple #[.int .i64 0, .bool false])))
theorem below_dN {B : Nat} {w w' : World} (h : Below B w w') (n : Nat) : Below B w (w'.drewN n) := ⟨h.os, h.tape, h.output, h.size, h.block⟩
theorem idx_none {p : List Int} {t : Pl.Tr} (h : Pl.getP p t = none) : Pl.idxP p t = none := by
  have := Pl.get_idx p t
  rw [h] at this
  exact Option.not_isSome_iff_eq_none.1 (by rw [← this]; simp)
/-- What a table's row of the node at a path says. -/
theorem row_at {Q : Nat → Prop} {w : World} {a : Option Addr} {R : Nat → Sl} {t u : Pl.Tr} {p : List Int} {x : Nat} (h : TabIn Q w a (Pl.tab t 0 (-1)) R) (hu : Pl.getP p t = some u) (hx : Pl.idxP p t = some x) :
    ∃ b o, a = some ⟨b, o, none⟩ ∧ Q b ∧ ∃ q : Int, At5 w b (o + x * 5) (Pl.rowOf q u x) (R x) ∧ Ints Q w (R x).da (Pl.kidx u.kids (x + 1)) ∧ (p = [] ∧ q = -1 ∨ ∃ (p' : List Int) (k y : Nat), p = p' ++ [(k : Int)] ∧ Pl.idxP p' t = some y ∧ q = (y : Int)) := by
  obtain ⟨q, h1, h2⟩ := Pl.row_path hu hx 0 (-1)
  rw [Nat.zero_add] at h1
  obtain ⟨_, h3, h4⟩ := h
  rcases h3 with h0 | ⟨b, o, rfl, hb, hat⟩
  · rw [h0] at h1; simp at h1
  refine ⟨b, o, rfl, hb, q, hat x _ h1, (h4 x _ h1).2.2, ?_⟩
  rcases h2 with h2 | ⟨p', k, y, e1, e2, e3⟩
  · exact .inl h2
  · exact .inr ⟨p', k, y, e1, e2, by rw [e3, Nat.zero_add]⟩
set_option maxHeartbeats 1600000 in
theorem rindex_at {P Q : Nat → Prop} {w : World} {t : Pl.Tr} {r : Sl} (h : Tin P w t r) (hP : ∀ b, P b → b < w.heap.size) (p : List Int) (pa : Option Addr) (pc : Nat) (hp : Ints Q w pa p) (hQ : ∀ b, Q b → b < w.heap.size)
    (w1 : World) (hsame : Same P w w1) (hsq : Same Q w w1) (hge : w.heap.size ≤ w1.heap.size) (hsz : Pl.sz t ≤ 1000000) :
    Calls Tryd.prog 14 #[nv t r, .slice pa p.length pc] w1 (IndexP t p w1) := by
  have hpl := hp.1
  unfold maxLen at hpl
  obtain ⟨n, hn⟩ : ∃ n, n = p.length := ⟨_, rfl⟩
  rw [← hn] at hpl ⊢
  have HN := Lib.hid hn
  have HPI := Lib.hid hp
  have HSQ := Lib.hid hsq
  have HA := Lib.hid (fun o => rrowsR_at h hP (w1.alloc o) (same_box hsame hP hge) (by simp; omega) hsz)
  obtain ⟨ga0, gc0, da0, dc0⟩ := r
  unfold nv
  simp only at HA ⊢
  clear h hp hsame hsq hn
  go_enter Tryd.func14, Tryd.ntmps14
  go_wp2_with (go_at_call 35; refine (HA.out _).mono ?_; rintro e w2 ⟨ra, rc, RR, rfl, ht, hb2⟩; have HT := Lib.hid ht; have HB2 := Lib.hid hb2; clear ht hb2)
  obtain ⟨L, hL⟩ : ∃ L, L = (Pl.tab t 0 (-1)).length := ⟨_, rfl⟩
  rw [← hL]
  have HLs : Hid (L = Pl.sz t) := Lib.hid (by rw [hL, Pl.tab_len])
  have hLm : L ≤ 1000000 := by rw [HLs.out]; exact hsz
  clear hL hsz
  go_loopw [7, 8] (fun at' i wr => ∃ (k x : Nat) (u : Pl.Tr) (nq : Nat), k ≤ n ∧ i = .int .i64 k ∧ at' = .int .i64 x ∧ Pl.getP (p.take k) t = some u ∧ Pl.idxP (p.take k) t = some x ∧ wr = w2.drewN nq) (fun _ i _ => n - (intOf i).toNat)
  case atStart => exact ⟨0, 0, t, 0, Nat.zero_le _, rfl, rfl, rfl, rfl, rfl⟩
  case round =>
    obtain ⟨k, x, u, nq, hk, rfl, rfl, hu, hx, rfl⟩ := hrel
    have HU := Lib.hid hu
    have HXI := Lib.hid hx
    have hxl : x < L := by rw [HLs.out]; exact Pl.idx_lt hx
    clear hu hx
    by_cases hlt : k < n
    · have hkp : k < p.length := by rw [← HN.out]; exact hlt
      have hy := List.getElem?_eq_getElem hkp
      have hi0 : (0 : Int) ≤ (k : Int) := Int.natCast_nonneg _
      have hi1 : (k : Int) < (n : Int) := by omega
      rcases HPI.out.2 with h0 | ⟨b1, o1, rfl, hb1, hat1⟩
      · rw [h0] at hkp; simp at hkp
      have hgr := HB2.out.size
      simp at hgr
      have hbl : b1 < w1.heap.size := by have := hQ b1 hb1; omega
      have cp : w2.cell? ⟨b1, o1 + k, none⟩ = some (.int .i64 p[k]) := (HB2.out.cell (p := ⟨b1, o1 + k, none⟩) (Nat.lt_of_lt_of_le hbl (by simp))).trans ((World.cell?_of_block (w := w1) (a := ⟨b1, o1 + k, none⟩) (Below.heap_alloc _ _ _ (by have := hQ b1 hb1; omega))).trans ((HSQ.out.cell hb1).trans (hat1 k _ hy)))
      have HY := Lib.hid hy
      generalize p[k] = y at *
      clear hat1 hy
      obtain ⟨tb, ro, rfl, htb, q, h5, hki, _⟩ := row_at HT.out HU.out HXI.out
      obtain ⟨_, _, _, _, r4⟩ := h5.cells
      have hkl : (Pl.rowOf q u x).kids.length = u.kids.length := Pl.kidx_len _ _
      rw [hkl] at r4
      have hlk : u.kids.length ≤ maxLen := by have := hki.1; rw [Pl.kidx_len] at this; exact this
      unfold maxLen at hlk
      have hx0 : (0 : Int) ≤ (x : Int) := Int.natCast_nonneg _
      have hx1 : (x : Int) < (L : Int) := by omega
      generalize RR x = rx at *
      obtain ⟨_, _, ka, kc⟩ := rx
      simp only at r4 hki
      have HKI := Lib.hid hki
      clear h5 hki hkl
      by_cases hneg : y < 0
      · have HNo : Hid (Pl.idxP p t = none) := Lib.hid (idx_none (get_bad p t u k y HU.out HY.out (Pl.kidA_none (.inl hneg))))
        go_wp2_with fail
        go_quiet (fail)
        go_wp2_with fail
        go_ret2
        exact ⟨below_dN (below_dN (((Below.refl _ _).alloc (Nat.le_refl _) _).trans (HB2.out.mono (by simp))) _) _, .inr ⟨HNo.out, rfl⟩⟩
      by_cases hbig : (u.kids.length : Int) ≤ y
      · have HNo : Hid (Pl.idxP p t = none) := Lib.hid (idx_none (get_bad p t u k y HU.out HY.out (Pl.kidA_none (.inr hbig))))
        go_wp2_with fail
        go_quiet (fail)
        go_wp2_with fail
        go_ret2
        exact ⟨below_dN (below_dN (((Below.refl _ _).alloc (Nat.le_refl _) _).trans (HB2.out.mono (by simp))) _) _, .inr ⟨HNo.out, rfl⟩⟩
      obtain ⟨a, rfl⟩ : ∃ a : Nat, y = a := ⟨y.toNat, by omega⟩
      have hal : a < u.kids.length := by omega
      have hv := List.getElem?_eq_getElem hal
      have hs := Pl.idx_snoc HU.out HXI.out hv
      have HG : Hid (Pl.getP (p.take (k + 1)) t = some u.kids[a] ∧ Pl.idxP (p.take (k + 1)) t = some (x + 1 + Pl.szs (u.kids.take a))) := Lib.hid (by
        rw [List.take_add_one, HY.out]; exact ⟨hs.2, hs.1⟩)
      have hkg := Pl.kidx_get u.kids (x + 1) a hal
      rcases HKI.out.2 with h0 | ⟨kb, ko, rfl, hkb, hatk⟩
      · rw [h0] at hkg; simp at hkg
      have ck := hatk a _ hkg
      generalize u.kids[a] = v at *
      generalize x + 1 + Pl.szs (u.kids.take a) = x' at *
      have ha0 : (0 : Int) ≤ (a : Int) := Int.natCast_nonneg _
      have ha1 : (a : Int) < (u.kids.length : Int) := by omega
      clear hatk hkg hs hv
      go_wp2_with fail
      go_quiet (fail)
      go_wp2_with fail
      go_quiet (fail)
      go_wp2_with fail
      exact ⟨⟨k + 1, x', v, _, by omega, by go_num, rfl, HG.out.1, HG.out.2, rfl⟩, by simp [intOf]; omega⟩
    · have hkn : k = n := by omega
      subst hkn
      have HRes : Hid (Pl.idxP p t = some x) := Lib.hid (by have := HXI.out; rw [HN.out, List.take_length] at this; exact this)
      go_wp2_with fail
      go_ret2
      exact ⟨below_dN (((Below.refl _ _).alloc (Nat.le_refl _) _).trans (HB2.out.mono (by simp))) _, .inl ⟨x, HRes.out, rfl⟩⟩
end Go.Proofs.YtpaleolcfhnenaaDoor.Rt
