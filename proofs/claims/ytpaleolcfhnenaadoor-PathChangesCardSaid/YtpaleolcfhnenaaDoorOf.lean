/- The walk of the reference's Of. -/
import Derived.Test.YtpaleolcfhnenaaDoorIndex
namespace Go.Proofs.YtpaleolcfhnenaaDoor.Rt
open Go.RowKit
set_option linter.unusedVariables false
set_option linter.unusedSimpArgs false

/-- The path of the node with an index, in new memory, or none. -/
def OfP (t : Pl.Tr) (i : Int) (w1 : World) (e : Ending) (w' : World) : Prop :=
  Below w1.heap.size w1 w' ∧ ((∃ (n : Nat) (p : List Int) (a : Option Addr) (c : Nat), i = n ∧ p.length ≤ c ∧ Pl.idxP p t = some n ∧ Ints (fun b => w1.heap.size ≤ b ∧ b < w'.heap.size) w' a p ∧ e = .returned (.tuple #[.slice a p.length c, .bool true])) ∨
    ((i < 0 ∨ (Pl.sz t : Int) ≤ i) ∧ e = .returned (.tuple #[.slice none 0 0, .bool false])))
theorem ints_own {w : World} {B n c : Nat} {a : Option Addr} {xs : List Int} (h : w.ownsRow B 3 1 (.slice a n c) n (ints xs)) (hn : n = xs.length) (hm : n ≤ 1000000) : Ints (fun b => B ≤ b ∧ b < w.heap.size) w a xs := by
  refine ⟨by unfold maxLen; omega, ?_⟩
  rcases Nat.eq_zero_or_pos n with h0 | h0
  · left; exact List.eq_nil_of_length_eq_zero (by omega)
  · obtain ⟨g, cap, he, hg, hlt⟩ := h.form h0
    injection he with h1 h2 h3
    subst h1
    refine .inr ⟨g, 0, rfl, ⟨hg, hlt⟩, fun j x hx => ?_⟩
    have hj := (List.getElem?_eq_some_iff.1 hx).1
    rw [h3] at h
    rw [Nat.zero_add, h.cellAt j (by omega)]
    unfold ints
    rw [List.getElem?_map, hx]; rfl
theorem own_cap {w : World} {B n c size : Nat} {e : TypeId} {a : Option Addr} {xs : List Value} (h : w.ownsRow B e size (.slice a n c) n xs) : n ≤ c := by
  rcases h.2 with ⟨h1, h2⟩ | ⟨g, cap, cur, h1, _, _, h5, _⟩
  · injection h1 with _ h3 h4; omega
  · injection h1 with _ _ h4; omega
theorem ints_snoc (xs : List Int) (x : Int) : ints (xs ++ [x]) = ints xs ++ [.int .i64 x] := by simp [ints]
/-- The row above a node's own row, and the node's place in it. -/
theorem row_above {Q : Nat → Prop} {w : World} {a : Option Addr} {R : Nat → Sl} {t : Pl.Tr} {q : List Int} {x : Nat} (h : TabIn Q w a (Pl.tab t 0 (-1)) R) (hx : Pl.idxP q t = some x) (h0 : 0 < x) :
    ∃ (b o : Nat) (p' : List Int) (k y : Nat) (u : Pl.Tr), a = some ⟨b, o, none⟩ ∧ q = p' ++ [(k : Int)] ∧ Pl.idxP p' t = some y ∧ k < u.kids.length ∧ x = y + 1 + Pl.szs (u.kids.take k) ∧ w.cell? ⟨b, o + x * 5, none⟩ = some (.int .i64 y) ∧
      w.cell? ⟨b, o + y * 5 + 4, none⟩ = some (.slice (R y).da u.kids.length (R y).dc) ∧ Ints Q w (R y).da (Pl.kidx u.kids (y + 1)) := by
  obtain ⟨v, hv⟩ := Pl.get_of_idx hx
  obtain ⟨b, o, rfl, hb, pr, h5, _, hpar⟩ := row_at h hv hx
  rcases hpar with ⟨rfl, _⟩ | ⟨p', k, y, rfl, hy, rfl⟩
  · rw [Pl.idxP, Option.some.injEq] at hx; omega
  obtain ⟨u, hu, hk⟩ := Pl.get_snoc hv
  obtain ⟨k2, e, hkl, hk3⟩ := Pl.kidA_some hk
  have e2 : k2 = k := by omega
  subst e2
  have hs := (Pl.idx_snoc hu hy hk3).1
  have hxe : x = y + 1 + Pl.szs (u.kids.take k2) := Option.some.inj (hx.symm.trans hs)
  obtain ⟨b2, o2, e3, _, pr2, g5, gk, _⟩ := row_at h hu hy
  obtain ⟨rfl, rfl⟩ : b2 = b ∧ o2 = o := by injection e3 with e3; injection e3 with e4 e5; exact ⟨e4.symm, e5.symm⟩
  obtain ⟨r0, _⟩ := h5.cells
  obtain ⟨_, _, _, _, r4⟩ := g5.cells
  rw [show (Pl.rowOf pr2 u y).kids.length = u.kids.length from Pl.kidx_len _ _] at r4
  exact ⟨b2, o2, p', k2, y, u, rfl, rfl, hy, hkl, hxe, r0, r4, gk⟩
set_option maxHeartbeats 3200000 in
theorem rof_at {P : Nat → Prop} {w : World} {t : Pl.Tr} {r : Sl} (h : Tin P w t r) (hP : ∀ b, P b → b < w.heap.size) (i : Int) (hi : i ≤ 9223372036854775807)
    (w1 : World) (hsame : Same P w w1) (hge : w.heap.size ≤ w1.heap.size) (hsz : Pl.sz t ≤ 1000000) :
    Calls Tryd.prog 12 #[nv t r, .int .i64 i] w1 (OfP t i w1) := by
  obtain ⟨j0, hj0, hy0, hy1, hy2⟩ := info_parts infoI
  have HA := Lib.hid (fun o => rrowsR_at h hP (w1.alloc o) (same_box hsame hP hge) (by simp; omega) hsz)
  have HSZ := Lib.hid hsz
  obtain ⟨ga0, gc0, da0, dc0⟩ := r
  unfold nv
  simp only at HA ⊢
  obtain ⟨L, hL⟩ : ∃ L, L = (Pl.tab t 0 (-1)).length := ⟨_, rfl⟩
  have HL := Lib.hid hL
  have HLs : Hid (L = Pl.sz t) := Lib.hid (by rw [hL, Pl.tab_len])
  have hLm : L ≤ 1000000 := by rw [HLs.out]; exact hsz
  have HLow := Lib.hid (fun o => (show Below w1.heap.size w1 (w1.alloc o) from (Below.refl _ _).alloc (Nat.le_refl _) _))
  clear h hsame hsz hL
  by_cases hneg : i < 0
  · go_enter Tryd.func12, Tryd.ntmps12
    go_wp2_with (go_at_call 35; refine (HA.out _).mono ?_; rintro e w2 ⟨ra, rc, RR, rfl, ht, hb2⟩; have HT := Lib.hid ht; have HB2 := Lib.hid hb2; clear ht hb2)
    go_ret2
    exact ⟨(HLow.out _).trans (HB2.out.mono (by simp)), .inr ⟨.inl hneg, rfl⟩⟩
  obtain ⟨n, rfl⟩ : ∃ n : Nat, i = n := ⟨i.toNat, by omega⟩
  by_cases hbig : L ≤ n
  · go_enter Tryd.func12, Tryd.ntmps12
    go_wp2_with (go_at_call 35; refine (HA.out _).mono ?_; rintro e w2 ⟨ra, rc, RR, rfl, ht, hb2⟩; rw [← HL.out]; have HT := Lib.hid ht; have HB2 := Lib.hid hb2; clear ht hb2)
    go_ret2
    exact ⟨(HLow.out _).trans (HB2.out.mono (by simp)), .inr ⟨.inr (by rw [← HLs.out]; omega), rfl⟩⟩
  obtain ⟨p, hp⟩ := Pl.has_path t n (by rw [← HLs.out]; omega)
  have hpl := Pl.path_len hp
  have HP := Lib.hid hp
  clear hp
  go_enter Tryd.func12, Tryd.ntmps12
  go_wp2_with (go_at_call 35; refine (HA.out _).mono ?_; rintro e w2 ⟨ra, rc, RR, rfl, ht, hb2⟩; rw [← HL.out]; have HT := Lib.hid ht; have HB2 := Lib.hid ((HLow.out _).trans (hb2.mono (by simp))); clear ht hb2)
  go_loopw [7, 8] (fun bk at' wr => ∃ (q rest : List Int) (x j vc : Nat) (va : Option Addr), bk = .slice va j vc ∧ at' = .int .i64 x ∧ p = q ++ rest ∧ Pl.idxP q t = some x ∧ j = rest.length ∧
    wr.ownsRow w2.heap.size 3 1 (.slice va j vc) j (ints rest.reverse) ∧ Below w2.heap.size w2 wr) (fun _ at' _ => (intOf at').toNat)
  case atStart => exact ⟨p, [], n, 0, 0, none, rfl, rfl, (List.append_nil _).symm, HP.out, rfl, World.ownsRow_nil _ _ _ _, Below.refl _ _⟩
  case round =>
    obtain ⟨q, rest, x, j, vc, va, rfl, rfl, hpq, hx, hj, hown, hbel⟩ := hrel
    have HPQ := Lib.hid hpq
    have HX := Lib.hid hx
    have HJ := Lib.hid hj
    have HOwn := Lib.hid hown
    have HB := Lib.hid hbel
    have hxl : x < L := by rw [HLs.out]; exact Pl.idx_lt hx
    have hjl : j ≤ 1000000 := by have := congrArg List.length hpq; rw [List.length_append] at this; omega
    have hgr := hbel.size
    clear hpq hx hj hown
    rcases Nat.eq_zero_or_pos x with h0 | h0
    · have HQ : Hid (rest = p) := Lib.hid (by have := Pl.path_len HX.out; rw [HPQ.out, List.eq_nil_of_length_eq_zero (l := q) (by omega)]; rfl)
      have hnp : decide ((x : Int) > 0) = false := by simp; omega
      have hnp2 : decide (0 < x) = false := by simp; omega
      clear h0
      go_wp2_with fail
      obtain ⟨wm, hwm⟩ : ∃ wm, wm = wr := ⟨_, rfl⟩
      subst hwm
      have HBK := Lib.hid (ints_own HOwn.out (by rw [List.length_reverse]; exact HJ.out) hjl)
      go_loopw [11, 12] (fun ov iv wr => ∃ (m oc : Nat) (oa : Option Addr), m ≤ j ∧ iv = .int .i64 ((j : Int) - 1 - m) ∧ ov = .slice oa m oc ∧ wr.ownsRow wm.heap.size 3 1 (.slice oa m oc) m (ints (rest.take m)) ∧ Below wm.heap.size wm wr) (fun _ iv _ => (intOf iv + 1).toNat)
      case atStart => exact ⟨0, 0, none, Nat.zero_le _, by go_num, rfl, World.ownsRow_nil _ _ _ _, Below.refl _ _⟩
      case round =>
        obtain ⟨m, oc, oa, hm, rfl, rfl, hoo, hob⟩ := hrel
        have HOO := Lib.hid hoo
        have HOB := Lib.hid hob
        have hgo := hob.size
        clear hoo
        by_cases hlt : m < j
        · have hge0 : decide ((j : Int) - 1 - m ≥ 0) = true := by simp; omega
          have hjm : j - 1 - m < rest.reverse.length := by rw [List.length_reverse, ← HJ.out]; omega
          have hg := List.getElem?_eq_getElem hjm
          have hmr : m < rest.length := by rw [← HJ.out]; exact hlt
          have hel : rest.reverse[j - 1 - m] = rest[m] := by
            rw [List.getElem_reverse]; congr 1; rw [← HJ.out]; omega
          rw [hel] at hg
          rcases HBK.out.2 with h0 | ⟨bb, bo, rfl, hbb, hatb⟩
          · rw [h0] at hjm; simp at hjm
          have cb := (hob.cell (p := ⟨bb, bo + (j - 1 - m), none⟩) hbb.2).trans (hatb _ _ hg)
          have HTK : Hid (rest.take (m + 1) = rest.take m ++ [rest[m]]) := Lib.hid (by rw [List.take_succ_eq_append_getElem hmr])
          have hcast : ((j - 1 - m : Nat) : Int) = (j : Int) - 1 - m := by omega
          obtain ⟨z, hz⟩ : ∃ z : Nat, z = j - 1 - m := ⟨_, rfl⟩
          rw [← hz] at cb hcast
          rw [← hcast]
          have hz0 : (0 : Int) ≤ (z : Int) := Int.natCast_nonneg _
          have hz1 : (z : Int) < (j : Int) := by omega
          have hzg : decide ((z : Int) ≥ 0) = true := by simp
          generalize rest[m] = yv at *
          have HZ := Lib.hid hcast
          clear hatb hg hel hge0 hz hcast hob
          go_wp2_with (refine wpList_append_lies _ rfl (.tmp 59) (.tmp 64) 26 rfl wm.heap.size 3 j0 _ 1 8 Tryd.underlying26 hj0 hy0 hy1 hy2 rfl (by omega) (.slice oa m oc) m (ints (rest.take m)) rfl (HOO.out.alloc _) ⟨wr.heap.size, 0, none⟩ 1 1 [.int .i64 yv] rfl rfl (news_int wr _) (by simp [Value.oneCell']) (by omega) (by unfold maxLen; omega) (by omega) (by simp; omega) (wr.heap.size + 1) (by simp) ?_; intro g4 cap4 w4 hown4 hgrow4 hat4 hlt4; have HO4 := Lib.hid hown4; have HG4 := Lib.hid hgrow4; clear hown4 hgrow4 hat4)
          refine ⟨⟨m + 1, cap4, some ⟨g4, 0, none⟩, by omega, by rw [HZ.out]; congr 1; omega, rfl, by rw [HTK.out, ints_snoc]; exact HO4.out, (HOB.out.alloc hgo _).grown HG4.out (by simp; omega) (fun y hy => (HOO.out.lt y hy).1)⟩, by have := HZ.out; simp [intOf] <;> omega⟩
        · have hmj : m = j := by omega
          subst hmj
          have hneg2 : decide (((m : Int) - 1 - m) ≥ 0) = false := by simp; omega
          go_wp2_with fail
          go_ret2
          have hb5 := HB.out.trans (HOB.out.mono hgr)
          have hi5 := ints_own HOO.out (by rw [List.length_take, ← HJ.out]; omega) (by omega)
          rw [HJ.out, List.take_length, HQ.out] at hi5
          have hlp : p.length = m := by rw [← HQ.out]; exact HJ.out.symm
          refine ⟨HB2.out.trans (hb5.mono HB2.out.size), .inl ⟨n, p, oa, oc, rfl, by rw [hlp]; exact own_cap HOO.out, HP.out, hi5.keep (Same.refl _ _) (fun b hb => ⟨by have := HB2.out.size; omega, hb.2⟩), by rw [hlp]; rfl⟩⟩
    · obtain ⟨tb, ro, p', k, y, u, rfl, hq, hy, hkl, hxe, r0, r4, hki⟩ := row_above HT.out HX.out h0
      have htb : tb < w2.heap.size := World.block_lt_of_cell? w2 _ r0
      have c0 := (hbel.cell (p := ⟨tb, ro + x * 5, none⟩) htb).trans r0
      have c4 := (hbel.cell (p := ⟨tb, ro + y * 5 + 4, none⟩) htb).trans r4
      have hkl2 : u.kids.length ≤ maxLen := by have := hki.1; rw [Pl.kidx_len] at this; exact this
      unfold maxLen at hkl2
      have hyl : y < L := by rw [HLs.out]; exact Pl.idx_lt hy
      have hx0 : (0 : Int) ≤ (x : Int) := Int.natCast_nonneg _
      have hx1 : (x : Int) < (L : Int) := by omega
      have hy0' : (0 : Int) ≤ (y : Int) := Int.natCast_nonneg _
      have hy1' : (y : Int) < (L : Int) := by omega
      have hpos : decide ((x : Int) > 0) = true := by simp; omega
      have hposN : decide (0 < x) = true := by simp; omega
      generalize RR y = ry at *
      obtain ⟨_, _, ka, kc⟩ := ry
      simp only at c4 hki
      have HKI := Lib.hid hki
      have HQ := Lib.hid hq
      have HY := Lib.hid hy
      have HXE := Lib.hid hxe
      have R0 := Lib.hid r0
      clear hki hq hy hxe r0 r4
      go_wp2_with fail
      rcases HKI.out.2 with h0' | ⟨kb, ko, rfl, hkb, hatk⟩
      · exact absurd h0' (by intro e; have := congrArg List.length e; rw [Pl.kidx_len] at this; simp at this; rw [this] at hkl; simp at hkl)
      have HAK := Lib.hid (fun m (hm : m ≤ k) => (hbel.cell (p := ⟨kb, ko + m, none⟩) hkb).trans (hatk m _ (Pl.kidx_get u.kids (y + 1) m (by omega))))
      clear hatk
      obtain ⟨wm, hwm⟩ : ∃ wm, wm = wr := ⟨_, rfl⟩
      subst hwm
      go_loopw [10] (fun kv wr => ∃ m : Nat, m ≤ k ∧ kv = .int .i64 m ∧ wr = wm) (fun kv _ => k - (intOf kv).toNat)
      case atStart => exact ⟨0, Nat.zero_le _, rfl, rfl⟩
      case round =>
        obtain ⟨m, hm, rfl, rfl⟩ := hrel
        have cm := HAK.out m hm
        have hm0 : (0 : Int) ≤ (m : Int) := Int.natCast_nonneg _
        have hm1 : (m : Int) < (u.kids.length : Int) := by omega
        by_cases hlt : m < k
        · have hne : ((y + 1 + Pl.szs (u.kids.take m) : Nat) : Int) ≠ (x : Int) := by
            have := HXE.out
            have := Pl.szs_mono hlt (show k ≤ u.kids.length by omega)
            omega
          obtain ⟨hn1, hn2⟩ := int_ne hne
          generalize y + 1 + Pl.szs (u.kids.take m) = z at *
          clear hne
          go_wp2_with fail
          exact ⟨⟨m + 1, by omega, by go_num, by trivial⟩, by simp [intOf]; omega⟩
        · have hmk : m = k := by omega
          subst hmk
          rw [← HXE.out] at cm
          have hn1 : ((x : Int) != (x : Int)) = false := by simp
          go_wp2_with (refine wpList_append_lies _ rfl (.tmp 43) (.tmp 45) 26 rfl w2.heap.size 3 j0 _ 1 8 Tryd.underlying26 hj0 hy0 hy1 hy2 rfl (by omega) (.slice va j vc) j (ints rest.reverse) rfl (HOwn.out.alloc _) ⟨wr.heap.size, 0, none⟩ 1 1 [.int .i64 m] rfl rfl (news_int wr _) (by simp [Value.oneCell']) (by omega) (by unfold maxLen; omega) (by omega) (by simp; omega) (wr.heap.size + 1) (by simp) ?_; intro g4 cap4 w4 hown4 hgrow4 hat4 hlt4; have HO4 := Lib.hid hown4; have HG4 := Lib.hid hgrow4; have hb4 := (hbel.alloc hgr _).grown hgrow4 (by simp; omega) (fun y hy => (HOwn.out.lt y hy).1); have c9 := (hb4.cell (p := ⟨tb, ro + x * 5, none⟩) htb).trans R0.out; have HB4 := Lib.hid hb4; clear hown4 hgrow4 hat4 hb4)
          refine ⟨⟨p', (m : Int) :: rest, y, j + 1, cap4, some ⟨g4, 0, none⟩, rfl, rfl, by rw [HPQ.out, HQ.out]; simp, HY.out, by rw [List.length_cons, HJ.out], by rw [List.reverse_cons, ints_snoc]; exact HO4.out, HB4.out⟩, by simp [intOf]; have := HXE.out; omega⟩
end Go.Proofs.YtpaleolcfhnenaaDoor.Rt
