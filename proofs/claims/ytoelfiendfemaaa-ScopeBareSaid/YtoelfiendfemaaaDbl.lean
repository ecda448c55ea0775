/- The walks of the reference's Unbound, double and Doubles. -/
import Derived.Test.YtoelfiendfemaaaSame
namespace Go.Proofs.Ytoelfiendfemaaa
open Go.RowKit Go.Deep
set_option linter.unusedVariables false
set_option linter.unusedSimpArgs false

/-- Places that a call lists. -/
def RefsP (L : List Pl.Rf) (w : World) (e : Ending) (w' : World) : Prop := ∃ a c, e = .returned (.slice a L.length c) ∧ FlatW 2 cellsR w' a L ∧ Below w.heap.size w w'
theorem unb_take (L : List Pl.Us) (k : Nat) (x : Pl.Us) (h : L[k]? = some x) : Pl.unb (L.take (k + 1)) = Pl.unb (L.take k) ++ (if x.bound then [] else [(x.au, x.an)]) := by
  unfold Pl.unb
  rw [List.take_add_one, h, Option.toList_some, List.filterMap_append]
  congr 1
  cases hb : x.bound <;> simp [hb]
set_option maxHeartbeats 1600000 in
set_option maxRecDepth 100000 in
theorem runbound_any (a : Option Addr) (n c : Nat) (us : List Pl.Un) (R : Nat → Sl) (w : World) (hU : IsU w a us R) (hF : Few us) (hn : n = us.length) :
    Calls Try.prog 21 #[.slice a n c] w (RefsP (Pl.unbound us) w) := by
  obtain ⟨i0, hi0, hz0, hz1, hz2⟩ := info_parts infoF
  have HC := Lib.hid (ruses_any a n c us R w hU hF hn)
  have HU : Hid (Pl.unbound us = Pl.unb (Pl.uses us)) := Lib.hid rfl
  have hlen := usesUp_len (Pl.decls us) (Pl.tbls us) (fun l hl => by obtain ⟨j, hj⟩ := List.getElem?_of_mem hl; exact (tbls_get hF hj).choose_spec.2.2.2) us.length (by unfold Pl.tbls; rw [List.length_map]; exact Nat.le_refl _)
  have hlen2 : (Pl.uses us).length ≤ 800 := by have := hF.1; unfold Pl.uses; omega
  clear hU hF hn hlen
  generalize Pl.uses us = L at *
  generalize Pl.unbound us = L0 at *
  go_enter Try.func21, Try.ntmps21
  go_wp2_with (go_at_call 13; refine HC.out.mono ?_; rintro e w2 ⟨ua, uc, rfl, hua, hb2⟩; have HUA := Lib.hid hua; have HB2 := Lib.hid hb2; clear hua hb2)
  obtain ⟨n, hn⟩ : ∃ n, n = L.length := ⟨_, rfl⟩
  rw [← hn] at hlen2
  have HN := Lib.hid hn
  try rw [← hn]
  clear hn
  go_loopw [4, 5] (fun v i wr => ∃ (k : Nat) (a2 : Option Addr) (n2 c2 : Nat), k ≤ n ∧ i = .int .i64 k ∧ v = .slice a2 n2 c2 ∧ n2 = (Pl.unb (L.take k)).length ∧ n2 ≤ k ∧ wr.ownsRow w2.heap.size 29 2 (.slice a2 n2 c2) n2 ((Pl.unb (L.take k)).flatMap cellsR) ∧ Below w2.heap.size w2 wr) (fun _ i _ => n - (intOf i).toNat)
  case atStart => exact ⟨0, none, 0, 0, Nat.zero_le _, rfl, rfl, rfl, Nat.le_refl _, World.ownsRow_nil _ _ _ _, Below.refl _ _⟩
  case round =>
    obtain ⟨k, a2, n2, c2, hk, rfl, rfl, hn2, hle, hown, hbel⟩ := hrel
    have HN2 := Lib.hid hn2
    have HO := Lib.hid hown
    have HB := Lib.hid hbel
    have hgr := hbel.size
    by_cases hlt : k < n
    · have hkx : k < L.length := by rw [← HN.out]; exact hlt
      have hx := List.getElem?_eq_getElem hkx
      have HS := Lib.hid (unb_take L k _ hx)
      obtain ⟨b, o, rfl, hb, hrg⟩ := HUA.out.one hx
      have hk0 : (0 : Int) ≤ (k : Int) := Int.natCast_nonneg _
      have hk1 : (k : Int) < (n : Int) := by omega
      generalize L[k] = x at *
      have s0 := (hbel.cell (p := ⟨b, o + k * 5, none⟩) hb).trans (hrg 0 _ rfl)
      have s1 := (hbel.cell (p := ⟨b, o + k * 5 + 1, none⟩) hb).trans (hrg 1 _ rfl)
      have s4 := (hbel.cell (p := ⟨b, o + k * 5 + 4, none⟩) hb).trans (hrg 4 _ rfl)
      clear hx hrg hn2 hown hbel
      cases hbd : x.bound with
      | true =>
        rw [hbd] at s4
        have HS2 : Hid (Pl.unb (L.take (k + 1)) = Pl.unb (L.take k)) := Lib.hid (by rw [HS.out, hbd]; simp)
        clear hbd
        go_wp2_with fail
        exact ⟨⟨k + 1, a2, n2, c2, by omega, by go_num, rfl, by rw [HS2.out]; exact HN2.out, by omega, by rw [HS2.out]; exact HO.out, HB.out⟩, by simp [intOf]; omega⟩
      | false =>
        rw [hbd] at s4
        have HS2 : Hid (Pl.unb (L.take (k + 1)) = Pl.unb (L.take k) ++ [(x.au, x.an)]) := Lib.hid (by rw [HS.out, hbd]; simp)
        clear hbd
        go_wp2_with (at_builtin; refine wpList_append_lies _ rfl (.tmp 20) (.tmp 26) 37 rfl w2.heap.size 29 i0 _ 2 16 Try.underlying37 hi0 hz0 hz1 hz2 rfl (by omega) (.slice a2 n2 c2) n2 ((Pl.unb (L.take k)).flatMap cellsR) rfl (HO.out.alloc _) ⟨wr.heap.size, 0, none⟩ 1 1 (cellsR (x.au, x.an)) rfl rfl (World.news_of_block (cs := #[.int .i64 x.au, .int .i64 x.an]) (t := 29) (fr := (0, 0)) (heap_alloc_new wr _)) (by simp [Value.oneCell', cellsR]) (by omega) (by unfold maxLen; omega) (by omega) (by simp; omega) (wr.heap.size + 1) (by simp) ?_; intro g5 cap5 w5 hown5 hgrow5 hat5 hlt5; have HO5 := Lib.hid hown5; have HG5 := Lib.hid hgrow5; clear hown5 hgrow5 hat5)
        have hlen : (Pl.unb (L.take (k + 1))).length = n2 + 1 := by rw [HS2.out, List.length_append, ← HN2.out]; rfl
        refine ⟨⟨k + 1, some ⟨g5, 0, none⟩, n2 + 1, cap5, by omega, by go_num, rfl, hlen.symm, by omega, by rw [HS2.out, flatten_snoc]; exact HO5.out, ?_⟩, by simp [intOf]; omega⟩
        exact (HB.out.alloc hgr _).grown HG5.out (by simp; omega) (fun z hz => (HO.out.lt z hz).1)
    · have hkn : k = n := by omega
      subst hkn
      have HD : Hid (Pl.unb (L.take k) = L0) := Lib.hid (by rw [HU.out, HN.out, List.take_length])
      clear hn2 hown hbel
      go_wp2_with fail
      go_ret
      obtain ⟨a3, c3, he, hf⟩ := flat_row (cl := cellsR) (fun _ => rfl) (by decide) HO.out HN2.out
      exact ⟨a3, c3, by rw [he, HD.out]; rfl, by rw [← HD.out]; exact hf, HB2.out.trans (HB.out.mono HB2.out.size)⟩

/- ### Doubles -/
/-- Every declaration of a project is a row of it. -/
theorem decls_mem {us : List Pl.Un} (hF : Few us) {d : Pl.Dc} (h : d ∈ Pl.decls us) : ∃ (u j : Nat) (x : Pl.Un), us[u]? = some x ∧ j < (Pl.tbl x).length ∧ Pl.drow (Pl.tbl x) u j = some d := by
  unfold Pl.decls Pl.declsTo at h
  obtain ⟨u, hu, hd⟩ := List.mem_flatMap.1 h
  have hlt : u < us.length := by simpa using hu
  have hx := List.getElem?_eq_getElem hlt
  rw [hx] at hd
  simp only at hd
  have hsz := (hF.2 _ (List.getElem_mem hlt)).1
  rw [Pl.declsOf_rows _ (by omega)] at hd
  unfold Pl.drows at hd
  obtain ⟨j, hj, he⟩ := List.mem_filterMap.1 hd
  rw [Nat.zero_add] at he
  exact ⟨u, j, _, hx, by simpa using hj, he⟩
theorem decl1_place {k : Int} {s : ByteArray} {u i : Int} {fn cl : ByteArray} {m : Bool} {d : Pl.Dc} (h : Pl.decl1 k s u i fn cl m = some d) : d.unit = u ∧ d.node = i ∧ d.name = s := by
  unfold Pl.decl1 at h
  split at h
  · split at h <;> (obtain rfl := Option.some.inj h; exact ⟨rfl, rfl, rfl⟩)
  split at h
  · obtain rfl := Option.some.inj h; exact ⟨rfl, rfl, rfl⟩
  split at h
  · obtain rfl := Option.some.inj h; exact ⟨rfl, rfl, rfl⟩
  split at h
  · obtain rfl := Option.some.inj h; exact ⟨rfl, rfl, rfl⟩
  split at h
  · obtain rfl := Option.some.inj h; exact ⟨rfl, rfl, rfl⟩
  · cases h
/-- A declaration's node is there. -/
def In (T : List (List Pl.Rw)) (d : Pl.Dc) : Prop := ∃ (u i : Nat) (l : List Pl.Rw), d.unit = u ∧ d.node = i ∧ T[u]? = some l ∧ i < l.length
theorem decls_in {us : List Pl.Un} (hF : Few us) {d : Pl.Dc} (h : d ∈ Pl.decls us) : In (Pl.tbls us) d := by
  obtain ⟨u, j, x, hx, hj, hd⟩ := decls_mem hF h
  obtain ⟨h1, h2, _⟩ := decl1_place hd
  exact ⟨u, j, Pl.tbl x, h1, h2, by unfold Pl.tbls; rw [List.getElem?_map, hx]; rfl, hj⟩
theorem parOf_eq {T : List (List Pl.Rw)} {u i : Nat} {l : List Pl.Rw} (h : T[u]? = some l) : Pl.parOf T u i = (Pl.rw l i).parent := by
  unfold Pl.parOf; rw [Int.toNat_natCast, h]; rfl
set_option maxHeartbeats 1600000 in
set_option maxRecDepth 100000 in
theorem double_any (a : Option Addr) (n c : Nat) (T : List (List Pl.Rw)) (x y : Pl.Dc) (w : World) (hT : TabsIn w a T) (hn : n = T.length) (hx : In T x) (hy : In T y) :
    Calls Try.prog 52 #[.slice a n c, .agg #[.int .i64 x.kind, .string x.owner, .string x.name, .int .i64 x.unit, .int .i64 x.node], .agg #[.int .i64 y.kind, .string y.owner, .string y.name, .int .i64 y.unit, .int .i64 y.node]] w fun e w' => e = .returned (.bool (Pl.dbl T x y)) ∧ Below w.heap.size w w' := by
  obtain ⟨dd, hdd⟩ : ∃ dd, dd = Pl.dbl T x y := ⟨_, rfl⟩
  rw [← hdd]
  by_cases hk : x.kind = y.kind
  case neg =>
    have HD : Hid (dd = false) := Lib.hid (by rw [hdd]; unfold Pl.dbl; exact decide_eq_false (fun h => hk h.1))
    have b1 := (int_no hk).2
    clear hdd hk
    go_enter Try.func52, Try.ntmps52
    go_wp2_with fail
    go_ret
    exact ⟨ret_bool (by rw [HD.out]), below_2 _ _ _⟩
  by_cases hnm : x.name = y.name
  case neg =>
    have HD : Hid (dd = false) := Lib.hid (by rw [hdd]; unfold Pl.dbl; exact decide_eq_false (fun h => hnm h.2.1))
    have b1 := (int_yes hk).2
    have b2 := str_no hnm
    clear hdd hk hnm
    go_enter Try.func52, Try.ntmps52
    go_wp2_with fail
    go_ret
    exact ⟨ret_bool (by rw [HD.out]), below_2 _ _ _⟩
  have b1 := (int_yes hk).2
  have b2 := str_yes hnm
  by_cases hg : y.kind = 1 ∨ y.kind = 2 ∨ y.kind = 3
  · have HD : Hid (dd = true) := Lib.hid (by rw [hdd]; unfold Pl.dbl; exact decide_eq_true ⟨hk, hnm, by omega⟩)
    clear hdd hk hnm
    rcases hg with hg | hg | hg
    · have g1 := (int_yes hg).1
      clear hg
      go_enter Try.func52, Try.ntmps52
      go_wp2_with fail
      go_ret
      exact ⟨ret_bool (by rw [HD.out]), below_2 _ _ _⟩
    · have g0 := (int_no (by omega : y.kind ≠ 1)).1
      have g1 := (int_yes hg).1
      clear hg
      go_enter Try.func52, Try.ntmps52
      go_wp2_with fail
      go_ret
      exact ⟨ret_bool (by rw [HD.out]), below_2 _ _ _⟩
    · have g0 := (int_no (by omega : y.kind ≠ 1)).1
      have g2 := (int_no (by omega : y.kind ≠ 2)).1
      have g1 := (int_yes hg).1
      clear hg
      go_enter Try.func52, Try.ntmps52
      go_wp2_with fail
      go_ret
      exact ⟨ret_bool (by rw [HD.out]), below_2 _ _ _⟩
  have g1 := (int_no (by omega : y.kind ≠ 1)).1
  have g2 := (int_no (by omega : y.kind ≠ 2)).1
  have g3 := (int_no (by omega : y.kind ≠ 3)).1
  obtain ⟨u1, i1, l1, e1, e2, hl1, hi1⟩ := hx
  obtain ⟨u2, i2, l2, e3, e4, hl2, hi2⟩ := hy
  have hdd2 : dd = decide (u1 = u2 ∧ (Pl.rw l1 i1).parent = (Pl.rw l2 i2).parent) := by
    rw [hdd]; unfold Pl.dbl
    rw [e1, e2, e3, e4, parOf_eq hl1, parOf_eq hl2, Bool.eq_iff_iff, decide_eq_true_eq, decide_eq_true_eq]
    constructor
    · rintro ⟨_, _, h | h | h | ⟨h1, h2⟩⟩
      · omega
      · omega
      · omega
      · exact ⟨by omega, h2⟩
    · rintro ⟨h1, h2⟩; exact ⟨hk, hnm, .inr (.inr (.inr ⟨by omega, h2⟩))⟩
  have HDD := Lib.hid hdd2
  obtain ⟨tb, o, ta1, tc1, R1, rfl, htb, ht1, hti1⟩ := hT.one hl1
  obtain ⟨tb', o', ta2, tc2, R2, he2, htb2, ht2, hti2⟩ := hT.one hl2
  obtain ⟨rfl, rfl⟩ : tb' = tb ∧ o' = o := by
    injection he2 with he2
    injection he2 with he2 he3
    exact ⟨he2.symm, he3.symm⟩
  obtain ⟨r1, o1, rfl, hTb1⟩ := tb_of hti1 (by omega)
  obtain ⟨r2, o2, rfl, hTb2⟩ := tb_of hti2 (by omega)
  obtain ⟨z1, rr1, _, hz1, c1, _⟩ := hTb1.row hi1
  obtain ⟨z2, rr2, _, hz2, c2, _⟩ := hTb2.row hi2
  have hr1 := hTb1.1
  have hr2 := hTb2.1
  have a0 : (0 : Int) ≤ (u1 : Int) := Int.natCast_nonneg _
  have a1 : (u1 : Int) < (n : Int) := by have := (List.getElem?_eq_some_iff.1 hl1).1; omega
  have a2 : (0 : Int) ≤ (u2 : Int) := Int.natCast_nonneg _
  have a3 : (u2 : Int) < (n : Int) := by have := (List.getElem?_eq_some_iff.1 hl2).1; omega
  have a4 : (0 : Int) ≤ (i1 : Int) := Int.natCast_nonneg _
  have a5 : (i1 : Int) < (l1.length : Int) := by omega
  have a6 : (0 : Int) ≤ (i2 : Int) := Int.natCast_nonneg _
  have a7 : (i2 : Int) < (l2.length : Int) := by omega
  rw [hz1, hz2] at HDD
  rw [e1, e2, e3, e4]
  obtain ⟨W, hW⟩ : ∃ W, W = (w.alloc (.cells #[.int .i64 x.kind, .string x.owner, .string x.name, .int .i64 u1, .int .i64 i1] 77)).alloc (.cells #[.int .i64 y.kind, .string y.owner, .string y.name, .int .i64 u2, .int .i64 i2] 77) := ⟨_, rfl⟩
  have hB : Below w.heap.size w W := by rw [hW]; exact below_2 _ _ _
  have hb1 : W.heap[w.heap.size]? = some (.cells #[.int .i64 x.kind, .string x.owner, .string x.name, .int .i64 u1, .int .i64 i1] 77) := by rw [hW]; exact (Below.heap_alloc _ _ _ (by simp)).trans (heap_alloc_new _ _)
  have hb2 : W.heap[w.heap.size + 1]? = some (.cells #[.int .i64 y.kind, .string y.owner, .string y.name, .int .i64 u2, .int .i64 i2] 77) := by rw [hW]; exact heap_at2 _ _ _
  have p0 := (blk_one hb1 0 _ rfl).1
  have p2 := (blk_one hb1 2 _ rfl).1
  have p3 := (blk_one hb1 3 _ rfl).1
  have p4 := (blk_one hb1 4 _ rfl).1
  have q0 := (blk_one hb2 0 _ rfl).1
  have q2 := (blk_one hb2 2 _ rfl).1
  have q3 := (blk_one hb2 3 _ rfl).1
  have q4 := (blk_one hb2 4 _ rfl).1
  have s1 := (hB.cell (p := ⟨tb', o' + u1, none⟩) htb).trans ht1
  have s2 := (hB.cell (p := ⟨tb', o' + u2, none⟩) htb).trans ht2
  have s3 := (hB.cell (p := ⟨r1, o1 + i1 * 5, none⟩) hr1).trans c1
  have s4 := (hB.cell (p := ⟨r2, o2 + i2 * 5, none⟩) hr2).trans c2
  have HW := Lib.hid hW
  have HB := Lib.hid hB
  clear hdd hdd2 hT hn hk hnm hg hti1 hti2 hTb1 hTb2 hz1 hz2 ht1 ht2 c1 c2 hb1 hb2 hB hW hl1 hl2 hi1 hi2 e1 e2 e3 e4 he2
  go_enter Try.func52, Try.ntmps52
  go_upto_region 1 with fail
  rw [← HW.out]
  clear HW
  by_cases hu : u1 = u2
  · by_cases hp : z1.parent = z2.parent
    · have HF : Hid (dd = true) := Lib.hid (by rw [HDD.out]; exact decide_eq_true ⟨hu, hp⟩)
      have k1 := (int_yes (show (u1 : Int) = (u2 : Int) by omega)).1
      have k2 := (int_yes hp).1
      clear hu hp
      go_wp2_with fail
      go_quiet (fail)
      go_wp2_with fail
      go_ret
      exact ⟨ret_bool (by rw [HF.out]), HB.out.trans ((below_drewN W nq).mono HB.out.size)⟩
    · have HF : Hid (dd = false) := Lib.hid (by rw [HDD.out]; exact decide_eq_false (fun h => hp h.2))
      have k1 := (int_yes (show (u1 : Int) = (u2 : Int) by omega)).1
      have k2 := (int_no hp).1
      clear hu hp
      go_wp2_with fail
      go_quiet (fail)
      go_wp2_with fail
      go_ret
      exact ⟨ret_bool (by rw [HF.out]), HB.out.trans ((below_drewN W nq).mono HB.out.size)⟩
  · have HF : Hid (dd = false) := Lib.hid (by rw [HDD.out]; exact decide_eq_false (fun h => hu h.1))
    have k1 := (int_no (show (u1 : Int) ≠ (u2 : Int) by omega)).1
    clear hu
    go_wp2_with fail
    go_quiet (fail)
    go_wp2_with fail
    go_ret
    exact ⟨ret_bool (by rw [HF.out]), HB.out.trans ((below_drewN W nq).mono HB.out.size)⟩
end Go.Proofs.Ytoelfiendfemaaa
