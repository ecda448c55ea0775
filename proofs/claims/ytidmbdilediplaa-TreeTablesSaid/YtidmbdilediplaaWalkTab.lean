/- The walk of the reference's Table. -/
import Derived.Test.YtidmbdilediplaaWalkKids
namespace Go.Proofs.Ytidmbdilediplaa
open Go.RowKit Go.Deep
set_option linter.unusedVariables false
set_option linter.unusedSimpArgs false

/-- Is this a table? -/
def TableP (l : List Pl.Rw) (w1 : World) (e : Ending) (w' : World) : Prop := ∃ z : Bool, (z = true ↔ Pl.IsTab l) ∧ e = .returned (.bool z) ∧ Below w1.heap.size w1 w'
/-- The length in a slot. -/
def lenOf : Value → Nat | .slice _ q _ => q | _ => 0
theorem owns_take {w : World} {B n c m : Nat} {a : Option Addr} {xs : List Int} (h : w.ownsRow B 3 1 (.slice a n c) n (ints xs)) (hn : n = xs.length) (hm : m ≤ n) (h0 : 0 < n) : w.ownsRow B 3 1 (.slice a m c) m (ints (xs.take m)) := by
  rcases h.2 with ⟨h1, h2⟩ | ⟨g, cap, cur, h1, h2, h3, h4, h5, h6, h7⟩
  · omega
  · injection h1 with e1 e2 e3
    subst e1 e3
    refine ⟨by simp [ints]; omega, .inr ⟨g, c, cur, rfl, h2, h3, by omega, h5, h6, ?_⟩⟩
    have e : ints (xs.take m) = (ints xs).take m := by simp [ints, List.map_take]
    rw [e, ← h7, List.take_take]
    congr 1
    omega
theorem dropWhile_last (st : List Int) (m : Nat) (p x : Int) (hm : m < st.length) (hx : st[m]? = some x) (hne : x ≠ p) : (st.take (m + 1)).reverse.dropWhile (fun y => y != p) = (st.take m).reverse.dropWhile (fun y => y != p) := by
  rw [List.take_add_one, hx]
  simp [hne]
theorem dropWhile_stop (st : List Int) (m : Nat) (p : Int) (hx : st[m]? = some p) : (st.take (m + 1)).reverse.dropWhile (fun y => y != p) = (st.take (m + 1)).reverse := by
  rw [List.take_add_one, hx]
  simp
set_option maxHeartbeats 3200000 in
set_option maxRecDepth 100000 in
theorem table_any {P : Nat → Prop} {w1 : World} (a : Option Addr) (c : Nat) (l : List Pl.Rw) (R : Nat → Sl) (hx : TabIn P w1 a l R) (hP : ∀ b, P b → b < w1.heap.size) (hl : l.length ≤ 100000) :
    Calls Try.prog 41 #[.slice a l.length c] w1 (TableP l w1) := by
  obtain ⟨j0, hj0, hy0, hy1, hy2⟩ := info_parts infoI
  have HX := Lib.hid hx
  clear hx
  obtain ⟨n, hn⟩ : ∃ n, n = l.length := ⟨_, rfl⟩
  have HN := Lib.hid hn
  rw [← hn] at hl ⊢
  clear hn
  rcases Nat.eq_zero_or_pos n with h0 | hpos
  · subst h0
    have HNo : Hid (¬ Pl.IsTab l) := Lib.hid fun h => by
      obtain ⟨r, hr, _⟩ := h.1
      have := (List.getElem?_eq_some_iff.1 hr).1
      rw [← HN.out] at this; omega
    go_enter Try.func41, Try.ntmps41
    go_wp2_with fail
    go_ret
    exact ⟨false, ⟨(fun h => by cases h), fun h => absurd h HNo.out⟩, rfl, Below.refl _ _⟩
  have hll : 0 < l.length := by rw [← HN.out]; exact hpos
  have hx0 := List.getElem?_eq_getElem hll
  rcases HX.out.2.1 with h0 | ⟨b, o, rfl, hb, hat⟩
  · rw [h0] at hll; simp at hll
  have hbw := hP b hb
  have hn0 : ((n : Int) == 0) = false := by simp; omega
  have hp0 : w1.cell? ⟨b, o, none⟩ = some (.int .i64 l[0].parent) := by have := (hat 0 _ hx0).cells.1; simpa using this
  have HAt := Lib.hid hat
  have HX0 := Lib.hid hx0
  generalize l[0] = x0 at *
  clear hat hx0 hll
  rcases (Classical.em (x0.parent = -1)).symm with hpar | hpar
  · have HNo : Hid (¬ Pl.IsTab l) := Lib.hid fun h => by
      obtain ⟨r, hr, hr2⟩ := h.1
      rw [HX0.out] at hr
      obtain rfl := Option.some.inj hr
      exact hpar hr2
    obtain ⟨hb1, hb2⟩ := int_ne hpar
    clear hpar
    go_enter Try.func41, Try.ntmps41
    go_wp2_with fail
    go_ret
    exact ⟨false, ⟨(fun h => by cases h), fun h => absurd h HNo.out⟩, rfl, Below.refl _ _⟩
  have HPar := Lib.hid hpar
  rw [hpar] at hp0
  clear hpar
  go_enter Try.func41, Try.ntmps41
  go_wp2_with (refine wpList_append_lies _ rfl (.tmp 17) (.tmp 18) 44 rfl w1.heap.size 3 j0 _ 1 8 Try.underlying44 hj0 hy0 hy1 hy2 rfl (by omega) (.slice none 0 0) 0 (ints []) rfl (World.ownsRow_nil _ _ _ _) ⟨w1.heap.size, 0, none⟩ 1 1 [.int .i64 0] rfl rfl (news_int w1 0) (by simp [Value.oneCell']) (by omega) (by decide) (by omega) (by simp) (w1.heap.size + 1) (by simp) ?_; intro g4 cap4 w4 hown4 hgrow4 hat4 hlt4)
  have hb4 : Below w1.heap.size w1 w4 := ((Below.refl _ _).alloc (Nat.le_refl _) _).grown hgrow4 (by simp) (fun k hk => by simp [Value.ownBlock] at hk)
  have HB4 := Lib.hid hb4
  have HO4 := Lib.hid hown4
  clear hb4 hown4 hgrow4 hat4
  go_loopw [3, 4] (fun v q wr => ∃ (i m vc : Nat) (va : Option Addr) (st : List Int), i ≤ n ∧ 1 ≤ i ∧ q = .int .i64 i ∧ v = .slice va m vc ∧ m = st.length ∧ m ≤ i ∧ wr.ownsRow w1.heap.size 3 1 (.slice va m vc) m (ints st) ∧ Below w1.heap.size w1 wr ∧
    (∀ y ∈ st, 0 ≤ y ∧ y < (i : Int)) ∧ Pl.scan [0] 1 ((l.drop 1).map Pl.Rw.parent) = Pl.scan st.reverse i ((l.drop i).map Pl.Rw.parent)) (fun _ q _ => n - (intOf q).toNat)
  case atStart => exact ⟨1, 1, cap4, some ⟨g4, 0, none⟩, [0], by omega, Nat.le_refl _, rfl, rfl, rfl, Nat.le_refl _, by simpa [ints] using HO4.out, HB4.out, (fun y hy => by simp at hy; omega), rfl⟩
  case round =>
    obtain ⟨i, m, vc, va, st, hi, hi1, rfl, rfl, hm, hmi, hown, hbel, hst, hsc⟩ := hrel
    have HOwn := Lib.hid hown
    have HB := Lib.hid hbel
    have HST := Lib.hid hst
    have HSc := Lib.hid hsc
    have HM := Lib.hid hm
    have hgr := hbel.size
    clear hown hst hsc hm
    by_cases hlt : i < n
    · have hkl : i < l.length := by rw [← HN.out]; exact hlt
      have hgx := List.getElem?_eq_getElem hkl
      have hk0 : (0 : Int) ≤ (i : Int) := Int.natCast_nonneg _
      have hk1 : (i : Int) < (n : Int) := by omega
      have hp := ((HAt.out i _ hgx).keep (hbel.block b hbw)).cells.1
      have hdr : (l.drop i).map Pl.Rw.parent = l[i].parent :: (l.drop (i + 1)).map Pl.Rw.parent := by rw [List.drop_eq_getElem_cons hkl, List.map_cons]
      have HDr := Lib.hid hdr
      clear hdr
      generalize l[i].parent = p at *
      clear hgx hbel
      have HOut : Hid (p < 0 ∨ (i : Int) ≤ p → ¬ Pl.IsTab l) := Lib.hid fun hpo h => by
        have h1 := h.2.1
        rw [HSc.out, HDr.out, Pl.scan_fail] at h1
        · cases h1
        · exact Pl.drop_none _ _ (fun y hy => by have := HST.out y (by simpa using hy); omega)
      by_cases c1 : p < 0
      · go_wp2_with fail
        go_ret
        exact ⟨false, ⟨(fun h => by cases h), fun h => absurd h (HOut.out (.inl c1))⟩, rfl, HB.out⟩
      by_cases c2 : (i : Int) ≤ p
      · go_wp2_with fail
        go_ret
        exact ⟨false, ⟨(fun h => by cases h), fun h => absurd h (HOut.out (.inr c2))⟩, rfl, HB.out⟩
      go_wp2_with fail
      go_loop [3] (fun v => ∃ (q : Nat), q ≤ m ∧ v = .slice va q vc ∧ st.reverse.dropWhile (fun y => y != p) = (st.take q).reverse.dropWhile (fun y => y != p)) (fun v => lenOf v)
      case atStart => exact ⟨m, Nat.le_refl _, rfl, by rw [HM.out, List.take_length]⟩
      case round =>
        obtain ⟨q, hq, rfl, hdw⟩ := hrel
        have HDW := Lib.hid hdw
        clear hdw
        rcases q with _ | q
        · have HNo : Hid (¬ Pl.IsTab l) := Lib.hid fun h => by
            have h1 := h.2.1
            rw [HSc.out, HDr.out, Pl.scan_fail _ _ _ _ (by rw [HDW.out]; simp)] at h1
            cases h1
          go_wp2_with fail
          go_ret
          exact ⟨false, ⟨(fun h => by cases h), fun h => absurd h HNo.out⟩, rfl, HB.out⟩
        · obtain ⟨g, cap, he, hge, hgl⟩ := HOwn.out.form (by omega)
          injection he with he1 he2 he3
          subst he1
          have hql : q < st.length := by rw [← HM.out]; omega
          have hcap : m ≤ vc := by
            rcases HOwn.out.2 with ⟨_, h2⟩ | ⟨_, _, _, h1, _, _, h4, _⟩
            · omega
            · injection h1 with _ _ e3; rw [e3]; exact h4
          have hcell : wr.cell? ⟨g, q, none⟩ = some (.int .i64 st[q]) := by
            have h1 := HOwn.out
            rw [he3] at h1
            rw [h1.cellAt q (by omega)]
            simp [ints, List.getElem?_eq_getElem hql]
          have hgq := List.getElem?_eq_getElem hql
          have HOQ := Lib.hid (owns_take HOwn.out HM.out (m := q + 1) hq (by omega))
          have hq0 : (0 : Int) ≤ (q : Int) := Int.natCast_nonneg _
          have hq1 : (q : Int) < (q : Int) + 1 := by omega
          have hq2 : (q : Int) ≤ (vc : Int) := by omega
          have HGQ := Lib.hid hgq
          generalize st[q] = y at *
          clear hgq he3
          rcases (Classical.em (y = p)).symm with hyp | hyp
          · have HNx : Hid (st.reverse.dropWhile (fun y => y != p) = (st.take q).reverse.dropWhile (fun y => y != p)) := Lib.hid (by rw [HDW.out]; exact dropWhile_last st q p y hql HGQ.out hyp)
            obtain ⟨hb1, hb2⟩ := int_ne hyp
            clear hyp
            go_wp2_with fail
            exact ⟨⟨q, by omega, rfl, HNx.out⟩, by simp [lenOf]⟩
          · subst hyp
            have HStop : Hid (st.reverse.dropWhile (fun z => z != y) = y :: (st.take q).reverse) := Lib.hid (by
              rw [HDW.out, dropWhile_stop st q y HGQ.out, List.take_add_one, HGQ.out]; simp)
            have HScN : Hid (Pl.scan [0] 1 ((l.drop 1).map Pl.Rw.parent) = Pl.scan (st.take (q + 1) ++ [(i : Int)]).reverse (i + 1) ((l.drop (i + 1)).map Pl.Rw.parent)) := Lib.hid (by
              rw [HSc.out, HDr.out, Pl.scan_cons _ _ _ _ _ _ HStop.out, List.take_add_one, HGQ.out]; simp)
            have hqb : ((q : Int) + 1 == 0) = false := by simp; omega
            go_wp2_with (refine wpList_append_lies _ rfl (.tmp 59) (.tmp 61) 44 rfl w1.heap.size 3 j0 _ 1 8 Try.underlying44 hj0 hy0 hy1 hy2 rfl (by omega) (.slice (some ⟨g, 0, none⟩) (q + 1) vc) (q + 1) (ints (st.take (q + 1))) rfl (HOQ.out.alloc _) ⟨wr.heap.size, 0, none⟩ 1 1 [.int .i64 i] rfl rfl (news_int wr _) (by simp [Value.oneCell']) (by omega) (by unfold maxLen; omega) (by omega) (by simp; omega) (wr.heap.size + 1) (by simp) ?_; intro g5 cap5 w5 hown5 hgrow5 hat5 hlt5; have HO5 := Lib.hid hown5; have HG5 := Lib.hid hgrow5; clear hown5 hgrow5 hat5)
            refine ⟨⟨i + 1, q + 1 + 1, cap5, some ⟨g5, 0, none⟩, st.take (q + 1) ++ [(i : Int)], by omega, by omega, by go_num, rfl, by simp; omega, by omega, ?_, ?_, fun z hz => ?_, HScN.out⟩, by simp [intOf]; omega⟩
            · have h1 := HO5.out
              have e : ints (st.take (q + 1) ++ [(i : Int)]) = ints (st.take (q + 1)) ++ [.int .i64 i] := by simp [ints]
              rw [e]; exact h1
            · exact (HB.out.alloc hgr _).grown HG5.out (by simp; omega) (fun z hz => by simp [Value.ownBlock] at hz; omega)
            · rcases List.mem_append.1 hz with hz | hz
              · have := HST.out z (List.mem_of_mem_take hz); omega
              · simp at hz; omega
    · have hin : i = n := by omega
      subst hin
      have HScan : Hid (Pl.scan [0] 1 ((l.drop 1).map Pl.Rw.parent) = true) := Lib.hid (by rw [HSc.out, List.drop_of_length_le (by rw [← HN.out]; exact Nat.le_refl _)]; simp [Pl.scan])
      clear hbel
      go_wp2_with fail
      go_loopw [6] (fun q wr => ∃ k : Nat, k ≤ i ∧ q = .int .i64 k ∧ Below w1.heap.size w1 wr ∧ ∀ (j : Nat) r, j < k → l[j]? = some r → r.kids = Pl.kf (l.drop (j + 1)) (j + 1) j) (fun q _ => i - (intOf q).toNat)
      case atStart => exact ⟨0, Nat.zero_le _, rfl, HB.out, fun j r h => by omega⟩
      case round =>
        obtain ⟨k, hk, rfl, hbel, hall⟩ := hrel
        have HB2 := Lib.hid hbel
        have HAll := Lib.hid hall
        have hgr2 := hbel.size
        clear hall
        by_cases hlt2 : k < i
        · have hkl : k < l.length := by rw [← HN.out]; exact hlt2
          have hgx := List.getElem?_eq_getElem hkl
          have hk0 : (0 : Int) ≤ (k : Int) := Int.natCast_nonneg _
          have hk1 : (k : Int) < (i : Int) := by omega
          have A5 := (HAt.out k _ hgx).keep (hbel.block b hbw)
          have x4 := A5.cells.2.2.2.2
          have hrow := (HX.out.2.2 k _ hgx).2.2
          have hatd : ∀ (j : Nat) x, l[j]? = some x → At5 wr.drew b (o + j * 5) x (R j) := fun j x hj => (HAt.out j x hj).keep (hbel.block b hbw)
          have hkids := kids_any (P := P) (w1 := wr.drew) b o c l R hatd (by show b < wr.heap.size; omega) (by rw [← HN.out]; omega) k hkl
          rw [← HN.out] at hkids
          have HKids := Lib.hid hkids
          have HGX := Lib.hid hgx
          have hkfl := kf_len (l.drop (k + 1)) (k + 1) (k : Int)
          obtain ⟨ys, hys⟩ : ∃ ys, ys = Pl.kf (l.drop (k + 1)) (k + 1) (k : Int) := ⟨_, rfl⟩
          rw [← hys] at hkfl HKids
          have HYS := Lib.hid hys
          clear hys
          generalize l[k] = x at *
          generalize R k = rr at *
          obtain ⟨ga, gc, ka, kc⟩ := rr
          simp only at x4
          have HRow := Lib.hid hrow
          clear hgx A5 hrow hatd hkids hbel
          have d4 : wr.drew.cell? ⟨b, o + k * 5 + 4, none⟩ = some (.slice ka x.kids.length kc) := x4
          by_cases hz : x.kids = ys
          · have HZ := Lib.hid (decide_eq_true hz)
            have HEq := Lib.hid hz
            clear hz
            go_wp2_with fail
            go_region_held3 (fun w' => w'.cell? ⟨b, o + k * 5 + 4, none⟩ = some (.slice ka x.kids.length kc))
              (first
                | with_reducible exact d4
                | with_reducible exact q4
                | with_reducible exact r4)
              ((first
                | (go_at_call 49; refine HKids.out.mono ?_; rintro e w2 ⟨na, nc, rfl, hni, hb2'⟩;
                   have hb2 : Below wr.heap.size wr w2 := (Below.refl _ wr).drew.trans hb2';
                   have q4 := (hb2.cell (p := ⟨b, o + k * 5 + 4, none⟩) (by show b < wr.heap.size; omega)).trans x4;
                   have hsz2 := hb2.size;
                   have HB3 := Lib.hid hb2;
                   have HNI := Lib.hid hni;
                   clear hb2 hb2' hni)
                | (go_at_call 36; refine (rints_is ka na kc nc x.kids ys (HRow.out.keep (HB2.out.trans (HB3.out.mono hgr2) |> fun h => Same.below h hP) (fun _ h => h)) HNI.out true HZ.out).mono ?_; rintro e w3 ⟨rfl, hb4⟩;
                   have r4 := (hb4.cell (p := ⟨b, o + k * 5 + 4, none⟩) (by show b < w2.heap.size; omega)).trans q4;
                   have HB5 := Lib.hid hb4;
                   clear hb4)))
            go_wp2_with fail
            refine ⟨⟨k + 1, by omega, by go_num, (HB2.out.trans (HB3.out.mono hgr2)).trans (HB5.out.mono (by omega)), fun j r hj hr => ?_⟩, by simp [intOf]; omega⟩
            by_cases hjk : j = k
            · subst hjk
              rw [HGX.out] at hr
              obtain rfl := Option.some.inj hr
              rw [HEq.out, HYS.out]
            · exact HAll.out j r (by omega) hr
          · have HZ := Lib.hid (decide_eq_false hz)
            have HNo : Hid (¬ Pl.IsTab l) := Lib.hid fun h => hz (by rw [h.2.2 k x HGX.out, HYS.out])
            clear hz
            go_wp2_with fail
            go_region_held3 (fun w' => w'.cell? ⟨b, o + k * 5 + 4, none⟩ = some (.slice ka x.kids.length kc))
              (first
                | with_reducible exact d4
                | with_reducible exact q4
                | with_reducible exact r4)
              ((first
                | (go_at_call 49; refine HKids.out.mono ?_; rintro e w2 ⟨na, nc, rfl, hni, hb2'⟩;
                   have hb2 : Below wr.heap.size wr w2 := (Below.refl _ wr).drew.trans hb2';
                   have q4 := (hb2.cell (p := ⟨b, o + k * 5 + 4, none⟩) (by show b < wr.heap.size; omega)).trans x4;
                   have hsz2 := hb2.size;
                   have HB3 := Lib.hid hb2;
                   have HNI := Lib.hid hni;
                   clear hb2 hb2' hni)
                | (go_at_call 36; refine (rints_is ka na kc nc x.kids ys (HRow.out.keep (HB2.out.trans (HB3.out.mono hgr2) |> fun h => Same.below h hP) (fun _ h => h)) HNI.out false HZ.out).mono ?_; rintro e w3 ⟨rfl, hb4⟩;
                   have r4 := (hb4.cell (p := ⟨b, o + k * 5 + 4, none⟩) (by show b < w2.heap.size; omega)).trans q4;
                   have HB5 := Lib.hid hb4;
                   clear hb4)))
            go_wp2_with fail
            go_ret
            exact ⟨false, ⟨(fun h => by cases h), fun h => absurd h HNo.out⟩, rfl, (HB2.out.trans (HB3.out.mono hgr2)).trans (HB5.out.mono (by omega))⟩
        · have hki : k = i := by omega
          subst hki
          have HYes : Hid (Pl.IsTab l) := Lib.hid ⟨⟨x0, HX0.out, HPar.out⟩, HScan.out, fun j r hr => HAll.out j r (by have := (List.getElem?_eq_some_iff.1 hr).1; rw [HN.out]; exact this) hr⟩
          clear hbel
          go_wp2_with fail
          go_ret
          exact ⟨true, ⟨fun _ => HYes.out, fun _ => rfl⟩, rfl, HB2.out⟩
end Go.Proofs.Ytidmbdilediplaa
