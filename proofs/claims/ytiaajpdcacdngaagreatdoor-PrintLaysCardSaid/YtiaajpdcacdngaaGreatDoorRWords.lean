/- The walk of the printer's reference: words. -/
import Derived.Test.YtiaajpdcacdngaaGreatDoorROrder
import Derived.Test.YtiaajpdcacdngaaGreatDoorRPlain
import Derived.Deep.RegionWith
namespace Go.Proofs.YtiaajpdcacdngaaGreatDoor.Pl
open Go
theorem nod_mono {k : Int} {s : ByteArray} {g : List ByteArray} {ks : List Tr} {L : Nat} {f : ByteArray} {m : Nat} {I : Nat → Nat} {E : Nat → List Wd} (h : Nod k s g ks L f m I E) : ∀ d q, q + d = m → (E q).length ≤ (E m).length := by
  intro d
  induction d with
  | zero => intro q hq; rw [show q = m by omega]; exact Nat.le_refl _
  | succ d ih =>
    intro q hq
    have h1 := ih (q + 1) (by omega)
    rcases h.step q (by omega) with ⟨x, _, _, _, e⟩ | ⟨j, u, _, _, _, e⟩
    · rw [e, List.length_append] at h1; omega
    · rw [e, List.length_append] at h1; omega
end Go.Proofs.YtiaajpdcacdngaaGreatDoor.Pl
namespace Go.Proofs.YtiaajpdcacdngaaGreatDoor.Rf
open Go.RowKit
set_option linter.unusedVariables false
set_option linter.unusedSimpArgs false
set_option maxRecDepth 100000

theorem grown_trans {a b c : World} {r r' : Option Nat} (h : a.grownBy b r) (k : b.grownBy c r') (hr : ∀ x, r' = some x → r = some x ∨ a.heap.size ≤ x) : a.grownBy c r :=
  ⟨k.os.trans h.os, k.tape.trans h.tape, k.output.trans h.output, Nat.le_trans h.size k.size, fun x hx hne => (k.block x (Nat.lt_of_lt_of_le hx h.size) (fun e => by
    rcases hr x e.symm with h1 | h1
    · exact hne h1.symm
    · omega)).trans (h.block x hx hne)⟩
theorem grown_of {w w' : World} (r : Option Nat) (h : Below w.heap.size w w') : w.grownBy w' r := ⟨h.os, h.tape, h.output, h.size, fun x hx _ => h.block x hx⟩
theorem row_at {w : World} {B n : Nat} {e : TypeId} {a : Option Addr} {c : Nat} {xs : List Value} (h : w.ownsRow B e 1 (.slice a n c) n xs) {q : Nat} {u : Value} (hq : xs[q]? = some u) : ∃ g, a = some ⟨g, 0, none⟩ ∧ B ≤ g ∧ g < w.heap.size ∧ w.cell? ⟨g, q, none⟩ = some u := by
  have hl := h.1
  have hql := (List.getElem?_eq_some_iff.1 hq).1
  obtain ⟨g, ha, hB, hlt, hc⟩ := owns_addr h (by omega)
  refine ⟨g, ha, hB, hlt, ?_⟩
  have := hc q u hq
  have hadd : (⟨g, 0, none⟩ : Addr).add q = ⟨g, q, none⟩ := by unfold Addr.add; split <;> simp_all
  rwa [hadd] at this
theorem strV_get {xs : List ByteArray} {q : Nat} {x : ByteArray} (h : xs[q]? = some x) : (strV xs)[q]? = some (.string x) := by unfold strV; rw [List.getElem?_map, h]; rfl
theorem intV_get {xs : List Int} {q : Nat} {x : Int} (h : xs[q]? = some x) : (intV xs)[q]? = some (.int .i64 x) := by unfold intV; rw [List.getElem?_map, h]; rfl
/-- What words answers. -/
def WrdP (a : Option Addr) (n c : Nat) (ys : List ByteArray) (w : World) (e : Ending) (w' : World) : Prop :=
  ∃ a' n' c', e = .returned (.slice a' n' c') ∧ n' = ys.length ∧ w'.ownsRow 0 9 1 (.slice a' n' c') n' (strV ys) ∧ w.grownBy w' (Value.slice a n c).ownBlock ∧ ∀ k, (Value.slice a' n' c').ownBlock = some k → (Value.slice a n c).ownBlock = some k ∨ w.heap.size ≤ k
set_option maxHeartbeats 3200000 in
theorem rwords_at {P : Nat → Prop} {w : World} {t : Pl.Tr} {r : Sl} (h : Tin P w t r) : ∀ (L : Nat) (f : ByteArray) (a : Option Addr) (n c : Nat) (xs : List ByteArray) (w1 : World), Same P w w1 → (∀ b, P b → b < w1.heap.size ∧ (Value.slice a n c).ownBlock ≠ some b) → Pl.firstE t = 0 → Pl.sz t ≤ 100000 → n = xs.length → xs.length + (Pl.evT t L f).length ≤ 100000 → w1.ownsRow 0 9 1 (.slice a n c) n (strV xs) →
    Calls Tryz.prog 31 #[.agg #[.int .i64 t.kind, .string t.text, .slice r.ga t.gaps.length r.gc, .slice r.da t.kids.length r.dc], .slice a n c] w1 (WrdP a n c (xs ++ (Pl.evT t L f).map (·.text)) w1) := by
  obtain ⟨i0, hi0, hz0, hz1, hz2⟩ := info_parts infoS
  induction h with
  | mk t r R hs hg hl hk hr ih =>
    intro L f a n c xs w1 hsame hP hf hsz hn hlen hown
    cases t with
    | node k s g ks =>
      obtain ⟨ga, gc, da, dc⟩ := r
      simp only [Pl.Tr.kids, Pl.Tr.gaps, Pl.Tr.text, Pl.Tr.kind] at *
      obtain ⟨hn0, hks⟩ := Pl.first_zero k s g ks hf
      have har := Pl.shape_ar k s ks (Pl.nodeE_zero k s g ks hn0).1
      obtain ⟨m, I, E, hnod⟩ := Pl.nod_any k s g ks L f har
      rw [Pl.sz] at hsz
      have hkl := Pl.len_szs ks
      have HSZ : Hid (∀ (j : Nat) u, ks[j]? = some u → Pl.sz u ≤ 100000 ∧ Pl.firstE u = 0) := Lib.hid fun j u hu => ⟨by have := Pl.sz_mem (List.mem_of_getElem? hu); omega, Pl.firsts_mem ks hks u (List.mem_of_getElem? hu)⟩
      have HLE : Hid (∀ q, q ≤ m → xs.length + (E q).length ≤ 100000) := Lib.hid fun q hq => by
        have := Pl.nod_mono hnod (m - q) q (by omega)
        rw [hnod.em] at this
        omega
      rw [← hnod.em]
      have HM := Lib.hid hnod.len
      have HI0 := Lib.hid hnod.i0
      have HE0 := Lib.hid hnod.e0
      have HIL := Lib.hid hnod.il
      have HST := Lib.hid hnod.step
      have HMB : Hid (∀ q, q ≤ m → I q ≤ 300000) := Lib.hid fun q hq => by
        have h1 := hnod.il q hq
        have := (Pl.rown_size k s ks.length har).2
        omega
      have hmb : m ≤ 300000 := by
        have h1 := parts_len k s ks.length L har
        have h2 := congrArg List.length (Pl.rorder_eq k s ks.length L har)
        rw [List.length_map, hnod.len] at h2
        omega
      have HCO := Lib.hid (fun W => own_any k s g.length ks.length gc dc ga da W (by omega) har)
      have HCR := Lib.hid (fun W => order_any k s g.length ks.length gc dc ga da W (by omega))
      obtain ⟨nk, hnk⟩ : ∃ nk, nk = ks.length := ⟨_, rfl⟩
      obtain ⟨ng, hng⟩ : ∃ ng, ng = g.length := ⟨_, rfl⟩
      have hnk2 : nk ≤ 100000 := by omega
      rw [← hnk, ← hng] at HCO HCR
      rw [← hnk] at HM HIL
      rw [← hnk, ← hng]
      have HNK := Lib.hid hnk
      have HK := Lib.hid hk
      have HI := Lib.hid ih
      have HS := Lib.hid hsame
      have HP := Lib.hid hP
      have HN := Lib.hid hn
      have HOW := Lib.hid hown
      have HVL := Lib.hid (fun q hq => (hown.lt q hq).2)
      clear hk hg hr ih hsame hl hP hn hown hnod hf hn0 hks hsz hkl hlen hnk hng har hs
      go_enter Tryz.func31, Tryz.ntmps31
      go_wp2_with (first
        | (go_at_call 50; refine (HCO.out _).mono ?_; rintro e w2 ⟨a2, n2, c2, rfl, hn2, ho2, hb2⟩; have HN2 := Lib.hid hn2; have HO2 := Lib.hid ho2; have HB2 := Lib.hid hb2; obtain ⟨x0, x1, x2, x3⟩ := at4_below (at4_new w1 k s (.slice ga ng gc) (.slice da nk dc)) hb2; have hs2 := hb2.size; simp at hs2; clear hn2 ho2 hb2)
        | (go_at_call 51; refine (HCR.out _).mono ?_; rintro e w3 ⟨a3, n3, c3, rfl, hn3, ho3, hb3⟩; have HN3 := Lib.hid hn3; have HO3 := Lib.hid ho3; have HB3 := Lib.hid hb3; have hs3 := hb3.size; clear hn3 ho3 hb3))
      have hn3 : n3 = m := by rw [HN3.out]; exact HM.out
      subst hn3
      have BX := Lib.hid (at4_below (at4_below (at4_new w1 k s (.slice ga ng gc) (.slice da nk dc)) HB2.out) HB3.out)
      have HB13 : Hid (Below w1.heap.size w1 w3) := Lib.hid ((box_below w1 _).trans ((HB2.out.mono (by simp)).trans (HB3.out.mono (by omega))))
      have HRO := Lib.hid (fun q u (hq : (strV (Pl.rown k s nk))[q]? = some u) => row_at (owns_later HO2.out HB3.out) hq)
      have HRR := Lib.hid (fun q u (hq : (intV (Pl.rorder k s nk))[q]? = some u) => row_at HO3.out hq)
      have hn2b : n2 = (Pl.rown k s nk).length := HN2.out
      have HN2b := Lib.hid hn2b
      clear hn2b x0 x1 x2 x3
      go_loopw [5, 8, 9] (fun v5 v8 v9 wr => ∃ (q : Nat) (a' : Option Addr) (n' c' : Nat), q ≤ n3 ∧ v9 = .int .i64 (q : Int) ∧ v8 = .int .i64 (I q : Nat) ∧ v5 = .slice a' n' c' ∧ Hid (n' = (xs ++ (E q).map (·.text)).length) ∧ Hid (wr.ownsRow 0 9 1 (.slice a' n' c') n' (strV (xs ++ (E q).map (·.text)))) ∧ Hid (w3.grownBy wr (Value.slice a n c).ownBlock) ∧ Hid (∀ k, (Value.slice a' n' c').ownBlock = some k → (Value.slice a n c).ownBlock = some k ∨ w3.heap.size ≤ k)) (fun _ _ u _ => n3 - (intOf u).toNat)
      case atStart => exact ⟨0, a, n, c, Nat.zero_le _, rfl, by rw [HI0.out]; rfl, rfl, Lib.hid (by rw [HE0.out, List.map_nil, List.append_nil]; exact HN.out), Lib.hid (by rw [HE0.out, List.map_nil, List.append_nil]; exact owns_later HOW.out HB13.out), Lib.hid (grown_of _ (Below.refl _ _)), Lib.hid (fun k hk => .inl hk)⟩
      case round =>
        obtain ⟨q, a', n', c', hq, rfl, rfl, rfl, HN', HO', HG, HV⟩ := hrel
        have hgr := HG.out.size
        have hnb : n' ≤ 100000 := by rw [HN'.out, List.length_append, List.length_map]; exact HLE.out q hq
        have hs13 := HB13.out.size
        have hw1b : w1.heap.size < w3.heap.size := by have := hs2; omega
        have hbne : ∀ b, w1.heap.size ≤ b → some b ≠ (Value.slice a n c).ownBlock := fun b hb e => by have := HVL.out b e.symm; omega
        have x3 : wr.cell? ⟨w1.heap.size, 3, none⟩ = some (.slice da nk dc) := HG.out.cell BX.out.2.2.2 (hbne _ (Nat.le_refl _))
        have HX3 := Lib.hid x3
        clear x3
        by_cases hlt : q < n3
        · have hilt := HMB.out q hq
          have hint := HMB.out (q + 1) (by omega)
          rcases HST.out q hlt with ⟨x, hx1, hx2, hx3, hx4⟩ | ⟨j, u, hx1, hx2, hx3, hx4⟩
          · rw [HNK.out.symm] at hx1 hx2
            obtain ⟨g3, rfl, hg3, hg3l, hc3⟩ := HRR.out q _ (intV_get hx1)
            obtain ⟨g2, rfl, hg2, hg2l, hc2⟩ := HRO.out _ _ (strV_get hx2)
            have y3 : wr.cell? ⟨g3, q, none⟩ = some (.int .i64 (-1)) := HG.out.cell hc3 (hbne g3 (by omega))
            have y2 : wr.cell? ⟨g2, I q, none⟩ = some (.string x) := HG.out.cell hc2 (hbne g2 (by simp at hg2; omega))
            have hin : I q < n2 := by rw [HN2b.out]; exact (List.getElem?_eq_some_iff.1 hx2).1
            have HX4 := Lib.hid hx4
            have HX3' := Lib.hid hx3
            generalize hiq : I q = iq at *
            clear hx1 hx2 hx3 hx4 hc2 hc3 hiq
            have hi0' : (0 : Int) ≤ (q : Int) := Int.natCast_nonneg _
            have hi1' : (q : Int) < (n3 : Int) := by omega
            have hi2' : (0 : Int) ≤ (iq : Int) := Int.natCast_nonneg _
            have hi3' : (iq : Int) < (n2 : Int) := by omega
            go_wp2_with (at_builtin; refine wpList_append_lies _ rfl _ _ 22 rfl 0 9 i0 _ 1 16 Tryz.underlying22 hi0 hz0 hz1 hz2 rfl (by decide) _ _ _ rfl (World.ownsRow.alloc HO'.out _) ⟨wr.heap.size, 0, none⟩ 1 1 [.string x] rfl rfl (news_one 1 [.string x] rfl) (by simp [Value.oneCell']) (by decide) (by unfold maxLen; omega) (by omega) (by simp; try omega) (wr.heap.size + 1) (by simp) ?_; intro g5 cap5 w5 hown5 hg5 hat5 hlt5; have H5 := Lib.hid hown5; have HG5 := Lib.hid hg5; have HA5 := Lib.hid hat5; clear hown5 hg5 hat5)
            have hal : w3.grownBy (wr.alloc (.cells #[.string x] 9)) (Value.slice a n c).ownBlock := grown_trans HG.out (grown_of none (box_below wr _)) (fun k hk => by cases hk)
            refine ⟨⟨q + 1, some ⟨g5, 0, none⟩, n' + 1, cap5, by omega, by go_num, ?_, rfl, Lib.hid ?_, Lib.hid ?_, Lib.hid (grown_trans hal HG5.out (fun k hk => HV.out k hk)), Lib.hid (fun k hk => ?_)⟩, by simp [intOf]; omega⟩
            · rw [HX3'.out]; go_num
            · rw [HX4.out, List.map_append, ← List.append_assoc, List.length_append, ← HN'.out]; rfl
            · rw [HX4.out, List.map_append, ← List.append_assoc, strV_app]; exact H5.out
            · have e : g5 = k := by simpa [Value.ownBlock] using hk
              subst e
              rcases HA5.out with h | h
              · exact HV.out _ h
              · right; omega
          · rw [HNK.out.symm] at hx1
            obtain ⟨g3, rfl, hg3, hg3l, hc3⟩ := HRR.out q _ (intV_get hx1)
            have y3 : wr.cell? ⟨g3, q, none⟩ = some (.int .i64 (j : Int)) := HG.out.cell hc3 (hbne g3 (by omega))
            have hjk : j < nk := by rw [HNK.out]; exact (List.getElem?_eq_some_iff.1 hx2).1
            have hPn : ∀ b, P b → b < w1.heap.size ∧ (Value.slice a n c).ownBlock ≠ some b := HP.out
            have hsr : Same P w wr := HS.out.trans (fun b hb => (HG.out.block b (by have := (hPn b hb).1; omega) (fun e => (hPn b hb).2 e.symm)).trans (HB13.out.block b (hPn b hb).1))
            rcases HK.out with h0 | ⟨b, o, rfl, hb, hat⟩
            · rw [h0] at hx2; simp at hx2
            obtain ⟨c0, c1, c2', c3'⟩ := At4.keep (hat j _ hx2) hsr hb
            obtain ⟨hu1, hu2⟩ := HSZ.out j u hx2
            have HIH := Lib.hid (HI.out j u hx2)
            generalize R j = r1 at *
            obtain ⟨ga1, gc1, da1, dc1⟩ := r1
            have hlen : (xs ++ (E q).map (·.text)).length + (Pl.evT u (Pl.inside k L) (Pl.rkid k j f L)).length ≤ 100000 := by
              have := HLE.out (q + 1) (by omega)
              rw [hx4, List.length_append] at this
              rw [List.length_append, List.length_map]
              omega
            have HCW := Lib.hid (HIH.out (Pl.inside k L) (Pl.rkid k j f L) a' n' c' (xs ++ (E q).map (·.text)) wr.drew hsr (fun b hb => ⟨by have := (hPn b hb).1; show b < wr.heap.size; omega, fun e => by
              rcases HV.out b e with h | h
              · exact (hPn b hb).2 h
              · have := (hPn b hb).1; omega⟩) hu2 hu1 HN'.out hlen HO'.out)
            have HX4 := Lib.hid hx4
            have HX3' := Lib.hid hx3
            generalize hiq : I q = iq at *
            have d0 : wr.drew.cell? ⟨b, o + j * 4, none⟩ = some (.int .i64 u.kind) := c0
            have d1 : wr.drew.cell? ⟨b, o + j * 4 + 1, none⟩ = some (.string u.text) := c1
            have d2 : wr.drew.cell? ⟨b, o + j * 4 + 2, none⟩ = some (.slice ga1 u.gaps.length gc1) := c2'
            have d3 : wr.drew.cell? ⟨b, o + j * 4 + 3, none⟩ = some (.slice da1 u.kids.length dc1) := c3'
            have d4 : wr.drew.cell? ⟨w1.heap.size, 3, none⟩ = some (.slice (some ⟨b, o, none⟩) nk dc) := HX3.out
            have d5 : wr.drew.cell? ⟨g3, q, none⟩ = some (.int .i64 (j : Int)) := y3
            have d6 : ¬ (j : Int) < 0 := by omega
            have hi0' : (0 : Int) ≤ (q : Int) := Int.natCast_nonneg _
            have hi1' : (q : Int) < (n3 : Int) := by omega
            have hi2' : (0 : Int) ≤ (j : Int) := Int.natCast_nonneg _
            have hi3' : (j : Int) < (nk : Int) := by omega
            clear hx1 hx2 hx3 hx4 hc3 hiq hat hlen hsr hPn
            go_wp2_with fail
            go_region_with (go_at_call 31; refine HCW.out.mono ?_; rintro e w5 ⟨a5, n5, c5, rfl, hn5, ho5, hg5, hv5⟩; have HN5 := Lib.hid hn5; have HO5 := Lib.hid ho5; have HG5 := Lib.hid hg5; have HV5 := Lib.hid hv5; clear hn5 ho5 hg5 hv5)
            all_goals
              go_wp2_with fail
              have hg5 : wr.grownBy w5 (Value.slice a' n' c').ownBlock := ⟨HG5.out.os, HG5.out.tape, HG5.out.output, HG5.out.size, HG5.out.block⟩
              refine ⟨⟨q + 1, a5, n5, c5, by omega, by go_num, ?_, rfl, Lib.hid ?_, Lib.hid ?_, Lib.hid (grown_trans HG.out hg5 (fun k hk => HV.out k hk)), Lib.hid (fun k hk => ?_)⟩, by simp [intOf]; omega⟩
              · rw [HX3'.out]
              · rw [HX4.out, List.map_append, ← List.append_assoc]; exact HN5.out
              · rw [HX4.out, List.map_append, ← List.append_assoc]; exact HO5.out
              · rcases HV5.out k hk with h | h
                · exact HV.out _ h
                · right; have : wr.heap.size ≤ k := h; omega
        · have hqm : q = n3 := by omega
          subst hqm
          go_wp2_with fail
          go_ret
          exact ⟨a', n', c', rfl, HN'.out, HO'.out, grown_trans (grown_of _ HB13.out) HG.out (fun k hk => .inl hk), fun k hk => (HV.out k hk).imp_right (fun h => by omega)⟩
end Go.Proofs.YtiaajpdcacdngaaGreatDoor.Rf
