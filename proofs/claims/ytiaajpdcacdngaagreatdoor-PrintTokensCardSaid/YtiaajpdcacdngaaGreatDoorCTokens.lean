/- The walks of read and of the law PrintTokens. -/
import Derived.Test.YtiaajpdcacdngaaGreatDoorLBase
import Derived.Test.YtiaajpdcacdngaaGreatDoorBToks
import Derived.Test.YtiaajpdcacdngaaGreatDoorClose
import Derived.Test.YtiaajpdcacdngaaGreatDoorCardT
namespace Go.Proofs.YtiaajpdcacdngaaGreatDoor.Aw
open Go.RowKit
set_option linter.unusedVariables false
set_option linter.unusedSimpArgs false
set_option maxRecDepth 100000

/-- The last token of a source has no text. -/
theorem tk_last (s : Pl.Bs) (p : Nat) (t : Pl.Tok) (h : (Pl.tk s 0).2 = none) (hp : (Pl.tk s 0).1.length = p + 1) (ht : (Pl.tk s 0).1[p]? = some t) : t.text = [] := by
  obtain ⟨L, e, h1, h2, h3, h4⟩ := Pl.tk_shape s 0 h
  rw [h1] at hp ht
  rw [List.length_append] at hp
  have hp : L.length + 1 = p + 1 := hp
  rw [List.getElem?_append_right (by omega), show p - L.length = 0 by omega] at ht
  obtain rfl : e = t := by simpa using ht
  exact h3
theorem mk_toList (x : ByteArray) : Pl.mk x.data.toList = x := by unfold Pl.mk; simp
/-- The words of a source, and its tokens' texts. -/
def Texts (x : ByteArray) (ws : List ByteArray) (k : Int) : Prop :=
  (Pl.tk x.data.toList 0).2 = none ∧ (Pl.tk x.data.toList 0).1.map (·.text) = if k = 1 then ws.map (·.data.toList) else ws.map (·.data.toList) ++ [[]]
/-- Where the tokens lie: so many, and the texts of the first ones. -/
theorem texts_at {x : ByteArray} {ws : List ByteArray} {k : Int} (h : Texts x ws k) {w : World} {v : Value} (hr : Tk.Reads w v ((Pl.tk x.data.toList 0).1.map Tk.t4)) :
    ∃ p b o c, v = .slice (some ⟨b, o, none⟩) (p + 1) c ∧ b < w.heap.size ∧ (if k = 1 then ws.length = p + 1 else ws.length = p) ∧ w.cell? ⟨b, o + p * 4 + 2, none⟩ = some (.string ⟨#[]⟩) ∧ ∀ (j : Nat) y, ws[j]? = some y → w.cell? ⟨b, o + j * 4 + 2, none⟩ = some (.string y) := by
  obtain ⟨h1, h2⟩ := h
  obtain ⟨L, e, e1, e2, e3, e4⟩ := Pl.tk_shape _ _ h1
  have hlen : (Pl.tk x.data.toList 0).1.length = L.length + 1 := by rw [e1, List.length_append]; rfl
  rcases hr with ⟨hr, -⟩ | ⟨b, o, c, rfl, hb, hat, hm⟩
  · rw [e1] at hr; simp at hr
  refine ⟨L.length, b, o, c, by rw [List.length_map, hlen], hb, ?_, ?_, fun j y hy => ?_⟩
  · have hl := congrArg List.length h2
    rw [List.length_map, hlen] at hl
    split at hl
    · rename_i hk; rw [if_pos hk]; rw [List.length_map] at hl; omega
    · rename_i hk; rw [if_neg hk]; rw [List.length_append, List.length_map] at hl; simp at hl; omega
  · have := (hat L.length (Tk.t4 e) (by rw [List.getElem?_map, e1, List.getElem?_append_right (Nat.le_refl _), Nat.sub_self]; rfl)).2.2.1
    rw [show o + L.length * 4 + 2 = o + 4 * L.length + 2 by omega, this]
    unfold Tk.t4
    rw [e3]; rfl
  · have hjl := (List.getElem?_eq_some_iff.1 hy).1
    have hj : ((Pl.tk x.data.toList 0).1.map (·.text))[j]? = some y.data.toList := by
      rw [h2]
      split
      · rw [List.getElem?_map, hy]; rfl
      · rw [List.getElem?_append_left (by rw [List.length_map]; exact hjl), List.getElem?_map, hy]; rfl
    rw [List.getElem?_map] at hj
    obtain ⟨t, ht, hty⟩ := Option.map_eq_some_iff.1 hj
    have := (hat j (Tk.t4 t) (by rw [List.getElem?_map, ht]; rfl)).2.2.1
    rw [show o + j * 4 + 2 = o + 4 * j + 2 by omega, this]
    unfold Tk.t4
    simp only
    rw [hty, mk_toList]
set_option maxHeartbeats 1600000 in
theorem read_any (x : ByteArray) (ws : List ByteArray) (k : Int) (n : Nat) (a : Option Addr) (c : Nat) (w : World) (hn : n = ws.length) (hn2 : n ≤ 2000) (hx : x.size ≤ 65536) (hE : Tk.Errs w) (hs : Strs (fun b => b < w.heap.size) w a ws) (ht : Texts x ws k) :
    Calls Tryz.prog 23 #[.string x, .slice a n c, .int .i64 k] w fun e w' => e = .returned (.bool true) ∧ Below w.heap.size w w' := by
  have HT := Lib.hid (Tk.toks_any x w hx hE)
  have HX := Lib.hid ht
  have HN := Lib.hid hn
  have HS := Lib.hid hs
  clear hn hx hE hs ht
  by_cases hk : k = 1
  · subst hk
    go_enter Tryz.func23, Tryz.ntmps23
    go_upto_region 7 with (go_at_call 41; refine HT.out.mono ?_; rintro e w1 ⟨-, h2, hb1⟩; obtain ⟨v, rfl, hrd⟩ := h2 HX.out.1; have HB1 := Lib.hid hb1; have HRD := Lib.hid hrd; clear h2 hb1 hrd)
    obtain ⟨p, b, o, c1, rfl, hb, hp, hlast, hat⟩ := texts_at HX.out HRD.out
    rw [if_pos rfl, ← HN.out] at hp
    subst hp
    have HAT := Lib.hid hat
    clear hat HRD
    go_wp2_with fail
    go_loopw [11] (fun i wr => ∃ j : Nat, j ≤ p + 1 ∧ i = .int .i64 j ∧ Below w1.heap.size w1 wr) (fun i _ => p + 1 - (intOf i).toNat)
    case atStart => exact ⟨0, Nat.zero_le _, rfl, Below.refl _ _⟩
    case round =>
      obtain ⟨j, hj, rfl, hbel⟩ := hrel
      have HB := Lib.hid hbel
      by_cases hlt : j < p + 1
      · have hjk : j < ws.length := by rw [← HN.out]; exact hlt
        have hu := List.getElem?_eq_getElem hjk
        have q1 := (hbel.cell (p := ⟨b, o + j * 4 + 2, none⟩) hb).trans (HAT.out j _ hu)
        rcases HS.out.2.2 with h0 | ⟨b2, o2, rfl, hb2, hat2⟩
        · rw [h0] at hjk; simp at hjk
        have q2 := (hbel.cell (p := ⟨b2, o2 + j, none⟩) (by have := HB1.out.size; show b2 < _; omega)).trans ((HB1.out.cell (p := ⟨b2, o2 + j, none⟩) hb2).trans (hat2 j _ hu))
        generalize ws[j] = y at *
        clear hu hat2 hbel
        have hi0 : (0 : Int) ≤ (j : Int) := Int.natCast_nonneg _
        have hi1 : (j : Int) < (p : Int) + 1 := by omega
        have hne : (y.toList != y.toList) = false := by simp
        go_wp2_with fail
        go_quiet (fail)
        go_wp2_with fail
        exact ⟨⟨j + 1, by omega, by go_num, HB.out.trans ((below_drewN _ _).mono HB.out.size)⟩, by simp [intOf]; omega⟩
      · obtain rfl : j = p + 1 := by omega
        clear hbel
        go_wp2_with fail
        go_ret
        exact ⟨rfl, HB1.out.trans (HB.out.mono HB1.out.size)⟩
  · obtain ⟨k1, k2⟩ : (k != 1) = true ∧ (k == 1) = false := ⟨by simpa using hk, by simpa using hk⟩
    go_enter Tryz.func23, Tryz.ntmps23
    go_upto_region 7 with (go_at_call 41; refine HT.out.mono ?_; rintro e w1 ⟨-, h2, hb1⟩; obtain ⟨v, rfl, hrd⟩ := h2 HX.out.1; have HB1 := Lib.hid hb1; have HRD := Lib.hid hrd; clear h2 hb1 hrd)
    obtain ⟨p, b, o, c1, rfl, hb, hp, hlast, hat⟩ := texts_at HX.out HRD.out
    rw [if_neg hk, ← HN.out] at hp
    subst hp
    have HAT := Lib.hid hat
    clear hat HRD
    go_wp2_with fail
    go_loopw [11] (fun i wr => ∃ j : Nat, j ≤ n ∧ i = .int .i64 j ∧ Below w1.heap.size w1 wr) (fun i _ => n - (intOf i).toNat)
    case atStart => exact ⟨0, Nat.zero_le _, rfl, Below.refl _ _⟩
    case round =>
      obtain ⟨j, hj, rfl, hbel⟩ := hrel
      have HB := Lib.hid hbel
      by_cases hlt : j < n
      · have hjk : j < ws.length := by rw [← HN.out]; exact hlt
        have hu := List.getElem?_eq_getElem hjk
        have q1 := (hbel.cell (p := ⟨b, o + j * 4 + 2, none⟩) hb).trans (HAT.out j _ hu)
        rcases HS.out.2.2 with h0 | ⟨b2, o2, rfl, hb2, hat2⟩
        · rw [h0] at hjk; simp at hjk
        have q2 := (hbel.cell (p := ⟨b2, o2 + j, none⟩) (by have := HB1.out.size; show b2 < _; omega)).trans ((HB1.out.cell (p := ⟨b2, o2 + j, none⟩) hb2).trans (hat2 j _ hu))
        generalize ws[j] = y at *
        clear hu hat2 hbel
        have hi0 : (0 : Int) ≤ (j : Int) := Int.natCast_nonneg _
        have hi1 : (j : Int) < (n : Int) := by omega
        have hi2 : (j : Int) < (n : Int) + 1 := by omega
        have hne : (y.toList != y.toList) = false := by simp
        go_wp2_with fail
        go_quiet (fail)
        go_wp2_with fail
        exact ⟨⟨j + 1, by omega, by go_num, HB.out.trans ((below_drewN _ _).mono HB.out.size)⟩, by simp [intOf]; omega⟩
      · obtain rfl : j = n := by omega
        clear hbel
        go_wp2_with fail
        go_ret
        exact ⟨rfl, HB1.out.trans (HB.out.mono HB1.out.size)⟩
end Go.Proofs.YtiaajpdcacdngaaGreatDoor.Aw

namespace Go.Proofs.YtiaajpdcacdngaaGreatDoor.Aw
open Go.RowKit
set_option linter.unusedVariables false
set_option linter.unusedSimpArgs false
set_option maxRecDepth 100000

theorem texts_source (t : Pl.Tr) (ws : List ByteArray) (k : Int) (h : Pl.firstE t = 0) (hz : Pl.sz t ≤ 1000000) (hk : t.kind = k) (hw : Pl.words t = ws) : Texts (Pl.mk (Pl.source t)) ws k := by
  obtain ⟨h1, h2⟩ := Pl.source_reads t h hz
  refine ⟨by rw [Pl.mk_list]; exact h1, ?_⟩
  rw [Pl.mk_list, h2, Pl.readT, hk, hw]
theorem texts_bare (t : Pl.Tr) (ws : List ByteArray) (k : Int) (h : Pl.firstE t = 0) (hz : Pl.sz t ≤ 1000000) (hk : t.kind = k) (hw : Pl.words t = ws) : Texts (Pl.mk (Pl.source (Pl.bare t))) ws k :=
  texts_source (Pl.bare t) ws k (Pl.bare_first t h hz) (by rw [Pl.bare_sz]; exact hz) (by rw [← hk]; cases t; rw [Pl.bare]; rfl) (by rw [← hw]; exact Pl.words_bare t 0 _)
set_option maxHeartbeats 1600000 in
theorem tokens_bad (t : Pl.Tr) (r : Sl) (w : World) (hT : Tabs w) (h : IsT w t r) (hc : ¬ Pl.chk t = 0) :
    Calls Tryz.prog 7 #[nv t r] w fun e w' => e = .returned (.bool true) ∧ Below w.heap.size w w' := by
  obtain ⟨v, hv⟩ : ∃ v, v = Pl.chk t := ⟨_, rfl⟩
  rw [← hv] at hc
  obtain ⟨v1, v2⟩ := int_neq2 hc
  have v3 : (v != v) = false := by simp
  have L0 := Lib.hid (lo_new hT (nb t r))
  have N0 := Lib.hid (bx_new h)
  have CK := Lib.hid (fun hl V hV => rcheck_is t v hv.symm hl V r hV)
  have CW := Lib.hid (fun V hV hI => words_bad t V r v hV hI hv.symm hc)
  have CX := Lib.hid (fun V hV hI => text_bad t V r v hV hI hv.symm hc)
  have CP := Lib.hid (fun V hV hI => plain_bad t V r v hV hI hv.symm hc)
  clear hc hv hT h
  go_enter Tryz.func7, Tryz.ntmps7
  go_upto_region 3 with (go_at_call 9; refine (Li.small_at t _ r N0.out.tree).mono ?_; rintro e w1 ⟨b, hl, rfl, hb1⟩; have L1 := Lib.hid (L0.out.later hb1); have N1 := Lib.hid (N0.out.later hb1); obtain ⟨c0, c1, c2, c3⟩ := (N0.out.later hb1).box; clear hb1; rcases b with _ | _; (focus (clear hl; go_wp2_with (go_at_call 10; refine (awake_any _ L1.out.tabs).mono ?_; rintro e w3 ⟨rfl, hb3⟩; have L3 := Lib.hid (L1.out.later hb3); clear hb3); go_ret; exact ⟨rfl, L3.out.low⟩)); have HL := Lib.hid (hl rfl); clear hl)
  go_upto_region 4 with (go_at_call 11; refine (CW.out _ L1.out.tabs N1.out.tree).mono ?_; rintro e w2 ⟨rfl, hb2⟩; have L2 := Lib.hid (L1.out.later hb2); have N2 := Lib.hid (N1.out.later hb2); clear hb2)
  clear c0 c1 c2 c3
  obtain ⟨c0, c1, c2, c3⟩ := N2.out.box
  go_upto_region 5 with (go_at_call 14; refine (CX.out _ L2.out.tabs N2.out.tree).mono ?_; rintro e w3 ⟨rfl, hb3⟩; have L3 := Lib.hid (L2.out.later hb3); have N3 := Lib.hid (N2.out.later hb3); clear hb3)
  clear c0 c1 c2 c3
  obtain ⟨c0, c1, c2, c3⟩ := N3.out.box
  go_upto_region 6 with (go_at_call 16; refine (CP.out _ L3.out.tabs N3.out.tree).mono ?_; rintro e w4 ⟨rfl, hb4⟩; have L4 := Lib.hid (L3.out.later hb4); have N4 := Lib.hid (N3.out.later hb4); clear hb4)
  clear c0 c1 c2 c3
  obtain ⟨c0, c1, c2, c3⟩ := N4.out.box
  go_wp2_with (first
    | (go_at_call 10; refine (awake_any _ L5.out.tabs).mono ?_; rintro e w6 ⟨rfl, hb6⟩; have L6 := Lib.hid (L5.out.later hb6); clear hb6)
    | (go_at_call 21; refine (CK.out HL.out _ N4.out.tree).mono ?_; rintro e w5 ⟨rfl, hb5⟩; have L5 := Lib.hid (L4.out.later hb5); clear hb5))
  go_ret
  exact ⟨rfl, L6.out.low⟩
set_option maxHeartbeats 3200000 in
theorem tokens_ok (t : Pl.Tr) (r : Sl) (w : World) (hT : Tabs w) (hE : Tk.Errs w) (h : IsT w t r) (hc : Pl.chk t = 0) :
    Calls Tryz.prog 7 #[nv t r] w fun e w' => e = .returned (.bool true) ∧ Below w.heap.size w w' := by
  have L0 := Lib.hid (lo_new hT (nb t r))
  have N0 := Lib.hid (bx_new h)
  have CK := Lib.hid (fun hl V hV => rcheck_is t 0 hc hl V r hV)
  have hf := (Pl.chk_zero t hc).2.2.2
  obtain ⟨x, hx⟩ : ∃ x, x = Pl.mk (Pl.source t) := ⟨_, rfl⟩
  obtain ⟨y, hy⟩ : ∃ y, y = Pl.mk (Pl.source (Pl.bare t)) := ⟨_, rfl⟩
  obtain ⟨ws, hw⟩ : ∃ ws, ws = Pl.words t := ⟨_, rfl⟩
  obtain ⟨n, hn⟩ : ∃ n, n = ws.length := ⟨_, rfl⟩
  have CX : Hid (Li.Lit t → ∀ V, Tabs V → IsT V t r → Calls Tryz.prog 14 #[nv t r] V (StrP x V)) := Lib.hid (fun hl V hV hI => text_ok t V r x hV hI hc (by have := hl.1; omega) (text_len t hc hl) hx.symm)
  have CP : Hid (Li.Lit t → ∀ V, Tabs V → IsT V t r → Calls Tryz.prog 16 #[nv t r] V (StrP y V)) := Lib.hid (fun hl V hV hI => plain_ok t V r y hV hI hc (by have := hl.1; omega) (bare_len t hc hl) hy.symm)
  have CW : Hid (Li.Lit t → ∀ V, Tabs V → IsT V t r → Calls Tryz.prog 11 #[nv t r] V fun e w' => ∃ a c, e = .returned (.tuple #[.slice a n c, .int .i64 0]) ∧ Strs (fun b => b < w'.heap.size) w' a ws ∧ Below V.heap.size V w') := Lib.hid (fun hl V hV hI => (words_ok t V r n hV hI hc (by have := hl.1; omega) (by rw [hn, hw])).mono fun e w' ⟨a, c, h1, h2, h3⟩ => ⟨a, c, h1, by rw [hw]; exact h2.keep (Same.refl _ _) (fun b hb => hb.2), h3⟩)
  have CR : Hid (Li.Lit t → ∀ V a c, Tk.Errs V → Strs (fun b => b < V.heap.size) V a ws → (Calls Tryz.prog 23 #[.string x, .slice a n c, .int .i64 t.kind] V fun e w' => e = .returned (.bool true) ∧ Below V.heap.size V w') ∧ (Calls Tryz.prog 23 #[.string y, .slice a n c, .int .i64 t.kind] V fun e w' => e = .returned (.bool true) ∧ Below V.heap.size V w')) := Lib.hid (fun hl V a c hEV hs => by
    have hn2 : n ≤ 2000 := by
      have e1 := Pl.words_len t hf
      have e2 := Pl.many_le t hf
      have := hl.1
      rw [hn, hw]; omega
    refine ⟨read_any x ws t.kind n a c V hn hn2 ?_ hEV hs ?_, read_any y ws t.kind n a c V hn hn2 ?_ hEV hs ?_⟩
    · rw [hx, Pl.mk_size]; exact text_len t hc hl
    · rw [hx]; exact texts_source t ws t.kind hf (by have := hl.1; omega) rfl hw.symm
    · rw [hy, Pl.mk_size]; exact bare_len t hc hl
    · rw [hy]; exact texts_bare t ws t.kind hf (by have := hl.1; omega) rfl hw.symm)
  have HE := Lib.hid hE
  clear hx hy hw hn hf hc hT h hE
  go_enter Tryz.func7, Tryz.ntmps7
  go_upto_region 3 with (go_at_call 9; refine (Li.small_at t _ r N0.out.tree).mono ?_; rintro e w1 ⟨b, hl, rfl, hb1⟩; have L1 := Lib.hid (L0.out.later hb1); have N1 := Lib.hid (N0.out.later hb1); obtain ⟨c0, c1, c2, c3⟩ := (N0.out.later hb1).box; clear hb1; rcases b with _ | _; (focus (clear hl; go_wp2_with (go_at_call 10; refine (awake_any _ L1.out.tabs).mono ?_; rintro e w3 ⟨rfl, hb3⟩; have L3 := Lib.hid (L1.out.later hb3); clear hb3); go_ret; exact ⟨rfl, L3.out.low⟩)); have HL := Lib.hid (hl rfl); clear hl)
  go_upto_region 4 with (go_at_call 11; refine (CW.out HL.out _ L1.out.tabs N1.out.tree).mono ?_; rintro e w2 ⟨wa, wc, rfl, hs2, hb2⟩; have S2 := Lib.hid hs2; have L2 := Lib.hid (L1.out.later hb2); have N2 := Lib.hid (N1.out.later hb2); clear hb2 hs2)
  clear c0 c1 c2 c3
  obtain ⟨c0, c1, c2, c3⟩ := N2.out.box
  go_upto_region 5 with (go_at_call 14; refine (CX.out HL.out _ L2.out.tabs N2.out.tree).mono ?_; rintro e w3 ⟨rfl, hb3⟩; have S3 := Lib.hid (S2.out.later hb3); have L3 := Lib.hid (L2.out.later hb3); have N3 := Lib.hid (N2.out.later hb3); clear hb3)
  clear c0 c1 c2 c3
  obtain ⟨c0, c1, c2, c3⟩ := N3.out.box
  go_upto_region 6 with (go_at_call 16; refine (CP.out HL.out _ L3.out.tabs N3.out.tree).mono ?_; rintro e w4 ⟨rfl, hb4⟩; have S4 := Lib.hid (S3.out.later hb4); have L4 := Lib.hid (L3.out.later hb4); have N4 := Lib.hid (N3.out.later hb4); clear hb4)
  clear c0 c1 c2 c3
  obtain ⟨c0, c1, c2, c3⟩ := N4.out.box
  go_upto_region 10 with (go_at_call 21; refine (CK.out HL.out _ N4.out.tree).mono ?_; rintro e w5 ⟨rfl, hb5⟩; have S5 := Lib.hid (S4.out.later hb5); have L5 := Lib.hid (L4.out.later hb5); have N5 := Lib.hid (N4.out.later hb5); clear hb5)
  clear c0 c1 c2 c3
  obtain ⟨c0, c1, c2, c3⟩ := N5.out.box
  go_wp2_with (first
    | (go_at_call 10; refine (awake_any _ L7.out.tabs).mono ?_; rintro e w8 ⟨rfl, hb8⟩; have L8 := Lib.hid (L7.out.later hb8); clear hb8)
    | (go_at_call 23; refine (CR.out HL.out _ wa wc (HE.out.later L6.out.low) S6.out).2.mono ?_; rintro e w7 ⟨rfl, hb7⟩; have L7 := Lib.hid (L6.out.later hb7); clear hb7)
    | (go_at_call 23; refine (CR.out HL.out _ wa wc (HE.out.later L5.out.low) S5.out).1.mono ?_; rintro e w6 ⟨rfl, hb6⟩; have S6 := Lib.hid (S5.out.later hb6); have L6 := Lib.hid (L5.out.later hb6); clear c0 c1 c2 c3; obtain ⟨c0, c1, c2, c3⟩ := (N5.out.later hb6).box; clear hb6))
  go_ret
  exact ⟨rfl, L8.out.low⟩
theorem tokens_any (t : Pl.Tr) (r : Sl) (w : World) (hT : Tabs w) (hE : Tk.Errs w) (h : IsT w t r) :
    Calls Tryz.prog 7 #[nv t r] w fun e w' => e = .returned (.bool true) ∧ Below w.heap.size w w' := by
  by_cases hc : Pl.chk t = 0
  · exact tokens_ok t r w hT hE h hc
  · exact tokens_bad t r w hT h hc
end Go.Proofs.YtiaajpdcacdngaaGreatDoor.Aw

namespace Go.Proofs.YtiaajpdcacdngaaGreatDoor
open Go.RowKit
set_option linter.unusedVariables false
theorem lawTokens (t : Pl.Tr) (r : Sl) (w : World) (hT : Tabs w ∧ Tk.Errs w) (h : IsT w t r) :
    Calls Tryz.prog 7 #[.agg #[.int .i64 t.kind, .string t.text, .slice r.ga t.gaps.length r.gc, .slice r.da t.kids.length r.dc]] w fun e w' => e = .returned (.bool true) ∧ Below w.heap.size w w' := Aw.tokens_any t r w hT.1 hT.2 h
end Go.Proofs.YtiaajpdcacdngaaGreatDoor
