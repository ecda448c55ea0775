/- The walks of the printer's reference: Words, Text, Plain; the law's comparison of lists. -/
import Derived.Test.YtiaajpdcacdngaaGreatDoorRWrite
import Derived.Test.YtiaajpdcacdngaaGreatDoorRBare
import Derived.Deep.QuietTactic
namespace Go.Proofs.YtiaajpdcacdngaaGreatDoor.Pl
open Go
theorem bare_szw (t : Tr) : szw (bare t) = szw t := by rw [← lay_szw (bare t) 0 ⟨#[]⟩, bare_lay, lay_szw]
theorem bare_htw (t : Tr) : htw (bare t) = htw t := by rw [← lay_htw (bare t) 0 ⟨#[]⟩, bare_lay, lay_htw]
theorem bare_crowd (t : Tr) : crowd (bare t) = crowd t := by rw [← lay_crowd (bare t) 0 ⟨#[]⟩, bare_lay, lay_crowd]
theorem bare_chk (t : Tr) (h : chk t = 0) (hz : sz t ≤ 1000000) : chk (bare t) = 0 := by
  obtain ⟨h1, h2, h3, h4⟩ := chk_zero t h
  rw [chk_of _ (by rw [bare_szw]; exact h1) (by rw [bare_htw]; exact h2) (by rw [bare_crowd]; exact h3)]
  exact bare_first t h4 hz
end Go.Proofs.YtiaajpdcacdngaaGreatDoor.Pl
namespace Go.Proofs.YtiaajpdcacdngaaGreatDoor.Rf
open Go.RowKit Go.Proofs.YtiaajpdcacdngaaGreatDoor.Aw
set_option linter.unusedVariables false
set_option linter.unusedSimpArgs false
set_option maxRecDepth 100000

theorem grown_none {w w' : World} (h : w.grownBy w' none) : Below w.heap.size w w' := ⟨h.os, h.tape, h.output, h.size, fun k hk => h.block k hk (by simp)⟩
theorem lit_bare {t : Pl.Tr} (hl : Li.Lit t) : Li.Lit (Pl.bare t) := ⟨by rw [Pl.bare_sz]; exact hl.1, by have := wt_bare t; have := hl.2; omega⟩
/-- A gathered list, read. -/
theorem row_strs {B : Nat} {w : World} {a : Option Addr} {n c : Nat} {xs : List ByteArray} (h : w.ownsRow B 9 1 (.slice a n c) n (strV xs)) (hn : n = xs.length) (hx : ∀ x ∈ xs, x.size ≤ 1000000) (hl : xs.length ≤ 1000000) : Strs (fun b => b < w.heap.size) w a xs := by
  refine ⟨by unfold maxLen; omega, fun x hm => by have := hx x hm; unfold maxLen; omega, ?_⟩
  rcases Nat.eq_zero_or_pos xs.length with h0 | h0
  · exact .inl (List.eq_nil_of_length_eq_zero h0)
  · obtain ⟨g, rfl, h1, h2, h3⟩ := owns_addr h (by omega)
    refine .inr ⟨g, 0, rfl, h2, fun j x hj => ?_⟩
    have := h3 j (.string x) (by unfold strV; rw [List.getElem?_map, hj]; rfl)
    have hadd : (⟨g, 0, none⟩ : Addr).add j = ⟨g, j, none⟩ := by unfold Addr.add; split <;> simp_all
    rw [hadd] at this
    rw [Nat.zero_add]; exact this
theorem sq_source (t : Pl.Tr) : Pl.Sq ⟨#[]⟩ ⟨#[]⟩ (Pl.evT t 0 ⟨#[]⟩) = Pl.mk (Pl.source t) := Pl.list_ext (by
  rw [Pl.Sq, Pl.app_data]; rfl)

/- ### Words -/
set_option maxHeartbeats 800000 in
theorem rWords_bad (t : Pl.Tr) (w : World) (r : Sl) (v : Int) (h : IsT w t r) (hc : Pl.chk t = v) (hv : v ≠ 0) (hl : Li.Lit t) :
    Calls Tryz.prog 12 #[nv t r] w fun e w' => e = .returned (.tuple #[.slice none 0 0, .int .i64 v]) ∧ Below w.heap.size w w' := by
  have HC := Lib.hid (fun w2 (hb : Below w.heap.size w w2) => rcheck_is t v hc hl w2 r (h.later hb))
  obtain ⟨v1, v2⟩ := int_neq2 hv
  have B0 := Lib.hid (box_low w (nb t r))
  clear h hc hv hl
  go_enter Tryz.func12, Tryz.ntmps12
  go_wp2_with (go_at_call 21; refine (HC.out _ B0.out).mono ?_; rintro e w1 ⟨rfl, hb1⟩)
  go_ret2
  exact ⟨rfl, B0.out.trans (hb1.mono B0.out.size)⟩
/-- What Words answers. -/
def RWsP (t : Pl.Tr) (n : Nat) (w : World) (e : Ending) (w' : World) : Prop := ∃ a c, e = .returned (.tuple #[.slice a n c, .int .i64 0]) ∧ Strs (fun b => b < w'.heap.size) w' a (Pl.words t) ∧ Below w.heap.size w w'
set_option maxHeartbeats 800000 in
theorem rWords_ok (t : Pl.Tr) (w : World) (r : Sl) (n : Nat) (h : IsT w t r) (hc : Pl.chk t = 0) (hl : Li.Lit t) (hn : n = (Pl.words t).length) :
    Calls Tryz.prog 12 #[nv t r] w (RWsP t n w) := by
  have hf := (Pl.chk_zero t hc).2.2.2
  have hz : Pl.sz t ≤ 100000 := by have := hl.1; omega
  have hwl : (Pl.words t).length ≤ 100000 := by rw [Pl.words_len t hf]; have := Pl.many_le t hf; have := hl.1; omega
  have HC := Lib.hid (fun w2 (hb : Below w.heap.size w w2) => rcheck_is t 0 hc hl w2 r (h.later hb))
  have HW := Lib.hid (fun w2 (hb : Below w.heap.size w w2) => rwords_at (h.later hb) 0 ⟨#[]⟩ none 0 0 [] w2 (Same.refl _ _) (fun b hb => ⟨hb, by simp [Value.ownBlock]⟩) hf hz rfl (by
    have : (Pl.evT t 0 ⟨#[]⟩).length = (Pl.words t).length := by unfold Pl.words; rw [List.length_map]
    rw [this]; simpa using hwl) (World.ownsRow_nil _ _ _ _))
  have HX := Lib.hid (Pl.words_le t hf (by omega))
  have HL := Lib.hid hwl
  have HN := Lib.hid hn
  have B0 := Lib.hid (box_low w (nb t r))
  have A0 := Lib.hid (box_at t r w)
  clear h hc hl hf hz hwl hn
  go_enter Tryz.func12, Tryz.ntmps12
  go_wp2_with (first
    | (go_at_call 21; refine (HC.out _ B0.out).mono ?_; rintro e w1 ⟨rfl, hb1⟩; have HB1 := Lib.hid (B0.out.trans (hb1.mono B0.out.size)); obtain ⟨c0, c1, c2, c3⟩ := at4_below A0.out hb1; clear hb1)
    | (go_at_call 31; refine (HW.out _ HB1.out).mono ?_; rintro e w2 ⟨a2, n2, c2', rfl, hn2, ho2, hg2, hv2⟩; have HN2 := Lib.hid hn2; have HO2 := Lib.hid ho2; have HG2 := Lib.hid hg2; clear hn2 ho2 hg2 hv2))
  go_ret2
  have hn2 := HN2.out
  have ho2 := HO2.out
  have hws : (([] : List ByteArray) ++ (Pl.evT t 0 ⟨#[]⟩).map (·.text)) = Pl.words t := by rw [List.nil_append]; rfl
  rw [hws] at hn2 ho2
  have hnn : n2 = n := by rw [hn2, HN.out]
  subst hnn
  exact ⟨a2, c2', rfl, row_strs ho2 hn2 (fun x hx => by have := HX.out x hx; omega) (by have := HL.out; omega), HB1.out.trans ((grown_none HG2.out).mono HB1.out.size)⟩

/- ### Text -/
set_option maxHeartbeats 800000 in
theorem rText_bad (t : Pl.Tr) (w : World) (r : Sl) (v : Int) (h : IsT w t r) (hc : Pl.chk t = v) (hv : v ≠ 0) (hl : Li.Lit t) :
    Calls Tryz.prog 15 #[nv t r] w fun e w' => e = .returned (.tuple #[.string ⟨#[]⟩, .int .i64 v]) ∧ Below w.heap.size w w' := by
  have HC := Lib.hid (fun w2 (hb : Below w.heap.size w w2) => rcheck_is t v hc hl w2 r (h.later hb))
  obtain ⟨v1, v2⟩ := int_neq2 hv
  have B0 := Lib.hid (box_low w (nb t r))
  clear h hc hv hl
  go_enter Tryz.func15, Tryz.ntmps15
  go_wp2_with (go_at_call 21; refine (HC.out _ B0.out).mono ?_; rintro e w1 ⟨rfl, hb1⟩)
  go_ret2
  exact ⟨rfl, B0.out.trans (hb1.mono B0.out.size)⟩
set_option maxHeartbeats 800000 in
theorem rText_ok (t : Pl.Tr) (w : World) (r : Sl) (x : ByteArray) (h : IsT w t r) (hc : Pl.chk t = 0) (hl : Li.Lit t) (hx : Pl.mk (Pl.source t) = x) :
    Calls Tryz.prog 15 #[nv t r] w (StrP x w) := by
  have hf := (Pl.chk_zero t hc).2.2.2
  have hz : Pl.sz t ≤ 100000 := by have := hl.1; omega
  have hht := Pl.chk_ht t hc (by omega)
  have hlen := text_len t hc hl
  have HC := Lib.hid (fun w2 (hb : Below w.heap.size w w2) => rcheck_is t 0 hc hl w2 r (h.later hb))
  have HW := Lib.hid (fun w2 (hb : Below w.heap.size w w2) => write_at (h.later hb) 0 ⟨#[]⟩ ⟨#[]⟩ ⟨#[]⟩ w2 (Same.refl _ _) (fun b hb => hb) hf hz (by omega) (by decide) (by
    have e : (Pl.src ⟨#[]⟩ (Pl.evT t 0 ⟨#[]⟩)).length = (Pl.source t).length := rfl
    rw [e]; show 0 + _ ≤ _; omega))
  have hxs : x.size ≤ 65536 := by rw [← hx, Pl.mk_size]; exact hlen
  have hd : ¬ (65536 : Int) < (x.size : Int) := by omega
  have hd2 : ¬ 65536 < x.size := by omega
  rw [sq_source, hx] at HW
  have B0 := Lib.hid (box_low w (nb t r))
  have A0 := Lib.hid (box_at t r w)
  clear h hc hl hf hz hht hlen hx
  generalize Pl.lastW ⟨#[]⟩ (Pl.evT t 0 ⟨#[]⟩) = lw at *
  go_enter Tryz.func15, Tryz.ntmps15
  go_wp2_with (first
    | (go_at_call 21; refine (HC.out _ B0.out).mono ?_; rintro e w1 ⟨rfl, hb1⟩; have HB1 := Lib.hid (B0.out.trans (hb1.mono B0.out.size)); obtain ⟨c0, c1, c2, c3⟩ := at4_below A0.out hb1; clear hb1)
    | (go_at_call 33; refine (HW.out _ HB1.out).mono ?_; rintro e w2 ⟨rfl, hb2⟩))
  go_ret2
  exact ⟨rfl, HB1.out.trans (hb2.mono HB1.out.size)⟩

/- ### Plain -/
set_option maxHeartbeats 800000 in
theorem rPlain_bad (t : Pl.Tr) (w : World) (r : Sl) (v : Int) (h : IsT w t r) (hc : Pl.chk t = v) (hv : v ≠ 0) (hl : Li.Lit t) :
    Calls Tryz.prog 17 #[nv t r] w fun e w' => e = .returned (.tuple #[.string ⟨#[]⟩, .int .i64 v]) ∧ Below w.heap.size w w' := by
  have HC := Lib.hid (fun w2 (hb : Below w.heap.size w w2) => rcheck_is t v hc hl w2 r (h.later hb))
  obtain ⟨v1, v2⟩ := int_neq2 hv
  have B0 := Lib.hid (box_low w (nb t r))
  clear h hc hv hl
  go_enter Tryz.func17, Tryz.ntmps17
  go_wp2_with (go_at_call 21; refine (HC.out _ B0.out).mono ?_; rintro e w1 ⟨rfl, hb1⟩)
  go_ret2
  exact ⟨rfl, B0.out.trans (hb1.mono B0.out.size)⟩
set_option maxHeartbeats 800000 in
theorem rPlain_ok (t : Pl.Tr) (w : World) (r : Sl) (x : ByteArray) (h : IsT w t r) (hc : Pl.chk t = 0) (hl : Li.Lit t) (hx : Pl.mk (Pl.source (Pl.bare t)) = x) :
    Calls Tryz.prog 17 #[nv t r] w (StrP x w) := by
  have hz : Pl.sz t ≤ 100000 := by have := hl.1; omega
  have HC := Lib.hid (fun w2 (hb : Below w.heap.size w w2) => rcheck_is t 0 hc hl w2 r (h.later hb))
  have HBr := Lib.hid (fun w2 (hb : Below w.heap.size w w2) => rbare_at (h.later hb) (fun b hb => hb) w2 (Same.refl _ _) (Nat.le_refl _) (by omega))
  have HT := Lib.hid (fun w2 r2 (h2 : IsT w2 (Pl.bare t) r2) => rText_ok (Pl.bare t) w2 r2 x h2 (Pl.bare_chk t hc (by omega)) (lit_bare hl) hx)
  have B0 := Lib.hid (box_low w (nb t r))
  have A0 := Lib.hid (box_at t r w)
  clear h hc hl hz hx
  go_enter Tryz.func17, Tryz.ntmps17
  go_wp2_with (first
    | (go_at_call 21; refine (HC.out _ B0.out).mono ?_; rintro e w1 ⟨rfl, hb1⟩; have HB1 := Lib.hid (B0.out.trans (hb1.mono B0.out.size)); obtain ⟨c0, c1, c2, c3⟩ := at4_below A0.out hb1; clear hb1)
    | (go_at_call 35; refine (HBr.out _ HB1.out).mono ?_; rintro e w2 ⟨⟨ga2, gc2, da2, dc2⟩, rfl, ht2, hb2⟩; have HT2 := Lib.hid (ht2.isT fun b hb => hb.2); have HB2 := Lib.hid (HB1.out.trans (hb2.mono HB1.out.size)); clear ht2 hb2)
    | (go_at_call 15; refine (HT.out _ ⟨ga2, gc2, da2, dc2⟩ HT2.out).mono ?_; rintro e w3 ⟨rfl, hb3⟩))
  go_ret2
  exact ⟨rfl, HB2.out.trans (hb3.mono HB2.out.size)⟩

/- ### same -/
set_option maxHeartbeats 1600000 in
theorem lsame_any (n : Nat) (a b : Option Addr) (c d : Nat) (xs : List ByteArray) (w : World) (hn : n = xs.length) (hn2 : n ≤ 1000000) (hx : Strs (fun b => b < w.heap.size) w a xs) (hy : Strs (fun b => b < w.heap.size) w b xs) :
    Calls Tryz.prog 13 #[.slice a n c, .slice b n d] w fun e w' => e = .returned (.bool true) ∧ Below w.heap.size w w' := by
  have HN := Lib.hid hn
  have HX := Lib.hid hx
  have HY := Lib.hid hy
  have hne0 : (n != n) = false := by simp
  have hne1 : ((n : Int) != (n : Int)) = false := by simp
  clear hn hx hy
  go_enter Tryz.func13, Tryz.ntmps13
  go_wp2_with fail
  go_loopw [5] (fun i wr => ∃ j : Nat, j ≤ n ∧ i = .int .i64 j ∧ Below w.heap.size w wr) (fun i _ => n - (intOf i).toNat)
  case atStart => exact ⟨0, Nat.zero_le _, rfl, Below.refl _ _⟩
  case round =>
    obtain ⟨j, hj, rfl, hbel⟩ := hrel
    have HB := Lib.hid hbel
    by_cases hlt : j < n
    · have hjk : j < xs.length := by rw [← HN.out]; exact hlt
      have hu := List.getElem?_eq_getElem hjk
      rcases HX.out.2.2 with h0 | ⟨b1, o1, rfl, hb1, hat1⟩
      · rw [h0] at hjk; simp at hjk
      rcases HY.out.2.2 with h0 | ⟨b2, o2, rfl, hb2, hat2⟩
      · rw [h0] at hjk; simp at hjk
      have q1 := (hbel.cell (p := ⟨b1, o1 + j, none⟩) hb1).trans (hat1 j _ hu)
      have q2 := (hbel.cell (p := ⟨b2, o2 + j, none⟩) hb2).trans (hat2 j _ hu)
      generalize xs[j] = y at *
      clear hu hat1 hat2 hbel
      have hi0 : (0 : Int) ≤ (j : Int) := Int.natCast_nonneg _
      have hi1 : (j : Int) < (n : Int) := by omega
      have hne : (y.toList != y.toList) = false := by simp
      go_wp2_with fail
      go_quiet (fail)
      go_wp2_with fail
      exact ⟨⟨j + 1, by omega, by go_num, HB.out.trans ((below_drewN _ _).mono HB.out.size)⟩, by simp [intOf]; omega⟩
    · have HJ : Hid (j = n) := Lib.hid (by omega)
      have hlt2 : ¬ (j : Int) < (n : Int) := by omega
      clear hbel
      go_wp2_with fail
      go_ret
      exact ⟨rfl, HB.out⟩
end Go.Proofs.YtiaajpdcacdngaaGreatDoor.Rf
