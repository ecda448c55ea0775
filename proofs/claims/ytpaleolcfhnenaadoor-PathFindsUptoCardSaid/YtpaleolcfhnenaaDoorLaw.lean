/- What the laws' walks keep; what the package's functions answer. -/
import Derived.Test.YtpaleolcfhnenaaDoorRRem
import Derived.Test.YtpaleolcfhnenaaDoorGap
namespace Go.Proofs.YtpaleolcfhnenaaDoor.Rt
open Go.RowKit
set_option linter.unusedVariables false
set_option linter.unusedSimpArgs false
set_option maxRecDepth 100000

/-- A node as a value, in a box. -/
abbrev nvx (t : Pl.Tr) (r : Sl) : Value := .agg #[.int .i64 t.kind, .string t.text, .slice r.ga t.gaps.length r.gc, .slice r.da t.kids.length r.dc]
abbrev nb (t : Pl.Tr) (r : Sl) : Obj := .cells #[.int .i64 t.kind, .string t.text, .slice r.ga t.gaps.length r.gc, .slice r.da t.kids.length r.dc] 25
structure Bx (b : Nat) (t : Pl.Tr) (r : Sl) (V : World) : Prop where
  box : At4 V b 0 t.kind t.text (.slice r.ga t.gaps.length r.gc) (.slice r.da t.kids.length r.dc)
  tree : IsT V t r
theorem Bx.later {b : Nat} {t : Pl.Tr} {r : Sl} {V V' : World} (h : Bx b t r V) (hb : Below V.heap.size V V') : Bx b t r V' := ⟨at4_below h.box hb, h.tree.later hb⟩
theorem bx_new {t : Pl.Tr} {r : Sl} {V : World} (h : IsT V t r) : Bx V.heap.size t r (V.alloc (nb t r)) := ⟨at4_new V t.kind t.text _ _, h.later (box_below _ _)⟩
structure Lo (w V : World) : Prop where
  low : Below w.heap.size w V
  tabs : Tabs V
theorem Lo.later {w V V' : World} (h : Lo w V) (hb : Below V.heap.size V V') : Lo w V' := ⟨h.low.trans (hb.mono h.low.size), h.tabs.later hb⟩
theorem lo_new {w : World} (h : Tabs w) (o : Obj) : Lo w (w.alloc o) := ⟨box_below w o, h.later (box_below w o)⟩
/-- A list of numbers that lies in a world. -/
def IsI (w : World) (a : Option Addr) (p : List Int) : Prop := Ints (fun b => b < w.heap.size) w a p
theorem IsI.later {w w' : World} {a : Option Addr} {p : List Int} (h : IsI w a p) (hb : Below w.heap.size w w') : IsI w' a p := h.keep (Same.below hb fun _ h => h) fun b h => Nat.lt_of_lt_of_le h hb.size

/-- What Get answers. -/
def GetR (t : Pl.Tr) (p : List Int) (w1 : World) (e : Ending) (w' : World) : Prop :=
  Below w1.heap.size w1 w' ∧ ∃ (E : Int) (u : Pl.Tr) (r : Sl), IsT w' u r ∧ (E = 0 ∧ Pl.getP p t = some u ∨ E = 5 ∧ Pl.getP p t = none ∧ u = zeroT) ∧ e = .returned (.tuple #[nvx u r, .int .i64 E])
theorem getr_of {t : Pl.Tr} {p : List Int} {w w1 w' : World} {P : Nat → Prop} {e : Ending} (h : GetP P w t p w1 e w') (hs : Same P w w1) (hP : ∀ b, P b → b < w1.heap.size) : GetR t p w1 e w' := by
  obtain ⟨h1, ⟨u, r, hu, ht, he⟩ | ⟨hn, he⟩⟩ := h
  · exact ⟨h1, 0, u, r, ht.keep (hs.trans (Same.below h1 hP)) (fun b hb => Nat.lt_of_lt_of_le (hP b hb) h1.size), .inl ⟨rfl, hu⟩, he⟩
  · exact ⟨h1, 5, zeroT, ⟨none, 0, none, 0⟩, isT_zero _, .inr ⟨rfl, hn, rfl⟩, he⟩
/-- What Replace, Insert and Remove answer. -/
def ResR (E : Int) (T : Pl.Tr) (w1 : World) (e : Ending) (w' : World) : Prop :=
  Below w1.heap.size w1 w' ∧ ∃ (u : Pl.Tr) (r : Sl), IsT w' u r ∧ (E = 0 → u = T) ∧ (E ≠ 0 → u = zeroT) ∧ e = .returned (.tuple #[nvx u r, .int .i64 E])
theorem resr_of {E : Int} {T : Pl.Tr} {w1 w' : World} {e : Ending} (h : ResP E T w1 e w') : ResR E T w1 e w' := by
  obtain ⟨h1, ⟨hE, r, ht, he⟩ | ⟨hE, he⟩⟩ := h
  · exact ⟨h1, T, r, ht, fun _ => rfl, fun h => absurd hE h, by rw [hE]; exact he⟩
  · exact ⟨h1, zeroT, ⟨none, 0, none, 0⟩, isT_zero _, fun h => absurd h hE, fun _ => rfl, he⟩
/-- The package's functions. -/
structure Prog : Prop where
  of : ∀ (t : Pl.Tr) (r : Sl) (i : Int) (W : World), Tabs W → IsT W t r → Pl.sz t ≤ 10000 → i ≤ 9223372036854775807 → -9223372036854775808 ≤ i → Calls Tryd.prog 11 #[nvx t r, .int .i64 i] W (OfP t i W)
  index : ∀ (t : Pl.Tr) (r : Sl) (p : List Int) (a : Option Addr) (c : Nat) (W : World), Tabs W → IsT W t r → IsI W a p → p.length ≤ c → Pl.sz t ≤ 10000 → Calls Tryd.prog 13 #[nvx t r, .slice a p.length c] W (IndexP t p W)
  get : ∀ (t : Pl.Tr) (r : Sl) (p : List Int) (a : Option Addr) (c : Nat) (W : World), Tabs W → IsT W t r → IsI W a p → p.length ≤ c → Pl.sz t ≤ 10000 → (∀ u, Pl.getP p t = some u → Pl.GB u) → Calls Tryd.prog 15 #[nvx t r, .slice a p.length c] W (GetR t p W)
  replace : ∀ (t x : Pl.Tr) (r rx : Sl) (p : List Int) (a : Option Addr) (c : Nat) (W : World), Tabs W → IsT W t r → IsT W x rx → IsI W a p → p.length ≤ c → Pl.sz t ≤ 10000 → Pl.sz x ≤ 10000 → Calls Tryd.prog 19 #[nvx t r, .slice a p.length c, nvx x rx] W (ResR (Pl.replE t p x) (Pl.putP x p t) W)
  insert : ∀ (t x : Pl.Tr) (r rx : Sl) (p : List Int) (a : Option Addr) (c : Nat) (W : World), Tabs W → IsT W t r → IsT W x rx → IsI W a p → p.length ≤ c → Pl.sz t ≤ 10000 → Pl.sz x ≤ 10000 → Calls Tryd.prog 21 #[nvx t r, .slice a p.length c, nvx x rx] W (ResR (Pl.insE t p x) (Pl.insT t p x) W)
  remove : ∀ (t : Pl.Tr) (r : Sl) (p : List Int) (a : Option Addr) (c : Nat) (W : World), Tabs W → IsT W t r → IsI W a p → p.length ≤ c → Pl.sz t ≤ 10000 → Calls Tryd.prog 23 #[nvx t r, .slice a p.length c] W (ResR (Pl.remE t p) (Pl.remT t p) W)
  awake : ∀ (W : World), Tabs W → Calls Tryd.prog 10 #[] W fun e w' => e = .returned (.bool true) ∧ Below W.heap.size W w'

/- ### The answers, each as one way -/
def OfU (p : List Int) (b : Bool) (w1 : World) (e : Ending) (w' : World) : Prop := Below w1.heap.size w1 w' ∧ ∃ (a : Option Addr) (c : Nat), Hid (IsI w' a p ∧ p.length ≤ c) ∧ e = .returned (.tuple #[.slice a p.length c, .bool b])
theorem of_u (t : Pl.Tr) (i : Int) : ∃ (p : List Int) (b : Bool), p.length ≤ Pl.sz t ∧ ∀ w1 e w', OfP t i w1 e w' → OfU p b w1 e w' := by
  by_cases hn : i < 0 ∨ (Pl.sz t : Int) ≤ i
  · refine ⟨[], false, Nat.zero_le _, fun w1 e w' h => ⟨h.1, ?_⟩⟩
    rcases h.2 with ⟨n, p, a, c, hin, _, hp, _⟩ | ⟨_, he⟩
    · exfalso; have := Pl.idx_lt hp; omega
    · exact ⟨none, 0, Lib.hid ⟨ints_nil _ _ _, Nat.zero_le _⟩, he⟩
  · obtain ⟨n, rfl⟩ : ∃ n : Nat, i = n := ⟨i.toNat, by omega⟩
    obtain ⟨p, hp⟩ := Pl.has_path t n (by omega)
    refine ⟨p, true, by have := Pl.path_len hp; omega, fun w1 e w' h => ⟨h.1, ?_⟩⟩
    rcases h.2 with ⟨m, q, a, c, hin, hc, hq, hI, he⟩ | ⟨h1, _⟩
    · obtain rfl : m = n := by omega
      obtain rfl := Pl.idx_inj hq hp
      exact ⟨a, c, Lib.hid ⟨hI.keep (Same.refl _ _) (fun b hb => hb.2), hc⟩, he⟩
    · exact absurd h1 hn
def IndexU (x : Int) (b : Bool) (w1 : World) (e : Ending) (w' : World) : Prop := Below w1.heap.size w1 w' ∧ e = .returned (.tuple #[.int .i64 x, .bool b])
theorem index_u (t : Pl.Tr) (p : List Int) : ∃ (x : Int) (b : Bool), ∀ w1 e w', IndexP t p w1 e w' → IndexU x b w1 e w' := by
  cases hx : Pl.idxP p t with
  | none =>
    refine ⟨0, false, fun w1 e w' h => ⟨h.1, ?_⟩⟩
    rcases h.2 with ⟨x, h2, _⟩ | ⟨_, he⟩
    · rw [hx] at h2; cases h2
    · exact he
  | some n =>
    refine ⟨n, true, fun w1 e w' h => ⟨h.1, ?_⟩⟩
    rcases h.2 with ⟨x, h2, he⟩ | ⟨h2, _⟩
    · rw [hx, Option.some.injEq] at h2; rw [he, h2]
    · rw [hx] at h2; cases h2
def GetU (E : Int) (u : Pl.Tr) (w1 : World) (e : Ending) (w' : World) : Prop := Below w1.heap.size w1 w' ∧ ∃ r : Sl, Hid (IsT w' u r) ∧ e = .returned (.tuple #[nvx u r, .int .i64 E])
theorem get_some_u {t u : Pl.Tr} {p : List Int} (hu : Pl.getP p t = some u) {w1 w' : World} {e : Ending} (h : GetR t p w1 e w') : GetU 0 u w1 e w' := by
  obtain ⟨h1, E, v, r, hv, ⟨rfl, h2⟩ | ⟨_, h2, _⟩, he⟩ := h
  · obtain rfl := Option.some.inj (h2.symm.trans hu)
    exact ⟨h1, r, Lib.hid hv, he⟩
  · rw [hu] at h2; cases h2
theorem get_none_u {t : Pl.Tr} {p : List Int} (hu : Pl.getP p t = none) {w1 w' : World} {e : Ending} (h : GetR t p w1 e w') : GetU 5 zeroT w1 e w' := by
  obtain ⟨h1, E, v, r, hv, ⟨_, h2⟩ | ⟨rfl, _, rfl⟩, he⟩ := h
  · rw [hu] at h2; cases h2
  · exact ⟨h1, r, Lib.hid hv, he⟩
theorem get_u (t : Pl.Tr) (p : List Int) : ∃ (E : Int) (u : Pl.Tr), ∀ w1 e w', GetR t p w1 e w' → GetU E u w1 e w' := by
  cases hu : Pl.getP p t with
  | none => exact ⟨5, zeroT, fun w1 e w' h => get_none_u hu h⟩
  | some u => exact ⟨0, u, fun w1 e w' h => get_some_u hu h⟩
theorem res_u {E : Int} {T : Pl.Tr} {w1 w' : World} {e : Ending} (h : ResR E T w1 e w') : GetU E (if E = 0 then T else zeroT) w1 e w' := by
  obtain ⟨h1, u, r, hv, h2, h3, he⟩ := h
  by_cases hE : E = 0
  · rw [if_pos hE, ← h2 hE]; exact ⟨h1, r, Lib.hid hv, he⟩
  · rw [if_neg hE, ← h3 hE]; exact ⟨h1, r, Lib.hid hv, he⟩

/- ### The reference's functions, at a world as it is -/
theorem rget_is (t : Pl.Tr) (r : Sl) (p : List Int) (a : Option Addr) (c : Nat) (W : World) (ht : IsT W t r) (hp : IsI W a p) : Calls Tryd.prog 16 #[nvx t r, .slice a p.length c] W (GetR t p W) :=
  (rget_at ht (fun _ h => h) p a c hp (fun _ h => h) W (Same.refl _ _) (Same.refl _ _) (Nat.le_refl _)).mono fun e w' h => getr_of h (Same.refl _ _) (fun _ h => h)
theorem rindex_is (t : Pl.Tr) (r : Sl) (p : List Int) (a : Option Addr) (c : Nat) (W : World) (ht : IsT W t r) (hp : IsI W a p) (hz : Pl.sz t ≤ 10000) : Calls Tryd.prog 14 #[nvx t r, .slice a p.length c] W (IndexP t p W) :=
  rindex_at ht (fun _ h => h) p a c hp (fun _ h => h) W (Same.refl _ _) (Same.refl _ _) (Nat.le_refl _) (by omega)
theorem rof_is (t : Pl.Tr) (r : Sl) (i : Int) (W : World) (ht : IsT W t r) (hi : i ≤ 9223372036854775807) (hz : Pl.sz t ≤ 10000) : Calls Tryd.prog 12 #[nvx t r, .int .i64 i] W (OfP t i W) :=
  rof_at ht (fun _ h => h) i hi W (Same.refl _ _) (Nat.le_refl _) (by omega)
theorem rreplace_is (t x : Pl.Tr) (r rx : Sl) (p : List Int) (a : Option Addr) (c : Nat) (W : World) (ht : IsT W t r) (hx : IsT W x rx) (hp : IsI W a p) (hc : p.length ≤ c) (hz : Pl.sz t ≤ 10000) : Calls Tryd.prog 20 #[nvx t r, .slice a p.length c, nvx x rx] W (ResR (Pl.replE t p x) (Pl.putP x p t) W) :=
  (rreplace_at t x W r rx ht hx p a c hp hc (by omega)).mono fun e w' h => resr_of h
theorem rinsert_is (t x : Pl.Tr) (r rx : Sl) (p : List Int) (a : Option Addr) (c : Nat) (W : World) (ht : IsT W t r) (hx : IsT W x rx) (hp : IsI W a p) (hc : p.length ≤ c) (hz : Pl.sz t ≤ 10000) : Calls Tryd.prog 22 #[nvx t r, .slice a p.length c, nvx x rx] W (ResR (Pl.insE t p x) (Pl.insT t p x) W) := by
  rcases List.eq_nil_or_concat p with rfl | ⟨q, i, rfl⟩
  · exact (rinsert_nil t x W r rx a c).mono fun e w' h => resr_of h
  · rw [List.concat_eq_append] at *
    rw [List.length_append] at hc ⊢
    exact (rinsert_at t x W r rx ht hx q i a c hp (by simp at hc; omega) (by omega)).mono fun e w' h => resr_of h
theorem rremove_is (t : Pl.Tr) (r : Sl) (p : List Int) (a : Option Addr) (c : Nat) (W : World) (ht : IsT W t r) (hp : IsI W a p) (hc : p.length ≤ c) (hz : Pl.sz t ≤ 10000) : Calls Tryd.prog 24 #[nvx t r, .slice a p.length c] W (ResR (Pl.remE t p) (Pl.remT t p) W) := by
  rcases List.eq_nil_or_concat p with rfl | ⟨q, i, rfl⟩
  · exact (rremove_nil t W r ht a c).mono fun e w' h => resr_of h
  · rw [List.concat_eq_append] at *
    cases hg : Pl.getP (q ++ [i]) t with
    | none => exact (rremove_none t W r ht (q ++ [i]) a c hp (by simp) hg).mono fun e w' h => resr_of h
    | some v =>
      rw [List.length_append] at hc ⊢
      exact (rremove_at t v W r ht q i a c hp (by simp at hc; omega) (by omega) hg).mono fun e w' h => resr_of h
theorem equal_is (t u : Pl.Tr) (r q : Sl) (b : Bool) (hb : eqT t u = b) (w : World) (h : IsT w t r) (k : IsT w u q) :
    Calls Tryd.prog 18 #[nvx t r, nvx u q] w fun e w' => e = .returned (.bool b) ∧ Below w.heap.size w w' := by
  have := requal_at h (fun _ h => h) u q k w (Same.refl _ _) (Nat.le_refl _)
  rwa [hb] at this
theorem same_is (t u : Pl.Tr) (r q : Sl) (hs : Pl.bare t = Pl.bare u) (w : World) (h : IsT w t r) (k : IsT w u q) :
    Calls Tryd.prog 29 #[nvx t r, nvx u q] w fun e w' => e = .returned (.bool true) ∧ Below w.heap.size w w' := by
  have := rsame_at h (fun _ h => h) u q k w (Same.refl _ _) (Nat.le_refl _)
  rwa [sameT_iff.2 hs] at this
def SmP (t : Pl.Tr) (w : World) (e : Ending) (w' : World) : Prop := ∃ b : Bool, (b = true → Pl.sz t ≤ 300) ∧ e = .returned (.bool b) ∧ Below w.heap.size w w'
set_option maxHeartbeats 400000 in
theorem fits6_at {P : Nat → Prop} {w : World} {t : Pl.Tr} {r : Sl} (h : Tin P w t r) (hP : ∀ b, P b → b < w.heap.size) (w1 : World) (hs : Same P w w1) (hge : w.heap.size ≤ w1.heap.size) :
    Calls Tryd.prog 30 #[nvx t r, .int .i64 300, .int .i64 60] w1 (SmP t w1) := by
  have HL := Lib.hid (fun w1 hs hge => left_at h hP w1 hs hge 300 60 (by omega) (by omega) (by omega) (by omega))
  have HS := Lib.hid (fun o => same_box (o := o) hs hP hge)
  obtain ⟨ga, gc, a, c⟩ := r
  clear h hs
  go_enter Tryd.func30, Tryd.ntmps30
  go_wp2_with ((go_at_call 50; refine (HL.out _ (HS.out _) (by simp; omega)).mono ?_; rintro e w' ⟨q, hq, rfl, hb2⟩; have HB2 := Lib.hid hb2; clear hb2; have HQ := Lib.hid hq))
  · go_ret
    exact ⟨_, (fun h => by have := of_decide_eq_true h; have := HQ.out; omega), rfl, ((Below.refl _ _).alloc (Nat.le_refl _) _).trans (HB2.out.mono (by simp))⟩
set_option maxHeartbeats 400000 in
theorem small_is (t : Pl.Tr) (r : Sl) (w : World) (h : IsT w t r) : Calls Tryd.prog 9 #[nvx t r] w (SmP t w) := by
  have HF := Lib.hid (fun w1 hs hge => fits6_at h (fun _ h => h) w1 hs hge)
  have HS := Lib.hid (fun o => same_box (o := o) (Same.refl (fun b => b < w.heap.size) w) (fun _ h => h) (Nat.le_refl _))
  obtain ⟨ga, gc, a, c⟩ := r
  clear h
  go_enter Tryd.func9, Tryd.ntmps9
  go_wp2_with ((go_at_call 30; refine (HF.out _ (HS.out _) (by simp)).mono ?_; rintro e w' ⟨b1, hb1, rfl, hb2⟩; have HB2 := Lib.hid hb2; clear hb2; have HQ := Lib.hid hb1; clear hb1))
  go_ret
  exact ⟨b1, HQ.out, rfl, ((Below.refl _ _).alloc (Nat.le_refl _) _).trans (HB2.out.mono (by simp))⟩
end Go.Proofs.YtpaleolcfhnenaaDoor.Rt
