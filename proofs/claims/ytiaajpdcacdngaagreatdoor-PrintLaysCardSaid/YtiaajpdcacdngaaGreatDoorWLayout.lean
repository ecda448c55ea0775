/- The walks of Plain and Layout. -/
import Derived.Test.YtiaajpdcacdngaaGreatDoorWLay
import Derived.Test.YtiaajpdcacdngaaGreatDoorWText
namespace Go.Proofs.YtiaajpdcacdngaaGreatDoor
open Go.RowKit
set_option linter.unusedVariables false
set_option linter.unusedSimpArgs false

namespace Pl
theorem bare_lev (t : Tr) : (bare t).lev = t.lev := by cases t; rfl
theorem bare_kind (t : Tr) : (bare t).kind = t.kind := by cases t; rfl
theorem bare_first (t : Tr) : firstE t = 0 → sz t ≤ 1000000 → firstE (bare t) = 0 := by
  refine Tr.ind (M := fun t => firstE t = 0 → sz t ≤ 1000000 → firstE (bare t) = 0) ?_ t
  intro k s g ks ih h hz
  obtain ⟨hn, hks⟩ := first_zero k s g ks h
  obtain ⟨h1, h2, h3⟩ := nodeE_zero k s g ks hn
  rw [sz] at hz
  rw [bare]
  refine first_node _ _ _ _ (nodeE_of _ _ _ _ ?_ h2 ?_) (firsts_of _ fun u hu => ?_)
  · rw [bares_map, shape_congr k s ks _ (by rw [List.map_map]; exact List.map_congr_left fun u _ => bare_kind u) (by rw [List.map_map]; exact List.map_congr_left fun u _ => bare_lev u)]; exact h1
  · unfold gapsOK; simp
  · rw [bares_map] at hu
    obtain ⟨v, hv, rfl⟩ := List.mem_map.1 hu
    exact ih v hv (firsts_mem ks hks v hv) (by have := sz_mem hv; omega)
theorem bare_bare (t : Tr) : bare (bare t) = bare t := by
  refine Tr.ind (M := fun t => bare (bare t) = bare t) (fun k s g ks ih => ?_) t
  rw [bare, bare]
  congr 1
  rw [bares_map, bares_map, List.map_map]
  exact List.map_congr_left fun u hu => ih u hu
end Pl
theorem bare_isT (t0 : Pl.Tr) : ∀ (A : LT) (w w0 : World) (r0 : Sl), er A = Pl.bare t0 → IsT w0 t0 r0 → KidsB w A → IsT w (Pl.bare t0) ⟨none, 0, A.sl.da, A.sl.dc⟩ := by
  refine Pl.Tr.ind (M := fun t0 => ∀ (A : LT) (w w0 : World) (r0 : Sl), er A = Pl.bare t0 → IsT w0 t0 r0 → KidsB w A → IsT w (Pl.bare t0) ⟨none, 0, A.sl.da, A.sl.dc⟩) (fun k0 s0 g0 ks0 ih A w w0 r0 he ht hk => ?_) t0
  obtain ⟨hts, _, htl, R, _, htr⟩ := ht.parts
  cases A with
  | node k s g ks r =>
    rw [er, Pl.bare] at he
    injection he with e1 e2 e3 e4
    have hlen : ks.length = ks0.length := by have := congrArg List.length e4; rw [ers_len, Pl.bares_len] at this; exact this
    have hgetj : ∀ (j : Nat) v, (Pl.bares ks0)[j]? = some v → ∃ (u : LT) (u0 : Pl.Tr), ks[j]? = some u ∧ ks0[j]? = some u0 ∧ v = Pl.bare u0 ∧ er u = Pl.bare u0 := fun j v hv => by
      rw [← e4, ers_map, List.getElem?_map] at hv
      obtain ⟨u, hu, rfl⟩ := Option.map_eq_some_iff.1 hv
      have hj0 : j < ks0.length := by have := (List.getElem?_eq_some_iff.1 hu).1; omega
      have hu0 := List.getElem?_eq_getElem hj0
      have := congrArg (fun l => l[j]?) e4
      simp only [ers_map, Pl.bares_map, List.getElem?_map, hu, hu0] at this
      have := Option.some.inj this
      exact ⟨u, _, hu, hu0, this, this⟩
    rw [Pl.bare]
    refine .mk _ _ (fun j => match ks[j]? with | some u => ⟨none, 0, u.sl.da, u.sl.dc⟩ | none => ⟨none, 0, none, 0⟩) hts (strs_nil _ _ _) (by show (Pl.bares ks0).length ≤ maxLen; rw [Pl.bares_len]; exact htl) ?_ (fun j v hv => ?_)
    · rcases Nat.eq_zero_or_pos ks.length with hz | hz
      · left; show Pl.bares ks0 = []; rw [List.eq_nil_of_length_eq_zero (show ks0.length = 0 from by omega)]; rfl
      · have h0 := fixBs_get w ks _ _ hk.2.2 0 _ (List.getElem?_eq_getElem hz)
        refine .inr ⟨kb r, ko r, hk.2.1, ?_, fun j v hv => ?_⟩
        · cases hc : ks[0] with
          | node k2 s2 g2 ks2 r2 => rw [hc, fixB_node] at h0; exact h0.2.2.1.lt
        · obtain ⟨u, u0, hu, hu0, rfl, he2⟩ := hgetj j v hv
          have h1 := fixBs_get w ks _ _ hk.2.2 j u hu
          obtain ⟨q1, q2, q3, q4⟩ := er_bare he2
          obtain ⟨p1, p2, p3, p4⟩ := bare_parts u0
          simp only [hu]
          cases u with
          | node k2 s2 g2 ks2 r2 =>
            rw [fixB_node] at h1
            show At4 w (kb r) (ko r + j * 4) (Pl.bare u0).kind (Pl.bare u0).text (.slice none (Pl.bare u0).gaps.length 0) (.slice r2.da (Pl.bare u0).kids.length r2.dc)
            rw [p1, p2, p3, p4, ← q1, ← q2, ← q4]
            exact h1.2.2.1
    · obtain ⟨u, u0, hu, hu0, rfl, he2⟩ := hgetj j v hv
      simp only [hu]
      exact ih u0 (List.mem_of_getElem? hu0) u w w0 _ he2 (htr j u0 hu0) (fixB_kids (fixBs_get w ks _ _ hk.2.2 j u hu))
set_option maxRecDepth 100000 in
set_option maxHeartbeats 800000 in
theorem plain_bad (t : Pl.Tr) (w : World) (r : Sl) (v : Int) (hT : Tabs w) (h : IsT w t r) (hc : Pl.chk t = v) (hv : v ≠ 0) :
    Calls Tryz.prog 16 #[.agg #[.int .i64 t.kind, .string t.text, .slice r.ga t.gaps.length r.gc, .slice r.da t.kids.length r.dc]] w fun e w' => e = .returned (.tuple #[.string ⟨#[]⟩, .int .i64 v]) ∧ Below w.heap.size w w' := by
  have HC := Lib.hid (fun w2 (hb : Below w.heap.size w w2) => check_is t w2 r v hc (hT.later hb) (h.later hb))
  obtain ⟨v1, v2⟩ := int_neq2 hv
  have B0 := Lib.hid (box_low w (.cells #[.int .i64 t.kind, .string t.text, .slice r.ga t.gaps.length r.gc, .slice r.da t.kids.length r.dc] 25))
  clear hT h hc hv
  generalize t.kind = k at *
  generalize t.text = s at *
  generalize t.gaps.length = n at *
  generalize t.kids.length = m at *
  obtain ⟨ga, gc, da, dc⟩ := r
  simp only at *
  go_enter Tryz.func16, Tryz.ntmps16
  go_wp2_with (go_at_call 28; refine (HC.out _ B0.out).mono ?_; rintro e w1 ⟨rfl, hb1⟩)
  go_ret2
  exact ⟨rfl, B0.out.trans (hb1.mono B0.out.size)⟩
set_option maxRecDepth 100000 in
set_option maxHeartbeats 800000 in
theorem plain_ok (t : Pl.Tr) (w : World) (r : Sl) (x : ByteArray) (hT : Tabs w) (h : IsT w t r) (hc : Pl.chk t = 0) (hz : Pl.sz t ≤ 100000) (hlen : (Pl.source (Pl.bare t)).length ≤ 65536) (hx : Pl.mk (Pl.source (Pl.bare t)) = x) :
    Calls Tryz.prog 16 #[.agg #[.int .i64 t.kind, .string t.text, .slice r.ga t.gaps.length r.gc, .slice r.da t.kids.length r.dc]] w fun e w' => e = .returned (.tuple #[.string x, .int .i64 0]) ∧ Below w.heap.size w w' := by
  have hf := (Pl.chk_zero t hc).2.2.2
  have hht := Pl.chk_ht t hc (by omega)
  have HC := Lib.hid (fun w2 (hb : Below w.heap.size w w2) => check_is t w2 r 0 hc (hT.later hb) (h.later hb))
  have HBr := Lib.hid (fun w2 (hb : Below w.heap.size w w2) => bare_at t (by omega) w2 r (h.later hb))
  obtain ⟨p1, p2, p3, p4⟩ := bare_parts t
  have HSrc : Hid (∀ (A : LT) (db dc : Nat) w2, er A = Pl.bare t → A.sl.da = some ⟨db, 0, none⟩ → A.sl.dc = dc → KidsB w2 A → Calls Tryz.prog 32 #[.agg #[.int .i64 t.kind, .string t.text, .slice none 0 0, .slice (some ⟨db, 0, none⟩) t.kids.length dc]] w2 fun e w' => e = .returned (.tuple #[.string x, .int .i64 0]) ∧ Below w2.heap.size w2 w') := Lib.hid (fun A db dc w2 hA hda hdc hk => by
    have h1 := bare_isT t A w2 w r hA h hk
    have h2 := source_any (Pl.bare t) w2 ⟨none, 0, A.sl.da, A.sl.dc⟩ x h1 (Pl.bare_first t hf (by omega)) (by rw [Pl.bare_sz]; exact hz) (by rw [Pl.bare_ht]; omega) hlen hx
    rw [p1, p2, p3, p4, hda, hdc] at h2
    exact h2)
  have B0 := Lib.hid (box_low w (.cells #[.int .i64 t.kind, .string t.text, .slice r.ga t.gaps.length r.gc, .slice r.da t.kids.length r.dc] 25))
  have A0 := Lib.hid (box_at t r w)
  unfold CopyB at HBr
  clear hT h hc hf hht hx hlen p1 p2 p3 p4
  generalize t.kind = k at *
  generalize t.text = s at *
  generalize t.gaps.length = n at *
  generalize t.kids.length = m at *
  obtain ⟨ga, gc, da, dc⟩ := r
  simp only at *
  go_enter Tryz.func16, Tryz.ntmps16
  go_wp2_with (first
    | (go_at_call 28; refine (HC.out _ B0.out).mono ?_; rintro e w1 ⟨rfl, hb1⟩; have A1 := Lib.hid (at4_below A0.out hb1); have B1 := Lib.hid (B0.out.trans (hb1.mono B0.out.size)); obtain ⟨c0, c1, c2, c3⟩ := A1.out; clear hb1)
    | (go_at_call 34; refine (HBr.out _ B1.out).mono ?_; rintro e w2 ⟨A, db, dc2, hA, hda, hdc, rfl, hkb, hfr, hb2⟩; have HA := Lib.hid hA; have HDA := Lib.hid hda; have HDC := Lib.hid hdc; have HKB := Lib.hid hkb; have B2 := Lib.hid (B1.out.trans (hb2.mono B1.out.size)); clear hA hda hdc hkb hfr hb2)
    | (go_at_call 32; refine (HSrc.out A db dc2 _ HA.out HDA.out HDC.out HKB.out).mono ?_; rintro e w3 ⟨rfl, hb3⟩))
  go_ret2
  exact ⟨rfl, B2.out.trans (hb3.mono B2.out.size)⟩
/- ### Layout -/
theorem FixB.gap {w : World} {a : LT} : ∀ {b o : Nat}, FixB w a b o → ∀ ν ∈ refs a b o, w.cell? ⟨ν.1, ν.2 + 2, none⟩ = some (.slice none 0 0) ∧ NBlk w ν.1 := by
  refine LT.ind (M := fun a => ∀ {b o : Nat}, FixB w a b o → ∀ ν ∈ refs a b o, w.cell? ⟨ν.1, ν.2 + 2, none⟩ = some (.slice none 0 0) ∧ NBlk w ν.1) (fun k s g ks r ih b o h ν hν => ?_) a
  rw [fixB_node] at h
  rw [refs_node] at hν
  rcases List.mem_cons.1 hν with rfl | hν
  · exact ⟨h.2.2.1.2.2.1, h.2.1⟩
  · obtain ⟨j, u, hu, hx⟩ := refsK_mem _ _ _ ν hν
    exact ih u (List.mem_of_getElem? hu) (fixBs_get w ks _ _ h.2.2.2.2 j u hu) ν hx
theorem parts_gap_le (k : Int) (s : ByteArray) (n L : Nat) : ∀ p ∈ Pl.parts k s n L, L ≤ 1000 → p.gap.size ≤ 2000 := by
  intro p hp hL
  have one : ∀ g : ByteArray, g.size ≤ 2000 → ∀ first m, ∀ p ∈ Pl.kidsP first m g, p.gap.size ≤ 2000 := fun g hg first m p hp => by
    unfold Pl.kidsP at hp
    obtain ⟨i, _, rfl⟩ := List.mem_map.1 hp
    exact hg
  have nl : ∀ l, l ≤ 1001 → (Pl.nl l).size ≤ 2000 := fun l hl => by rw [Pl.nl_size]; omega
  have lst : ∀ first m, ∀ p ∈ Pl.listP first m, p.gap.size ≤ 2000 := fun first m p hp => by
    unfold Pl.listP Pl.commasP at hp
    rcases List.mem_cons.1 hp with rfl | hp
    · decide
    · rcases List.mem_append.1 hp with hp | hp
      · obtain ⟨i, _, hp⟩ := List.mem_flatMap.1 hp
        split at hp
        · rcases List.mem_cons.1 hp with rfl | hp
          · decide
          · obtain rfl := List.mem_singleton.1 hp
            show (⟨#[32]⟩ : ByteArray).size ≤ 2000; decide
        · obtain rfl := List.mem_singleton.1 hp
          show (⟨#[]⟩ : ByteArray).size ≤ 2000; decide
      · obtain rfl := List.mem_singleton.1 hp
        decide
  have bod : ∀ first m, ∀ p ∈ Pl.bodyP first m L, p.gap.size ≤ 2000 := fun first m p hp => by
    unfold Pl.bodyP at hp
    split at hp
    · obtain rfl := List.mem_singleton.1 hp
      decide
    · rcases List.mem_append.1 hp with hp | hp
      · exact one _ (nl _ (by omega)) _ _ p hp
      · obtain rfl := List.mem_singleton.1 hp
        exact nl L (by omega)
  have cons : ∀ {a : Pl.Part} {l : List Pl.Part}, a.gap.size ≤ 2000 → (∀ p ∈ l, p.gap.size ≤ 2000) → ∀ p ∈ a :: l, p.gap.size ≤ 2000 := fun h1 h2 p hp => by
    rcases List.mem_cons.1 hp with rfl | hp
    · exact h1
    · exact h2 p hp
  have nil : ∀ p ∈ ([] : List Pl.Part), p.gap.size ≤ 2000 := fun p hp => by cases hp
  have app : ∀ {a b : List Pl.Part}, (∀ p ∈ a, p.gap.size ≤ 2000) → (∀ p ∈ b, p.gap.size ≤ 2000) → ∀ p ∈ a ++ b, p.gap.size ≤ 2000 := fun h1 h2 p hp => by
    rcases List.mem_append.1 hp with hp | hp
    · exact h1 p hp
    · exact h2 p hp
  have ite : ∀ {c : Prop} [Decidable c] {a b : List Pl.Part}, (∀ p ∈ a, p.gap.size ≤ 2000) → (∀ p ∈ b, p.gap.size ≤ 2000) → ∀ p ∈ (if c then a else b), p.gap.size ≤ 2000 := fun {c} _ {a b} h1 h2 p hp => by
    by_cases h : c
    · rw [if_pos h] at hp; exact h1 p hp
    · rw [if_neg h] at hp; exact h2 p hp
  have e0 : (⟨#[]⟩ : ByteArray).size ≤ 2000 := by decide
  have e1 : (⟨#[32]⟩ : ByteArray).size ≤ 2000 := by decide
  have e2 : (⟨#[10]⟩ : ByteArray).size ≤ 2000 := by decide
  have e3 : (⟨#[10, 10]⟩ : ByteArray).size ≤ 2000 := by decide
  have asg : ∀ p ∈ Pl.assignP s, p.gap.size ≤ 2000 := cons e1 (cons e1 (cons e1 (cons e0 nil)))
  have : ∀ p ∈ Pl.parts k s n L, p.gap.size ≤ 2000 := by
    unfold Pl.parts Pl.stmtP Pl.exprP
    refine ite (app (one _ e3 _ _) (cons e2 nil)) (ite (cons e0 (cons e1 (cons e0 (cons e1 (cons e1 nil))))) (ite (lst _ _) (ite (cons e0 (cons e1 nil)) (ite (cons e0 (bod _ _)) (ite (app (cons e0 (cons e1 (cons e1 (cons e1 nil)))) (bod _ _)) (ite (ite nil (cons e0 (cons e1 nil))) (ite (cons e0 asg) ?_)))))))
    refine ite (cons e0 asg) (ite asg (ite (cons e0 (cons e1 (cons e0 nil))) (ite (cons e0 (one _ e1 _ _)) (ite (ite nil (cons e0 (one _ e1 _ _))) (ite (cons e0 (one _ e1 _ _)) (ite (cons e0 (cons e0 nil)) ?_))))))
    exact ite (cons e0 (lst _ _)) (ite (app (cons e0 (cons e0 (cons e0 nil))) (lst _ _)) (ite (app (cons e0 (cons e1 nil)) (lst _ _)) (ite (cons e0 (cons e1 (cons e1 nil))) (ite (cons e0 (cons e0 nil)) (ite (cons e0 (cons e0 (cons e0 nil))) (cons e0 nil))))))
  exact this p hp
theorem gap_le (t : Pl.Tr) (L : Nat) (f : ByteArray) (hf : f.size ≤ 2000) (hL : L + Pl.ht t ≤ 1000) : Pl.firstE t = 0 → ∀ w ∈ Pl.evT t L f, w.gap.size ≤ 2000 := by
  refine Pl.Tr.ind (M := fun t => ∀ L f, f.size ≤ 2000 → L + Pl.ht t ≤ 1000 → Pl.firstE t = 0 → ∀ w ∈ Pl.evT t L f, w.gap.size ≤ 2000) ?_ t L f hf hL
  intro k s g ks ih L f hf hL h w hw
  obtain ⟨hn, hks⟩ := Pl.first_zero k s g ks h
  obtain ⟨h1, h2, h3⟩ := Pl.nodeE_zero k s g ks hn
  have har := Pl.shape_ar k s ks h1
  rw [Pl.ht] at hL
  have hpart : ∀ p ∈ Pl.fixF f (Pl.parts k s ks.length L), p.gap.size ≤ 2000 := by
    have hp : ∀ p ∈ Pl.parts k s ks.length L, p.gap.size ≤ 2000 := fun p hp => parts_gap_le k s ks.length L p hp (by omega)
    cases hps : Pl.parts k s ks.length L with
    | nil => intro p hp; cases hp
    | cons a l =>
      rw [hps] at hp
      intro p hp2
      rcases List.mem_cons.1 hp2 with rfl | hp2
      · exact hf
      · exact hp p (List.mem_cons_of_mem _ hp2)
  rw [Pl.evT_node] at hw
  rcases Pl.mem_lin _ _ _ _ _ hw with ⟨i, p, hp, rfl⟩ | ⟨p, hp, hx⟩
  · exact hpart p (Pl.of_owns (List.mem_of_getElem? hp))
  · obtain ⟨j, hj, e⟩ := Pl.kds_get k s f ks.length L har p hp
    rw [e, Int.toNat_natCast, Pl.evF_get ks j _ (List.getElem?_eq_getElem hj)] at hx
    have hm := List.getElem_mem hj
    have hin : Pl.inside k L ≤ L + 1 := by unfold Pl.inside; split <;> omega
    exact ih _ hm _ _ (hpart p (Pl.of_kds hp)) (by have := Pl.hts_mem hm; omega) (Pl.firsts_mem ks hks _ hm) w hx
/-- What Layout answers. -/
def LayoutP (t : Pl.Tr) (w : World) (e : Ending) (w' : World) : Prop :=
  ∃ r : Sl, e = .returned (.tuple #[.agg #[.int .i64 (Pl.layout t).kind, .string (Pl.layout t).text, .slice r.ga (Pl.layout t).gaps.length r.gc, .slice r.da (Pl.layout t).kids.length r.dc], .int .i64 0]) ∧ IsT w' (Pl.layout t) r ∧ Below w.heap.size w w'
/-- What the walk over the bare copy leaves. -/
def WalkedP (t : Pl.Tr) (W1 : World) (lo b0 : Nat) (en : Ending) (w' : World) : Prop :=
  en = .returned (.tuple #[]) ∧ ∃ (ga da : Option Addr) (gc dc : Nat), At4 w' b0 0 t.kind t.text (.slice ga (Pl.layout t).gaps.length gc) (.slice da t.kids.length dc) ∧ Tin (fun b => lo ≤ b ∧ b < w'.heap.size) w' (Pl.layout t) ⟨ga, gc, da, dc⟩ ∧ Below lo W1 w'
theorem walked (t : Pl.Tr) (wb w2 w0 : World) (r0 : Sl) (A : LT) (db dc : Nat) (h : IsT w0 t r0) (hf : Pl.firstE t = 0) (hz : Pl.sz t ≤ 100000) (hht : Pl.ht t ≤ 60) (hA : er A = Pl.bare t) (hda : A.sl.da = some ⟨db, 0, none⟩) (hdc : A.sl.dc = dc) (hk : KidsB w2 A) (hfr : Fresh A wb.heap.size w2.heap.size) (hb2 : wb.heap.size ≤ w2.heap.size) :
    Calls Tryz.prog 29 #[.pointer (some ⟨w2.heap.size, 0, none⟩), .func (.func 36) #[] #[]] (w2.alloc (.cells #[.int .i64 t.kind, .string t.text, .slice none 0 0, .slice (some ⟨db, 0, none⟩) t.kids.length dc] 25))
      (WalkedP t (w2.alloc (.cells #[.int .i64 t.kind, .string t.text, .slice none 0 0, .slice (some ⟨db, 0, none⟩) t.kids.length dc] 25)) wb.heap.size w2.heap.size) := by
  obtain ⟨e1, e2, e3, e4⟩ := er_bare hA
  obtain ⟨W1, hW1⟩ : ∃ W1, W1 = w2.alloc (.cells #[.int .i64 t.kind, .string t.text, .slice none 0 0, .slice (some ⟨db, 0, none⟩) t.kids.length dc] 25) := ⟨_, rfl⟩
  have hs1 : W1.heap.size = w2.heap.size + 1 := by rw [hW1]; simp
  have hblk : W1.heap[w2.heap.size]? = some (.cells #[.int .i64 t.kind, .string t.text, .slice none 0 0, .slice (some ⟨db, 0, none⟩) t.kids.length dc] 25 (0, 0)) := by rw [hW1]; exact heap_alloc_new _ _
  have hk1 : KidsB W1 A := kids_keep hfr hk (fun x _ hx => by rw [hW1]; exact Below.heap_alloc _ _ _ hx)
  have h4 : At4 W1 w2.heap.size 0 A.kind A.text (.slice none 0 0) (.slice A.sl.da A.kids.length A.sl.dc) := by
    rw [e1, e2, e4, hda, hdc, hW1]
    exact at4_new w2 t.kind t.text _ _
  have hfix := kidsB_fix hk1 ⟨_, hblk⟩ h4
  obtain ⟨hnd, hrefs⟩ := refs_root hfr (b := w2.heap.size) (.inr (Nat.le_refl _))
  have hst : ∀ ν ∈ refs A w2.heap.size 0, ν.2 % 4 = 0 ∧ wb.heap.size ≤ ν.1 ∧ ν.1 < W1.heap.size := fun ν hν => by
    obtain ⟨q1, q2⟩ := hrefs ν hν
    refine ⟨q1, ?_⟩
    rcases q2 with q2 | q2 <;> omega
  have hfirst : Pl.firstE (er A) = 0 := by rw [hA]; exact Pl.bare_first t hf (by omega)
  have hsz : Pl.sz (er A) = Pl.sz t := by rw [hA, Pl.bare_sz]
  have hht2 : Pl.ht (er A) = Pl.ht t := by rw [hA, Pl.bare_ht]
  have hlen : (evL A w2.heap.size 0 0 ⟨#[]⟩).length ≤ 1000000 := by
    rw [er_len, Pl.ev_len _ 0 _ hfirst]
    have := Pl.many_le _ hfirst
    omega
  have hinit : InvL W1 wb.heap.size A w2.heap.size [] W1 := ⟨Below.refl _ _, hfix.fixL, fun ν hν => (hfix.gap ν hν).2, fun _ => (none, 0), fun ν hν => (hfix.gap ν hν).1, fun ν hν => World.ownsRow_nil _ _ _ _, fun ν _ μ _ _ x hx => by simp [blkOf] at hx⟩
  rw [← hW1]
  refine (walkL_any _ _ (stepL W1 wb.heap.size w2.heap.size A (by omega) hst hlen) A w2.heap.size 0 [] W1 hfirst (by omega) (by omega) (fun D w3 hi => hi.fix) (List.prefix_refl _) hinit).mono ?_
  rintro en w3 ⟨rfl, hi, _⟩
  rw [List.nil_append] at hi
  obtain ⟨G, hG⟩ := hi.g
  have hlow := hi.low
  have hsl := hlow.size
  have hroot : (w2.heap.size, 0) ∈ refs A w2.heap.size 0 := by cases A; rw [refs_node]; exact List.mem_cons_self ..
  have hlay : layG (evL A w2.heap.size 0 0 ⟨#[]⟩) A w2.heap.size 0 = Pl.layout t := by
    have := layG_eq A w2.heap.size 0 0 ⟨#[]⟩ [] [] hnd (fun e he => by cases he) (fun e he => by cases he) hfirst
    rw [List.nil_append, List.append_nil] at this
    rw [this, hA, Pl.bare_lay]; rfl
  have hgaps : ∀ e ∈ evL A w2.heap.size 0 0 ⟨#[]⟩, e.gap.size ≤ 1000000 := fun e he => by
    have hm : e.wd ∈ Pl.evT (er A) 0 ⟨#[]⟩ := by rw [← evL_wd A w2.heap.size 0 0 ⟨#[]⟩]; exact List.mem_map_of_mem he
    have h3 : e.wd.gap.size ≤ 2000 := gap_le (er A) 0 ⟨#[]⟩ (by decide) (by omega) hfirst _ hm
    have h4 : e.gap.size ≤ 2000 := h3
    omega
  have hT := rows_isT hG (lo := wb.heap.size) (by omega) (fun ν hν => ⟨(hst ν hν).2.1, by have := (hst ν hν).2.2; omega⟩) hgaps hlen t A w2.heap.size 0 w0 r0 hA h hi.fix (fun ν hν => hν)
  rw [hlay] at hT
  have hcell := hG.cell _ hroot
  have hfl := hi.fix
  have hgl : (gapsOf (evL A w2.heap.size 0 0 ⟨#[]⟩) (w2.heap.size, 0)).length = (Pl.layout t).gaps.length := by
    rw [← hlay]; cases A; rw [layG_node]; rfl
  refine ⟨rfl, (G (w2.heap.size, 0)).1, A.sl.da, (G (w2.heap.size, 0)).2, A.sl.dc, ?_, hT, hlow⟩
  rw [hgl] at hcell
  cases A with
  | node k2 s2 g2 ks2 r2 =>
    rw [fixL_node] at hfl
    rw [← e1, ← e2, ← e4]
    exact ⟨hfl.1.c0, hfl.1.c1, hcell, hfl.1.c3⟩
set_option maxRecDepth 100000 in
set_option maxHeartbeats 800000 in
theorem layout_bad (t : Pl.Tr) (w : World) (r : Sl) (v : Int) (hT : Tabs w) (h : IsT w t r) (hc : Pl.chk t = v) (hv : v ≠ 0) :
    Calls Tryz.prog 18 #[.agg #[.int .i64 t.kind, .string t.text, .slice r.ga t.gaps.length r.gc, .slice r.da t.kids.length r.dc]] w fun e w' => e = .returned (.tuple #[.agg #[.int .i64 0, .string ⟨#[]⟩, .slice none 0 0, .slice none 0 0], .int .i64 v]) ∧ Below w.heap.size w w' := by
  have HC := Lib.hid (fun w2 (hb : Below w.heap.size w w2) => check_is t w2 r v hc (hT.later hb) (h.later hb))
  obtain ⟨v1, v2⟩ := int_neq2 hv
  clear hT h hc hv
  generalize t.kind = k at *
  generalize t.text = s at *
  generalize t.gaps.length = n at *
  generalize t.kids.length = m at *
  obtain ⟨ga, gc, da, dc⟩ := r
  simp only at *
  obtain ⟨t1, t2, t3, t4⟩ := two_after (w := w) (o1 := .cells #[.int .i64 k, .string s, .slice ga n gc, .slice da m dc] 25) (o2 := .cells #[.int .i64 0, .string ⟨#[]⟩, .slice none 0 0, .slice none 0 0] 25) (Below.refl _ _)
  have T1 := Lib.hid t1
  have T2 := Lib.hid t2
  have T3 := Lib.hid t3
  have T4 := Lib.hid t4
  clear t1 t2 t3 t4
  go_enter Tryz.func18, Tryz.ntmps18
  go_wp2_with (go_at_call 28; refine (HC.out _ T3.out).mono ?_; rintro e w1 ⟨rfl, hb1⟩; have hz1 := hb1.size; have hblk := (hb1.block (w.heap.size + 1) T4.out).trans T2.out; obtain ⟨⟨p0, p1, p2, p3⟩, z0, z1, z2, z3⟩ := blk_cells hblk; have HB1 := Lib.hid (T3.out.trans (hb1.mono (by have := T4.out; omega))); clear hb1 hblk)
  refine bodyPost_ret (v := .tuple #[.agg #[.int .i64 0, .string ⟨#[]⟩, .slice none 0 0, .slice none 0 0], .int .i64 v]) (by simp [results, Tryz.results18, go_sem, p0, p1, p2, p3]) rfl ⟨rfl, below_set4 HB1.out (Nat.le_succ _)⟩
set_option maxRecDepth 100000 in
set_option maxHeartbeats 1600000 in
theorem layout_ok (t : Pl.Tr) (w : World) (r : Sl) (hT : Tabs w) (h : IsT w t r) (hc : Pl.chk t = 0) (hz : Pl.sz t ≤ 100000) :
    Calls Tryz.prog 18 #[.agg #[.int .i64 t.kind, .string t.text, .slice r.ga t.gaps.length r.gc, .slice r.da t.kids.length r.dc]] w (LayoutP t w) := by
  have hf := (Pl.chk_zero t hc).2.2.2
  have hht := Pl.chk_ht t hc (by omega)
  have HC := Lib.hid (fun w2 (hb : Below w.heap.size w w2) => check_is t w2 r 0 hc (hT.later hb) (h.later hb))
  have HBr := Lib.hid (fun w2 (hb : Below w.heap.size w w2) => bare_at t (by omega) w2 r (h.later hb))
  have HW := Lib.hid (fun wb w2 A db dc hA hda hdc hk hfr hb2 => walked t wb w2 w r A db dc h hf hz hht hA hda hdc hk hfr hb2)
  have hlk : (Pl.layout t).kind = t.kind := Pl.lay_kind t 0 _
  have hlt : (Pl.layout t).text = t.text := Pl.lay_text t 0 _
  have hll : (Pl.layout t).kids.length = t.kids.length := by unfold Pl.layout; rw [Pl.lay_kids, Pl.layF_len]
  unfold LayoutP
  unfold CopyB at HBr
  unfold WalkedP at HW
  rw [hlk, hlt, hll]
  obtain ⟨LT0, hLT0⟩ : ∃ LT0, LT0 = Pl.layout t := ⟨_, rfl⟩
  rw [← hLT0] at HW ⊢
  have A0' := Lib.hid (box_at t r w)
  clear hT h hc hf hht hlk hlt hll hLT0
  generalize LT0.gaps.length = lg at *
  generalize t.kind = k at *
  generalize t.text = s at *
  generalize t.gaps.length = n at *
  generalize t.kids.length = m at *
  obtain ⟨ga, gc, da, dc⟩ := r
  simp only at *
  obtain ⟨t1, t2, t3, t4⟩ := two_after (w := w) (o1 := .cells #[.int .i64 k, .string s, .slice ga n gc, .slice da m dc] 25) (o2 := .cells #[.int .i64 0, .string ⟨#[]⟩, .slice none 0 0, .slice none 0 0] 25) (Below.refl _ _)
  have T1 := Lib.hid t1
  have T2 := Lib.hid t2
  have T3 := Lib.hid t3
  have T4 := Lib.hid t4
  clear t1 t2 t3 t4
  go_enter Tryz.func18, Tryz.ntmps18
  go_wp2_with (first
    | (refine wpList_load_mid rfl 25 _ rfl w2.heap.size 0 rfl [.int .i64 k, .string s, .slice ga3 lg gc3, .slice da3 m dc3] _ R3.out Tryz.underlying25 rfl sizeN ?_)
    | (go_at_call 28; refine (HC.out _ T3.out).mono ?_; rintro e w1 ⟨rfl, hb1⟩; have hz1 := hb1.size; have B1 := Lib.hid (T3.out.trans (hb1.mono (by have := T4.out; omega))); have T21 := Lib.hid ((hb1.block (w.heap.size + 1) T4.out).trans T2.out); have hs1 : w.heap.size + 1 < w1.heap.size := (by have := T4.out; omega); obtain ⟨⟨c0, c1, c2, c3⟩, _⟩ := blk_cells ((hb1.block w.heap.size (by have := T4.out; omega)).trans T1.out); clear hb1 hz1)
    | (go_at_call 34; refine (HBr.out _ B1.out).mono ?_; rintro e w2 ⟨A, db, dc2, hA, hda, hdc, rfl, hkb, hfr, hb2⟩; have hs2 := hb2.size; have HA := Lib.hid hA; have HDA := Lib.hid hda; have HDC := Lib.hid hdc; have HKB := Lib.hid hkb; have HFR := Lib.hid hfr; have HB2 := Lib.hid hb2; clear hA hda hdc hkb hfr hb2)
    | (go_at_call 29; refine (HW.out w1 w2 A db dc2 HA.out HDA.out HDC.out HKB.out HFR.out hs2).mono ?_; rintro e w3 ⟨rfl, ga3, da3, gc3, dc3, h4, htin, hlow⟩;
       have hs3 := hlow.size; simp at hs3; 
       have hblk := ((hlow.block (w.heap.size + 1) hs1).trans (Below.heap_alloc _ _ _ (by omega))).trans ((HB2.out.block (w.heap.size + 1) hs1).trans T21.out);
       obtain ⟨⟨p0, p1, p2, p3⟩, z0, z1, z2, z3⟩ := blk_cells hblk; have R3 := Lib.hid h4.range; have HTin := Lib.hid htin; have HLow := Lib.hid hlow; clear h4 htin hlow hblk))
  have hb1 := B1.out
  have hb1s := hb1.size
  refine bodyPost_ret (v := .tuple #[.agg #[.int .i64 k, .string s, .slice ga3 lg gc3, .slice da3 m dc3], .int .i64 0]) (by simp [results, Tryz.results18, go_sem, p0, p1, p2, p3]) rfl ⟨⟨ga3, gc3, da3, dc3⟩, rfl, HTin.out.keep (fun x hx => heap_set4 (by omega)) (fun x hx => by have := hx.2; simp; omega), ?_⟩
  exact below_set4 (((hb1.trans (HB2.out.mono hb1s)).alloc (by omega) _).trans (HLow.out.mono hb1s)) (by omega)
end Go.Proofs.YtiaajpdcacdngaaGreatDoor
