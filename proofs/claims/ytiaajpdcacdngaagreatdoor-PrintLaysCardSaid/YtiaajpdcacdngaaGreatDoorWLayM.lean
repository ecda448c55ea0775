/- What the words of a tree leave at its nodes: its canonical layout. -/
import Derived.Test.YtiaajpdcacdngaaGreatDoorWFresh
namespace Go.Proofs.YtiaajpdcacdngaaGreatDoor
open Go.RowKit
set_option linter.unusedVariables false
set_option linter.unusedSimpArgs false

def atRef (ν : Nat × Nat) (e : Ev) : Bool := e.b == ν.1 && e.o == ν.2
theorem atRef_iff (ν : Nat × Nat) (e : Ev) : atRef ν e = true ↔ (e.b, e.o) = ν := by
  unfold atRef
  rw [Bool.and_eq_true, beq_iff_eq, beq_iff_eq]
  constructor
  · rintro ⟨h1, h2⟩; rw [h1, h2]
  · intro h; rw [← h]; exact ⟨rfl, rfl⟩
/-- The gaps that the words have left at a node. -/
def gapsOf (D : List Ev) (ν : Nat × Nat) : List ByteArray := (D.filter (atRef ν)).map (·.gap)
theorem gapsOf_append (a b : List Ev) (ν : Nat × Nat) : gapsOf (a ++ b) ν = gapsOf a ν ++ gapsOf b ν := by unfold gapsOf; rw [List.filter_append, List.map_append]
theorem gapsOf_none (a : List Ev) (ν : Nat × Nat) (h : ∀ e ∈ a, (e.b, e.o) ≠ ν) : gapsOf a ν = [] := by
  unfold gapsOf
  rw [List.filter_eq_nil_iff.2 (fun e he => by rw [atRef_iff]; exact h e he)]; rfl
theorem gapsOf_len (D : List Ev) (ν : Nat × Nat) : (gapsOf D ν).length ≤ D.length := by unfold gapsOf; rw [List.length_map]; exact List.length_filter_le _ _
mutual
/-- The tree with these gaps. -/
def layG (D : List Ev) : LT → Nat → Nat → Pl.Tr
  | .node k s _ ks r => fun b o => .node k s (gapsOf D (b, o)) (layGs D ks (kb r) (ko r))
def layGs (D : List Ev) : List LT → Nat → Nat → List Pl.Tr
  | [] => fun _ _ => []
  | a :: ts => fun b o => layG D a b o :: layGs D ts b (o + 4)
end
theorem layG_node (D : List Ev) (k : Int) (s : ByteArray) (g : List ByteArray) (ks : List LT) (r : Sl) (b o : Nat) : layG D (.node k s g ks r) b o = .node k s (gapsOf D (b, o)) (layGs D ks (kb r) (ko r)) := by rw [layG]
theorem layGs_get (D : List Ev) (ks : List LT) (b o j : Nat) : (layGs D ks b o)[j]? = (ks[j]?).map fun u => layG D u b (o + j * 4) := by
  induction ks generalizing o j with
  | nil => rw [layGs]; simp
  | cons a ts ih =>
    rw [layGs]
    cases j with
    | zero => simp
    | succ j => simp only [List.getElem?_cons_succ]; rw [ih, show o + 4 + j * 4 = o + (j + 1) * 4 from by omega]
theorem layGs_len (D : List Ev) (ks : List LT) : ∀ b o, (layGs D ks b o).length = ks.length := by
  induction ks with
  | nil => intro b o; rw [layGs]; rfl
  | cons a ts ih => intro b o; rw [layGs, List.length_cons, List.length_cons, ih]
/-- Each word's node is one of the tree's. -/
theorem ev_ref (a : LT) : ∀ b o L f, ∀ e ∈ evL a b o L f, (e.b, e.o) ∈ refs a b o := by
  refine LT.ind (M := fun a => ∀ b o L f, ∀ e ∈ evL a b o L f, (e.b, e.o) ∈ refs a b o) (fun k s g ks r ih b o L f e he => ?_) a
  rw [evL_node] at he
  rw [refs_node]
  rcases Pl.mem_lin _ _ _ _ _ he with ⟨i, p, hp, rfl⟩ | ⟨p, hp, hx⟩
  · exact List.mem_cons_self ..
  · right
    cases hg : ks[p.kid.toNat]? with
    | none =>
      rw [List.getD_eq_getElem?_getD, List.getElem?_eq_none (by rw [evK_len]; exact List.getElem?_eq_none_iff.1 hg)] at hx
      cases hx
    | some u =>
      rw [evK_get ks _ _ _ u hg] at hx
      exact refsK_of ks _ _ _ u _ hg (ih u (List.mem_of_getElem? hg) _ _ _ _ e hx)
theorem refsK_disj (ks : List LT) (b : Nat) : ∀ o, (refsK ks b o).Nodup → ∀ i j u v x, ks[i]? = some u → ks[j]? = some v → i < j → x ∈ refs u b (o + i * 4) → x ∈ refs v b (o + j * 4) → False := by
  induction ks with
  | nil => intro o _ i j u v x hu; simp at hu
  | cons a ts ih =>
    intro o hn i j u v x hu hv hij hx hy
    rw [refsK_cons, List.nodup_append] at hn
    obtain ⟨n1, n2, n3⟩ := hn
    cases j with
    | zero => omega
    | succ j =>
      have hv2 : ts[j]? = some v := by simpa using hv
      have hy2 : x ∈ refs v b (o + 4 + j * 4) := by rw [show o + 4 + j * 4 = o + (j + 1) * 4 from by omega]; exact hy
      cases i with
      | zero =>
        obtain rfl : a = u := by simpa using hu
        exact n3 x (by simpa using hx) x (refsK_of ts b (o + 4) j v x hv2 hy2) rfl
      | succ i =>
        exact ih (o + 4) n2 i j u v x (by simpa using hu) hv2 (by omega) (by rw [show o + 4 + i * 4 = o + (i + 1) * 4 from by omega]; exact hx) hy2
theorem refsK_apart {ks : List LT} {b o : Nat} (hn : (refsK ks b o).Nodup) {i j : Nat} {u v : LT} {x : Nat × Nat} (hu : ks[i]? = some u) (hv : ks[j]? = some v) (hij : i ≠ j) (hx : x ∈ refs u b (o + i * 4)) : x ∉ refs v b (o + j * 4) := fun hy => by
  rcases Nat.lt_or_ge i j with h | h
  · exact refsK_disj ks b o hn i j u v x hu hv h hx hy
  · exact refsK_disj ks b o hn j i v u x hv hu (by omega) hy hx
theorem filt_lin (b o : Nat) (g : List ByteArray) (r : Sl) (kid : Nat → ByteArray → List Ev) : ∀ (ps : List Pl.Part) (i : Nat), (∀ p ∈ Pl.kds ps, ∀ e ∈ kid p.kid.toNat p.gap, (e.b, e.o) ≠ (b, o)) →
    gapsOf (Pl.lin (fun i p => (⟨b, o, i, p.gap, p.text, g, r⟩ : Ev)) kid i ps) (b, o) = (Pl.owns ps).map (·.gap) := by
  intro ps
  induction ps with
  | nil => intro i _; rfl
  | cons p ps ih =>
    intro i h
    rw [Pl.lin]
    rcases Pl.split_owns p ps with ⟨hk, h1, h2⟩ | ⟨hk, h1, h2⟩
    · rw [if_pos hk, h1, List.map_cons]
      rw [h2] at h
      show gapsOf ([(⟨b, o, i, p.gap, p.text, g, r⟩ : Ev)] ++ _) _ = _
      rw [gapsOf_append, ih (i + 1) h]
      have : gapsOf [(⟨b, o, i, p.gap, p.text, g, r⟩ : Ev)] (b, o) = [p.gap] := by
        unfold gapsOf
        rw [List.filter_cons, if_pos ((atRef_iff (b, o) (⟨b, o, i, p.gap, p.text, g, r⟩ : Ev)).2 rfl)]; rfl
      rw [this]; rfl
    · rw [if_neg hk, h1, gapsOf_append, gapsOf_none _ _ (h p (by rw [h2]; exact List.mem_cons_self ..)), List.nil_append]
      exact ih i fun q hq => h q (by rw [h2]; exact List.mem_cons_of_mem _ hq)
theorem lin_split {α : Type} (own : Nat → Pl.Part → α) (kid : Nat → ByteArray → List α) (ps : List Pl.Part) (q : Nat) (p : Pl.Part) (h : ps[q]? = some p) (hk : p.kid ≠ -1) :
    ∃ i, Pl.lin own kid 0 ps = Pl.lin own kid 0 (ps.take q) ++ kid p.kid.toNat p.gap ++ Pl.lin own kid i (ps.drop (q + 1)) := by
  obtain ⟨hq, rfl⟩ := List.getElem?_eq_some_iff.1 h
  refine ⟨0 + (Pl.owns (ps.take q)).length, ?_⟩
  conv => lhs; rw [← List.take_append_drop q ps, List.drop_eq_getElem_cons hq, Pl.lin_append]
  rw [Pl.lin, if_neg hk, List.append_assoc]
/-- The words leave at the nodes what the canonical layout says. -/
theorem layG_eq (a : LT) : ∀ b o L f P Q, (refs a b o).Nodup → (∀ e ∈ P, (e.b, e.o) ∉ refs a b o) → (∀ e ∈ Q, (e.b, e.o) ∉ refs a b o) → Pl.firstE (er a) = 0 → layG (P ++ evL a b o L f ++ Q) a b o = Pl.lay (er a) L f := by
  refine LT.ind (M := fun a => ∀ b o L f P Q, (refs a b o).Nodup → (∀ e ∈ P, (e.b, e.o) ∉ refs a b o) → (∀ e ∈ Q, (e.b, e.o) ∉ refs a b o) → Pl.firstE (er a) = 0 → layG (P ++ evL a b o L f ++ Q) a b o = Pl.lay (er a) L f) (fun k s g ks r ih b o L f P Q hnd hP hQ hwf => ?_) a
  rw [er] at hwf ⊢
  obtain ⟨hn0, hks⟩ := Pl.first_zero k s g (ers ks) hwf
  obtain ⟨h1, h2, h3⟩ := Pl.nodeE_zero k s g (ers ks) hn0
  have har := Pl.shape_ar k s (ers ks) h1
  rw [ers_len] at har
  rw [refs_node] at hnd hP hQ
  obtain ⟨hroot, hnk⟩ := List.nodup_cons.1 hnd
  have hkidev : ∀ p ∈ Pl.kds (Pl.fixF f (Pl.parts k s ks.length L)), ∃ (j : Nat) (u : LT), p.kid = j ∧ ks[j]? = some u ∧ (evK ks (kb r) (ko r)).getD p.kid.toNat (fun _ _ => []) (Pl.inside k L) p.gap = evL u (kb r) (ko r + j * 4) (Pl.inside k L) p.gap := fun p hp => by
    obtain ⟨j, hj, e⟩ := Pl.kds_get k s f ks.length L har p hp
    have hu := List.getElem?_eq_getElem hj
    exact ⟨j, _, e, hu, by rw [e, Int.toNat_natCast, evK_get ks _ _ j _ hu]⟩
  rw [layG_node, Pl.lay_node]
  congr 1
  · rw [gapsOf_append, gapsOf_append, gapsOf_none P _ (fun e he h => hP e he (by rw [h]; exact List.mem_cons_self ..)), gapsOf_none Q _ (fun e he h => hQ e he (by rw [h]; exact List.mem_cons_self ..)), List.nil_append, List.append_nil, evL_node, ers_len]
    refine filt_lin b o g r _ _ 0 (fun p hp e he h => ?_)
    obtain ⟨j, u, _, hu, e1⟩ := hkidev p hp
    rw [e1] at he
    have := ev_ref u _ _ _ _ e he
    rw [h] at this
    exact hroot (refsK_of ks _ _ j u _ hu this)
  · apply List.ext_getElem?
    intro j
    rw [layGs_get, Pl.layF_get, ers_map, List.getElem?_map, Option.map_map]
    cases hu : ks[j]? with
    | none => rfl
    | some u =>
      have hj := (List.getElem?_eq_some_iff.1 hu).1
      show some (layG _ u (kb r) (ko r + j * 4)) = some (Pl.lay (er u) (Pl.inside k L) (Pl.gapK f (Pl.parts k s (List.map er ks).length L) (0 + j)))
      rw [List.length_map]
      obtain ⟨ps, hps⟩ : ∃ ps, ps = Pl.fixF f (Pl.parts k s ks.length L) := ⟨_, rfl⟩
      have hkl := Pl.kds_parts k s ks.length L har
      rw [← Pl.fix_kids f, ← hps] at hkl
      have hlen : (Pl.kds ps).length = ks.length := by have := congrArg List.length hkl; simpa using this
      obtain ⟨p, hp⟩ : ∃ p, (Pl.kds ps)[j]? = some p := ⟨_, List.getElem?_eq_getElem (by omega)⟩
      have hpk : p.kid = (j : Int) := by
        have := congrArg (fun l => l[j]?) hkl
        simp only [List.getElem?_map, hp] at this
        rw [List.getElem?_range' hj] at this
        simpa using this
      have hgap : Pl.gapK f (Pl.parts k s ks.length L) (0 + j) = p.gap := by
        unfold Pl.gapK
        rw [Nat.zero_add, ← hps, List.getD_eq_getElem?_getD, List.getElem?_map, hp]; rfl
      have hpm := List.mem_of_getElem? hp
      obtain ⟨q, hq⟩ := List.getElem?_of_mem (Pl.of_kds hpm)
      have hpk1 : p.kid ≠ -1 := by rw [hpk]; omega
      obtain ⟨i, hsplit⟩ := lin_split (fun i p => (⟨b, o, i, p.gap, p.text, g, r⟩ : Ev)) (fun j gp => (evK ks (kb r) (ko r)).getD j (fun _ _ => []) (Pl.inside k L) gp) ps q p hq hpk1
      have hek : (evK ks (kb r) (ko r)).getD p.kid.toNat (fun _ _ => []) (Pl.inside k L) p.gap = evL u (kb r) (ko r + j * 4) (Pl.inside k L) p.gap := by rw [hpk, Int.toNat_natCast, evK_get ks _ _ j u hu]
      rw [hek] at hsplit
      have hpsplit : ps = ps.take q ++ (p :: ps.drop (q + 1)) := by
        obtain ⟨hq2, e⟩ := List.getElem?_eq_some_iff.1 hq
        conv => lhs; rw [← List.take_append_drop q ps, List.drop_eq_getElem_cons hq2]
        rw [e]
      have hnodup : ((Pl.kds ps).map (·.kid)).Nodup := by
        rw [hkl, List.nodup_iff_pairwise_ne, List.pairwise_map]
        exact (List.nodup_iff_pairwise_ne.1 (List.nodup_range' (step := 1))).imp (fun h e => h (by omega))
      have hkp : Pl.kds (p :: ps.drop (q + 1)) = p :: Pl.kds (ps.drop (q + 1)) := by
        rcases Pl.split_owns p (ps.drop (q + 1)) with ⟨h, _, _⟩ | ⟨_, _, h⟩
        · exact absurd h hpk1
        · exact h
      have hnd2 : (∀ x ∈ Pl.kds (ps.take q), x.kid ≠ p.kid) ∧ ∀ x ∈ Pl.kds (ps.drop (q + 1)), x.kid ≠ p.kid := by
        rw [hpsplit, Pl.kds_append, hkp, List.map_append, List.map_cons, List.nodup_append, List.nodup_cons] at hnodup
        obtain ⟨_, ⟨n2, _⟩, n3⟩ := hnodup
        exact ⟨fun x hx e => n3 _ (List.mem_map_of_mem hx) _ (List.mem_cons_self ..) e, fun x hx e => n2 (by rw [← e]; exact List.mem_map_of_mem hx)⟩
      have hout : ∀ (qs : List Pl.Part) (i : Nat), (∀ x ∈ Pl.kds qs, x ∈ Pl.kds ps) → (∀ x ∈ Pl.kds qs, x.kid ≠ p.kid) → ∀ e ∈ Pl.lin (fun i p => (⟨b, o, i, p.gap, p.text, g, r⟩ : Ev)) (fun j gp => (evK ks (kb r) (ko r)).getD j (fun _ _ => []) (Pl.inside k L) gp) i qs, (e.b, e.o) ∉ refs u (kb r) (ko r + j * 4) := fun qs i hin hne e he => by
        rcases Pl.mem_lin _ _ _ _ _ he with ⟨i2, p2, hp2, rfl⟩ | ⟨p2, hp2, hx⟩
        · exact fun hm => hroot (refsK_of ks _ _ j u _ hu hm)
        · obtain ⟨j2, u2, e1, hu2, e2⟩ := hkidev p2 (by rw [← hps]; exact hin p2 hp2)
          rw [e2] at hx
          have hj2 : j2 ≠ j := fun h => hne p2 hp2 (by rw [e1, hpk, h])
          exact refsK_apart hnk hu2 hu hj2 (ev_ref u2 _ _ _ _ e hx)
      rw [evL_node, ← hps, hsplit, hgap]
      have hin1 : ∀ x ∈ Pl.kds (ps.take q), x ∈ Pl.kds ps := fun x hx => by rw [hpsplit, Pl.kds_append]; exact List.mem_append_left _ hx
      have hin2 : ∀ x ∈ Pl.kds (ps.drop (q + 1)), x ∈ Pl.kds ps := fun x hx => by rw [hpsplit, Pl.kds_append, hkp]; exact List.mem_append_right _ (List.mem_cons_of_mem _ hx)
      have hundup : (refs u (kb r) (ko r + j * 4)).Nodup := by
        have key : ∀ (ts : List LT) (o2 j2 : Nat), (refsK ts (kb r) o2).Nodup → ts[j2]? = some u → (refs u (kb r) (o2 + j2 * 4)).Nodup := by
          intro ts
          induction ts with
          | nil => intro o2 j2 _ h; simp at h
          | cons a ts iht =>
            intro o2 j2 hn h
            rw [refsK_cons, List.nodup_append] at hn
            cases j2 with
            | zero => simp at h; subst h; simpa using hn.1
            | succ j2 =>
              have := iht (o2 + 4) j2 hn.2.1 (by simpa using h)
              rw [show o2 + (j2 + 1) * 4 = o2 + 4 + j2 * 4 from by omega]; exact this
        exact key ks (ko r) j hnk hu
      have hm : er u ∈ ers ks := by rw [ers_map]; exact List.mem_map_of_mem (List.mem_of_getElem? hu)
      have := ih u (List.mem_of_getElem? hu) (kb r) (ko r + j * 4) (Pl.inside k L) p.gap (P ++ Pl.lin (fun i p => (⟨b, o, i, p.gap, p.text, g, r⟩ : Ev)) (fun j gp => (evK ks (kb r) (ko r)).getD j (fun _ _ => []) (Pl.inside k L) gp) 0 (ps.take q)) (Pl.lin (fun i p => (⟨b, o, i, p.gap, p.text, g, r⟩ : Ev)) (fun j gp => (evK ks (kb r) (ko r)).getD j (fun _ _ => []) (Pl.inside k L) gp) i (ps.drop (q + 1)) ++ Q) hundup
        (fun e he hm2 => by
          rcases List.mem_append.1 he with he | he
          · exact hP e he (List.mem_cons_of_mem _ (refsK_of ks _ _ j u _ hu hm2))
          · exact hout _ _ hin1 hnd2.1 e he hm2)
        (fun e he hm2 => by
          rcases List.mem_append.1 he with he | he
          · exact hout _ _ hin2 hnd2.2 e he hm2
          · exact hQ e he (List.mem_cons_of_mem _ (refsK_of ks _ _ j u _ hu hm2)))
        (Pl.firsts_mem _ hks _ hm)
      rw [← this]
      simp only [List.append_assoc]
end Go.Proofs.YtiaajpdcacdngaaGreatDoor
