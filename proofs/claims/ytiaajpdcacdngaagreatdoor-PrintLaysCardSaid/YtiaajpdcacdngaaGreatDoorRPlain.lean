/- The printer's reference, as plain data: a node's words step by step, its canonical layout. -/
import Derived.Test.YtiaajpdcacdngaaGreatDoorWNext
import Derived.Test.YtiaajpdcacdngaaGreatDoorPMore
namespace Go.Proofs.YtiaajpdcacdngaaGreatDoor.Pl
open Go
set_option linter.unusedVariables false
set_option linter.unusedSimpArgs false

theorem kds_at (ps : List Part) (q : Nat) (p : Part) (h : ps[q]? = some p) (hk : ¬ p.kid = -1) : (kds ps)[(kds (ps.take q)).length]? = some p := by
  obtain ⟨hq, rfl⟩ := List.getElem?_eq_some_iff.1 h
  have e : kds ps = kds (ps.take q) ++ (ps[q] :: kds (ps.drop (q + 1))) := by
    conv => lhs; rw [← List.take_append_drop q ps, List.drop_eq_getElem_cons hq, kds_append]
    congr 1
    unfold kds
    rw [List.filter_cons, if_pos (by simpa using hk)]
  rw [e, List.getElem?_append_right (Nat.le_refl _), Nat.sub_self]; rfl
theorem fix_kid (f : ByteArray) (ps : List Part) : (fixF f ps).map (·.kid) = ps.map (·.kid) := by cases ps <;> rfl
theorem kds_fix_len (k : Int) (s f : ByteArray) (n L : Nat) (h : Ar k n) : (kds (fixF f (parts k s n L))).length = n := by
  have := congrArg List.length (fix_kids f (parts k s n L))
  rw [kds_parts k s n L h] at this
  simpa using this
/-- One step through the order of a node: an own token, or a kid. -/
def Stp (k : Int) (s : ByteArray) (g : List ByteArray) (ks : List Tr) (L : Nat) (f : ByteArray) (I : Nat → Nat) (E : Nat → List Wd) (q : Nat) : Prop :=
  (∃ x, (rorder k s ks.length)[q]? = some (-1) ∧ (rown k s ks.length)[I q]? = some x ∧ I (q + 1) = I q + 1 ∧ E (q + 1) = E q ++ [⟨I q, rgap k ks.length (I q) f L, x, g⟩]) ∨
  (∃ (j : Nat) (u : Tr), (rorder k s ks.length)[q]? = some (j : Int) ∧ ks[j]? = some u ∧ I (q + 1) = I q ∧ E (q + 1) = E q ++ evT u (inside k L) (rkid k j f L))
/-- The words of a node, step by step. -/
structure Nod (k : Int) (s : ByteArray) (g : List ByteArray) (ks : List Tr) (L : Nat) (f : ByteArray) (m : Nat) (I : Nat → Nat) (E : Nat → List Wd) : Prop where
  len : (rorder k s ks.length).length = m
  i0 : I 0 = 0
  e0 : E 0 = []
  em : E m = evT (.node k s g ks) L f
  il : ∀ q, q ≤ m → I q ≤ (rown k s ks.length).length
  step : ∀ q, q < m → Stp k s g ks L f I E q
theorem nod_any (k : Int) (s : ByteArray) (g : List ByteArray) (ks : List Tr) (L : Nat) (f : ByteArray) (h : Ar k ks.length) : ∃ m I E, Nod k s g ks L f m I E := by
  obtain ⟨ps, hps⟩ : ∃ ps, ps = fixF f (parts k s ks.length L) := ⟨_, rfl⟩
  have hkid : ps.map (·.kid) = rorder k s ks.length := by rw [hps, fix_kid, rorder_eq k s ks.length L h]
  have hown : (owns ps).map (·.text) = rown k s ks.length := by rw [hps, owns_fix_text, rown_eq k s ks.length L h]
  have hgap := rgap_eq k s f ks.length L h
  have hkg := rkid_eq k s f ks.length L h
  have hkk := fix_kids f (parts k s ks.length L)
  rw [kds_parts k s ks.length L h] at hkk
  have hol := owns_len_fix f (parts k s ks.length L)
  rw [← hps] at hgap hkg hkk hol
  have hle : ∀ q, (owns (ps.take q)).length ≤ (owns ps).length := fun q => by
    have : (owns ps) = owns (ps.take q) ++ owns (ps.drop q) := by rw [← owns_append, List.take_append_drop]
    rw [this, List.length_append]; omega
  refine ⟨ps.length, fun q => (owns (ps.take q)).length, fun q => lin (fun o p => ⟨o, p.gap, p.text, g⟩) (fun j gp => (evF ks).getD j (fun _ _ => []) (inside k L) gp) 0 (ps.take q), ⟨?_, rfl, rfl, ?_, fun q _ => ?_, fun q hq => ?_⟩⟩
  · rw [← hkid, List.length_map]
  · show lin _ _ 0 (ps.take ps.length) = _
    rw [List.take_length, evT_node, hps]
  · have := congrArg List.length hown
    rw [List.length_map] at this
    rw [← this]; exact hle q
  · have hget := List.getElem?_eq_getElem hq
    have e2 := lin_take (fun o p => (⟨o, p.gap, p.text, g⟩ : Wd)) (fun j gp => (evF ks).getD j (fun _ _ => []) (inside k L) gp) ps q hq
    have e3 := owns_take ps q hq
    generalize ps[q] = p at *
    have hor : (rorder k s ks.length)[q]? = some p.kid := by rw [← hkid, List.getElem?_map, hget]; rfl
    by_cases hk : p.kid = -1
    · have ho := owns_at ps q p hget hk
      rw [if_pos hk] at e2 e3
      refine .inl ⟨p.text, by rw [hor, hk], by rw [← hown, List.getElem?_map, ho]; rfl, by simp only; rw [e3, List.length_append]; rfl, ?_⟩
      have hg : some p.gap = some (rgap k ks.length (owns (ps.take q)).length f L) := by
        have h1 : ((owns ps).map (·.gap))[(owns (ps.take q)).length]? = some p.gap := by rw [List.getElem?_map, ho]; rfl
        rw [← h1, hgap, List.getElem?_map, List.getElem?_range (by rw [← hol]; exact (List.getElem?_eq_some_iff.1 ho).1)]; rfl
      injection hg with hg
      simp only
      rw [e2, ← hg]
    · have ho := kds_at ps q p hget hk
      rw [if_neg hk] at e2 e3
      have hlt : (kds (ps.take q)).length < ks.length := by
        have := (List.getElem?_eq_some_iff.1 ho).1
        rw [hps, kds_fix_len k s f ks.length L h] at this
        rwa [hps]
      have hj : some p.kid = some (((kds (ps.take q)).length : Nat) : Int) := by
        have h1 : ((kds ps).map (·.kid))[(kds (ps.take q)).length]? = some p.kid := by rw [List.getElem?_map, ho]; rfl
        rw [← h1, hkk, List.getElem?_map, List.getElem?_range' (by omega)]; simp
      have hg : some p.gap = some (rkid k (kds (ps.take q)).length f L) := by
        have h1 : ((kds ps).map (·.gap))[(kds (ps.take q)).length]? = some p.gap := by rw [List.getElem?_map, ho]; rfl
        rw [← h1, hkg, List.getElem?_map, List.getElem?_range (by omega)]; rfl
      injection hj with hj
      injection hg with hg
      have hu := List.getElem?_eq_getElem hlt
      refine .inr ⟨(kds (ps.take q)).length, _, by rw [hor, hj], hu, by simp only; rw [e3, List.length_append]; rfl, ?_⟩
      simp only
      rw [e2, hj, Int.toNat_natCast, evF_get ks _ _ hu, ← hg]
/-- The canonical gap before a kid. -/
theorem gapK_is (k : Int) (s f : ByteArray) (n L j : Nat) (h : Ar k n) (hj : j < n) : gapK f (parts k s n L) j = rkid k j f L := by
  unfold gapK
  rw [rkid_eq k s f n L h, List.getD_eq_getElem?_getD, List.getElem?_map, List.getElem?_range hj]; rfl
theorem lay_gaps_is (k : Int) (s f : ByteArray) (n L : Nat) (h : Ar k n) : (owns (fixF f (parts k s n L))).map (·.gap) = (List.range (rown k s n).length).map fun i => rgap k n i f L := by
  rw [rgap_eq k s f n L h, ← rown_eq k s n L h, List.length_map]
end Go.Proofs.YtiaajpdcacdngaaGreatDoor.Pl
