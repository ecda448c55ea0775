/- What the laws PathRemoves, PathBack and PathReplaces ask of plain data. -/
import Derived.Test.YtpaleolcfhnenaaDoorPut
namespace Go.Proofs.YtpaleolcfhnenaaDoor.Pl
set_option linter.unusedVariables false

theorem snoc_of (p : List Int) : p = [] ∨ ∃ q i, p = q ++ [i] := by
  rcases List.eq_nil_or_concat p with h | ⟨q, i, h⟩
  · exact .inl h
  · exact .inr ⟨q, i, by rw [h, List.concat_eq_append]⟩
theorem rchk_first {t : Tr} (h : rchk t = 0) : firstE t = 0 := by
  unfold rchk at h
  split at h
  · cases h
  · exact h
theorem like_rchk {u v : Tr} (h : Like u v) (hz : sz v ≤ 10000) (hc : rchk v = 0) : rchk u = 0 := by
  have := h.chk (by omega) (by rw [chk_rchk v (by omega)]; exact hc)
  rwa [chk_rchk u (by rw [h.sz]; omega)] at this
/-- A node that is inserted is at its path, and without it the tree parts in gaps alone. -/
theorem removes_plain {t x : Tr} {p : List Int} (hc : rchk t = 0) (hz : sz t ≤ 300) (hx : sz x ≤ 300) (he : insE t p x = 0) :
    getP p (insT t p x) = some x ∧ remE (insT t p x) p = 0 ∧ bare (remT (insT t p x) p) = bare t ∧ sz (insT t p x) ≤ 10000 := by
  rcases snoc_of p with rfl | ⟨q, i, rfl⟩
  · rw [insE_nil] at he; cases he
  cases hg : getP q t with
  | none => rw [insE_none i x hg] at he; cases he
  | some u =>
    rw [insE_some i x hg] at he
    have hi : ¬(i < 0 ∨ (u.kids.length : Int) < i) := by
      intro h; rw [if_pos h] at he; cases he
    obtain ⟨k, rfl⟩ : ∃ k : Nat, i = k := ⟨i.toNat, by omega⟩
    have hk : k ≤ u.kids.length := by omega
    obtain ⟨v, hl, h1, h2, h3⟩ := ins_back x hg hk
    have hT : insT t (q ++ [(k : Int)]) x = putP (wth u (insK u.kids k x)) q t := by rw [insT_snoc _ x hg, Int.toNat_natCast]
    have hR : remT (insT t (q ++ [(k : Int)]) x) (q ++ [(k : Int)]) = putP v q t := by
      rw [hT, remT_snoc _ h1, Int.toNat_natCast, wth_kids, h3]
    have hG : getP (q ++ [(k : Int)]) (insT t (q ++ [(k : Int)]) x) = some x := by
      rw [hT, getP_append, h1]
      show getP [(k : Int)] _ = _
      rw [getP_cons _ _ _ _ h2, getP]
    refine ⟨hG, ?_, by rw [hR]; exact hl.bare, ?_⟩
    · rw [remE_some (by simp) hG, hR, if_pos (like_rchk hl (by omega) hc)]
    · have h4 := sz_put (wth u (insK u.kids k x)) hg
      rw [← hT] at h4
      have h5 : sz (wth u (insK u.kids k x)) = sz u + sz x := by
        rw [sz_eq, wth_kids, szs_ins, sz_eq u]; omega
      omega
/-- What Replace answers when it answers OK. -/
theorem repl_parts {t x : Tr} {p : List Int} (he : replE t p x = 0) : (∃ u, getP p t = some u) ∧ rchk (putP x p t) = 0 := by
  cases hg : getP p t with
  | none => rw [replE_none hg] at he; cases he
  | some u =>
    rw [replE_some hg] at he
    refine ⟨⟨u, rfl⟩, ?_⟩
    split at he
    · cases he
    · split at he
      · assumption
      · cases he
/-- A node that is replaced and put back. -/
theorem back_plain {t x old : Tr} {p : List Int} (hc : rchk t = 0) (hz : sz t ≤ 300) (hx : sz x ≤ 300) (hg : getP p t = some old) (he : replE t p x = 0) :
    replE (putP x p t) p old = 0 ∧ putP old p (putP x p t) = t ∧ sz (putP x p t) ≤ 10000 ∧ sz old ≤ 10000 := by
  have hb : putP old p (putP x p t) = t := by rw [put_put x old hg, put_get hg]
  have h4 := sz_put x hg
  have h5 := sz_put old hg
  rw [put_get hg] at h5
  refine ⟨?_, hb, by omega, ?_⟩
  · rw [replE_some (get_put x hg), hb, hc]
    have hf : fitP (putP x p t) p old.kind = true := by
      rcases snoc_of p with rfl | ⟨q, i, rfl⟩
      · exact fitP_nil _ _
      obtain ⟨u, hu, hk⟩ := get_snoc hg
      have hff : fits u.kind i old.kind = true := first_fits (rchk_first hc) hu hk
      rw [fitP_snoc _ _ (get_above x hu hk)]
      exact hff
    rw [hf]; rfl
  · have h6 : (idxP p t).isSome = true := by rw [← get_idx, hg]; rfl
    obtain ⟨n, hn⟩ := Option.isSome_iff_exists.1 h6
    have := (idx_get hg hn).1
    omega
theorem replE_or {t x : Tr} {p : List Int} (h : replE t p x ≠ 0) : replE t p x = 5 ∨ replE t p x = 7 := by
  unfold replE at *
  split
  · exact .inl rfl
  · split
    · exact .inr rfl
    · split
      · rename_i h1 h2 h3; exfalso; apply h; simp_all
      · exact .inr rfl
end Go.Proofs.YtpaleolcfhnenaaDoor.Pl
