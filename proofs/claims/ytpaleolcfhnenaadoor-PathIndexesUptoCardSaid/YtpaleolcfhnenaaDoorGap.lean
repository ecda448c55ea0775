/- Well-formed trees have few gaps. -/
import Derived.Test.YtpaleolcfhnenaaDoorPut
namespace Go.Proofs.YtpaleolcfhnenaaDoor.Pl
open Go
set_option linter.unusedVariables false
set_option linter.unusedSimpArgs false

/-- All nodes have few gaps. -/
def GB (t : Tr) : Prop := ∀ x ∈ pre t, x.gaps.length ≤ 1048576
theorem wrap_small (n : Nat) (h : n ≤ 1048500) (c : Int) (h0 : 0 ≤ c) (h4 : c ≤ 4) : RowKit.wrap64 (c + (n : Int)) ≤ 1048576 := by
  unfold RowKit.wrap64; omega
theorem ownT_le (k : Int) : ownT k ≤ 4 ∧ 0 ≤ ownT k := by unfold ownT; repeat' split <;> omega
theorem own_le (k : Int) (s : ByteArray) (n : Nat) (h : n ≤ 1000000) : own k s n ≤ 1048576 := by
  have := ownT_le k
  unfold own
  split
  · split <;> omega
  · split
    · split <;> omega
    · split
      · exact wrap_small _ (by omega) _ this.2 this.1
      · split
        · exact wrap_small _ (by omega) 4 (by omega) (by omega)
        · omega
theorem gaps_first (t : Tr) : firstE t = 0 → sz t ≤ 1000000 → GB t := by
  refine Tr.ind (M := fun t => firstE t = 0 → sz t ≤ 1000000 → GB t) (fun k s g ks ih h hz => ?_) t
  obtain ⟨h1, h2⟩ := first_zero _ _ _ _ h
  obtain ⟨_, _, h3⟩ := nodeE_zero _ _ _ _ h1
  rw [sz] at hz
  have hl := len_szs ks
  intro x hx
  rw [pre] at hx
  rcases List.mem_cons.1 hx with rfl | hx
  · show g.length ≤ 1048576
    unfold gapsOK at h3
    rw [Bool.or_eq_true, Bool.and_eq_true, decide_eq_true_eq, decide_eq_true_eq] at h3
    rcases h3 with rfl | ⟨h3, _⟩
    · simp
    · have := own_le k s ks.length (by omega)
      omega
  · obtain ⟨u, hu, hxu⟩ := pres_mem hx
    have := sz_mem hu
    exact ih u hu (firsts_mem ks h2 u hu) (by omega) x hxu
theorem gb_chk {t : Tr} (h : chk t = 0) (hz : sz t ≤ 1000000) : GB t := gaps_first t (chk_zero t h).2.2.2 hz
theorem gb_get {p : List Int} {t u : Tr} (h : GB t) (hu : getP p t = some u) : GB u := by
  have h1 := get_idx p t
  rw [hu] at h1
  obtain ⟨x, hx⟩ := Option.isSome_iff_exists.1 h1.symm
  have h2 := (idx_get hu hx).2
  intro y hy
  obtain ⟨_, h3⟩ := pre_sub t x u h2
  obtain ⟨j, hj⟩ := List.getElem?_of_mem hy
  have hjl : j < sz u := by rw [← pre_len]; exact (List.getElem?_eq_some_iff.1 hj).1
  exact h y (List.mem_of_getElem? ((h3 j hjl).trans hj))
theorem rchk_zero {t : Tr} (h : rchk t = 0) : sz t ≤ 4000 ∧ firstE t = 0 := by
  unfold rchk at h
  by_cases hb : 4000 < rsz 1 t
  · rw [if_pos hb] at h; cases h
  · rw [if_neg hb] at h
    obtain ⟨q1, _⟩ := rsz_eq t 1 (by decide)
    refine ⟨?_, h⟩
    by_cases hz : sz t ≤ 4000
    · exact hz
    · have := q1 (.inl (by omega)); omega
theorem gb_r {t : Tr} (h : rchk t = 0) : GB t := gaps_first t (rchk_zero h).2 (by have := (rchk_zero h).1; omega)
theorem gb_rp {t : Tr} (h : rchk t = 0) (p : List Int) : ∀ u, getP p t = some u → GB u := fun u hu => gb_get (gb_r h) hu
theorem insE_ok {t x : Tr} {p : List Int} (h : insE t p x = 0) : rchk (insT t p x) = 0 := by
  rcases List.eq_nil_or_concat p with rfl | ⟨q, i, rfl⟩
  · rw [insE_nil] at h; cases h
  · rw [List.concat_eq_append] at h ⊢
    cases hq : getP q t with
    | none => rw [insE_none i x hq] at h; cases h
    | some u =>
      rw [insE_some i x hq] at h
      split at h
      · cases h
      · split at h
        · cases h
        · split at h
          · assumption
          · cases h
end Go.Proofs.YtpaleolcfhnenaaDoor.Pl
