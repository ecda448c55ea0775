/- Trees, as plain data. -/
namespace Go.Proofs.YtmfmlkdojgbhfaaDoor.Pl
set_option linter.unusedVariables false
set_option linter.unusedSimpArgs false

inductive Tr where
  | node (kind : Int) (text : ByteArray) (gaps : List ByteArray) (kids : List Tr)
def Tr.kind : Tr → Int | .node k _ _ _ => k
def Tr.text : Tr → ByteArray | .node _ s _ _ => s
def Tr.gaps : Tr → List ByteArray | .node _ _ g _ => g
def Tr.kids : Tr → List Tr | .node _ _ _ ks => ks
theorem Tr.eta (t : Tr) : t = .node t.kind t.text t.gaps t.kids := by cases t; rfl
theorem Tr.ind {M : Tr → Prop} (h : ∀ k s g ks, (∀ t ∈ ks, M t) → M (.node k s g ks)) : ∀ t, M t
  | .node k s g ks => h k s g ks fun t ht => Tr.ind h t
termination_by t => sizeOf t
decreasing_by
  have := List.sizeOf_lt_of_mem ht
  simp only [Tr.node.sizeOf_spec]
  omega

mutual
def sz : Tr → Nat
  | .node _ _ _ ks => szs ks + 1
def szs : List Tr → Nat
  | [] => 0
  | t :: ts => sz t + szs ts
end
mutual
def ht : Tr → Nat
  | .node _ _ _ ks => hts ks + 1
def hts : List Tr → Nat
  | [] => 0
  | t :: ts => max (ht t) (hts ts)
end
mutual
def pre : Tr → List Tr
  | .node k s g ks => .node k s g ks :: pres ks
def pres : List Tr → List Tr
  | [] => []
  | t :: ts => pre t ++ pres ts
end
mutual
def bare : Tr → Tr
  | .node k s _ ks => .node k s [] (bares ks)
def bares : List Tr → List Tr
  | [] => []
  | t :: ts => bare t :: bares ts
end
theorem sz_pos (t : Tr) : 0 < sz t := by cases t; unfold sz; omega
theorem szs_append (a b : List Tr) : szs (a ++ b) = szs a + szs b := by
  induction a with
  | nil => simp [szs]
  | cons t ts ih => rw [List.cons_append, szs, szs, ih]; omega
theorem szs_take (ks : List Tr) (k : Nat) (h : k < ks.length) : szs (ks.take (k + 1)) = szs (ks.take k) + sz ks[k] := by
  rw [List.take_succ_eq_append_getElem h, szs_append]; simp [szs]
theorem szs_take_le (ks : List Tr) (k : Nat) : szs (ks.take k) ≤ szs ks := by
  have := szs_append (ks.take k) (ks.drop k)
  rw [List.take_append_drop] at this; omega
theorem szs_step (ks : List Tr) (k : Nat) (h : k < ks.length) : szs (ks.take k) + sz ks[k] ≤ szs ks := by
  rw [← szs_take ks k h]; exact szs_take_le _ _
theorem sz_mem {ks : List Tr} {t : Tr} (h : t ∈ ks) : sz t ≤ szs ks := by
  induction ks with
  | nil => cases h
  | cons a ks ih =>
    rw [szs]
    rcases List.mem_cons.1 h with rfl | h
    · omega
    · have := ih h; omega
theorem len_szs (ks : List Tr) : ks.length ≤ szs ks := by
  induction ks with
  | nil => exact Nat.le_refl _
  | cons t ks ih => rw [szs, List.length_cons]; have := sz_pos t; omega
theorem hts_append (a b : List Tr) : hts (a ++ b) = max (hts a) (hts b) := by
  induction a with
  | nil => simp [hts]
  | cons t ts ih => rw [List.cons_append, hts, hts, ih]; omega
theorem hts_take (ks : List Tr) (k : Nat) (h : k < ks.length) : hts (ks.take (k + 1)) = max (hts (ks.take k)) (ht ks[k]) := by
  rw [List.take_succ_eq_append_getElem h, hts_append]; simp [hts]
theorem hts_le (ks : List Tr) (h : ∀ t ∈ ks, ht t ≤ sz t) : hts ks ≤ szs ks := by
  induction ks with
  | nil => exact Nat.le_refl _
  | cons t ks ih =>
    rw [hts, szs]
    have h1 := h t (by simp)
    have h2 := ih (fun u hu => h u (by simp [hu]))
    omega
theorem ht_sz (t : Tr) : ht t ≤ sz t := by
  refine Tr.ind (M := fun t => ht t ≤ sz t) (fun k s g ks ih => ?_) t
  rw [ht, sz]
  have := hts_le ks ih
  omega
theorem bares_map (ks : List Tr) : bares ks = ks.map bare := by
  induction ks with
  | nil => rfl
  | cons t ks ih => rw [bares, ih]; rfl
theorem bare_szs (ks : List Tr) (h : ∀ t ∈ ks, sz (bare t) = sz t) : szs (bares ks) = szs ks := by
  induction ks with
  | nil => rfl
  | cons t ks ih => rw [bares, szs, szs, h t (by simp), ih (fun u hu => h u (by simp [hu]))]
theorem bare_sz (t : Tr) : sz (bare t) = sz t := by
  refine Tr.ind (M := fun t => sz (bare t) = sz t) (fun k s g ks ih => ?_) t
  rw [bare, sz, sz, bare_szs ks ih]
theorem bare_hts (ks : List Tr) (h : ∀ t ∈ ks, ht (bare t) = ht t) : hts (bares ks) = hts ks := by
  induction ks with
  | nil => rfl
  | cons t ks ih => rw [bares, hts, hts, h t (by simp), ih (fun u hu => h u (by simp [hu]))]
theorem bare_ht (t : Tr) : ht (bare t) = ht t := by
  refine Tr.ind (M := fun t => ht (bare t) = ht t) (fun k s g ks ih => ?_) t
  rw [bare, ht, ht, bare_hts ks ih]

end Go.Proofs.YtmfmlkdojgbhfaaDoor.Pl
