/- What is found does not depend on gaps. -/
import Derived.Test.YtoelfiendfemaaaPAgrJ
namespace Go.Proofs.Ytoelfiendfemaaa.Pl
set_option linter.unusedVariables false
set_option linter.unusedSimpArgs false

/-- A row without gaps. -/
def bR (r : Rw) : Rw := ⟨r.parent, r.kind, r.text, [], r.kids⟩
theorem rw_map (l : List Rw) (i : Int) : rw (l.map bR) i = bR (rw l i) := by
  unfold rw
  rw [List.getElem?_map]
  cases l[i.toNat]? <;> rfl
theorem kidx_bares (ks : List Tr) : ∀ a, kidx (bares ks) a = kidx ks a := by
  induction ks with
  | nil => intro a; rfl
  | cons t ks ih => intro a; rw [bares, kidx, kidx, bare_sz, ih]
theorem tab_bare (t : Tr) : ∀ (a : Nat) (p : Int), tab (bare t) a p = (tab t a p).map bR := by
  refine Tr.ind (M := fun t => ∀ (a : Nat) (p : Int), tab (bare t) a p = (tab t a p).map bR) (fun k s g ks ih a p => ?_) t
  have go : ∀ (l : List Tr), (∀ t ∈ l, ∀ (a : Nat) (p : Int), tab (bare t) a p = (tab t a p).map bR) → ∀ (b : Nat) (q : Int), tabs (bares l) b q = (tabs l b q).map bR := by
    intro l
    induction l with
    | nil => intro _ b q; rfl
    | cons c l ihl =>
      intro hall b q
      rw [bares, tabs, tabs, List.map_append, hall c (by simp) b q, bare_sz, ihl (fun t ht => hall t (by simp [ht]))]
  rw [bare, tab, tab, List.map_cons, go ks ih]
  congr 1
  unfold bR
  rw [kidx_bares]
/-- A unit without gaps. -/
def bU (x : Un) : Un := ⟨x.path, x.text, bare x.tree, x.broken⟩
theorem tbl_bare (x : Un) : tbl (bU x) = (tbl x).map bR := by
  unfold tbl bU
  by_cases hb : x.broken = true
  · simp only [hb, if_true]; rfl
  · simp only [hb, if_neg hb]; exact tab_bare _ _ _
theorem blockVars_bare (l : List Rw) (k : Int) (ks : List Int) : blockVars (l.map bR) k ks = blockVars l k ks := by
  unfold blockVars
  congr 1
  funext c
  rw [rw_map]; rfl
theorem parKids_bare (l : List Rw) (k : Int) : parKids (l.map bR) k = parKids l k := by
  funext c
  unfold parKids
  have h1 : (rw (l.map bR) c).kids = (rw l c).kids := by rw [rw_map]; rfl
  rw [h1]
  congr 1
  funext d
  rw [rw_map, rw_map]; rfl
theorem declared_bare (l : List Rw) (p k : Int) : declared (l.map bR) p k = declared l p k := by
  unfold declared funcVars
  rw [blockVars_bare, parKids_bare, rw_map, rw_map]; rfl
theorem visF_bare (l : List Rw) : ∀ (n : Nat) (k : Int), visF (l.map bR) n k = visF l n k := by
  intro n
  induction n with
  | zero => intro k; rfl
  | succ n ih =>
    intro k
    have h1 : (rw (l.map bR) k).parent = (rw l k).parent := by rw [rw_map]; rfl
    have h2 : (rw (l.map bR) (rw l k).parent).kind = (rw l (rw l k).parent).kind := by rw [rw_map]; rfl
    rw [visF, visF, h1, h2, declared_bare, ih]
theorem vis_bare (l : List Rw) (k : Int) : vis (l.map bR) k = vis l k := visF_bare l _ k
theorem text_bare (l : List Rw) (d : Int) : (rw (l.map bR) d).text = (rw l d).text := by rw [rw_map]; rfl
theorem spc_bare (l : List Rw) (i : Int) : spc (rw (l.map bR) i) = spc (rw l i) := by rw [rw_map]; rfl
theorem var_bare (l : List Rw) (k : Int) (s : ByteArray) : var (l.map bR) k s = var l k s := by
  unfold var
  rw [vis_bare]
  congr 1
  funext d
  rw [text_bare]
theorem found_bare (D : List Dc) (l : List Rw) (u i : Int) : found D (l.map bR) u i = found D l u i := by
  unfold found
  rw [spc_bare, text_bare, var_bare]
theorem use1_bare (D : List Dc) (l : List Rw) (u i : Int) : use1 D (l.map bR) u i = use1 D l u i := by
  unfold use1
  rw [spc_bare, found_bare]
theorem usesTo_bare (D : List Dc) (l : List Rw) (u : Int) (n : Nat) : usesTo D (l.map bR) u n = usesTo D l u n := by
  unfold usesTo
  exact fm_congr _ fun i _ => use1_bare D l u i
mutual
theorem dcs_bare : ∀ (t : Tr) (u : Int) (i : Nat) (fn cl : ByteArray) (m : Bool), dcs (bare t) u i fn cl m = dcs t u i fn cl m
  | .node k s g ks, u, i, fn, cl, m => by rw [bare, dcs, dcs, dcss_bare ks]
theorem dcss_bare : ∀ (ks : List Tr) (u : Int) (i : Nat) (fn cl : ByteArray) (m : Bool), dcss (bares ks) u i fn cl m = dcss ks u i fn cl m
  | [], u, i, fn, cl, m => by rw [bares]
  | t :: ts, u, i, fn, cl, m => by rw [bares, dcss, dcss, dcs_bare t, bare_sz, dcss_bare ts]
end
theorem decls_bare (us : List Un) : decls (us.map bU) = decls us := by
  unfold decls declsTo
  rw [List.length_map]
  congr 1
  funext j
  rw [List.getElem?_map]
  cases us[j]? with
  | none => rfl
  | some x =>
    show declsOf (bU x) j = declsOf x j
    unfold declsOf bU
    simp only
    rw [dcs_bare]
theorem tbls_bare (us : List Un) : tbls (us.map bU) = (tbls us).map (List.map bR) := by
  unfold tbls
  rw [List.map_map, List.map_map]
  refine List.map_congr_left fun x _ => ?_
  exact tbl_bare x
theorem usesUp_bare (D : List Dc) (T : List (List Rw)) (m : Nat) : usesUp D (T.map (List.map bR)) m = usesUp D T m := by
  unfold usesUp
  congr 1
  funext j
  rw [List.getElem?_map]
  cases T[j]? with
  | none => rfl
  | some l =>
    show usesTo D (l.map bR) j (l.map bR).length = usesTo D l j l.length
    rw [List.length_map, usesTo_bare]
/-- The uses do not depend on gaps. -/
theorem uses_bare (us : List Un) : uses (us.map bU) = uses us := by
  unfold uses
  rw [decls_bare, tbls_bare, List.length_map, usesUp_bare]
theorem at_bare (T : List (List Rw)) (a : Nat) : ((T.map (List.map bR))[a]?).getD [] = ((T[a]?).getD []).map bR := by
  rw [List.getElem?_map]
  cases T[a]? <;> rfl
theorem parOf_bare (T : List (List Rw)) (u i : Int) : parOf (T.map (List.map bR)) u i = parOf T u i := by
  unfold parOf
  rw [at_bare, rw_map]; rfl
theorem dbl_bare (T : List (List Rw)) (a b : Dc) : dbl (T.map (List.map bR)) a b = dbl T a b := by
  unfold dbl
  simp only [parOf_bare]
/-- The doubles do not depend on gaps. -/
theorem doubles_bare (us : List Un) : doubles (us.map bU) = doubles us := by
  unfold doubles
  rw [decls_bare, tbls_bare]
  unfold dbls
  refine fm_congr _ fun i _ => ?_
  have h : ∀ d, dblTo ((tbls us).map (List.map bR)) (decls us) i d = dblTo (tbls us) (decls us) i d := by
    intro d
    unfold dblTo
    congr 1
    funext a
    exact dbl_bare _ _ _
  cases (decls us)[i]? with
  | none => rfl
  | some d => simp only [h]
theorem exs_bare (T : List (List Rw)) (a b : Int) : exs (T.map (List.map bR)) a b = exs T a b := by
  unfold exs
  rw [at_bare, List.length_map, List.length_map]
/-- The visible names do not depend on gaps. -/
theorem visible_bare (us : List Un) (a b : Int) : visible (us.map bU) a b = visible us a b := by
  unfold visible tblAt
  rw [decls_bare, tbls_bare, exs_bare, at_bare]
  unfold names
  rw [vis_bare]
  simp only [text_bare]
end Go.Proofs.Ytoelfiendfemaaa.Pl
