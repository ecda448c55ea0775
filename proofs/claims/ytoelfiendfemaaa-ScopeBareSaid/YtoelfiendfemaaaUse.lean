/- Uses, visible names, doubles, on plain tables. -/
import Derived.Test.YtoelfiendfemaaaPlainJ
import Derived.Test.YtoelfiendfemaaaStr
namespace Go.Proofs.Ytoelfiendfemaaa.Pl
set_option linter.unusedVariables false
set_option linter.unusedSimpArgs false

/-- A use: its place, its declaration's place, whether it is bound. -/
structure Us where
  au : Int
  an : Int
  du : Int
  dn : Int
  bound : Bool
deriving DecidableEq
abbrev Rf := Int × Int
def look (D : List Dc) (k : Int) (s : ByteArray) : Option Rf := (D.find? fun d => decide (d.kind = k ∧ d.name = s)).map fun d => (d.unit, d.node)
/-- The declaration to which a use refers. -/
def found (D : List Dc) (l : List Rw) (u i : Int) : Option Rf :=
  if spc (rw l i) = 0 then none else if spc (rw l i) = 6 then (match var l i (rw l i).text with | some v => some (u, v) | none => look D 3 (rw l i).text) else look D (spc (rw l i)) (rw l i).text
def mkUse (u i : Int) (o : Option Rf) : Us := match o with | some r => ⟨u, i, r.1, r.2, true⟩ | none => ⟨u, i, 0, 0, false⟩
def use1 (D : List Dc) (l : List Rw) (u i : Int) : Option Us := if spc (rw l i) = 0 then none else some (mkUse u i (found D l u i))
def usesTo (D : List Dc) (l : List Rw) (u : Int) (n : Nat) : List Us := (List.range n).filterMap fun (i : Nat) => use1 D l u i
theorem usesTo_succ (D : List Dc) (l : List Rw) (u : Int) (n : Nat) : usesTo D l u (n + 1) = usesTo D l u n ++ (use1 D l u n).toList := by
  unfold usesTo
  rw [List.range_succ, List.filterMap_append]
  congr 1
def tbls (us : List Un) : List (List Rw) := us.map tbl
def usesUp (D : List Dc) (T : List (List Rw)) (m : Nat) : List Us := (List.range m).flatMap fun (j : Nat) => match T[j]? with | some l => usesTo D l j l.length | none => []
theorem usesUp_succ (D : List Dc) (T : List (List Rw)) (m : Nat) (l : List Rw) (h : T[m]? = some l) : usesUp D T (m + 1) = usesUp D T m ++ usesTo D l m l.length := by
  unfold usesUp
  rw [List.range_succ, List.flatMap_append, List.flatMap_cons, List.flatMap_nil, List.append_nil, h]
def uses (us : List Un) : List Us := usesUp (decls us) (tbls us) us.length
/-- Is there a node? -/
def exs (T : List (List Rw)) (a b : Int) : Bool := decide (0 ≤ a ∧ a < T.length ∧ 0 ≤ b ∧ b < ((T[a.toNat]?).getD []).length)
def tblAt (us : List Un) (a : Int) : List Rw := ((tbls us)[a.toNat]?).getD []
def resolve (us : List Un) (a b : Int) : Option Rf := if exs (tbls us) a b then found (decls us) (tblAt us a) a b else none
def consts (D : List Dc) : List ByteArray := (D.filter fun d => decide (d.kind = 3)).map (·.name)
def names (D : List Dc) (l : List Rw) (k : Int) : List ByteArray := consts D ++ (vis l k).map fun d => (rw l d).text
def visible (us : List Un) (a b : Int) : List ByteArray := if exs (tbls us) a b then refB (names (decls us) (tblAt us a) b) else []
def unb (l : List Us) : List Rf := l.filterMap fun x => if x.bound then none else some (x.au, x.an)
def unbound (us : List Un) : List Rf := unb (uses us)
def parOf (T : List (List Rw)) (u i : Int) : Int := (rw ((T[u.toNat]?).getD []) i).parent
/-- Does the second declaration repeat the first one? -/
def dbl (T : List (List Rw)) (a b : Dc) : Bool :=
  decide (a.kind = b.kind ∧ a.name = b.name ∧ (b.kind = 1 ∨ b.kind = 2 ∨ b.kind = 3 ∨ (a.unit = b.unit ∧ parOf T a.unit a.node = parOf T b.unit b.node)))
def dblTo (T : List (List Rw)) (D : List Dc) (i : Nat) (d : Dc) : Bool := (D.take i).any fun a => dbl T a d
def dbls (T : List (List Rw)) (D : List Dc) (m : Nat) : List Rf := (List.range m).filterMap fun (i : Nat) => match D[i]? with | some d => if dblTo T D i d then some (d.unit, d.node) else none | none => none
theorem dbls_succ (T : List (List Rw)) (D : List Dc) (m : Nat) (d : Dc) (h : D[m]? = some d) : dbls T D (m + 1) = dbls T D m ++ (if dblTo T D m d then [(d.unit, d.node)] else []) := by
  unfold dbls
  rw [List.range_succ, List.filterMap_append]
  congr 1
  cases hd : dblTo T D m d <;> simp [h, hd]
def doubles (us : List Un) : List Rf := dbls (tbls us) (decls us) (decls us).length

/- ### Sorted lists of names -/
theorem refB_snoc (xs : List ByteArray) (s : ByteArray) : refB (xs ++ [s]) = putB (refB xs) s := by
  have h := refB_succ (xs ++ [s]) xs.length (by simp)
  rw [List.take_of_length_le (by simp)] at h
  simpa using h
theorem refB_refB (xs : List ByteArray) : refB (refB xs) = refB xs := by
  unfold refB
  rw [bs_mk]
  congr 1
  exact strict_ext _ _ (refL_facts _).1 (refL_facts _).1 fun x => (refL_facts _).2 x
theorem insB_refB (xs : List ByteArray) (s : ByteArray) : insB (refB xs) s = refB (xs ++ [s]) := by
  rw [← ref_insB, refB_refB, refB_snoc]
theorem refB_length (xs : List ByteArray) : (refB xs).length ≤ xs.length := by
  have := refB_len xs xs.length
  rwa [List.take_length] at this
theorem refB_mem (xs : List ByteArray) (x : ByteArray) : x ∈ refB xs ↔ x ∈ xs := by
  unfold refB
  constructor
  · intro h
    obtain ⟨y, hy, rfl⟩ := List.mem_map.1 h
    have h2 := ((refL_facts _).2 y).1 hy
    obtain ⟨z, hz, hzy⟩ := List.mem_map.1 h2
    rw [← hzy, mk_self]; exact hz
  · intro h
    exact List.mem_map.2 ⟨x.data.toList, ((refL_facts _).2 _).2 (List.mem_map.2 ⟨x, h, rfl⟩), mk_self x⟩
end Go.Proofs.Ytoelfiendfemaaa.Pl
