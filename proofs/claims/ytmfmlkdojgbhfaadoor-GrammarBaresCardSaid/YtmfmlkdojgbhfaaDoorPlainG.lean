/- Which trees are programs, as plain data. -/
import Derived.Test.YtmfmlkdojgbhfaaDoorPlainTr
import Derived.Test.YtmfmlkdojgbhfaaDoorPlainEnd
import Derived.WalkKit
namespace Go.Proofs.YtmfmlkdojgbhfaaDoor.Pl
open Go
set_option linter.unusedVariables false
set_option linter.unusedSimpArgs false

/- ### Kinds -/
def grp (k : Int) : Int := if k = 2 ∨ k = 7 ∨ k = 9 then 1 else if (10 ≤ k ∧ k ≤ 13) ∨ k = 15 ∨ k = 16 then 2 else if 17 ≤ k ∧ k ≤ 26 then 3 else 0
def FitsP (p pos kid : Int) : Prop := 0 ≤ pos ∧ (p = 1 ∧ grp kid = 1 ∨ p = 2 ∧ (pos = 0 ∧ kid = 3 ∨ pos = 1 ∧ kid = 5 ∨ pos = 2 ∧ kid = 6) ∨ p = 3 ∧ kid = 4 ∨ p = 4 ∧ pos = 0 ∧ kid = 5 ∨ p = 6 ∧ grp kid = 2 ∨
  p = 7 ∧ (pos = 0 ∧ kid = 8 ∨ 0 < pos ∧ kid = 2) ∨ p = 13 ∧ (pos = 0 ∧ grp kid = 3 ∨ pos = 1 ∧ kid = 6 ∨ pos = 2 ∧ kid = 14) ∨ p = 14 ∧ pos = 0 ∧ kid = 6 ∨ p = 15 ∧ (pos = 0 ∧ grp kid = 3 ∨ pos = 1 ∧ kid = 6) ∨
  (p = 20 ∨ p = 21) ∧ grp kid = 3 ∨ p = 24 ∧ pos < 2 ∧ grp kid = 3 ∨ (p = 9 ∨ p = 10 ∨ p = 11 ∨ p = 12 ∨ p = 16 ∨ p = 25 ∨ p = 26) ∧ pos = 0 ∧ grp kid = 3)
instance (p pos kid : Int) : Decidable (FitsP p pos kid) := by unfold FitsP; infer_instance
def fits (p pos kid : Int) : Bool := decide (FitsP p pos kid)
def least (k : Int) : Int := if k = 2 ∨ k = 13 then 3 else if k = 15 ∨ k = 24 then 2 else if k = 4 ∨ k = 7 ∨ (9 ≤ k ∧ k ≤ 12) ∨ k = 16 ∨ k = 21 ∨ k = 25 ∨ k = 26 then 1 else 0
def mostK (k : Int) : Int := if k = 3 ∨ k = 20 then 16 else if k = 21 then 17 else 200
/-- What the text of a kind has to be: 0 empty, 1 a name, 2 a name or empty, 3 an integer, 4 a word. -/
def txt (k : Int) : Int := if k = 2 ∨ k = 4 ∨ k = 5 ∨ k = 7 ∨ (9 ≤ k ∧ k ≤ 11) ∨ (19 ≤ k ∧ k ≤ 22) then 1 else if k = 8 then 2 else if k = 17 then 3 else if k = 18 ∨ (23 ≤ k ∧ k ≤ 25) then 4 else 0
def ownT (k : Int) : Int := if k = 7 ∨ k = 9 ∨ k = 10 ∨ k = 21 ∨ k = 22 then 4 else if k = 11 ∨ k = 20 then 3 else if k = 2 ∨ k = 3 ∨ k = 6 ∨ k = 8 ∨ k = 12 ∨ k = 26 then 2 else if 1 ≤ k ∧ k ≤ 26 then 1 else 0

/- ### Texts -/
def lvL (l : Bs) : Int := if l = [124] then 1 else if l = [38] then 2 else if l = [61, 61] ∨ l = [60] then 3 else if l = [43] ∨ l = [45] then 4 else if l = [42] ∨ l = [47] then 5 else 0
def lvo (s : ByteArray) : Int := lvL s.data.toList
def lv (k : Int) (s : ByteArray) : Int := if k = 24 then lvo s else if k = 25 then 6 else if grp k = 3 then 7 else 0
def own (k : Int) (s : ByteArray) (n : Nat) : Int :=
  if k = 8 then (if s.size = 0 then 0 else 2) else if k = 14 then (if n = 0 then 0 else 1) else if k = 3 ∨ k = 20 then RowKit.wrap64 (ownT k + ((n - 1 : Nat) : Int)) else if k = 21 then RowKit.wrap64 (4 + ((n - 2 : Nat) : Int)) else ownT k
def isW (k : Int) (s : ByteArray) : Bool :=
  if k = 18 then s.data.toList == [116, 114, 117, 101] || s.data.toList == [102, 97, 108, 115, 101] else if k = 23 then s.data.toList == [115, 101, 108, 102] else if k = 25 then s.data.toList == [45] || s.data.toList == [33] else decide (0 < lvo s)
def wordOK (k : Int) (s : ByteArray) : Bool := if txt k = 0 then decide (s.size = 0) else if txt k = 4 then isW k s else true
def dgs (l : Bs) : Bool := l.all fun c => dg c.toNat
def numL (n : Nat) (l : Bs) : Nat := l.foldl (fun n c => n * 10 + (c.toNat - 48)) n
def isI (s : ByteArray) : Bool := decide (s.size ≠ 0) && !(decide (s.data.toList.head? = some 48) && decide (1 < s.size)) && dgs s.data.toList && decide (numL 0 s.data.toList ≤ 1000000000000)
def nameOK (k : Int) (s : ByteArray) : Bool := if txt k = 2 then decide (s.size = 0) || nm s else if txt k = 1 then nm s else if txt k = 3 then isI s else true
def triv (s : ByteArray) : Bool := eo s.data.toList == s.data.toList.length
def gapsOK (k : Int) (s : ByteArray) (g : List ByteArray) (n : Nat) : Bool := decide (g = []) || decide ((g.length : Int) = own k s n) && g.all triv

/- ### Nodes -/
def Tr.lev (t : Tr) : Int := lv t.kind t.text
def fitA (k : Int) : Nat → List Tr → Bool
  | _, [] => true
  | i, u :: us => fits k i u.kind && fitA k (i + 1) us
def lvls (k : Int) (s : ByteArray) (ks : List Tr) : Bool :=
  if k = 24 then match ks with
    | a :: b :: _ => !(decide (lvo s = 3) && decide (a.lev = lvo s)) && decide (lvo s ≤ a.lev) && decide (lvo s < b.lev)
    | _ => true
  else if k = 25 then match ks with
    | a :: _ => decide (6 ≤ a.lev)
    | _ => true
  else if k = 21 then match ks with
    | a :: _ => decide (7 ≤ a.lev)
    | _ => true
  else true
/-- The shape of a node: its kind, its kids, its word, its levels. -/
def shape (k : Int) (s : ByteArray) (ks : List Tr) : Bool := decide (1 ≤ k ∧ k ≤ 26) && decide (least k ≤ ks.length) && fitA k 0 ks && wordOK k s && lvls k s ks
def nodeE (k : Int) (s : ByteArray) (g : List ByteArray) (ks : List Tr) : Int :=
  if shape k s ks = false then 7 else if nameOK k s = false then 4 else if gapsOK k s g ks.length = false then 7 else 0
mutual
def firstE : Tr → Int
  | .node k s g ks => if nodeE k s g ks ≠ 0 then nodeE k s g ks else firstsE ks
def firstsE : List Tr → Int
  | [] => 0
  | t :: ts => if firstE t ≠ 0 then firstE t else firstsE ts
end

/- ### Limits -/
mutual
def crowd : Tr → Bool
  | .node k _ _ ks => decide (mostK k < ks.length) || crowds ks
def crowds : List Tr → Bool
  | [] => false
  | t :: ts => crowd t || crowds ts
end
mutual
def szw : Tr → Int
  | .node _ _ _ ks => szws 1 ks
def szws : Int → List Tr → Int
  | a, [] => a
  | a, t :: ts => szws (RowKit.wrap64 (a + szw t)) ts
end
mutual
def htw : Tr → Int
  | .node _ _ _ ks => RowKit.wrap64 (htws 0 ks + 1)
def htws : Int → List Tr → Int
  | a, [] => a
  | a, t :: ts => htws (max a (htw t)) ts
end
mutual
def rsz : Nat → Tr → Nat
  | l, .node k _ _ ks => if 60 < l ∨ mostK k < ks.length then 4001 else min (rszs (l + 1) 1 ks) 4001
def rszs : Nat → Nat → List Tr → Nat
  | _, a, [] => a
  | l, a, t :: ts => if a ≤ 4000 then rszs l (a + rsz l t) ts else a
end
def chk (t : Tr) : Int := if 4000 < szw t ∨ 60 < htw t ∨ crowd t = true then 3 else firstE t
def rchk (t : Tr) : Int := if 4000 < rsz 1 t then 3 else firstE t
end Go.Proofs.YtmfmlkdojgbhfaaDoor.Pl
