/- Printing, as plain data: the parts of a node, the words of a tree, its source, its canonical layout. -/
import Derived.Test.YtiaajpdcacdngaaGreatDoorBTok
namespace Go.Proofs.YtiaajpdcacdngaaGreatDoor.Pl
open Go
set_option linter.unusedVariables false
set_option linter.unusedSimpArgs false

/- ### Parts -/
/-- An own token (kid -1), or a kid, with the canonical gap before it. -/
structure Part where
  gap : ByteArray
  text : ByteArray
  kid : Int
def pown (g t : ByteArray) : Part := ⟨g, t, -1⟩
def pkid (g : ByteArray) (i : Int) : Part := ⟨g, ⟨#[]⟩, i⟩
/-- A line feed and so many tabs. -/
def nl (n : Nat) : ByteArray := mk (10 :: List.replicate n 9)
def kidsP (first n : Nat) (g : ByteArray) : List Part := (List.range' first (n - first)).map fun i => pkid g (i : Nat)
def commasP (first n : Nat) : List Part := (List.range' first (n - first)).flatMap fun i => if first < i then [pown ⟨#[]⟩ ⟨#[44]⟩, pkid ⟨#[32]⟩ (i : Nat)] else [pkid ⟨#[]⟩ (i : Nat)]
def listP (first n : Nat) : List Part := pown ⟨#[]⟩ ⟨#[40]⟩ :: (commasP first n ++ [pown ⟨#[]⟩ ⟨#[41]⟩])
def bodyP (first n L : Nat) : List Part := if n ≤ first then [pown ⟨#[]⟩ ⟨#[125]⟩] else kidsP first n (nl (L + 1)) ++ [pown (nl L) ⟨#[125]⟩]
def assignP (s : ByteArray) : List Part := [pown ⟨#[32]⟩ s, pown ⟨#[32]⟩ ⟨#[61]⟩, pkid ⟨#[32]⟩ 0, pown ⟨#[]⟩ ⟨#[59]⟩]
def exprP (k : Int) (s : ByteArray) (n : Nat) : List Part :=
  if k = 20 then pown ⟨#[]⟩ s :: listP 0 n
  else if k = 21 then [pkid ⟨#[]⟩ 0, pown ⟨#[]⟩ ⟨#[46]⟩, pown ⟨#[]⟩ s] ++ listP 1 n
  else if k = 22 then [pown ⟨#[]⟩ ⟨#[110, 101, 119]⟩, pown ⟨#[32]⟩ s] ++ listP 0 n
  else if k = 24 then [pkid ⟨#[]⟩ 0, pown ⟨#[32]⟩ s, pkid ⟨#[32]⟩ 1]
  else if k = 25 then [pown ⟨#[]⟩ s, pkid ⟨#[]⟩ 0]
  else if k = 26 then [pown ⟨#[]⟩ ⟨#[40]⟩, pkid ⟨#[]⟩ 0, pown ⟨#[]⟩ ⟨#[41]⟩]
  else [pown ⟨#[]⟩ s]
def stmtP (k : Int) (s : ByteArray) (n : Nat) : List Part :=
  if k = 10 then pown ⟨#[]⟩ ⟨#[108, 101, 116]⟩ :: assignP s
  else if k = 11 then assignP s
  else if k = 12 then [pown ⟨#[]⟩ ⟨#[114, 101, 116, 117, 114, 110]⟩, pkid ⟨#[32]⟩ 0, pown ⟨#[]⟩ ⟨#[59]⟩]
  else if k = 13 then pown ⟨#[]⟩ ⟨#[105, 102]⟩ :: kidsP 0 n ⟨#[32]⟩
  else if k = 14 then (if n = 0 then [] else pown ⟨#[]⟩ ⟨#[101, 108, 115, 101]⟩ :: kidsP 0 n ⟨#[32]⟩)
  else if k = 15 then pown ⟨#[]⟩ ⟨#[119, 104, 105, 108, 101]⟩ :: kidsP 0 n ⟨#[32]⟩
  else if k = 16 then [pkid ⟨#[]⟩ 0, pown ⟨#[]⟩ ⟨#[59]⟩]
  else exprP k s n
def parts (k : Int) (s : ByteArray) (n L : Nat) : List Part :=
  if k = 1 then kidsP 0 n ⟨#[10, 10]⟩ ++ [pown ⟨#[10]⟩ ⟨#[]⟩]
  else if k = 2 then [pown ⟨#[]⟩ ⟨#[102, 110]⟩, pown ⟨#[32]⟩ s, pkid ⟨#[]⟩ 0, pkid ⟨#[32]⟩ 1, pkid ⟨#[32]⟩ 2]
  else if k = 3 then listP 0 n
  else if k = 4 then [pown ⟨#[]⟩ s, pkid ⟨#[32]⟩ 0]
  else if k = 6 then pown ⟨#[]⟩ ⟨#[123]⟩ :: bodyP 0 n L
  else if k = 7 then [pown ⟨#[]⟩ ⟨#[99, 108, 97, 115, 115]⟩, pown ⟨#[32]⟩ s, pkid ⟨#[32]⟩ 0, pown ⟨#[32]⟩ ⟨#[123]⟩] ++ bodyP 1 n L
  else if k = 8 then (if s.size = 0 then [] else [pown ⟨#[]⟩ ⟨#[58]⟩, pown ⟨#[32]⟩ s])
  else if k = 9 then pown ⟨#[]⟩ ⟨#[99, 111, 110, 115, 116]⟩ :: assignP s
  else stmtP k s n
/-- The first part has the gap of the node. -/
def fixF (f : ByteArray) : List Part → List Part
  | [] => []
  | p :: ps => ⟨f, p.text, p.kid⟩ :: ps
def inside (k : Int) (L : Nat) : Nat := if k = 6 ∨ k = 7 then L + 1 else L
def owns (ps : List Part) : List Part := ps.filter fun p => p.kid == -1
def kds (ps : List Part) : List Part := ps.filter fun p => !(p.kid == -1)
/-- What the parts come to, if each own token and each kid comes to a list. -/
def lin {α : Type} (own : Nat → Part → α) (kid : Nat → ByteArray → List α) : Nat → List Part → List α
  | _, [] => []
  | o, p :: ps => if p.kid = -1 then own o p :: lin own kid (o + 1) ps else kid p.kid.toNat p.gap ++ lin own kid o ps

/- ### Words -/
/-- A word: its index among the own tokens of its node, the canonical gap before it, its text, the gaps of its node. -/
structure Wd where
  own : Nat
  gap : ByteArray
  text : ByteArray
  g : List ByteArray
mutual
def evT : Tr → Nat → ByteArray → List Wd
  | .node k s g ks => fun L f => lin (fun o p => ⟨o, p.gap, p.text, g⟩) (fun j gp => (evF ks).getD j (fun _ _ => []) (inside k L) gp) 0 (fixF f (parts k s ks.length L))
def evF : List Tr → List (Nat → ByteArray → List Wd)
  | [] => []
  | t :: ts => evT t :: evF ts
end
def words (t : Tr) : List ByteArray := (evT t 0 ⟨#[]⟩).map (·.text)

/- ### Sources -/
/-- The gap before a word: that of its node, or the canonical one. -/
def gapW (w : Wd) : ByteArray := if w.g.length = 0 then w.gap else w.g.getD w.own ⟨#[]⟩
/-- Whether a space is wanted before the gap. -/
def join8 (last gap next : ByteArray) : Bool := if gap.size = 0 then glue last.data.toList next.data.toList else (last.data.toList == [47] && gap.data.toList.head? == some 47)
def piece (last : ByteArray) (w : Wd) : Bs := (if join8 last (gapW w) w.text = true then [32] else []) ++ (gapW w).data.toList ++ w.text.data.toList
def src : ByteArray → List Wd → Bs
  | _, [] => []
  | last, w :: ws => piece last w ++ src w.text ws
def lastW : ByteArray → List Wd → ByteArray
  | last, [] => last
  | _, w :: ws => lastW w.text ws
def source (t : Tr) : Bs := src ⟨#[]⟩ (evT t 0 ⟨#[]⟩)

/- ### The canonical layout -/
/-- The canonical gap before the first token of a kid. -/
def gapK (f : ByteArray) (ps : List Part) (j : Nat) : ByteArray := ((kds (fixF f ps)).map (·.gap)).getD j ⟨#[]⟩
mutual
def lay : Tr → Nat → ByteArray → Tr
  | .node k s g ks => fun L f => .node k s ((owns (fixF f (parts k s ks.length L))).map (·.gap)) (layF ks (inside k L) (gapK f (parts k s ks.length L)) 0)
def layF : List Tr → Nat → (Nat → ByteArray) → Nat → List Tr
  | [], _, _, _ => []
  | t :: ts, L, G, j => lay t L (G j) :: layF ts L G (j + 1)
end
def layout (t : Tr) : Tr := lay t 0 ⟨#[]⟩

/- ### Facts -/
theorem evF_map (ks : List Tr) : evF ks = ks.map evT := by
  induction ks with
  | nil => rfl
  | cons t ts ih => rw [evF, ih]; rfl
theorem evF_get (ks : List Tr) (j : Nat) (u : Tr) (h : ks[j]? = some u) : (evF ks).getD j (fun _ _ => []) = evT u := by
  rw [evF_map, List.getD_eq_getElem?_getD, List.getElem?_map, h]; rfl
theorem layF_get (ks : List Tr) (L : Nat) (G : Nat → ByteArray) (i j : Nat) : (layF ks L G i)[j]? = (ks[j]?).map fun u => lay u L (G (i + j)) := by
  induction ks generalizing i j with
  | nil => simp [layF]
  | cons t ts ih =>
    rw [layF]
    cases j with
    | zero => simp
    | succ j => simp only [List.getElem?_cons_succ]; rw [ih, show i + 1 + j = i + (j + 1) from by omega]
theorem layF_len (ks : List Tr) (L : Nat) (G : Nat → ByteArray) (i : Nat) : (layF ks L G i).length = ks.length := by
  induction ks generalizing i with
  | nil => rfl
  | cons t ts ih => rw [layF, List.length_cons, List.length_cons, ih]
theorem src_append (last : ByteArray) (a b : List Wd) : src last (a ++ b) = src last a ++ src (lastW last a) b := by
  induction a generalizing last with
  | nil => rfl
  | cons w a ih => rw [List.cons_append, src, src, ih, lastW, List.append_assoc]
theorem lastW_append (last : ByteArray) (a b : List Wd) : lastW last (a ++ b) = lastW (lastW last a) b := by
  induction a generalizing last with
  | nil => rfl
  | cons w a ih => rw [List.cons_append, lastW, lastW, ih]
theorem owns_append (a b : List Part) : owns (a ++ b) = owns a ++ owns b := List.filter_append ..
theorem lin_append {α : Type} (own : Nat → Part → α) (kid : Nat → ByteArray → List α) (o : Nat) (a b : List Part) : lin own kid o (a ++ b) = lin own kid o a ++ lin own kid (o + (owns a).length) b := by
  induction a generalizing o with
  | nil => rfl
  | cons p a ih =>
    rw [List.cons_append, lin, lin]
    by_cases h : p.kid = -1
    · rw [if_pos h, if_pos h, ih, List.cons_append]
      have : owns (p :: a) = p :: owns a := by unfold owns; rw [List.filter_cons, if_pos (by simpa using h)]
      rw [this, List.length_cons, show o + 1 + (owns a).length = o + ((owns a).length + 1) from by omega]
    · rw [if_neg h, if_neg h, ih, List.append_assoc]
      have : owns (p :: a) = owns a := by unfold owns; rw [List.filter_cons, if_neg (by simpa using h)]
      rw [this]
theorem owns_take (ps : List Part) (q : Nat) (h : q < ps.length) : owns (ps.take (q + 1)) = owns (ps.take q) ++ (if ps[q].kid = -1 then [ps[q]] else []) := by
  rw [List.take_succ_eq_append_getElem h, owns_append]
  congr 1
  unfold owns
  rw [List.filter_cons]
  by_cases h : ps[q].kid = -1
  · rw [if_pos (by simpa using h), if_pos h]; rfl
  · rw [if_neg (by simpa using h), if_neg h]; rfl
theorem owns_at (ps : List Part) (q : Nat) (p : Part) (h : ps[q]? = some p) (hk : p.kid = -1) : (owns ps)[(owns (ps.take q)).length]? = some p := by
  obtain ⟨hq, rfl⟩ := List.getElem?_eq_some_iff.1 h
  have e : owns ps = owns (ps.take q) ++ (ps[q] :: owns (ps.drop (q + 1))) := by
    conv => lhs; rw [← List.take_append_drop q ps, List.drop_eq_getElem_cons hq, owns_append]
    congr 1
    unfold owns
    rw [List.filter_cons, if_pos (by simpa using hk)]
  rw [e, List.getElem?_append_right (Nat.le_refl _), Nat.sub_self]; rfl
theorem fixF_len (f : ByteArray) (ps : List Part) : (fixF f ps).length = ps.length := by cases ps <;> rfl
theorem fixF_get (f : ByteArray) (ps : List Part) (q : Nat) (p : Part) (h : ps[q]? = some p) : (fixF f ps)[q]? = some ⟨if q = 0 then f else p.gap, p.text, p.kid⟩ := by
  cases ps with
  | nil => simp at h
  | cons a ps =>
    cases q with
    | zero => simp at h; subst h; rfl
    | succ q => simp at h; simp [fixF, h]
end Go.Proofs.YtiaajpdcacdngaaGreatDoor.Pl
