/- Printing, as plain data: the parts of a node, the words of a tree, its source, its canonical layout. -/
import Derived.Test.YtiaajpdcacdngaaGreatDoorBClass
import Derived.IntWalk
namespace Go.Proofs.YtiaajpdcacdngaaGreatDoor.Pl
open Go
set_option linter.unusedVariables false
set_option linter.unusedSimpArgs false

/- ### Parts -/
/-- An own token (kid -1), or a kid, with the canonical gap before it. -/
structure Part where
  gap : ByteArray
  text : ByteArray
  kid : Int
def pown (g t : ByteArray) : Part := ⟨g, t, -1⟩
def pkid (g : ByteArray) (i : Int) : Part := ⟨g, ⟨#[]⟩, i⟩
/-- A line feed and so many tabs. -/
def nl (n : Nat) : ByteArray := mk (10 :: List.replicate n 9)
def kidsP (first n : Nat) (g : ByteArray) : List Part := (List.range' first (n - first)).map fun i => pkid g (i : Nat)
def commasP (first n : Nat) : List Part := (List.range' first (n - first)).flatMap fun i => if first < i then [pown ⟨#[]⟩ ⟨#[44]⟩, pkid ⟨#[32]⟩ (i : Nat)] else [pkid ⟨#[]⟩ (i : Nat)]
def listP (first n : Nat) : List Part := pown ⟨#[]⟩ ⟨#[40]⟩ :: (commasP first n ++ [pown ⟨#[]⟩ ⟨#[41]⟩])
def bodyP (first n L : Nat) : List Part := if n ≤ first then [pown ⟨#[]⟩ ⟨#[125]⟩] else kidsP first n (nl (L + 1)) ++ [pown (nl L) ⟨#[125]⟩]
def assignP (s : ByteArray) : List Part := [pown ⟨#[32]⟩ s, pown ⟨#[32]⟩ ⟨#[61]⟩, pkid ⟨#[32]⟩ 0, pown ⟨#[]⟩ ⟨#[59]⟩]
def exprP (k : Int) (s : ByteArray) (n : Nat) : List Part :=
  if k = 20 then pown ⟨#[]⟩ s :: listP 0 n
  else if k = 21 then [pkid ⟨#[]⟩ 0, pown ⟨#[]⟩ ⟨#[46]⟩, pown ⟨#[]⟩ s] ++ listP 1 n
  else if k = 22 then [pown ⟨#[]⟩ ⟨#[110, 101, 119]⟩, pown ⟨#[32]⟩ s] ++ listP 0 n
  else if k = 24 then [pkid ⟨#[]⟩ 0, pown ⟨#[32]⟩ s, pkid ⟨#[32]⟩ 1]
  else if k = 25 then [pown ⟨#[]⟩ s, pkid ⟨#[]⟩ 0]
  else if k = 26 then [pown ⟨#[]⟩ ⟨#[40]⟩, pkid ⟨#[]⟩ 0, pown ⟨#[]⟩ ⟨#[41]⟩]
  else [pown ⟨#[]⟩ s]
def stmtP (k : Int) (s : ByteArray) (n : Nat) : List Part :=
  if k = 10 then pown ⟨#[]⟩ ⟨#[108, 101, 116]⟩ :: assignP s
  else if k = 11 then assignP s
  else if k = 12 then [pown ⟨#[]⟩ ⟨#[114, 101, 116, 117, 114, 110]⟩, pkid ⟨#[32]⟩ 0, pown ⟨#[]⟩ ⟨#[59]⟩]
  else if k = 13 then pown ⟨#[]⟩ ⟨#[105, 102]⟩ :: kidsP 0 n ⟨#[32]⟩
  else if k = 14 then (if n = 0 then [] else pown ⟨#[]⟩ ⟨#[101, 108, 115, 101]⟩ :: kidsP 0 n ⟨#[32]⟩)
  else if k = 15 then pown ⟨#[]⟩ ⟨#[119, 104, 105, 108, 101]⟩ :: kidsP 0 n ⟨#[32]⟩
  else if k = 16 then [pkid ⟨#[]⟩ 0, pown ⟨#[]⟩ ⟨#[59]⟩]
  else exprP k s n
def parts (k : Int) (s : ByteArray) (n L : Nat) : List Part :=
  if k = 1 then kidsP 0 n ⟨#[10, 10]⟩ ++ [pown ⟨#[10]⟩ ⟨#[]⟩]
  else if k = 2 then [pown ⟨#[]⟩ ⟨#[102, 110]⟩, pown ⟨#[32]⟩ s, pkid ⟨#[]⟩ 0, pkid ⟨#[32]⟩ 1, pkid ⟨#[32]⟩ 2]
  else if k = 3 then listP 0 n
  else if k = 4 then [pown ⟨#[]⟩ s, pkid ⟨#[32]⟩ 0]
  else if k = 6 then pown ⟨#[]⟩ ⟨#[123]⟩ :: bodyP 0 n L
  else if k = 7 then [pown ⟨#[]⟩ ⟨#[99, 108, 97, 115, 115]⟩, pown ⟨#[32]⟩ s, pkid ⟨#[32]⟩ 0, pown ⟨#[32]⟩ ⟨#[123]⟩] ++ bodyP 1 n L
  else if k = 8 then (if s.size = 0 then [] else [pown ⟨#[]⟩ ⟨#[58]⟩, pown ⟨#[32]⟩ s])
  else if k = 9 then pown ⟨#[]⟩ ⟨#[99, 111, 110, 115, 116]⟩ :: assignP s
  else stmtP k s n
/-- The first part has the gap of the node. -/
def fixF (f : ByteArray) : List Part → List Part
  | [] => []
  | p :: ps => ⟨f, p.text, p.kid⟩ :: ps
def inside (k : Int) (L : Nat) : Nat := if k = 6 ∨ k = 7 then L + 1 else L
def owns (ps : List Part) : List Part := ps.filter fun p => p.kid == -1
def kds (ps : List Part) : List Part := ps.filter fun p => !(p.kid == -1)
/-- What the parts come to, if each own token and each kid comes to a list. -/
def lin {α : Type} (own : Nat → Part → α) (kid : Nat → ByteArray → List α) : Nat → List Part → List α
  | _, [] => []
  | o, p :: ps => if p.kid = -1 then own o p :: lin own kid (o + 1) ps else kid p.kid.toNat p.gap ++ lin own kid o ps

/- ### Words -/
/-- A word: its index among the own tokens of its node, the canonical gap before it, its text, the gaps of its node. -/
structure Wd where
  own : Nat
  gap : ByteArray
  text : ByteArray
  g : List ByteArray
mutual
def evT : Tr → Nat → ByteArray → List Wd
  | .node k s g ks => fun L f => lin (fun o p => ⟨o, p.gap, p.text, g⟩) (fun j gp => (evF ks).getD j (fun _ _ => []) (inside k L) gp) 0 (fixF f (parts k s ks.length L))
def evF : List Tr → List (Nat → ByteArray → List Wd)
  | [] => []
  | t :: ts => evT t :: evF ts
end
def words (t : Tr) : List ByteArray := (evT t 0 ⟨#[]⟩).map (·.text)

/- ### Sources -/
/-- The gap before a word: that of its node, or the canonical one. -/
def gapW (w : Wd) : ByteArray := if w.g.length = 0 then w.gap else w.g.getD w.own ⟨#[]⟩
/-- Whether a space is wanted before the gap. -/
def join8 (last gap next : ByteArray) : Bool := if gap.size = 0 then glue last.data.toList next.data.toList else (last.data.toList == [47] && gap.data.toList.head? == some 47)
def piece (last : ByteArray) (w : Wd) : Bs := (if join8 last (gapW w) w.text = true then [32] else []) ++ (gapW w).data.toList ++ w.text.data.toList
def src : ByteArray → List Wd → Bs
  | _, [] => []
  | last, w :: ws => piece last w ++ src w.text ws
def lastW : ByteArray → List Wd → ByteArray
  | last, [] => last
  | _, w :: ws => lastW w.text ws
def source (t : Tr) : Bs := src ⟨#[]⟩ (evT t 0 ⟨#[]⟩)

/- ### The canonical layout -/
/-- The canonical gap before the first token of a kid. -/
def gapK (f : ByteArray) (ps : List Part) (j : Nat) : ByteArray := ((kds (fixF f ps)).map (·.gap)).getD j ⟨#[]⟩
mutual
def lay : Tr → Nat → ByteArray → Tr
  | .node k s g ks => fun L f => .node k s ((owns (fixF f (parts k s ks.length L))).map (·.gap)) (layF ks (inside k L) (gapK f (parts k s ks.length L)) 0)
def layF : List Tr → Nat → (Nat → ByteArray) → Nat → List Tr
  | [], _, _, _ => []
  | t :: ts, L, G, j => lay t L (G j) :: layF ts L G (j + 1)
end
def layout (t : Tr) : Tr := lay t 0 ⟨#[]⟩

/- ### Facts -/
theorem evF_map (ks : List Tr) : evF ks = ks.map evT := by
  induction ks with
  | nil => rfl
  | cons t ts ih => rw [evF, ih]; rfl
theorem evF_get (ks : List Tr) (j : Nat) (u : Tr) (h : ks[j]? = some u) : (evF ks).getD j (fun _ _ => []) = evT u := by
  rw [evF_map, List.getD_eq_getElem?_getD, List.getElem?_map, h]; rfl
theorem layF_get (ks : List Tr) (L : Nat) (G : Nat → ByteArray) (i j : Nat) : (layF ks L G i)[j]? = (ks[j]?).map fun u => lay u L (G (i + j)) := by
  induction ks generalizing i j with
  | nil => simp [layF]
  | cons t ts ih =>
    rw [layF]
    cases j with
    | zero => simp
    | succ j => simp only [List.getElem?_cons_succ]; rw [ih, show i + 1 + j = i + (j + 1) from by omega]
theorem layF_len (ks : List Tr) (L : Nat) (G : Nat → ByteArray) (i : Nat) : (layF ks L G i).length = ks.length := by
  induction ks generalizing i with
  | nil => rfl
  | cons t ts ih => rw [layF, List.length_cons, List.length_cons, ih]
theorem src_append (last : ByteArray) (a b : List Wd) : src last (a ++ b) = src last a ++ src (lastW last a) b := by
  induction a generalizing last with
  | nil => rfl
  | cons w a ih => rw [List.cons_append, src, src, ih, lastW, List.append_assoc]
theorem lastW_append (last : ByteArray) (a b : List Wd) : lastW last (a ++ b) = lastW (lastW last a) b := by
  induction a generalizing last with
  | nil => rfl
  | cons w a ih => rw [List.cons_append, lastW, lastW, ih]
theorem owns_append (a b : List Part) : owns (a ++ b) = owns a ++ owns b := List.filter_append ..
theorem lin_append {α : Type} (own : Nat → Part → α) (kid : Nat → ByteArray → List α) (o : Nat) (a b : List Part) : lin own kid o (a ++ b) = lin own kid o a ++ lin own kid (o + (owns a).length) b := by
  induction a generalizing o with
  | nil => rfl
  | cons p a ih =>
    rw [List.cons_append, lin, lin]
    by_cases h : p.kid = -1
    · rw [if_pos h, if_pos h, ih, List.cons_append]
      have : owns (p :: a) = p :: owns a := by unfold owns; rw [List.filter_cons, if_pos (by simpa using h)]
      rw [this, List.length_cons, show o + 1 + (owns a).length = o + ((owns a).length + 1) from by omega]
    · rw [if_neg h, if_neg h, ih, List.append_assoc]
      have : owns (p :: a) = owns a := by unfold owns; rw [List.filter_cons, if_neg (by simpa using h)]
      rw [this]
theorem owns_take (ps : List Part) (q : Nat) (h : q < ps.length) : owns (ps.take (q + 1)) = owns (ps.take q) ++ (if ps[q].kid = -1 then [ps[q]] else []) := by
  rw [List.take_succ_eq_append_getElem h, owns_append]
  congr 1
  unfold owns
  rw [List.filter_cons]
  by_cases h : ps[q].kid = -1
  · rw [if_pos (by simpa using h), if_pos h]; rfl
  · rw [if_neg (by simpa using h), if_neg h]; rfl
theorem owns_at (ps : List Part) (q : Nat) (p : Part) (h : ps[q]? = some p) (hk : p.kid = -1) : (owns ps)[(owns (ps.take q)).length]? = some p := by
  obtain ⟨hq, rfl⟩ := List.getElem?_eq_some_iff.1 h
  have e : owns ps = owns (ps.take q) ++ (ps[q] :: owns (ps.drop (q + 1))) := by
    conv => lhs; rw [← List.take_append_drop q ps, List.drop_eq_getElem_cons hq, owns_append]
    congr 1
    unfold owns
    rw [List.filter_cons, if_pos (by simpa using hk)]
  rw [e, List.getElem?_append_right (Nat.le_refl _), Nat.sub_self]; rfl
theorem fixF_len (f : ByteArray) (ps : List Part) : (fixF f ps).length = ps.length := by cases ps <;> rfl
theorem fixF_get (f : ByteArray) (ps : List Part) (q : Nat) (p : Part) (h : ps[q]? = some p) : (fixF f ps)[q]? = some ⟨if q = 0 then f else p.gap, p.text, p.kid⟩ := by
  cases ps with
  | nil => simp at h
  | cons a ps =>
    cases q with
    | zero => simp at h; subst h; rfl
    | succ q => simp at h; simp [fixF, h]
end Go.Proofs.YtiaajpdcacdngaaGreatDoor.Pl

namespace Go.Proofs.YtiaajpdcacdngaaGreatDoor.Pl
open Go
set_option linter.unusedVariables false
set_option linter.unusedSimpArgs false

/- ### How many kids -/
/-- The numbers of kids that the parts ask for. -/
structure Ar (k : Int) (n : Nat) : Prop where
  lo : 1 ≤ k
  hi : k ≤ 26
  a2 : k = 2 ∨ k = 13 → n = 3
  a1 : k = 4 ∨ k = 9 ∨ k = 10 ∨ k = 11 ∨ k = 12 ∨ k = 16 ∨ k = 25 ∨ k = 26 → n = 1
  a0 : k = 5 ∨ k = 8 ∨ k = 17 ∨ k = 18 ∨ k = 19 ∨ k = 22 ∨ k = 23 → n = 0
  ap : k = 7 ∨ k = 21 → 1 ≤ n
  ae : k = 14 → n ≤ 1
  at2 : k = 15 ∨ k = 24 → n = 2
theorem shape_ar (k : Int) (s : ByteArray) (ks : List Tr) (h : shape k s ks = true) : Ar k ks.length := by
  obtain ⟨⟨h1, h26⟩, hl, hf, _, _⟩ := shape_parts k s ks h
  have hg := fitA_get k ks 0 hf
  have top : ∀ m, m < ks.length → ∃ kid, FitsP k m kid := fun m hm => by
    have := hg m _ (List.getElem?_eq_getElem hm)
    unfold fits at this
    rw [Nat.zero_add] at this
    exact ⟨_, of_decide_eq_true this⟩
  have no : ∀ m : Nat, (∀ kid, ¬ FitsP k m kid) → ks.length ≤ m := fun m hm => by
    rcases Nat.lt_or_ge m ks.length with h | h
    · obtain ⟨kid, hk⟩ := top m h
      exact absurd hk (hm kid)
    · exact h
  unfold least at hl
  refine ⟨h1, h26, fun h => ?_, fun h => ?_, fun h => ?_, fun h => ?_, fun h => ?_, fun h => ?_⟩
  · have := no 3 (fun kid => by unfold FitsP; omega)
    split at hl <;> omega
  · have := no 1 (fun kid => by unfold FitsP; omega)
    split at hl <;> (try split at hl) <;> (try split at hl) <;> omega
  · have := no 0 (fun kid => by unfold FitsP; omega)
    omega
  · split at hl <;> (try split at hl) <;> (try split at hl) <;> omega
  · exact no 1 (fun kid => by unfold FitsP; omega)
  · have := no 2 (fun kid => by unfold FitsP; omega)
    split at hl <;> (try split at hl) <;> (try split at hl) <;> omega

/- ### The kids in their order -/
theorem kds_append (a b : List Part) : kds (a ++ b) = kds a ++ kds b := List.filter_append ..
theorem kid_own (g t : ByteArray) : (pown g t).kid = -1 := rfl
theorem kid_kid (g : ByteArray) (i : Int) : (pkid g i).kid = i := rfl
theorem owns_own (g t : ByteArray) (ps : List Part) : owns (pown g t :: ps) = pown g t :: owns ps := by unfold owns; rw [List.filter_cons, if_pos (by simp [kid_own])]
theorem owns_kid (g : ByteArray) (i : Nat) (ps : List Part) : owns (pkid g (i : Int) :: ps) = owns ps := by
  unfold owns; rw [List.filter_cons, if_neg (by simp [kid_kid] <;> omega)]
theorem kds_own (g t : ByteArray) (ps : List Part) : kds (pown g t :: ps) = kds ps := by unfold kds; rw [List.filter_cons, if_neg (by simp [kid_own])]
theorem kds_kid (g : ByteArray) (i : Nat) (ps : List Part) : kds (pkid g (i : Int) :: ps) = pkid g (i : Int) :: kds ps := by
  unfold kds; rw [List.filter_cons, if_pos (by simp [kid_kid] <;> omega)]
theorem owns_nil : owns [] = [] := rfl
theorem kds_nil : kds [] = [] := rfl
theorem owns_kidsP (first n : Nat) (g : ByteArray) : owns (kidsP first n g) = [] := by
  unfold kidsP
  generalize List.range' first (n - first) = l
  induction l with
  | nil => rfl
  | cons a l ih => rw [List.map_cons, owns_kid, ih]
theorem kds_kidsP (first n : Nat) (g : ByteArray) : kds (kidsP first n g) = kidsP first n g := by
  unfold kidsP
  generalize List.range' first (n - first) = l
  induction l with
  | nil => rfl
  | cons a l ih => rw [List.map_cons, kds_kid, ih]
/-- The kids of a list with commas. -/
def ckids (first n : Nat) : List Part := (List.range' first (n - first)).map fun i => pkid (if first < i then ⟨#[32]⟩ else ⟨#[]⟩) (i : Nat)
theorem kds_commasP (first n : Nat) : kds (commasP first n) = ckids first n := by
  unfold commasP ckids
  generalize List.range' first (n - first) = l
  induction l with
  | nil => rfl
  | cons a l ih =>
    rw [List.flatMap_cons, kds_append, ih, List.map_cons]
    by_cases h : first < a
    · rw [if_pos h, if_pos h, kds_own, kds_kid]; rfl
    · rw [if_neg h, if_neg h, kds_kid]; rfl
theorem owns_commas (first : Nat) (l : List Nat) : owns (l.flatMap fun i => if first < i then [pown ⟨#[]⟩ ⟨#[44]⟩, pkid ⟨#[32]⟩ (i : Nat)] else [pkid ⟨#[]⟩ (i : Nat)]) = List.replicate (l.filter fun i => decide (first < i)).length (pown ⟨#[]⟩ ⟨#[44]⟩) := by
  induction l with
  | nil => rfl
  | cons a l ih =>
    rw [List.flatMap_cons, owns_append, ih, List.filter_cons]
    by_cases h : first < a
    · rw [if_pos h, if_pos (by simpa using h), owns_own, owns_kid]; rfl
    · rw [if_neg h, if_neg (by simpa using h), owns_kid]; rfl
theorem filter_range (first m : Nat) : ((List.range' (first + 1) m).filter fun i => decide (first < i)).length = m := by
  rw [List.filter_eq_self.2 (fun i hi => by simp [List.mem_range'_1] at hi ⊢; omega)]; simp
theorem owns_commasP (first n : Nat) : owns (commasP first n) = List.replicate (n - first - 1) (pown ⟨#[]⟩ ⟨#[44]⟩) := by
  unfold commasP
  rw [owns_commas]
  congr 1
  obtain ⟨m, hm⟩ : ∃ m, m = n - first := ⟨_, rfl⟩
  rw [← hm]
  cases m with
  | zero => rfl
  | succ m =>
    rw [List.range'_succ, List.filter_cons, if_neg (by simp), filter_range]; rfl
theorem owns_listP (first n : Nat) : owns (listP first n) = pown ⟨#[]⟩ ⟨#[40]⟩ :: (List.replicate (n - first - 1) (pown ⟨#[]⟩ ⟨#[44]⟩) ++ [pown ⟨#[]⟩ ⟨#[41]⟩]) := by
  unfold listP; rw [owns_own, owns_append, owns_commasP, owns_own]; rfl
theorem kds_listP (first n : Nat) : kds (listP first n) = ckids first n := by
  unfold listP; rw [kds_own, kds_append, kds_commasP, kds_own, kds_nil, List.append_nil]
theorem owns_bodyP (first n L : Nat) : owns (bodyP first n L) = [pown (if n ≤ first then ⟨#[]⟩ else nl L) ⟨#[125]⟩] := by
  unfold bodyP
  split
  · rfl
  · rw [owns_append, owns_kidsP]; rfl
theorem kds_bodyP (first n L : Nat) : kds (bodyP first n L) = kidsP first n (nl (L + 1)) := by
  unfold bodyP
  split
  · rename_i h
    unfold kidsP
    rw [show n - first = 0 from by omega]; rfl
  · rw [kds_append, kds_kidsP, kds_own, kds_nil, List.append_nil]
theorem kidsP_kids (first n : Nat) (g : ByteArray) : (kidsP first n g).map (·.kid) = (List.range' first (n - first)).map fun i : Nat => (i : Int) := by
  unfold kidsP; rw [List.map_map]; rfl
theorem ckids_kids (first n : Nat) : (ckids first n).map (·.kid) = (List.range' first (n - first)).map fun i : Nat => (i : Int) := by
  unfold ckids; rw [List.map_map]; rfl
theorem kidsP_zero (n : Nat) (g : ByteArray) (h : n = 0) : kidsP 0 n g = [] := by subst h; rfl

/-- The kinds, one by one. -/
theorem kinds (k : Int) (h : 1 ≤ k ∧ k ≤ 26) : k = 1 ∨ k = 2 ∨ k = 3 ∨ k = 4 ∨ k = 5 ∨ k = 6 ∨ k = 7 ∨ k = 8 ∨ k = 9 ∨ k = 10 ∨ k = 11 ∨ k = 12 ∨ k = 13 ∨ k = 14 ∨ k = 15 ∨ k = 16 ∨ k = 17 ∨ k = 18 ∨ k = 19 ∨ k = 20 ∨ k = 21 ∨ k = 22 ∨ k = 23 ∨ k = 24 ∨ k = 25 ∨ k = 26 := by omega

/- ### The kids -/
theorem range'_cons (n : Nat) (h : 1 ≤ n) : List.range' 0 n = 0 :: List.range' 1 (n - 1) := by
  obtain ⟨m, rfl⟩ : ∃ m, n = m + 1 := ⟨n - 1, by omega⟩
  rw [List.range'_succ]; rfl
theorem kds_parts (k : Int) (s : ByteArray) (n L : Nat) (h : Ar k n) : (kds (parts k s n L)).map (·.kid) = (List.range' 0 n).map fun i : Nat => (i : Int) := by
  have z0 : ∀ g, pkid g 0 = pkid g ((0 : Nat) : Int) := fun g => rfl
  have z1 : ∀ g, pkid g 1 = pkid g ((1 : Nat) : Int) := fun g => rfl
  have z2 : ∀ g, pkid g 2 = pkid g ((2 : Nat) : Int) := fun g => rfl
  rcases kinds k ⟨h.lo, h.hi⟩ with rfl | rfl | rfl | rfl | rfl | rfl | rfl | rfl | rfl | rfl | rfl | rfl | rfl | rfl | rfl | rfl | rfl | rfl | rfl | rfl | rfl | rfl | rfl | rfl | rfl | rfl
  · show (kds (kidsP 0 n _ ++ _)).map _ = _
    rw [kds_append, kds_kidsP, kds_own, kds_nil, List.append_nil, kidsP_kids]; rfl
  · obtain rfl := h.a2 (.inl rfl); rfl
  · show (kds (listP 0 n)).map _ = _
    rw [kds_listP, ckids_kids]; rfl
  · obtain rfl := h.a1 (.inl rfl); rfl
  · obtain rfl := h.a0 (.inl rfl); rfl
  · show (kds (_ :: bodyP 0 n L)).map _ = _
    rw [kds_own, kds_bodyP, kidsP_kids]; rfl
  · have hn := h.ap (.inl rfl)
    show (kds ([_, _, _, _] ++ bodyP 1 n L)).map _ = _
    rw [kds_append, kds_bodyP, List.map_append, kidsP_kids, range'_cons n hn]; rfl
  · obtain rfl := h.a0 (.inr (.inl rfl))
    show (kds (if s.size = 0 then [] else _)).map _ = _
    split <;> rfl
  · obtain rfl := h.a1 (by simp); rfl
  · obtain rfl := h.a1 (by simp); rfl
  · obtain rfl := h.a1 (by simp); rfl
  · obtain rfl := h.a1 (by simp); rfl
  · obtain rfl := h.a2 (.inr rfl); rfl
  · have hn := h.ae rfl
    show (kds (if n = 0 then [] else _)).map _ = _
    split
    · rename_i e; subst e; rfl
    · obtain rfl : n = 1 := by omega
      rfl
  · obtain rfl := h.at2 (.inl rfl); rfl
  · obtain rfl := h.a1 (by simp); rfl
  · obtain rfl := h.a0 (by simp); rfl
  · obtain rfl := h.a0 (by simp); rfl
  · obtain rfl := h.a0 (by simp); rfl
  · show (kds (_ :: listP 0 n)).map _ = _
    rw [kds_own, kds_listP, ckids_kids]; rfl
  · have hn := h.ap (.inr rfl)
    show (kds ([_, _, _] ++ listP 1 n)).map _ = _
    rw [kds_append, kds_listP, List.map_append, ckids_kids, range'_cons n hn]; rfl
  · obtain rfl := h.a0 (by simp)
    rfl
  · obtain rfl := h.a0 (by simp); rfl
  · obtain rfl := h.at2 (.inr rfl); rfl
  · obtain rfl := h.a1 (by simp); rfl
  · obtain rfl := h.a1 (by simp); rfl
end Go.Proofs.YtiaajpdcacdngaaGreatDoor.Pl

namespace Go.Proofs.YtiaajpdcacdngaaGreatDoor.Pl
open Go
set_option linter.unusedVariables false
set_option linter.unusedSimpArgs false

def rlist (l : List ByteArray) (m : Nat) : List ByteArray := l ++ List.replicate (m - 1) ⟨#[44]⟩ ++ [⟨#[41]⟩]
def rown (k : Int) (s : ByteArray) (n : Nat) : List ByteArray :=
  if k = 1 then [⟨#[]⟩]
  else if k = 2 then [⟨#[102, 110]⟩, s]
  else if k = 3 then rlist [⟨#[40]⟩] n
  else if k = 20 then rlist [s, ⟨#[40]⟩] n
  else if k = 21 then rlist [⟨#[46]⟩, s, ⟨#[40]⟩] (n - 1)
  else if k = 6 then [⟨#[123]⟩, ⟨#[125]⟩]
  else if k = 7 then [⟨#[99, 108, 97, 115, 115]⟩, s, ⟨#[123]⟩, ⟨#[125]⟩]
  else if k = 8 then (if s.size = 0 then [] else [⟨#[58]⟩, s])
  else if k = 9 then [⟨#[99, 111, 110, 115, 116]⟩, s, ⟨#[61]⟩, ⟨#[59]⟩]
  else if k = 10 then [⟨#[108, 101, 116]⟩, s, ⟨#[61]⟩, ⟨#[59]⟩]
  else if k = 11 then [s, ⟨#[61]⟩, ⟨#[59]⟩]
  else if k = 12 then [⟨#[114, 101, 116, 117, 114, 110]⟩, ⟨#[59]⟩]
  else if k = 13 then [⟨#[105, 102]⟩]
  else if k = 14 then (if n = 0 then [] else [⟨#[101, 108, 115, 101]⟩])
  else if k = 15 then [⟨#[119, 104, 105, 108, 101]⟩]
  else if k = 16 then [⟨#[59]⟩]
  else if k = 22 then [⟨#[110, 101, 119]⟩, s, ⟨#[40]⟩, ⟨#[41]⟩]
  else if k = 26 then [⟨#[40]⟩, ⟨#[41]⟩]
  else [s]
def rall (first n : Nat) : List Int := (List.range' first (n - first)).map fun i => ((i : Nat) : Int)
def rcommas (first n : Nat) : List Int := (List.range' first (n - first)).flatMap fun i => if first < i then [-1, ((i : Nat) : Int)] else [((i : Nat) : Int)]
def rorder (k : Int) (s : ByteArray) (n : Nat) : List Int :=
  if k = 3 then [-1] ++ rcommas 0 n ++ [-1]
  else if k = 20 then [-1, -1] ++ rcommas 0 n ++ [-1]
  else if k = 21 then [0, -1, -1, -1] ++ rcommas 1 n ++ [-1]
  else if k = 1 ∨ k = 16 then rall 0 n ++ [-1]
  else if k = 2 then [-1, -1, 0, 1, 2]
  else if k = 4 ∨ k = 25 then [-1, 0]
  else if k = 6 ∨ k = 12 ∨ k = 26 then [-1] ++ rall 0 n ++ [-1]
  else if k = 7 then [-1, -1, 0, -1] ++ rall 1 n ++ [-1]
  else if k = 9 ∨ k = 10 then [-1, -1, -1, 0, -1]
  else if k = 11 then [-1, -1, 0, -1]
  else if k = 13 ∨ k = 15 then [-1] ++ rall 0 n
  else if k = 24 then [0, -1, 1]
  else if k = 22 then [-1, -1, -1, -1]
  else if k = 8 then (if s.size = 0 then [] else [-1, -1])
  else if k = 14 then (if n = 0 then [] else [-1, 0])
  else [-1]
def rgap (k : Int) (n i : Nat) (f : ByteArray) (L : Nat) : ByteArray :=
  if k = 1 then (if 0 < n then ⟨#[10]⟩ else f)
  else if k = 24 then ⟨#[32]⟩
  else if k = 21 ∨ k = 16 then ⟨#[]⟩
  else if i = 0 then f
  else if k = 6 then (if 0 < n then nl L else ⟨#[]⟩)
  else if k = 7 then (if i < 3 then ⟨#[32]⟩ else if 1 < n then nl L else ⟨#[]⟩)
  else if k = 2 ∨ k = 8 then ⟨#[32]⟩
  else if k = 9 ∨ k = 10 then (if i < 3 then ⟨#[32]⟩ else ⟨#[]⟩)
  else if k = 11 ∨ k = 22 then (if i = 1 then ⟨#[32]⟩ else ⟨#[]⟩)
  else ⟨#[]⟩
def rkid (k : Int) (j : Nat) (f : ByteArray) (L : Nat) : ByteArray :=
  if k = 1 then (if j = 0 then f else ⟨#[10, 10]⟩)
  else if k = 2 then (if j = 0 then ⟨#[]⟩ else ⟨#[32]⟩)
  else if k = 3 ∨ k = 20 then (if j = 0 then ⟨#[]⟩ else ⟨#[32]⟩)
  else if k = 21 then (if j = 0 then f else if j = 1 then ⟨#[]⟩ else ⟨#[32]⟩)
  else if k = 6 then nl (L + 1)
  else if k = 7 then (if j = 0 then ⟨#[32]⟩ else nl (L + 1))
  else if k = 24 then (if j = 0 then f else ⟨#[32]⟩)
  else if k = 16 then f
  else if k = 25 ∨ k = 26 then ⟨#[]⟩
  else ⟨#[32]⟩

theorem rown_eq (k : Int) (s : ByteArray) (n L : Nat) (h : Ar k n) : (owns (parts k s n L)).map (·.text) = rown k s n := by
  rcases kinds k ⟨h.lo, h.hi⟩ with rfl | rfl | rfl | rfl | rfl | rfl | rfl | rfl | rfl | rfl | rfl | rfl | rfl | rfl | rfl | rfl | rfl | rfl | rfl | rfl | rfl | rfl | rfl | rfl | rfl | rfl
  · show (owns (kidsP 0 n _ ++ _)).map _ = _
    rw [owns_append, owns_kidsP]; rfl
  · rfl
  · show (owns (listP 0 n)).map _ = _
    rw [owns_listP, List.map_cons, List.map_append, List.map_replicate]; rfl
  · rfl
  · rfl
  · show (owns (_ :: bodyP 0 n L)).map _ = _
    rw [owns_own, owns_bodyP]; rfl
  · show (owns ([_, _, _, _] ++ bodyP 1 n L)).map _ = _
    rw [owns_append, owns_bodyP]; rfl
  · show (owns (if s.size = 0 then [] else _)).map _ = if s.size = 0 then [] else _
    split <;> rfl
  · rfl
  · rfl
  · rfl
  · rfl
  · show (owns (_ :: kidsP 0 n _)).map _ = _
    rw [owns_own, owns_kidsP]; rfl
  · show (owns (if n = 0 then [] else _ :: kidsP 0 n _)).map _ = if n = 0 then [] else _
    split
    · rfl
    · rw [owns_own, owns_kidsP]; rfl
  · show (owns (_ :: kidsP 0 n _)).map _ = _
    rw [owns_own, owns_kidsP]; rfl
  · rfl
  · rfl
  · rfl
  · rfl
  · show (owns (_ :: listP 0 n)).map _ = _
    rw [owns_own, owns_listP, List.map_cons, List.map_cons, List.map_append, List.map_replicate]; rfl
  · show (owns ([_, _, _] ++ listP 1 n)).map _ = _
    rw [owns_append, owns_listP, List.map_append, List.map_cons, List.map_append, List.map_replicate]; rfl
  · obtain rfl := h.a0 (by simp); rfl
  · rfl
  · rfl
  · rfl
  · rfl
theorem map_kidsP (first n : Nat) (g : ByteArray) : (kidsP first n g).map (·.kid) = rall first n := by unfold kidsP rall; rw [List.map_map]; rfl
theorem map_commasP (first n : Nat) : (commasP first n).map (·.kid) = rcommas first n := by
  unfold commasP rcommas
  generalize List.range' first (n - first) = l
  induction l with
  | nil => rfl
  | cons a l ih =>
    rw [List.flatMap_cons, List.flatMap_cons, List.map_append, ih]
    by_cases h : first < a
    · rw [if_pos h, if_pos h]; rfl
    · rw [if_neg h, if_neg h]; rfl
theorem map_listP (first n : Nat) : (listP first n).map (·.kid) = -1 :: (rcommas first n ++ [-1]) := by
  unfold listP; rw [List.map_cons, List.map_append, map_commasP]; rfl
theorem map_bodyP (first n L : Nat) : (bodyP first n L).map (·.kid) = rall first n ++ [-1] := by
  unfold bodyP
  split
  · rename_i h
    unfold rall; rw [show n - first = 0 from by omega]; rfl
  · rw [List.map_append, map_kidsP]; rfl
theorem rorder_eq (k : Int) (s : ByteArray) (n L : Nat) (h : Ar k n) : (parts k s n L).map (·.kid) = rorder k s n := by
  rcases kinds k ⟨h.lo, h.hi⟩ with rfl | rfl | rfl | rfl | rfl | rfl | rfl | rfl | rfl | rfl | rfl | rfl | rfl | rfl | rfl | rfl | rfl | rfl | rfl | rfl | rfl | rfl | rfl | rfl | rfl | rfl
  · show (kidsP 0 n _ ++ _).map _ = _
    rw [List.map_append, map_kidsP]; rfl
  · rfl
  · show (listP 0 n).map _ = _
    rw [map_listP]; rfl
  · rfl
  · rfl
  · show (_ :: bodyP 0 n L).map _ = _
    rw [List.map_cons, map_bodyP]; rfl
  · show ([_, _, _, _] ++ bodyP 1 n L).map _ = _
    rw [List.map_append, map_bodyP]; rfl
  · show (if s.size = 0 then [] else _ : List Part).map _ = if s.size = 0 then [] else _
    split <;> rfl
  · rfl
  · rfl
  · rfl
  · obtain rfl := h.a1 (by simp); rfl
  · show (_ :: kidsP 0 n _).map _ = _
    rw [List.map_cons, map_kidsP]; rfl
  · have := h.ae rfl
    show (if n = 0 then [] else _ :: kidsP 0 n _ : List Part).map _ = if n = 0 then [] else _
    split
    · rfl
    · obtain rfl : n = 1 := by omega
      rfl
  · show (_ :: kidsP 0 n _).map _ = _
    rw [List.map_cons, map_kidsP]; rfl
  · obtain rfl := h.a1 (by simp); rfl
  · rfl
  · rfl
  · rfl
  · show (_ :: listP 0 n).map _ = _
    rw [List.map_cons, map_listP]; rfl
  · show ([_, _, _] ++ listP 1 n).map _ = _
    rw [List.map_append, map_listP]; rfl
  · obtain rfl := h.a0 (by simp); rfl
  · rfl
  · rfl
  · rfl
  · obtain rfl := h.a1 (by simp); rfl

/- ### The gaps -/
theorem owns_len_fix (f : ByteArray) (ps : List Part) : (owns (fixF f ps)).length = (owns ps).length := by
  cases ps with
  | nil => rfl
  | cons p ps =>
    show (owns (⟨f, p.text, p.kid⟩ :: ps)).length = _
    unfold owns
    rw [List.filter_cons, List.filter_cons]
    by_cases h : p.kid = -1
    · rw [if_pos (by simpa using h), if_pos (by simpa using h)]; rfl
    · rw [if_neg (by simpa using h), if_neg (by simpa using h)]
theorem range_tail (m : Nat) (G : Nat → ByteArray) (x : ByteArray) (h : ∀ i, 1 ≤ i → i < m + 1 → G i = x) : (List.range (m + 1)).map G = G 0 :: List.replicate m x := by
  rw [List.range_succ_eq_map, List.map_cons, List.map_map]
  congr 1
  rw [List.eq_replicate_iff]
  refine ⟨by simp, fun b hb => ?_⟩
  obtain ⟨i, hi, rfl⟩ := List.mem_map.1 hb
  exact h (i + 1) (by omega) (by have := List.mem_range.1 hi; omega)
theorem rgap_eq (k : Int) (s f : ByteArray) (n L : Nat) (h : Ar k n) : (owns (fixF f (parts k s n L))).map (·.gap) = (List.range (owns (parts k s n L)).length).map fun i => rgap k n i f L := by
  rcases kinds k ⟨h.lo, h.hi⟩ with rfl | rfl | rfl | rfl | rfl | rfl | rfl | rfl | rfl | rfl | rfl | rfl | rfl | rfl | rfl | rfl | rfl | rfl | rfl | rfl | rfl | rfl | rfl | rfl | rfl | rfl
  · cases n with
    | zero => rfl
    | succ n =>
      show (owns (fixF f (kidsP 0 (n + 1) _ ++ _))).map _ = (List.range (owns (kidsP 0 (n + 1) _ ++ _)).length).map _
      rw [owns_append, owns_kidsP]
      have e : kidsP 0 (n + 1) (⟨#[10, 10]⟩ : ByteArray) = pkid ⟨#[10, 10]⟩ ((0 : Nat) : Int) :: (List.range' 1 n).map fun i => pkid ⟨#[10, 10]⟩ ((i : Nat) : Int) := by
        unfold kidsP
        rw [show n + 1 - 0 = n + 1 from rfl, List.range'_succ]; rfl
      rw [e]
      show (owns (pkid f ((0 : Nat) : Int) :: ((List.range' 1 n).map (fun i => pkid ⟨#[10, 10]⟩ ((i : Nat) : Int)) ++ _))).map _ = _
      have e2 : owns ((List.range' 1 n).map (fun i => pkid (⟨#[10, 10]⟩ : ByteArray) ((i : Nat) : Int))) = [] := by
        have := owns_kidsP 1 (n + 1) ⟨#[10, 10]⟩
        unfold kidsP at this
        rwa [show n + 1 - 1 = n from by omega] at this
      rw [owns_kid, owns_append, e2]; rfl
  · rfl
  · show (owns (pown f _ :: (commasP 0 n ++ [_]))).map _ = (List.range (owns (listP 0 n)).length).map _
    rw [owns_own, owns_append, owns_commasP, owns_listP, List.length_cons, List.length_append, List.length_replicate]
    rw [range_tail _ (fun i => rgap 3 n i f L) ⟨#[]⟩ (fun i h1 h2 => by unfold rgap; simp; omega)]
    rw [List.map_cons, List.map_append, List.map_replicate, List.length_singleton, List.replicate_succ']; rfl
  · rfl
  · rfl
  · show (owns (pown f _ :: bodyP 0 n L)).map _ = (List.range (owns (pown _ _ :: bodyP 0 n L)).length).map _
    rw [owns_own, owns_own, owns_bodyP]
    show [f, if n ≤ 0 then _ else _] = [rgap 6 n 0 f L, rgap 6 n 1 f L]
    have e : rgap 6 n 1 f L = if 0 < n then nl L else ⟨#[]⟩ := rfl
    rw [e]
    by_cases h0 : n ≤ 0
    · rw [if_pos h0, if_neg (by omega)]; rfl
    · rw [if_neg h0, if_pos (by omega)]; rfl
  · show (owns ([pown f _, _, _, _] ++ bodyP 1 n L)).map _ = (List.range (owns ([_, _, _, _] ++ bodyP 1 n L)).length).map _
    rw [owns_append, owns_append, owns_bodyP]
    show [f, _, _, if n ≤ 1 then _ else _] = [rgap 7 n 0 f L, rgap 7 n 1 f L, rgap 7 n 2 f L, rgap 7 n 3 f L]
    have e : rgap 7 n 3 f L = if 1 < n then nl L else ⟨#[]⟩ := rfl
    rw [e]
    by_cases h0 : n ≤ 1
    · rw [if_pos h0, if_neg (by omega)]; rfl
    · rw [if_neg h0, if_pos (by omega)]; rfl
  · show (owns (fixF f (if s.size = 0 then [] else _))).map _ = (List.range (owns (if s.size = 0 then [] else _)).length).map _
    split <;> rfl
  · rfl
  · rfl
  · rfl
  · rfl
  · show (owns (pown f _ :: kidsP 0 n _)).map _ = (List.range (owns (pown _ _ :: kidsP 0 n _)).length).map _
    rw [owns_own, owns_own, owns_kidsP]; rfl
  · show (owns (fixF f (if n = 0 then [] else pown _ _ :: kidsP 0 n _))).map _ = (List.range (owns (if n = 0 then [] else pown _ _ :: kidsP 0 n _)).length).map _
    split
    · rfl
    · show (owns (pown f _ :: kidsP 0 n _)).map _ = _
      rw [owns_own, owns_own, owns_kidsP]; rfl
  · show (owns (pown f _ :: kidsP 0 n _)).map _ = (List.range (owns (pown _ _ :: kidsP 0 n _)).length).map _
    rw [owns_own, owns_own, owns_kidsP]; rfl
  · rfl
  · rfl
  · rfl
  · rfl
  · show (owns (pown f _ :: listP 0 n)).map _ = (List.range (owns (pown _ _ :: listP 0 n)).length).map _
    rw [owns_own, owns_own, owns_listP, List.length_cons, List.length_cons, List.length_append, List.length_replicate]
    rw [range_tail _ (fun i => rgap 20 n i f L) ⟨#[]⟩ (fun i h1 h2 => by unfold rgap; simp; omega)]
    rw [List.map_cons, List.map_cons, List.map_append, List.map_replicate, List.replicate_succ, List.length_singleton, List.replicate_succ']; rfl
  · show (owns (pkid f ((0 : Nat) : Int) :: pown _ _ :: pown _ _ :: listP 1 n)).map _ = (List.range (owns (pkid _ ((0 : Nat) : Int) :: pown _ _ :: pown _ _ :: listP 1 n)).length).map _
    rw [owns_kid, owns_kid, owns_own, owns_own, owns_listP, List.length_cons, List.length_cons, List.length_cons, List.length_append, List.length_replicate]
    rw [range_tail _ (fun i => rgap 21 n i f L) ⟨#[]⟩ (fun i h1 h2 => by unfold rgap; simp)]
    rw [List.map_cons, List.map_cons, List.map_cons, List.map_append, List.map_replicate, List.replicate_succ, List.replicate_succ, List.length_singleton, List.replicate_succ']; rfl
  · obtain rfl := h.a0 (by simp); rfl
  · rfl
  · rfl
  · rfl
  · rfl
theorem fix_kids (f : ByteArray) (ps : List Part) : (kds (fixF f ps)).map (·.kid) = (kds ps).map (·.kid) := by
  cases ps with
  | nil => rfl
  | cons p ps =>
    show (kds (⟨f, p.text, p.kid⟩ :: ps)).map _ = _
    unfold kds
    rw [List.filter_cons, List.filter_cons]
    by_cases h : p.kid = -1
    · rw [if_neg (by simpa using h), if_neg (by simpa using h)]
    · rw [if_pos (by simpa using h), if_pos (by simpa using h)]; rfl
theorem kidsP_gap (first n : Nat) (g : ByteArray) : (kidsP first n g).map (·.gap) = List.replicate (n - first) g := by
  unfold kidsP
  rw [List.map_map, List.eq_replicate_iff]
  refine ⟨by simp, fun b hb => ?_⟩
  obtain ⟨i, _, rfl⟩ := List.mem_map.1 hb; rfl
theorem ckids_gap (first n : Nat) : (ckids first n).map (·.gap) = (List.range' first (n - first)).map fun i => if first < i then ⟨#[32]⟩ else ⟨#[]⟩ := by
  unfold ckids; rw [List.map_map]; rfl
theorem range_const (n : Nat) (G : Nat → ByteArray) (x : ByteArray) (h : ∀ i, i < n → G i = x) : (List.range n).map G = List.replicate n x := by
  rw [List.eq_replicate_iff]
  refine ⟨by simp, fun b hb => ?_⟩
  obtain ⟨i, hi, rfl⟩ := List.mem_map.1 hb
  exact h i (List.mem_range.1 hi)
theorem rkid_eq (k : Int) (s f : ByteArray) (n L : Nat) (h : Ar k n) : (kds (fixF f (parts k s n L))).map (·.gap) = (List.range n).map fun j => rkid k j f L := by
  rcases kinds k ⟨h.lo, h.hi⟩ with rfl | rfl | rfl | rfl | rfl | rfl | rfl | rfl | rfl | rfl | rfl | rfl | rfl | rfl | rfl | rfl | rfl | rfl | rfl | rfl | rfl | rfl | rfl | rfl | rfl | rfl
  · cases n with
    | zero => rfl
    | succ n =>
      have e : kidsP 0 (n + 1) (⟨#[10, 10]⟩ : ByteArray) = pkid ⟨#[10, 10]⟩ ((0 : Nat) : Int) :: kidsP 1 (n + 1) ⟨#[10, 10]⟩ := by
        unfold kidsP
        rw [show n + 1 - 0 = n + 1 from rfl, List.range'_succ, show n + 1 - 1 = n from by omega]; rfl
      show (kds (fixF f (kidsP 0 (n + 1) _ ++ _))).map _ = _
      rw [e]
      show (kds (pkid f ((0 : Nat) : Int) :: (kidsP 1 (n + 1) _ ++ _))).map _ = _
      rw [kds_kid, kds_append, kds_kidsP, kds_own, kds_nil, List.append_nil, List.map_cons, kidsP_gap, range_tail n (fun j => rkid 1 j f L) ⟨#[10, 10]⟩ (fun i h1 h2 => by unfold rkid; simp; omega), show n + 1 - 1 = n from by omega]; rfl
  · obtain rfl := h.a2 (.inl rfl); rfl
  · show (kds (pown f _ :: (commasP 0 n ++ [_]))).map _ = _
    rw [kds_own, kds_append, kds_commasP, kds_own, kds_nil, List.append_nil, ckids_gap, List.range_eq_range', Nat.sub_zero]
    refine List.map_congr_left fun i hi => ?_
    unfold rkid
    simp only [show ¬ (3 : Int) = 1 from by decide, show ¬ (3 : Int) = 2 from by decide, if_false, true_or, if_true]
    by_cases h0 : 0 < i
    · rw [if_pos h0, if_neg (by omega)]
    · rw [if_neg h0, if_pos (by omega)]
  · obtain rfl := h.a1 (.inl rfl); rfl
  · obtain rfl := h.a0 (.inl rfl); rfl
  · show (kds (pown f _ :: bodyP 0 n L)).map _ = _
    rw [kds_own, kds_bodyP, kidsP_gap, range_const n (fun j => rkid 6 j f L) (nl (L + 1)) (fun i hi => rfl), Nat.sub_zero]
  · have hn := h.ap (.inl rfl)
    obtain ⟨m, rfl⟩ : ∃ m, n = m + 1 := ⟨n - 1, by omega⟩
    show (kds ([pown f _, _, _, _] ++ bodyP 1 (m + 1) L)).map _ = _
    rw [kds_append, kds_bodyP, List.map_append, kidsP_gap, range_tail m (fun j => rkid 7 j f L) (nl (L + 1)) (fun i h1 h2 => by unfold rkid; simp; omega), show m + 1 - 1 = m from by omega]; rfl
  · obtain rfl := h.a0 (.inr (.inl rfl))
    show (kds (fixF f (if s.size = 0 then [] else _))).map _ = _
    split <;> rfl
  · obtain rfl := h.a1 (by simp); rfl
  · obtain rfl := h.a1 (by simp); rfl
  · obtain rfl := h.a1 (by simp); rfl
  · obtain rfl := h.a1 (by simp); rfl
  · obtain rfl := h.a2 (.inr rfl); rfl
  · have hn := h.ae rfl
    show (kds (fixF f (if n = 0 then [] else _))).map _ = _
    split
    · rename_i e; subst e; rfl
    · obtain rfl : n = 1 := by omega
      rfl
  · obtain rfl := h.at2 (.inl rfl); rfl
  · obtain rfl := h.a1 (by simp); rfl
  · obtain rfl := h.a0 (by simp); rfl
  · obtain rfl := h.a0 (by simp); rfl
  · obtain rfl := h.a0 (by simp); rfl
  · show (kds (pown f _ :: listP 0 n)).map _ = _
    rw [kds_own, kds_listP, ckids_gap, List.range_eq_range', Nat.sub_zero]
    refine List.map_congr_left fun i hi => ?_
    unfold rkid
    simp only [show ¬ (20 : Int) = 1 from by decide, show ¬ (20 : Int) = 2 from by decide, show ¬ (20 : Int) = 3 from by decide, if_false, false_or, if_true]
    by_cases h0 : 0 < i
    · rw [if_pos h0, if_neg (by omega)]
    · rw [if_neg h0, if_pos (by omega)]
  · have hn := h.ap (.inr rfl)
    obtain ⟨m, rfl⟩ : ∃ m, n = m + 1 := ⟨n - 1, by omega⟩
    show (kds (pkid f ((0 : Nat) : Int) :: pown _ _ :: pown _ _ :: listP 1 (m + 1))).map _ = _
    rw [kds_kid, kds_own, kds_own, kds_listP, List.map_cons, ckids_gap, List.range_succ_eq_map, List.map_cons, List.map_map, show m + 1 - 1 = m from by omega]
    congr 1
    rw [List.range'_eq_map_range, List.map_map]
    refine List.map_congr_left fun i hi => ?_
    show (if 1 < 1 + i then _ else _) = rkid 21 (i + 1) f L
    unfold rkid
    simp only [show ¬ (21 : Int) = 1 from by decide, show ¬ (21 : Int) = 2 from by decide, show ¬ (21 : Int) = 3 from by decide, show ¬ (21 : Int) = 20 from by decide, if_false, or_self, if_true, show ¬ i + 1 = 0 from by omega]
    by_cases h0 : 1 < 1 + i
    · rw [if_pos h0, if_neg (by omega)]
    · rw [if_neg h0, if_pos (by omega)]
  · obtain rfl := h.a0 (by simp)
    rfl
  · obtain rfl := h.a0 (by simp); rfl
  · obtain rfl := h.at2 (.inr rfl); rfl
  · obtain rfl := h.a1 (by simp); rfl
  · obtain rfl := h.a1 (by simp); rfl
end Go.Proofs.YtiaajpdcacdngaaGreatDoor.Pl
