/- Units and lists of plain records, as they lie in memory. -/
import Derived.Test.YtoelfiendfemaaaUse
import Derived.Test.YtoelfiendfemaaaRow
namespace Go.Proofs.Ytoelfiendfemaaa
open Go.RowKit Go.Deep
set_option linter.unusedVariables false
set_option linter.unusedSimpArgs false

/- ### Rows of records -/
/-- Records of z cells each, from an address on. -/
def Flat {α : Type} (z : Nat) (cl : α → List Value) (P : Nat → Prop) (w : World) (a : Option Addr) (xs : List α) : Prop :=
  xs.length ≤ maxLen ∧ (xs = [] ∨ ∃ b o, a = some ⟨b, o, none⟩ ∧ P b ∧ ∀ (j : Nat) x, xs[j]? = some x → w.rangeAt b (o + j * z) (cl x))
theorem Flat.keep {α : Type} {z : Nat} {cl : α → List Value} {P Q : Nat → Prop} {w w' : World} {a : Option Addr} {xs : List α} (h : Flat z cl P w a xs) (hs : Same P w w') (hq : ∀ b, P b → Q b) : Flat z cl Q w' a xs := by
  obtain ⟨h1, h2⟩ := h
  refine ⟨h1, ?_⟩
  rcases h2 with h2 | ⟨b, o, e, hb, h2⟩
  · exact .inl h2
  · exact .inr ⟨b, o, e, hq b hb, fun j x hx i v hv => (hs.cell hb).trans (h2 j x hx i v hv)⟩
/-- Records that lie somewhere. -/
abbrev FlatW {α : Type} (z : Nat) (cl : α → List Value) (w : World) (a : Option Addr) (xs : List α) : Prop := Flat z cl (fun b => b < w.heap.size) w a xs
theorem FlatW.later {α : Type} {z : Nat} {cl : α → List Value} {w w' : World} {a : Option Addr} {xs : List α} (h : FlatW z cl w a xs) (hb : Below w.heap.size w w') : FlatW z cl w' a xs :=
  Flat.keep h (Same.below hb fun _ h => h) fun b h => Nat.lt_of_lt_of_le h hb.size
theorem flat_nil {α : Type} (z : Nat) (cl : α → List Value) (P : Nat → Prop) (w : World) (a : Option Addr) : Flat z cl P w a ([] : List α) := ⟨Nat.zero_le _, .inl rfl⟩
def cellsD (d : Pl.Dc) : List Value := [.int .i64 d.kind, .string d.owner, .string d.name, .int .i64 d.unit, .int .i64 d.node]
def cellsU (x : Pl.Us) : List Value := [.int .i64 x.au, .int .i64 x.an, .int .i64 x.du, .int .i64 x.dn, .bool x.bound]
def cellsR (r : Pl.Rf) : List Value := [.int .i64 r.1, .int .i64 r.2]
def cellsI (i : Int) : List Value := [.int .i64 i]
theorem infoD : (Try.prog.info? 77).map (fun i => (i.zero, i.size, i.bytes)) = some (some (.agg #[.int .i64 0, .string ⟨#[]⟩, .string ⟨#[]⟩, .int .i64 0, .int .i64 0]), 5, 56) := by kernel_rfl
theorem infoU : (Try.prog.info? 42).map (fun i => (i.zero, i.size, i.bytes)) = some (some (.agg #[.int .i64 0, .int .i64 0, .int .i64 0, .int .i64 0, .bool false]), 5, 40) := by kernel_rfl
theorem infoF : (Try.prog.info? 29).map (fun i => (i.zero, i.size, i.bytes)) = some (some (.agg #[.int .i64 0, .int .i64 0]), 2, 16) := by kernel_rfl
theorem sizeD : (Try.prog.info? 77).map (·.size) = some 5 := by kernel_rfl
theorem sizeU : (Try.prog.info? 42).map (·.size) = some 5 := by kernel_rfl
theorem sizeF : (Try.prog.info? 29).map (·.size) = some 2 := by kernel_rfl
theorem sizeUn : (Try.prog.info? 56).map (·.size) = some 7 := by kernel_rfl
theorem flatten_len {α : Type} (z : Nat) (cl : α → List Value) (hz : ∀ x, (cl x).length = z) (L : List α) : (L.flatMap cl).length = L.length * z := by
  induction L with
  | nil => simp
  | cons t L ih => rw [List.flatMap_cons, List.length_append, ih, hz, List.length_cons, Nat.add_mul]; omega
theorem flatten_get {α : Type} (z : Nat) (cl : α → List Value) (hz : ∀ x, (cl x).length = z) (L : List α) (j : Nat) (t : α) (h : L[j]? = some t) (f : Nat) (hf : f < z) : (L.flatMap cl)[j * z + f]? = (cl t)[f]? := by
  induction L generalizing j with
  | nil => simp at h
  | cons a L ih =>
    rw [List.flatMap_cons]
    match j, h with
    | 0, h =>
      obtain rfl : a = t := by simpa using h
      rw [List.getElem?_append_left (by rw [hz]; omega)]
      congr 1; omega
    | j + 1, h =>
      rw [List.getElem?_append_right (by rw [hz, Nat.add_mul]; omega)]
      have := ih j (by simpa using h)
      rw [← this, hz, Nat.add_mul]
      congr 1; omega
/-- What lies in a row of records of the call's own. -/
theorem flat_own {α : Type} {w : World} {B n z : Nat} {ty : TypeId} {cl : α → List Value} (hz : ∀ x, (cl x).length = z) (h0 : 0 < z) {v : Value} {L : List α} (h : w.ownsRow B ty z v n (L.flatMap cl)) (hn : n = L.length) :
    ∃ a c, v = .slice a L.length c ∧ Flat z cl (fun b => B ≤ b ∧ b < w.heap.size ∧ v.ownBlock = some b) w a L := by
  rcases h.2 with ⟨rfl, h3⟩ | ⟨g, cap, cur, rfl, hg, hh, hn1, hm, hzz, ht⟩
  · obtain rfl : L = [] := List.eq_nil_of_length_eq_zero (by omega)
    exact ⟨none, 0, rfl, flat_nil _ _ _ _ _⟩
  · refine ⟨_, cap, by rw [hn], by omega, .inr ⟨g, 0, rfl, ⟨hg, lt_of_block hh, rfl⟩, fun j x hj f v hv => ?_⟩⟩
    have hjl := (List.getElem?_eq_some_iff.1 hj).1
    have hf : f < z := by rw [← hz x]; exact (List.getElem?_eq_some_iff.1 hv).1
    have h4 := flatten_get z cl hz L j x hj f hf
    have hlt : j * z + f < n * z := by
      have : (j + 1) * z ≤ n * z := Nat.mul_le_mul_right z (by omega)
      rw [Nat.add_mul] at this; omega
    rw [← ht, List.getElem?_take, if_pos hlt, hv] at h4
    rw [cell_of_row w g _ cur _ _ hh, ← h4, Nat.zero_add]
    simp
theorem flat_row {α : Type} {w : World} {B n z : Nat} {ty : TypeId} {cl : α → List Value} (hz : ∀ x, (cl x).length = z) (h0 : 0 < z) {v : Value} {L : List α} (h : w.ownsRow B ty z v n (L.flatMap cl)) (hn : n = L.length) :
    ∃ a c, v = .slice a L.length c ∧ FlatW z cl w a L := by
  obtain ⟨a, c, e, hf⟩ := flat_own hz h0 h hn
  exact ⟨a, c, e, hf.keep (Same.refl _ _) fun b hb => hb.2.1⟩
theorem flatten_snoc {α : Type} (cl : α → List Value) (L : List α) (x : α) : (L ++ [x]).flatMap cl = L.flatMap cl ++ cl x := by simp
theorem ints_flat {P : Nat → Prop} {w : World} {a : Option Addr} {xs : List Int} (h : Flat 1 cellsI P w a xs) : Ints P w a xs := by
  obtain ⟨h1, h2⟩ := h
  refine ⟨h1, ?_⟩
  rcases h2 with h2 | ⟨b, o, e, hb, h2⟩
  · exact .inl h2
  · refine .inr ⟨b, o, e, hb, fun j x hx => ?_⟩
    have := h2 j x hx 0 _ rfl
    simpa using this

/- ### Units -/
def cells7 (x : Pl.Un) (r : Sl) : List Value := [.string x.path, .string x.text, .int .i64 x.tree.kind, .string x.tree.text, .slice r.ga x.tree.gaps.length r.gc, .slice r.da x.tree.kids.length r.dc, .bool x.broken]
/-- Units from an address on; R says where the roots' slices lie. -/
def Units (P : Nat → Prop) (w : World) (a : Option Addr) (us : List Pl.Un) (R : Nat → Sl) : Prop :=
  us.length ≤ maxLen ∧ (us = [] ∨ ∃ b o, a = some ⟨b, o, none⟩ ∧ P b ∧ ∀ (j : Nat) x, us[j]? = some x → w.rangeAt b (o + j * 7) (cells7 x (R j))) ∧
  ∀ (j : Nat) x, us[j]? = some x → Tin P w x.tree (R j) ∧ x.path.size ≤ maxLen ∧ x.text.size ≤ maxLen
theorem Units.keep {P Q : Nat → Prop} {w w' : World} {a : Option Addr} {us : List Pl.Un} {R : Nat → Sl} (h : Units P w a us R) (hs : Same P w w') (hq : ∀ b, P b → Q b) : Units Q w' a us R := by
  obtain ⟨h1, h2, h3⟩ := h
  refine ⟨h1, ?_, fun j x hx => ⟨(h3 j x hx).1.keep hs hq, (h3 j x hx).2⟩⟩
  rcases h2 with h2 | ⟨b, o, e, hb, h2⟩
  · exact .inl h2
  · exact .inr ⟨b, o, e, hq b hb, fun j x hx i v hv => (hs.cell hb).trans (h2 j x hx i v hv)⟩
/-- Units that lie somewhere in a world. -/
def IsU (w : World) (a : Option Addr) (us : List Pl.Un) (R : Nat → Sl) : Prop := Units (fun b => b < w.heap.size) w a us R
theorem IsU.later {w w' : World} {a : Option Addr} {us : List Pl.Un} {R : Nat → Sl} (h : IsU w a us R) (hb : Below w.heap.size w w') : IsU w' a us R :=
  Units.keep h (Same.below hb fun _ h => h) fun b h => Nat.lt_of_lt_of_le h hb.size
/-- The seven cells of a unit. -/
theorem range7 {w : World} {b o : Nat} {x : Pl.Un} {r : Sl} (h : w.rangeAt b o (cells7 x r)) :
    w.cell? ⟨b, o, none⟩ = some (.string x.path) ∧ w.cell? ⟨b, o + 1, none⟩ = some (.string x.text) ∧ w.cell? ⟨b, o + 6, none⟩ = some (.bool x.broken) ∧
    w.rangeAt b (o + 2) [.int .i64 x.tree.kind, .string x.tree.text, .slice r.ga x.tree.gaps.length r.gc, .slice r.da x.tree.kids.length r.dc] := by
  refine ⟨h 0 _ rfl, h 1 _ rfl, h 6 _ rfl, fun j v hv => ?_⟩
  match j, hv with
  | 0, hv => exact h 2 _ hv
  | 1, hv => exact h 3 _ hv
  | 2, hv => exact h 4 _ hv
  | 3, hv => exact h 5 _ hv
/-- Units of moderate size. -/
def Few (us : List Pl.Un) : Prop := us.length ≤ 4 ∧ ∀ x ∈ us, Lit x.tree
end Go.Proofs.Ytoelfiendfemaaa
