/- What the closing texts share: what the listed variables give the walks, a list of tokens among the arguments, a world for the witness. -/
import Derived.Test.YtebmmpepniokjaaDoorFrame
import Derived.Test.YtebmmpepniokjaaDoorCards
import Derived.Test.YtebmmpepniokjaaDoorTie
import Derived.Test.YtebmmpepniokjaaDoorWalkInt
import Derived.Test.YtebmmpepniokjaaDoorWalkRow
import Derived.Deep.DeepHandedRow
import Derived.Deep.Slices
import Derived.ChangeSame
import Derived.Stop.LaidErr
import Derived.Clock
namespace Go.Proofs.YtebmmpepniokjaaDoor
open Go.ChangeShapes Go.WideShapes Go.ChangeAt Go.RowKit Go.Deep
set_option linter.unusedVariables false
set_option linter.unusedSimpArgs false

/- ### The two errors of the library -/
def cardLaid : List (String × DataW Unit) := [("math/bits.deBruijn32tab", Rows.laid_math_bits_deBruijn32tab), ("math/bits.deBruijn64tab", Rows.laid_math_bits_deBruijn64tab), ("internal/strconv.uint64pow10", Rows.laid_internal_strconv_uint64pow10), ("strconv.ErrRange", Rows.laid_strconv_ErrRange), ("strconv.ErrSyntax", Rows.laid_strconv_ErrSyntax)]
theorem gSyn : Tryd.prog.globalNamed "strconv.ErrSyntax" = some 1 := by kernel_rfl
theorem gSynType : (Tryd.prog.globals[1]?).map (·.type) = some 46 := by kernel_rfl
theorem gRng : Tryd.prog.globalNamed "strconv.ErrRange" = some 2 := by kernel_rfl
theorem gRngType : (Tryd.prog.globals[2]?).map (·.type) = some 46 := by kernel_rfl
theorem cellsE : Tryd.prog.cellsOf 77 = 1 := by kernel_rfl
theorem cellsS : Tryd.prog.cellsOf 9 = 1 := by kernel_rfl
theorem starE : "*" ++ "errors.errorString" = "*errors.errorString" := by decide
theorem rowE (u : TypeId) (h : Tryd.prog.typeName? 3 u = some "*errors.errorString") : u = 75 :=
  typeName_ptr_named (nm := "errors.errorString") (by rw [starE]; kernel_rfl) (by kernel_rfl) (by decide) u (by rw [starE]; exact h)
theorem errs_of {W : World} (h : laidMetH Tryd.prog cardLaid W) : Errs W := by
  have h1 : laidMet Tryd.prog cardLaid W := h
  have h4 := h1.tail.tail.tail
  obtain ⟨a0, s0, hv0, _, _, _⟩ := laid_sentinel h4 gRng gRngType Tryd.underlying46 rowE Tryd.underlying75 Tryd.underlying77 rfl rfl Tryd.underlying9 cellsE cellsS
  obtain ⟨a1, s1, hv1, _, _, _⟩ := laid_sentinel h4.tail gSyn gSynType Tryd.underlying46 rowE Tryd.underlying75 Tryd.underlying77 rfl rfl Tryd.underlying9 cellsE cellsS
  exact ⟨⟨_, by have h0 := World.var?_cell gSyn hv1 0; simpa using h0, .inr ⟨_, _, rfl⟩⟩, ⟨_, by have h0 := World.var?_cell gRng hv0 0; simpa using h0, .inr ⟨_, _, rfl⟩⟩⟩

/- ### A world for the witness -/
/-- The cells of a table out of its datum. -/
def flat1 : DataW Unit → List Value
  | .lit (.int k n) => [.int k n]
  | _ => []
def flat2 : DataW Unit → List Value
  | .agg l => l.flatMap flat1
  | _ => []
def cellsLaid (l : List Value) : Obj → Obj
  | .cells _ t frozen => .cells l.toArray t frozen
  | o => o
def synS : ByteArray := ⟨#[105, 110, 118, 97, 108, 105, 100, 32, 115, 121, 110, 116, 97, 120]⟩
def rngS : ByteArray := ⟨#[118, 97, 108, 117, 101, 32, 111, 117, 116, 32, 111, 102, 32, 114, 97, 110, 103, 101]⟩
noncomputable def low : Nat := (World.holding Tryd.prog default ⟨#[], #[], []⟩).heap.size
/-- The settled world, the tables holding what their initialisers lay, the two errors pointing to two blocks more. -/
noncomputable def laidWorld (os : Os) : World :=
  { World.holding Tryd.prog os ⟨#[.cells #[.string synS] 77, .cells #[.string rngS] 77], #[], []⟩ with heap := (((((World.holding Tryd.prog os ⟨#[.cells #[.string synS] 77, .cells #[.string rngS] 77], #[], []⟩).heap.modify 3 (cellsLaid (flat2 Rows.laid_internal_strconv_uint64pow10))).modify 4 (cellsLaid (flat2 Rows.laid_math_bits_deBruijn32tab))).modify 5 (cellsLaid (flat2 Rows.laid_math_bits_deBruijn64tab))).modify 1 (cellsLaid [.iface 75 (.pointer (some ⟨low, 0, none⟩))])).modify 2 (cellsLaid [.iface 75 (.pointer (some ⟨low + 1, 0, none⟩))]) }

/- ### A list of tokens among the arguments -/
theorem cellsI : Tryd.prog.cellsOf 3 = 1 := by kernel_rfl
theorem cells4T : Tryd.prog.cellsOf 32 = 4 := by kernel_rfl
/-- So many, one by one, as a list. -/
theorem list_of {α : Type} (Q : Nat → α → Prop) (n : Nat) (h : ∀ i, i < n → ∃ t, Q i t) : ∃ L : List α, L.length = n ∧ ∀ (i : Nat) t, L[i]? = some t → Q i t := by
  induction n with
  | zero => exact ⟨[], rfl, fun i t hi => by simp at hi⟩
  | succ n ih =>
    obtain ⟨L, hL, hq⟩ := ih (fun i hi => h i (by omega))
    obtain ⟨t, ht⟩ := h n (by omega)
    refine ⟨L ++ [t], by simp [hL], fun i x hx => ?_⟩
    by_cases hi : i < L.length
    · rw [List.getElem?_append_left hi] at hx; exact hq i x hx
    · rw [List.getElem?_append_right (by omega)] at hx
      have hi2 : i - L.length = 0 := by
        rcases Nat.eq_zero_or_pos (i - L.length) with h | h
        · exact h
        · rw [List.getElem?_eq_none (by simp; omega)] at hx; cases hx
      rw [hi2] at hx
      obtain rfl : t = x := by simpa using hx
      have : i = n := by omega
      subst this; exact ht
theorem add_mid (b o j : Nat) : (⟨b, o, none⟩ : Addr).add j = ⟨b, o + j, none⟩ := by unfold Addr.add; split <;> simp_all
theorem open_toks {H : Type} {enc : TypeId × Value → H} {W : World} {base : Nat} {v : Value} {d : DataW H} {p : List MemPlace} {sp : Nat → Bool} {hd : Bool} {hb : Nat}
    (hv : Value.okWide Tryd.prog W .any base 23 v) (h : DataW.Trod enc Tryd.prog W hb sp hd 23 v d p) : ∃ L, Reads W v L ∧ ∀ t ∈ L, t.lead.size ≤ maxLen ∧ t.text.size ≤ maxLen := by
  obtain ⟨a0, len0, cap0, rfl⟩ := okWide_slice Tryd.underlying23 hv
  obtain ⟨fuel, hf⟩ := h
  rcases open_slice Tryd.underlying23 hf with ⟨hcs, _⟩ | ⟨a, len, cap, m, nf, D, Pl, hcs, hbl, hl, hm, hmm, _, hi⟩
  · simp [Value.cells] at hcs
    obtain ⟨rfl, rfl, rfl⟩ := hcs
    exact ⟨[], .inl ⟨rfl, _, _, rfl, fun _ => rfl⟩, fun t ht => by cases ht⟩
  · simp [Value.cells] at hcs
    obtain ⟨rfl, rfl, rfl⟩ := hcs
    by_cases h0 : len0 = 0
    · subst h0
      exact ⟨[], .inl ⟨rfl, _, _, rfl, fun h => by cases h⟩, fun t ht => by cases ht⟩
    · have hle : len0 ≤ m := by rw [hmm]; split <;> omega
      have each : ∀ i, i < len0 → ∃ t : T4, (W.cell? (a.add (i * 4 + 0)) = some (.int .i64 t.k) ∧ W.cell? (a.add (i * 4 + 1)) = some (.string t.lead) ∧ W.cell? (a.add (i * 4 + 2)) = some (.string t.text) ∧ W.cell? (a.add (i * 4 + 3)) = some (.int .i64 t.pos)) ∧ t.lead.size ≤ maxLen ∧ t.text.size ≤ maxLen := by
        intro i him
        obtain ⟨cs, hc, ht⟩ := hi i (by omega)
        rw [cells4T] at hc
        obtain ⟨ys, n, _, _, _, hyl, hfs⟩ := DataW.trod_struct Tryd.underlying32 ht
        obtain ⟨_, hcl, hat⟩ := World.cells?_some hc
        obtain ⟨x0, x1, x2, x3, rfl⟩ : ∃ x0 x1 x2 x3, cs = [x0, x1, x2, x3] := by
          match cs, hcl with
          | [x0, x1, x2, x3], _ => exact ⟨x0, x1, x2, x3, rfl⟩
        have hy : ys.length = 4 := hyl
        have get : ∀ f, f < 4 → W.cell? (a.add (i * 4 + f)) = [x0, x1, x2, x3][f]? := fun f hf => by rw [← Go.Deep.add_add]; exact hat f hf
        have k0 := get 0 (by decide)
        have k1 := get 1 (by decide)
        have k2 := get 2 (by decide)
        have k3 := get 3 (by decide)
        have t0 := (hfs 0 _ rfl).trans (List.getElem?_eq_getElem (by omega))
        have t1 := (hfs 1 _ rfl).trans (List.getElem?_eq_getElem (by omega))
        have t2 := (hfs 2 _ rfl).trans (List.getElem?_eq_getElem (by omega))
        have t3 := (hfs 3 _ rfl).trans (List.getElem?_eq_getElem (by omega))
        obtain ⟨n0, e0, _, _⟩ := DataW.trod_int Tryd.underlying3 t0
        obtain ⟨s1, e1, _, z1⟩ := DataW.trod_string Tryd.underlying9 t1
        obtain ⟨s2, e2, _, z2⟩ := DataW.trod_string Tryd.underlying9 t2
        obtain ⟨n3, e3, _, _⟩ := DataW.trod_int Tryd.underlying3 t3
        obtain rfl : x0 = .int .i64 n0 := by simpa [cellsI] using e0
        obtain rfl : x1 = .string s1 := by simpa [cellsS] using e1
        obtain rfl : x2 = .string s2 := by simpa [cellsS] using e2
        obtain rfl : x3 = .int .i64 n3 := by simpa [cellsI] using e3
        exact ⟨⟨n0, s1, s2, n3⟩, ⟨k0, k1, k2, k3⟩, z1, z2⟩
      obtain ⟨L, hL, hq⟩ := list_of _ len0 each
      obtain ⟨t0, ⟨k0, _⟩, _⟩ := each 0 (by omega)
      have ea : (a.add (0 * 4 + 0)) = a := by simp [Addr.add]
      rw [ea] at k0
      have hspot : a.spot = none := by
        simp only [World.cell?] at k0
        cases hb : W.heap[a.block]? with
        | none => rw [hb] at k0; cases k0
        | some o =>
          rw [hb] at k0
          cases o <;> simp at k0
          cases hs : a.spot with
          | none => rfl
          | some k => rw [hs] at k0; simp at k0
      have hbk : a.block < W.heap.size := by
        unfold World.cell? at k0
        by_cases hlt : a.block < W.heap.size
        · exact hlt
        · rw [Array.getElem?_eq_none (by omega)] at k0; simp at k0
      obtain ⟨b, o, sp⟩ := a
      obtain rfl := hspot
      refine ⟨L, .inr ⟨b, o, cap0, by rw [hL], hbk, fun j t hj => ?_, by rw [hL]; omega⟩, fun t ht => ?_⟩
      · obtain ⟨⟨c0, c1, c2, c3⟩, _⟩ := hq j t hj
        rw [add_mid] at c0 c1 c2 c3
        rw [Nat.mul_comm 4 j]
        exact ⟨c0, c1, c2, c3⟩
      · obtain ⟨j, hj, rfl⟩ := List.getElem_of_mem ht
        exact (hq j _ (List.getElem?_eq_getElem hj)).2
end Go.Proofs.YtebmmpepniokjaaDoor
