/- A list of strings among the arguments. -/
import Derived.Test.YtheemneojippgaaWalkAwake
import Derived.Test.YtheemneojippgaaBulk
import Derived.ProofKit
namespace Go.Proofs.Ytheemneojippgaa
open Go.ChangeShapes Go.WideShapes Go.ChangeAt Go.RowKit
set_option linter.unusedVariables false
set_option linter.unusedSimpArgs false

/-- A slice of strings, wherever it lies. -/
def SliceIn (w : World) (v : Value) (xs : List ByteArray) : Prop :=
  (xs = [] ∧ ∃ a c, v = .slice a 0 c) ∨
  ∃ b o c, v = .slice (some ⟨b, o, none⟩) xs.length c ∧ xs.length ≤ c ∧ b < w.heap.size ∧ ∀ (j : Nat) x, xs[j]? = some x → w.cell? ⟨b, o + j, none⟩ = some (.string x)
theorem SliceIn.later {w w' : World} {v : Value} {xs : List ByteArray} (h : SliceIn w v xs) (hb : Below w.heap.size w w') : SliceIn w' v xs := by
  rcases h with h | ⟨b, o, c, h1, h2, h3, h4⟩
  · exact .inl h
  · exact .inr ⟨b, o, c, h1, h2, Nat.lt_of_lt_of_le h3 hb.size, fun j x hx => (hb.cell (p := ⟨b, o + j, none⟩) h3).trans (h4 j x hx)⟩

theorem Try.cellsS : Try.prog.cellsOf 9 = 1 := by kernel_rfl

theorem strs_bulk {H : Type} (xs : List ByteArray) : Rows.uptoBulkAll (strs (H := H) xs) = (cat xs).size + xs.length := by
  rw [cat_size]
  induction xs with
  | nil => rfl
  | cons a r ih =>
    simp only [strs, List.map_cons, Rows.uptoBulkAll, bulks.string_eq, List.flatten_cons, List.length_append, List.length_cons] at ih ⊢
    rw [ih]; omega

theorem open_slice_strings {H : Type} {enc : TypeId × Value → H} {W : World} {base : Nat} {v : Value} {d : DataW H} {p : List MemPlace} {sp : Nat → Bool} {hd : Bool} {hb : Nat}
    (hv : Value.okWide Try.prog W .any base 22 v) (h : DataW.Trod enc Try.prog W hb sp hd 22 v d p) :
    ∃ xs, SliceIn W v xs ∧ (cat xs).size + xs.length ≤ Rows.uptoBulk d := by
  obtain ⟨a0, len, cap, rfl⟩ := okWide_slice Try.underlying22 hv
  obtain ⟨fuel, hf⟩ := h
  rcases open_strings Try.underlying22 Try.underlying9 Try.cellsS hf with ⟨hcs, hx⟩ | ⟨a, len', cap', ss, hcs, hbl, hl, hm, hz, hx, hcell, hsz⟩
  · refine ⟨[], .inl ⟨rfl, ?_⟩, ?_⟩
    · simp [Value.cells] at hcs
      obtain ⟨rfl, rfl, rfl⟩ := hcs
      exact ⟨_, _, rfl⟩
    · show 0 + 0 ≤ _; omega
  · simp [Value.cells] at hcs
    obtain ⟨rfl, rfl, rfl⟩ := hcs
    have hle : len ≤ ss.length := by rw [hz]; split <;> omega
    have hxs : (ss.take len).length = len := by rw [List.length_take]; omega
    obtain ⟨hd1, hd2⟩ := Prod.mk.inj hx
    refine ⟨ss.take len, ?_, ?_⟩
    · by_cases h0 : len = 0
      · subst h0
        exact .inl ⟨rfl, _, _, rfl⟩
      · have h1 := hcell 0 (by omega)
        have hspot : a.spot = none ∧ a.block < W.heap.size := by
          simp only [Addr.add, if_true, World.cell?] at h1
          cases hb : W.heap[a.block]? with
          | none => rw [hb] at h1; cases h1
          | some o =>
            refine ⟨?_, (Array.getElem?_eq_some_iff.1 hb).1⟩
            rw [hb] at h1
            cases o <;> simp at h1
            cases hs : a.spot with
            | none => rfl
            | some k => rw [hs] at h1; simp at h1
        obtain ⟨b, o, sp⟩ := a
        obtain ⟨rfl, hlt⟩ := hspot
        refine .inr ⟨b, o, cap, by rw [hxs], by rw [hxs]; exact hl, hlt, fun j x hx => ?_⟩
        have hj : j < len := by have := (List.getElem?_eq_some_iff.1 hx).1; omega
        have h2 := hcell j (by omega)
        rw [List.getElem?_take, if_pos hj] at hx
        rw [List.getD_eq_getElem?_getD, hx] at h2
        have e : (⟨b, o, none⟩ : Addr).add j = ⟨b, o + j, none⟩ := by
          unfold Addr.add
          split
          · rename_i h; rw [h]; rfl
          · rfl
        rw [← e]; exact h2
    · rw [hd1]
      simp only [Rows.uptoBulk, strs_bulk]
      omega

theorem join_in (w : World) (v : Value) (xs : List ByteArray) (h : SliceIn w v xs) (hb : (cat xs).size + xs.length ≤ 1048576) :
    Calls Try.prog 14 #[v] w fun e w' => e = .returned (.string (cat xs)) ∧ Below w.heap.size w w' := by
  rcases h with ⟨rfl, a, c, rfl⟩ | ⟨b, o, c, rfl, h2, h3, h4⟩
  · exact join_none a c w
  · exact join_some b o c xs w h4 h3 h2 (by omega) (by omega)
theorem rjoin_in (w : World) (v : Value) (xs : List ByteArray) (h : SliceIn w v xs) (hb : (cat xs).size + xs.length ≤ 1048576) :
    Calls Try.prog 15 #[v] w fun e w' => e = .returned (.string (cat xs)) ∧ w = w' := by
  rcases h with ⟨rfl, a, c, rfl⟩ | ⟨b, o, c, rfl, h2, h3, h4⟩
  · exact rjoin_none a c w
  · exact rjoin_some b o c xs w h4 (by omega) (by omega)
end Go.Proofs.Ytheemneojippgaa
