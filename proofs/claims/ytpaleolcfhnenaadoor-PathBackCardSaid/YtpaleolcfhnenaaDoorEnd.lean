/- The laws, with arguments as a caller hands them. -/
import Derived.Test.YtpaleolcfhnenaaDoorCard
import Derived.Test.YtpaleolcfhnenaaDoorLIdx
import Derived.Test.YtpaleolcfhnenaaDoorLChange
import Derived.Test.YtpaleolcfhnenaaDoorLRemove
import Derived.Test.YtpaleolcfhnenaaDoorLBack
import Derived.Test.YtpaleolcfhnenaaDoorLRepl
import Derived.Test.YtpaleolcfhnenaaDoorAwake
namespace Go.Proofs.YtpaleolcfhnenaaDoor
open Go.ChangeShapes Go.WideShapes Go.ChangeAt Go.RowKit Go.Deep
set_option linter.unusedVariables false
set_option linter.constructorNameAsVariable false
set_option maxRecDepth 100000
set_option linter.unusedSimpArgs false

/-- A list of numbers as an argument. -/
def RI (w : World) (v : Value) (xs : List Int) : Prop := ∃ a c, v = .slice a xs.length c ∧ Rt.IsI w a xs ∧ xs.length ≤ c
theorem open_nums {H : Type} {enc : TypeId × Value → H} {W : World} {base : Nat} {v : Value} {d : DataW H} {p : List MemPlace} {sp : Nat → Bool} {hd : Bool} {hb : Nat}
    (hv : Value.okWide Tryd.prog W .any base 26 v) (h : DataW.Trod enc Tryd.prog W hb sp hd 26 v d p) : ∃ xs, RI W v xs := by
  obtain ⟨a0, len, cap, rfl⟩ := okWide_slice Tryd.underlying26 hv
  obtain ⟨fuel, hf⟩ := h
  rcases open_ints Tryd.underlying26 Tryd.underlying3 cellsI hf with ⟨hcs, hx⟩ | ⟨a, len', cap', zs, hcs, hbl, hl, hm, hz, hx, hcell, _⟩
  · simp [Value.cells] at hcs
    obtain ⟨rfl, rfl, rfl⟩ := hcs
    exact ⟨[], none, 0, rfl, ⟨Nat.zero_le _, .inl rfl⟩, Nat.zero_le _⟩
  · simp [Value.cells] at hcs
    obtain ⟨rfl, rfl, rfl⟩ := hcs
    have hle : len ≤ zs.length := by rw [hz]; split <;> omega
    have hxs : (zs.take len).length = len := by rw [List.length_take]; omega
    refine ⟨zs.take len, some a, cap, by rw [hxs], ⟨by rw [hxs]; omega, ?_⟩, by rw [hxs]; exact hl⟩
    by_cases h0 : len = 0
    · left; subst h0; rfl
    · right
      obtain ⟨b, o, rfl, hlt⟩ := plain_addr (hcell 0 (by omega))
      refine ⟨b, o, rfl, hlt, fun j x hx => ?_⟩
      have hj : j < len := by have := (List.getElem?_eq_some_iff.1 hx).1; omega
      have h2 := hcell j (by omega)
      rw [List.getElem?_take, if_pos hj] at hx
      rw [List.getD_eq_getElem?_getD, hx, add_mid] at h2
      exact h2
abbrev LawP (w : World) (e : Ending) (w' : World) : Prop := e = .returned (.bool true) ∧ Below w.heap.size w w'
theorem cFinds (G : Rt.Prog) (t : Pl.Tr) (r : Sl) (i : Int) (v : Value) (p : List Int) (w : World) (hT : Tabs w) (ht : IsT w t r) (hi : (Lit.int .i64 i).wf = true) (hp : RI w v p) (hgb : ∀ y ∈ Pl.pre t, y.gaps.length ≤ 1048576) :
    Calls Tryd.prog 3 #[Rt.nvx t r, .int .i64 i, v] w (LawP w) := by
  obtain ⟨a, c, rfl, h, hc⟩ := hp
  exact Rt.lawFinds G t r i p a c w hT ht h hc (int_hi hi).1 (int_hi hi).2 hgb
theorem cIndexes (G : Rt.Prog) (t : Pl.Tr) (r : Sl) (i : Int) (w : World) (hT : Tabs w) (ht : IsT w t r) (hi : (Lit.int .i64 i).wf = true) (hgb : ∀ y ∈ Pl.pre t, y.gaps.length ≤ 1048576) :
    Calls Tryd.prog 6 #[Rt.nvx t r, .int .i64 i] w (LawP w) :=
  Rt.lawIndexes G t r i w hT ht (int_hi hi).1 (int_hi hi).2 hgb
theorem cChanges (G : Rt.Prog) (t : Pl.Tr) (r : Sl) (v : Value) (p : List Int) (x : Pl.Tr) (rx : Sl) (w : World) (hT : Tabs w) (ht : IsT w t r) (hp : RI w v p) (hx : IsT w x rx) :
    Calls Tryd.prog 4 #[Rt.nvx t r, v, Rt.nvx x rx] w (LawP w) := by
  obtain ⟨a, c, rfl, h, hc⟩ := hp
  exact Rt.lawChanges G t x r rx p a c w hT ht hx h hc
theorem cRemoves (G : Rt.Prog) (t : Pl.Tr) (r : Sl) (v : Value) (p : List Int) (x : Pl.Tr) (rx : Sl) (w : World) (hT : Tabs w) (ht : IsT w t r) (hp : RI w v p) (hx : IsT w x rx) :
    Calls Tryd.prog 7 #[Rt.nvx t r, v, Rt.nvx x rx] w (LawP w) := by
  obtain ⟨a, c, rfl, h, hc⟩ := hp
  exact Rt.lawRemoves G t x r rx p a c w hT ht hx h hc
theorem cReplaces (G : Rt.Prog) (t : Pl.Tr) (r : Sl) (v : Value) (p : List Int) (x : Pl.Tr) (rx : Sl) (u : Value) (q : List Int) (w : World) (hT : Tabs w) (ht : IsT w t r) (hp : RI w v p) (hx : IsT w x rx) (hq : RI w u q) :
    Calls Tryd.prog 5 #[Rt.nvx t r, v, Rt.nvx x rx, u] w (LawP w) := by
  obtain ⟨a, c, rfl, h, hc⟩ := hp
  obtain ⟨b, d, rfl, k, hd⟩ := hq
  exact Rt.lawReplaces G t x r rx p q a b c d w hT ht hx h k hc hd
theorem cBack (G : Rt.Prog) (t : Pl.Tr) (r : Sl) (i : Int) (x : Pl.Tr) (rx : Sl) (w : World) (hT : Tabs w) (ht : IsT w t r) (hi : (Lit.int .i64 i).wf = true) (hx : IsT w x rx) :
    Calls Tryd.prog 8 #[Rt.nvx t r, .int .i64 i, Rt.nvx x rx] w (LawP w) :=
  Rt.lawBack G t x r rx i w hT ht hx (int_hi hi).1 (int_hi hi).2
end Go.Proofs.YtpaleolcfhnenaaDoor
