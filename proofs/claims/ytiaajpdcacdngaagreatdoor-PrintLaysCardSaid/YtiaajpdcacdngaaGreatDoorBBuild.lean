/- The Builder. -/
import Derived.Test.YtiaajpdcacdngaaGreatDoorBBytes
import Derived.Shelf.Strings.BuilderK
namespace Go.Proofs.YtiaajpdcacdngaaGreatDoor.Tk
open Go.RowKit
set_option linter.unusedVariables false
set_option linter.unusedSimpArgs false

def bren : Go.Shelf.Ren := ⟨fun | 166 => 53 | 240 => 75 | 276 => 103 | n => n, fun | 0 => 0 | 3 => 3 | 4 => 4 | 9 => 9 | 20 => 20 | 37 => 66 | 70 => 65 | 72 => 68 | 75 => 70 | 164 => 106 | 5 => 5 | 80 => 76 | 127 => 93 | n => n, fun | n => n⟩
theorem blays : Go.Proofs.Lays.n166 Tryz.prog bren := {
  mixed := by kernel_rfl
  f166 := Tryz.func53.trans (congrArg some (by kernel_rfl))
  f240 := Tryz.func75.trans (congrArg some (by kernel_rfl))
  f276 := Tryz.func103.trans (congrArg some (by kernel_rfl))
  t0 := Tryz.underlying0
  a0 := Tryz.isAgg0
  z0 := Tryz.sizeOf0
  v0 := Tryz.zeroValue0
  t3 := Tryz.underlying3
  a3 := Tryz.isAgg3
  z3 := Tryz.sizeOf3
  v3 := Tryz.zeroValue3
  t4 := Tryz.underlying4
  a4 := Tryz.isAgg4
  z4 := Tryz.sizeOf4
  v4 := Tryz.zeroValue4
  t9 := Tryz.underlying9
  a9 := Tryz.isAgg9
  z9 := Tryz.sizeOf9
  v9 := Tryz.zeroValue9
  t20 := Tryz.underlying20
  a20 := Tryz.isAgg20
  z20 := Tryz.sizeOf20
  v20 := Tryz.zeroValue20
  t37 := Tryz.underlying66
  a37 := Tryz.isAgg66
  z37 := Tryz.sizeOf66
  v37 := Tryz.zeroValue66
  t70 := Tryz.underlying65
  a70 := Tryz.isAgg65
  z70 := Tryz.sizeOf65
  v70 := Tryz.zeroValue65
  t72 := Tryz.underlying68
  a72 := Tryz.isAgg68
  z72 := Tryz.sizeOf68
  v72 := Tryz.zeroValue68
  t75 := Tryz.underlying70
  a75 := Tryz.isAgg70
  z75 := Tryz.sizeOf70
  v75 := Tryz.zeroValue70
  t164 := Tryz.underlying106
  a164 := Tryz.isAgg106
  z164 := Tryz.sizeOf106
  v164 := Tryz.zeroValue106 }
theorem bextra : Builder.Extra Tryz.prog bren := {
  sizeBuilder := by kernel_rfl
  liesBuilder := by kernel_rfl
  t5 := Tryz.underlying5
  a5 := Tryz.isAgg5
  z5 := Tryz.sizeOf5
  v5 := Tryz.zeroValue5
  infoByte := by kernel_rfl
  cellsByte := by kernel_rfl
  sizeByte := by kernel_rfl
  neB5 := by decide }

/-- What the Builder in block b holds. -/
def BHolds (b : Nat) (acc : Pl.Bs) (w : World) : Prop := Lib.IsBuilderF 68 5 b b (Lib.byteCells acc) w
theorem holds_lt {b : Nat} {acc : Pl.Bs} {w : World} (h : BHolds b acc w) : b < w.heap.size := by
  rcases h with h | h <;> exact h.lt
theorem holds_later {b : Nat} {acc : Pl.Bs} {w w' : World} (h : BHolds b acc w) (hb : Below w.heap.size w w') : BHolds b acc w' := by
  have one : ∀ p, Lib.BuilderAtF 68 5 b b p (Lib.byteCells acc) w → Lib.BuilderAtF 68 5 b b p (Lib.byteCells acc) w' := by
    intro p h
    have hlt := h.lt
    obtain ⟨h1, v, h2, h3, h4⟩ := h
    exact ⟨h1, v, (hb.block b hlt).trans h2, h3.kept (row := none) ⟨hb.os, hb.tape, hb.output, hb.size, fun k hk _ => hb.block k hk⟩ (by cases h : v.ownBlock with | none => exact .inl rfl | some k => exact .inr (by simp)), h4⟩
  rcases h with h | h
  · exact .inl (one _ h)
  · exact .inr (one _ h)
theorem wstr_any (b : Nat) (acc : Pl.Bs) (s : ByteArray) (w : World) (h : BHolds b acc w) (hlen : acc.length + s.size ≤ 140737488355328) :
    Calls Tryz.prog 53 #[.pointer (some ⟨b, 0, none⟩), .string s] w fun e w' => e = .returned (.tuple #[.int .i64 s.size, .nilIface]) ∧ BHolds b (acc ++ s.data.toList) w' ∧ Below b w w' ∧ Lib.OthersKept 5 (some b) w w' := by
  have := Any.Builder_WriteString_k blays bextra b b (Lib.byteCells acc) s w h (by rw [Lib.byteCells_length]; exact hlen) (Nat.le_of_lt (holds_lt h))
  refine this.mono fun e w' ⟨he, h1, h2, h3⟩ => ⟨he, .inr ?_, h2, h3⟩
  rw [Lib.strCells_eq, ← Lib.byteCells_append] at h1
  exact h1
theorem bstring_any (b : Nat) (acc : Pl.Bs) (w : World) (h : BHolds b acc w) :
    Calls Tryz.prog 57 #[.pointer (some ⟨b, 0, none⟩)] w fun e w' => e = .returned (.string (Pl.mk acc)) ∧ Below b w w' :=
  (Tryz.Builder_String_any_k b b acc w h (Nat.le_of_lt (holds_lt h))).mono fun e w' ⟨he, _, hb, _⟩ => ⟨he, hb⟩
end Go.Proofs.YtiaajpdcacdngaaGreatDoor.Tk
