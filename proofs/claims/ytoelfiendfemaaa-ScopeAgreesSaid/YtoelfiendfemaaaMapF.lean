/- Maps that a call makes, as functions of their keys. -/
import Derived.Test.YtoelfiendfemaaaUn
import Derived.Maps.OwnOps
import Derived.Maps.Views
import Derived.Maps.OwnIn
import Derived.DeepKeys4
namespace Go.Proofs.Ytoelfiendfemaaa
open Go.RowKit Go.Deep
set_option linter.unusedVariables false
set_option linter.unusedSimpArgs false
set_option maxRecDepth 100000

/-- How an element is read: as itself. -/
def held1 (v : Value) : Option (DataW (Option Value) × List MemPlace) := some (.held (some v), [])
/-- Block b holds a map of at most n entries, in which f tells what stands at each key. -/
def MapF (w : World) (k : TypeId) (b n : Nat) (f : Value → Option Value) : Prop :=
  ∃ D : DataW (Option Value), w.ownsMap Try.prog k held1 b n D ∧ Maps.IsMap D ∧ ∀ key kl, keyOf Try.prog k key = some kl → D.atKey kl (.held none) = .held (f key)
theorem mapF_made (w : World) (k : TypeId) : MapF (w.alloc (.map #[] 0)) k w.heap.size 0 (fun _ => none) :=
  ⟨.map [], World.ownsMap_made _ _ _ _, Maps.isMap_empty, fun key kl h => rfl⟩
theorem MapF.keep {w w' : World} {k : TypeId} {b n : Nat} {f : Value → Option Value} (h : MapF w k b n f) (hb : w'.heap[b]? = w.heap[b]?) : MapF w' k b n f := by
  obtain ⟨D, ⟨es, clock, h1, h2⟩, h3⟩ := h
  exact ⟨D, ⟨es, clock, hb.trans h1, h2⟩, h3⟩
theorem MapF.lt {w : World} {k : TypeId} {b n : Nat} {f : Value → Option Value} (h : MapF w k b n f) : b < w.heap.size := by
  obtain ⟨D, h1, _⟩ := h
  exact h1.lt
theorem MapF.obj {w : World} {k : TypeId} {b n : Nat} {f : Value → Option Value} (h : MapF w k b n f) : ∃ es c, w.heap[b]? = some (.map es c) := by
  obtain ⟨D, ⟨es, c, h1, _⟩, _⟩ := h
  exact ⟨es, c, h1⟩
theorem MapF.mono {w : World} {k : TypeId} {b n n' : Nat} {f : Value → Option Value} (h : MapF w k b n f) (hn : n ≤ n') : MapF w k b n' f := by
  obtain ⟨D, h1, h2⟩ := h
  exact ⟨D, h1.mono hn, h2⟩
theorem MapF.congr {w : World} {k : TypeId} {b n : Nat} {f g : Value → Option Value} (h : MapF w k b n f) (hg : ∀ key kl, keyOf Try.prog k key = some kl → f key = g key) : MapF w k b n g := by
  obtain ⟨D, h1, h2, h3⟩ := h
  exact ⟨D, h1, h2, fun key kl hk => by rw [h3 key kl hk, hg key kl hk]⟩
theorem MapF.look {w : World} {k t e : TypeId} {b n : Nat} {f : Value → Option Value} (h : MapF w k b n f) (K : Maps.Keyed Try.prog k) (ht : Try.prog.underlying t = some (.map k e)) {z : Value} (hz : ∀ w, (zeroValue e).run Try.prog w = .ok z w)
    {key : Value} {kl : Go.Lit} (hkey : keyOf Try.prog k key = some kl) (c : Bool) :
    (Instr.lookup t (.map (some b)) key c).run Try.prog w = .ok (if c then .tuple #[(f key).getD z, .bool (f key).isSome] else (f key).getD z) w := by
  obtain ⟨D, ⟨es, clock, hb, F, _, rfl⟩, _, h3⟩ := h
  have hf := h3 key kl hkey
  rcases Maps.fit_look c K ht (hz w) hb F hkey with ⟨hrun, _, hat⟩ | ⟨e0, y, _, _, hrun, hRv, hat, _⟩
  · rw [hat] at hf
    have hf := DataW.held.inj hf
    rw [hrun, ← hf]
    rfl
  · rw [hat] at hf
    have hy : y = (.held (some e0.val), []) := (Option.some.inj hRv).symm
    rw [hy] at hf
    have hf := DataW.held.inj hf
    rw [hrun, ← hf]
    rfl
open Classical in
/-- f with another value at one key. -/
noncomputable def upd (f : Value → Option Value) (k v : Value) : Value → Option Value := fun k' => if k' = k then some v else f k'
theorem upd_same (f : Value → Option Value) (k v : Value) : upd f k v k = some v := by unfold upd; rw [if_pos rfl]
theorem upd_other (f : Value → Option Value) {k k' : Value} (v : Value) (h : k' ≠ k) : upd f k v k' = f k' := by unfold upd; rw [if_neg h]
theorem MapF.store {w : World} {k t e : TypeId} {b n : Nat} {f : Value → Option Value} (h : MapF w k b n f) (K : Maps.Keyed Try.prog k) (ht : Try.prog.underlying t = some (.map k e)) (hn : n < maxLen)
    {key : Value} {kl : Go.Lit} (hkey : keyOf Try.prog k key = some kl) (val : Value) : ∃ w', (Instr.mapUpdate t (.map (some b)) key val).run Try.prog w = .ok () w' ∧ MapF w' k b (n + 1) (upd f key val) ∧ w.grownBy w' (some b) := by
  obtain ⟨D, h1, h2, h3⟩ := h
  obtain ⟨w', hr, h4, h5⟩ := h1.update K ht hn hkey (val := val) (d := .held (some val)) (ps := []) rfl
  refine ⟨w', hr, ⟨_, h4, h2.put _ _, fun key' kl' hk' => ?_⟩, h5⟩
  by_cases e : kl' = kl
  · subst e
    obtain rfl := K.inj hk' hkey
    rw [Maps.atKey_put_same h2 (K.key hkey), upd_same]
  · rw [Maps.atKey_put_other e, h3 key' kl' hk', upd_other _ _ (fun e2 => e (by subst e2; rw [hk'] at hkey; exact Option.some.inj hkey))]
/-- In a walk. -/
theorem wpList_lookF (w : World) {ops : Array Oper} {rest : List Oper} {o : Oper} {a : Act} {Q : Exit → Act → World → Prop} (hw : Region.wanted o (yielded ops a.tmps) = true) (m x : Operand) (t : TypeId) (c : Bool) (hop : o.op = Op.lookup t m x c)
    (b : Nat) (key v : Value) (hm : a.eval m = .map (some b)) (hx : a.eval x = key) (hrun : (Instr.lookup t (.map (some b)) key c).run Try.prog w = .ok v w) (hK : wpList Try.prog ops Q rest (a.put o.dst v) w) : wpList Try.prog ops Q (o :: rest) a w := by
  unfold wpList
  rw [if_pos hw]
  left
  unfold Oper.wp
  simp [execOp, hop, hm, hx, hrun, Result.andThen]
  exact hK

/- ### The keys -/
theorem strKeyed : Maps.Keyed Try.prog 9 := Maps.string_keyed Try.underlying9
theorem str_key {s : ByteArray} (h : s.size ≤ maxLen) : keyOf Try.prog 9 (.string s) = some (.string s.data.toList) := WideMaps.keyOf_string_mk Try.underlying9 h
theorem laidOut12 : laidOutB Try.prog = true := by kernel_rfl
theorem kyRow : (68 : TypeId) < Try.prog.types.size := of_decide_eq_true (by kernel_rfl)
theorem kyWide : (match Try.prog.underlying 68 with | some (.array _ _) | some (.struct _) => true | _ => false) = true := by kernel_rfl
set_option maxRecDepth 100000 in
theorem kyKeyed : Maps.Keyed Try.prog 68 := Maps.Keyed.of_law (deep_law_laid laidOut12 (m := 3) (by omega) kyRow (by kernel_rfl) kyWide)
/-- A key. -/
abbrev kyV (k : Int) (s : ByteArray) (u i : Int) : Value := .agg #[.int .i64 k, .string s, .int .i64 u, .int .i64 i]
theorem ky_key (k : Int) (s : ByteArray) (u i : Int) (hk : (Go.Lit.int .i64 k).wf = true) (hs : s.size ≤ maxLen) (hu : (Go.Lit.int .i64 u).wf = true) (hi : (Go.Lit.int .i64 i).wf = true) : ∃ kl, keyOf Try.prog 68 (kyV k s u i) = some kl := by
  have hp : Try.prog.keyType 68 = true := by kernel_rfl
  have hu0 : Try.prog.underlying 68 = some (.struct (Try.prog.fieldsOf 68)) := by kernel_rfl
  have hf : (Try.prog.fieldsOf 68).toList.map (fun f => (f.name, f.type, f.offset)) = [("kind", 3, 0), ("name", 9, 1), ("parent", 29, 2)] := by kernel_rfl
  have hu1 : Try.prog.underlying 29 = some (.struct (Try.prog.fieldsOf 29)) := by kernel_rfl
  have hf1 : (Try.prog.fieldsOf 29).toList.map (fun f => (f.name, f.type, f.offset)) = [("Unit", 3, 0), ("Node", 3, 1)] := by kernel_rfl
  have h3 : Try.prog.underlying 3 = some (.int .i64) := by kernel_rfl
  have h9 : Try.prog.underlying 9 = some .string := by kernel_rfl
  have c1 : Try.prog.cellsOf 68 = 4 := by kernel_rfl
  have c2 : Try.prog.cellsOf 29 = 2 := by kernel_rfl
  have c3 : Try.prog.cellsOf 3 = 1 := by kernel_rfl
  have c4 : Try.prog.cellsOf 9 = 1 := by kernel_rfl
  have hform : (kyV k s u i).formed Try.prog 68 = true := by simp [Value.formed, hu0, c1]
  have hsz : ∃ d, Try.prog.types.size + 1 = d + 3 := ⟨Try.prog.types.size - 2, by have : 3 ≤ Try.prog.types.size := of_decide_eq_true (by kernel_rfl); omega⟩
  obtain ⟨d, hd⟩ := hsz
  have hcells : (kyV k s u i).cells.toList = [.int .i64 k, .string s, .int .i64 u, .int .i64 i] := by simp [Value.cells]
  suffices h : ∃ ls, Try.prog.keyLits (d + 3) 68 [.int .i64 k, .string s, .int .i64 u, .int .i64 i] = some ls by
    obtain ⟨ls, hls⟩ := h
    refine ⟨.string (keyBytes ls), ?_⟩
    unfold keyOf
    simp only [hu0, hp, hform, hcells, hd, hls, Bool.and_self, if_true, Option.map_some]
  have ha : (Try.prog.fieldsOf 68).all (·.name != "_") = true := by kernel_rfl
  have hb : (Try.prog.fieldsOf 29).all (·.name != "_") = true := by kernel_rfl
  have i1 : ∀ d x, (Go.Lit.int .i64 x).wf = true → Try.prog.keyLits (d + 1) 3 [.int .i64 x] = some [.int .i64 x] := by
    intro d x hx
    unfold Program.keyLits
    simp only [h3, hx, and_self, if_true]
  have s1 : ∀ d, Try.prog.keyLits (d + 1) 9 [.string s] = some [.string s.data.toList] := by
    intro d
    unfold Program.keyLits
    simp only [h9, hs, if_true]
  have r1 : Try.prog.keyLits (d + 2) 29 [.int .i64 u, .int .i64 i] = some [.int .i64 u, .int .i64 i] := by
    unfold Program.keyLits
    simp only [hu1, c2, hb, List.length_cons, List.length_nil, and_self, if_true]
    generalize (Try.prog.fieldsOf 29).toList = fs at hf1 ⊢
    rcases fs with _ | ⟨f1, _ | ⟨f2, _ | ⟨f3, fs⟩⟩⟩
    · cases hf1
    · simp at hf1
    · simp only [List.map_cons, List.map_nil, List.cons.injEq, Prod.mk.injEq, and_true] at hf1
      obtain ⟨⟨a1, a2, a3⟩, b1, b2, b3⟩ := hf1
      simp [a2, a3, b2, b3, c3, i1, hu, hi]
    · simp at hf1
  unfold Program.keyLits
  simp only [hu0, c1, ha, List.length_cons, List.length_nil, and_self, if_true]
  generalize (Try.prog.fieldsOf 68).toList = fs at hf ⊢
  rcases fs with _ | ⟨f1, _ | ⟨f2, _ | ⟨f3, _ | ⟨f4, fs⟩⟩⟩⟩
  · cases hf
  · simp at hf
  · simp at hf
  · simp only [List.map_cons, List.map_nil, List.cons.injEq, Prod.mk.injEq, and_true] at hf
    obtain ⟨⟨a1, a2, a3⟩, ⟨b1, b2, b3⟩, e1, e2, e3⟩ := hf
    simp [a2, a3, b2, b3, e2, e3, c3, c4, c2, i1, s1, r1, hk]
  · simp at hf
end Go.Proofs.Ytoelfiendfemaaa
