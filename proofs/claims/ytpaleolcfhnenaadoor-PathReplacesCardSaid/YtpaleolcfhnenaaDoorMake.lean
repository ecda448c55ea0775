/- The walks of the laws' number and binary. -/
import Derived.Test.YtpaleolcfhnenaaDoorLaw
import Derived.Test.YtpaleolcfhnenaaDoorAwk0
namespace Go.Proofs.YtpaleolcfhnenaaDoor.Rt
open Go.RowKit
set_option linter.unusedVariables false
set_option linter.unusedSimpArgs false

theorem isT_leaf (w : World) (k : Int) (s : ByteArray) (hs : s.size ≤ maxLen) : IsT w (.node k s [] []) ⟨none, 0, none, 0⟩ :=
  .mk _ _ (fun _ => ⟨none, 0, none, 0⟩) hs (strs_nil _ _ _) (Nat.zero_le _) (.inl rfl) (fun j u hu => by cases hu) (Nat.zero_le _)
theorem number_any (s : ByteArray) (w : World) :
    Calls Tryd.prog 32 #[.string s] w fun e w' => e = .returned (.agg #[.int .i64 17, .string s, .slice none 0 0, .slice none 0 0]) ∧ Below w.heap.size w w' := by
  go_enter Tryd.func32, Tryd.ntmps32
  go_wp2_with fail
  refine bodyPost_ret (v := .agg #[.int .i64 17, .string s, .slice none 0 0, .slice none 0 0]) (by simp [results, Tryd.results32, go_sem]) rfl ⟨rfl, ?_⟩
  exact (Below.refl _ _).alloc (Nat.le_refl _) _
theorem at4_row {w : World} {b o : Nat} {cs : Array Value} {T : TypeId} {k : Int} {s : ByteArray} {gv kv : Value} (h : w.heap[b]? = some (.cells cs T (0, 0))) (h0 : cs[o]? = some (.int .i64 k)) (h1 : cs[o + 1]? = some (.string s)) (h2 : cs[o + 2]? = some gv) (h3 : cs[o + 3]? = some kv) : At4 w b o k s gv kv := by
  refine ⟨?_, ?_, ?_, ?_⟩
  · rw [cell_of_row _ _ _ _ _ _ h]; exact h0
  · rw [cell_of_row _ _ _ _ _ _ h]; exact h1
  · rw [cell_of_row _ _ _ _ _ _ h]; exact h2
  · rw [cell_of_row _ _ _ _ _ _ h]; exact h3
theorem last4 {w W : World} {o1 o2 o3 o4 : Obj} (h : (((w.alloc o1).alloc o2).alloc o3).alloc o4 = W) : W.heap[w.heap.size + 1 + 1 + 1]? = some o4 ∧ Below w.heap.size w W ∧ W.heap.size = w.heap.size + 1 + 1 + 1 + 1 := by
  subst h
  refine ⟨?_, (((box_below w o1).alloc (by simp) _).alloc (by simp; omega) _).alloc (by simp; omega) _, by simp⟩
  have := heap_alloc_new (((w.alloc o1).alloc o2).alloc o3) o4
  simpa using this
/-- The same, where the blocks that it uses are told. -/
def ParenP (P : Nat → Prop) (k : Int) (s : ByteArray) (ks : List Pl.Tr) (n : Nat) (w : World) (e : Ending) (w' : World) : Prop :=
  ∃ g, e = .returned (.agg #[.int .i64 k, .string s, .slice none 0 0, .slice (some ⟨g, 0, none⟩) n n]) ∧ Below w.heap.size w w' ∧ Hid (Tin (fun x => P x ∨ w.heap.size ≤ x ∧ x < w'.heap.size) w' (.node k s [] ks) ⟨none, 0, some ⟨g, 0, none⟩, n⟩)
def Paren (k : Int) (s : ByteArray) (ks : List Pl.Tr) (n : Nat) (w : World) (e : Ending) (w' : World) : Prop :=
  ∃ g, e = .returned (.agg #[.int .i64 k, .string s, .slice none 0 0, .slice (some ⟨g, 0, none⟩) n n]) ∧ Below w.heap.size w w' ∧ Hid (IsT w' (.node k s [] ks) ⟨none, 0, some ⟨g, 0, none⟩, n⟩)
theorem binary_in {P : Nat → Prop} (op : ByteArray) (a b : Pl.Tr) (ra rb : Sl) (w : World) (ha : Tin P w a ra) (hb : Tin P w b rb) (hP : ∀ x, P x → x < w.heap.size) (ho : op.size ≤ maxLen) :
    Calls Tryd.prog 31 #[.string op, .agg #[.int .i64 a.kind, .string a.text, .slice ra.ga a.gaps.length ra.gc, .slice ra.da a.kids.length ra.dc], .agg #[.int .i64 b.kind, .string b.text, .slice rb.ga b.gaps.length rb.gc, .slice rb.da b.kids.length rb.dc]] w (ParenP P 24 op [a, b] 2 w) := by
  have HA := Lib.hid ha
  have HB := Lib.hid hb
  have HO := Lib.hid ho
  clear ha hb ho
  go_enter Tryd.func31, Tryd.ntmps31
  go_wp2_with fail
  refine bodyPost_ret (v := .agg #[.int .i64 24, .string op, .slice none 0 0, .slice (some ⟨w.heap.size + 1 + 1 + 1, 0, none⟩) 2 2]) (by simp [results, Tryd.results31, go_sem]) rfl ?_
  generalize hW : (World.alloc _ _) = W
  obtain ⟨h1, h2, h3⟩ := last4 hW
  clear hW
  have hs : Same P w W := Same.below h2 hP
  refine ⟨_, rfl, h2, Lib.hid (.mk _ _ (fun j => if j = 0 then ra else rb) HO.out (strs_nil _ _ _) (show 2 ≤ maxLen by decide) (.inr ⟨w.heap.size + 1 + 1 + 1, 0, rfl, .inr ⟨by omega, by omega⟩, fun j u hu => ?_⟩) (fun j u hu => ?_) (Nat.le_refl _))⟩
  · match j, hu with
    | 0, hu => cases hu; exact at4_row h1 rfl rfl rfl rfl
    | 1, hu => cases hu; exact at4_row h1 rfl rfl rfl rfl
    | j + 2, hu => cases hu
  · match j, hu with
    | 0, hu => cases hu; exact HA.out.keep hs fun x hx => .inl hx
    | 1, hu => cases hu; exact HB.out.keep hs fun x hx => .inl hx
    | j + 2, hu => cases hu
theorem binary_any (op : ByteArray) (a b : Pl.Tr) (ra rb : Sl) (w : World) (ha : IsT w a ra) (hb : IsT w b rb) (ho : op.size ≤ maxLen) :
    Calls Tryd.prog 31 #[.string op, .agg #[.int .i64 a.kind, .string a.text, .slice ra.ga a.gaps.length ra.gc, .slice ra.da a.kids.length ra.dc], .agg #[.int .i64 b.kind, .string b.text, .slice rb.ga b.gaps.length rb.gc, .slice rb.da b.kids.length rb.dc]] w (Paren 24 op [a, b] 2 w) := by
  refine (binary_in op a b ra rb w ha hb (fun _ h => h) ho).mono ?_
  rintro e w' ⟨g, he, h1, h2⟩
  refine ⟨g, he, h1, Lib.hid (h2.out.isT fun x hx => ?_)⟩
  rcases hx with hx | hx
  · exact Nat.lt_of_lt_of_le hx h1.size
  · exact hx.2
end Go.Proofs.YtpaleolcfhnenaaDoor.Rt
