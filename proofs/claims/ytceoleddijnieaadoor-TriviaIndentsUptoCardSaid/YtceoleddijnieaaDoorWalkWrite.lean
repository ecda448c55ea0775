/- The walk of the closure of Shift that writes one line. -/
import Derived.Test.YtceoleddijnieaaDoorWalkList
import Derived.Shelf.Strings.BuilderK
namespace Go.Proofs.YtceoleddijnieaaDoor
open Go.RowKit
set_option linter.unusedVariables false
set_option linter.unusedSimpArgs false

/-- The builder in block b holds these bytes; what lay below b and every block that is no row of bytes is as it was. -/
def Wrote (b : Nat) (out : Pl.Bs) (w w' : World) : Prop := Lib.IsBuilderF 39 5 b b (Lib.byteCells out) w' ∧ Below b w w' ∧ Lib.OthersKept 5 (some b) w w'
theorem kept_below {e : TypeId} {b : Option Nat} {w w' : World} (h : Below w.heap.size w w') : Lib.OthersKept e b w w' := fun k o hk _ _ => (h.block k (lt_of_block hk)).trans hk
theorem builder_lt {T e : TypeId} {B b : Nat} {bs : List Value} {w : World} (h : Lib.IsBuilderF T e B b bs w) : b < w.heap.size := by
  rcases h with h | h <;> exact h.lt
theorem builder_later {T e : TypeId} {B b : Nat} {bs : List Value} {w w' : World} (h : Lib.IsBuilderF T e B b bs w) (hb : Below w.heap.size w w') : Lib.IsBuilderF T e B b bs w' := by
  have one : ∀ p, Lib.BuilderAtF T e B b p bs w → Lib.BuilderAtF T e B b p bs w' := by
    intro p h
    have hlt := h.lt
    obtain ⟨h1, v, h2, h3, h4⟩ := h
    exact ⟨h1, v, (hb.block b hlt).trans h2, h3.kept (row := none) ⟨hb.os, hb.tape, hb.output, hb.size, fun k hk _ => hb.block k hk⟩ (by cases h : v.ownBlock with | none => exact .inl rfl | some k => exact .inr (by simp)), h4⟩
  rcases h with h | h
  · exact .inl (one _ h)
  · exact .inr (one _ h)
theorem Wrote.refl {b : Nat} {out : Pl.Bs} {w : World} (h : Lib.IsBuilderF 39 5 b b (Lib.byteCells out) w) : Wrote b out w w := ⟨h, Below.refl _ _, Lib.OthersKept.refl _ _ _⟩
theorem Wrote.then {b : Nat} {o1 o2 : Pl.Bs} {w w1 w2 : World} (h : Wrote b o1 w w1) (k : Wrote b o2 w1 w2) : Wrote b o2 w w2 := ⟨k.1, h.2.1.trans k.2.1, h.2.2.trans k.2.2⟩
theorem Wrote.later {b : Nat} {out : Pl.Bs} {w w1 : World} (h : Lib.IsBuilderF 39 5 b b (Lib.byteCells out) w) (k : Below w.heap.size w w1) : Wrote b out w w1 :=
  ⟨builder_later h k, k.mono (Nat.le_of_lt (builder_lt h)), kept_below k⟩

theorem wstr_any (b : Nat) (acc : Pl.Bs) (s : ByteArray) (w : World) (h : Lib.IsBuilderF 39 5 b b (Lib.byteCells acc) w) (hlen : acc.length + s.size ≤ 140737488355328) :
    Calls Tryd.prog 30 #[.pointer (some ⟨b, 0, none⟩), .string s] w fun e w' => e = .returned (.tuple #[.int .i64 s.size, .nilIface]) ∧ Wrote b (acc ++ s.data.toList) w w' := by
  have := Any.Builder_WriteString_k { Tryd.lays105 with } Tryd.Builder_Extra_105 b b (Lib.byteCells acc) s w h (by rw [Lib.byteCells_length]; exact hlen) (Nat.le_of_lt (builder_lt h))
  refine this.mono fun e w' ⟨he, h1, h2, h3⟩ => ⟨he, .inr ?_, h2, h3⟩
  rw [Lib.strCells_eq, ← Lib.byteCells_append] at h1
  exact h1
theorem repeat_any (q : Int) (w : World) (h0 : 0 ≤ q) (h : q ≤ 140737488355328) :
    Calls Tryd.prog 31 #[.string ⟨#[9]⟩, .int .i64 q] w fun e w' => e = .returned (.string (Pl.mk (Pl.rp q))) ∧ Below w.heap.size w w' := by
  obtain ⟨c, rfl⟩ : ∃ c : Nat, q = c := ⟨q.toNat, by omega⟩
  refine (Tryd.strings_Repeat ⟨#[9]⟩ c w (by omega) (by show 1 * c ≤ _; omega)).mono fun e w' ⟨he, hb⟩ => ⟨?_, hb⟩
  rw [he]
  refine ret_str ?_
  have e1 : Lib.repeatL (⟨#[9]⟩ : ByteArray).data.toList c = Pl.rp c := by
    have := Lib.repeatL_replicate 9 1 c
    rw [Nat.mul_one] at this
    exact this
  rw [e1]; rfl
theorem tabs_is (y : ByteArray) (n : Nat) (h : Pl.tb y.data.toList = n) (hs : y.size ≤ maxLen) (w : World) :
    Calls Tryd.prog 28 #[.string y] w fun e w' => e = .returned (.int .i64 n) ∧ w = w' := h ▸ tabs_any y w hs

theorem rp_size (q : Int) (h : q ≤ 1099511627776) : (Pl.mk (Pl.rp q)).size ≤ 1099511627776 := by
  rw [Pl.mk_size]; unfold Pl.rp; rw [List.length_replicate]; omega

set_option maxHeartbeats 1600000 in
theorem wline_any (x : ByteArray) (d : Int) (a b : Nat) (acc : Pl.Bs) (w : World) (hA : w.heap[a]? = some (.cells #[.int .i64 d] 3 (0, 0))) (hd1 : -60 ≤ d) (hd2 : d ≤ 60) (hx : x.size ≤ 1099511627000) (hacc : acc.length ≤ 70368744177664)
    (h : Lib.IsBuilderF 39 5 b b (Lib.byteCells acc) w) :
    Calls Tryd.prog 29 #[.string x, .pointer (some ⟨b, 0, none⟩), .pointer (some ⟨a, 0, none⟩)] w fun e w' => e = .returned (.tuple #[]) ∧ Wrote b (acc ++ Pl.wr d x.data.toList) w w' := by
  have hc := cell_of_one hA
  obtain ⟨n, hn⟩ : ∃ n, Pl.tb x.data.toList = n := ⟨_, rfl⟩
  have hnx := Pl.tb_le x.data.toList
  rw [← Lib.size_eq, hn] at hnx
  have hxm : x.size ≤ maxLen := by unfold maxLen; omega
  have HT := Lib.hid (tabs_is x n hn hxm)
  obtain ⟨q, hq⟩ : ∃ q : Int, q = max 0 ((n : Int) + d) := ⟨_, rfl⟩
  have hq0 : 0 ≤ q := by omega
  have hq1 : q ≤ 1099511627776 := by omega
  have hrp : Pl.rp ((n : Int) + d) = Pl.rp q := by
    unfold Pl.rp; congr 1
    omega
  have hout : acc ++ Pl.rp q ++ (x.extract n x.size).data.toList = acc ++ Pl.wr d x.data.toList := by
    rw [rest_ext]; unfold Pl.wr rest; rw [hn, hrp, List.append_assoc]
  have hl1 : (Pl.rp q).length ≤ 1099511627776 := by unfold Pl.rp; rw [List.length_replicate]; omega
  have hl2 : (x.extract n x.size).size ≤ 1099511627776 := by rw [Lib.size_eq, rest_ext, rest_len]; omega
  have HR : Hid (∀ w, Calls Tryd.prog 31 #[.string ⟨#[9]⟩, .int .i64 (max 0 ((n : Int) + d))] w fun e w' => e = .returned (.string (Pl.mk (Pl.rp q))) ∧ Below w.heap.size w w') := Lib.hid (fun w => hq ▸ repeat_any q w hq0 (by omega))
  have hr : (Pl.mk (Pl.rp q)).data.toList = Pl.rp q := Pl.mk_list _
  have hrs := rp_size q hq1
  generalize Pl.mk (Pl.rp q) = r at hr hrs HR
  have HO := Lib.hid hout
  have HL := Lib.hid hr
  have HB := Lib.hid h
  clear hout hr h hrp hn hA hq
  go_enter Tryd.func29, Tryd.ntmps29
  go_wp2_with (first
    | (go_at_call 28; refine (HT.out _).mono ?_; rintro e w' ⟨rfl, rfl⟩)
    | (go_at_call 31; refine (HR.out _).mono ?_; rintro e w1 ⟨rfl, hb1⟩))
  have hB := Hid.out HB
  have W1 := Wrote.later hB hb1
  have K1 := Lib.hid W1
  clear W1 hb1
  refine (wstr_any b acc r w1 K1.out.1 (by omega)).mono ?_
  rintro e w2 ⟨rfl, hw2⟩
  have K2 := Lib.hid (K1.out.then hw2)
  clear hw2
  go_wp2_with fail
  refine (wstr_any b (acc ++ r.data.toList) _ w2 K2.out.1 (by rw [List.length_append, HL.out]; omega)).mono ?_
  rintro e w3 ⟨rfl, hw3⟩
  have K3 := Lib.hid (K2.out.then hw3)
  clear hw3
  go_wp2_with fail
  go_end0
  refine ⟨rfl, ?_⟩
  have := K3.out
  rw [HL.out, HO.out] at this
  exact this
end Go.Proofs.YtceoleddijnieaaDoor
