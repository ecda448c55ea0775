/- The walks of gapOf, joins and source's write. -/
import Derived.Test.YtiaajpdcacdngaaGreatDoorWNodeS
import Derived.Test.YtiaajpdcacdngaaGreatDoorWFresh
import Derived.Test.YtiaajpdcacdngaaGreatDoorBGlue
import Derived.Test.YtiaajpdcacdngaaGreatDoorBBuild
import Derived.Test.YtiaajpdcacdngaaGreatDoorPMore
import Derived.Test.YtiaajpdcacdngaaGreatDoorWStepW
import Derived.Laws.EntriesVeiled
namespace Go.Proofs.YtiaajpdcacdngaaGreatDoor
open Go.RowKit
set_option linter.unusedVariables false
set_option linter.unusedSimpArgs false

/-- The gap before a word, as gapOf has it. -/
theorem gapW_is (e : Ev) : Pl.gapW e.wd = if e.g.length = 0 then e.gap else e.g.getD e.own ⟨#[]⟩ := rfl
set_option maxRecDepth 100000 in
set_option maxHeartbeats 800000 in
theorem gapOf_any (b o own n gc : Nat) (gap t x : ByteArray) (ga : Option Addr) (g : List ByteArray) (w : World) (hc : w.cell? ⟨b, o + 2, none⟩ = some (.slice ga n gc)) (hn : n = g.length) (hs : Strs (fun b => b < w.heap.size) w ga g) (ho : g = [] ∨ own < g.length) (hx : x = if g.length = 0 then gap else g.getD own ⟨#[]⟩) :
    Calls Tryz.prog 55 #[.agg #[.pointer (some ⟨b, o, none⟩), .int .i64 (own : Nat), .string gap, .string t]] w fun e w' => e = .returned (.string x) ∧ Below w.heap.size w w' := by
  have hb := World.block_lt_of_cell? w _ hc
  have B0 := Lib.hid (box_low w (.cells #[.pointer (some ⟨b, o, none⟩), .int .i64 (own : Nat), .string gap, .string t] 46))
  have c2 : (w.alloc (.cells #[.pointer (some ⟨b, o, none⟩), .int .i64 (own : Nat), .string gap, .string t] 46)).cell? ⟨b, o + 2, none⟩ = some (.slice ga n gc) := (World.cell?_of_block (w := w) (a := ⟨b, o + 2, none⟩) (Below.heap_alloc w _ b hb)).trans hc
  rcases Nat.eq_zero_or_pos n with h0 | h0
  · subst h0
    rw [if_pos hn.symm] at hx
    subst hx
    clear hn hs ho hc
    go_enter Tryz.func55, Tryz.ntmps55
    go_wp2_with fail
    go_ret
    exact ⟨rfl, B0.out⟩
  · have hog : own < g.length := by
      rcases ho with h | h
      · rw [h] at hn; simp at hn; omega
      · exact h
    rw [if_neg (by omega), List.getD_eq_getElem?_getD, List.getElem?_eq_getElem hog] at hx
    obtain ⟨hl, _, hs⟩ := hs
    have hown : own < n := by omega
    unfold maxLen at hl
    have hnb : n ≤ 9223372036854775807 := by omega
    have hne : ((n : Int) == 0) = false := beq_eq_false_iff_ne.2 (by omega)
    rcases hs with hs | ⟨b2, o2, rfl, hb2, hat⟩
    · rw [hs] at hog; simp at hog
    have cx0 := hat own _ (List.getElem?_eq_getElem hog)
    have hxe : x = g[own] := hx
    rw [← hxe] at cx0
    have cx : (w.alloc (.cells #[.pointer (some ⟨b, o, none⟩), .int .i64 (own : Nat), .string gap, .string t] 46)).cell? ⟨b2, o2 + own, none⟩ = some (.string x) := (World.cell?_of_block (w := w) (a := ⟨b2, o2 + own, none⟩) (Below.heap_alloc w _ b2 hb2)).trans cx0
    clear hn ho hc hx hxe cx0 hat hl hog
    obtain ⟨W, hW⟩ : ∃ W, W = w.alloc (.cells #[.pointer (some ⟨b, o, none⟩), .int .i64 (own : Nat), .string gap, .string t] 46) := ⟨_, rfl⟩
    go_enter Tryz.func55, Tryz.ntmps55
    go_wp2_with fail
    go_quiet (fail)
    go_wp2_with fail
    go_ret
    exact ⟨rfl, B0.out.trans ((below_drewN _ nq).mono B0.out.size)⟩
theorem head47 (l : Pl.Bs) : Lib.hasPrefix l [47] = (l.head? == some 47) := by
  cases l with
  | nil => rfl
  | cons c r => rw [Bool.eq_iff_iff]; simp [Lib.hasPrefix]; exact eq_comm
theorem pre_is (s p : ByteArray) (b : Bool) (h : Lib.hasPrefix s.data.toList p.data.toList = b) (w : World) :
    Calls Tryz.prog 77 #[.string s, .string p] w fun e w' => e = .returned (.bool b) ∧ w = w' :=
  (Tryz.strings_HasPrefix s p w).mono fun e w' ⟨he, hw⟩ => ⟨by rw [he]; exact ret_bool h, hw.symm⟩
set_option maxHeartbeats 800000 in
theorem joins_any (last gap next : ByteArray) (w : World) (j : Bool) (hj : Pl.join8 last gap next = j) (hl : last.size ≤ maxLen) :
    Calls Tryz.prog 56 #[.string last, .string gap, .string next] w fun e w' => e = .returned (.bool j) ∧ w = w' := by
  unfold Pl.join8 at hj
  rcases Nat.eq_zero_or_pos gap.size with h0 | h0
  · rw [if_pos h0] at hj
    obtain rfl := Pl.size_zero gap h0
    have HC := Lib.hid (Tk.glue_is last next j hj w hl)
    clear hj h0 hl
    go_enter Tryz.func56, Tryz.ntmps56
    go_wp2_with (go_at_call 76; refine HC.out.mono ?_; rintro e w' ⟨rfl, rfl⟩)
    go_ret
    exact ⟨rfl, rfl⟩
  · rw [if_neg (by omega)] at hj
    obtain ⟨n1, n2, n3⟩ := Pl.not_empty gap h0
    have HC := Lib.hid (pre_is gap ⟨#[47]⟩ (gap.data.toList.head? == some 47) (head47 _) w)
    obtain ⟨hb, hhb⟩ : ∃ hb, hb = (gap.data.toList.head? == some 47) := ⟨_, rfl⟩
    rw [← hhb] at HC hj
    by_cases h47 : last.data.toList = [47]
    · obtain rfl : last = ⟨#[47]⟩ := Pl.list_ext h47
      have hjj : j = hb := by rw [← hj]; simp
      subst hjj
      clear hj h47 hl hhb
      go_enter Tryz.func56, Tryz.ntmps56
      go_wp2_with (go_at_call 77; refine HC.out.mono ?_; rintro e w' ⟨rfl, rfl⟩)
      go_ret
      exact ⟨rfl, rfl⟩
    · have hb7 : (last.data.toList == [47]) = false := by simpa using h47
      have hb8 : (last.toList == [47]) = false := by rw [Pl.toList_eq]; exact hb7
      rw [hb7, Bool.false_and] at hj
      subst hj
      clear h47 hl hhb
      go_enter Tryz.func56, Tryz.ntmps56
      go_wp2_with fail
      go_ret
      exact ⟨rfl, rfl⟩
end Go.Proofs.YtiaajpdcacdngaaGreatDoor

namespace Go.Proofs.YtiaajpdcacdngaaGreatDoor
open Go.RowKit
set_option linter.unusedVariables false
set_option linter.unusedSimpArgs false

/-- A row of bytes. -/
def IsRow (w : World) (x : Nat) : Prop := ∃ c fz, w.heap[x]? = some (.cells c 5 fz)
/-- source's variables: the Builder in block B, behind it the size, write, the last word. -/
structure Src (B : Nat) (acc : Pl.Bs) (last : ByteArray) (w : World) : Prop where
  b : Tk.BHolds B acc w
  s : w.heap[B + 1]? = some (.cells #[.int .i64 acc.length] 3 (0, 0))
  f : w.heap[B + 2]? = some (.cells #[.func (.func 52) #[] #[.pointer (some ⟨B + 1, 0, none⟩), .pointer (some ⟨B, 0, none⟩)]] 73 (0, 0))
  l : w.heap[B + 3]? = some (.cells #[.string last] 9 (0, 0))
/-- The blocks that source's steps may write. -/
def Zs (B : Nat) (w : World) : Nat → Prop := fun x => x = B ∨ x = B + 1 ∨ x = B + 3 ∨ (B ≤ x ∧ IsRow w x)
structure Fr (B : Nat) (w w' : World) : Prop where
  a : Apart (Zs B w) w w'
  z : ∀ x, Zs B w' x → Zs B w x ∨ w.heap.size ≤ x
theorem Fr.trans {B : Nat} {a b c : World} (h : Fr B a b) (k : Fr B b c) : Fr B a c :=
  ⟨h.a.trans k.a h.z, fun x hx => by
    rcases k.z x hx with h1 | h1
    · exact h.z x h1
    · have := h.a.size; right; omega⟩
theorem Fr.of {B : Nat} {w w' : World} (h : Below w.heap.size w w') : Fr B w w' := by
  refine ⟨.of h, fun x hx => ?_⟩
  rcases Nat.lt_or_ge x w.heap.size with hlt | hge
  · left
    rcases hx with e | e | e | ⟨h1, c, fz, h2⟩
    · exact .inl e
    · exact .inr (.inl e)
    · exact .inr (.inr (.inl e))
    · exact .inr (.inr (.inr ⟨h1, c, fz, (h.block x hlt).symm.trans h2⟩))
  · exact .inr hge
theorem Fr.kept {B : Nat} {w w' : World} (hb : Below B w w') (hB : B < w.heap.size) (ho : Lib.OthersKept 5 (some B) w w') : Fr B w w' := by
  have one : ∀ x, x < w.heap.size → ¬ (x = B ∨ (B ≤ x ∧ IsRow w x)) → w'.heap[x]? = w.heap[x]? := fun x hx hn => by
    rcases Nat.lt_or_ge x B with hlt | hge
    · exact hb.block x hlt
    · have e := Array.getElem?_eq_getElem hx
      rw [e]
      refine ho x _ e (fun h => hn (.inl (Option.some.inj h))) (fun c fz h => hn (.inr ⟨hge, c, fz, by rw [e, h]⟩))
  refine ⟨⟨hb.os, hb.tape, hb.output, hb.size, fun x hx hn => one x hx (fun h => hn (h.elim .inl fun h => .inr (.inr (.inr h))))⟩, fun x hx => ?_⟩
  rcases Nat.lt_or_ge x w.heap.size with hlt | hge
  · left
    rcases hx with e | e | e | ⟨h1, c, fz, h2⟩
    · exact .inl e
    · exact .inr (.inl e)
    · exact .inr (.inr (.inl e))
    · by_cases hr : x = B ∨ (B ≤ x ∧ IsRow w x)
      · exact hr.elim .inl fun h => .inr (.inr (.inr h))
      · exact .inr (.inr (.inr ⟨h1, c, fz, (one x hlt hr).symm.trans h2⟩))
  · exact .inr hge
theorem Fr.set {B x : Nat} {w : World} {v u : Value} {T : TypeId} (h : w.heap[x]? = some (.cells #[v] T (0, 0))) (hx : x = B + 1 ∨ x = B + 3) (hT : T ≠ 5) : Fr B w (w.setCell ⟨x, 0, none⟩ u) := by
  refine ⟨⟨rfl, rfl, rfl, by simp, fun y hy hn => Below.heap_setCell _ _ _ _ (fun e => hn ?_)⟩, fun y hy => ?_⟩
  · rcases hx with hx | hx
    · exact .inr (.inl (e.trans hx))
    · exact .inr (.inr (.inl (e.trans hx)))
  · left
    by_cases e : y = x
    · rcases hx with hx | hx
      · exact .inr (.inl (e.trans hx))
      · exact .inr (.inr (.inl (e.trans hx)))
    · rcases hy with e1 | e1 | e1 | ⟨h1, c, fz, h2⟩
      · exact .inl e1
      · exact .inr (.inl e1)
      · exact .inr (.inr (.inl e1))
      · exact .inr (.inr (.inr ⟨h1, c, fz, by rw [Below.heap_setCell _ _ _ _ e] at h2; exact h2⟩))
/-- A block that is neither the Builder nor a row of bytes stays as it is. -/
theorem Fr.far {B x : Nat} {w w' : World} {o : Obj} (h : Fr B w w') (hx : w.heap[x]? = some o) (h1 : x ≠ B) (h2 : x ≠ B + 1) (h3 : x ≠ B + 3) (ho : ∀ c fz, o ≠ .cells c 5 fz) : w'.heap[x]? = some o := by
  rw [h.a.block x (lt_blk hx) ?_]
  · exact hx
  · rintro (e | e | e | ⟨_, c, fz, e⟩)
    · exact h1 e
    · exact h2 e
    · exact h3 e
    · rw [hx] at e; exact ho c fz (Option.some.inj e)
theorem holds_other {b : Nat} {acc : Pl.Bs} {w : World} {x : Nat} {v u : Value} {T : TypeId} (h : Tk.BHolds b acc w) (hx : w.heap[x]? = some (.cells #[v] T (0, 0))) (hT : T ≠ 5) (hxb : x ≠ b) : Tk.BHolds b acc (w.setCell ⟨x, 0, none⟩ u) := by
  have one : ∀ p, Lib.BuilderAtF 68 5 b b p (Lib.byteCells acc) w → Lib.BuilderAtF 68 5 b b p (Lib.byteCells acc) (w.setCell ⟨x, 0, none⟩ u) := by
    intro p h
    obtain ⟨h1, v2, h2, h3, h4⟩ := h
    have hne : v2.ownBlock ≠ some x := fun e => by
      rcases h3.2 with ⟨rfl, _⟩ | ⟨g, cap, cur, fz, rfl, _, hg, _⟩
      · simp [Value.ownBlock] at e
      · have e : g = x := by simpa [Value.ownBlock] using e
        subst e
        rw [hx] at hg
        injection hg with hg
        injection hg with _ hg _
        exact hT hg
    exact ⟨h1, v2, (Below.heap_setCell _ _ _ _ (Ne.symm hxb)).trans h2, h3.kept (row := some x) ⟨rfl, rfl, rfl, by simp, fun k hk hn => Below.heap_setCell _ _ _ _ (fun e => hn (by rw [e]))⟩ (.inr hne), h4⟩
  rcases h with h | h
  · exact .inl (one _ h)
  · exact .inr (one _ h)
theorem Src.later {B : Nat} {acc : Pl.Bs} {last : ByteArray} {w w' : World} (h : Src B acc last w) (hb : Below w.heap.size w w') : Src B acc last w' :=
  ⟨Tk.holds_later h.b hb, (hb.block _ (lt_blk h.s)).trans h.s, (hb.block _ (lt_blk h.f)).trans h.f, (hb.block _ (lt_blk h.l)).trans h.l⟩
theorem src_sized {B : Nat} {acc : Pl.Bs} {last : ByteArray} {w : World} (h : Src B acc last w) (n : Int) : Tk.BHolds B acc (w.setCell ⟨B + 1, 0, none⟩ (.int .i64 n)) ∧ (w.setCell ⟨B + 1, 0, none⟩ (.int .i64 n)).heap[B + 1]? = some (.cells #[.int .i64 n] 3 (0, 0)) := ⟨holds_other h.b h.s (by decide) (by omega), one_setCell h.s⟩
set_option maxHeartbeats 800000 in
theorem write_any (B : Nat) (acc : Pl.Bs) (last s : ByteArray) (w : World) (h : Src B acc last w) (hl : acc.length + s.size ≤ 65536) :
    Calls Tryz.prog 52 #[.string s, .pointer (some ⟨B + 1, 0, none⟩), .pointer (some ⟨B, 0, none⟩)] w fun e w' => e = .returned (.tuple #[]) ∧ Src B (acc ++ s.data.toList) last w' ∧ Fr B w w' := by
  have HS := Lib.hid h
  have c1 := cell_of_one h.s
  have f1 := free_of_one h.s
  have hB : B < w.heap.size := Tk.holds_lt h.b
  obtain ⟨n, hn⟩ : ∃ n, n = acc.length := ⟨_, rfl⟩
  rw [← hn] at c1 hl
  have HN := Lib.hid hn
  have hlt1 := lt_blk h.s
  obtain ⟨q1, q2⟩ := src_sized h ((n : Int) + (s.size : Int))
  have c2 := cell_of_one q2
  have d1 : decide (((n : Int) + (s.size : Int)) ≤ 65536) = true := decide_eq_true (by omega)
  have Q2 := Lib.hid q2
  have HW := Lib.hid (Tk.wstr_any B acc s (w.setCell ⟨B + 1, 0, none⟩ (.int .i64 ((n : Int) + (s.size : Int)))) q1 (by rw [← hn]; omega))
  clear h hn q1 q2
  go_enter Tryz.func52, Tryz.ntmps52
  go_wp2_with (go_at_call 53; refine HW.out.mono ?_; rintro e w2 ⟨rfl, h2, hb2, ho2⟩)
  go_end0
  have hset : Fr B w (w.setCell ⟨B + 1, 0, none⟩ (.int .i64 ((n : Int) + (s.size : Int)))) := Fr.set HS.out.s (.inl rfl) (by decide)
  have hk : Fr B (w.setCell ⟨B + 1, 0, none⟩ (.int .i64 ((n : Int) + (s.size : Int)))) w2 := Fr.kept hb2 (by simp; omega) ho2
  have hf0 : (w.setCell ⟨B + 1, 0, none⟩ (.int .i64 ((n : Int) + (s.size : Int)))).heap[B + 2]? = _ := (Below.heap_setCell _ _ _ _ (by show B + 2 ≠ B + 1; omega)).trans HS.out.f
  have hl0 : (w.setCell ⟨B + 1, 0, none⟩ (.int .i64 ((n : Int) + (s.size : Int)))).heap[B + 3]? = _ := (Below.heap_setCell _ _ _ _ (by show B + 3 ≠ B + 1; omega)).trans HS.out.l
  refine ⟨rfl, ⟨h2, ?_, ho2 _ _ hf0 (by simp) (by intro c fz; simp), ho2 _ _ hl0 (by simp) (by intro c fz; simp)⟩, hset.trans hk⟩
  have := ho2 _ _ Q2.out (by simp) (by intro c fz; simp)
  rw [this, List.length_append, ← HN.out, ← Lib.size_eq]
  simp
set_option maxRecDepth 100000 in
set_option maxHeartbeats 1600000 in
theorem src2_yes (B b o : Nat) (acc : Pl.Bs) (own : Int) (last gap x t : ByteArray) (w : World) (h : Src B acc last w) (hll : last.size ≤ maxLen) (hl : acc.length + 1 + x.size + t.size ≤ 65536) (hj : Pl.join8 last x t = true)
    (hg : ∀ w', Below w.heap.size w w' → Calls Tryz.prog 55 #[.agg #[.pointer (some ⟨b, o, none⟩), .int .i64 own, .string gap, .string t]] w' fun e w2 => e = .returned (.string x) ∧ Below w'.heap.size w' w2) :
    Calls Tryz.prog 54 #[.agg #[.pointer (some ⟨b, o, none⟩), .int .i64 own, .string gap, .string t], .pointer (some ⟨B + 3, 0, none⟩), .pointer (some ⟨B + 2, 0, none⟩)] w fun e w' => e = .returned (.tuple #[]) ∧ Src B (acc ++ [32] ++ x.data.toList ++ t.data.toList) t w' ∧ Fr B w w' := by
  have HG := Lib.hid hg
  have B0 := Lib.hid (box_low w (.cells #[.pointer (some ⟨b, o, none⟩), .int .i64 own, .string gap, .string t] 46))
  have S0 := Lib.hid (h.later (box_low w (.cells #[.pointer (some ⟨b, o, none⟩), .int .i64 own, .string gap, .string t] 46)))
  have hlt := lt_blk h.l
  have HJ := Lib.hid (fun w => joins_any last x t w true hj hll)
  have X0 := Lib.hid (heap_alloc_new w (.cells #[.pointer (some ⟨b, o, none⟩), .int .i64 own, .string gap, .string t] 46))
  clear h hj hg
  go_enter Tryz.func54, Tryz.ntmps54
  go_wp2_with (first
    | (go_at_call 52; have g := S4; clear g; refine (write_any B _ last t w4 S4.out (by rw [List.length_append, List.length_append, ← Lib.size_eq]; show acc.length + 1 + _ + _ ≤ _; omega)).mono ?_; rintro e w5 ⟨rfl, h5, f5⟩; have hx5 := Fr.far f5 X4.out (by omega) (by omega) (by omega) (by intro c fz; simp); have p5 := (cell_of_row w5 w.heap.size 3 _ _ _ hx5); have l5 := cell_of_one h5.l; have k5 := cell_of_one h5.f; have z5 := free_of_one h5.l; have S5 := Lib.hid h5; have X5 := Lib.hid hx5; have F5 := Lib.hid (F4.out.trans f5); clear h5 f5 hx5)
    | (go_at_call 52; have g := S3; clear g; refine (write_any B _ last x w3 S3.out (by rw [List.length_append]; show acc.length + 1 + _ ≤ _; omega)).mono ?_; rintro e w4 ⟨rfl, h4, f4⟩; have hx4 := Fr.far f4 X3.out (by omega) (by omega) (by omega) (by intro c fz; simp); have p4 := (cell_of_row w4 w.heap.size 3 _ _ _ hx4); have l4 := cell_of_one h4.l; have k4 := cell_of_one h4.f; have S4 := Lib.hid h4; have X4 := Lib.hid hx4; have F4 := Lib.hid (F3.out.trans f4); clear h4 f4 hx4)
    | (go_at_call 52; have g := S2; clear g; refine (write_any B _ last ⟨#[32]⟩ w2 S2.out (by show acc.length + 1 ≤ _; omega)).mono ?_; rintro e w3 ⟨rfl, h3, f3⟩; have hx3 := Fr.far f3 X2.out (by omega) (by omega) (by omega) (by intro c fz; simp); have p3 := (cell_of_row w3 w.heap.size 3 _ _ _ hx3); have l3 := cell_of_one h3.l; have k3 := cell_of_one h3.f; have S3 := Lib.hid h3; have X3 := Lib.hid hx3; have F3 := Lib.hid (F2.out.trans f3); clear h3 f3 hx3)
    | (go_at_call 56; refine (HJ.out _).mono ?_; rintro e w' ⟨rfl, rfl⟩)
    | (go_at_call 55; refine (HG.out _ B0.out).mono ?_; rintro e w2 ⟨rfl, hb2⟩; have hx2 := (hb2.block w.heap.size (by simp)).trans X0.out; have p2 := (cell_of_row w2 w.heap.size 3 _ _ _ hx2); have h2 := S0.out.later hb2; have l2 := cell_of_one h2.l; have k2 := cell_of_one h2.f; have S2 := Lib.hid h2; have X2 := Lib.hid hx2; have F2 : Hid (Fr B w w2) := Lib.hid (Fr.of (B0.out.trans (hb2.mono B0.out.size))); clear hb2 hx2 h2))
  go_end0
  have hs := S5.out
  refine ⟨rfl, ⟨holds_other hs.b hs.l (by decide) (by omega), (Below.heap_setCell _ _ _ _ (by show B + 1 ≠ B + 3; omega)).trans hs.s, (Below.heap_setCell _ _ _ _ (by show B + 2 ≠ B + 3; omega)).trans hs.f, one_setCell hs.l⟩, F5.out.trans (Fr.set hs.l (.inr rfl) (by decide))⟩
set_option maxRecDepth 100000 in
set_option maxHeartbeats 1600000 in
theorem src2_no (B b o : Nat) (acc : Pl.Bs) (own : Int) (last gap x t : ByteArray) (w : World) (h : Src B acc last w) (hll : last.size ≤ maxLen) (hl : acc.length + x.size + t.size ≤ 65536) (hj : Pl.join8 last x t = false)
    (hg : ∀ w', Below w.heap.size w w' → Calls Tryz.prog 55 #[.agg #[.pointer (some ⟨b, o, none⟩), .int .i64 own, .string gap, .string t]] w' fun e w2 => e = .returned (.string x) ∧ Below w'.heap.size w' w2) :
    Calls Tryz.prog 54 #[.agg #[.pointer (some ⟨b, o, none⟩), .int .i64 own, .string gap, .string t], .pointer (some ⟨B + 3, 0, none⟩), .pointer (some ⟨B + 2, 0, none⟩)] w fun e w' => e = .returned (.tuple #[]) ∧ Src B (acc ++ x.data.toList ++ t.data.toList) t w' ∧ Fr B w w' := by
  have HG := Lib.hid hg
  have B0 := Lib.hid (box_low w (.cells #[.pointer (some ⟨b, o, none⟩), .int .i64 own, .string gap, .string t] 46))
  have S0 := Lib.hid (h.later (box_low w (.cells #[.pointer (some ⟨b, o, none⟩), .int .i64 own, .string gap, .string t] 46)))
  have hlt := lt_blk h.l
  have HJ := Lib.hid (fun w => joins_any last x t w false hj hll)
  have X0 := Lib.hid (heap_alloc_new w (.cells #[.pointer (some ⟨b, o, none⟩), .int .i64 own, .string gap, .string t] 46))
  clear h hj hg
  go_enter Tryz.func54, Tryz.ntmps54
  go_wp2_with (first
    | (go_at_call 52; have g := S3; clear g; refine (write_any B _ last t w3 S3.out (by rw [List.length_append, ← Lib.size_eq]; omega)).mono ?_; rintro e w4 ⟨rfl, h4, f4⟩; have hx4 := Fr.far f4 X3.out (by omega) (by omega) (by omega) (by intro c fz; simp); have p4 := (cell_of_row w4 w.heap.size 3 _ _ _ hx4); have l4 := cell_of_one h4.l; have k4 := cell_of_one h4.f; have z4 := free_of_one h4.l; have S4 := Lib.hid h4; have X4 := Lib.hid hx4; have F4 := Lib.hid (F3.out.trans f4); clear h4 f4 hx4)
    | (go_at_call 52; have g := S2; clear g; refine (write_any B _ last x w2 S2.out (by omega)).mono ?_; rintro e w3 ⟨rfl, h3, f3⟩; have hx3 := Fr.far f3 X2.out (by omega) (by omega) (by omega) (by intro c fz; simp); have p3 := (cell_of_row w3 w.heap.size 3 _ _ _ hx3); have l3 := cell_of_one h3.l; have k3 := cell_of_one h3.f; have S3 := Lib.hid h3; have X3 := Lib.hid hx3; have F3 := Lib.hid (F2.out.trans f3); clear h3 f3 hx3)
    | (go_at_call 56; refine (HJ.out _).mono ?_; rintro e w' ⟨rfl, rfl⟩)
    | (go_at_call 55; refine (HG.out _ B0.out).mono ?_; rintro e w2 ⟨rfl, hb2⟩; have hx2 := (hb2.block w.heap.size (by simp)).trans X0.out; have p2 := (cell_of_row w2 w.heap.size 3 _ _ _ hx2); have h2 := S0.out.later hb2; have l2 := cell_of_one h2.l; have k2 := cell_of_one h2.f; have S2 := Lib.hid h2; have X2 := Lib.hid hx2; have F2 : Hid (Fr B w w2) := Lib.hid (Fr.of (B0.out.trans (hb2.mono B0.out.size))); clear hb2 hx2 h2))
  go_end0
  have hs := S4.out
  refine ⟨rfl, ⟨holds_other hs.b hs.l (by decide) (by omega), (Below.heap_setCell _ _ _ _ (by show B + 1 ≠ B + 3; omega)).trans hs.s, (Below.heap_setCell _ _ _ _ (by show B + 2 ≠ B + 3; omega)).trans hs.f, one_setCell hs.l⟩, F4.out.trans (Fr.set hs.l (.inr rfl) (by decide))⟩

/- ### source -/
structure InvS (W0 : World) (D : List Ev) (w : World) : Prop where
  low : Below W0.heap.size W0 w
  s : Src W0.heap.size (Pl.src ⟨#[]⟩ (D.map Ev.wd)) (Pl.lastW ⟨#[]⟩ (D.map Ev.wd)) w
theorem zs_ge {B : Nat} {w : World} : ∀ x, Zs B w x → B ≤ x := fun x hx => by
  rcases hx with e | e | e | ⟨h, _⟩ <;> omega
theorem zs_part {B : Nat} {acc : Pl.Bs} {last : ByteArray} {w : World} (h : Src B acc last w) : ∀ (x : Nat) (c : Array Value) (fz : Nat × Nat), w.heap[x]? = some (.cells c 89 fz) → ¬ Zs B w x := fun x c fz hx hz => by
  have no : ∀ {T : TypeId} {d : Array Value} {f2 : Nat × Nat}, w.heap[x]? = some (.cells d T f2) → T ≠ 89 → False := fun h2 hT => by
    rw [h2] at hx
    injection hx with hx
    injection hx with _ hx _
    exact hT hx
  rcases hz with rfl | rfl | rfl | ⟨_, d, f2, h2⟩
  · rcases h.b with ⟨_, v, h2, _⟩ | ⟨_, v, h2, _⟩
    · exact no h2 (by decide)
    · exact no h2 (by decide)
  · exact no h.s (by decide)
  · exact no h.l (by decide)
  · exact no h2 (by decide)
theorem last_le (l : List Pl.Wd) (h : ∀ w ∈ l, w.text.size ≤ 1000) : ∀ last : ByteArray, last.size ≤ 1000 → (Pl.lastW last l).size ≤ 1000 := by
  induction l with
  | nil => intro last hl; exact hl
  | cons w l ih => intro last hl; exact ih (fun a ha => h a (List.mem_cons_of_mem _ ha)) _ (h w (List.mem_cons_self ..))
theorem stepS (W0 : World) (A : LT) (b o : Nat) (hfix : FixG W0 A b o) (hwf : Pl.firstE (er A) = 0) (hz : Pl.sz (er A) ≤ 1000000) (hlen : (Pl.source (er A)).length ≤ 65536) :
    Step 54 (fun v => #[v, .pointer (some ⟨W0.heap.size + 3, 0, none⟩), .pointer (some ⟨W0.heap.size + 2, 0, none⟩)]) (evL A b o 0 ⟨#[]⟩) (InvS W0) where
  keep := fun D w w' h hb => ⟨h.low.trans (hb.mono h.low.size), h.s.later hb⟩
  call := fun D e hp w h => by
    have hmem : ∀ x ∈ D ++ [e], x ∈ evL A b o 0 ⟨#[]⟩ := fun x hx => hp.subset hx
    have he := hmem e (by simp)
    obtain ⟨g1, g2, g3⟩ := ev_gaps (FixG.later h.low hfix) e he
    have hown := ev_own A b o 0 ⟨#[]⟩ hwf hz e he
    have htx : ∀ x ∈ evL A b o 0 ⟨#[]⟩, x.text.size ≤ 32 := fun x hx => by
      refine Pl.words_le (er A) hwf hz x.text ?_
      rw [← ev_texts A b o]
      exact List.mem_map_of_mem hx
    have hlast : (Pl.lastW ⟨#[]⟩ (D.map Ev.wd)).size ≤ maxLen := by
      have := last_le (D.map Ev.wd) (fun w hw => by
        obtain ⟨x, hx, rfl⟩ := List.mem_map.1 hw
        have := htx x (hmem x (List.mem_append_left _ hx))
        show x.text.size ≤ 1000; omega) ⟨#[]⟩ (by decide)
      unfold maxLen; omega
    have hsl : (Pl.src ⟨#[]⟩ ((D ++ [e]).map Ev.wd)).length ≤ 65536 := by
      obtain ⟨E, hE⟩ := hp
      have : Pl.source (er A) = Pl.src ⟨#[]⟩ ((D ++ [e]).map Ev.wd) ++ Pl.src (Pl.lastW ⟨#[]⟩ ((D ++ [e]).map Ev.wd)) (E.map Ev.wd) := by
        unfold Pl.source
        rw [← evL_wd A b o 0 ⟨#[]⟩, ← hE, List.map_append, Pl.src_append]
      rw [this, List.length_append] at hlen
      omega
    have hst : Pl.src ⟨#[]⟩ ((D ++ [e]).map Ev.wd) = Pl.src ⟨#[]⟩ (D.map Ev.wd) ++ Pl.piece (Pl.lastW ⟨#[]⟩ (D.map Ev.wd)) e.wd := by
      rw [List.map_append, Pl.src_append]
      show _ ++ (Pl.piece _ e.wd ++ []) = _
      rw [List.append_nil]
    have hla : Pl.lastW ⟨#[]⟩ ((D ++ [e]).map Ev.wd) = e.text := by rw [List.map_append, Pl.lastW_append]; rfl
    have hgap : ∀ w', Below w.heap.size w w' → Calls Tryz.prog 55 #[.agg #[.pointer (some ⟨e.b, e.o, none⟩), .int .i64 (e.own : Nat), .string e.gap, .string e.text]] w' fun en w2 => en = .returned (.string (Pl.gapW e.wd)) ∧ Below w'.heap.size w' w2 := fun w' hb =>
      gapOf_any e.b e.o e.own e.g.length e.r.gc e.gap e.text _ e.r.ga e.g w' ((hb.cell (p := ⟨e.b, e.o + 2, none⟩) g3).trans g1) rfl (g2.later hb) hown (gapW_is e)
    have fin : ∀ {en : Ending} {w' : World} {acc : Pl.Bs}, acc = Pl.src ⟨#[]⟩ ((D ++ [e]).map Ev.wd) → en = .returned (.tuple #[]) ∧ Src W0.heap.size acc e.text w' ∧ Fr W0.heap.size w w' → en = .returned (.tuple #[]) ∧ InvS W0 (D ++ [e]) w' ∧ KeepP w w' := fun hacc ⟨h1, h2, h3⟩ => by
      refine ⟨h1, ⟨h.low.trans (h3.a.below (h.low.size) zs_ge), ?_⟩, h3.a.keepP (zs_part h.s)⟩
      rw [hla, ← hacc]; exact h2
    cases hj : Pl.join8 (Pl.lastW ⟨#[]⟩ (D.map Ev.wd)) (Pl.gapW e.wd) e.text with
    | true =>
      have hp2 : Pl.piece (Pl.lastW ⟨#[]⟩ (D.map Ev.wd)) e.wd = [32] ++ (Pl.gapW e.wd).data.toList ++ e.text.data.toList := by
        show (if Pl.join8 _ _ e.text = true then [32] else []) ++ _ ++ e.text.data.toList = _
        rw [if_pos hj]
      refine (src2_yes W0.heap.size e.b e.o _ e.own _ e.gap (Pl.gapW e.wd) e.text w h.s hlast ?_ hj hgap).mono (fun en w' hh => fin ?_ hh)
      · rw [hst, hp2] at hsl
        simp only [List.length_append, List.length_cons, List.length_nil, ← Lib.size_eq] at hsl
        omega
      · rw [hst, hp2]; simp
    | false =>
      have hp2 : Pl.piece (Pl.lastW ⟨#[]⟩ (D.map Ev.wd)) e.wd = (Pl.gapW e.wd).data.toList ++ e.text.data.toList := by
        show (if Pl.join8 _ _ e.text = true then [32] else []) ++ _ ++ e.text.data.toList = _
        rw [if_neg (by rw [hj]; decide), List.nil_append]
      refine (src2_no W0.heap.size e.b e.o _ e.own _ e.gap (Pl.gapW e.wd) e.text w h.s hlast ?_ hj hgap).mono (fun en w' hh => fin ?_ hh)
      · rw [hst, hp2] at hsl
        simp only [List.length_append, ← Lib.size_eq] at hsl
        omega
      · rw [hst, hp2]; simp
/-- source's variables, as it lays them. -/
theorem src_new (W0 : World) : Src W0.heap.size [] ⟨#[]⟩ ((((W0.alloc (.cells #[.pointer none, .slice none 0 0] 68)).alloc (.cells #[.int .i64 0] 3)).alloc (.cells #[.func (.func 52) #[] #[.pointer (some ⟨W0.heap.size + 1, 0, none⟩), .pointer (some ⟨W0.heap.size, 0, none⟩)]] 73)).alloc (.cells #[.string ⟨#[]⟩] 9)) ∧
    Below W0.heap.size W0 ((((W0.alloc (.cells #[.pointer none, .slice none 0 0] 68)).alloc (.cells #[.int .i64 0] 3)).alloc (.cells #[.func (.func 52) #[] #[.pointer (some ⟨W0.heap.size + 1, 0, none⟩), .pointer (some ⟨W0.heap.size, 0, none⟩)]] 73)).alloc (.cells #[.string ⟨#[]⟩] 9)) := by
  have at_new : ∀ (w : World) (o : Obj) (k : Nat), k = w.heap.size → (w.alloc o).heap[k]? = some o := fun w o k h => h ▸ heap_alloc_new w o
  have old : ∀ (w : World) (o : Obj) (k : Nat), k < w.heap.size → (w.alloc o).heap[k]? = w.heap[k]? := fun w o k h => Below.heap_alloc w o k h
  refine ⟨⟨?_, ?_, ?_, ?_⟩, (((box_low _ _).alloc (by simp) _).alloc (by simp <;> omega) _).alloc (by simp <;> omega) _⟩
  · refine Tk.holds_later (Tk.holds_later (Tk.holds_later (.inl ⟨Nat.le_refl _, .slice none 0 0, heap_alloc_new _ _, World.ownsRowF_nil _ _ _ _, by simp [Value.ownBlock]⟩) (box_low _ _)) (box_low _ _)) (box_low _ _)
  · exact (old _ _ _ (by simp <;> omega)).trans ((old _ _ _ (by simp)).trans (at_new _ _ _ (by simp)))
  · exact (old _ _ _ (by simp)).trans (at_new _ _ _ (by simp))
  · exact at_new _ _ _ (by simp)
end Go.Proofs.YtiaajpdcacdngaaGreatDoor

namespace Go.Proofs.YtiaajpdcacdngaaGreatDoor
open Go.RowKit
set_option linter.unusedVariables false
set_option linter.unusedSimpArgs false

set_option maxRecDepth 100000 in
set_option maxHeartbeats 1600000 in
theorem source_any (t : Pl.Tr) (w : World) (r : Sl) (x : ByteArray) (h : IsT w t r) (hf : Pl.firstE t = 0) (hz : Pl.sz t ≤ 100000) (hht : Pl.ht t ≤ 900) (hlen : (Pl.source t).length ≤ 65536) (hx : Pl.mk (Pl.source t) = x) :
    Calls Tryz.prog 32 #[.agg #[.int .i64 t.kind, .string t.text, .slice r.ga t.gaps.length r.gc, .slice r.da t.kids.length r.dc]] w fun e w' => e = .returned (.tuple #[.string x, .int .i64 0]) ∧ Below w.heap.size w w' := by
  obtain ⟨A, hA, hsl, hfix⟩ := isT_lt (h.later (box_low w (.cells #[.int .i64 t.kind, .string t.text, .slice r.ga t.gaps.length r.gc, .slice r.da t.kids.length r.dc] 25)))
  have hfix0 := hfix w.heap.size 0 (box_at t r w)
  have B0 := Lib.hid (box_low w (.cells #[.int .i64 t.kind, .string t.text, .slice r.ga t.gaps.length r.gc, .slice r.da t.kids.length r.dc] 25))
  obtain ⟨W0, hW0⟩ : ∃ W0, W0 = w.alloc (.cells #[.int .i64 t.kind, .string t.text, .slice r.ga t.gaps.length r.gc, .slice r.da t.kids.length r.dc] 25) := ⟨_, rfl⟩
  rw [← hW0] at hfix0 B0
  have hs0 : W0.heap.size = w.heap.size + 1 := by rw [hW0]; simp
  obtain ⟨n1, n2⟩ := src_new W0
  have HW : Hid (Calls Tryz.prog 29 #[.pointer (some ⟨w.heap.size, 0, none⟩), .func (.func 54) #[] #[.pointer (some ⟨W0.heap.size + 3, 0, none⟩), .pointer (some ⟨W0.heap.size + 2, 0, none⟩)]] _ fun en w' => en = .returned (.tuple #[]) ∧ Src W0.heap.size (Pl.source t) (Pl.lastW ⟨#[]⟩ (Pl.evT t 0 ⟨#[]⟩)) w' ∧ Below W0.heap.size W0 w') := Lib.hid (by
    refine (walkS_any (W0.heap.size + 3) (W0.heap.size + 2) _ _ (stepS W0 A w.heap.size 0 hfix0 (by rw [hA]; exact hf) (by rw [hA]; omega) (by rw [hA]; exact hlen)) A w.heap.size 0 [] _ (by rw [hA]; exact hf) (by rw [hA]; exact hz) (by rw [hA]; exact hht) (fun D w2 hi => fixL_later hfix0 hi.low) (List.prefix_refl _) ⟨n2, n1⟩).mono ?_
    rintro en w' ⟨rfl, hi, _⟩
    have hs := hi.s
    rw [List.nil_append, evL_wd, hA] at hs
    exact ⟨rfl, hs, hi.low⟩)
  obtain ⟨n, hn⟩ : ∃ n, n = (Pl.source t).length := ⟨_, rfl⟩
  rw [← hn] at hlen
  have d1 : decide (65536 < (n : Int)) = false := decide_eq_false (by omega)
  have HN := Lib.hid hn
  have HX := Lib.hid hx
  have HBelow := Lib.hid n2
  rw [hs0] at HW
  rw [hW0] at HW
  have HS0 := Lib.hid hs0
  clear h hf hz hht hfix hfix0 hA hsl n1 n2 hx hn hW0 hs0
  generalize Pl.lastW ⟨#[]⟩ (Pl.evT t 0 ⟨#[]⟩) = la at *
  generalize Pl.source t = SRC at *
  generalize t.kind = k at *
  generalize t.text = s at *
  generalize t.gaps.length = gn at *
  generalize t.kids.length = m at *
  obtain ⟨ga, gc, da, dc⟩ := r
  simp only at *
  go_enter Tryz.func32, Tryz.ntmps32
  go_wp2_with (first
    | (go_at_call 29; refine HW.out.mono ?_; rintro e w2 ⟨rfl, hs2, hb2⟩; have c2 := cell_of_one hs2.s; rw [← HN.out] at c2; have HS2 := Lib.hid hs2.b; have HB2 := Lib.hid hb2; clear hs2 hb2)
    | (go_at_call 57; refine (Tk.bstring_any _ _ _ HS2.out).mono ?_; rintro e w3 ⟨rfl, hb3⟩))
  go_ret2
  refine ⟨?_, ?_⟩
  · rw [HX.out]; rfl
  · exact (box_low _ _).trans ((HB2.out.trans hb3).mono (Nat.le_succ _))
set_option maxRecDepth 100000 in
set_option maxHeartbeats 800000 in
theorem text_bad (t : Pl.Tr) (w : World) (r : Sl) (v : Int) (hT : Tabs w) (h : IsT w t r) (hc : Pl.chk t = v) (hv : v ≠ 0) :
    Calls Tryz.prog 14 #[.agg #[.int .i64 t.kind, .string t.text, .slice r.ga t.gaps.length r.gc, .slice r.da t.kids.length r.dc]] w fun e w' => e = .returned (.tuple #[.string ⟨#[]⟩, .int .i64 v]) ∧ Below w.heap.size w w' := by
  have HC := Lib.hid (fun w2 (hb : Below w.heap.size w w2) => check_is t w2 r v hc (hT.later hb) (h.later hb))
  obtain ⟨v1, v2⟩ := int_neq2 hv
  have B0 := Lib.hid (box_low w (.cells #[.int .i64 t.kind, .string t.text, .slice r.ga t.gaps.length r.gc, .slice r.da t.kids.length r.dc] 25))
  clear hT h hc hv
  generalize t.kind = k at *
  generalize t.text = s at *
  generalize t.gaps.length = n at *
  generalize t.kids.length = m at *
  obtain ⟨ga, gc, da, dc⟩ := r
  simp only at *
  go_enter Tryz.func14, Tryz.ntmps14
  go_wp2_with (go_at_call 28; refine (HC.out _ B0.out).mono ?_; rintro e w1 ⟨rfl, hb1⟩)
  go_ret2
  exact ⟨rfl, B0.out.trans (hb1.mono B0.out.size)⟩
set_option maxRecDepth 100000 in
set_option maxHeartbeats 800000 in
theorem text_ok (t : Pl.Tr) (w : World) (r : Sl) (x : ByteArray) (hT : Tabs w) (h : IsT w t r) (hc : Pl.chk t = 0) (hz : Pl.sz t ≤ 100000) (hlen : (Pl.source t).length ≤ 65536) (hx : Pl.mk (Pl.source t) = x) :
    Calls Tryz.prog 14 #[.agg #[.int .i64 t.kind, .string t.text, .slice r.ga t.gaps.length r.gc, .slice r.da t.kids.length r.dc]] w fun e w' => e = .returned (.tuple #[.string x, .int .i64 0]) ∧ Below w.heap.size w w' := by
  have hf := (Pl.chk_zero t hc).2.2.2
  have hht := Pl.chk_ht t hc (by omega)
  have HC := Lib.hid (fun w2 (hb : Below w.heap.size w w2) => check_is t w2 r 0 hc (hT.later hb) (h.later hb))
  have HSrc := Lib.hid (fun w2 (hb : Below w.heap.size w w2) => source_any t w2 r x (h.later hb) hf hz (by omega) hlen hx)
  have B0 := Lib.hid (box_low w (.cells #[.int .i64 t.kind, .string t.text, .slice r.ga t.gaps.length r.gc, .slice r.da t.kids.length r.dc] 25))
  have A0 := Lib.hid (box_at t r w)
  clear hT h hc hf hht hx hlen
  generalize t.kind = k at *
  generalize t.text = s at *
  generalize t.gaps.length = n at *
  generalize t.kids.length = m at *
  obtain ⟨ga, gc, da, dc⟩ := r
  simp only at *
  go_enter Tryz.func14, Tryz.ntmps14
  go_wp2_with (first
    | (go_at_call 28; refine (HC.out _ B0.out).mono ?_; rintro e w1 ⟨rfl, hb1⟩; have A1 := Lib.hid (at4_below A0.out hb1); have B1 := Lib.hid (B0.out.trans (hb1.mono B0.out.size)); obtain ⟨c0, c1, c2, c3⟩ := A1.out; clear hb1)
    | (go_at_call 32; refine (HSrc.out _ B1.out).mono ?_; rintro e w2 ⟨rfl, hb2⟩))
  go_ret2
  exact ⟨rfl, B1.out.trans (hb2.mono B1.out.size)⟩
end Go.Proofs.YtiaajpdcacdngaaGreatDoor
