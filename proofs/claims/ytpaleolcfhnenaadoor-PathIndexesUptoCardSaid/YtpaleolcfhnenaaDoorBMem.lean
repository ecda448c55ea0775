/- Trees in memory; the walks of kinds, levels and own tokens. -/
import Derived.Test.YtpaleolcfhnenaaDoorBBytes
import Derived.WalkKit
import Derived.WalkSpells
import Derived.WalkLawsBesides
import Derived.Outline
import Derived.Lib.Hide
import Derived.Deep.QuietTactic
import Derived.BigQuiet
import Derived.IntWalk
import Derived.OwnWalk
import Derived.Deep.MidRow
import Derived.Laws.Rows
namespace Go.Proofs.YtpaleolcfhnenaaDoor
open Go.RowKit
set_option linter.unusedVariables false
set_option linter.unusedSimpArgs false


/- ### Lists of strings and of numbers -/
def StrsAt (w : World) (b o : Nat) (xs : List ByteArray) : Prop := ∀ (j : Nat) x, xs[j]? = some x → w.cell? ⟨b, o + j, none⟩ = some (.string x)
def IntsAt (w : World) (b o : Nat) (xs : List Int) : Prop := ∀ (j : Nat) x, xs[j]? = some x → w.cell? ⟨b, o + j, none⟩ = some (.int .i64 x)
/-- The blocks that P names hold in w' what they held in w. -/
def Same (P : Nat → Prop) (w w' : World) : Prop := ∀ b, P b → w'.heap[b]? = w.heap[b]?
theorem Same.cell {P : Nat → Prop} {w w' : World} (h : Same P w w') {b o : Nat} (hb : P b) : w'.cell? ⟨b, o, none⟩ = w.cell? ⟨b, o, none⟩ := World.cell?_of_block (w := w) (h b hb)
theorem Same.below {P : Nat → Prop} {w w' : World} {B : Nat} (h : Below B w w') (hP : ∀ b, P b → b < B) : Same P w w' := fun b hb => h.block b (hP b hb)
theorem Same.trans {P : Nat → Prop} {a b c : World} (h : Same P a b) (k : Same P b c) : Same P a c := fun x hx => (k x hx).trans (h x hx)
theorem Same.refl (P : Nat → Prop) (w : World) : Same P w w := fun _ _ => rfl
/-- Strings from an address on, wherever P lets them lie. -/
def Strs (P : Nat → Prop) (w : World) (a : Option Addr) (xs : List ByteArray) : Prop :=
  xs.length ≤ maxLen ∧ (∀ x ∈ xs, x.size ≤ maxLen) ∧ (xs = [] ∨ ∃ b o, a = some ⟨b, o, none⟩ ∧ P b ∧ StrsAt w b o xs)
def Ints (P : Nat → Prop) (w : World) (a : Option Addr) (xs : List Int) : Prop :=
  xs.length ≤ maxLen ∧ (xs = [] ∨ ∃ b o, a = some ⟨b, o, none⟩ ∧ P b ∧ IntsAt w b o xs)
theorem Strs.keep {P Q : Nat → Prop} {w w' : World} {a : Option Addr} {xs : List ByteArray} (h : Strs P w a xs) (hs : Same P w w') (hq : ∀ b, P b → Q b) : Strs Q w' a xs := by
  obtain ⟨h2, h3, h4⟩ := h
  refine ⟨h2, h3, ?_⟩
  rcases h4 with h4 | ⟨b, o, e, hb, h4⟩
  · exact .inl h4
  · exact .inr ⟨b, o, e, hq b hb, fun j x hx => (hs.cell hb).trans (h4 j x hx)⟩
theorem Ints.keep {P Q : Nat → Prop} {w w' : World} {a : Option Addr} {xs : List Int} (h : Ints P w a xs) (hs : Same P w w') (hq : ∀ b, P b → Q b) : Ints Q w' a xs := by
  obtain ⟨h2, h4⟩ := h
  refine ⟨h2, ?_⟩
  rcases h4 with h4 | ⟨b, o, e, hb, h4⟩
  · exact .inl h4
  · exact .inr ⟨b, o, e, hq b hb, fun j x hx => (hs.cell hb).trans (h4 j x hx)⟩
theorem strs_nil (P : Nat → Prop) (w : World) (a : Option Addr) : Strs P w a [] := ⟨by decide, (fun x hx => by cases hx), .inl rfl⟩
theorem ints_nil (P : Nat → Prop) (w : World) (a : Option Addr) : Ints P w a [] := ⟨by decide, .inl rfl⟩

/- ### Trees -/
/-- The four cells of a node, from an address on. -/
def At4 (w : World) (b o : Nat) (k : Int) (s : ByteArray) (gv kv : Value) : Prop :=
  w.cell? ⟨b, o, none⟩ = some (.int .i64 k) ∧ w.cell? ⟨b, o + 1, none⟩ = some (.string s) ∧ w.cell? ⟨b, o + 2, none⟩ = some gv ∧ w.cell? ⟨b, o + 3, none⟩ = some kv
theorem At4.keep {P : Nat → Prop} {w w' : World} {b o : Nat} {k : Int} {s : ByteArray} {gv kv : Value} (h : At4 w b o k s gv kv) (hs : Same P w w') (hb : P b) : At4 w' b o k s gv kv :=
  ⟨(hs.cell hb).trans h.1, (hs.cell hb).trans h.2.1, (hs.cell hb).trans h.2.2.1, (hs.cell hb).trans h.2.2.2⟩
theorem At4.lt {w : World} {b o : Nat} {k : Int} {s : ByteArray} {gv kv : Value} (h : At4 w b o k s gv kv) : b < w.heap.size := World.block_lt_of_cell? w _ h.1
theorem At4.range {w : World} {b o : Nat} {k : Int} {s : ByteArray} {gv kv : Value} (h : At4 w b o k s gv kv) : w.rangeAt b o [.int .i64 k, .string s, gv, kv] := by
  obtain ⟨h1, h2, h3, h4⟩ := h
  intro j v hv
  match j, hv with
  | 0, hv => simp at hv; subst hv; exact h1
  | 1, hv => simp at hv; subst hv; exact h2
  | 2, hv => simp at hv; subst hv; exact h3
  | 3, hv => simp at hv; subst hv; exact h4
theorem sizeN : (Tryd.prog.info? 25).map (·.size) = some 4 := by kernel_rfl
theorem At4.load {w : World} {b o : Nat} {k : Int} {s : ByteArray} {gv kv : Value} (h : At4 w b o k s gv kv) : (Instr.loadAt 25 (.pointer (some ⟨b, o, none⟩))).run Tryd.prog w = .ok (.agg #[.int .i64 k, .string s, gv, kv]) w :=
  run_loadAt_mid w b o 25 _ _ h.range Tryd.underlying25 rfl sizeN
/-- Where a node's two slices lie, and their capacities. -/
structure Sl where
  ga : Option Addr
  gc : Nat
  da : Option Addr
  dc : Nat
/-- A node's four cells. -/
def AtT (w : World) (b o : Nat) (t : Pl.Tr) (r : Sl) : Prop := At4 w b o t.kind t.text (.slice r.ga t.gaps.length r.gc) (.slice r.da t.kids.length r.dc)
/-- The kids of a node: where they lie, and the slices in their cells. -/
def Lies (P : Nat → Prop) (w : World) (ks : List Pl.Tr) (a : Option Addr) (R : Nat → Sl) : Prop :=
  ks = [] ∨ ∃ b o, a = some ⟨b, o, none⟩ ∧ P b ∧ ∀ (j : Nat) t, ks[j]? = some t → AtT w b (o + j * 4) t (R j)
theorem Lies.keep {P Q : Nat → Prop} {w w' : World} {ks : List Pl.Tr} {a : Option Addr} {R : Nat → Sl} (h : Lies P w ks a R) (hs : Same P w w') (hq : ∀ b, P b → Q b) : Lies Q w' ks a R := by
  rcases h with h | ⟨b, o, e, hb, h⟩
  · exact .inl h
  · exact .inr ⟨b, o, e, hq b hb, fun j t ht => At4.keep (h j t ht) hs hb⟩
inductive Tin (P : Nat → Prop) (w : World) : Pl.Tr → Sl → Prop
  | mk (t : Pl.Tr) (r : Sl) (R : Nat → Sl)
      (hs : t.text.size ≤ maxLen) (hg : Strs P w r.ga t.gaps) (hl : t.kids.length ≤ maxLen) (hk : Lies P w t.kids r.da R)
      (hr : ∀ (j : Nat) u, t.kids[j]? = some u → Tin P w u (R j)) (hcap : t.kids.length ≤ r.dc) : Tin P w t r
theorem Tin.keep {P Q : Nat → Prop} {w w' : World} {t : Pl.Tr} {r : Sl} (h : Tin P w t r) (hs : Same P w w') (hq : ∀ b, P b → Q b) : Tin Q w' t r := by
  induction h with
  | mk t r R h1 h2 h3 h4 h5 h6 ih => exact .mk t r R h1 (h2.keep hs hq) h3 (h4.keep hs hq) ih h6
/-- Trees that lie somewhere in a world. -/
def IsT (w : World) (t : Pl.Tr) (r : Sl) : Prop := Tin (fun b => b < w.heap.size) w t r
theorem IsT.later {w w' : World} {t : Pl.Tr} {r : Sl} (h : IsT w t r) (hb : Below w.heap.size w w') : IsT w' t r :=
  h.keep (Same.below hb fun _ h => h) fun b h => Nat.lt_of_lt_of_le h hb.size
theorem Tin.isT {P : Nat → Prop} {w : World} {t : Pl.Tr} {r : Sl} (h : Tin P w t r) (hP : ∀ b, P b → b < w.heap.size) : IsT w t r := h.keep (Same.refl _ _) hP
/-- The zero node. -/
def zeroT : Pl.Tr := .node 0 ⟨#[]⟩ [] []
theorem isT_zero (w : World) : IsT w zeroT ⟨none, 0, none, 0⟩ :=
  .mk zeroT _ (fun _ => ⟨none, 0, none, 0⟩) (by decide) (strs_nil _ _ _) (by decide) (.inl rfl) (fun j t h => by cases j <;> cases h) (Nat.zero_le _)
theorem below_drewN (w : World) (n : Nat) : Below w.heap.size w (w.drewN n) := ⟨rfl, rfl, rfl, Nat.le_refl _, fun _ _ => rfl⟩

/-- A world behind another one: what was there is as it was. -/
structure Later (W : World) where
  u : World
  h : Below W.heap.size W u
instance laterSome (W : World) : Nonempty (Later W) := ⟨⟨W, Below.refl _ _⟩⟩
/-- A region that draws its order, whose operations only read and whose callees leave what was there. -/
theorem region_later {P : Program} {id : Nat} {Q : Exit → Act → World → Prop} {a : Act} {w : World} {l : List Oper} (hm : P.follows .mixedOrders = true) (hB : Region.lexB .any l.toArray = true)
    (h : wpQuiet P l.toArray (fun w' => ∃ n : Later w, w' = n.u) (fun a' => ∀ w', (∃ n : Later w, w' = n.u) → Q .normal a' w') l a) : (Code.region id l.toArray true).wp P Q a w :=
  wp_region_quiet (C := fun w' => ∃ n : Later w, w' = n.u) hm hB ⟨⟨_, (Below.refl w.heap.size w).drew⟩, rfl⟩ h
end Go.Proofs.YtpaleolcfhnenaaDoor

namespace Go.Proofs.YtpaleolcfhnenaaDoor
open Go.RowKit
set_option linter.unusedVariables false
set_option linter.unusedSimpArgs false

/-- The program's five tables lie in their blocks. -/
def TabAt (w : World) (b n : Nat) (f : Int → Int) : Prop := ∀ m : Nat, m < n → w.cell? ⟨b, m, none⟩ = some (.int .i64 (f m))
def partT (m : Int) : Int := if m = 0 then 3 else if m = 1 then 5 else 6
def Tabs (w : World) : Prop := TabAt w 0 27 Pl.ownT ∧ TabAt w 3 3 partT ∧ TabAt w 4 27 Pl.grp ∧ TabAt w 1 27 Pl.least ∧ TabAt w 2 27 Pl.txt
theorem TabAt.later {w w' : World} {b n : Nat} {f : Int → Int} (h : TabAt w b n f) (hb : Below w.heap.size w w') : TabAt w' b n f := fun m hm => by
  have := h m hm
  rw [← this]
  exact hb.cell (p := ⟨b, m, none⟩) (World.block_lt_of_cell? w _ this)
theorem Tabs.later {w w' : World} (h : Tabs w) (hb : Below w.heap.size w w') : Tabs w' :=
  ⟨h.1.later hb, h.2.1.later hb, h.2.2.1.later hb, h.2.2.2.1.later hb, h.2.2.2.2.later hb⟩
theorem nat_of {k : Int} {n : Nat} (h0 : 0 ≤ k) (h1 : k < n) : ∃ m : Nat, k = m ∧ m < n := ⟨k.toNat, by omega, by omega⟩

theorem known_any (k : Int) (w : World) :
    Calls Tryd.prog 78 #[.int .i64 k] w fun e w' => e = .returned (.bool (decide (1 ≤ k ∧ k ≤ 26))) ∧ w = w' := by
  go_enter Tryd.func78, Tryd.ntmps78
  go_wp2
  all_goals go_ret
  all_goals refine ⟨ret_bool ?_, rfl⟩
  all_goals rw [Bool.eq_iff_iff]
  all_goals try simp only [beq_iff_eq, beq_eq_false_iff_ne, ne_eq] at *
  all_goals first | (simp <;> omega) | omega
theorem known_is (k : Int) (b : Bool) (h : decide (1 ≤ k ∧ k ≤ 26) = b) (w : World) :
    Calls Tryd.prog 78 #[.int .i64 k] w fun e w' => e = .returned (.bool b) ∧ w = w' := h ▸ known_any k w
theorem group_any (k : Int) (w : World) (hT : Tabs w) :
    Calls Tryd.prog 101 #[.int .i64 k] w fun e w' => e = .returned (.int .i64 (Pl.grp k)) ∧ w = w' := by
  by_cases hk : 1 ≤ k ∧ k ≤ 26
  · obtain ⟨m, rfl, hm⟩ := nat_of (k := k) (n := 27) (by omega) (by omega)
    have hc := hT.2.2.1 m hm
    have HK : Hid (decide (1 ≤ (m : Int) ∧ (m : Int) ≤ 26) = true) := Lib.hid (decide_eq_true hk)
    generalize Pl.grp m = g at *
    clear hk hT
    go_enter Tryd.func101, Tryd.ntmps101
    go_wp2_with (go_at_call 78; refine (known_is _ _ HK.out _).mono ?_; rintro e w' ⟨rfl, rfl⟩)
    go_ret
    exact ⟨rfl, rfl⟩
  · have HK : Hid (decide (1 ≤ k ∧ k ≤ 26) = false) := Lib.hid (decide_eq_false hk)
    rw [show Pl.grp k = 0 by unfold Pl.grp; omega]
    go_enter Tryd.func101, Tryd.ntmps101
    go_wp2_with (go_at_call 78; refine (known_is _ _ HK.out _).mono ?_; rintro e w' ⟨rfl, rfl⟩)
    go_ret
    exact ⟨rfl, rfl⟩
theorem rgroup_any (k : Int) (w : World) :
    Calls Tryd.prog 67 #[.int .i64 k] w fun e w' => e = .returned (.int .i64 (Pl.grp k)) ∧ w = w' := by
  obtain ⟨g, hg⟩ : ∃ g, g = Pl.grp k := ⟨_, rfl⟩
  rw [← hg]
  have HG := Lib.hid hg
  clear hg
  go_enter Tryd.func67, Tryd.ntmps67
  go_wp2
  all_goals go_ret
  all_goals refine ⟨ret_int ?_, rfl⟩
  all_goals rw [HG.out]
  all_goals unfold Pl.grp
  all_goals try simp only [beq_iff_eq, beq_eq_false_iff_ne, ne_eq] at *
  all_goals omega
theorem most_any (k : Int) (w : World) :
    Calls Tryd.prog 75 #[.int .i64 k] w fun e w' => e = .returned (.int .i64 (Pl.mostK k)) ∧ w = w' := by
  obtain ⟨g, hg⟩ : ∃ g, g = Pl.mostK k := ⟨_, rfl⟩
  rw [← hg]
  have HG := Lib.hid hg
  clear hg
  go_enter Tryd.func75, Tryd.ntmps75
  go_wp2
  all_goals go_ret
  all_goals refine ⟨ret_int ?_, rfl⟩
  all_goals rw [HG.out]
  all_goals unfold Pl.mostK
  all_goals try simp only [beq_iff_eq, beq_eq_false_iff_ne, ne_eq] at *
  all_goals omega
theorem rmost_any (k : Int) (w : World) :
    Calls Tryd.prog 59 #[.int .i64 k] w fun e w' => e = .returned (.int .i64 (Pl.mostK k)) ∧ w = w' := by
  obtain ⟨g, hg⟩ : ∃ g, g = Pl.mostK k := ⟨_, rfl⟩
  rw [← hg]
  have HG := Lib.hid hg
  clear hg
  go_enter Tryd.func59, Tryd.ntmps59
  go_wp2
  all_goals go_ret
  all_goals refine ⟨ret_int ?_, rfl⟩
  all_goals rw [HG.out]
  all_goals unfold Pl.mostK
  all_goals try simp only [beq_iff_eq, beq_eq_false_iff_ne, ne_eq] at *
  all_goals omega
theorem rleast_any (k : Int) (w : World) :
    Calls Tryd.prog 79 #[.int .i64 k] w fun e w' => e = .returned (.int .i64 (Pl.least k)) ∧ w = w' := by
  obtain ⟨g, hg⟩ : ∃ g, g = Pl.least k := ⟨_, rfl⟩
  rw [← hg]
  have HG := Lib.hid hg
  clear hg
  go_enter Tryd.func79, Tryd.ntmps79
  go_wp2
  all_goals go_ret
  all_goals refine ⟨ret_int ?_, rfl⟩
  all_goals rw [HG.out]
  all_goals unfold Pl.least
  all_goals try simp only [beq_iff_eq, beq_eq_false_iff_ne, ne_eq] at *
  all_goals omega

theorem group_is (k g : Int) (h : Pl.grp k = g) (w : World) (hT : Tabs w) :
    Calls Tryd.prog 101 #[.int .i64 k] w fun e w' => e = .returned (.int .i64 g) ∧ w = w' := h ▸ group_any k w hT
theorem rgroup_is (k g : Int) (h : Pl.grp k = g) (w : World) :
    Calls Tryd.prog 67 #[.int .i64 k] w fun e w' => e = .returned (.int .i64 g) ∧ w = w' := h ▸ rgroup_any k w
end Go.Proofs.YtpaleolcfhnenaaDoor

namespace Go.Proofs.YtpaleolcfhnenaaDoor
open Go.RowKit
set_option linter.unusedVariables false
set_option linter.unusedSimpArgs false

theorem str_of (s : ByteArray) (l : List UInt8) (h : s.data.toList = l) : s = ⟨l.toArray⟩ := Pl.list_ext (by rw [h])
theorem str_no (s : ByteArray) (l : List UInt8) (h : ¬ s.data.toList = l) : (s.toList == l) = false := by
  rw [Pl.toList_eq]; simpa using h
/-- A string is an operator, or none. -/
theorem lv_cases (s : ByteArray) : s = ⟨#[124]⟩ ∨ s = ⟨#[38]⟩ ∨ s = ⟨#[61, 61]⟩ ∨ s = ⟨#[60]⟩ ∨ s = ⟨#[43]⟩ ∨ s = ⟨#[45]⟩ ∨ s = ⟨#[42]⟩ ∨ s = ⟨#[47]⟩ ∨
    ((s.toList == [124]) = false ∧ (s.toList == [38]) = false ∧ (s.toList == [61, 61]) = false ∧ (s.toList == [60]) = false ∧ (s.toList == [43]) = false ∧ (s.toList == [45]) = false ∧ (s.toList == [42]) = false ∧ (s.toList == [47]) = false ∧ Pl.lvo s = 0) := by
  by_cases h1 : s.data.toList = [124]
  · exact .inl (str_of s _ h1)
  by_cases h2 : s.data.toList = [38]
  · exact .inr (.inl (str_of s _ h2))
  by_cases h3 : s.data.toList = [61, 61]
  · exact .inr (.inr (.inl (str_of s _ h3)))
  by_cases h4 : s.data.toList = [60]
  · exact .inr (.inr (.inr (.inl (str_of s _ h4))))
  by_cases h5 : s.data.toList = [43]
  · exact .inr (.inr (.inr (.inr (.inl (str_of s _ h5)))))
  by_cases h6 : s.data.toList = [45]
  · exact .inr (.inr (.inr (.inr (.inr (.inl (str_of s _ h6))))))
  by_cases h7 : s.data.toList = [42]
  · exact .inr (.inr (.inr (.inr (.inr (.inr (.inl (str_of s _ h7)))))))
  by_cases h8 : s.data.toList = [47]
  · exact .inr (.inr (.inr (.inr (.inr (.inr (.inr (.inl (str_of s _ h8))))))))
  refine .inr (.inr (.inr (.inr (.inr (.inr (.inr (.inr ⟨str_no s _ h1, str_no s _ h2, str_no s _ h3, str_no s _ h4, str_no s _ h5, str_no s _ h6, str_no s _ h7, str_no s _ h8, ?_⟩)))))))
  unfold Pl.lvo Pl.lvL
  simp [h1, h2, h3, h4, h5, h6, h7, h8]
theorem levelOf_any (s : ByteArray) (w : World) :
    Calls Tryd.prog 103 #[.string s] w fun e w' => e = .returned (.int .i64 (Pl.lvo s)) ∧ w = w' := by
  rcases lv_cases s with rfl | rfl | rfl | rfl | rfl | rfl | rfl | rfl | ⟨h1, h2, h3, h4, h5, h6, h7, h8, h⟩
  case inr.inr.inr.inr.inr.inr.inr.inr =>
    rw [h]
    clear h
    go_enter Tryd.func103, Tryd.ntmps103
    go_wp2
    go_ret
    exact ⟨rfl, rfl⟩
  all_goals
    go_enter Tryd.func103, Tryd.ntmps103
    go_wp2
    go_ret
    exact ⟨rfl, rfl⟩
theorem levelOf_is (s : ByteArray) (n : Int) (h : Pl.lvo s = n) (w : World) :
    Calls Tryd.prog 103 #[.string s] w fun e w' => e = .returned (.int .i64 n) ∧ w = w' := h ▸ levelOf_any s w
theorem compares_any (s : ByteArray) (w : World) :
    Calls Tryd.prog 97 #[.string s] w fun e w' => e = .returned (.bool (decide (Pl.lvo s = 3))) ∧ w = w' := by
  rcases lv_cases s with rfl | rfl | rfl | rfl | rfl | rfl | rfl | rfl | ⟨h1, h2, h3, h4, h5, h6, h7, h8, h⟩
  case inr.inr.inr.inr.inr.inr.inr.inr =>
    rw [h]
    clear h
    go_enter Tryd.func97, Tryd.ntmps97
    go_wp2
    go_ret
    exact ⟨rfl, rfl⟩
  all_goals
    go_enter Tryd.func97, Tryd.ntmps97
    go_wp2
    go_ret
    exact ⟨rfl, rfl⟩
theorem compares_is (s : ByteArray) (b : Bool) (h : decide (Pl.lvo s = 3) = b) (w : World) :
    Calls Tryd.prog 97 #[.string s] w fun e w' => e = .returned (.bool b) ∧ w = w' := h ▸ compares_any s w

theorem level_any (k : Int) (s : ByteArray) (n m gc dc : Nat) (ga da : Option Addr) (w : World) (hT : Tabs w) :
    Calls Tryd.prog 96 #[.agg #[.int .i64 k, .string s, .slice ga n gc, .slice da m dc]] w fun e w' => e = .returned (.int .i64 (Pl.lv k s)) ∧ Below w.heap.size w w' := by
  have HT := Lib.hid (hT.later ((Below.refl _ _).alloc (Nat.le_refl _) (.cells #[.int .i64 k, .string s, .slice ga n gc, .slice da m dc] 25)))
  by_cases h24 : k = 24
  · subst h24
    obtain ⟨g, hg⟩ : ∃ g, g = Pl.lvo s := ⟨_, rfl⟩
    rw [show Pl.lv 24 s = Pl.lvo s from rfl, ← hg]
    have HG := Lib.hid hg
    clear hg hT
    go_enter Tryd.func96, Tryd.ntmps96
    go_wp2_with (go_at_call 103; refine (levelOf_is _ _ HG.out.symm _).mono ?_; rintro e w' ⟨rfl, rfl⟩)
    go_ret
    exact ⟨rfl, (Below.refl _ _).alloc (Nat.le_refl _) _⟩
  by_cases h25 : k = 25
  · subst h25
    rw [show Pl.lv 25 s = 6 from rfl]
    clear hT
    go_enter Tryd.func96, Tryd.ntmps96
    go_wp2_with fail
    go_ret
    exact ⟨rfl, (Below.refl _ _).alloc (Nat.le_refl _) _⟩
  have n24 : (k == 24) = false := by simpa using h24
  have n25 : (k == 25) = false := by simpa using h25
  obtain ⟨g, hg⟩ : ∃ g, g = Pl.grp k := ⟨_, rfl⟩
  have hv : Pl.lv k s = if g = 3 then 7 else 0 := by unfold Pl.lv; rw [if_neg h24, if_neg h25, hg]
  rw [hv]
  have HG := Lib.hid hg
  clear hg hv hT h24 h25
  by_cases h3 : g = 3
  · subst h3
    go_enter Tryd.func96, Tryd.ntmps96
    go_wp2_with (go_at_call 101; refine (group_is _ _ HG.out.symm _ HT.out).mono ?_; rintro e w' ⟨rfl, rfl⟩)
    go_ret
    exact ⟨rfl, (Below.refl _ _).alloc (Nat.le_refl _) _⟩
  · have n3 : (g == 3) = false := by simpa using h3
    rw [if_neg h3]
    go_enter Tryd.func96, Tryd.ntmps96
    go_wp2_with (go_at_call 101; refine (group_is _ _ HG.out.symm _ HT.out).mono ?_; rintro e w' ⟨rfl, rfl⟩)
    go_ret
    exact ⟨rfl, (Below.refl _ _).alloc (Nat.le_refl _) _⟩
theorem rlevel_any (k : Int) (s : ByteArray) (n m gc dc : Nat) (ga da : Option Addr) (w : World) :
    Calls Tryd.prog 92 #[.agg #[.int .i64 k, .string s, .slice ga n gc, .slice da m dc]] w fun e w' => e = .returned (.int .i64 (Pl.lv k s)) ∧ Below w.heap.size w w' := by
  by_cases h24 : k = 24
  · subst h24
    rw [show Pl.lv 24 s = Pl.lvo s from rfl]
    rcases lv_cases s with rfl | rfl | rfl | rfl | rfl | rfl | rfl | rfl | ⟨h1, h2, h3, h4, h5, h6, h7, h8, h⟩
    case inr.inr.inr.inr.inr.inr.inr.inr =>
      rw [h]
      clear h
      go_enter Tryd.func92, Tryd.ntmps92
      go_wp2
      go_ret
      exact ⟨rfl, (Below.refl _ _).alloc (Nat.le_refl _) _⟩
    all_goals
      go_enter Tryd.func92, Tryd.ntmps92
      go_wp2
      go_ret
      exact ⟨rfl, (Below.refl _ _).alloc (Nat.le_refl _) _⟩
  by_cases h25 : k = 25
  · subst h25
    rw [show Pl.lv 25 s = 6 from rfl]
    go_enter Tryd.func92, Tryd.ntmps92
    go_wp2_with fail
    go_ret
    exact ⟨rfl, (Below.refl _ _).alloc (Nat.le_refl _) _⟩
  have n24 : (k == 24) = false := by simpa using h24
  have n25 : (k == 25) = false := by simpa using h25
  obtain ⟨g, hg⟩ : ∃ g, g = Pl.grp k := ⟨_, rfl⟩
  have hv : Pl.lv k s = if g = 3 then 7 else 0 := by unfold Pl.lv; rw [if_neg h24, if_neg h25, hg]
  rw [hv]
  have HG := Lib.hid hg
  clear hg hv h24 h25
  by_cases h3 : g = 3
  · subst h3
    go_enter Tryd.func92, Tryd.ntmps92
    go_wp2_with (go_at_call 67; refine (rgroup_is _ _ HG.out.symm _).mono ?_; rintro e w' ⟨rfl, rfl⟩)
    go_ret
    exact ⟨rfl, (Below.refl _ _).alloc (Nat.le_refl _) _⟩
  · have n3 : (g == 3) = false := by simpa using h3
    rw [if_neg h3]
    go_enter Tryd.func92, Tryd.ntmps92
    go_wp2_with (go_at_call 67; refine (rgroup_is _ _ HG.out.symm _).mono ?_; rintro e w' ⟨rfl, rfl⟩)
    go_ret
    exact ⟨rfl, (Below.refl _ _).alloc (Nat.le_refl _) _⟩
end Go.Proofs.YtpaleolcfhnenaaDoor

namespace Go.Proofs.YtpaleolcfhnenaaDoor
open Go.RowKit
set_option linter.unusedVariables false
set_option linter.unusedSimpArgs false

theorem box_drewN (w : World) (o : Obj) (n : Nat) : Below w.heap.size w ((w.alloc o).drewN n) := ((Below.refl _ _).alloc (Nat.le_refl _) o).trans ((below_drewN _ n).mono (by simp))
theorem own_lit_3 (s : ByteArray) (m : Nat) : Pl.own 3 s m = wrap64 (2 + ((m - 1 : Nat) : Int)) := by unfold Pl.own Pl.ownT; simp
theorem own_lit_20 (s : ByteArray) (m : Nat) : Pl.own 20 s m = wrap64 (3 + ((m - 1 : Nat) : Int)) := by unfold Pl.own Pl.ownT; simp
theorem own_lit_21 (s : ByteArray) (m : Nat) : Pl.own 21 s m = wrap64 (4 + ((m - 2 : Nat) : Int)) := by unfold Pl.own Pl.ownT; simp
theorem max_one (n : Nat) : max (0 : Int) ((n : Int) - 1) = ((n - 1 : Nat) : Int) := by omega
theorem max_two (n : Nat) : max (0 : Int) ((n : Int) - 1 - 1) = ((n - 2 : Nat) : Int) := by omega
theorem own_no (k : Int) (s : ByteArray) (n m gc dc : Nat) (ga da : Option Addr) (w : World) (hT : Tabs w) (hm : m ≤ maxLen) (hk : ¬ (1 ≤ k ∧ k ≤ 26)) :
    Calls Tryd.prog 66 #[.agg #[.int .i64 k, .string s, .slice ga n gc, .slice da m dc]] w fun e w' => e = .returned (.int .i64 (Pl.own (k) s m)) ∧ Below w.heap.size w w' := by
  unfold maxLen at hm
  obtain ⟨o, ho⟩ : ∃ o, o = Pl.own (k) s m := ⟨_, rfl⟩
  rw [← ho]
  have HO := Lib.hid ho
  clear ho
  have HK : Hid (decide (1 ≤ k ∧ k ≤ 26) = false) := Lib.hid (decide_eq_false hk)
  go_enter Tryd.func66, Tryd.ntmps66
  go_wp2_with (go_at_call 78; refine (known_is _ _ HK.out _).mono ?_; rintro e w' ⟨rfl, rfl⟩)
  all_goals go_ret
  all_goals refine ⟨ret_int ?_, (Below.refl _ _).alloc (Nat.le_refl _) _⟩
  all_goals have ho := HO.out
  all_goals rw [ho]
  all_goals (unfold Pl.own; simp only [Pl.ownT]; omega)
theorem own_8e (s : ByteArray) (n m gc dc : Nat) (ga da : Option Addr) (w : World) (hT : Tabs w) (hm : m ≤ maxLen) (hz : s.size = 0) :
    Calls Tryd.prog 66 #[.agg #[.int .i64 8, .string s, .slice ga n gc, .slice da m dc]] w fun e w' => e = .returned (.int .i64 (Pl.own (8) s m)) ∧ Below w.heap.size w w' := by
  unfold maxLen at hm
  obtain ⟨o, ho⟩ : ∃ o, o = Pl.own (8) s m := ⟨_, rfl⟩
  rw [← ho]
  have HO := Lib.hid ho
  clear ho
  have s1 : s.toList.isEmpty = true := by rw [Pl.toList_eq, List.isEmpty_iff_length_eq_zero, ← Lib.size_eq]; exact hz
  have c1 : (w.alloc (.cells #[.int .i64 8, .string s, .slice ga n gc, .slice da m dc] 25)).cell? ⟨0, 8, none⟩ = some (.int .i64 2) := (hT.later ((Below.refl _ _).alloc (Nat.le_refl _) _)).1 8 (by first | decide | assumption)
  have c2 : (w.alloc (.cells #[.int .i64 8, .string s, .slice ga n gc, .slice da m dc] 25)).drew.cell? ⟨0, 8, none⟩ = some (.int .i64 2) := c1
  have HK : Hid (decide (1 ≤ (8 : Int) ∧ (8 : Int) ≤ 26) = true) := Lib.hid (decide_eq_true (by omega))
  clear hT
  go_enter Tryd.func66, Tryd.ntmps66
  go_wp2_with (go_at_call 78; refine (known_is _ _ HK.out _).mono ?_; rintro e w' ⟨rfl, rfl⟩)
  go_quiet (fail)
  go_wp2_with fail
  all_goals go_ret
  all_goals refine ⟨ret_int ?_, box_drewN _ _ _⟩
  all_goals have ho := HO.out
  all_goals rw [ho]
  all_goals (unfold Pl.own; simp [hz])
theorem own_8n (s : ByteArray) (n m gc dc : Nat) (ga da : Option Addr) (w : World) (hT : Tabs w) (hm : m ≤ maxLen) (hz : ¬ s.size = 0) :
    Calls Tryd.prog 66 #[.agg #[.int .i64 8, .string s, .slice ga n gc, .slice da m dc]] w fun e w' => e = .returned (.int .i64 (Pl.own (8) s m)) ∧ Below w.heap.size w w' := by
  unfold maxLen at hm
  obtain ⟨o, ho⟩ : ∃ o, o = Pl.own (8) s m := ⟨_, rfl⟩
  rw [← ho]
  have HO := Lib.hid ho
  clear ho
  obtain ⟨s1, s2, s3⟩ := Pl.not_empty s (by omega)
  have c1 : (w.alloc (.cells #[.int .i64 8, .string s, .slice ga n gc, .slice da m dc] 25)).cell? ⟨0, 8, none⟩ = some (.int .i64 2) := (hT.later ((Below.refl _ _).alloc (Nat.le_refl _) _)).1 8 (by first | decide | assumption)
  have c2 : (w.alloc (.cells #[.int .i64 8, .string s, .slice ga n gc, .slice da m dc] 25)).drew.cell? ⟨0, 8, none⟩ = some (.int .i64 2) := c1
  have HK : Hid (decide (1 ≤ (8 : Int) ∧ (8 : Int) ≤ 26) = true) := Lib.hid (decide_eq_true (by omega))
  clear hT
  go_enter Tryd.func66, Tryd.ntmps66
  go_wp2_with (go_at_call 78; refine (known_is _ _ HK.out _).mono ?_; rintro e w' ⟨rfl, rfl⟩)
  go_quiet (fail)
  go_wp2_with fail
  all_goals go_ret
  all_goals refine ⟨ret_int ?_, box_drewN _ _ _⟩
  all_goals have ho := HO.out
  all_goals rw [ho]
  all_goals (unfold Pl.own; simp [hz])
theorem own_14z (s : ByteArray) (n m gc dc : Nat) (ga da : Option Addr) (w : World) (hT : Tabs w) (hm : m ≤ maxLen) (hz : m = 0) :
    Calls Tryd.prog 66 #[.agg #[.int .i64 14, .string s, .slice ga n gc, .slice da m dc]] w fun e w' => e = .returned (.int .i64 (Pl.own (14) s m)) ∧ Below w.heap.size w w' := by
  unfold maxLen at hm
  obtain ⟨o, ho⟩ : ∃ o, o = Pl.own (14) s m := ⟨_, rfl⟩
  rw [← ho]
  have HO := Lib.hid ho
  clear ho
  subst hz
  have c1 : (w.alloc (.cells #[.int .i64 14, .string s, .slice ga n gc, .slice da 0 dc] 25)).cell? ⟨0, 14, none⟩ = some (.int .i64 1) := (hT.later ((Below.refl _ _).alloc (Nat.le_refl _) _)).1 14 (by first | decide | assumption)
  have c2 : (w.alloc (.cells #[.int .i64 14, .string s, .slice ga n gc, .slice da 0 dc] 25)).drew.cell? ⟨0, 14, none⟩ = some (.int .i64 1) := c1
  have HK : Hid (decide (1 ≤ (14 : Int) ∧ (14 : Int) ≤ 26) = true) := Lib.hid (decide_eq_true (by omega))
  clear hT
  go_enter Tryd.func66, Tryd.ntmps66
  go_wp2_with (go_at_call 78; refine (known_is _ _ HK.out _).mono ?_; rintro e w' ⟨rfl, rfl⟩)
  go_quiet (fail)
  go_wp2_with fail
  all_goals go_ret
  all_goals refine ⟨ret_int ?_, box_drewN _ _ _⟩
  all_goals have ho := HO.out
  all_goals rw [ho]
  all_goals (unfold Pl.own; simp)
theorem own_14n (s : ByteArray) (n m gc dc : Nat) (ga da : Option Addr) (w : World) (hT : Tabs w) (hm : m ≤ maxLen) (hz : 0 < m) :
    Calls Tryd.prog 66 #[.agg #[.int .i64 14, .string s, .slice ga n gc, .slice da m dc]] w fun e w' => e = .returned (.int .i64 (Pl.own (14) s m)) ∧ Below w.heap.size w w' := by
  unfold maxLen at hm
  obtain ⟨o, ho⟩ : ∃ o, o = Pl.own (14) s m := ⟨_, rfl⟩
  rw [← ho]
  have HO := Lib.hid ho
  clear ho
  have z1 : ((m : Int) == 0) = false := by simp; omega
  have c1 : (w.alloc (.cells #[.int .i64 14, .string s, .slice ga n gc, .slice da m dc] 25)).cell? ⟨0, 14, none⟩ = some (.int .i64 1) := (hT.later ((Below.refl _ _).alloc (Nat.le_refl _) _)).1 14 (by first | decide | assumption)
  have c2 : (w.alloc (.cells #[.int .i64 14, .string s, .slice ga n gc, .slice da m dc] 25)).drew.cell? ⟨0, 14, none⟩ = some (.int .i64 1) := c1
  have HK : Hid (decide (1 ≤ (14 : Int) ∧ (14 : Int) ≤ 26) = true) := Lib.hid (decide_eq_true (by omega))
  clear hT
  go_enter Tryd.func66, Tryd.ntmps66
  go_wp2_with (go_at_call 78; refine (known_is _ _ HK.out _).mono ?_; rintro e w' ⟨rfl, rfl⟩)
  go_quiet (fail)
  go_wp2_with fail
  all_goals go_ret
  all_goals refine ⟨ret_int ?_, box_drewN _ _ _⟩
  all_goals have ho := HO.out
  all_goals rw [ho]
  all_goals (unfold Pl.own; simp; omega)
theorem own_3 (s : ByteArray) (n m gc dc : Nat) (ga da : Option Addr) (w : World) (hT : Tabs w) (hm : m ≤ maxLen) :
    Calls Tryd.prog 66 #[.agg #[.int .i64 3, .string s, .slice ga n gc, .slice da m dc]] w fun e w' => e = .returned (.int .i64 (Pl.own (3) s m)) ∧ Below w.heap.size w w' := by
  unfold maxLen at hm
  obtain ⟨o, ho⟩ : ∃ o, o = Pl.own (3) s m := ⟨_, rfl⟩
  rw [← ho]
  have HO := Lib.hid ho
  clear ho
  have c1 : (w.alloc (.cells #[.int .i64 3, .string s, .slice ga n gc, .slice da m dc] 25)).cell? ⟨0, 3, none⟩ = some (.int .i64 2) := (hT.later ((Below.refl _ _).alloc (Nat.le_refl _) _)).1 3 (by first | decide | assumption)
  have c2 : (w.alloc (.cells #[.int .i64 3, .string s, .slice ga n gc, .slice da m dc] 25)).drew.cell? ⟨0, 3, none⟩ = some (.int .i64 2) := c1
  have HK : Hid (decide (1 ≤ (3 : Int) ∧ (3 : Int) ≤ 26) = true) := Lib.hid (decide_eq_true (by omega))
  clear hT
  go_enter Tryd.func66, Tryd.ntmps66
  go_wp2_with (go_at_call 78; refine (known_is _ _ HK.out _).mono ?_; rintro e w' ⟨rfl, rfl⟩)
  go_quiet (fail)
  go_wp2_with fail
  all_goals go_ret
  all_goals refine ⟨ret_int ?_, box_drewN _ _ _⟩
  all_goals have ho := HO.out
  all_goals rw [ho]
  all_goals (rw [own_lit_3]; congr 1; omega)
theorem own_20 (s : ByteArray) (n m gc dc : Nat) (ga da : Option Addr) (w : World) (hT : Tabs w) (hm : m ≤ maxLen) :
    Calls Tryd.prog 66 #[.agg #[.int .i64 20, .string s, .slice ga n gc, .slice da m dc]] w fun e w' => e = .returned (.int .i64 (Pl.own (20) s m)) ∧ Below w.heap.size w w' := by
  unfold maxLen at hm
  obtain ⟨o, ho⟩ : ∃ o, o = Pl.own (20) s m := ⟨_, rfl⟩
  rw [← ho]
  have HO := Lib.hid ho
  clear ho
  have c1 : (w.alloc (.cells #[.int .i64 20, .string s, .slice ga n gc, .slice da m dc] 25)).cell? ⟨0, 20, none⟩ = some (.int .i64 3) := (hT.later ((Below.refl _ _).alloc (Nat.le_refl _) _)).1 20 (by first | decide | assumption)
  have c2 : (w.alloc (.cells #[.int .i64 20, .string s, .slice ga n gc, .slice da m dc] 25)).drew.cell? ⟨0, 20, none⟩ = some (.int .i64 3) := c1
  have HK : Hid (decide (1 ≤ (20 : Int) ∧ (20 : Int) ≤ 26) = true) := Lib.hid (decide_eq_true (by omega))
  clear hT
  go_enter Tryd.func66, Tryd.ntmps66
  go_wp2_with (go_at_call 78; refine (known_is _ _ HK.out _).mono ?_; rintro e w' ⟨rfl, rfl⟩)
  go_quiet (fail)
  go_wp2_with fail
  all_goals go_ret
  all_goals refine ⟨ret_int ?_, box_drewN _ _ _⟩
  all_goals have ho := HO.out
  all_goals rw [ho]
  all_goals (rw [own_lit_20]; congr 1; omega)
theorem own_21 (s : ByteArray) (n m gc dc : Nat) (ga da : Option Addr) (w : World) (hT : Tabs w) (hm : m ≤ maxLen) :
    Calls Tryd.prog 66 #[.agg #[.int .i64 21, .string s, .slice ga n gc, .slice da m dc]] w fun e w' => e = .returned (.int .i64 (Pl.own (21) s m)) ∧ Below w.heap.size w w' := by
  unfold maxLen at hm
  obtain ⟨o, ho⟩ : ∃ o, o = Pl.own (21) s m := ⟨_, rfl⟩
  rw [← ho]
  have HO := Lib.hid ho
  clear ho
  have c1 : (w.alloc (.cells #[.int .i64 21, .string s, .slice ga n gc, .slice da m dc] 25)).cell? ⟨0, 21, none⟩ = some (.int .i64 4) := (hT.later ((Below.refl _ _).alloc (Nat.le_refl _) _)).1 21 (by first | decide | assumption)
  have c2 : (w.alloc (.cells #[.int .i64 21, .string s, .slice ga n gc, .slice da m dc] 25)).drew.cell? ⟨0, 21, none⟩ = some (.int .i64 4) := c1
  have HK : Hid (decide (1 ≤ (21 : Int) ∧ (21 : Int) ≤ 26) = true) := Lib.hid (decide_eq_true (by omega))
  clear hT
  go_enter Tryd.func66, Tryd.ntmps66
  go_wp2_with (go_at_call 78; refine (known_is _ _ HK.out _).mono ?_; rintro e w' ⟨rfl, rfl⟩)
  go_quiet (fail)
  go_wp2_with fail
  all_goals go_ret
  all_goals refine ⟨ret_int ?_, box_drewN _ _ _⟩
  all_goals have ho := HO.out
  all_goals rw [ho]
  all_goals (rw [own_lit_21]; congr 1; omega)
theorem own_rest (k : Nat) (s : ByteArray) (n m gc dc : Nat) (ga da : Option Addr) (w : World) (hT : Tabs w) (hm : m ≤ maxLen) (h1 : 1 ≤ k) (h27 : k < 27) (n8 : ¬ k = 8) (n14 : ¬ k = 14) (n21 : ¬ k = 21) (n3 : ¬ k = 3) (n20 : ¬ k = 20) :
    Calls Tryd.prog 66 #[.agg #[.int .i64 (k : Nat), .string s, .slice ga n gc, .slice da m dc]] w fun e w' => e = .returned (.int .i64 (Pl.own ((k : Nat)) s m)) ∧ Below w.heap.size w w' := by
  unfold maxLen at hm
  obtain ⟨o, ho⟩ : ∃ o, o = Pl.own ((k : Nat)) s m := ⟨_, rfl⟩
  rw [← ho]
  have HO := Lib.hid ho
  clear ho
  have c1 : (w.alloc (.cells #[.int .i64 k, .string s, .slice ga n gc, .slice da m dc] 25)).cell? ⟨0, k, none⟩ = some (.int .i64 (Pl.ownT (k : Nat))) := (hT.later ((Below.refl _ _).alloc (Nat.le_refl _) _)).1 k (by first | decide | assumption)
  have c2 : (w.alloc (.cells #[.int .i64 k, .string s, .slice ga n gc, .slice da m dc] 25)).drew.cell? ⟨0, k, none⟩ = some (.int .i64 (Pl.ownT (k : Nat))) := c1
  have HK : Hid (decide (1 ≤ (k : Int) ∧ (k : Int) ≤ 26) = true) := Lib.hid (decide_eq_true (by omega))
  clear hT
  obtain ⟨q, hq⟩ : ∃ q, q = Pl.ownT (k : Nat) := ⟨_, rfl⟩
  rw [← hq] at c1 c2
  have HQ := Lib.hid hq
  clear hq
  have b8 : ((k : Int) == 8) = false := by simp; omega
  have b14 : ((k : Int) == 14) = false := by simp; omega
  have b21 : ((k : Int) == 21) = false := by simp; omega
  have b3 : ((k : Int) == 3) = false := by simp; omega
  have b20 : ((k : Int) == 20) = false := by simp; omega
  go_enter Tryd.func66, Tryd.ntmps66
  go_wp2_with (go_at_call 78; refine (known_is _ _ HK.out _).mono ?_; rintro e w' ⟨rfl, rfl⟩)
  go_quiet (fail)
  go_wp2_with fail
  all_goals go_ret
  all_goals refine ⟨ret_int ?_, box_drewN _ _ _⟩
  all_goals have ho := HO.out
  all_goals rw [ho]
  all_goals (unfold Pl.own; rw [← HQ.out]; omega)
theorem own_any (k : Int) (s : ByteArray) (n m gc dc : Nat) (ga da : Option Addr) (w : World) (hT : Tabs w) (hm : m ≤ maxLen) :
    Calls Tryd.prog 66 #[.agg #[.int .i64 k, .string s, .slice ga n gc, .slice da m dc]] w fun e w' => e = .returned (.int .i64 (Pl.own k s m)) ∧ Below w.heap.size w w' := by
  by_cases hk : 1 ≤ k ∧ k ≤ 26
  case neg => exact own_no k s n m gc dc ga da w hT hm hk
  by_cases e8 : k = 8
  · subst e8
    by_cases hz : s.size = 0
    · exact own_8e s n m gc dc ga da w hT hm hz
    · exact own_8n s n m gc dc ga da w hT hm hz
  by_cases e14 : k = 14
  · subst e14
    by_cases hz : m = 0
    · exact own_14z s n m gc dc ga da w hT hm hz
    · exact own_14n s n m gc dc ga da w hT hm (by omega)
  by_cases e3 : k = 3
  · subst e3; exact own_3 s n m gc dc ga da w hT hm
  by_cases e20 : k = 20
  · subst e20; exact own_20 s n m gc dc ga da w hT hm
  by_cases e21 : k = 21
  · subst e21; exact own_21 s n m gc dc ga da w hT hm
  obtain ⟨q, rfl, hq⟩ := nat_of (k := k) (n := 27) (by omega) (by omega)
  exact own_rest q s n m gc dc ga da w hT hm (by omega) hq (by omega) (by omega) (by omega) (by omega) (by omega)
end Go.Proofs.YtpaleolcfhnenaaDoor

namespace Go.Proofs.YtpaleolcfhnenaaDoor
open Go.RowKit
set_option linter.unusedVariables false
set_option linter.unusedSimpArgs false

theorem rown_8e (s : ByteArray) (n m gc dc : Nat) (ga da : Option Addr) (w : World) (hm : m ≤ maxLen) (hz : s.size = 0) :
    Calls Tryd.prog 58 #[.agg #[.int .i64 8, .string s, .slice ga n gc, .slice da m dc]] w fun e w' => e = .returned (.int .i64 (Pl.own (8) s m)) ∧ Below w.heap.size w w' := by
  unfold maxLen at hm
  obtain ⟨o, ho⟩ : ∃ o, o = Pl.own (8) s m := ⟨_, rfl⟩
  rw [← ho]
  have HO := Lib.hid ho
  clear ho
  have s1 : s.toList.isEmpty = true := by rw [Pl.toList_eq, List.isEmpty_iff_length_eq_zero, ← Lib.size_eq]; exact hz
  go_enter Tryd.func58, Tryd.ntmps58
  go_wp2_with (fail)
  all_goals go_ret
  all_goals refine ⟨ret_int ?_, (Below.refl _ _).alloc (Nat.le_refl _) _⟩
  all_goals have ho := HO.out
  all_goals rw [ho]
  all_goals (unfold Pl.own; simp [hz])
theorem rown_8n (s : ByteArray) (n m gc dc : Nat) (ga da : Option Addr) (w : World) (hm : m ≤ maxLen) (hz : ¬ s.size = 0) :
    Calls Tryd.prog 58 #[.agg #[.int .i64 8, .string s, .slice ga n gc, .slice da m dc]] w fun e w' => e = .returned (.int .i64 (Pl.own (8) s m)) ∧ Below w.heap.size w w' := by
  unfold maxLen at hm
  obtain ⟨o, ho⟩ : ∃ o, o = Pl.own (8) s m := ⟨_, rfl⟩
  rw [← ho]
  have HO := Lib.hid ho
  clear ho
  obtain ⟨s1, s2, s3⟩ := Pl.not_empty s (by omega)
  go_enter Tryd.func58, Tryd.ntmps58
  go_wp2_with (fail)
  all_goals go_ret
  all_goals refine ⟨ret_int ?_, (Below.refl _ _).alloc (Nat.le_refl _) _⟩
  all_goals have ho := HO.out
  all_goals rw [ho]
  all_goals (unfold Pl.own; simp [hz])
theorem rown_14 (s : ByteArray) (n m gc dc : Nat) (ga da : Option Addr) (w : World) (hm : m ≤ maxLen) :
    Calls Tryd.prog 58 #[.agg #[.int .i64 14, .string s, .slice ga n gc, .slice da m dc]] w fun e w' => e = .returned (.int .i64 (Pl.own (14) s m)) ∧ Below w.heap.size w w' := by
  unfold maxLen at hm
  obtain ⟨o, ho⟩ : ∃ o, o = Pl.own (14) s m := ⟨_, rfl⟩
  rw [← ho]
  have HO := Lib.hid ho
  clear ho
  go_enter Tryd.func58, Tryd.ntmps58
  go_wp2_with (fail)
  all_goals go_ret
  all_goals refine ⟨ret_int ?_, (Below.refl _ _).alloc (Nat.le_refl _) _⟩
  all_goals have ho := HO.out
  all_goals rw [ho]
  all_goals (unfold Pl.own; simp; omega)
theorem rown_3 (s : ByteArray) (n m gc dc : Nat) (ga da : Option Addr) (w : World) (hm : m ≤ maxLen) :
    Calls Tryd.prog 58 #[.agg #[.int .i64 3, .string s, .slice ga n gc, .slice da m dc]] w fun e w' => e = .returned (.int .i64 (Pl.own (3) s m)) ∧ Below w.heap.size w w' := by
  unfold maxLen at hm
  obtain ⟨o, ho⟩ : ∃ o, o = Pl.own (3) s m := ⟨_, rfl⟩
  rw [← ho]
  have HO := Lib.hid ho
  clear ho
  go_enter Tryd.func58, Tryd.ntmps58
  go_wp2_with (fail)
  all_goals go_ret
  all_goals refine ⟨ret_int ?_, (Below.refl _ _).alloc (Nat.le_refl _) _⟩
  all_goals have ho := HO.out
  all_goals rw [ho]
  all_goals (rw [own_lit_3]; congr 1; omega)
theorem rown_20 (s : ByteArray) (n m gc dc : Nat) (ga da : Option Addr) (w : World) (hm : m ≤ maxLen) :
    Calls Tryd.prog 58 #[.agg #[.int .i64 20, .string s, .slice ga n gc, .slice da m dc]] w fun e w' => e = .returned (.int .i64 (Pl.own (20) s m)) ∧ Below w.heap.size w w' := by
  unfold maxLen at hm
  obtain ⟨o, ho⟩ : ∃ o, o = Pl.own (20) s m := ⟨_, rfl⟩
  rw [← ho]
  have HO := Lib.hid ho
  clear ho
  go_enter Tryd.func58, Tryd.ntmps58
  go_wp2_with (fail)
  all_goals go_ret
  all_goals refine ⟨ret_int ?_, (Below.refl _ _).alloc (Nat.le_refl _) _⟩
  all_goals have ho := HO.out
  all_goals rw [ho]
  all_goals (rw [own_lit_20]; congr 1; omega)
theorem rown_21 (s : ByteArray) (n m gc dc : Nat) (ga da : Option Addr) (w : World) (hm : m ≤ maxLen) :
    Calls Tryd.prog 58 #[.agg #[.int .i64 21, .string s, .slice ga n gc, .slice da m dc]] w fun e w' => e = .returned (.int .i64 (Pl.own (21) s m)) ∧ Below w.heap.size w w' := by
  unfold maxLen at hm
  obtain ⟨o, ho⟩ : ∃ o, o = Pl.own (21) s m := ⟨_, rfl⟩
  rw [← ho]
  have HO := Lib.hid ho
  clear ho
  go_enter Tryd.func58, Tryd.ntmps58
  go_wp2_with (fail)
  all_goals go_ret
  all_goals refine ⟨ret_int ?_, (Below.refl _ _).alloc (Nat.le_refl _) _⟩
  all_goals have ho := HO.out
  all_goals rw [ho]
  all_goals (rw [own_lit_21]; congr 1; omega)
set_option maxHeartbeats 1600000 in
set_option maxRecDepth 10000 in
theorem rown_rest (k : Int) (s : ByteArray) (n m gc dc : Nat) (ga da : Option Addr) (w : World) (hm : m ≤ maxLen) (n8 : ¬ k = 8) (n14 : ¬ k = 14) (n21 : ¬ k = 21) (n3 : ¬ k = 3) (n20 : ¬ k = 20) :
    Calls Tryd.prog 58 #[.agg #[.int .i64 k, .string s, .slice ga n gc, .slice da m dc]] w fun e w' => e = .returned (.int .i64 (Pl.own (k) s m)) ∧ Below w.heap.size w w' := by
  unfold maxLen at hm
  obtain ⟨o, ho⟩ : ∃ o, o = Pl.own (k) s m := ⟨_, rfl⟩
  rw [← ho]
  have HO := Lib.hid ho
  clear ho
  have b8 : (k == 8) = false := by simpa using n8
  have b14 : (k == 14) = false := by simpa using n14
  have b21 : (k == 21) = false := by simpa using n21
  have b3 : (k == 3) = false := by simpa using n3
  have b20 : (k == 20) = false := by simpa using n20
  go_enter Tryd.func58, Tryd.ntmps58
  go_wp2_with (fail)
  all_goals go_ret
  all_goals refine ⟨ret_int ?_, (Below.refl _ _).alloc (Nat.le_refl _) _⟩
  all_goals have ho := HO.out
  all_goals rw [ho]
  all_goals try simp only [beq_iff_eq, beq_eq_false_iff_ne, ne_eq] at *
  all_goals clear HO
  all_goals unfold Pl.own Pl.ownT
  all_goals omega
theorem rown_any (k : Int) (s : ByteArray) (n m gc dc : Nat) (ga da : Option Addr) (w : World) (hm : m ≤ maxLen) :
    Calls Tryd.prog 58 #[.agg #[.int .i64 k, .string s, .slice ga n gc, .slice da m dc]] w fun e w' => e = .returned (.int .i64 (Pl.own k s m)) ∧ Below w.heap.size w w' := by
  by_cases e8 : k = 8
  · subst e8
    by_cases hz : s.size = 0
    · exact rown_8e s n m gc dc ga da w hm hz
    · exact rown_8n s n m gc dc ga da w hm hz
  by_cases e14 : k = 14
  · subst e14; exact rown_14 s n m gc dc ga da w hm
  by_cases e3 : k = 3
  · subst e3; exact rown_3 s n m gc dc ga da w hm
  by_cases e20 : k = 20
  · subst e20; exact rown_20 s n m gc dc ga da w hm
  by_cases e21 : k = 21
  · subst e21; exact rown_21 s n m gc dc ga da w hm
  exact rown_rest k s n m gc dc ga da w hm e8 e14 e21 e3 e20
end Go.Proofs.YtpaleolcfhnenaaDoor
