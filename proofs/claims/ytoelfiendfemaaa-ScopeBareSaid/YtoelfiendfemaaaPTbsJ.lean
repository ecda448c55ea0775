/- The walk of the program's Rows, once more: where its table lies. -/
import Derived.Test.YtoelfiendfemaaaTables
import Derived.Test.YtoelfiendfemaaaPDc
import Derived.Test.YtoelfiendfemaaaLaw3
namespace Go.Proofs.Ytoelfiendfemaaa
open Go.RowKit Go.Deep
set_option linter.unusedVariables false
set_option linter.unusedSimpArgs false

/-- The blocks of S hold in w' what they held in w. -/
structure Kp (S : Nat → Prop) (w w' : World) : Prop where
  os : w'.os = w.os
  tape : w'.tape = w.tape
  output : w'.output = w.output
  size : w.heap.size ≤ w'.heap.size
  block : ∀ b, b < w.heap.size → S b → w'.heap[b]? = w.heap[b]?
theorem Kp.refl (S : Nat → Prop) (w : World) : Kp S w w := ⟨rfl, rfl, rfl, Nat.le_refl _, fun _ _ _ => rfl⟩
theorem Kp.trans {S : Nat → Prop} {a b c : World} (h : Kp S a b) (k : Kp S b c) : Kp S a c :=
  ⟨k.os.trans h.os, k.tape.trans h.tape, k.output.trans h.output, Nat.le_trans h.size k.size, fun i hi hs => (k.block i (Nat.lt_of_lt_of_le hi h.size) hs).trans (h.block i hi hs)⟩
theorem Kp.mono {S T : Nat → Prop} {w w' : World} (h : Kp S w w') (hs : ∀ b, b < w.heap.size → T b → S b) : Kp T w w' := ⟨h.os, h.tape, h.output, h.size, fun b hb ht => h.block b hb (hs b hb ht)⟩
theorem Kp.below {S : Nat → Prop} {w w' : World} (h : Below w.heap.size w w') : Kp S w w' := ⟨h.os, h.tape, h.output, h.size, fun b hb _ => h.block b hb⟩
theorem Kp.grown {S : Nat → Prop} {w w' : World} {row : Option Nat} (h : w.grownBy w' row) (hs : ∀ b, b < w.heap.size → S b → some b ≠ row) : Kp S w w' := ⟨h.os, h.tape, h.output, h.size, fun b hb hS => h.block b hb (hs b hb hS)⟩
theorem Kp.toGrown {w w' : World} {row : Option Nat} (h : Kp (fun b => some b ≠ row) w w') : w.grownBy w' row := ⟨h.os, h.tape, h.output, h.size, fun b hb hne => h.block b hb hne⟩
theorem Kp.toBelow {B : Nat} {w w' : World} (h : Kp (fun b => b < B) w w') (hB : B ≤ w.heap.size) : Below B w w' := ⟨h.os, h.tape, h.output, h.size, fun b hb => h.block b (Nat.lt_of_lt_of_le hb hB) hb⟩
theorem Kp.alloc {S : Nat → Prop} {w w' : World} (h : Kp S w w') (o : Obj) : Kp S w (w'.alloc o) := h.trans (Kp.below ((Below.refl _ _).alloc (Nat.le_refl _) o))
theorem Kp.drew {S : Nat → Prop} {w w' : World} (h : Kp S w w') : Kp S w w'.drew := h.trans (Kp.below (Below.refl _ _).drew)
theorem Kp.setCell {S : Nat → Prop} {w w' : World} (h : Kp S w w') {p : Addr} (hp : ¬ S p.block) (u : Value) : Kp S w (w'.setCell p u) :=
  h.trans ⟨rfl, rfl, rfl, by simp [World.setCell], fun k hk hs => Below.heap_setCell _ _ _ _ (fun e => hp (e ▸ hs))⟩
theorem Kp.cell {S : Nat → Prop} {w w' : World} (h : Kp S w w') {b o : Nat} (hb : b < w.heap.size) (hs : S b) : w'.cell? ⟨b, o, none⟩ = w.cell? ⟨b, o, none⟩ := World.cell?_of_block (w := w) (a := ⟨b, o, none⟩) (h.block b hb hs)
theorem Kp.same {S P : Nat → Prop} {w w' : World} (h : Kp S w w') (hP : ∀ b, P b → b < w.heap.size ∧ S b) : Same P w w' := fun b hb => h.block b (hP b hb).1 (hP b hb).2

theorem tabP2_of' {B : Nat} {P : Nat → Prop} {t : Pl.Tr} {a : Option Addr} {c : Nat} {w1 w w' : World} {e : Ending} (h : RowsP B P t (-1) a 0 c [] w e w') (hsz : Pl.sz t ≤ 1000000) (hb : Below w1.heap.size w1 w) (ha : ∀ k, (Value.slice a 0 c).ownBlock = some k → w1.heap.size ≤ k) : TabP2 P (Pl.tab t 0 (-1)) w1 e w' := by
  obtain ⟨g, c', L2, rfl, hm, hown, hgr, hg, hlt, hrows⟩ := h
  have hg2 : w1.heap.size ≤ g := by
    rcases hg with h | h
    · exact ha g h
    · exact Nat.le_trans hb.size h
  rw [Nat.zero_add] at hown
  refine ⟨some ⟨g, 0, none⟩, c', places L2, by rw [Pl.tab_len, Nat.zero_add], ⟨by rw [Pl.tab_len]; unfold maxLen; omega, .inr ?_, fun j x hx => ?_⟩, hb.grown hgr hb.size ha⟩
  · have hlen : Pl.sz t = L2.length := by have := congrArg List.length hm; rw [List.length_map, Pl.tab_len] at this; exact this.symm
    obtain ⟨g2, cap2, he, _, _, _, hat⟩ := owns5_at hown hlen (Pl.sz_pos t)
    injection he with he1 he2 he3
    injection he1 with he4
    injection he4 with he5
    subst he5
    refine ⟨g, 0, rfl, ⟨.inr hg2, hlt⟩, fun j x hx => ?_⟩
    obtain ⟨r, hr⟩ := isTab_get hm hx
    rw [places_get hr]
    exact hat j _ hr
  · obtain ⟨r, hr⟩ := isTab_get hm hx
    rw [places_get hr]
    exact (hrows j _ hr).keep (Same.refl _ _) (fun b hb2 => ⟨hb2.1.imp id (fun h => Nat.le_trans hb.size h), hb2.2.1⟩)
set_option maxHeartbeats 800000 in
set_option maxRecDepth 100000 in
theorem prows_at {P : Nat → Prop} {w : World} {t : Pl.Tr} {r : Sl} (h : Tin P w t r) (hP : ∀ b, P b → b < w.heap.size) (w1 : World) (hsame : Same P w w1) (hge : w.heap.size ≤ w1.heap.size) (hgap : ∀ x ∈ Pl.pre t, x.gaps.length ≤ 1000000) (hsz : Pl.sz t ≤ 1000000) :
    Calls Try.prog 45 #[.agg #[.int .i64 t.kind, .string t.text, .slice r.ga t.gaps.length r.gc, .slice r.da t.kids.length r.dc]] w1 (TabP2 P (Pl.tab t 0 (-1)) w1) := by
  have hmk := make_rows (Pl.sz t) (by omega)
  have HSz := Lib.hid (fun w1 hs hge => size_at h hP w1 hs hge hsz)
  have HA := Lib.hid (fun w1 hs (hge : w.heap.size ≤ w1.heap.size) a c ho => append_at h hP w.heap.size (Nat.le_refl _) w1 hs hge hgap a 0 c [] (-1) (by omega) rfl ho)
  have HS := Lib.hid hsame
  obtain ⟨ga, gc, a, c⟩ := r
  clear h hsame hgap
  go_enter Try.func45, Try.ntmps45
  go_wp2_with fail
  obtain ⟨W, hW⟩ : ∃ W, W = w1.alloc (.cells #[.int .i64 t.kind, .string t.text, .slice ga t.gaps.length gc, .slice a t.kids.length c] 54) := ⟨_, rfl⟩
  rw [← hW]
  obtain ⟨c0, c1, c2, c3⟩ := box_new w1 t.kind t.text (.slice ga t.gaps.length gc) (.slice a t.kids.length c)
  rw [← hW] at c0 c1 c2 c3
  have hlow : Below w1.heap.size w1 W := by rw [hW]; exact (Below.refl _ _).alloc (Nat.le_refl _) _
  have hWs : w1.heap.size < W.heap.size := by rw [hW]; simp
  have HLow := Lib.hid hlow
  clear hW hlow
  have d0 : W.drew.cell? ⟨w1.heap.size, 0, none⟩ = some (.int .i64 t.kind) := c0
  have d1 : W.drew.cell? ⟨w1.heap.size, 1, none⟩ = some (.string t.text) := c1
  have d2 : W.drew.cell? ⟨w1.heap.size, 2, none⟩ = some (.slice ga t.gaps.length gc) := c2
  have d3 : W.drew.cell? ⟨w1.heap.size, 3, none⟩ = some (.slice a t.kids.length c) := c3
  go_region_held3 (fun w' => w'.cell? ⟨w1.heap.size, 0, none⟩ = some (.int .i64 t.kind) ∧ w'.cell? ⟨w1.heap.size, 1, none⟩ = some (.string t.text) ∧ w'.cell? ⟨w1.heap.size, 2, none⟩ = some (.slice ga t.gaps.length gc) ∧ w'.cell? ⟨w1.heap.size, 3, none⟩ = some (.slice a t.kids.length c))
    (first
      | with_reducible exact ⟨d0, d1, d2, d3⟩
      | with_reducible exact ⟨q0, q1, q2, q3⟩
      | with_reducible exact ⟨r0, r1, r2, r3⟩
      | exact ⟨(pa w2 _ 0 hb8).trans q0, (pa w2 _ 1 hb8).trans q1, (pa w2 _ 2 hb8).trans q2, (pa w2 _ 3 hb8).trans q3⟩
      | go_keep)
    ((first
      | (go_at_call 62; refine (HSz.out W.drew (HS.out.trans (Same.below HLow.out.drew fun b hb => by have := hP b hb; omega)) (by show w.heap.size ≤ W.heap.size; omega)).mono ?_; rintro e w2 ⟨rfl, hbel'⟩;
         have hbel : Below W.heap.size W w2 := (Below.refl _ W).drew.trans hbel';
         have q0 := (hbel.cell (p := ⟨w1.heap.size, 0, none⟩) hWs).trans c0;
         have q1 := (hbel.cell (p := ⟨w1.heap.size, 1, none⟩) hWs).trans c1;
         have q2 := (hbel.cell (p := ⟨w1.heap.size, 2, none⟩) hWs).trans c2;
         have q3 := (hbel.cell (p := ⟨w1.heap.size, 3, none⟩) hWs).trans c3;
         have hb8 : w1.heap.size < w2.heap.size := by have := hbel.size; omega;
         have pa := cell_past w1.heap.size;
         have HBel := Lib.hid (HLow.out.trans (hbel.mono (by omega)));
         clear hbel hbel')
      | (go_at_call 61; refine (HA.out _ (HS.out.trans (Same.below (HBel.out.alloc (by omega) _) fun b hb => by have := hP b hb; omega)) (by simp; omega) _ _ (owns_room w2 (Pl.sz t) w.heap.size (by omega) (by unfold maxLen; omega))).mono ?_; intro e w3 hr;
         have r4 := tabP2_of' hr hsz (HBel.out.alloc (by omega) _) (fun k hk => by simp [Value.ownBlock] at hk; omega);
         obtain ⟨ra, rc, RR, rfl, ht, hb3⟩ := r4;
         have hgb : w3.heap[w1.heap.size]? = w2.heap[w1.heap.size]? := (rowsP_frame hr w1.heap.size (by simp; omega) (by simp [Value.ownBlock]; omega)).trans (Below.heap_alloc _ _ _ hb8);
         have r0 := (World.cell?_of_block (w := w2) (a := ⟨w1.heap.size, 0, none⟩) hgb).trans q0;
         have r1 := (World.cell?_of_block (w := w2) (a := ⟨w1.heap.size, 1, none⟩) hgb).trans q1;
         have r2 := (World.cell?_of_block (w := w2) (a := ⟨w1.heap.size, 2, none⟩) hgb).trans q2;
         have r3 := (World.cell?_of_block (w := w2) (a := ⟨w1.heap.size, 3, none⟩) hgb).trans q3;
         have HT := Lib.hid ht;
         have HB3 := Lib.hid hb3;
         clear hr hgb ht hb3)))
  go_wp2_with fail
  go_ret
  exact ⟨ra, rc, RR, rfl, HT.out, HB3.out⟩
end Go.Proofs.Ytoelfiendfemaaa

namespace Go.Proofs.Ytoelfiendfemaaa
open Go.RowKit Go.Deep
set_option linter.unusedVariables false
set_option linter.unusedSimpArgs false
set_option maxRecDepth 100000

theorem set_self {α : Type} {l : List α} {k : Nat} {x : α} (h : l[k]? = some x) : l.set k x = l := by
  apply List.ext_getElem?
  intro i
  by_cases e : k = i
  · subst e
    rw [List.getElem?_set_self (List.getElem?_eq_some_iff.1 h).1, h]
  · rw [List.getElem?_set_ne e]
theorem quiet_load {P : Program} {ops : Array Oper} {C : World → Prop} {Q : Act → Prop} {o : Oper} {rest : List Oper} {a : Act} (hw : Region.wanted o (yielded ops a.tmps) = true) (ty : TypeId) (x : Operand) (ho : o.op = .load ty x) (p v : Value) (hx : a.eval x = p)
    (hl : ∀ w, C w → (Instr.loadAt ty p).run P w = .ok v w) (h : wpQuiet P ops C Q rest (a.put o.dst v)) : wpQuiet P ops C Q (o :: rest) a := by
  unfold wpQuiet
  rw [if_pos hw]
  refine ⟨v, fun w hC => ?_, h⟩
  unfold Oper.quietAt execOp
  simp only [ho, hx, hl w hC, Sem.run_bind, Sem.run_pure, Result.andThen_ok]
  exact ⟨rfl, rfl⟩
theorem ownsRow_setCell_not {w : World} {B : Nat} {e : TypeId} {size n : Nat} {v : Value} {xs : List Value} (h : w.ownsRow B e size v n xs) {p : Addr} (hp : v.ownBlock ≠ some p.block) (u : Value) : (w.setCell p u).ownsRow B e size v n xs :=
  owns_keep h (fun x hx => Below.heap_setCell _ _ _ _ (fun e2 => hp (by rw [hx, e2])))
theorem set5_same {w : World} {b : Nat} {c0 c1 c2 c3 c4 v0 v1 v2 v3 v4 : Value} {T : TypeId} (h : w.heap[b]? = some (.cells #[c0, c1, c2, c3, c4] T (0, 0))) :
    (((((w.setCell ⟨b, 0, none⟩ v0).setCell ⟨b, 1, none⟩ v1).setCell ⟨b, 2, none⟩ v2).setCell ⟨b, 3, none⟩ v3).setCell ⟨b, 4, none⟩ v4).heap[b]? = some (.cells #[v0, v1, v2, v3, v4] T (0, 0)) := by
  rw [heap_setCell_same _ _ _ _ _ _ (heap_setCell_same _ _ _ _ _ _ (heap_setCell_same _ _ _ _ _ _ (heap_setCell_same _ _ _ _ _ _ (heap_setCell_same _ _ _ _ _ _ h))))]
  rfl
/-- make of strings. -/
theorem make_strs (n : Nat) (hn : n ≤ 1099511627776) (w : World) :
    (Instr.makeSlice 33 (.int .i64 (n : Int)) (.int .i64 (n : Int))).run Try.prog w = .ok (.slice (some ⟨w.heap.size, 0, none⟩) n n) (w.alloc (.cells (madeCells #[.string ⟨#[]⟩] n) 9)) := by
  obtain ⟨i, hi, hz, hs, hb⟩ := info_parts Try.infoS
  have h := run_make (P := Try.prog) w 33 9 i _ Try.underlying33 hi hz .i64 .i64 n n (by omega) (Int.le_refl _) (by rw [hb]; omega) (by omega)
  rw [hs] at h
  simpa [Value.cells] using h
theorem made_strs (n : Nat) : madeCells #[.string ⟨#[]⟩] n = ((List.replicate n (⟨#[]⟩ : ByteArray)).map Value.string).toArray := by
  apply Array.ext'
  simp [madeCells, Nat.mod_one]
  rw [List.map_const', List.length_range]
/-- A row of strings of the call's own. -/
def FnsAt (w : World) (F : Nat) (l : List Pl.Rw) (k : Nat) : Prop :=
  ∃ fs : List ByteArray, w.heap[F]? = some (.cells (fs.map Value.string).toArray 9 (0, 0)) ∧ fs.length = l.length ∧ (∀ j : Nat, j < k → fs[j]? = some (Pl.fnm l j)) ∧ ∀ j : Nat, k ≤ j → j < l.length → fs[j]? = some ⟨#[]⟩
theorem dec_same (k : Int) (s : ByteArray) (u i : Int) (fn cl pt : ByteArray) (m : Bool) (h : m = true → pt = cl) : Pl.decl1 k s u i fn pt m = Pl.decl1 k s u i fn cl m ∧ Pl.fn1 k s fn pt m = Pl.fn1 k s fn cl m := by
  cases m
  · exact ⟨rfl, rfl⟩
  · rw [h rfl]; exact ⟨rfl, rfl⟩
theorem decl1_some {k : Int} {s : ByteArray} {u i : Int} {fn cl : ByteArray} {m : Bool} {d : Pl.Dc} (h : Pl.decl1 k s u i fn cl m = some d) : d.name = s ∧ d.unit = u ∧ d.node = i ∧ (1 ≤ d.kind ∧ d.kind ≤ 6) ∧ (k = 2 → d.kind = (if m then 4 else 1) ∧ d.owner = (if m then cl else ⟨#[]⟩)) := by
  unfold Pl.decl1 at h
  by_cases h2 : k = 2
  · rw [if_pos h2] at h
    cases m <;> (simp at h; subst h; exact ⟨rfl, rfl, rfl, (by simp), fun _ => ⟨rfl, rfl⟩⟩)
  rw [if_neg h2] at h
  by_cases h7 : k = 7
  · rw [if_pos h7] at h; simp at h; subst h; exact ⟨rfl, rfl, rfl, (by simp), fun e => absurd e h2⟩
  rw [if_neg h7] at h
  by_cases h9 : k = 9
  · rw [if_pos h9] at h; simp at h; subst h; exact ⟨rfl, rfl, rfl, (by simp), fun e => absurd e h2⟩
  rw [if_neg h9] at h
  by_cases h4 : k = 4
  · rw [if_pos h4] at h; simp at h; subst h; exact ⟨rfl, rfl, rfl, (by simp), fun e => absurd e h2⟩
  rw [if_neg h4] at h
  by_cases h10 : k = 10
  · rw [if_pos h10] at h; simp at h; subst h; exact ⟨rfl, rfl, rfl, (by simp), fun e => absurd e h2⟩
  rw [if_neg h10] at h
  cases h
theorem decl1_none {k : Int} {s : ByteArray} {u i : Int} {fn cl : ByteArray} {m : Bool} (h : Pl.decl1 k s u i fn cl m = none) : k ≠ 2 := by
  intro e
  subst e
  unfold Pl.decl1 at h
  rw [if_pos rfl] at h
  cases h
theorem fn1_not {k : Int} (h : k ≠ 2) (s fn cl : ByteArray) (m : Bool) : Pl.fn1 k s fn cl m = fn := by unfold Pl.fn1; rw [if_neg h]
/-- The strings while a row is looked at. -/
def FnsMid (w : World) (F : Nat) (l : List Pl.Rw) (k : Nat) : Prop :=
  ∃ fs : List ByteArray, w.heap[F]? = some (.cells (fs.map Value.string).toArray 9 (0, 0)) ∧ fs.length = l.length ∧ (∀ j : Nat, j < k → fs[j]? = some (Pl.fnm l j)) ∧ fs[k]? = some (Pl.up l k) ∧ ∀ j : Nat, k < j → j < l.length → fs[j]? = some ⟨#[]⟩
theorem fns_cell {w : World} {F : Nat} {fs : List ByteArray} (h : w.heap[F]? = some (.cells (fs.map Value.string).toArray 9 (0, 0))) {j : Nat} {s : ByteArray} (hj : fs[j]? = some s) : w.cell? ⟨F, j, none⟩ = some (.string s) ∧ w.frozen? ⟨F, j, none⟩ = false :=
  blk_one h j _ (by simp [hj])
theorem fns_set {w : World} {F : Nat} {fs : List ByteArray} (h : w.heap[F]? = some (.cells (fs.map Value.string).toArray 9 (0, 0))) (j : Nat) (s : ByteArray) : (w.setCell ⟨F, j, none⟩ (.string s)).heap[F]? = some (.cells ((fs.set j s).map Value.string).toArray 9 (0, 0)) := by
  rw [heap_setCell_same _ _ _ _ _ _ h]
  congr 2
  apply Array.ext'
  simp [List.map_set]
/-- What appendDecls answers. -/
def PDecP (B : Nat) (L : List Pl.Dc) (a : Option Addr) (n c : Nat) (w1 : World) (e : Ending) (w' : World) : Prop :=
  ∃ (a' : Option Addr) (n' c' : Nat), e = .returned (.slice a' n' c') ∧ n' = L.length ∧ w'.ownsRow B 77 5 (.slice a' n' c') n' (L.flatMap cellsD) ∧ w1.grownBy w' (Value.slice a n c).ownBlock
set_option maxHeartbeats 3200000 in
theorem pappend_at {P : Nat → Prop} {w : World} {t : Pl.Tr} {r : Sl} (h : Tin P w t r) (hP : ∀ b, P b → b < w.heap.size) (hL : Lit t) (w1 : World) (hsame : Same P w w1) (hge : w.heap.size ≤ w1.heap.size) (B : Nat) (hB : w.heap.size ≤ B) (hB1 : B ≤ w1.heap.size)
    (a : Option Addr) (n c : Nat) (L : List Pl.Dc) (u : Int) (hn : n = L.length) (hn2 : n ≤ 100000) (hown : w1.ownsRow B 77 5 (.slice a n c) n (L.flatMap cellsD)) :
    Calls Try.prog 56 #[.slice a n c, .int .i64 u, .agg #[.int .i64 t.kind, .string t.text, .slice r.ga t.gaps.length r.gc, .slice r.da t.kids.length r.dc]] w1
      (PDecP B (L ++ Pl.drows (Pl.tab t 0 (-1)) u 0 (Pl.tab t 0 (-1)).length) a n c w1) := by
  obtain ⟨i0, hi0, hz0, hz1, hz2⟩ := info_parts infoD
  have hsz : Pl.sz t ≤ 200 := hL.1
  have HR := Lib.hid (fun wx (hb : Below w1.heap.size w1 wx) => prows_at h hP wx (hsame.trans (Same.below hb (fun b hb2 => Nat.lt_of_lt_of_le (hP b hb2) hge))) (Nat.le_trans hge hb.size) (fun x hx => by have := (hL.2 x hx).1; omega) (by omega))
  have HOk := Lib.hid (Pl.ok_tab t (by omega))
  obtain ⟨l, hl⟩ : ∃ l, l = Pl.tab t 0 (-1) := ⟨_, rfl⟩
  have hlen : l.length = Pl.sz t := by rw [hl, Pl.tab_len]
  rw [← hl] at HR HOk ⊢
  obtain ⟨m, hm⟩ : ∃ m, m = l.length := ⟨_, rfl⟩
  have hm2 : m ≤ 200 := by omega
  have hmk := make_strs m (by omega)
  have HTx : Hid (∀ j : Nat, (Pl.rw l j).text.size ≤ 8000) := Lib.hid (fun j => by
    unfold Pl.rw
    rw [Int.toNat_natCast]
    cases hj : l[j]? with
    | none => exact Nat.zero_le _
    | some r0 =>
      rw [hl] at hj
      obtain ⟨y, q, hy, rfl⟩ := Pl.tab_row t 0 (-1) j r0 hj
      exact (hL.2 y (List.mem_of_getElem? hy)).2)
  have HN := Lib.hid hn
  have HO := Lib.hid hown
  have hob : ∀ k, (Value.slice a n c).ownBlock = some k → B ≤ k ∧ k < w1.heap.size := fun k hk => hown.lt k hk
  have HOB := Lib.hid hob
  have HPw : Hid (∀ b, P b → b < B) := Lib.hid (fun b hb => Nat.lt_of_lt_of_le (hP b hb) hB)
  obtain ⟨ga, gc, da, dc⟩ := r
  rw [← hm]
  have HM := Lib.hid hm
  clear h hP hL hsame hn hown hob hl hlen hm
  generalize Pl.sz t = szt at *
  go_enter Try.func56, Try.ntmps56
  go_wp2_with (go_at_call 45; refine (HR.out _ ((Below.refl _ _).alloc (Nat.le_refl _) _)).mono ?_; rintro e w2 ⟨ta, tc, TR, rfl, hti, hb2⟩; rw [← HM.out]; have HTI := Lib.hid hti; have HB2 := Lib.hid (((Below.refl _ _).alloc (Nat.le_refl w1.heap.size) _).trans (hb2.mono (by simp))); have HZ2 : Hid (w1.heap.size + 1 ≤ w2.heap.size) := Lib.hid (by have := hb2.size; simp at this; omega); clear hti hb2)
  obtain ⟨W0, hW0⟩ : ∃ W0, W0 = w2.alloc (.cells (madeCells #[.string ⟨#[]⟩] m) 9) := ⟨_, rfl⟩
  have hz0' : W0.heap.size = w2.heap.size + 1 := by rw [hW0]; simp
  have HW0 : Hid (Below w1.heap.size w1 W0) := Lib.hid (by rw [hW0]; exact HB2.out.alloc HB2.out.size _)
  have HFn0 : Hid (FnsAt W0 w2.heap.size l 0) := Lib.hid ⟨List.replicate m ⟨#[]⟩, by rw [hW0, heap_alloc_new, made_strs], by rw [List.length_replicate]; exact HM.out, fun j h => absurd h (by omega), fun j _ hj => by rw [List.getElem?_replicate, if_pos (by have := HM.out; omega)]⟩
  have HO0 : Hid (W0.ownsRow B 77 5 (.slice a n c) n (L.flatMap cellsD)) := Lib.hid (owns_later HO.out HW0.out)
  have HT0 : Hid (TabIn (fun b => (P b ∨ w1.heap.size + 1 ≤ b) ∧ b < w2.heap.size) W0 ta l TR) := Lib.hid (HTI.out.keep (fun b hb => by rw [hW0]; exact Below.heap_alloc _ _ _ hb.2) (fun b hb => by simpa using hb))
  have hF1 : w1.heap.size + 1 ≤ w2.heap.size := HZ2.out
  rw [← hW0]
  clear HTI HB2 hmk HR hW0 HZ2
  generalize w2.heap.size = F at *
  clear w2
  go_loopw [0, 21] (fun v i wr => ∃ (k : Nat) (a2 : Option Addr) (n2 c2 : Nat), k ≤ m ∧ i = .int .i64 k ∧ v = .slice a2 n2 c2 ∧ n2 = (L ++ Pl.drows l u 0 k).length ∧ wr.ownsRow B 77 5 (.slice a2 n2 c2) n2 ((L ++ Pl.drows l u 0 k).flatMap cellsD) ∧ (∀ b, (Value.slice a2 n2 c2).ownBlock = some b → (Value.slice a n c).ownBlock = some b ∨ W0.heap.size ≤ b) ∧
      FnsAt wr F l k ∧ Kp (fun b => b < W0.heap.size ∧ b ≠ F ∧ some b ≠ (Value.slice a n c).ownBlock) W0 wr) (fun _ i _ => m - (intOf i).toNat)
  case atStart => exact ⟨0, a, n, c, Nat.zero_le _, rfl, rfl, by simp [Pl.drows_zero]; exact HN.out, by rw [Pl.drows_zero, List.append_nil]; exact HO0.out, fun b hb => .inl hb, HFn0.out, Kp.refl _ _⟩
  case round =>
    obtain ⟨k, a2, n2, c2, hk, rfl, rfl, hn2', hown, hsep, hfns, hkp⟩ := hrel
    have hobF : (Value.slice a2 n2 c2).ownBlock ≠ some F := fun e => (hsep F e).elim (fun h => by have := HOB.out F h; omega) (fun h => by omega)
    have HSep := Lib.hid hsep
    clear hsep
    have HN2 := Lib.hid hn2'
    have HO2 := Lib.hid hown
    have HF2 := Lib.hid hfns
    have HK2 := Lib.hid hkp
    have hgr := hkp.size
    by_cases hlt : k < m
    · have hkl : k < l.length := by have := HM.out; omega
      have hdl : (Pl.drows l u 0 k).length ≤ k := by
        unfold Pl.drows
        exact Nat.le_trans (List.length_filterMap_le _ _) (by simp)
      have hle : n2 ≤ 100200 := by rw [hn2', List.length_append, ← HN.out]; omega
      have hTB : TabIn (fun b => b < wr.heap.size) wr ta l TR := HT0.out.keep (fun b hb => hkp.block b (by omega) ⟨by omega, by omega, fun e => by have := HOB.out b e.symm; exact hb.1.elim (fun h => by have := HPw.out b h; omega) (fun h => by omega)⟩) (fun b hb => by omega)
      obtain ⟨rb, ro, rfl, hT⟩ := tb_of hTB (by omega)
      have hrbF : rb ≠ F := by
        rcases HT0.out.2.1 with h0 | ⟨b', o', e, hb', _⟩
        · rw [h0] at hkl; simp at hkl
        · cases e; omega
      have hT5 := hT.1
      obtain ⟨x, r, hgx, hxr, c0, c1, c2', c3, c4, hints, hat⟩ := hT.row hkl
      have HAT := Lib.hid hat
      have hpar := HOk.out.2 k x hgx
      have hfst := Pl.fnm_step HOk.out (k := k) (by omega) (by omega)
      have htx := HTx.out k
      rw [hxr] at hfst htx
      have HFS := Lib.hid hfst
      have HCl : Hid ((Pl.cls l k).size ≤ 8000) := Lib.hid (by
        have e : Pl.cls l k = (Pl.rw l (((Pl.rw l k).parent.toNat : Nat) : Int)).text := by unfold Pl.cls; congr 1
        rw [e]; exact HTx.out _)
      have HDR : Hid (Pl.drows l u 0 (k + 1) = Pl.drows l u 0 k ++ (Pl.decl1 x.kind x.text u k (Pl.up l k) (Pl.cls l k) (Pl.mth l k)).toList) := Lib.hid (by rw [Pl.drows_add, Pl.drows_one, Nat.zero_add]; unfold Pl.drow; rw [hxr])
      obtain ⟨fs, hfh, hfl, hf1, hf2⟩ := HF2.out
      have hFlt : F < wr.heap.size := lt_blk hfh
      obtain ⟨W, hW⟩ : ∃ W, W = (wr.alloc (.cells #[.int .i64 x.parent, .int .i64 x.kind, .string x.text, .slice r.ga x.gaps.length r.gc, .slice r.da x.kids.length r.dc] 47)).alloc (.cells #[.int .i64 0, .int .i64 0, .string ⟨#[]⟩, .slice none 0 0, .slice none 0 0] 47) := ⟨_, rfl⟩
      have hzW : W.heap.size = wr.heap.size + 2 := by rw [hW]; simp
      have hbW : Below wr.heap.size wr W := by rw [hW]; exact below_2 _ _ _
      have v1 : W.heap[wr.heap.size]? = some (.cells #[.int .i64 x.parent, .int .i64 x.kind, .string x.text, .slice r.ga x.gaps.length r.gc, .slice r.da x.kids.length r.dc] 47 (0, 0)) := by rw [hW]; exact (Below.heap_alloc _ _ _ (by simp)).trans (heap_alloc_new _ _)
      have v2 : W.heap[wr.heap.size + 1]? = some (.cells #[.int .i64 0, .int .i64 0, .string ⟨#[]⟩, .slice none 0 0, .slice none 0 0] 47 (0, 0)) := by rw [hW]; have := heap_alloc_new (wr.alloc (.cells #[.int .i64 x.parent, .int .i64 x.kind, .string x.text, .slice r.ga x.gaps.length r.gc, .slice r.da x.kids.length r.dc] 47)) (.cells #[.int .i64 0, .int .i64 0, .string ⟨#[]⟩, .slice none 0 0, .slice none 0 0] 47); simpa using this
      have v3 := (hbW.block F hFlt).trans hfh
      have HOW : Hid (W.ownsRow B 77 5 (.slice a2 n2 c2) n2 ((L ++ Pl.drows l u 0 k).flatMap cellsD)) := Lib.hid (owns_later HO2.out hbW)
      have HKW : Hid (Kp (fun b => b < W0.heap.size ∧ b ≠ F ∧ some b ≠ (Value.slice a n c).ownBlock) W0 W) := Lib.hid (HK2.out.trans (Kp.below hbW))
      have HTW := Lib.hid (hT.later hbW)
      have HWw := Lib.hid hW
      have HV1 := Lib.hid v1
      have HV2 := Lib.hid v2
      have HV3 := Lib.hid v3
      obtain ⟨⟨a0, a1, a2', a3, a4⟩, al⟩ := blk_five v1
      obtain ⟨⟨b0, b1, b2, b3, b4⟩, bl⟩ := blk_five v2
      have HFL := Lib.hid hfl
      have HF1 := Lib.hid hf1
      have hfk := hf2 k (Nat.le_refl _) hkl
      have HF3 : Hid (∀ j : Nat, k < j → j < l.length → fs[j]? = some ⟨#[]⟩) := Lib.hid (fun j hj hj2 => hf2 j (by omega) hj2)
      have hk0 : (0 : Int) ≤ (k : Int) := Int.natCast_nonneg _
      have hk1 : (k : Int) < (m : Int) := by omega
      -- what must hold behind the test on the parent
      have REST : ∀ (X : World) (pp pk : Int) (pt : ByteArray) (pg pd : Value), X.heap[wr.heap.size]? = some (.cells #[.int .i64 x.parent, .int .i64 x.kind, .string x.text, .slice r.ga x.gaps.length r.gc, .slice r.da x.kids.length r.dc] 47 (0, 0)) →
          X.heap[wr.heap.size + 1]? = some (.cells #[.int .i64 pp, .int .i64 pk, .string pt, pg, pd] 47 (0, 0)) → True := fun _ _ _ _ _ _ _ _ => trivial
      clear hn2' hown hfns hkp hTB hT hat hW hgx hints hfst hfl hf1 hf2 v1 v2 v3 hfh hbW REST
      by_cases hp : x.parent < 0
      · have hup : Pl.up l k = ⟨#[]⟩ := by unfold Pl.up; rw [hxr, if_pos hp]; rfl
        have hmt : Pl.mth l k = false := by unfold Pl.mth; rw [hxr]; simp; omega
        have hxk : fs[k]? = some (Pl.up l k) := by rw [hup]; exact hfk
        have hpk : decide ((0 : Int) = 7) = Pl.mth l k := by rw [hmt]; rfl
        have hpt : Pl.mth l k = true → (⟨#[]⟩ : ByteArray) = Pl.cls l k := fun e => by rw [hmt] at e; cases e
        go_upto_region 7 with (refine wpList_load_mid rfl 47 _ rfl rb (ro + k * 5) rfl [.int .i64 x.parent, .int .i64 x.kind, .string x.text, .slice r.ga x.gaps.length r.gc, .slice r.da x.kids.length r.dc] _ HAT.out Try.underlying47 rfl sizeR ?_)
        rw [← HWw.out]
        go_upto_region 9 with fail
        have hxl := HFL.out
        have HX1 := HV1
        have HX2 := HV2
        have HX3 := HV3
        have HX4 := HF1
        have HX5 := HF3
        have HOX := HOW
        have HKX := HKW
        clear hup hmt hp HV1 HV2 HV3 HF1 HF3 HOW HKW HWw a0 a1 a2' a3 a4 al b0 b1 b2 b3 b4 bl hfk
        obtain ⟨fx, hfx⟩ : ∃ fx, fx = fs := ⟨_, rfl⟩
        rw [← hfx] at hxk hxl HX3 HX4 HX5
        obtain ⟨pp, pk, pt, pg, pd, e1, e2, e3, e4, e5⟩ : ∃ (pp pk : Int) (pt : ByteArray) (pg pd : Value), pp = 0 ∧ pk = 0 ∧ pt = ⟨#[]⟩ ∧ pg = .slice none 0 0 ∧ pd = .slice none 0 0 := ⟨_, _, _, _, _, rfl, rfl, rfl, rfl, rfl⟩
        have HX2 : Hid (W.heap[wr.heap.size + 1]? = some (.cells #[.int .i64 pp, .int .i64 pk, .string pt, pg, pd] 47 (0, 0))) := by rw [e1, e2, e3, e4, e5]; exact HX2
        have hpk : decide (pk = 7) = Pl.mth l k := by rw [e2]; exact hpk
        have hpt : Pl.mth l k = true → pt = Pl.cls l k := by rw [e3]; exact hpt
        clear e1 e2 e3 e4 e5
        clear hfx
        generalize W = X at *
        have HFin : Hid (∀ (Y : World), Y.heap[F]? = some (.cells ((fx.set k (Pl.fnm l k)).map Value.string).toArray 9 (0, 0)) → FnsAt Y F l (k + 1)) := Lib.hid (fun Y hY => ⟨fx.set k (Pl.fnm l k), hY, by rw [List.length_set]; exact hxl, fun j hj => by
          by_cases e : j = k
          · subst e; rw [List.getElem?_set_self (by rw [hxl]; exact hkl)]
          · rw [List.getElem?_set_ne (by omega)]; exact HX4.out j (by omega), fun j hj hj2 => by rw [List.getElem?_set_ne (by omega)]; exact HX5.out j (by omega) hj2⟩)
        have HSet : Hid (Pl.fnm l k = Pl.up l k → fx.set k (Pl.fnm l k) = fx) := Lib.hid (fun e => by rw [e]; exact set_self hxk)
        obtain ⟨hc3, _⟩ := fns_cell HX3.out hxk
        have hFX : F < X.heap.size := lt_blk HX3.out
        obtain ⟨⟨r0, r1, r2, r3, r4⟩, rl⟩ := blk_five HX1.out
        obtain ⟨⟨s0, s1, s2, s3, s4⟩, sl⟩ := blk_five HX2.out
        have hds := dec_same x.kind x.text u k (Pl.up l k) (Pl.cls l k) pt (Pl.mth l k) hpt
        have C0 : ∀ z : Later X, Calls Try.prog 69 #[.int .i64 x.kind, rowA pp pk pt pg pd, .string (Pl.up l k)] z.u fun e w'' => e = .returned (dkV (Pl.decl1 x.kind x.text u k (Pl.up l k) (Pl.cls l k) (Pl.mth l k))) ∧ ∃ y : Later X, w'' = y.u :=
          fun z => (pdeclared_any x.kind pp pk pt pg pd (Pl.up l k) z.u x.text u k).mono fun e w'' ⟨he, hw⟩ => ⟨by rw [he, hpk, hds.1], ⟨w'', z.h.trans (hw.mono z.h.size)⟩, rfl⟩
        have k1 : ∀ z : Later X, z.u.cell? ⟨wr.heap.size, 1, none⟩ = some (.int .i64 x.kind) := fun z => (z.h.cell (p := ⟨_, _, none⟩) rl).trans r1
        have k3 : ∀ z : Later X, z.u.cell? ⟨F, k, none⟩ = some (.string (Pl.up l k)) := fun z => (z.h.cell (p := ⟨_, _, none⟩) hFX).trans hc3
        have k5 : ∀ z : Later X, (Instr.loadAt 47 (.pointer (some ⟨wr.heap.size + 1, 0, none⟩))).run Try.prog z.u = .ok (rowA pp pk pt pg pd) z.u := fun z =>
          run_loadAt_mid z.u (wr.heap.size + 1) 0 47 _ _ (blk_range ((z.h.block _ sl).trans HX2.out)) Try.underlying47 rfl sizeR
        have HUp := Lib.hid hxk
        generalize hD : Pl.decl1 x.kind x.text u k (Pl.up l k) (Pl.cls l k) (Pl.mth l k) = D at *
        have HDD := Lib.hid hD
        generalize Pl.up l k = up at *
        clear hD hds hc3 hxk hpk hpt hpar
        refine region_later (by kernel_rfl) (by kernel_rfl) ?_
        iterate 2 (go_big_quiet_step (fail))
        refine quiet_load (by rfl) 47 _ (by rfl) (.pointer (some ⟨wr.heap.size + 1, 0, none⟩)) _ (by rfl) (fun x hx => by obtain ⟨n, rfl⟩ := hx; exact k5 n) ?_
        simp only [Act.put, List.setIfInBounds_toArray, List.set_cons_succ, List.set_cons_zero]
        iterate 4 (go_big_quiet_step (fail))
        go_big_quiet_step (exact C0 _)
        cases D with
        | none =>
          have HK2' : Hid (x.kind ≠ 2) := Lib.hid (decl1_none HDD.out)
          unfold dkV
          iterate 5 (go_big_quiet_step (fail))
          refine wpQuiet_nil ?_
          intro _ hw'
          obtain ⟨n1, rfl⟩ := hw'
          go_wp2_with fail
          have hfe : Pl.fnm l k = up := by rw [HFS.out, fn1_not HK2'.out]
          refine ⟨⟨k + 1, a2, n2, c2, by omega, by go_num, rfl, by rw [HDR.out]; simp; simpa using HN2.out, by rw [HDR.out]; simp; simpa using owns_later HOX.out n1.h, HSep.out, HFin.out _ ?_, HKX.out.trans (Kp.below n1.h)⟩, by simp [intOf]; omega⟩
          rw [HSet.out hfe]
          exact (n1.h.block F hFX).trans HX3.out
        | some d =>
          obtain ⟨hd1, hd2, hd3, ⟨hd4, hd4'⟩, hd5⟩ := decl1_some HDD.out
          have hdz : ((d.kind : Int) == 0) = false := (int_no (by omega)).1
          unfold dkV
          iterate 5 (go_big_quiet_step (fail))
          refine wpQuiet_nil ?_
          intro _ hw'
          obtain ⟨n1, rfl⟩ := hw'
          have hobW : ∀ b, (Value.slice a2 n2 c2).ownBlock = some b → b < wr.heap.size := fun b hb => (HO2.out.lt b hb).2
          have HOW' := Lib.hid hobW
          have hX0 : wr.heap.size < n1.u.heap.size := Nat.lt_of_lt_of_le rl n1.h.size
          have hXF : F < n1.u.heap.size := Nat.lt_of_lt_of_le hFX n1.h.size
          have HA1 : Hid (n1.u.heap[wr.heap.size]? = some (.cells #[.int .i64 x.parent, .int .i64 x.kind, .string x.text, .slice r.ga x.gaps.length r.gc, .slice r.da x.kids.length r.dc] 47 (0, 0))) := Lib.hid ((n1.h.block _ rl).trans HX1.out)
          have HA3 : Hid (n1.u.heap[F]? = some (.cells (fx.map Value.string).toArray 9 (0, 0))) := Lib.hid ((n1.h.block _ hFX).trans HX3.out)
          have HON : Hid (n1.u.ownsRow B 77 5 (.slice a2 n2 c2) n2 ((L ++ Pl.drows l u 0 k).flatMap cellsD)) := Lib.hid (owns_later HOX.out n1.h)
          have HKN : Hid (Kp (fun b => b < W0.heap.size ∧ b ≠ F ∧ some b ≠ (Value.slice a n c).ownBlock) W0 n1.u) := Lib.hid (HKX.out.trans (Kp.below n1.h))
          have hn0 := HKN.out.size
          obtain ⟨⟨t0, t1, t2, t3, t4⟩, tl⟩ := blk_five HA1.out
          obtain ⟨kd, ow, nm, du, dn⟩ := d
          simp only at hd1 hd2 hd3 hd4 hd4' hd5 hdz
          have hd2 := hd2.symm
          subst hd1 hd2 hd3
          have HD5 := Lib.hid hd5
          clear C0 k1 k3 k5 hd5 hd4 hd4' hobW
          go_upto_region 12 with (at_builtin; go_loud (refine wpList_append_lies _ rfl (.tmp 55) (.tmp 64) 61 rfl B 77 i0 _ 5 56 Try.underlying61 hi0 hz0 hz1 hz2 rfl (by omega) (.slice a2 n2 c2) n2 ((L ++ Pl.drows l u 0 k).flatMap cellsD) rfl (HON.out.alloc _) ⟨n1.u.heap.size, 0, none⟩ 1 1 (cellsD ⟨kd, ow, x.text, u, k⟩) rfl rfl (World.news_of_block (cs := #[.int .i64 kd, .string ow, .string x.text, .int .i64 u, .int .i64 k]) (t := 77) (fr := (0, 0)) (heap_alloc_new n1.u _)) (by simp [Value.oneCell', cellsD]) (by omega) (by unfold maxLen; omega) (by omega) (by simp; omega) (n1.u.heap.size + 1) (by simp) ?_; intro g5 cap5 w5 hown5 hgrow5 hat5 hlt5; have HO5 := Lib.hid hown5; have HG5 := Lib.hid hgrow5; have HA5 := Lib.hid hat5; clear hown5 hgrow5 hat5))
          have hz5 := HG5.out.size
          have hz5' : n1.u.heap.size + 1 ≤ w5.heap.size := by simpa using hz5
          have m1 : w5.cell? ⟨wr.heap.size, 1, none⟩ = some (.int .i64 x.kind) := (World.cell?_of_block (w := n1.u) (a := ⟨wr.heap.size, 1, none⟩) ((HG5.out.block wr.heap.size (by simp; omega) (fun e => by have := HOW'.out _ e.symm; omega)).trans (Below.heap_alloc _ _ _ hX0))).trans t1
          have m2 : w5.cell? ⟨wr.heap.size, 2, none⟩ = some (.string x.text) := (World.cell?_of_block (w := n1.u) (a := ⟨wr.heap.size, 2, none⟩) ((HG5.out.block wr.heap.size (by simp; omega) (fun e => by have := HOW'.out _ e.symm; omega)).trans (Below.heap_alloc _ _ _ hX0))).trans t2
          have HF5 : Hid (w5.heap[F]? = some (.cells (fx.map Value.string).toArray 9 (0, 0))) := Lib.hid ((HG5.out.block F (by simp; omega) (fun e => hobF e.symm)).trans ((Below.heap_alloc _ _ _ hXF).trans HA3.out))
          have HK5 : Hid (Kp (fun b => b < W0.heap.size ∧ b ≠ F ∧ some b ≠ (Value.slice a n c).ownBlock) W0 w5) := Lib.hid ((HKN.out.alloc _).trans (Kp.grown HG5.out (fun b hb hS e => (HSep.out b e.symm).elim (fun h => hS.2.2 h.symm) (fun h => by have := hS.1; omega))))
          have HOF : Hid ((Value.slice (some (⟨g5, 0, none⟩ : Addr)) (n2 + 1) cap5).ownBlock ≠ some F) := Lib.hid (fun e => by
            simp [Value.ownBlock] at e
            subst e
            rcases HA5.out with h | h
            · exact hobF h
            · omega)
          have HSe5 : Hid (∀ b, (Value.slice (some (⟨g5, 0, none⟩ : Addr)) (n2 + 1) cap5).ownBlock = some b → (Value.slice a n c).ownBlock = some b ∨ W0.heap.size ≤ b) := Lib.hid (fun b e => by
            simp [Value.ownBlock] at e
            subst e
            rcases HA5.out with h | h
            · exact HSep.out _ h
            · exact .inr (by omega))
          have HN5 : Hid (n2 + 1 = (L ++ Pl.drows l u 0 (k + 1)).length) := Lib.hid (by rw [HDR.out]; simp only [Option.toList_some]; rw [← List.append_assoc, List.length_append, ← HN2.out]; rfl)
          have HOO : Hid (w5.ownsRow B 77 5 (.slice (some ⟨g5, 0, none⟩) (n2 + 1) cap5) (n2 + 1) ((L ++ Pl.drows l u 0 (k + 1)).flatMap cellsD)) := Lib.hid (by rw [HDR.out]; simp only [Option.toList_some]; rw [← List.append_assoc, flatten_snoc]; exact HO5.out)
          have f5 := fns_cell HF5.out HUp.out
          have g1 := f5.1
          have g2 := f5.2
          have hF5 : F < w5.heap.size := by omega
          clear hlt5 t0 t1 t2 t3 t4 tl r0 r1 r2 r3 r4 rl s0 s1 s2 s3 s4 sl hz5 f5
          by_cases hk2 : x.kind = 2
          · obtain ⟨hk4, hk5⟩ := HD5.out hk2
            have hmq : Pl.mth l k = Pl.mth l k := rfl
            have HNm := Lib.hid (fun w => pname_any (Pl.mth l k) (Pl.cls l k) x.text up w (by have := HCl.out; omega) (by omega))
            rw [← hk4, ← hk5] at HNm
            have HFe : Hid (Pl.fn1 2 x.text up (Pl.cls l k) (Pl.mth l k) = Pl.fnm l k) := Lib.hid (by rw [HFS.out, hk2])
            rw [HFe.out] at HNm
            rw [hk2] at m1
            clear hk4 hk5 hk2
            go_wp2_with (go_at_call 70; refine (HNm.out _).mono ?_; rintro e w6 ⟨rfl, rfl⟩)
            refine ⟨⟨k + 1, some ⟨g5, 0, none⟩, n2 + 1, cap5, by omega, by go_num, rfl, HN5.out, ownsRow_setCell_not HOO.out (fun e => HOF.out e) _, HSe5.out, HFin.out _ (fns_set HF5.out k (Pl.fnm l k)), HK5.out.setCell (p := ⟨F, k, none⟩) (fun h => h.2.1 rfl) _⟩, by simp [intOf]; omega⟩
          · have e2 := (int_no hk2).1
            have hfe : Pl.fnm l k = up := by rw [HFS.out, fn1_not hk2]
            clear hk2
            go_wp2_with fail
            refine ⟨⟨k + 1, some ⟨g5, 0, none⟩, n2 + 1, cap5, by omega, by go_num, rfl, HN5.out, HOO.out, HSe5.out, HFin.out _ (by rw [HSet.out hfe]; exact HF5.out), HK5.out⟩, by simp [intOf]; omega⟩
      · obtain ⟨p, hpp⟩ : ∃ p : Nat, x.parent = p := ⟨x.parent.toNat, by omega⟩
        have hpk' : p < k := by omega
        obtain ⟨y, r2, hgy, hyr, d0, d1, d2, d3, d4, _, hat2⟩ := HTW.out.row (i := p) (by omega)
        have HA2 := Lib.hid hat2
        have hup : Pl.up l k = Pl.fnm l p := by unfold Pl.up; rw [hxr, if_neg hp, hpp]
        have hmt : decide (y.kind = 7) = Pl.mth l k := by unfold Pl.mth; rw [hxr, hpp, hyr]; simp
        have hcl : y.text = Pl.cls l k := by unfold Pl.cls; rw [hxr, hpp, hyr]
        have hfp := HF1.out p hpk'
        obtain ⟨y0, y1⟩ := fns_cell HV3.out hfp
        obtain ⟨z0, z1⟩ := fns_cell HV3.out hfk
        have hge : ((p : Int) ≥ 0) := by omega
        have hFW : F < W.heap.size := by omega
        have q0 := (blk_one HV2.out 0 _ rfl).2
        have q1 := (blk_one HV2.out 1 _ rfl).2
        have q2 := (blk_one HV2.out 2 _ rfl).2
        have q3 := (blk_one HV2.out 3 _ rfl).2
        have q4 := (blk_one HV2.out 4 _ rfl).2
        have hrW : rb < W.heap.size := by omega
        have hpm : (p : Int) < (m : Int) := by omega
        have hp0 : (0 : Int) ≤ (p : Int) := Int.natCast_nonneg _
        rw [hpp] at a0 HWw
        clear hgy hat2 hge
        go_upto_region 7 with (refine wpList_load_mid rfl 47 _ rfl rb (ro + k * 5) rfl [.int .i64 x.parent, .int .i64 x.kind, .string x.text, .slice r.ga x.gaps.length r.gc, .slice r.da x.kids.length r.dc] _ HAT.out Try.underlying47 rfl sizeR ?_)
        rw [← HWw.out]
        go_upto_region 8 with fail
        clear hpp
        have HDR2 : Hid (∀ (wx : World) (x f : Nat), wx.drew.cell? ⟨x, f, none⟩ = wx.cell? ⟨x, f, none⟩) := Lib.hid fun _ _ _ => rfl
        have HNE : Hid (∀ (wx : World) (v : Value) (x f : Nat), ¬ (x = F ∧ f = k) → (wx.setCell ⟨F, k, none⟩ v).cell? ⟨x, f, none⟩ = wx.cell? ⟨x, f, none⟩) := Lib.hid fun wx v x f h => World.cell?_setCell_other wx _ _ _ (fun e => h (by injection e with e1 e2 e3; exact ⟨e1.symm, e2.symm⟩))
        go_region_held3 (fun w' => (∀ f : Nat, w'.cell? ⟨wr.heap.size, f, none⟩ = W.cell? ⟨wr.heap.size, f, none⟩) ∧ (∀ f : Nat, w'.cell? ⟨rb, f, none⟩ = W.cell? ⟨rb, f, none⟩) ∧ w'.cell? ⟨F, p, none⟩ = some (.string (Pl.fnm l p)))
          ((refine ⟨?_, ?_, ?_⟩ <;> ((try intro f); iterate 8 (first
            | (with_reducible exact rfl)
            | (with_reducible exact y0)
            | (with_reducible refine (HDR2.out _ _ _).trans ?_)
            | (with_reducible refine (HNE.out _ _ _ _ ?_).trans ?_; focus omega)
            | (with_reducible refine (cell_set5 ?_).trans ?_; focus omega)
            | skip))))
          (fail)
        obtain ⟨V, hV⟩ : ∃ V, V = ((((W.setCell ⟨wr.heap.size + 1, 0, none⟩ (.int .i64 y.parent)).setCell ⟨wr.heap.size + 1, 1, none⟩ (.int .i64 y.kind)).setCell ⟨wr.heap.size + 1, 2, none⟩ (.string (Pl.cls l k))).setCell ⟨wr.heap.size + 1, 3, none⟩ (.slice r2.ga y.gaps.length r2.gc)).setCell ⟨wr.heap.size + 1, 4, none⟩ (.slice r2.da y.kids.length r2.dc) := ⟨_, rfl⟩
        have hVs : V.heap.size = W.heap.size := by rw [hV]; simp [World.setCell]
        have hVx : ∀ b, b ≠ wr.heap.size + 1 → V.heap[b]? = W.heap[b]? := fun b hb => by rw [hV]; exact heap_set5 hb
        have hVp : V.heap[wr.heap.size + 1]? = some (.cells #[.int .i64 y.parent, .int .i64 y.kind, .string (Pl.cls l k), .slice r2.ga y.gaps.length r2.gc, .slice r2.da y.kids.length r2.dc] 47 (0, 0)) := by rw [hV]; exact set5_same HV2.out
        have hVK : Kp (fun b => b < W0.heap.size ∧ b ≠ F ∧ some b ≠ (Value.slice a n c).ownBlock) W0 V := by
          rw [hV]
          have hnot : ¬ (wr.heap.size + 1 < W0.heap.size ∧ wr.heap.size + 1 ≠ F ∧ some (wr.heap.size + 1) ≠ (Value.slice a n c).ownBlock) := fun h => by have := h.1; omega
          exact ((((HKW.out.setCell (p := ⟨wr.heap.size + 1, 0, none⟩) hnot _).setCell (p := ⟨wr.heap.size + 1, 1, none⟩) hnot _).setCell (p := ⟨wr.heap.size + 1, 2, none⟩) hnot _).setCell (p := ⟨wr.heap.size + 1, 3, none⟩) hnot _).setCell (p := ⟨wr.heap.size + 1, 4, none⟩) hnot _
        obtain ⟨X, hX⟩ : ∃ X, X = (V.setCell ⟨F, k, none⟩ (.string (Pl.fnm l p))).drew := ⟨_, rfl⟩
        rw [← hV, ← hX]
        have hXs : X.heap.size = wr.heap.size + 2 := by rw [hX]; show (V.setCell _ _).heap.size = _; simp [World.setCell]; omega
        have hXx : ∀ b, b ≠ F → X.heap[b]? = V.heap[b]? := fun b hb => by rw [hX]; exact Below.heap_setCell _ _ _ _ hb
        have HX1 : Hid (X.heap[wr.heap.size]? = some (.cells #[.int .i64 x.parent, .int .i64 x.kind, .string x.text, .slice r.ga x.gaps.length r.gc, .slice r.da x.kids.length r.dc] 47 (0, 0))) := Lib.hid ((hXx _ (by omega)).trans ((hVx _ (by omega)).trans HV1.out))
        have HX2 : Hid (X.heap[wr.heap.size + 1]? = some (.cells #[.int .i64 y.parent, .int .i64 y.kind, .string (Pl.cls l k), .slice r2.ga y.gaps.length r2.gc, .slice r2.da y.kids.length r2.dc] 47 (0, 0))) := Lib.hid ((hXx _ (by omega)).trans hVp)
        have HX3 : Hid (X.heap[F]? = some (.cells ((fs.set k (Pl.fnm l p)).map Value.string).toArray 9 (0, 0))) := Lib.hid (by rw [hX]; exact fns_set ((hVx F (by omega)).trans HV3.out) k (Pl.fnm l p))
        have HKX : Hid (Kp (fun b => b < W0.heap.size ∧ b ≠ F ∧ some b ≠ (Value.slice a n c).ownBlock) W0 X) := Lib.hid (by rw [hX]; exact (hVK.setCell (p := ⟨F, k, none⟩) (fun h => h.2.1 rfl) _).drew)
        have HOX : Hid (X.ownsRow B 77 5 (.slice a2 n2 c2) n2 ((L ++ Pl.drows l u 0 k).flatMap cellsD)) := Lib.hid (owns_keep HOW.out (fun b hb => by
          have hlt2 := (HO2.out.lt b hb).2
          exact (hXx b (fun e => hobF (by rw [hb, e]))).trans (hVx b (by omega))))
        have hfkl := hfk
        have HX4 : Hid (∀ j : Nat, j < k → (fs.set k (Pl.fnm l p))[j]? = some (Pl.fnm l j)) := Lib.hid (fun j hj => by rw [List.getElem?_set_ne (by omega)]; exact HF1.out j hj)
        have HX5 : Hid (∀ j : Nat, k < j → j < l.length → (fs.set k (Pl.fnm l p))[j]? = some ⟨#[]⟩) := Lib.hid (fun j hj hj2 => by rw [List.getElem?_set_ne (by omega)]; exact HF3.out j hj hj2)
        have hxl : (fs.set k (Pl.fnm l p)).length = l.length := by rw [List.length_set]; exact HFL.out
        have hxk : (fs.set k (Pl.fnm l p))[k]? = some (Pl.up l k) := by rw [List.getElem?_set_self (by have := HFL.out; omega), hup]
        have hpk := hmt
        have hpt : Pl.mth l k = true → Pl.cls l k = Pl.cls l k := fun _ => rfl
        have hzX : W0.heap.size ≤ X.heap.size := HKX.out.size
        clear hX hV hXx hVx hVp hVK hVs hup hmt hcl HV1 HV2 HV3 HF1 HF3 HOW HKW HWw a0 a1 a2' a3 a4 al b0 b1 b2 b3 b4 bl hfk hfkl y0 y1 z0 z1 q0 q1 q2 q3 q4 d0 d1 d2 d3 d4 hrW hFW hpm hp0 hfp HDR2 HNE HTW HA2 hyr
        generalize hfx : fs.set k (Pl.fnm l p) = fx at *
        clear hfx
        generalize Pl.cls l k = pt at *
        generalize y.parent = pp at *
        generalize y.kind = pk at *
        generalize Value.slice r2.ga y.gaps.length r2.gc = pg at *
        generalize Value.slice r2.da y.kids.length r2.dc = pd at *
        go_upto_region 9 with fail
        have HFin : Hid (∀ (Y : World), Y.heap[F]? = some (.cells ((fx.set k (Pl.fnm l k)).map Value.string).toArray 9 (0, 0)) → FnsAt Y F l (k + 1)) := Lib.hid (fun Y hY => ⟨fx.set k (Pl.fnm l k), hY, by rw [List.length_set]; exact hxl, fun j hj => by
          by_cases e : j = k
          · subst e; rw [List.getElem?_set_self (by rw [hxl]; exact hkl)]
          · rw [List.getElem?_set_ne (by omega)]; exact HX4.out j (by omega), fun j hj hj2 => by rw [List.getElem?_set_ne (by omega)]; exact HX5.out j (by omega) hj2⟩)
        have HSet : Hid (Pl.fnm l k = Pl.up l k → fx.set k (Pl.fnm l k) = fx) := Lib.hid (fun e => by rw [e]; exact set_self hxk)
        obtain ⟨hc3, _⟩ := fns_cell HX3.out hxk
        have hFX : F < X.heap.size := lt_blk HX3.out
        obtain ⟨⟨r0, r1, r2, r3, r4⟩, rl⟩ := blk_five HX1.out
        obtain ⟨⟨s0, s1, s2, s3, s4⟩, sl⟩ := blk_five HX2.out
        have hds := dec_same x.kind x.text u k (Pl.up l k) pt pt (Pl.mth l k) hpt
        have C0 : ∀ z : Later X, Calls Try.prog 69 #[.int .i64 x.kind, rowA pp pk pt pg pd, .string (Pl.up l k)] z.u fun e w'' => e = .returned (dkV (Pl.decl1 x.kind x.text u k (Pl.up l k) pt (Pl.mth l k))) ∧ ∃ y : Later X, w'' = y.u :=
          fun z => (pdeclared_any x.kind pp pk pt pg pd (Pl.up l k) z.u x.text u k).mono fun e w'' ⟨he, hw⟩ => ⟨by rw [he, hpk, hds.1], ⟨w'', z.h.trans (hw.mono z.h.size)⟩, rfl⟩
        have k1 : ∀ z : Later X, z.u.cell? ⟨wr.heap.size, 1, none⟩ = some (.int .i64 x.kind) := fun z => (z.h.cell (p := ⟨_, _, none⟩) rl).trans r1
        have k3 : ∀ z : Later X, z.u.cell? ⟨F, k, none⟩ = some (.string (Pl.up l k)) := fun z => (z.h.cell (p := ⟨_, _, none⟩) hFX).trans hc3
        have k5 : ∀ z : Later X, (Instr.loadAt 47 (.pointer (some ⟨wr.heap.size + 1, 0, none⟩))).run Try.prog z.u = .ok (rowA pp pk pt pg pd) z.u := fun z =>
          run_loadAt_mid z.u (wr.heap.size + 1) 0 47 _ _ (blk_range ((z.h.block _ sl).trans HX2.out)) Try.underlying47 rfl sizeR
        have HUp := Lib.hid hxk
        generalize hD : Pl.decl1 x.kind x.text u k (Pl.up l k) pt (Pl.mth l k) = D at *
        have HDD := Lib.hid hD
        generalize Pl.up l k = up at *
        clear hD hds hc3 hxk hpk hpt hpar
        refine region_later (by kernel_rfl) (by kernel_rfl) ?_
        iterate 2 (go_big_quiet_step (fail))
        refine quiet_load (by rfl) 47 _ (by rfl) (.pointer (some ⟨wr.heap.size + 1, 0, none⟩)) _ (by rfl) (fun x hx => by obtain ⟨n, rfl⟩ := hx; exact k5 n) ?_
        simp only [Act.put, List.setIfInBounds_toArray, List.set_cons_succ, List.set_cons_zero]
        iterate 4 (go_big_quiet_step (fail))
        go_big_quiet_step (exact C0 _)
        cases D with
        | none =>
          have HK2' : Hid (x.kind ≠ 2) := Lib.hid (decl1_none HDD.out)
          unfold dkV
          iterate 5 (go_big_quiet_step (fail))
          refine wpQuiet_nil ?_
          intro _ hw'
          obtain ⟨n1, rfl⟩ := hw'
          go_wp2_with fail
          have hfe : Pl.fnm l k = up := by rw [HFS.out, fn1_not HK2'.out]
          refine ⟨⟨k + 1, a2, n2, c2, by omega, by go_num, rfl, by rw [HDR.out]; simp; simpa using HN2.out, by rw [HDR.out]; simp; simpa using owns_later HOX.out n1.h, HSep.out, HFin.out _ ?_, HKX.out.trans (Kp.below n1.h)⟩, by simp [intOf]; omega⟩
          rw [HSet.out hfe]
          exact (n1.h.block F hFX).trans HX3.out
        | some d =>
          obtain ⟨hd1, hd2, hd3, ⟨hd4, hd4'⟩, hd5⟩ := decl1_some HDD.out
          have hdz : ((d.kind : Int) == 0) = false := (int_no (by omega)).1
          unfold dkV
          iterate 5 (go_big_quiet_step (fail))
          refine wpQuiet_nil ?_
          intro _ hw'
          obtain ⟨n1, rfl⟩ := hw'
          have hobW : ∀ b, (Value.slice a2 n2 c2).ownBlock = some b → b < wr.heap.size := fun b hb => (HO2.out.lt b hb).2
          have HOW' := Lib.hid hobW
          have hX0 : wr.heap.size < n1.u.heap.size := Nat.lt_of_lt_of_le rl n1.h.size
          have hXF : F < n1.u.heap.size := Nat.lt_of_lt_of_le hFX n1.h.size
          have HA1 : Hid (n1.u.heap[wr.heap.size]? = some (.cells #[.int .i64 x.parent, .int .i64 x.kind, .string x.text, .slice r.ga x.gaps.length r.gc, .slice r.da x.kids.length r.dc] 47 (0, 0))) := Lib.hid ((n1.h.block _ rl).trans HX1.out)
          have HA3 : Hid (n1.u.heap[F]? = some (.cells (fx.map Value.string).toArray 9 (0, 0))) := Lib.hid ((n1.h.block _ hFX).trans HX3.out)
          have HON : Hid (n1.u.ownsRow B 77 5 (.slice a2 n2 c2) n2 ((L ++ Pl.drows l u 0 k).flatMap cellsD)) := Lib.hid (owns_later HOX.out n1.h)
          have HKN : Hid (Kp (fun b => b < W0.heap.size ∧ b ≠ F ∧ some b ≠ (Value.slice a n c).ownBlock) W0 n1.u) := Lib.hid (HKX.out.trans (Kp.below n1.h))
          have hn0 := HKN.out.size
          obtain ⟨⟨t0, t1, t2, t3, t4⟩, tl⟩ := blk_five HA1.out
          obtain ⟨kd, ow, nm, du, dn⟩ := d
          simp only at hd1 hd2 hd3 hd4 hd4' hd5 hdz
          have hd2 := hd2.symm
          subst hd1 hd2 hd3
          have HD5 := Lib.hid hd5
          clear C0 k1 k3 k5 hd5 hd4 hd4' hobW
          go_upto_region 12 with (at_builtin; go_loud (refine wpList_append_lies _ rfl (.tmp 55) (.tmp 64) 61 rfl B 77 i0 _ 5 56 Try.underlying61 hi0 hz0 hz1 hz2 rfl (by omega) (.slice a2 n2 c2) n2 ((L ++ Pl.drows l u 0 k).flatMap cellsD) rfl (HON.out.alloc _) ⟨n1.u.heap.size, 0, none⟩ 1 1 (cellsD ⟨kd, ow, x.text, u, k⟩) rfl rfl (World.news_of_block (cs := #[.int .i64 kd, .string ow, .string x.text, .int .i64 u, .int .i64 k]) (t := 77) (fr := (0, 0)) (heap_alloc_new n1.u _)) (by simp [Value.oneCell', cellsD]) (by omega) (by unfold maxLen; omega) (by omega) (by simp; omega) (n1.u.heap.size + 1) (by simp) ?_; intro g5 cap5 w5 hown5 hgrow5 hat5 hlt5; have HO5 := Lib.hid hown5; have HG5 := Lib.hid hgrow5; have HA5 := Lib.hid hat5; clear hown5 hgrow5 hat5))
          have hz5 := HG5.out.size
          have hz5' : n1.u.heap.size + 1 ≤ w5.heap.size := by simpa using hz5
          have m1 : w5.cell? ⟨wr.heap.size, 1, none⟩ = some (.int .i64 x.kind) := (World.cell?_of_block (w := n1.u) (a := ⟨wr.heap.size, 1, none⟩) ((HG5.out.block wr.heap.size (by simp; omega) (fun e => by have := HOW'.out _ e.symm; omega)).trans (Below.heap_alloc _ _ _ hX0))).trans t1
          have m2 : w5.cell? ⟨wr.heap.size, 2, none⟩ = some (.string x.text) := (World.cell?_of_block (w := n1.u) (a := ⟨wr.heap.size, 2, none⟩) ((HG5.out.block wr.heap.size (by simp; omega) (fun e => by have := HOW'.out _ e.symm; omega)).trans (Below.heap_alloc _ _ _ hX0))).trans t2
          have HF5 : Hid (w5.heap[F]? = some (.cells (fx.map Value.string).toArray 9 (0, 0))) := Lib.hid ((HG5.out.block F (by simp; omega) (fun e => hobF e.symm)).trans ((Below.heap_alloc _ _ _ hXF).trans HA3.out))
          have HK5 : Hid (Kp (fun b => b < W0.heap.size ∧ b ≠ F ∧ some b ≠ (Value.slice a n c).ownBlock) W0 w5) := Lib.hid ((HKN.out.alloc _).trans (Kp.grown HG5.out (fun b hb hS e => (HSep.out b e.symm).elim (fun h => hS.2.2 h.symm) (fun h => by have := hS.1; omega))))
          have HOF : Hid ((Value.slice (some (⟨g5, 0, none⟩ : Addr)) (n2 + 1) cap5).ownBlock ≠ some F) := Lib.hid (fun e => by
            simp [Value.ownBlock] at e
            subst e
            rcases HA5.out with h | h
            · exact hobF h
            · omega)
          have HSe5 : Hid (∀ b, (Value.slice (some (⟨g5, 0, none⟩ : Addr)) (n2 + 1) cap5).ownBlock = some b → (Value.slice a n c).ownBlock = some b ∨ W0.heap.size ≤ b) := Lib.hid (fun b e => by
            simp [Value.ownBlock] at e
            subst e
            rcases HA5.out with h | h
            · exact HSep.out _ h
            · exact .inr (by omega))
          have HN5 : Hid (n2 + 1 = (L ++ Pl.drows l u 0 (k + 1)).length) := Lib.hid (by rw [HDR.out]; simp only [Option.toList_some]; rw [← List.append_assoc, List.length_append, ← HN2.out]; rfl)
          have HOO : Hid (w5.ownsRow B 77 5 (.slice (some ⟨g5, 0, none⟩) (n2 + 1) cap5) (n2 + 1) ((L ++ Pl.drows l u 0 (k + 1)).flatMap cellsD)) := Lib.hid (by rw [HDR.out]; simp only [Option.toList_some]; rw [← List.append_assoc, flatten_snoc]; exact HO5.out)
          have f5 := fns_cell HF5.out HUp.out
          have g1 := f5.1
          have g2 := f5.2
          have hF5 : F < w5.heap.size := by omega
          clear hlt5 t0 t1 t2 t3 t4 tl r0 r1 r2 r3 r4 rl s0 s1 s2 s3 s4 sl hz5 f5
          by_cases hk2 : x.kind = 2
          · obtain ⟨hk4, hk5⟩ := HD5.out hk2
            have hmq : Pl.mth l k = Pl.mth l k := rfl
            have HNm := Lib.hid (fun w => pname_any (Pl.mth l k) pt x.text up w (by have := HCl.out; omega) (by omega))
            rw [← hk4, ← hk5] at HNm
            have HFe : Hid (Pl.fn1 2 x.text up pt (Pl.mth l k) = Pl.fnm l k) := Lib.hid (by rw [HFS.out, hk2])
            rw [HFe.out] at HNm
            rw [hk2] at m1
            clear hk4 hk5 hk2
            go_wp2_with (go_at_call 70; refine (HNm.out _).mono ?_; rintro e w6 ⟨rfl, rfl⟩)
            refine ⟨⟨k + 1, some ⟨g5, 0, none⟩, n2 + 1, cap5, by omega, by go_num, rfl, HN5.out, ownsRow_setCell_not HOO.out (fun e => HOF.out e) _, HSe5.out, HFin.out _ (fns_set HF5.out k (Pl.fnm l k)), HK5.out.setCell (p := ⟨F, k, none⟩) (fun h => h.2.1 rfl) _⟩, by simp [intOf]; omega⟩
          · have e2 := (int_no hk2).1
            have hfe : Pl.fnm l k = up := by rw [HFS.out, fn1_not hk2]
            clear hk2
            go_wp2_with fail
            refine ⟨⟨k + 1, some ⟨g5, 0, none⟩, n2 + 1, cap5, by omega, by go_num, rfl, HN5.out, HOO.out, HSe5.out, HFin.out _ (by rw [HSet.out hfe]; exact HF5.out), HK5.out⟩, by simp [intOf]; omega⟩
    · have hkm : k = m := by omega
      subst hkm
      clear hn2' hown hfns hkp
      go_wp2_with fail
      go_ret
      exact ⟨a2, n2, c2, rfl, HN2.out, HO2.out, ⟨HK2.out.os.trans HW0.out.os, HK2.out.tape.trans HW0.out.tape, HK2.out.output.trans HW0.out.output, Nat.le_trans HW0.out.size HK2.out.size, fun b hb hne => (HK2.out.block b (by omega) ⟨by omega, by omega, hne⟩).trans (HW0.out.block b hb)⟩⟩
set_option maxHeartbeats 1600000 in
/-- The declarations of units, as the program lists them. -/
theorem pdecls_any (a : Option Addr) (n c : Nat) (us : List Pl.Un) (R : Nat → Sl) (w : World) (hU : IsU w a us R) (hF : Few us) (hn : n = us.length) :
    Calls Try.prog 34 #[.slice a n c] w (DeclsP (Pl.decls us) w) := by
  have hn4 : n ≤ 4 := by rw [hn]; exact hF.1
  have HU := Lib.hid hU
  have HF := Lib.hid hF
  have HN := Lib.hid hn
  clear hU hF hn
  go_enter Try.func34, Try.ntmps34
  go_wp2_with fail
  go_loopw [3, 8] (fun v i wr => ∃ (k : Nat) (a2 : Option Addr) (n2 c2 : Nat), k ≤ n ∧ i = .int .i64 k ∧ v = .slice a2 n2 c2 ∧ n2 = (Pl.declsTo us k).length ∧ wr.ownsRow w.heap.size 77 5 (.slice a2 n2 c2) n2 ((Pl.declsTo us k).flatMap cellsD) ∧ Below w.heap.size w wr) (fun _ i _ => n - (intOf i).toNat)
  case atStart => exact ⟨0, none, 0, 0, Nat.zero_le _, rfl, rfl, rfl, World.ownsRow_nil _ _ _ _, Below.refl _ _⟩
  case round =>
    obtain ⟨k, a2, n2, c2, hk, rfl, rfl, hn2, hown, hbel⟩ := hrel
    have HN2 := Lib.hid hn2
    have HO := Lib.hid hown
    have HB := Lib.hid hbel
    have hgr := hbel.size
    by_cases hlt : k < n
    · have hkx : k < us.length := by rw [← HN.out]; exact hlt
      have hx := List.getElem?_eq_getElem hkx
      have HS := Lib.hid (Pl.declsTo_succ us k _ hx)
      have hlit := HF.out.2 _ (List.getElem_mem hkx)
      have hdl := declsTo_len us HF.out k (by omega)
      obtain ⟨b, o, rfl, hb, hrg, hT⟩ := HU.out.one hx
      have hk0 : (0 : Int) ≤ (k : Int) := Int.natCast_nonneg _
      have hk1 : (k : Int) < (n : Int) := by omega
      generalize us[k] = x at *
      generalize R k = r at *
      have HRG : Hid (wr.rangeAt b (o + k * 7) [.string x.path, .string x.text, .int .i64 x.tree.kind, .string x.tree.text, .slice r.ga x.tree.gaps.length r.gc, .slice r.da x.tree.kids.length r.dc, .bool x.broken]) := Lib.hid (fun i v hv => (hbel.cell (p := ⟨b, o + k * 7 + i, none⟩) hb).trans (hrg i v hv))
      have hle : n2 ≤ 800 := by rw [hn2]; omega
      obtain ⟨W, hW⟩ : ∃ W, W = wr.alloc (.cells #[.string x.path, .string x.text, .int .i64 x.tree.kind, .string x.tree.text, .slice r.ga x.tree.gaps.length r.gc, .slice r.da x.tree.kids.length r.dc, .bool x.broken] 56) := ⟨_, rfl⟩
      have v1 : W.heap[wr.heap.size]? = some (.cells #[.string x.path, .string x.text, .int .i64 x.tree.kind, .string x.tree.text, .slice r.ga x.tree.gaps.length r.gc, .slice r.da x.tree.kids.length r.dc, .bool x.broken] 56 (0, 0)) := by rw [hW]; exact heap_alloc_new _ _
      have hbW : Below wr.heap.size wr W := by rw [hW]; exact below_1 _ _
      have HBW : Hid (Below w.heap.size w W) := Lib.hid (HB.out.trans (hbW.mono hgr))
      have HOW : Hid (W.ownsRow w.heap.size 77 5 (.slice a2 n2 c2) n2 ((Pl.declsTo us k).flatMap cellsD)) := Lib.hid (owns_later HO.out hbW)
      have q2 := (blk_one v1 2 _ rfl).1
      have q3 := (blk_one v1 3 _ rfl).1
      have q4 := (blk_one v1 4 _ rfl).1
      have q5 := (blk_one v1 5 _ rfl).1
      have q6 := (blk_one v1 6 _ rfl).1
      have hzW := hbW.size
      have HWw := Lib.hid hW
      clear hx hrg hn2 hown hbel v1 hW hbW
      cases hbr : x.broken with
      | true =>
        have HS2 : Hid (Pl.declsTo us (k + 1) = Pl.declsTo us k) := Lib.hid (by rw [HS.out]; unfold Pl.declsOf; rw [if_pos hbr, List.append_nil])
        rw [hbr] at q6 HWw HRG
        go_upto_region 5 with (refine wpList_load_mid rfl 56 _ rfl b (o + k * 7) rfl [.string x.path, .string x.text, .int .i64 x.tree.kind, .string x.tree.text, .slice r.ga x.tree.gaps.length r.gc, .slice r.da x.tree.kids.length r.dc, .bool true] _ HRG.out Try.underlying56 rfl sizeUn ?_)
        rw [← HWw.out]
        clear hbr
        go_wp2_with fail
        exact ⟨⟨k + 1, a2, n2, c2, by omega, by go_num, rfl, by rw [HS2.out]; exact HN2.out, by rw [HS2.out]; exact HOW.out, HBW.out⟩, by simp [intOf]; omega⟩
      | false =>
        have HS2 : Hid (Pl.declsTo us (k + 1) = Pl.declsTo us k ++ Pl.drows (Pl.tab x.tree 0 (-1)) k 0 (Pl.tab x.tree 0 (-1)).length) := Lib.hid (by
          rw [HS.out, Pl.declsOf_rows x (by have := hlit.1; omega)]
          have : Pl.tbl x = Pl.tab x.tree 0 (-1) := by unfold Pl.tbl; rw [if_neg (by simp [hbr])]
          rw [this])
        rw [hbr] at q6 HWw HRG
        have HAp := Lib.hid (pappend_at hT (fun b h => h) hlit W (Same.below HBW.out fun _ h => h) HBW.out.size w.heap.size (Nat.le_refl _) HBW.out.size a2 n2 c2 (Pl.declsTo us k) k HN2.out (by omega) HOW.out)
        obtain ⟨ga, gc, da, dc⟩ := r
        clear hbr hT
        go_upto_region 5 with (refine wpList_load_mid rfl 56 _ rfl b (o + k * 7) rfl [.string x.path, .string x.text, .int .i64 x.tree.kind, .string x.tree.text, .slice ga x.tree.gaps.length gc, .slice da x.tree.kids.length dc, .bool false] _ HRG.out Try.underlying56 rfl sizeUn ?_)
        rw [← HWw.out]
        go_wp2_with (go_at_call 56; refine HAp.out.mono ?_; rintro e w5 ⟨a5, n5, c5, rfl, hn5, hown5, hgr5⟩; have HN5 := Lib.hid hn5; have HO5 := Lib.hid hown5; have HG5 := Lib.hid hgr5; clear hn5 hown5 hgr5)
        refine ⟨⟨k + 1, a5, n5, c5, by omega, by go_num, rfl, by rw [HS2.out]; exact HN5.out, by rw [HS2.out]; exact HO5.out, HBW.out.grown HG5.out HBW.out.size (fun z hz => (HOW.out.lt z hz).1)⟩, by simp [intOf]; omega⟩
    · have hkn : k = n := by omega
      subst hkn
      have HD : Hid (Pl.declsTo us k = Pl.decls us) := Lib.hid (by unfold Pl.decls; rw [HN.out])
      go_wp2_with fail
      go_ret
      obtain ⟨a3, c3, he, hf⟩ := flat_row (cl := cellsD) (fun _ => rfl) (by decide) HO.out HN2.out
      exact ⟨a3, c3, by rw [he, HD.out]; rfl, by rw [← HD.out]; exact hf, HB.out⟩
end Go.Proofs.Ytoelfiendfemaaa

namespace Go.Proofs.Ytoelfiendfemaaa
open Go.RowKit Go.Deep
set_option linter.unusedVariables false
set_option linter.unusedSimpArgs false
set_option maxRecDepth 100000

/-- make of tables. -/
theorem make_tabs (n : Nat) (hn : n ≤ 1099511627776) (w : World) :
    (Instr.makeSlice 39 (.int .i64 (n : Int)) (.int .i64 (n : Int))).run Try.prog w = .ok (.slice (some ⟨w.heap.size, 0, none⟩) n n) (w.alloc (.cells (madeCells #[.slice none 0 0] n) 44)) := by
  obtain ⟨i, hi, hz, hs, hb⟩ := info_parts infoT
  have h := run_make (P := Try.prog) w 39 44 i _ Try.underlying39 hi hz .i64 .i64 n n (by omega) (Int.le_refl _) (by rw [hb]; omega) (by omega)
  rw [hs] at h
  simpa [Value.cells] using h
/-- A table's slice. -/
def slV (x : List Pl.Rw × Pt) : Value := .slice x.2.a x.1.length x.2.c
def noTab : List Pl.Rw × Pt := ([], ⟨none, 0, fun _ => ⟨none, 0, none, 0⟩⟩)
theorem made_tabs (n : Nat) : madeCells #[.slice none 0 0] n = ((List.replicate n noTab).map slV).toArray := by
  apply Array.ext'
  simp [madeCells, Nat.mod_one]
  rw [List.map_const', List.length_range]
  rfl
/-- A list of tables in a block of the call's own. -/
def TabsAt (w : World) (F : Nat) (L : List (List Pl.Rw × Pt)) : Prop :=
  w.heap[F]? = some (.cells (L.map slV).toArray 44 (0, 0)) ∧ ∀ (q : Nat) x, L[q]? = some x → TabIn (fun b => b < w.heap.size ∧ b ≠ F) w x.2.a x.1 x.2.R
theorem TabsAt.tabsIn {w : World} {F : Nat} {L : List (List Pl.Rw × Pt)} (h : TabsAt w F L) (hl : L.length ≤ maxLen) : TabsIn w (some ⟨F, 0, none⟩) (L.map Prod.fst) :=
  ⟨L, rfl, ⟨hl, .inr ⟨F, 0, rfl, lt_blk h.1, fun j x hx f v hv => by
    have hj := (List.getElem?_eq_some_iff.1 hv).1
    obtain rfl : f = 0 := by have : f < 1 := hj; omega
    have hv2 : v = slV x := by simpa [cellsT, slV] using hv.symm
    have := (blk_one h.1 j (slV x) (by simp [hx])).1
    rw [Nat.zero_add, Nat.mul_one, Nat.add_zero, hv2]; exact this⟩⟩, fun q x hx => (h.2 q x hx).keep (Same.refl _ _) fun b hb => hb.1⟩
set_option maxHeartbeats 1600000 in
theorem ptables_any (a : Option Addr) (n c : Nat) (us : List Pl.Un) (R : Nat → Sl) (w : World) (hU : IsU w a us R) (hF : Few us) (hn : n = us.length) :
    Calls Try.prog 32 #[.slice a n c] w (TabsP (Pl.tbls us) w) := by
  have hn4 : n ≤ 4 := by rw [hn]; exact hF.1
  have hmk := make_tabs n (by omega)
  have HU := Lib.hid hU
  have HF := Lib.hid hF
  have HN := Lib.hid hn
  clear hU hF hn
  go_enter Try.func32, Try.ntmps32
  go_wp2_with fail
  obtain ⟨W0, hW0⟩ : ∃ W0, W0 = w.alloc (.cells (madeCells #[.slice none 0 0] n) 44) := ⟨_, rfl⟩
  have hz0 : W0.heap.size = w.heap.size + 1 := by rw [hW0]; simp
  have HW0 : Hid (Below w.heap.size w W0) := Lib.hid (by rw [hW0]; exact below_1 _ _)
  have HT0 : Hid (TabsAt W0 w.heap.size (List.replicate n noTab)) := Lib.hid ⟨by rw [hW0, heap_alloc_new, made_tabs], fun q x hx => by
    rw [List.getElem?_replicate] at hx
    split at hx
    · cases hx; exact ⟨by decide, .inl rfl, fun q x h => by cases q <;> cases h⟩
    · cases hx⟩
  rw [← hW0]
  clear hW0 hmk
  go_loopw [11] (fun i wr => ∃ (k : Nat) (L : List (List Pl.Rw × Pt)), k ≤ n ∧ i = .int .i64 k ∧ L.length = n ∧ L.map Prod.fst = (Pl.tbls us).take k ++ List.replicate (n - k) [] ∧ TabsAt wr w.heap.size L ∧ Below w.heap.size w wr) (fun i _ => n - (intOf i).toNat)
  case atStart => exact ⟨0, List.replicate n noTab, Nat.zero_le _, rfl, by simp, by simp [noTab], HT0.out, HW0.out⟩
  case round =>
    obtain ⟨k, L, hk, rfl, hL1, hL2, htab, hbel⟩ := hrel
    have HL1 := Lib.hid hL1
    have HL2 := Lib.hid hL2
    have HT := Lib.hid htab
    have HB := Lib.hid hbel
    have hgr := hbel.size
    have hFr : w.heap.size < wr.heap.size := lt_blk htab.1
    by_cases hlt : k < n
    · have hkx : k < us.length := by rw [← HN.out]; exact hlt
      have hx := List.getElem?_eq_getElem hkx
      have hlit := HF.out.2 _ (List.getElem_mem hkx)
      have HTk : Hid ((Pl.tbls us).take (k + 1) = (Pl.tbls us).take k ++ [Pl.tbl us[k]]) := Lib.hid (by
        rw [List.take_succ_eq_append_getElem (by unfold Pl.tbls; rw [List.length_map]; exact hkx)]
        unfold Pl.tbls
        rw [List.getElem_map])
      have htl : ((Pl.tbls us).take k).length = k := by unfold Pl.tbls; rw [List.length_take, List.length_map]; omega
      obtain ⟨b, o, rfl, hb, hrg, hT⟩ := HU.out.one hx
      have hk0 : (0 : Int) ≤ (k : Int) := Int.natCast_nonneg _
      have hk1 : (k : Int) < (n : Int) := by omega
      generalize us[k] = x at *
      generalize R k = r at *
      have HRG : Hid (wr.rangeAt b (o + k * 7) [.string x.path, .string x.text, .int .i64 x.tree.kind, .string x.tree.text, .slice r.ga x.tree.gaps.length r.gc, .slice r.da x.tree.kids.length r.dc, .bool x.broken]) := Lib.hid (fun i v hv => (hbel.cell (p := ⟨b, o + k * 7 + i, none⟩) hb).trans (hrg i v hv))
      obtain ⟨W, hW⟩ : ∃ W, W = wr.alloc (.cells #[.string x.path, .string x.text, .int .i64 x.tree.kind, .string x.tree.text, .slice r.ga x.tree.gaps.length r.gc, .slice r.da x.tree.kids.length r.dc, .bool x.broken] 56) := ⟨_, rfl⟩
      have v1 : W.heap[wr.heap.size]? = some (.cells #[.string x.path, .string x.text, .int .i64 x.tree.kind, .string x.tree.text, .slice r.ga x.tree.gaps.length r.gc, .slice r.da x.tree.kids.length r.dc, .bool x.broken] 56 (0, 0)) := by rw [hW]; exact heap_alloc_new _ _
      have hbW : Below wr.heap.size wr W := by rw [hW]; exact below_1 _ _
      have HBW : Hid (Below w.heap.size w W) := Lib.hid (HB.out.trans (hbW.mono hgr))
      have HTW : Hid (TabsAt W w.heap.size L) := Lib.hid ⟨(hbW.block _ hFr).trans HT.out.1, fun q y hy => (HT.out.2 q y hy).keep (fun z hz => hbW.block z hz.1) fun z hz => ⟨Nat.lt_of_lt_of_le hz.1 hbW.size, hz.2⟩⟩
      have q2 := (blk_one v1 2 _ rfl).1
      have q3 := (blk_one v1 3 _ rfl).1
      have q4 := (blk_one v1 4 _ rfl).1
      have q5 := (blk_one v1 5 _ rfl).1
      have q6 := (blk_one v1 6 _ rfl).1
      have hzW := hbW.size
      have HWw := Lib.hid hW
      clear hx hrg hL1 hL2 htab hbel v1 hW hbW
      cases hbr : x.broken with
      | true =>
        have HE : Hid (Pl.tbl x = []) := Lib.hid (by unfold Pl.tbl; rw [if_pos hbr])
        rw [hbr] at q6 HWw HRG
        go_upto_region 5 with (refine wpList_load_mid rfl 56 _ rfl b (o + k * 7) rfl [.string x.path, .string x.text, .int .i64 x.tree.kind, .string x.tree.text, .slice r.ga x.tree.gaps.length r.gc, .slice r.da x.tree.kids.length r.dc, .bool true] _ HRG.out Try.underlying56 rfl sizeUn ?_)
        rw [← HWw.out]
        clear hbr
        go_wp2_with fail
        refine ⟨⟨k + 1, L, by omega, by go_num, HL1.out, ?_, HTW.out, HBW.out⟩, by simp [intOf]; omega⟩
        rw [HL2.out, HTk.out, HE.out, List.append_assoc]
        congr 1
        rw [show n - k = (n - (k + 1)) + 1 by omega, List.replicate_succ]
        rfl
      | false =>
        have HE : Hid (Pl.tbl x = Pl.tab x.tree 0 (-1)) := Lib.hid (by unfold Pl.tbl; rw [if_neg (by simp [hbr])])
        rw [hbr] at q6 HWw HRG
        have HR := Lib.hid (prows_at hT (fun b h => h) W (Same.below HBW.out fun _ h => h) HBW.out.size (fun y hy => by have := (hlit.2 y hy).1; omega) (by have := hlit.1; omega))
        rw [← HE.out] at HR
        obtain ⟨ga, gc, da, dc⟩ := r
        clear hbr hT
        go_upto_region 5 with (refine wpList_load_mid rfl 56 _ rfl b (o + k * 7) rfl [.string x.path, .string x.text, .int .i64 x.tree.kind, .string x.tree.text, .slice ga x.tree.gaps.length gc, .slice da x.tree.kids.length dc, .bool false] _ HRG.out Try.underlying56 rfl sizeUn ?_)
        rw [← HWw.out]
        clear HRG HWw
        have hcl := fun (w2 : World) (hb2 : Below W.heap.size W w2) => blk_one ((hb2.block w.heap.size (by omega)).trans HTW.out.1) k (slV (L[k]'(by rw [HL1.out]; exact hlt))) (by rw [List.getElem?_toArray, List.getElem?_map, List.getElem?_eq_getElem (by rw [HL1.out]; exact hlt)]; rfl)
        go_wp2_with (go_at_call 45; refine HR.out.mono ?_; rintro e w2 ⟨ta, tc, TR, rfl, hti, hb2⟩; have HTI := Lib.hid hti; have HB2 := Lib.hid hb2; have hz2 := hb2.size; have e1 := (hcl w2 hb2).1; have e2 := (hcl w2 hb2).2; clear hti hb2 hcl)
        have hset : (w2.setCell ⟨w.heap.size, k, none⟩ (.slice ta (Pl.tbl x).length tc)).heap[w.heap.size]? = some (.cells ((L.set k (Pl.tbl x, ⟨ta, tc, TR⟩)).map slV).toArray 44 (0, 0)) := by
          rw [heap_setCell_same _ _ _ _ _ _ ((HB2.out.block w.heap.size (by omega)).trans HTW.out.1)]
          congr 2
          apply Array.ext'
          simp [List.map_set, slV]
        have hoth : ∀ z, z ≠ w.heap.size → (w2.setCell ⟨w.heap.size, k, none⟩ (.slice ta (Pl.tbl x).length tc)).heap[z]? = w2.heap[z]? := fun z hz => Below.heap_setCell _ _ _ _ hz
        refine ⟨⟨k + 1, L.set k (Pl.tbl x, ⟨ta, tc, TR⟩), by omega, by go_num, by rw [List.length_set]; exact HL1.out, ?_, ⟨hset, fun q y hy => ?_⟩, (HBW.out.trans (HB2.out.mono HBW.out.size)).setCell (p := ⟨w.heap.size, k, none⟩) (Nat.le_refl _) _⟩, by simp [intOf]; omega⟩
        · rw [List.map_set, HL2.out, HTk.out]
          rw [show n - k = (n - (k + 1)) + 1 by omega, List.replicate_succ, List.set_append, if_neg (by omega), htl, Nat.sub_self, List.set_cons_zero, List.append_assoc]
          rfl
        · by_cases e : q = k
          · subst e
            rw [List.getElem?_set_self (by rw [HL1.out]; exact hlt)] at hy
            cases hy
            refine HTI.out.keep (fun z hz => hoth z (by have := hz.1; omega)) (fun z hz => ⟨by simp [World.setCell]; exact hz.2, by have := hz.1; omega⟩)
          · rw [List.getElem?_set_ne (fun e2 => e e2.symm)] at hy
            refine (HTW.out.2 q y hy).keep (fun z hz => (hoth z hz.2).trans (HB2.out.block z hz.1)) (fun z hz => ⟨by simp [World.setCell]; have := hz.1; omega, hz.2⟩)
    · have hkn : k = n := by omega
      subst hkn
      have HD : Hid (L.map Prod.fst = Pl.tbls us) := Lib.hid (by rw [HL2.out, Nat.sub_self, List.replicate_zero, List.append_nil, List.take_of_length_le (by unfold Pl.tbls; rw [List.length_map, HN.out]; exact Nat.le_refl _)])
      have HDl : Hid (k = (Pl.tbls us).length) := Lib.hid (by rw [← HD.out, List.length_map, HL1.out])
      clear hL1 hL2 htab hbel
      go_wp2_with fail
      go_ret
      exact ⟨some ⟨w.heap.size, 0, none⟩, k, by rw [← HDl.out]; rfl, by rw [← HD.out]; exact HT.out.tabsIn (by rw [HL1.out]; unfold maxLen; omega), HB.out⟩
end Go.Proofs.Ytoelfiendfemaaa

namespace Go.Proofs.Ytoelfiendfemaaa
open Go.RowKit Go.Deep
set_option linter.unusedVariables false
set_option linter.unusedSimpArgs false
set_option maxRecDepth 100000

set_option maxHeartbeats 1600000 in
theorem ptables_at (a : Option Addr) (n c : Nat) (us : List Pl.Un) (R : Nat → Sl) (w : World) (hU : IsU w a us R) (hF : Few us) (hn : n = us.length) :
    Calls Try.prog 32 #[.slice a n c] w (fun e w' => ∃ F c, e = .returned (.slice (some ⟨F, 0, none⟩) (Pl.tbls us).length c) ∧ w.heap.size ≤ F ∧ TabsIn w' (some ⟨F, 0, none⟩) (Pl.tbls us) ∧ Below w.heap.size w w') := by
  have hn4 : n ≤ 4 := by rw [hn]; exact hF.1
  have hmk := make_tabs n (by omega)
  have HU := Lib.hid hU
  have HF := Lib.hid hF
  have HN := Lib.hid hn
  clear hU hF hn
  go_enter Try.func32, Try.ntmps32
  go_wp2_with fail
  obtain ⟨W0, hW0⟩ : ∃ W0, W0 = w.alloc (.cells (madeCells #[.slice none 0 0] n) 44) := ⟨_, rfl⟩
  have hz0 : W0.heap.size = w.heap.size + 1 := by rw [hW0]; simp
  have HW0 : Hid (Below w.heap.size w W0) := Lib.hid (by rw [hW0]; exact below_1 _ _)
  have HT0 : Hid (TabsAt W0 w.heap.size (List.replicate n noTab)) := Lib.hid ⟨by rw [hW0, heap_alloc_new, made_tabs], fun q x hx => by
    rw [List.getElem?_replicate] at hx
    split at hx
    · cases hx; exact ⟨by decide, .inl rfl, fun q x h => by cases q <;> cases h⟩
    · cases hx⟩
  rw [← hW0]
  clear hW0 hmk
  go_loopw [11] (fun i wr => ∃ (k : Nat) (L : List (List Pl.Rw × Pt)), k ≤ n ∧ i = .int .i64 k ∧ L.length = n ∧ L.map Prod.fst = (Pl.tbls us).take k ++ List.replicate (n - k) [] ∧ TabsAt wr w.heap.size L ∧ Below w.heap.size w wr) (fun i _ => n - (intOf i).toNat)
  case atStart => exact ⟨0, List.replicate n noTab, Nat.zero_le _, rfl, by simp, by simp [noTab], HT0.out, HW0.out⟩
  case round =>
    obtain ⟨k, L, hk, rfl, hL1, hL2, htab, hbel⟩ := hrel
    have HL1 := Lib.hid hL1
    have HL2 := Lib.hid hL2
    have HT := Lib.hid htab
    have HB := Lib.hid hbel
    have hgr := hbel.size
    have hFr : w.heap.size < wr.heap.size := lt_blk htab.1
    by_cases hlt : k < n
    · have hkx : k < us.length := by rw [← HN.out]; exact hlt
      have hx := List.getElem?_eq_getElem hkx
      have hlit := HF.out.2 _ (List.getElem_mem hkx)
      have HTk : Hid ((Pl.tbls us).take (k + 1) = (Pl.tbls us).take k ++ [Pl.tbl us[k]]) := Lib.hid (by
        rw [List.take_succ_eq_append_getElem (by unfold Pl.tbls; rw [List.length_map]; exact hkx)]
        unfold Pl.tbls
        rw [List.getElem_map])
      have htl : ((Pl.tbls us).take k).length = k := by unfold Pl.tbls; rw [List.length_take, List.length_map]; omega
      obtain ⟨b, o, rfl, hb, hrg, hT⟩ := HU.out.one hx
      have hk0 : (0 : Int) ≤ (k : Int) := Int.natCast_nonneg _
      have hk1 : (k : Int) < (n : Int) := by omega
      generalize us[k] = x at *
      generalize R k = r at *
      have HRG : Hid (wr.rangeAt b (o + k * 7) [.string x.path, .string x.text, .int .i64 x.tree.kind, .string x.tree.text, .slice r.ga x.tree.gaps.length r.gc, .slice r.da x.tree.kids.length r.dc, .bool x.broken]) := Lib.hid (fun i v hv => (hbel.cell (p := ⟨b, o + k * 7 + i, none⟩) hb).trans (hrg i v hv))
      obtain ⟨W, hW⟩ : ∃ W, W = wr.alloc (.cells #[.string x.path, .string x.text, .int .i64 x.tree.kind, .string x.tree.text, .slice r.ga x.tree.gaps.length r.gc, .slice r.da x.tree.kids.length r.dc, .bool x.broken] 56) := ⟨_, rfl⟩
      have v1 : W.heap[wr.heap.size]? = some (.cells #[.string x.path, .string x.text, .int .i64 x.tree.kind, .string x.tree.text, .slice r.ga x.tree.gaps.length r.gc, .slice r.da x.tree.kids.length r.dc, .bool x.broken] 56 (0, 0)) := by rw [hW]; exact heap_alloc_new _ _
      have hbW : Below wr.heap.size wr W := by rw [hW]; exact below_1 _ _
      have HBW : Hid (Below w.heap.size w W) := Lib.hid (HB.out.trans (hbW.mono hgr))
      have HTW : Hid (TabsAt W w.heap.size L) := Lib.hid ⟨(hbW.block _ hFr).trans HT.out.1, fun q y hy => (HT.out.2 q y hy).keep (fun z hz => hbW.block z hz.1) fun z hz => ⟨Nat.lt_of_lt_of_le hz.1 hbW.size, hz.2⟩⟩
      have q2 := (blk_one v1 2 _ rfl).1
      have q3 := (blk_one v1 3 _ rfl).1
      have q4 := (blk_one v1 4 _ rfl).1
      have q5 := (blk_one v1 5 _ rfl).1
      have q6 := (blk_one v1 6 _ rfl).1
      have hzW := hbW.size
      have HWw := Lib.hid hW
      clear hx hrg hL1 hL2 htab hbel v1 hW hbW
      cases hbr : x.broken with
      | true =>
        have HE : Hid (Pl.tbl x = []) := Lib.hid (by unfold Pl.tbl; rw [if_pos hbr])
        rw [hbr] at q6 HWw HRG
        go_upto_region 5 with (refine wpList_load_mid rfl 56 _ rfl b (o + k * 7) rfl [.string x.path, .string x.text, .int .i64 x.tree.kind, .string x.tree.text, .slice r.ga x.tree.gaps.length r.gc, .slice r.da x.tree.kids.length r.dc, .bool true] _ HRG.out Try.underlying56 rfl sizeUn ?_)
        rw [← HWw.out]
        clear hbr
        go_wp2_with fail
        refine ⟨⟨k + 1, L, by omega, by go_num, HL1.out, ?_, HTW.out, HBW.out⟩, by simp [intOf]; omega⟩
        rw [HL2.out, HTk.out, HE.out, List.append_assoc]
        congr 1
        rw [show n - k = (n - (k + 1)) + 1 by omega, List.replicate_succ]
        rfl
      | false =>
        have HE : Hid (Pl.tbl x = Pl.tab x.tree 0 (-1)) := Lib.hid (by unfold Pl.tbl; rw [if_neg (by simp [hbr])])
        rw [hbr] at q6 HWw HRG
        have HR := Lib.hid (prows_at hT (fun b h => h) W (Same.below HBW.out fun _ h => h) HBW.out.size (fun y hy => by have := (hlit.2 y hy).1; omega) (by have := hlit.1; omega))
        rw [← HE.out] at HR
        obtain ⟨ga, gc, da, dc⟩ := r
        clear hbr hT
        go_upto_region 5 with (refine wpList_load_mid rfl 56 _ rfl b (o + k * 7) rfl [.string x.path, .string x.text, .int .i64 x.tree.kind, .string x.tree.text, .slice ga x.tree.gaps.length gc, .slice da x.tree.kids.length dc, .bool false] _ HRG.out Try.underlying56 rfl sizeUn ?_)
        rw [← HWw.out]
        clear HRG HWw
        have hcl := fun (w2 : World) (hb2 : Below W.heap.size W w2) => blk_one ((hb2.block w.heap.size (by omega)).trans HTW.out.1) k (slV (L[k]'(by rw [HL1.out]; exact hlt))) (by rw [List.getElem?_toArray, List.getElem?_map, List.getElem?_eq_getElem (by rw [HL1.out]; exact hlt)]; rfl)
        go_wp2_with (go_at_call 45; refine HR.out.mono ?_; rintro e w2 ⟨ta, tc, TR, rfl, hti, hb2⟩; have HTI := Lib.hid hti; have HB2 := Lib.hid hb2; have hz2 := hb2.size; have e1 := (hcl w2 hb2).1; have e2 := (hcl w2 hb2).2; clear hti hb2 hcl)
        have hset : (w2.setCell ⟨w.heap.size, k, none⟩ (.slice ta (Pl.tbl x).length tc)).heap[w.heap.size]? = some (.cells ((L.set k (Pl.tbl x, ⟨ta, tc, TR⟩)).map slV).toArray 44 (0, 0)) := by
          rw [heap_setCell_same _ _ _ _ _ _ ((HB2.out.block w.heap.size (by omega)).trans HTW.out.1)]
          congr 2
          apply Array.ext'
          simp [List.map_set, slV]
        have hoth : ∀ z, z ≠ w.heap.size → (w2.setCell ⟨w.heap.size, k, none⟩ (.slice ta (Pl.tbl x).length tc)).heap[z]? = w2.heap[z]? := fun z hz => Below.heap_setCell _ _ _ _ hz
        refine ⟨⟨k + 1, L.set k (Pl.tbl x, ⟨ta, tc, TR⟩), by omega, by go_num, by rw [List.length_set]; exact HL1.out, ?_, ⟨hset, fun q y hy => ?_⟩, (HBW.out.trans (HB2.out.mono HBW.out.size)).setCell (p := ⟨w.heap.size, k, none⟩) (Nat.le_refl _) _⟩, by simp [intOf]; omega⟩
        · rw [List.map_set, HL2.out, HTk.out]
          rw [show n - k = (n - (k + 1)) + 1 by omega, List.replicate_succ, List.set_append, if_neg (by omega), htl, Nat.sub_self, List.set_cons_zero, List.append_assoc]
          rfl
        · by_cases e : q = k
          · subst e
            rw [List.getElem?_set_self (by rw [HL1.out]; exact hlt)] at hy
            cases hy
            refine HTI.out.keep (fun z hz => hoth z (by have := hz.1; omega)) (fun z hz => ⟨by simp [World.setCell]; exact hz.2, by have := hz.1; omega⟩)
          · rw [List.getElem?_set_ne (fun e2 => e e2.symm)] at hy
            refine (HTW.out.2 q y hy).keep (fun z hz => (hoth z hz.2).trans (HB2.out.block z hz.1)) (fun z hz => ⟨by simp [World.setCell]; have := hz.1; omega, hz.2⟩)
    · have hkn : k = n := by omega
      subst hkn
      have HD : Hid (L.map Prod.fst = Pl.tbls us) := Lib.hid (by rw [HL2.out, Nat.sub_self, List.replicate_zero, List.append_nil, List.take_of_length_le (by unfold Pl.tbls; rw [List.length_map, HN.out]; exact Nat.le_refl _)])
      have HDl : Hid (k = (Pl.tbls us).length) := Lib.hid (by rw [← HD.out, List.length_map, HL1.out])
      clear hL1 hL2 htab hbel
      go_wp2_with fail
      go_ret
      exact ⟨w.heap.size, k, by rw [← HDl.out]; rfl, Nat.le_refl _, by rw [← HD.out]; exact HT.out.tabsIn (by rw [HL1.out]; unfold maxLen; omega), HB.out⟩
end Go.Proofs.Ytoelfiendfemaaa
