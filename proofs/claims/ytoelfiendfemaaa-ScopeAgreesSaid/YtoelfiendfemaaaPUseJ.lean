/- The step of Uses. -/
import Derived.Test.YtoelfiendfemaaaPWlkJ
import Derived.Test.YtoelfiendfemaaaPTbsJ
import Derived.Test.YtoelfiendfemaaaDbls
import Derived.Test.YtoelfiendfemaaaPrgS
namespace Go.Proofs.Ytoelfiendfemaaa
open Go.RowKit Go.Deep
set_option linter.unusedVariables false
set_option linter.unusedSimpArgs false
set_option maxRecDepth 100000

theorem fst_look (T : List (List Pl.Rw)) (D : List Pl.Dc) (k : Int) (s : ByteArray) (hk : k = 1 ∨ k = 2 ∨ k = 3) : fstOf T D (kyV k s 0 0) = (Pl.look D k s).map refV := by
  induction D with
  | nil => rfl
  | cons d D ih =>
    unfold fstOf
    rw [ih]
    unfold Pl.look
    rw [List.find?_cons]
    have hl : d.kind = k → loc d.kind = false := fun h => by unfold loc; rw [h]; simp; omega
    by_cases e : d.kind = k ∧ d.name = s
    · have : kyOf T d = kyV k s 0 0 := by unfold kyOf; rw [hl e.1, e.1, e.2]; rfl
      rw [if_pos this, decide_eq_true e]
      rfl
    · have : ¬ kyOf T d = kyV k s 0 0 := fun h => e (by
        unfold kyOf kyV at h
        simp at h
        exact ⟨h.1, h.2.1⟩)
      rw [if_neg this, decide_eq_false e]
theorem ukind_in (k : Int) (s : ByteArray) : ukind k s = 0 ∨ ukind k s = 1 ∨ ukind k s = 2 ∨ ukind k s = 3 := by
  unfold ukind Pl.space
  repeat' split
  all_goals simp_all
theorem ukind_spc (r : Pl.Rw) : (Pl.spc r = 0 ↔ ukind r.kind r.text = 0) ∧ (Pl.spc r = 6 ↔ ukind r.kind r.text = 3) ∧ (Pl.spc r ≠ 6 → ukind r.kind r.text = Pl.spc r) := by
  have h3 : Pl.space r.kind r.text ≠ 3 := by
    unfold Pl.space
    repeat' split
    all_goals decide
  unfold Pl.spc ukind
  split
  · rename_i h; rw [h]; decide
  · rename_i h; exact ⟨Iff.rfl, by simp [h, h3], fun _ => rfl⟩
theorem zero_ref (w : World) : (zeroValue 29).run Try.prog w = .ok (.agg #[.int .i64 0, .int .i64 0]) w := by kernel_rfl
/-- What the map of firsts answers. -/
theorem firsts_look {w : World} {T : List (List Pl.Rw)} {D : List Pl.Dc} {mb N : Nat} (h : MapF w 68 mb N (fstOf T D)) {k : Int} (hk : k = 1 ∨ k = 2 ∨ k = 3) {s : ByteArray} (hs : s.size ≤ maxLen) :
    (Instr.lookup 59 (.map (some mb)) (kyV k s 0 0) true).run Try.prog w = .ok (foundV (Pl.look D k s)) w := by
  obtain ⟨kl, hkl⟩ := ky_key k s 0 0 (by rcases hk with rfl | rfl | rfl <;> decide) hs (by decide) (by decide)
  have := h.look (t := 59) kyKeyed Try.underlying59 zero_ref hkl true
  rw [fst_look T D k s hk] at this
  simp only [if_true] at this
  rw [this]
  cases Pl.look D k s <;> rfl
/-- The use of a node, by the kind that it names. -/
theorem found_k (D : List Pl.Dc) (l : List Pl.Rw) (u i : Int) : Pl.use1 D l u i = if ukind (Pl.rw l i).kind (Pl.rw l i).text = 0 then none else some (Pl.mkUse u i (if ukind (Pl.rw l i).kind (Pl.rw l i).text = 3 then (match Pl.var l i (Pl.rw l i).text with | some v => some (u, v) | none => Pl.look D 3 (Pl.rw l i).text) else Pl.look D (ukind (Pl.rw l i).kind (Pl.rw l i).text) (Pl.rw l i).text)) := by
  obtain ⟨a, b, c⟩ := ukind_spc (Pl.rw l i)
  unfold Pl.use1 Pl.found
  by_cases h0 : Pl.spc (Pl.rw l i) = 0
  · rw [if_pos h0, if_pos (a.1 h0)]
  · rw [if_neg h0, if_neg (fun h => h0 (a.2 h)), if_neg h0]
    by_cases h6 : Pl.spc (Pl.rw l i) = 6
    · rw [if_pos h6, if_pos (b.1 h6)]
      cases Pl.var l i (Pl.rw l i).text <;> rfl
    · rw [if_neg h6, if_neg (fun h => h6 (b.2 h)), c h6]
/-- The list of the uses so far. -/
def UsJ (B0 : Nat) (Bl : Nat → Prop) (VB lb : Nat) (L0 : List Pl.Us) (F : Nat → List Pl.Us) (i : Nat) (w : World) : Prop :=
  ∃ a c, w.heap[lb]? = some (.cells #[.slice a (L0 ++ F i).length c] 26 (0, 0)) ∧ w.ownsRow VB 42 5 (.slice a (L0 ++ F i).length c) (L0 ++ F i).length ((L0 ++ F i).flatMap cellsU) ∧ ∀ g, (Value.slice a (L0 ++ F i).length c).ownBlock = some g → Bl g ∨ B0 ≤ g
theorem own_objT {w : World} {B n z : Nat} {T : TypeId} {v : Value} {xs : List Value} {b : Nat} (h : w.ownsRow B T z v n xs) (hb : v.ownBlock = some b) : ∃ cur, w.heap[b]? = some (.cells cur T (0, 0)) ∧ B ≤ b := by
  rcases h.2 with ⟨rfl, _⟩ | ⟨g, cap, cur, rfl, e2, e3, _⟩
  · cases hb
  · cases hb; exact ⟨cur, e3, e2⟩
theorem use_fr {c : Array Value} {f : Nat × Nat} : ¬ FrObj (.cells c 42 f) := fun h => by rcases h with h | h <;> exact absurd h (by decide)
theorem uses_fr {c : Array Value} {f : Nat × Nat} : ¬ FrObj (.cells c 26 f) := fun h => by rcases h with h | h <;> exact absurd h (by decide)
theorem usJ_kept {B0 : Nat} {Bl : Nat → Prop} {VB lb : Nat} {L0 : List Pl.Us} {F : Nat → List Pl.Us} (i : Nat) (w w' : World) (h : UsJ B0 Bl VB lb L0 F i w) (k : Kept (WOD B0) w w') : UsJ B0 Bl VB lb L0 F i w' := by
  obtain ⟨a, c, h1, h2, h3⟩ := h
  refine ⟨a, c, k.keep _ _ h1 (.inr uses_fr), owns_keep h2 (fun b hb => ?_), h3⟩
  obtain ⟨cur, ho, _⟩ := own_objT h2 hb
  rw [k.keep _ _ ho (.inr use_fr), ho]
set_option maxHeartbeats 6400000 in
theorem uses1_step {w0 : World} {Bl : Nat → Prop} {rb ro n : Nat} {l : List Pl.Rw} {R : Nat → Sl} (HBs : Base w0 (PB w0 Bl) rb ro n l R) (rc : Nat) (T : List (List Pl.Rw)) (D : List Pl.Dc) (m mb N0 qb fbx ub lb VB : Nat) (L0 : List Pl.Us)
    (hq : ∀ wx, On w0 (PB w0 Bl) wx → wx.cell? ⟨qb, 0, none⟩ = some (.slice (some ⟨rb, ro, none⟩) n rc) ∧ wx.cell? ⟨fbx, 0, none⟩ = some (.map (some mb)) ∧ MapF wx 68 mb N0 (fstOf T D) ∧ wx.cell? ⟨ub, 0, none⟩ = some (.int .i64 (m : Nat)))
    (hlt : qb < w0.heap.size ∧ fbx < w0.heap.size ∧ ub < w0.heap.size ∧ lb < w0.heap.size) (hlb : Bl lb) (hVB : VB ≤ w0.heap.size) (hlen : L0.length + l.length ≤ 100000) :
    StepOk w0 Bl l 36 #[.pointer (some ⟨qb, 0, none⟩), .pointer (some ⟨fbx, 0, none⟩), .pointer (some ⟨ub, 0, none⟩), .pointer (some ⟨lb, 0, none⟩)] (UsJ w0.heap.size Bl VB lb L0 (Pl.usesTo D l m)) := by
  obtain ⟨i0, hi0, hz0, hz1, hz2⟩ := info_parts infoU
  intro i hi w hon hJ bx hfind
  show Calls Try.prog 36 #[.int .i64 i, .func (.func 89) #[] #[.pointer (some ⟨bx, 0, none⟩)], .pointer (some ⟨qb, 0, none⟩), .pointer (some ⟨fbx, 0, none⟩), .pointer (some ⟨ub, 0, none⟩), .pointer (some ⟨lb, 0, none⟩)] w _
  have HBase := Lib.hid HBs
  have HOn := Lib.hid hon
  have HJ := Lib.hid hJ
  have HFind := Lib.hid hfind
  have HQ := Lib.hid hq
  have hin : i < n := by rw [HBs.hn]; exact hi
  have hn2 := HBs.hn2
  have ha0 : (0 : Int) ≤ (i : Int) := Int.natCast_nonneg _
  have ha1 : (i : Int) < (n : Int) := by omega
  have hsz := HBs.htx i
  obtain ⟨q1, q2, q3, q4⟩ := hq w hon
  have hT := HBs.hT _ hon.1 hon.2
  have k1 := (hT.row' (i := i) hi) 1 _ rfl
  have k2 := (hT.row' (i := i) hi) 2 _ rfl
  have hge := hon.2
  have HSuc := Lib.hid (Pl.usesTo_succ D l m i)
  have HFk := Lib.hid (found_k D l m i)
  have HLe := Lib.hid (usesTo_len D l m i)
  obtain ⟨kk, hkk⟩ : ∃ k, k = ukind (Pl.rw l i).kind (Pl.rw l i).text := ⟨_, rfl⟩
  have hin3 := ukind_in (Pl.rw l i).kind (Pl.rw l i).text
  have HPu : Hid (∀ nn, Calls Try.prog 37 #[.int .i64 (Pl.rw l i).kind, .string (Pl.rw l i).text] (w.drewN nn) fun e w' => e = .returned (.int .i64 (ukind (Pl.rw l i).kind (Pl.rw l i).text)) ∧ ∃ m, w' = w.drewN m) := Lib.hid (fun nn => Calls.quiet_of_same ((pused_any (Pl.rw l i).kind (Pl.rw l i).text (w.drewN nn)).mono fun e w' ⟨h1, h2⟩ => ⟨h1, h2⟩))
  rw [← hkk] at HPu hin3 HFk
  obtain ⟨xt, hxt⟩ : ∃ s, s = (Pl.rw l i).text := ⟨_, rfl⟩
  obtain ⟨xk, hxk⟩ : ∃ s, s = (Pl.rw l i).kind := ⟨_, rfl⟩
  rw [← hxt] at hsz k2 HFk HPu
  rw [← hxk] at k1 HPu
  have HXt := Lib.hid hxt.symm
  clear hkk hxt hxk HBs hon hJ hfind hq hT q2 q3 q4
  go_enter Try.func36, Try.ntmps36
  go_upto_region 0 with fail
  go_quiet ((go_at_call 37; exact HPu.out _))
  obtain ⟨W, hW⟩ : ∃ W, W = w.drewN nq := ⟨_, rfl⟩
  rw [← hW]
  have HBW : Hid (Below w.heap.size w W) := Lib.hid (by rw [hW]; exact below_drewN _ _)
  have HOW := Lib.hid (HOn.out.later HBase.out.hP HBW.out)
  have HJW := Lib.hid (usJ_kept i w W HJ.out (Kept.below HBW.out))
  clear hW q1 k1 k2
  by_cases h0 : kk = 0
  · subst h0
    have HS : Hid (Pl.usesTo D l m (i + 1) = Pl.usesTo D l m i) := Lib.hid (by rw [HSuc.out, HFk.out, if_pos rfl]; simp)
    go_wp2_with fail
    have HE : Hid (UsJ w0.heap.size Bl VB lb L0 (Pl.usesTo D l m) (i + 1) W) := Lib.hid (by unfold UsJ; rw [HS.out]; exact HJW.out)
    exact bodyPost_ret (v := .tuple #[]) (by simp [results, Try.results36, go_sem]) rfl ⟨rfl, HE.out, Kept.below HBW.out⟩
  · have e0 := (int_no h0).1
    have hS1 : Pl.usesTo D l m (i + 1) = Pl.usesTo D l m i ++ [Pl.mkUse m i (if kk = 3 then (match Pl.var l i xt with | some v => some ((m : Int), v) | none => Pl.look D 3 xt) else Pl.look D kk xt)] := by rw [HSuc.out, HFk.out, if_neg h0]; rfl
    have HS1 := Lib.hid hS1
    obtain ⟨d1, hd1⟩ : ∃ d, d = (fv (Pl.look D kk xt)).1 := ⟨_, rfl⟩
    obtain ⟨d2, hd2⟩ : ∃ d, d = (fv (Pl.look D kk xt)).2 := ⟨_, rfl⟩
    obtain ⟨db, hdb⟩ : ∃ d, d = (Pl.look D kk xt).isSome := ⟨_, rfl⟩
    obtain ⟨q1, q2, q3, q4⟩ := HQ.out W HOW.out
    have hT := HBase.out.hT _ HOW.out.1 HOW.out.2
    have k2 := (hT.row' (i := i) hi) 2 _ rfl
    rw [HXt.out] at k2
    have hml := q3.lt
    have hlk : ∀ wx : World, wx.heap[mb]? = W.heap[mb]? → (Instr.lookup 59 (.map (some mb)) (kyV kk xt 0 0) true).run Try.prog wx = .ok (.tuple #[.agg #[.int .i64 d1, .int .i64 d2], .bool db]) wx := fun wx e => by
      have := firsts_look (q3.keep e) (k := kk) (by omega) hsz
      rw [foundV_eq, ← hd1, ← hd2, ← hdb] at this
      exact this
    have hWl : w0.heap.size ≤ W.heap.size := HOW.out.2
    have hrb := hT.1
    have d1' : W.drew.cell? ⟨qb, 0, none⟩ = some (.slice (some ⟨rb, ro, none⟩) n rc) := q1
    have d2' : W.drew.cell? ⟨fbx, 0, none⟩ = some (.map (some mb)) := q2
    have d3' : W.drew.cell? ⟨rb, ro + i * 5 + 2, none⟩ = some (.string xt) := k2
    have l0 := hlk W.drew rfl
    have l1 : ∀ o, (Instr.lookup 59 (.map (some mb)) (kyV kk xt 0 0) true).run Try.prog (W.drew.alloc o) = .ok (.tuple #[.agg #[.int .i64 d1, .int .i64 d2], .bool db]) (W.drew.alloc o) := fun o => hlk _ (Below.heap_alloc W.drew o mb hml)
    have l2 : ∀ o, (Instr.lookup 59 (.map (some mb)) (kyV kk xt 0 0) true).run Try.prog (W.alloc o).drew = .ok (.tuple #[.agg #[.int .i64 d1, .int .i64 d2], .bool db]) (W.alloc o).drew := fun o => l1 o
    have a1' : ∀ o, (W.drew.alloc o).cell? ⟨qb, 0, none⟩ = some (.slice (some ⟨rb, ro, none⟩) n rc) := fun o => (cell_past qb W.drew o 0 (Nat.lt_of_lt_of_le hlt.1 hWl)).trans d1'
    have a2' : ∀ o, (W.drew.alloc o).cell? ⟨fbx, 0, none⟩ = some (.map (some mb)) := fun o => (cell_past fbx W.drew o 0 (Nat.lt_of_lt_of_le hlt.2.1 hWl)).trans d2'
    have a3' : ∀ o, (W.drew.alloc o).cell? ⟨rb, ro + i * 5 + 2, none⟩ = some (.string xt) := fun o => (cell_past rb W.drew o _ hrb).trans d3'
    have b1' : ∀ o, (W.alloc o).drew.cell? ⟨qb, 0, none⟩ = some (.slice (some ⟨rb, ro, none⟩) n rc) := fun o => a1' o
    have b2' : ∀ o, (W.alloc o).drew.cell? ⟨fbx, 0, none⟩ = some (.map (some mb)) := fun o => a2' o
    have b3' : ∀ o, (W.alloc o).drew.cell? ⟨rb, ro + i * 5 + 2, none⟩ = some (.string xt) := fun o => a3' o
    have HT := Lib.hid hT
    have Hd := Lib.hid (And.intro hd1 (And.intro hd2 hdb))
    clear hT hlk hd1 hd2 hdb hS1 h0 q3
    go_upto_region 2 with fail
    go_region_held3 (fun w' => w'.cell? ⟨qb, 0, none⟩ = some (.slice (some ⟨rb, ro, none⟩) n rc) ∧ w'.cell? ⟨fbx, 0, none⟩ = some (.map (some mb)) ∧ w'.cell? ⟨rb, ro + i * 5 + 2, none⟩ = some (.string xt))
      (first | with_reducible exact ⟨d1', d2', d3'⟩ | with_reducible exact ⟨a1' _, a2' _, a3' _⟩ | with_reducible exact ⟨b1' _, b2' _, b3' _⟩ | fail)
      (fail)
    all_goals
      obtain ⟨X, hX⟩ : ∃ X, X = (W.alloc (.cells #[.int .i64 d1, .int .i64 d2] 29)).drew := ⟨_, rfl⟩
      have hX' : X = W.drew.alloc (.cells #[.int .i64 d1, .int .i64 d2] 29) := hX
      first | rw [← hX] | rw [← hX']
      have HX : Hid (Below W.heap.size W X) := Lib.hid (by rw [hX']; exact (Below.refl _ _).drew.alloc (Nat.le_refl _) _)
      have HXr : Hid (X.heap[W.heap.size]? = some (.cells #[.int .i64 d1, .int .i64 d2] 29 (0, 0))) := Lib.hid (by rw [hX']; exact heap_alloc_new W.drew _)
      have HwX : Hid (Below w.heap.size w X) := Lib.hid (HBW.out.trans (HX.out.mono HBW.out.size))
      have hXl := lt_blk HXr.out
      have HO : Hid (∀ e1 e2 eb o, e1 = (fv o).1 → e2 = (fv o).2 → eb = o.isSome → (if kk = 3 then (match Pl.var l i xt with | some v => some ((m : Int), v) | none => Pl.look D 3 xt) else Pl.look D kk xt) = o → Pl.usesTo D l m (i + 1) = Pl.usesTo D l m i ++ [⟨m, i, e1, e2, eb⟩]) := Lib.hid (by
        intro e1 e2 eb o h1 h2 h3 h4
        rw [HS1.out, h4, mkUse_eq, h1, h2, h3])
      clear hX hX' l0 l1 l2 a1' a2' a3' b1' b2' b3' d1' d2' d3' q1 q2 q4 k2 hrb hml
      have hOX := HOn.out.later HBase.out.hP HwX.out
      obtain ⟨q1, _, _, q4⟩ := HQ.out X hOX
      have k2 := ((HBase.out.hT _ hOX.1 hOX.2).row' (i := i) hi) 2 _ rfl
      rw [HXt.out] at k2
      clear hOX
      by_cases h3 : kk = 3
      · subst h3
        have HFi := Lib.hid (HFind.out X (Kept.below HwX.out) xt hsz)
        cases hv : Pl.var l i xt with
        | none =>
          have HS2 : Hid (Pl.usesTo D l m (i + 1) = Pl.usesTo D l m i ++ [⟨m, i, d1, d2, db⟩]) := Lib.hid (HO.out _ _ _ _ Hd.out.1 Hd.out.2.1 Hd.out.2.2 (by rw [if_pos rfl, hv]))
          rw [hv] at HFi
          unfold ansV at HFi
          clear hv
          go_upto_region 7 with (go_at_call 89; refine HFi.out.mono ?_; rintro e w6 ⟨rfl, hw6⟩; rw [hw6]; clear hw6 w6)
          obtain ⟨Y, hY⟩ : ∃ Y, Y = X := ⟨_, rfl⟩
          have HwY : Hid (Below w.heap.size w Y) := Lib.hid (by rw [hY]; exact HwX.out)
          have HYr : Hid (Y.heap[W.heap.size]? = some (.cells #[.int .i64 d1, .int .i64 d2] 29 (0, 0))) := Lib.hid (by rw [hY]; exact HXr.out)
          rw [← hY]
          clear q1 q4 k2 hY HX HXr HwX hXl
          generalize d1 = e1 at *
          generalize d2 = e2 at *
          generalize db = eb at *
          obtain ⟨a8, c8, j1, j2, j3⟩ := usJ_kept i w Y HJ.out (Kept.below HwY.out)
          have HL8 : (L0 ++ Pl.usesTo D l m i).length ≤ 100000 := by rw [List.length_append]; have := HLe.out; omega
          obtain ⟨L8, hL8⟩ : ∃ L, L = L0 ++ Pl.usesTo D l m i := ⟨_, rfl⟩
          rw [← hL8] at j1 j2 j3 HL8
          obtain ⟨n8, hn8⟩ : ∃ n, n = L8.length := ⟨_, rfl⟩
          rw [← hn8] at j1 j2 j3 HL8
          have HN8 := Lib.hid hn8
          have HL8e := Lib.hid hL8
          have HJ1 := Lib.hid j1
          have HJ2 := Lib.hid j2
          have HJ3 := Lib.hid j3
          have g5 := (blk_one j1 0 _ rfl).1
          have hlY := lt_blk j1
          have hYl := lt_blk HYr.out
          obtain ⟨_, _, _, y4⟩ := HQ.out Y (HOn.out.later HBase.out.hP HwY.out)
          have r0 := (blk_one HYr.out 0 _ rfl).1
          have r1 := (blk_one HYr.out 1 _ rfl).1
          have hwY := HwY.out.size
          have hne8 : ∀ g, (Value.slice a8 n8 c8).ownBlock = some g → g ≠ lb := fun g hg e => by
            obtain ⟨cur, ho, _⟩ := own_objT HJ2.out hg
            rw [e, HJ1.out] at ho
            cases ho
          clear j1 j2 j3 hn8 hL8
          go_wp2_with (at_builtin; go_loud (refine wpList_append_lies _ rfl (.tmp 54) (.tmp 61) 26 rfl VB 42 i0 _ 5 40 Try.underlying26 hi0 hz0 hz1 hz2 rfl (by omega) (.slice a8 n8 c8) n8 (L8.flatMap cellsU) rfl (HJ2.out.alloc _) ⟨Y.heap.size, 0, none⟩ 1 1 (cellsU ⟨m, i, e1, e2, eb⟩) rfl rfl (World.news_of_block (cs := #[.int .i64 m, .int .i64 i, .int .i64 e1, .int .i64 e2, .bool eb]) (t := 42) (fr := (0, 0)) (heap_alloc_new Y _)) (by simp [Value.oneCell', cellsU]) (by omega) (by unfold maxLen; omega) (by omega) (by simp; omega) (Y.heap.size + 1) (by simp) ?_; intro g9 cap9 w9 hown9 hgrow9 hat9 hlt9; have HO9 := Lib.hid hown9; have HG9 := Lib.hid hgrow9; have HA9 := Lib.hid hat9; have hl9 := (hgrow9.block lb (by simp; omega) (fun e => hne8 _ e.symm rfl)).trans ((Below.heap_alloc Y _ lb hlY).trans HJ1.out); have HL9 := Lib.hid hl9; obtain ⟨p9, p9'⟩ := blk_one hl9 0 _ rfl; clear hown9 hgrow9 hat9 hl9))
          go_end0
          have HN9 : (L0 ++ Pl.usesTo D l m (i + 1)).length = n8 + 1 := by rw [HS2.out, ← List.append_assoc, ← HL8e.out, List.length_append, ← HN8.out]; rfl
          have HF9 : (L0 ++ Pl.usesTo D l m (i + 1)).flatMap cellsU = L8.flatMap cellsU ++ cellsU ⟨m, i, e1, e2, eb⟩ := by rw [HS2.out, ← List.append_assoc, ← HL8e.out, flatten_snoc]
          have hg9 : Bl g9 ∨ w0.heap.size ≤ g9 := by
            rcases HA9.out with h | h
            · exact HJ3.out _ h
            · right; omega
          refine ⟨rfl, ⟨some ⟨g9, 0, none⟩, cap9, ?_, ?_, ?_⟩, (Kept.below HwY.out).trans ((Kept.below ((Below.refl _ _).alloc (Nat.le_refl _) _)).trans ((Kept.grown HG9.out ?_).trans (Kept.setCell _ ?_ _)))⟩
          · rw [HN9, heap_setCell_same _ _ _ _ _ _ HL9.out]; rfl
          · rw [HN9, HF9]
            exact ownsRow_setCell_not HO9.out (fun e => by
              obtain ⟨cur, ho, _⟩ := own_objT HO9.out (b := lb) e
              rw [HL9.out] at ho
              cases ho) _
          · intro g hg
            rw [HN9] at hg
            simp [Value.ownBlock] at hg
            subst hg
            exact hg9
          · intro b o ho hD e
            obtain ⟨cur, ho2, _⟩ := own_objT (HJ2.out.alloc _) e
            rw [ho2] at ho
            cases ho
            rcases hD with h | h
            · rcases HJ3.out b e with h' | h'
              · exact h.2 h'
              · omega
            · exact h.2 (.inr (.inl rfl))
          · intro o ho hD
            rcases hD with h | h
            · exact h.2 hlb
            · have : lb < w0.heap.size := hlt.2.2.2
              dsimp only at h
              omega
        | some v =>
          have HS2 : Hid (Pl.usesTo D l m (i + 1) = Pl.usesTo D l m i ++ [⟨m, i, m, v, true⟩]) := Lib.hid (HO.out _ _ _ (some ((m : Int), v)) rfl rfl rfl (by rw [if_pos rfl, hv]))
          rw [hv] at HFi
          unfold ansV at HFi
          clear hv
          have x0 := blk_one HXr.out 0 _ rfl
          have x1 := blk_one HXr.out 1 _ rfl
          obtain ⟨x0a, x0b⟩ := x0
          obtain ⟨x1a, x1b⟩ := x1
          go_upto_region 7 with (go_at_call 89; refine HFi.out.mono ?_; rintro e w6 ⟨rfl, hw6⟩; rw [hw6]; clear hw6 w6)
          obtain ⟨Y, hY⟩ : ∃ Y, Y = (X.setCell ⟨W.heap.size, 0, none⟩ (.int .i64 m)).setCell ⟨W.heap.size, 1, none⟩ (.int .i64 v) := ⟨_, rfl⟩
          have HwY : Hid (Below w.heap.size w Y) := Lib.hid (by rw [hY]; exact (HwX.out.setCell (p := ⟨W.heap.size, 0, none⟩) HBW.out.size _).setCell (p := ⟨W.heap.size, 1, none⟩) HBW.out.size _)
          have HYr : Hid (Y.heap[W.heap.size]? = some (.cells #[.int .i64 m, .int .i64 v] 29 (0, 0))) := Lib.hid (by rw [hY, heap_setCell_same _ _ _ _ _ _ (heap_setCell_same _ _ _ _ _ _ HXr.out)]; rfl)
          rw [← hY]
          clear q1 q4 k2 hY HX HXr HwX hXl x0a x0b x1a x1b
          obtain ⟨e1, he1⟩ : ∃ e : Int, e = m := ⟨_, rfl⟩
          obtain ⟨eb, heb⟩ : ∃ e : Bool, e = true := ⟨_, rfl⟩
          obtain ⟨e2, he2⟩ : ∃ e : Int, e = v := ⟨_, rfl⟩
          obtain ⟨a8, c8, j1, j2, j3⟩ := usJ_kept i w Y HJ.out (Kept.below HwY.out)
          have HL8 : (L0 ++ Pl.usesTo D l m i).length ≤ 100000 := by rw [List.length_append]; have := HLe.out; omega
          obtain ⟨L8, hL8⟩ : ∃ L, L = L0 ++ Pl.usesTo D l m i := ⟨_, rfl⟩
          rw [← hL8] at j1 j2 j3 HL8
          obtain ⟨n8, hn8⟩ : ∃ n, n = L8.length := ⟨_, rfl⟩
          rw [← hn8] at j1 j2 j3 HL8
          have HN8 := Lib.hid hn8
          have HL8e := Lib.hid hL8
          have HJ1 := Lib.hid j1
          have HJ2 := Lib.hid j2
          have HJ3 := Lib.hid j3
          have g5 := (blk_one j1 0 _ rfl).1
          have hlY := lt_blk j1
          have hYl := lt_blk HYr.out
          obtain ⟨_, _, _, y4⟩ := HQ.out Y (HOn.out.later HBase.out.hP HwY.out)
          have r0 := (blk_one HYr.out 0 _ rfl).1
          have r1 := (blk_one HYr.out 1 _ rfl).1
          have hwY := HwY.out.size
          have hne8 : ∀ g, (Value.slice a8 n8 c8).ownBlock = some g → g ≠ lb := fun g hg e => by
            obtain ⟨cur, ho, _⟩ := own_objT HJ2.out hg
            rw [e, HJ1.out] at ho
            cases ho
          clear j1 j2 j3 hn8 hL8
          go_wp2_with (at_builtin; go_loud (refine wpList_append_lies _ rfl (.tmp 54) (.tmp 61) 26 rfl VB 42 i0 _ 5 40 Try.underlying26 hi0 hz0 hz1 hz2 rfl (by omega) (.slice a8 n8 c8) n8 (L8.flatMap cellsU) rfl (HJ2.out.alloc _) ⟨Y.heap.size, 0, none⟩ 1 1 (cellsU ⟨m, i, m, v, true⟩) rfl rfl (World.news_of_block (cs := #[.int .i64 m, .int .i64 i, .int .i64 m, .int .i64 v, .bool true]) (t := 42) (fr := (0, 0)) (heap_alloc_new Y _)) (by simp [Value.oneCell', cellsU]) (by omega) (by unfold maxLen; omega) (by omega) (by simp; omega) (Y.heap.size + 1) (by simp) ?_; intro g9 cap9 w9 hown9 hgrow9 hat9 hlt9; have HO9 := Lib.hid hown9; have HG9 := Lib.hid hgrow9; have HA9 := Lib.hid hat9; have hl9 := (hgrow9.block lb (by simp; omega) (fun e => hne8 _ e.symm rfl)).trans ((Below.heap_alloc Y _ lb hlY).trans HJ1.out); have HL9 := Lib.hid hl9; obtain ⟨p9, p9'⟩ := blk_one hl9 0 _ rfl; clear hown9 hgrow9 hat9 hl9))
          go_end0
          have HN9 : (L0 ++ Pl.usesTo D l m (i + 1)).length = n8 + 1 := by rw [HS2.out, ← List.append_assoc, ← HL8e.out, List.length_append, ← HN8.out]; rfl
          have HF9 : (L0 ++ Pl.usesTo D l m (i + 1)).flatMap cellsU = L8.flatMap cellsU ++ cellsU ⟨m, i, m, v, true⟩ := by rw [HS2.out, ← List.append_assoc, ← HL8e.out, flatten_snoc]
          have hg9 : Bl g9 ∨ w0.heap.size ≤ g9 := by
            rcases HA9.out with h | h
            · exact HJ3.out _ h
            · right; omega
          refine ⟨rfl, ⟨some ⟨g9, 0, none⟩, cap9, ?_, ?_, ?_⟩, (Kept.below HwY.out).trans ((Kept.below ((Below.refl _ _).alloc (Nat.le_refl _) _)).trans ((Kept.grown HG9.out ?_).trans (Kept.setCell _ ?_ _)))⟩
          · rw [HN9, heap_setCell_same _ _ _ _ _ _ HL9.out]; rfl
          · rw [HN9, HF9]
            exact ownsRow_setCell_not HO9.out (fun e => by
              obtain ⟨cur, ho, _⟩ := own_objT HO9.out (b := lb) e
              rw [HL9.out] at ho
              cases ho) _
          · intro g hg
            rw [HN9] at hg
            simp [Value.ownBlock] at hg
            subst hg
            exact hg9
          · intro b o ho hD e
            obtain ⟨cur, ho2, _⟩ := own_objT (HJ2.out.alloc _) e
            rw [ho2] at ho
            cases ho
            rcases hD with h | h
            · rcases HJ3.out b e with h' | h'
              · exact h.2 h'
              · omega
            · exact h.2 (.inr (.inl rfl))
          · intro o ho hD
            rcases hD with h | h
            · exact h.2 hlb
            · have : lb < w0.heap.size := hlt.2.2.2
              dsimp only at h
              omega
      · have e3 := (int_no h3).1
        have HS2 : Hid (Pl.usesTo D l m (i + 1) = Pl.usesTo D l m i ++ [⟨m, i, d1, d2, db⟩]) := Lib.hid (HO.out _ _ _ _ Hd.out.1 Hd.out.2.1 Hd.out.2.2 (by rw [if_neg h3]))
        clear h3
        go_upto_region 7 with fail
        obtain ⟨Y, hY⟩ : ∃ Y, Y = X := ⟨_, rfl⟩
        have HwY : Hid (Below w.heap.size w Y) := Lib.hid (by rw [hY]; exact HwX.out)
        have HYr : Hid (Y.heap[W.heap.size]? = some (.cells #[.int .i64 d1, .int .i64 d2] 29 (0, 0))) := Lib.hid (by rw [hY]; exact HXr.out)
        rw [← hY]
        clear q1 q4 k2 hY HX HXr HwX hXl
        generalize d1 = e1 at *
        generalize d2 = e2 at *
        generalize db = eb at *
        obtain ⟨a8, c8, j1, j2, j3⟩ := usJ_kept i w Y HJ.out (Kept.below HwY.out)
        have HL8 : (L0 ++ Pl.usesTo D l m i).length ≤ 100000 := by rw [List.length_append]; have := HLe.out; omega
        obtain ⟨L8, hL8⟩ : ∃ L, L = L0 ++ Pl.usesTo D l m i := ⟨_, rfl⟩
        rw [← hL8] at j1 j2 j3 HL8
        obtain ⟨n8, hn8⟩ : ∃ n, n = L8.length := ⟨_, rfl⟩
        rw [← hn8] at j1 j2 j3 HL8
        have HN8 := Lib.hid hn8
        have HL8e := Lib.hid hL8
        have HJ1 := Lib.hid j1
        have HJ2 := Lib.hid j2
        have HJ3 := Lib.hid j3
        have g5 := (blk_one j1 0 _ rfl).1
        have hlY := lt_blk j1
        have hYl := lt_blk HYr.out
        obtain ⟨_, _, _, y4⟩ := HQ.out Y (HOn.out.later HBase.out.hP HwY.out)
        have r0 := (blk_one HYr.out 0 _ rfl).1
        have r1 := (blk_one HYr.out 1 _ rfl).1
        have hwY := HwY.out.size
        have hne8 : ∀ g, (Value.slice a8 n8 c8).ownBlock = some g → g ≠ lb := fun g hg e => by
          obtain ⟨cur, ho, _⟩ := own_objT HJ2.out hg
          rw [e, HJ1.out] at ho
          cases ho
        clear j1 j2 j3 hn8 hL8
        go_wp2_with (at_builtin; go_loud (refine wpList_append_lies _ rfl (.tmp 54) (.tmp 61) 26 rfl VB 42 i0 _ 5 40 Try.underlying26 hi0 hz0 hz1 hz2 rfl (by omega) (.slice a8 n8 c8) n8 (L8.flatMap cellsU) rfl (HJ2.out.alloc _) ⟨Y.heap.size, 0, none⟩ 1 1 (cellsU ⟨m, i, e1, e2, eb⟩) rfl rfl (World.news_of_block (cs := #[.int .i64 m, .int .i64 i, .int .i64 e1, .int .i64 e2, .bool eb]) (t := 42) (fr := (0, 0)) (heap_alloc_new Y _)) (by simp [Value.oneCell', cellsU]) (by omega) (by unfold maxLen; omega) (by omega) (by simp; omega) (Y.heap.size + 1) (by simp) ?_; intro g9 cap9 w9 hown9 hgrow9 hat9 hlt9; have HO9 := Lib.hid hown9; have HG9 := Lib.hid hgrow9; have HA9 := Lib.hid hat9; have hl9 := (hgrow9.block lb (by simp; omega) (fun e => hne8 _ e.symm rfl)).trans ((Below.heap_alloc Y _ lb hlY).trans HJ1.out); have HL9 := Lib.hid hl9; obtain ⟨p9, p9'⟩ := blk_one hl9 0 _ rfl; clear hown9 hgrow9 hat9 hl9))
        go_end0
        have HN9 : (L0 ++ Pl.usesTo D l m (i + 1)).length = n8 + 1 := by rw [HS2.out, ← List.append_assoc, ← HL8e.out, List.length_append, ← HN8.out]; rfl
        have HF9 : (L0 ++ Pl.usesTo D l m (i + 1)).flatMap cellsU = L8.flatMap cellsU ++ cellsU ⟨m, i, e1, e2, eb⟩ := by rw [HS2.out, ← List.append_assoc, ← HL8e.out, flatten_snoc]
        have hg9 : Bl g9 ∨ w0.heap.size ≤ g9 := by
          rcases HA9.out with h | h
          · exact HJ3.out _ h
          · right; omega
        refine ⟨rfl, ⟨some ⟨g9, 0, none⟩, cap9, ?_, ?_, ?_⟩, (Kept.below HwY.out).trans ((Kept.below ((Below.refl _ _).alloc (Nat.le_refl _) _)).trans ((Kept.grown HG9.out ?_).trans (Kept.setCell _ ?_ _)))⟩
        · rw [HN9, heap_setCell_same _ _ _ _ _ _ HL9.out]; rfl
        · rw [HN9, HF9]
          exact ownsRow_setCell_not HO9.out (fun e => by
            obtain ⟨cur, ho, _⟩ := own_objT HO9.out (b := lb) e
            rw [HL9.out] at ho
            cases ho) _
        · intro g hg
          rw [HN9] at hg
          simp [Value.ownBlock] at hg
          subst hg
          exact hg9
        · intro b o ho hD e
          obtain ⟨cur, ho2, _⟩ := own_objT (HJ2.out.alloc _) e
          rw [ho2] at ho
          cases ho
          rcases hD with h | h
          · rcases HJ3.out b e with h' | h'
            · exact h.2 h'
            · omega
          · exact h.2 (.inr (.inl rfl))
        · intro o ho hD
          rcases hD with h | h
          · exact h.2 hlb
          · have : lb < w0.heap.size := hlt.2.2.2
            dsimp only at h
            omega
end Go.Proofs.Ytoelfiendfemaaa

namespace Go.Proofs.Ytoelfiendfemaaa
open Go.RowKit Go.Deep
set_option linter.unusedVariables false
set_option linter.unusedSimpArgs false
set_option maxRecDepth 100000

/-- A table does not lie in a block of one slice. -/
theorem Tb.but {V : World} {b o : Nat} {l : List Pl.Rw} {R : Nat → Sl} (h : Tb V b o l R) (h0 : 0 < l.length) {lb : Nat} {T : TypeId} (hlb : V.heap[lb]? = some (.cells #[.slice none 0 0] T (0, 0))) {wx : World} (hs : Same (fun x => x < V.heap.size ∧ x ≠ lb) V wx) (hz : V.heap.size ≤ wx.heap.size) : Tb wx b o l R := by
  have hno : ∀ (f : Nat) (i : Int), V.cell? ⟨lb, f, none⟩ ≠ some (.int .i64 i) := by
    intro f i hc
    have : (#[Value.slice none 0 0] : Array Value)[f]? = some (.int .i64 i) := by
      simpa [World.cell?, hlb] using hc
    match f, this with
    | 0, h => cases h
    | f + 1, h => simp at h
  have hx : l[0]? = some l[0] := List.getElem?_eq_getElem h0
  obtain ⟨x, r, hgx, hxr, c0, _⟩ := h.row (i := 0) h0
  have hb : b ≠ lb := fun e => hno _ _ (e ▸ c0)
  refine ⟨Nat.lt_of_lt_of_le h.1 hz, fun j x hx => (h.2.1 j x hx).keep (hs b ⟨h.1, hb⟩), fun j x hx => ?_⟩
  obtain ⟨h1, h2⟩ := h.2.2 j x hx
  refine ⟨h1, ?_⟩
  rcases h2 with h2 | ⟨b2, o2, e, hb2, h2⟩
  · exact .inl h2
  · cases hk : x.kids with
    | nil => exact .inl rfl
    | cons c cs =>
      have hc := h2 0 c (by rw [hk]; rfl)
      have hne : b2 ≠ lb := fun e => hno _ _ (e ▸ hc)
      refine .inr ⟨b2, o2, e, Nat.lt_of_lt_of_le hb2 hz, fun j' x' hx' => ?_⟩
      rw [← hk] at hx'
      exact (World.cell?_of_block (w := V) (a := ⟨b2, o2 + j', none⟩) (hs b2 ⟨hb2, hne⟩)).trans (h2 j' x' hx')
theorem tbl_text {us : List Pl.Un} (hF : Few us) {j : Nat} {l : List Pl.Rw} (h : (Pl.tbls us)[j]? = some l) (i : Nat) : (Pl.rw l i).text.size ≤ maxLen := by
  obtain ⟨x, hx, rfl, _⟩ := tbls_get hF h
  have hL := hF.2 x (List.mem_of_getElem? hx)
  unfold Pl.rw
  rw [Int.toNat_natCast]
  cases hj : (Pl.tbl x)[i]? with
  | none => exact Nat.zero_le _
  | some r0 =>
    unfold Pl.tbl at hj
    split at hj
    · cases hj
    · obtain ⟨y, q, hy, rfl⟩ := Pl.tab_row x.tree 0 (-1) i r0 hj
      exact Nat.le_trans (hL.2 y (List.mem_of_getElem? hy)).2 (by unfold maxLen; omega)
theorem tbl_sits {us : List Pl.Un} (hF : Few us) {j : Nat} {l : List Pl.Rw} (h : (Pl.tbls us)[j]? = some l) (h0 : 0 < l.length) : ∃ t, Sits l t 0 (-1) ∧ l.length = Pl.sz t := by
  obtain ⟨x, hx, rfl, _⟩ := tbls_get hF h
  unfold Pl.tbl at h0 ⊢
  split at h0
  · simp at h0
  · rename_i hb
    rw [if_neg hb]
    exact ⟨x.tree, ⟨[], by rw [List.drop_zero, List.append_nil]⟩, by rw [Pl.tab_len]⟩
set_option maxHeartbeats 800000 in
theorem run_empty (a : Option Addr) (c : Nat) (st : Value) (w : World) : Calls Try.prog 35 #[.slice a 0 c, st] w fun e w' => e = .returned (.tuple #[]) ∧ w' = w := by
  go_enter Try.func35, Try.ntmps35
  go_wp2_with fail
  go_end0
  exact ⟨rfl, rfl⟩
theorem wf_small (k : Int) (h0 : -1 ≤ k) (h1 : k ≤ 1000000) : (Go.Lit.int .i64 k).wf = true := by
  have a : IntKind.i64.min = -9223372036854775808 := by decide
  have b : IntKind.i64.max = 9223372036854775807 := by decide
  simp [Go.Lit.wf, a, b]
  omega
theorem decl1_kind {k : Int} {s : ByteArray} {u i : Int} {fn cl : ByteArray} {m : Bool} {d : Pl.Dc} (h : Pl.decl1 k s u i fn cl m = some d) : 1 ≤ d.kind ∧ d.kind ≤ 6 := by
  unfold Pl.decl1 at h
  repeat' split at h
  all_goals first | (obtain rfl := Option.some.inj h; simp) | cases h
theorem decls_key {us : List Pl.Un} (hF : Few us) (d : Pl.Dc) (hd : d ∈ Pl.decls us) : ∃ kl, keyOf Try.prog 68 (kyOf (Pl.tbls us) d) = some kl := by
  obtain ⟨u, j, x, hx, hj, hd⟩ := decls_mem hF hd
  obtain ⟨h1, h2, h3⟩ := decl1_place hd
  obtain ⟨h4, h5⟩ := decl1_kind hd
  have hT : (Pl.tbls us)[u]? = some (Pl.tbl x) := by unfold Pl.tbls; rw [List.getElem?_map, hx]; rfl
  obtain ⟨_, _, _, hok, hl⟩ := tbls_get hF hT
  have hp := ok_par hok (k := (j : Nat)) (by omega) (by omega)
  have hu : u < us.length := (List.getElem?_eq_some_iff.1 hx).1
  have hu4 := hF.1
  unfold kyOf
  refine ky_key _ _ _ _ (wf_small _ (by omega) (by omega)) (by rw [h3]; exact tbl_text hF hT j) ?_ ?_
  · split
    · rw [h1]; exact wf_small _ (by omega) (by omega)
    · decide
  · split
    · rw [h1, h2, parOf_eq hT]; exact wf_small _ (by omega) (by omega)
    · decide
set_option maxHeartbeats 6400000 in
theorem uses_any (a : Option Addr) (n c : Nat) (us : List Pl.Un) (R : Nat → Sl) (w : World) (hU : IsU w a us R) (hF : Few us) (hn : n = us.length) :
    Calls Try.prog 12 #[.slice a n c] w (UsesP (Pl.uses us) w) := by
  obtain ⟨W1, hW1⟩ : ∃ W, W = w.alloc (.cells #[.slice none 0 0] 26) := ⟨_, rfl⟩
  have hb1 : Below w.heap.size w W1 := by rw [hW1]; exact below_1 _ _
  have hl1 : W1.heap[w.heap.size]? = some (.cells #[.slice none 0 0] 26 (0, 0)) := by rw [hW1]; exact heap_alloc_new _ _
  have HW1 := Lib.hid hW1
  have HB1 := Lib.hid hb1
  have HL1 := Lib.hid hl1
  have HTb := Lib.hid (ptables_at a n c us R W1 (hU.later hb1) hF hn)
  have HDc := Lib.hid (fun wx (hb : Below W1.heap.size W1 wx) => pdecls_any a n c us R wx ((hU.later hb1).later hb) hF hn)
  have HF := Lib.hid hF
  have hz1 := lt_blk hl1
  have hTl : (Pl.tbls us).length ≤ 4 := by unfold Pl.tbls; rw [List.length_map]; exact hF.1
  have HTl200 : Hid (∀ l ∈ Pl.tbls us, l.length ≤ 200) := Lib.hid (fun l hl => by
    obtain ⟨j, hj⟩ := List.getElem?_of_mem hl
    exact (tbls_get hF hj).choose_spec.2.2.2)
  clear hW1 hb1 hl1 hU hF hn
  go_enter Try.func12, Try.ntmps12
  go_upto_region 2 with fail
  rw [← HW1.out]
  go_upto_region 3 with (go_at_call 32; refine HTb.out.mono ?_; rintro e w2 ⟨F, tc, rfl, hFge, hti, hb2⟩; have HTI := Lib.hid hti; have HB2 := Lib.hid hb2; clear hti hb2)
  have HFi := Lib.hid (fun (da : Option Addr) (dc : Nat) (wx : World) (hD : FlatW 5 cellsD wx da (Pl.decls us)) (hb : Below w2.heap.size w2 wx) => firsts_any (Pl.decls us) (Pl.tbls us) da (Pl.decls us).length dc (some ⟨F, 0, none⟩) (Pl.tbls us).length tc wx hD rfl (Nat.le_trans (decls_len us HF.out) (by omega)) (HTI.out.later hb) rfl (fun l hl => Nat.le_trans (HTl200.out l hl) (by unfold maxLen; omega)) (fun d hd => decls_in HF.out hd) (fun d hd => decls_key HF.out d hd))
  have HDw := Lib.hid (HDc.out w2 HB2.out)
  go_upto_region 4 with (first | (go_at_call 34; refine HDw.out.mono ?_; rintro e w3 ⟨da, dc, rfl, hfl, hb3⟩; have HFl := Lib.hid hfl; have HB3 := Lib.hid hb3; clear hfl hb3) | (go_at_call 33; refine (HFi.out da dc w3 HFl.out HB3.out).mono ?_; rintro e w4 ⟨mb, rfl, hmge, hmf, hb4⟩; have HMf := Lib.hid hmf; have HB4 := Lib.hid hb4; clear hmf hb4))
  obtain ⟨V, hV⟩ : ∃ V, V = w4.alloc (.cells #[.map (some mb)] 59) := ⟨_, rfl⟩
  rw [← hV]
  obtain ⟨T, hT⟩ : ∃ T, T = Pl.tbls us := ⟨_, rfl⟩
  obtain ⟨D, hD⟩ : ∃ D, D = Pl.decls us := ⟨_, rfl⟩
  have hbV : Below w4.heap.size w4 V := by rw [hV]; exact below_1 _ _
  have hs2 := HB2.out.size
  have hs3 := HB3.out.size
  have hs4 := HB4.out.size
  have hsV : V.heap.size = w4.heap.size + 1 := by rw [hV]; simp
  have HVf : Hid (V.heap[w4.heap.size]? = some (.cells #[.map (some mb)] 59 (0, 0))) := Lib.hid (by rw [hV]; exact heap_alloc_new _ _)
  have HVm : Hid (MapF V 68 mb D.length (fstOf T D)) := Lib.hid (by rw [hT, hD]; exact HMf.out.keep (hbV.block mb HMf.out.lt))
  have hmlt := HMf.out.lt
  have HVB : Hid (Below W1.heap.size W1 V) := Lib.hid (HB2.out.trans ((HB3.out.mono hs2).trans ((HB4.out.mono (by omega)).trans (hbV.mono (by omega)))))
  have HVl : Hid (V.heap[w.heap.size]? = some (.cells #[.slice none 0 0] 26 (0, 0))) := Lib.hid ((HVB.out.block _ hz1).trans HL1.out)
  have HVT : Hid (TabsIn V (some ⟨F, 0, none⟩) T) := Lib.hid (by rw [hT]; exact ((HTI.out.later HB3.out).later HB4.out).later hbV)
  have HUs : Hid (Pl.uses us = Pl.usesUp D T T.length) := Lib.hid (by rw [hD, hT]; unfold Pl.uses; congr 1; unfold Pl.tbls; rw [List.length_map])
  have HTg : Hid (∀ (j : Nat) (l : List Pl.Rw), T[j]? = some l → l.length ≤ 200 ∧ Pl.Ok l ∧ (∀ i : Nat, (Pl.rw l i).text.size ≤ maxLen) ∧ (0 < l.length → ∃ t, Sits l t 0 (-1) ∧ l.length = Pl.sz t)) := Lib.hid (by
    intro j l hl
    rw [hT] at hl
    obtain ⟨_, _, _, hok, h200⟩ := tbls_get HF.out hl
    exact ⟨h200, hok, fun i => tbl_text HF.out hl i, fun h0 => tbl_sits HF.out hl h0⟩)
  have HUl : Hid (∀ k, k ≤ T.length → (Pl.usesUp D T k).length ≤ k * 200) := Lib.hid (usesUp_len D T (by rw [hT]; exact HTl200.out))
  obtain ⟨n4, hn4⟩ : ∃ n, n = T.length := ⟨_, rfl⟩
  rw [← hT, ← hn4] at hTl ⊢
  have HN := Lib.hid hn4
  rw [← hD]
  clear HTb HDc HFi HDw HFl hbV hV hT hD HTI HMf HTl200 hn4
  go_wp2_with fail
  go_loopw [16] (fun c wr => ∃ (j : Nat) (a2 : Option Addr) (n2 c2 : Nat), j ≤ n4 ∧ c = .int .i64 j ∧ n2 = (Pl.usesUp D T j).length ∧ wr.heap[w.heap.size]? = some (.cells #[.slice a2 n2 c2] 26 (0, 0)) ∧ wr.ownsRow V.heap.size 42 5 (.slice a2 n2 c2) n2 ((Pl.usesUp D T j).flatMap cellsU) ∧ Kept (fun b _ => b < V.heap.size ∧ b ≠ w.heap.size) V wr) (fun c _ => n4 - (intOf c).toNat)
  case atStart => exact ⟨0, none, 0, 0, Nat.zero_le _, rfl, rfl, HVl.out, World.ownsRow_nil _ _ _ _, Kept.refl _ _⟩
  case round =>
    obtain ⟨j, a2, n2, c2, hj, rfl, hn2, hlb, hown, hkp⟩ := hrel
    have HN2 := Lib.hid hn2
    have HLb := Lib.hid hlb
    have HOwn := Lib.hid hown
    have HKp := Lib.hid hkp
    have hzr := hkp.size
    by_cases hlt : j < n4
    · have hjt : j < T.length := by rw [← HN.out]; exact hlt
      have hl := List.getElem?_eq_getElem hjt
      have HUS := Lib.hid (Pl.usesUp_succ D T j _ hl)
      have HTj := Lib.hid (HTg.out j _ hl)
      obtain ⟨b, o, ta, tc2, R2, he, hbl, hcell, htab⟩ := HVT.out.one hl
      obtain ⟨rfl, rfl⟩ : F = b ∧ 0 = o := by cases he; exact ⟨rfl, rfl⟩
      have HTab := Lib.hid htab
      have hlen2 := HUl.out j (by rw [← HN.out]; exact hj)
      rw [← hn2] at hlen2
      generalize T[j] = l at *
      have hcr : wr.cell? ⟨F, 0 + j, none⟩ = some (.slice ta l.length tc2) := (World.cell?_of_block (w := V) (a := ⟨F, 0 + j, none⟩) ((hkp.keep F _ (Array.getElem?_eq_getElem hbl) ⟨hbl, by omega⟩).trans (Array.getElem?_eq_getElem hbl).symm)).trans hcell
      rw [Nat.zero_add] at hcr
      have hj0 : (0 : Int) ≤ (j : Int) := Int.natCast_nonneg _
      have hj1 : (j : Int) < (n4 : Int) := by omega
      obtain ⟨W2, hW2⟩ : ∃ W, W = (wr.alloc (.cells #[.int .i64 j] 3)).alloc (.cells #[.slice ta l.length tc2] 44) := ⟨_, rfl⟩
      have hb2 : Below wr.heap.size wr W2 := by rw [hW2]; exact below_2 _ _ _
      have hW2s : W2.heap.size = wr.heap.size + 2 := by rw [hW2]; simp
      have hub : W2.heap[wr.heap.size]? = some (.cells #[.int .i64 j] 3 (0, 0)) := by rw [hW2]; exact (Below.heap_alloc _ _ _ (by simp)).trans (heap_alloc_new _ _)
      have hqb : W2.heap[wr.heap.size + 1]? = some (.cells #[.slice ta l.length tc2] 44 (0, 0)) := by
        rw [hW2]
        have := heap_alloc_new (wr.alloc (.cells #[.int .i64 j] 3)) (.cells #[.slice ta l.length tc2] 44)
        rw [World.size_alloc] at this
        exact this
      have HW2 := Lib.hid hW2
      have HB2' := Lib.hid hb2
      have HUb := Lib.hid hub
      have HQb := Lib.hid hqb
      clear hn2 hlb hown hkp hl hcell htab he hW2
      go_upto_region 7 with fail
      rw [← HW2.out]
      have c0 := (blk_one HQb.out 0 _ rfl).1
      by_cases h0 : l.length = 0
      · have HE : Hid (Pl.usesUp D T (j + 1) = Pl.usesUp D T j) := Lib.hid (by rw [HUS.out, h0]; simp [Pl.usesTo])
        rw [h0] at c0
        go_wp2_with (go_at_call 35; refine (run_empty ta tc2 _ _).mono ?_; rintro e w5 ⟨rfl, h5⟩; rw [h5]; clear h5 w5)
        refine ⟨⟨j + 1, a2, n2, c2, by omega, by go_num, by rw [HE.out]; exact HN2.out, (HB2'.out.block _ (lt_blk HLb.out)).trans HLb.out, by rw [HE.out]; exact owns_later HOwn.out HB2'.out, HKp.out.trans (Kept.below HB2'.out)⟩, by simp [intOf]; omega⟩
      · obtain ⟨rb, ro, rfl, hTb⟩ := tb_of HTab.out (by omega)
        obtain ⟨t, hsit, hszt⟩ := HTj.out.2.2.2 (by omega)
        obtain ⟨Bl, hBl⟩ : ∃ Bl : Nat → Prop, Bl = fun x => x = w.heap.size ∨ (V.heap.size ≤ x ∧ (Value.slice a2 n2 c2).ownBlock = some x) := ⟨_, rfl⟩
        have hlbBl : Bl w.heap.size := by rw [hBl]; exact .inl rfl
        have hnb : ∀ x, x < V.heap.size → x ≠ w.heap.size → ¬ Bl x := fun x h1 h2 h3 => by
          rw [hBl] at h3
          rcases h3 with h3 | h3
          · exact h2 h3
          · omega
        have hnr : ∀ x, wr.heap.size ≤ x → ¬ Bl x := fun x h1 h3 => by
          rw [hBl] at h3
          rcases h3 with h3 | h3
          · omega
          · have := (HOwn.out.lt x h3.2).2; omega
        have hS : ∀ wx, On W2 (PB W2 Bl) wx → ∀ x, x < V.heap.size → x ≠ w.heap.size → wx.heap[x]? = V.heap[x]? := fun wx hon x h1 h2 => by
          rw [hon.1 x ⟨by omega, hnb x h1 h2⟩, HB2'.out.block x (by omega), HKp.out.keep x _ (Array.getElem?_eq_getElem h1) ⟨h1, h2⟩]
          exact (Array.getElem?_eq_getElem h1).symm
        have HBs : Base W2 (PB W2 Bl) rb ro l.length l R2 := ⟨fun b hb => hb.1, fun wx hs hz => hTb.but (by omega) HVl.out (fun x hx => hS wx ⟨hs, hz⟩ x hx.1 hx.2) (by omega), HTj.out.2.1, rfl, by have := HTj.out.1; omega, HTj.out.2.2.1⟩
        have hq : ∀ wx, On W2 (PB W2 Bl) wx → wx.cell? ⟨wr.heap.size + 1, 0, none⟩ = some (.slice (some ⟨rb, ro, none⟩) l.length tc2) ∧ wx.cell? ⟨w4.heap.size, 0, none⟩ = some (.map (some mb)) ∧ MapF wx 68 mb D.length (fstOf T D) ∧ wx.cell? ⟨wr.heap.size, 0, none⟩ = some (.int .i64 (j : Nat)) := fun wx hon =>
          ⟨(blk_one ((hon.1 _ ⟨by omega, hnr _ (by omega)⟩).trans HQb.out) 0 _ rfl).1, (blk_one ((hS wx hon _ (by omega) (by omega)).trans HVf.out) 0 _ rfl).1, HVm.out.keep (hS wx hon _ (by omega) (by omega)), (blk_one ((hon.1 _ ⟨by omega, hnr _ (by omega)⟩).trans HUb.out) 0 _ rfl).1⟩
        have hstep := uses1_step HBs tc2 T D j mb D.length (wr.heap.size + 1) w4.heap.size wr.heap.size w.heap.size V.heap.size (Pl.usesUp D T j) hq ⟨by omega, by omega, by omega, by omega⟩ hlbBl (by omega) (by have := HTj.out.1; have := HN2.out; omega)
        have hJ0 : UsJ W2.heap.size Bl V.heap.size w.heap.size (Pl.usesUp D T j) (Pl.usesTo D l j) 0 W2 := by
          have he : Pl.usesUp D T j ++ Pl.usesTo D l j 0 = Pl.usesUp D T j := by simp [Pl.usesTo]
          unfold UsJ
          rw [he, ← HN2.out]
          exact ⟨a2, c2, (HB2'.out.block _ (lt_blk HLb.out)).trans HLb.out, owns_later HOwn.out HB2'.out, fun g hg => .inl (by rw [hBl]; exact .inr ⟨(HOwn.out.lt g hg).1, hg⟩)⟩
        have HRun := Lib.hid (run_any HBs tc2 36 _ _ usJ_kept hstep (fun args wx => by rfl) hsit hszt ⟨Same.refl _ _, Nat.le_refl _⟩ hJ0)
        have HNB := Lib.hid hnb
        clear hBl hlbBl hnb hnr hS HBs hq hstep hJ0 hsit hszt hTb
        go_wp2_with (go_at_call 35; refine HRun.out.mono ?_; rintro e w5 ⟨rfl, hj5, hk5⟩; have HJ5 := Lib.hid hj5; have HK5 := Lib.hid hk5; clear hj5 hk5)
        obtain ⟨a5, c5, h51, h52, _⟩ := HJ5.out
        rw [← HUS.out] at h51 h52
        exact ⟨⟨j + 1, a5, _, c5, by omega, by go_num, rfl, h51, h52, (HKp.out.trans (Kept.below HB2'.out)).trans (HK5.out.mono fun b o _ hb => .inl ⟨by omega, HNB.out b hb.1 hb.2⟩)⟩, by simp [intOf]; omega⟩
    · have hjq : j = n4 := by omega
      subst hjq
      have c0 := (blk_one HLb.out 0 _ rfl).1
      have HUe : Hid (Pl.usesUp D T j = Pl.uses us) := Lib.hid (by rw [HUs.out, HN.out])
      clear hn2 hlb hown hkp
      go_wp2_with fail
      go_ret
      obtain ⟨a3, c3, he, hf⟩ := flat_row (cl := cellsU) (fun _ => rfl) (by decide) HOwn.out HN2.out
      rw [HUe.out] at he hf
      have hk := HKp.out
      exact ⟨a3, c3, by rw [he]; rfl, hf, HB1.out.trans ((HVB.out.mono HB1.out.size).trans ⟨hk.os, hk.tape, hk.output, hk.size, fun b hb => by
        have h1 : b < V.heap.size := by omega
        rw [hk.keep b _ (Array.getElem?_eq_getElem h1) ⟨h1, by omega⟩]
        exact (Array.getElem?_eq_getElem h1).symm⟩)⟩
end Go.Proofs.Ytoelfiendfemaaa

namespace Go.Proofs.Ytoelfiendfemaaa
open Go.RowKit Go.Deep
set_option linter.unusedVariables false
set_option linter.unusedSimpArgs false
set_option maxRecDepth 100000

theorem uses_len (us : List Pl.Un) (hF : Few us) : (Pl.uses us).length ≤ 800 := by
  have hlen := usesUp_len (Pl.decls us) (Pl.tbls us) (fun l hl => by obtain ⟨j, hj⟩ := List.getElem?_of_mem hl; exact (tbls_get hF hj).choose_spec.2.2.2) us.length (by unfold Pl.tbls; rw [List.length_map]; exact Nat.le_refl _)
  have := hF.1
  unfold Pl.uses
  omega
set_option maxHeartbeats 1600000 in
theorem unbound_any (a : Option Addr) (n c : Nat) (us : List Pl.Un) (R : Nat → Sl) (w : World) (hU : IsU w a us R) (hF : Few us) (hn : n = us.length) :
    Calls Try.prog 20 #[.slice a n c] w (RefsP (Pl.unbound us) w) := by
  obtain ⟨i0, hi0, hz0, hz1, hz2⟩ := info_parts infoF
  have HC := Lib.hid (uses_any a n c us R w hU hF hn)
  have HU : Hid (Pl.unbound us = Pl.unb (Pl.uses us)) := Lib.hid rfl
  have hlen2 := uses_len us hF
  clear hU hF hn
  generalize Pl.uses us = L at *
  generalize Pl.unbound us = L0 at *
  go_enter Try.func20, Try.ntmps20
  go_wp2_with (go_at_call 12; refine HC.out.mono ?_; rintro e w2 ⟨ua, uc, rfl, hua, hb2⟩; have HUA := Lib.hid hua; have HB2 := Lib.hid hb2; clear hua hb2)
  obtain ⟨n, hn⟩ : ∃ n, n = L.length := ⟨_, rfl⟩
  rw [← hn] at hlen2
  have HN := Lib.hid hn
  try rw [← hn]
  clear hn
  go_loopw [3, 9] (fun v i wr => ∃ (k : Nat) (a2 : Option Addr) (n2 c2 : Nat), k ≤ n ∧ i = .int .i64 k ∧ v = .slice a2 n2 c2 ∧ n2 = (Pl.unb (L.take k)).length ∧ n2 ≤ k ∧ wr.ownsRow w2.heap.size 29 2 (.slice a2 n2 c2) n2 ((Pl.unb (L.take k)).flatMap cellsR) ∧ Below w2.heap.size w2 wr) (fun _ i _ => n - (intOf i).toNat)
  case atStart => exact ⟨0, none, 0, 0, Nat.zero_le _, rfl, rfl, rfl, Nat.le_refl _, World.ownsRow_nil _ _ _ _, Below.refl _ _⟩
  case round =>
    obtain ⟨k, a2, n2, c2, hk, rfl, rfl, hn2, hle, hown, hbel⟩ := hrel
    have HN2 := Lib.hid hn2
    have HO := Lib.hid hown
    have HB := Lib.hid hbel
    have hgr := hbel.size
    by_cases hlt : k < n
    · have hkx : k < L.length := by rw [← HN.out]; exact hlt
      have hx := List.getElem?_eq_getElem hkx
      have HS := Lib.hid (unb_take L k _ hx)
      obtain ⟨b, o, rfl, hb, hrg⟩ := HUA.out.one hx
      have hk0 : (0 : Int) ≤ (k : Int) := Int.natCast_nonneg _
      have hk1 : (k : Int) < (n : Int) := by omega
      generalize L[k] = x at *
      have HRG : Hid (wr.rangeAt b (o + k * 5) [.int .i64 x.au, .int .i64 x.an, .int .i64 x.du, .int .i64 x.dn, .bool x.bound]) := Lib.hid (fun i v hv => (hbel.cell (p := ⟨b, o + k * 5 + i, none⟩) hb).trans (hrg i v hv))
      obtain ⟨X, hX⟩ : ∃ X, X = wr.alloc (.cells #[.int .i64 x.au, .int .i64 x.an, .int .i64 x.du, .int .i64 x.dn, .bool x.bound] 42) := ⟨_, rfl⟩
      have hbX : Below wr.heap.size wr X := by rw [hX]; exact below_1 _ _
      have x0 : X.heap[wr.heap.size]? = some (.cells #[.int .i64 x.au, .int .i64 x.an, .int .i64 x.du, .int .i64 x.dn, .bool x.bound] 42 (0, 0)) := by rw [hX]; exact heap_alloc_new _ _
      have hXs : X.heap.size = wr.heap.size + 1 := by rw [hX]; simp
      have HXw := Lib.hid hX
      have HBX : Hid (Below w2.heap.size w2 X) := Lib.hid (hbel.trans (hbX.mono hgr))
      have HOX := Lib.hid (owns_later hown hbX)
      obtain ⟨⟨p0, p1, p2, p3, p4⟩, pl⟩ := blk_five x0
      have HXs := Lib.hid hXs
      clear hx hrg hn2 hown hbel hX hbX x0 hXs
      cases hbd : x.bound with
      | true =>
        have HS2 : Hid (Pl.unb (L.take (k + 1)) = Pl.unb (L.take k)) := Lib.hid (by rw [HS.out, hbd]; simp)
        rw [hbd] at p4 HRG HXw
        clear hbd
        go_upto_region 5 with (refine wpList_load_mid rfl 42 _ rfl b (o + k * 5) rfl [.int .i64 x.au, .int .i64 x.an, .int .i64 x.du, .int .i64 x.dn, .bool true] _ HRG.out Try.underlying42 rfl sizeU ?_)
        rw [← HXw.out]
        go_wp2_with fail
        exact ⟨⟨k + 1, a2, n2, c2, by omega, by go_num, rfl, by rw [HS2.out]; exact HN2.out, by omega, by rw [HS2.out]; exact HOX.out, HBX.out⟩, by simp [intOf]; omega⟩
      | false =>
        have HS2 : Hid (Pl.unb (L.take (k + 1)) = Pl.unb (L.take k) ++ [(x.au, x.an)]) := Lib.hid (by rw [HS.out, hbd]; simp)
        rw [hbd] at p4 HRG HXw
        clear hbd
        go_upto_region 5 with (refine wpList_load_mid rfl 42 _ rfl b (o + k * 5) rfl [.int .i64 x.au, .int .i64 x.an, .int .i64 x.du, .int .i64 x.dn, .bool false] _ HRG.out Try.underlying42 rfl sizeU ?_)
        rw [← HXw.out]
        go_wp2_with (at_builtin; go_loud (refine wpList_append_lies _ rfl (.tmp 16) (.tmp 19) 37 rfl w2.heap.size 29 i0 _ 2 16 Try.underlying37 hi0 hz0 hz1 hz2 rfl (by omega) (.slice a2 n2 c2) n2 ((Pl.unb (L.take k)).flatMap cellsR) rfl (HOX.out.alloc _) ⟨X.heap.size, 0, none⟩ 1 1 (cellsR (x.au, x.an)) rfl rfl (World.news_of_block (cs := #[.int .i64 x.au, .int .i64 x.an]) (t := 29) (fr := (0, 0)) (heap_alloc_new X _)) (by simp [Value.oneCell', cellsR]) (by omega) (by unfold maxLen; omega) (by omega) (by simp; have := HXs.out; omega) (X.heap.size + 1) (by simp) ?_; intro g5 cap5 w5 hown5 hgrow5 hat5 hlt5; have HO5 := Lib.hid hown5; have HG5 := Lib.hid hgrow5; clear hown5 hgrow5 hat5))
        have hlen : (Pl.unb (L.take (k + 1))).length = n2 + 1 := by rw [HS2.out, List.length_append, ← HN2.out]; rfl
        refine ⟨⟨k + 1, some ⟨g5, 0, none⟩, n2 + 1, cap5, by omega, by go_num, rfl, hlen.symm, by omega, by rw [HS2.out, flatten_snoc]; exact HO5.out, ?_⟩, by simp [intOf]; omega⟩
        exact (HBX.out.alloc (by have := HXs.out; omega) _).grown HG5.out (by simp; have := HXs.out; omega) (fun z hz => (HOX.out.lt z hz).1)
    · have hkn : k = n := by omega
      subst hkn
      have HD : Hid (Pl.unb (L.take k) = L0) := Lib.hid (by rw [HU.out, HN.out, List.take_length])
      clear hn2 hown hbel
      go_wp2_with fail
      go_ret
      obtain ⟨a3, c3, he, hf⟩ := flat_row (cl := cellsR) (fun _ => rfl) (by decide) HO.out HN2.out
      exact ⟨a3, c3, by rw [he, HD.out]; rfl, by rw [← HD.out]; exact hf, HB2.out.trans (HB.out.mono HB2.out.size)⟩
end Go.Proofs.Ytoelfiendfemaaa

namespace Go.Proofs.Ytoelfiendfemaaa
open Go.RowKit Go.Deep
set_option linter.unusedVariables false
set_option linter.unusedSimpArgs false
set_option maxRecDepth 100000

theorem uses_mem {us : List Pl.Un} {x : Pl.Us} : x ∈ Pl.uses us ↔ ∃ (j i : Nat) (l : List Pl.Rw), j < us.length ∧ (Pl.tbls us)[j]? = some l ∧ i < l.length ∧ Pl.use1 (Pl.decls us) l j i = some x := by
  unfold Pl.uses Pl.usesUp
  rw [List.mem_flatMap]
  constructor
  · rintro ⟨j, hj, h⟩
    cases hT : (Pl.tbls us)[j]? with
    | none => rw [hT] at h; cases h
    | some l =>
      rw [hT] at h
      obtain ⟨i, hi, hx⟩ := List.mem_filterMap.1 h
      exact ⟨j, i, l, by simpa using hj, hT, by simpa using hi, hx⟩
  · rintro ⟨j, i, l, hj, hT, hi, hx⟩
    refine ⟨j, by simpa using hj, ?_⟩
    rw [hT]
    exact List.mem_filterMap.2 ⟨i, by simpa using hi, hx⟩
theorem res_yes {us : List Pl.Un} {x : Pl.Us} (h : x ∈ Pl.uses us) : foundV (Pl.resolve us x.au x.an) = .tuple #[.agg #[.int .i64 x.du, .int .i64 x.dn], .bool x.bound] := by
  obtain ⟨j, i, l, hj, hT, hi, hx⟩ := uses_mem.1 h
  unfold Pl.use1 at hx
  split at hx
  · cases hx
  cases hx
  have e1 : (Pl.mkUse j i (Pl.found (Pl.decls us) l j i)).au = j := by unfold Pl.mkUse; split <;> rfl
  have e2 : (Pl.mkUse j i (Pl.found (Pl.decls us) l j i)).an = i := by unfold Pl.mkUse; split <;> rfl
  rw [e1, e2]
  have hat : Pl.tblAt us j = l := by unfold Pl.tblAt; rw [Int.toNat_natCast, hT]; rfl
  have hex : Pl.exs (Pl.tbls us) j i = true := by
    unfold Pl.exs
    rw [Int.toNat_natCast, hT]
    have hjt : j < (Pl.tbls us).length := (List.getElem?_eq_some_iff.1 hT).1
    simp only [Option.getD_some, decide_eq_true_eq]
    omega
  unfold Pl.resolve
  rw [if_pos hex, hat]
  cases Pl.found (Pl.decls us) l j i <;> rfl
theorem res_no {us : List Pl.Un} {p q : Int} (h : ∀ x ∈ Pl.uses us, ¬ (x.au = p ∧ x.an = q)) : Pl.resolve us p q = none := by
  unfold Pl.resolve
  split
  · rename_i hex
    unfold Pl.exs at hex
    simp only [decide_eq_true_eq] at hex
    obtain ⟨h0, h1, h2, h3⟩ := hex
    obtain ⟨j, rfl⟩ : ∃ j : Nat, p = j := ⟨p.toNat, by omega⟩
    obtain ⟨i, rfl⟩ : ∃ i : Nat, q = i := ⟨q.toNat, by omega⟩
    rw [Int.toNat_natCast] at h3
    have hjt : j < (Pl.tbls us).length := by omega
    have hju : j < us.length := by unfold Pl.tbls at hjt; rwa [List.length_map] at hjt
    have hT := List.getElem?_eq_getElem hjt
    rw [hT, Option.getD_some] at h3
    have hat : Pl.tblAt us j = (Pl.tbls us)[j] := by unfold Pl.tblAt; rw [Int.toNat_natCast, hT]; rfl
    rw [hat]
    generalize (Pl.tbls us)[j] = l at *
    cases hf : Pl.found (Pl.decls us) l j i with
    | none => rfl
    | some r =>
      exfalso
      have hs : ¬ Pl.spc (Pl.rw l i) = 0 := fun e => by unfold Pl.found at hf; rw [if_pos e] at hf; cases hf
      refine h (Pl.mkUse j i (some r)) (uses_mem.2 ⟨j, i, l, hju, hT, by omega, by unfold Pl.use1; rw [if_neg hs, hf]⟩) ⟨rfl, rfl⟩
  · rfl
set_option maxHeartbeats 3200000 in
theorem presolve_any (a : Option Addr) (n c : Nat) (us : List Pl.Un) (R : Nat → Sl) (w : World) (hU : IsU w a us R) (hF : Few us) (hn : n = us.length) (p q : Int) :
    Calls Try.prog 14 #[.slice a n c, .agg #[.int .i64 p, .int .i64 q]] w (FoundP (Pl.resolve us p q) w) := by
  obtain ⟨B1, hB1⟩ : ∃ W, W = (w.alloc (.cells #[.int .i64 p, .int .i64 q] 29)).alloc (.cells #[.int .i64 0, .int .i64 0] 29) := ⟨_, rfl⟩
  have hb1 : Below w.heap.size w B1 := by rw [hB1]; exact below_2 _ _ _
  have hs1 : B1.heap.size = w.heap.size + 2 := by rw [hB1]; simp
  have v0 : B1.heap[w.heap.size]? = some (.cells #[.int .i64 p, .int .i64 q] 29 (0, 0)) := by rw [hB1]; exact (Below.heap_alloc _ _ _ (by simp)).trans (heap_alloc_new _ _)
  have v1 : B1.heap[w.heap.size + 1]? = some (.cells #[.int .i64 0, .int .i64 0] 29 (0, 0)) := by
    rw [hB1]
    have := heap_alloc_new (w.alloc (.cells #[.int .i64 p, .int .i64 q] 29)) (.cells #[.int .i64 0, .int .i64 0] 29)
    rw [World.size_alloc] at this
    exact this
  have HC := Lib.hid (uses_any a n c us R B1 (hU.later hb1) hF hn)
  have HBw := Lib.hid hB1
  have HB1 := Lib.hid hb1
  have HV0 := Lib.hid v0
  have HV1 := Lib.hid v1
  have hlen2 := uses_len us hF
  have HY := Lib.hid (fun x (h : x ∈ Pl.uses us) => res_yes h)
  have HNo := Lib.hid (fun (h : ∀ x ∈ Pl.uses us, ¬ (x.au = p ∧ x.an = q)) => res_no h)
  clear hU hF hn hB1 hb1 v0 v1
  generalize Pl.uses us = L at *
  go_enter Try.func14, Try.ntmps14
  go_upto_region 1 with fail
  rw [← HBw.out]
  go_wp2_with (go_at_call 12; refine HC.out.mono ?_; rintro e w2 ⟨ua, uc, rfl, hua, hb2⟩; have HUA := Lib.hid hua; have HB2 := Lib.hid hb2; clear hua hb2)
  obtain ⟨n, hn⟩ : ∃ n, n = L.length := ⟨_, rfl⟩
  rw [← hn] at hlen2
  have HN := Lib.hid hn
  have hs2 := HB2.out.size
  try rw [← hn]
  clear hn
  go_loopw [11] (fun i wr => ∃ (k : Nat), k ≤ n ∧ i = .int .i64 k ∧ (∀ x ∈ L.take k, ¬ (x.au = p ∧ x.an = q)) ∧ Below w2.heap.size w2 wr) (fun i _ => n - (intOf i).toNat)
  case atStart => exact ⟨0, Nat.zero_le _, rfl, fun x hx => by simp at hx, Below.refl _ _⟩
  case round =>
    obtain ⟨k, hk, rfl, hno, hbel⟩ := hrel
    have HNoK := Lib.hid hno
    have HB := Lib.hid hbel
    have hgr := hbel.size
    by_cases hlt : k < n
    · have hkx : k < L.length := by rw [← HN.out]; exact hlt
      have hx := List.getElem?_eq_getElem hkx
      have hmem : L[k] ∈ L := List.getElem_mem hkx
      have HT : Hid (L.take (k + 1) = L.take k ++ [L[k]]) := Lib.hid (by rw [List.take_add_one, hx]; rfl)
      obtain ⟨b, o, rfl, hb, hrg⟩ := HUA.out.one hx
      have hk0 : (0 : Int) ≤ (k : Int) := Int.natCast_nonneg _
      have hk1 : (k : Int) < (n : Int) := by omega
      have HYx := Lib.hid (HY.out _ hmem)
      generalize L[k] = x at *
      have HRG : Hid (wr.rangeAt b (o + k * 5) [.int .i64 x.au, .int .i64 x.an, .int .i64 x.du, .int .i64 x.dn, .bool x.bound]) := Lib.hid (fun i v hv => (hbel.cell (p := ⟨b, o + k * 5 + i, none⟩) hb).trans (hrg i v hv))
      obtain ⟨X, hX⟩ : ∃ X, X = wr.alloc (.cells #[.int .i64 x.au, .int .i64 x.an, .int .i64 x.du, .int .i64 x.dn, .bool x.bound] 42) := ⟨_, rfl⟩
      have hbX : Below wr.heap.size wr X := by rw [hX]; exact below_1 _ _
      have x0 : X.heap[wr.heap.size]? = some (.cells #[.int .i64 x.au, .int .i64 x.an, .int .i64 x.du, .int .i64 x.dn, .bool x.bound] 42 (0, 0)) := by rw [hX]; exact heap_alloc_new _ _
      have HXw := Lib.hid hX
      have HBX : Hid (Below w2.heap.size w2 X) := Lib.hid (hbel.trans (hbX.mono hgr))
      have HBB : Hid (Below B1.heap.size B1 X) := Lib.hid (HB2.out.trans (HBX.out.mono hs2))
      have y0 := (HBB.out.block w.heap.size (by omega)).trans HV0.out
      have y1 := (HBB.out.block (w.heap.size + 1) (by omega)).trans HV1.out
      have e0 := (blk_one y0 0 _ rfl).1
      have e1 := (blk_one y0 1 _ rfl).1
      obtain ⟨⟨p0, p1, p2, p3, p4⟩, pl⟩ := blk_five x0
      have HY1 := Lib.hid y1
      have HX0 := Lib.hid x0
      clear hx hrg hno hbel hX hbX x0 y0 y1 hmem
      cases hbb : (x.au == p && x.an == q) with
      | true =>
        have hxe : x.au = p ∧ x.an = q := by simpa using hbb
        have HRe := Lib.hid HYx.out
        rw [hxe.1, hxe.2] at HRe
        have HBb := Lib.hid hbb
        clear hxe hbb
        have d2 : X.drew.cell? ⟨wr.heap.size, 2, none⟩ = some (.int .i64 x.du) := p2
        have d3 : X.drew.cell? ⟨wr.heap.size, 3, none⟩ = some (.int .i64 x.dn) := p3
        have d4 : X.drew.cell? ⟨wr.heap.size, 4, none⟩ = some (.bool x.bound) := p4
        obtain ⟨z0, z0'⟩ := blk_one (w := X.drew) HY1.out 0 _ rfl
        obtain ⟨z1, z1'⟩ := blk_one (w := X.drew) HY1.out 1 _ rfl
        obtain ⟨zx0, zx0'⟩ := blk_one (w := X) HY1.out 0 _ rfl
        obtain ⟨zx1, zx1'⟩ := blk_one (w := X) HY1.out 1 _ rfl
        have HK : Hid (∀ (u v : Value), ((X.drew.setCell ⟨w.heap.size + 1, 0, none⟩ u).setCell ⟨w.heap.size + 1, 1, none⟩ v).cell? ⟨wr.heap.size, 2, none⟩ = some (.int .i64 x.du) ∧ ((X.drew.setCell ⟨w.heap.size + 1, 0, none⟩ u).setCell ⟨w.heap.size + 1, 1, none⟩ v).cell? ⟨wr.heap.size, 3, none⟩ = some (.int .i64 x.dn) ∧ ((X.drew.setCell ⟨w.heap.size + 1, 0, none⟩ u).setCell ⟨w.heap.size + 1, 1, none⟩ v).cell? ⟨wr.heap.size, 4, none⟩ = some (.bool x.bound)) := Lib.hid (fun u v => by
          have hne : ∀ (f g : Nat) (wx : World) (v : Value), (wx.setCell ⟨w.heap.size + 1, g, none⟩ v).cell? ⟨wr.heap.size, f, none⟩ = wx.cell? ⟨wr.heap.size, f, none⟩ := fun f g wx v => World.cell?_setCell_other wx _ _ _ (fun e => by injection e; omega)
          rw [hne, hne, hne, hne, hne, hne]; exact ⟨d2, d3, d4⟩)
        have HK2 : Hid (∀ (u v : Value), ((X.setCell ⟨w.heap.size + 1, 0, none⟩ u).setCell ⟨w.heap.size + 1, 1, none⟩ v).drew.cell? ⟨wr.heap.size, 2, none⟩ = some (.int .i64 x.du) ∧ ((X.setCell ⟨w.heap.size + 1, 0, none⟩ u).setCell ⟨w.heap.size + 1, 1, none⟩ v).drew.cell? ⟨wr.heap.size, 3, none⟩ = some (.int .i64 x.dn) ∧ ((X.setCell ⟨w.heap.size + 1, 0, none⟩ u).setCell ⟨w.heap.size + 1, 1, none⟩ v).drew.cell? ⟨wr.heap.size, 4, none⟩ = some (.bool x.bound)) := Lib.hid (fun u v => HK.out u v)
        go_upto_region 4 with (refine wpList_load_mid rfl 42 _ rfl b (o + k * 5) rfl [.int .i64 x.au, .int .i64 x.an, .int .i64 x.du, .int .i64 x.dn, .bool x.bound] _ HRG.out Try.underlying42 rfl sizeU ?_)
        rw [← HXw.out]
        go_upto_region 5 with (refine wpList_bin (by rfl) .eql 29 29 _ _ (by rfl) (.agg #[.int .i64 x.au, .int .i64 x.an]) (.agg #[.int .i64 p, .int .i64 q]) _ (by rfl) (by rfl) (refs_eql_is _ _ _ _ _ _ true HBb.out _) ?_)
        go_region_held3 (fun w' => w'.cell? ⟨wr.heap.size, 2, none⟩ = some (.int .i64 x.du) ∧ w'.cell? ⟨wr.heap.size, 3, none⟩ = some (.int .i64 x.dn) ∧ w'.cell? ⟨wr.heap.size, 4, none⟩ = some (.bool x.bound))
          (first | with_reducible exact ⟨d2, d3, d4⟩ | with_reducible exact HK.out _ _ | with_reducible exact HK2.out _ _ | fail)
          (fail)
        obtain ⟨Y, hY⟩ : ∃ Y, Y = ((X.setCell ⟨w.heap.size + 1, 0, none⟩ (.int .i64 x.du)).setCell ⟨w.heap.size + 1, 1, none⟩ (.int .i64 x.dn)).drew := ⟨_, rfl⟩
        rw [← hY]
        have hYb : Y.heap[w.heap.size + 1]? = some (.cells #[.int .i64 x.du, .int .i64 x.dn] 29 (0, 0)) := by
          rw [hY]
          show ((X.setCell ⟨w.heap.size + 1, 0, none⟩ (.int .i64 x.du)).setCell ⟨w.heap.size + 1, 1, none⟩ (.int .i64 x.dn)).heap[w.heap.size + 1]? = _
          rw [heap_setCell_same _ _ _ _ _ _ (heap_setCell_same _ _ _ _ _ _ HY1.out)]; rfl
        have hYB : Below w.heap.size w Y := by
          rw [hY]
          exact (((HB1.out.trans (HBB.out.mono HB1.out.size)).setCell (p := ⟨w.heap.size + 1, 0, none⟩) (by dsimp only; omega) _).setCell (p := ⟨w.heap.size + 1, 1, none⟩) (by dsimp only; omega) _).drew
        have r0 := (blk_one hYb 0 _ rfl).1
        have r1 := (blk_one hYb 1 _ rfl).1
        have HYB := Lib.hid hYB
        clear hY hYB hYb z0 z0' z1 z1' zx0 zx0' zx1 zx1' d2 d3 d4 HK HK2
        go_wp2_with fail
        exact bodyPost_ret (v := .tuple #[.agg #[.int .i64 x.du, .int .i64 x.dn], .bool x.bound]) (by simp [results, Try.results14, go_sem, r0, r1]) rfl ⟨by rw [HRe.out], HYB.out⟩
      | false =>
        have hxe : ¬ (x.au = p ∧ x.an = q) := fun h => by rw [h.1, h.2] at hbb; simp at hbb
        have HS : Hid (∀ y ∈ L.take (k + 1), ¬ (y.au = p ∧ y.an = q)) := Lib.hid (fun y hy => by
          rw [HT.out] at hy
          rcases List.mem_append.1 hy with hy | hy
          · exact HNoK.out y hy
          · rw [List.mem_singleton.1 hy]; exact hxe)
        have HBb := Lib.hid hbb
        clear hxe hbb
        go_upto_region 4 with (refine wpList_load_mid rfl 42 _ rfl b (o + k * 5) rfl [.int .i64 x.au, .int .i64 x.an, .int .i64 x.du, .int .i64 x.dn, .bool x.bound] _ HRG.out Try.underlying42 rfl sizeU ?_)
        rw [← HXw.out]
        go_wp2_with (refine wpList_bin (by rfl) .eql 29 29 _ _ (by rfl) (.agg #[.int .i64 x.au, .int .i64 x.an]) (.agg #[.int .i64 p, .int .i64 q]) _ (by rfl) (by rfl) (refs_eql_is _ _ _ _ _ _ false HBb.out _) ?_)
        exact ⟨⟨k + 1, by omega, by go_num, HS.out, HBX.out⟩, by simp [intOf]; omega⟩
    · have hkn : k = n := by omega
      subst hkn
      have HRe := Lib.hid (HNo.out (by rw [HN.out, List.take_length] at hno; exact hno))
      have HBB : Hid (Below B1.heap.size B1 wr) := Lib.hid (HB2.out.trans (HB.out.mono hs2))
      have y1 := (HBB.out.block (w.heap.size + 1) (by omega)).trans HV1.out
      have HY1 := Lib.hid y1
      obtain ⟨z0, z0'⟩ := blk_one y1 0 _ rfl
      obtain ⟨z1, z1'⟩ := blk_one y1 1 _ rfl
      clear hno hbel
      go_wp2_with fail
      obtain ⟨Y, hY⟩ : ∃ Y, Y = (wr.setCell ⟨w.heap.size + 1, 0, none⟩ (.int .i64 0)).setCell ⟨w.heap.size + 1, 1, none⟩ (.int .i64 0) := ⟨_, rfl⟩
      rw [← hY]
      have hYb : Y.heap[w.heap.size + 1]? = some (.cells #[.int .i64 0, .int .i64 0] 29 (0, 0)) := by
        rw [hY, heap_setCell_same _ _ _ _ _ _ (heap_setCell_same _ _ _ _ _ _ HY1.out)]; rfl
      have hYB : Below w.heap.size w Y := by
        rw [hY]
        exact ((HB1.out.trans (HBB.out.mono HB1.out.size)).setCell (p := ⟨w.heap.size + 1, 0, none⟩) (by dsimp only; omega) _).setCell (p := ⟨w.heap.size + 1, 1, none⟩) (by dsimp only; omega) _
      have r0 := (blk_one hYb 0 _ rfl).1
      have r1 := (blk_one hYb 1 _ rfl).1
      exact bodyPost_ret (v := .tuple #[.agg #[.int .i64 0, .int .i64 0], .bool false]) (by simp [results, Try.results14, go_sem, r0, r1]) rfl ⟨by rw [HRe.out]; rfl, hYB⟩
end Go.Proofs.Ytoelfiendfemaaa
