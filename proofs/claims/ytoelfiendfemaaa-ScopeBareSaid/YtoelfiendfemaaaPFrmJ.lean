/- Frames of the program's walker, and its finder. -/
import Derived.Test.YtoelfiendfemaaaPKyJ
namespace Go.Proofs.Ytoelfiendfemaaa
open Go.RowKit Go.Deep
set_option linter.unusedVariables false
set_option linter.unusedSimpArgs false
set_option maxRecDepth 100000

/-- The objects that D names are what they were. -/
structure Kept (D : Nat → Obj → Prop) (w w' : World) : Prop where
  os : w'.os = w.os
  tape : w'.tape = w.tape
  output : w'.output = w.output
  size : w.heap.size ≤ w'.heap.size
  keep : ∀ b o, w.heap[b]? = some o → D b o → w'.heap[b]? = some o
theorem Kept.refl (D : Nat → Obj → Prop) (w : World) : Kept D w w := ⟨rfl, rfl, rfl, Nat.le_refl _, fun _ _ h _ => h⟩
theorem Kept.trans {D : Nat → Obj → Prop} {a b c : World} (h : Kept D a b) (k : Kept D b c) : Kept D a c :=
  ⟨k.os.trans h.os, k.tape.trans h.tape, k.output.trans h.output, Nat.le_trans h.size k.size, fun i o ho hd => k.keep i o (h.keep i o ho hd) hd⟩
theorem Kept.mono {D E : Nat → Obj → Prop} {w w' : World} (h : Kept D w w') (hd : ∀ b o, w.heap[b]? = some o → E b o → D b o) : Kept E w w' := ⟨h.os, h.tape, h.output, h.size, fun b o ho he => h.keep b o ho (hd b o ho he)⟩
theorem Kept.below {D : Nat → Obj → Prop} {w w' : World} (h : Below w.heap.size w w') : Kept D w w' := ⟨h.os, h.tape, h.output, h.size, fun b o ho _ => (h.block b (lt_blk ho)).trans ho⟩
theorem Kept.grown {D : Nat → Obj → Prop} {w w' : World} {row : Option Nat} (h : w.grownBy w' row) (hd : ∀ b o, w.heap[b]? = some o → D b o → row ≠ some b) : Kept D w w' := ⟨h.os, h.tape, h.output, h.size, fun b o ho hD => (h.block b (lt_blk ho) (fun e => hd b o ho hD e.symm)).trans ho⟩
theorem Kept.setCell {D : Nat → Obj → Prop} (w : World) {p : Addr} (hp : ∀ o, w.heap[p.block]? = some o → ¬ D p.block o) (u : Value) : Kept D w (w.setCell p u) :=
  ⟨rfl, rfl, rfl, by simp [World.setCell], fun b o ho hD => (Below.heap_setCell _ _ _ _ (fun e => hp o (e ▸ ho) (e ▸ hD))).trans ho⟩
/-- What a step's own blocks hold. -/
def StepObj : Obj → Prop
  | .cells _ T _ => T = 26 ∨ T = 42 ∨ T = 33 ∨ T = 9
  | _ => False
/-- What a frame's blocks hold. -/
def FrObj : Obj → Prop
  | .map _ _ => True
  | .cells _ T _ => T = 3 ∨ T = 117
  | _ => False
theorem fr_not_step {o : Obj} (h : FrObj o) : ¬ StepObj o := by
  cases o with
  | cells c T f => unfold FrObj at h; unfold StepObj; simp only at h ⊢; rcases h with rfl | rfl <;> decide
  | _ => first | exact fun h => h | exact h.elim
/-- What a step keeps: all that lay below B0 but the box Bl; above, what is not its own. -/
def SKD (B0 : Nat) (Bl : Nat → Prop) : Nat → Obj → Prop := fun b o => (b < B0 ∧ ¬ Bl b) ∨ (B0 ≤ b ∧ ¬ StepObj o)
/-- What the walk in a frame from B on keeps. -/
def WKD (B0 : Nat) (Bl : Nat → Prop) (B : Nat) : Nat → Obj → Prop := fun b o => SKD B0 Bl b o ∧ (b < B ∨ ¬ FrObj o)
/-- What the walker itself keeps. -/
def WOD (B0 : Nat) : Nat → Obj → Prop := fun b o => b < B0 ∨ ¬ FrObj o

/-- The variables of a name. -/
def LetOk (w : World) (B : Nat) (N : Nat) (L : List Int) : Option Value → Prop
  | none => L = []
  | some v => w.ownsRow B 3 1 v L.length (ints L) ∧ L.length ≤ N
/-- A frame. -/
structure FrIs (w : World) (B fb m1 m2 : Nat) (P : ByteArray → Option Int) (L : ByteArray → List Int) (ib : Bool) (N : Nat) : Prop where
  fr : w.heap[fb]? = some (.cells #[.map (some m1), .map (some m2), .bool ib] 117 (0, 0))
  ge : B ≤ fb ∧ B ≤ m1 ∧ B ≤ m2 ∧ m1 ≠ m2
  pm : ∃ f, MapF w 9 m1 N f ∧ ∀ s : ByteArray, s.size ≤ maxLen → f (.string s) = (P s).map fun i => .int .i64 i
  lm : ∃ g, MapF w 9 m2 N g ∧ (∀ s : ByteArray, s.size ≤ maxLen → LetOk w B N (L s) (g (.string s))) ∧
    ∀ s s' : ByteArray, s.size ≤ maxLen → s'.size ≤ maxLen → s ≠ s' → ∀ v v', g (.string s) = some v → g (.string s') = some v' → v.ownBlock = none ∨ v.ownBlock ≠ v'.ownBlock
theorem LetOk.keep {w w' : World} {B N : Nat} {L : List Int} {o : Option Value} (h : LetOk w B N L o) (hk : ∀ b x, w.heap[b]? = some x → B ≤ b → FrObj x → w'.heap[b]? = some x) : LetOk w' B N L o := by
  cases o with
  | none => exact h
  | some v =>
    obtain ⟨h1, h2⟩ := h
    refine ⟨⟨h1.1, ?_⟩, h2⟩
    rcases h1.2 with h3 | ⟨g, cap, cur, e1, e2, e3, e4⟩
    · exact .inl h3
    · exact .inr ⟨g, cap, cur, e1, e2, hk g _ e3 e2 (.inl rfl), e4⟩
theorem FrIs.keep {w w' : World} {B fb m1 m2 : Nat} {P : ByteArray → Option Int} {L : ByteArray → List Int} {ib : Bool} {N : Nat} (h : FrIs w B fb m1 m2 P L ib N) (hk : ∀ b x, w.heap[b]? = some x → B ≤ b → FrObj x → w'.heap[b]? = some x) : FrIs w' B fb m1 m2 P L ib N := by
  obtain ⟨h1, h2, ⟨f, h3, h4⟩, g, h5, h6, h7⟩ := h
  have mk : ∀ b n f, MapF w 9 b n f → B ≤ b → w'.heap[b]? = w.heap[b]? := fun b n f hm hb => by
    obtain ⟨es, c, ho⟩ := hm.obj
    rw [hk b _ ho hb trivial, ho]
  exact ⟨hk fb _ h1 h2.1 (.inr rfl), h2, ⟨f, h3.keep (mk _ _ _ h3 h2.2.1), h4⟩, g, h5.keep (mk _ _ _ h5 h2.2.2.1), fun s hs => (h6 s hs).keep hk, h7⟩
theorem FrIs.kept {w w' : World} {B fb m1 m2 : Nat} {P : ByteArray → Option Int} {L : ByteArray → List Int} {ib : Bool} {N : Nat} (h : FrIs w B fb m1 m2 P L ib N) {B0 : Nat} {Bl : Nat → Prop} (hB : B0 ≤ B) (hs : Kept (SKD B0 Bl) w w') : FrIs w' B fb m1 m2 P L ib N :=
  h.keep fun b x hx hb hf => hs.keep b x hx (.inr ⟨Nat.le_trans hB hb, fr_not_step hf⟩)
theorem FrIs.later {w w' : World} {B fb m1 m2 : Nat} {P : ByteArray → Option Int} {L : ByteArray → List Int} {ib : Bool} {N : Nat} (h : FrIs w B fb m1 m2 P L ib N) (hs : Below w.heap.size w w') : FrIs w' B fb m1 m2 P L ib N :=
  h.keep fun b x hx hb hf => (hs.block b (lt_blk hx)).trans hx
/-- The variable that a frame tells. -/
def ans (P : ByteArray → Option Int) (L : ByteArray → List Int) (ib : Bool) (s : ByteArray) : Option Int := match (L s).getLast? with | some e => some e | none => if ib then P s else none
def ansV (o : Option Int) : Value := match o with | some i => .tuple #[.int .i64 i, .bool true] | none => .tuple #[.int .i64 0, .bool false]
theorem zero_ints (w : World) : (zeroValue 45).run Try.prog w = .ok (.slice none 0 0) w := by kernel_rfl
theorem zero_int (w : World) : (zeroValue 3).run Try.prog w = .ok (.int .i64 0) w := by kernel_rfl
/-- What stands at a name: a slice. -/
theorem FrIs.lets {w : World} {B fb m1 m2 : Nat} {P : ByteArray → Option Int} {L : ByteArray → List Int} {ib : Bool} {N : Nat} (h : FrIs w B fb m1 m2 P L ib N) {s : ByteArray} (hs : s.size ≤ maxLen) :
    ∃ a c, (Instr.lookup 115 (.map (some m2)) (.string s) false).run Try.prog w = .ok (.slice a (L s).length c) w ∧ w.ownsRow B 3 1 (.slice a (L s).length c) (L s).length (ints (L s)) ∧ (L s).length ≤ N := by
  obtain ⟨_, _, _, g, h5, h6, h7⟩ := h
  have hl := h5.look (t := 115) strKeyed Try.underlying115 zero_ints (str_key hs) false
  have h8 := h6 s hs
  simp only [Bool.false_eq_true, if_false] at hl
  cases hg : g (.string s) with
  | none =>
    rw [hg] at hl h8
    have h8 : L s = [] := h8
    rw [h8]
    exact ⟨none, 0, hl, World.ownsRow_nil _ _ _ _, Nat.zero_le _⟩
  | some v =>
    rw [hg] at hl h8
    obtain ⟨h9, h10⟩ := h8
    rcases h9.2 with ⟨rfl, h3⟩ | ⟨b, cap, cur, rfl, _⟩
    · rw [h3] at h9 ⊢
      exact ⟨none, 0, hl, h9, h3 ▸ h10⟩
    · exact ⟨_, _, hl, h9, h10⟩
theorem ints_last {w : World} {B : Nat} {a : Option Addr} {c : Nat} {L : List Int} {e : Int} (h : w.ownsRow B 3 1 (.slice a L.length c) L.length (ints L)) (he : L.getLast? = some e) :
    ∃ g, a = some ⟨g, 0, none⟩ ∧ w.cell? ⟨g, L.length - 1, none⟩ = some (.int .i64 e) ∧ 0 < L.length ∧ B ≤ g ∧ g < w.heap.size ∧ L.length ≤ c ∧ c ≤ maxLen := by
  have h0 : 0 < L.length := by cases L <;> simp at he ⊢
  rcases h.2 with ⟨e1, h3⟩ | ⟨g, cap, cur, e1, e2, e3, e4, e5, e6, e7⟩
  · omega
  · injection e1 with e1 e8 e9
    subst e1 e9
    refine ⟨g, rfl, ?_, h0, e2, lt_blk e3, e4, e5⟩
    have hc := h.cellAt (L.length - 1) (by omega)
    rw [hc]
    unfold ints
    rw [List.getElem?_map, ← List.getLast?_eq_getElem?, he]
    rfl
set_option maxHeartbeats 1600000 in
theorem finder_any {w : World} {B fb m1 m2 : Nat} {P : ByteArray → Option Int} {L : ByteArray → List Int} {ib : Bool} {N : Nat} (h : FrIs w B fb m1 m2 P L ib N) (hN : N ≤ 100000000) {s : ByteArray} (hs : s.size ≤ maxLen) (bx : Nat) (hbx : w.cell? ⟨bx, 0, none⟩ = some (.pointer (some ⟨fb, 0, none⟩))) :
    Calls Try.prog 89 #[.string s, .pointer (some ⟨bx, 0, none⟩)] w fun e w' => e = .returned (ansV (ans P L ib s)) ∧ w' = w := by
  obtain ⟨a, c, hl, how, hlN⟩ := h.lets hs
  obtain ⟨f, hf1, hf2⟩ := h.pm
  have hp := hf1.look (t := 114) strKeyed Try.underlying114 zero_int (str_key hs) true
  rw [hf2 s hs] at hp
  simp only [if_true] at hp
  have f0 := (blk_one h.fr 0 _ rfl).1
  have f1 := (blk_one h.fr 1 _ rfl).1
  have f2 := (blk_one h.fr 2 _ rfl).1
  clear hf1 hf2
  cases hL : (L s).getLast? with
  | some e =>
    have HA : Hid (ans P L ib s = some e) := Lib.hid (by unfold ans; rw [hL])
    obtain ⟨g, rfl, hcell, h0, _, _, hcap, _⟩ := ints_last how hL
    generalize (L s).length = n at *
    have HN : Hid (IntKind.i64.wrap ((n : Int) - 1) = ((n - 1 : Nat) : Int)) := Lib.hid (by rw [IntWalk.i64_in _ (by omega)]; omega)
    have hn0 : (0 : Int) < (n : Int) := by omega
    have hw := HN.out
    have hi0 : (0 : Int) ≤ ((n - 1 : Nat) : Int) := Int.natCast_nonneg _
    have hi1 : ((n - 1 : Nat) : Int) < (n : Int) := by omega
    clear how hL h
    go_enter Try.func89, Try.ntmps89
    go_wp2_with fail
    exact bodyPost_ret (v := .tuple #[.int .i64 e, .bool true]) (by simp [results, Try.results89, go_sem]) rfl ⟨by rw [HA.out]; rfl, rfl⟩
  | none =>
    have hLn : L s = [] := by cases hh : L s with | nil => rfl | cons x l => rw [hh] at hL; simp [List.getLast?_cons] at hL
    rw [hLn] at hl
    simp only [List.length_nil] at hl
    cases ib with
    | false =>
      have HA : Hid (ans P L false s = none) := Lib.hid (by unfold ans; rw [hL]; rfl)
      clear how hL hLn h hp hlN
      go_enter Try.func89, Try.ntmps89
      go_wp2_with fail
      exact bodyPost_ret (v := .tuple #[.int .i64 0, .bool false]) (by simp [results, Try.results89, go_sem]) rfl ⟨by rw [HA.out]; rfl, rfl⟩
    | true =>
      have HA : Hid (ans P L true s = P s) := Lib.hid (by unfold ans; rw [hL]; rfl)
      clear how hL hLn h hlN
      cases hPs : P s with
      | none =>
        rw [hPs] at hp HA
        simp only [Option.map_none, Option.getD_none, Option.isSome_none] at hp
        clear hPs
        go_enter Try.func89, Try.ntmps89
        go_wp2_with fail
        exact bodyPost_ret (v := .tuple #[.int .i64 0, .bool false]) (by simp [results, Try.results89, go_sem]) rfl ⟨by rw [HA.out]; rfl, rfl⟩
      | some i =>
        rw [hPs] at hp HA
        simp only [Option.map_some, Option.getD_some, Option.isSome_some] at hp
        clear hPs
        go_enter Try.func89, Try.ntmps89
        go_wp2_with fail
        exact bodyPost_ret (v := .tuple #[.int .i64 i, .bool true]) (by simp [results, Try.results89, go_sem]) rfl ⟨by rw [HA.out]; rfl, rfl⟩
set_option maxHeartbeats 800000 in
theorem makeFinder_any (fb : Nat) (w : World) :
    Calls Try.prog 71 #[.pointer (some ⟨fb, 0, none⟩)] w fun e w' => e = .returned (.func (.func 89) #[] #[.pointer (some ⟨w.heap.size, 0, none⟩)]) ∧ w' = w.alloc (.cells #[.pointer (some ⟨fb, 0, none⟩)] 95) := by
  go_enter Try.func71, Try.ntmps71
  go_wp2_with fail
  go_ret
  exact ⟨rfl, rfl⟩
set_option maxHeartbeats 800000 in
theorem newFrame_any (w : World) :
    Calls Try.prog 58 #[] w fun e w' => e = .returned (.pointer (some ⟨w.heap.size + 2, 0, none⟩)) ∧ FrIs w' w.heap.size (w.heap.size + 2) w.heap.size (w.heap.size + 1) (fun _ => none) (fun _ => []) false 0 ∧ Below w.heap.size w w' := by
  have hmm := @run_makeMap Try.prog
  go_enter Try.func58, Try.ntmps58
  go_wp2_with fail
  go_ret
  refine ⟨rfl, ⟨?_, ⟨by omega, Nat.le_refl _, by omega, by omega⟩, ⟨fun _ => none, (MapF.keep (mapF_made w _) ((Below.heap_alloc _ _ _ (by simp; omega)).trans (Below.heap_alloc _ _ _ (by simp)))), fun s hs => rfl⟩, fun _ => none, ?_, fun s hs => rfl, fun s s' _ _ _ v v' h => by cases h⟩, below_3 _ _ _ _⟩
  · have := heap_alloc_new ((w.alloc (.map #[] 0)).alloc (.map #[] 0)) (.cells #[.map (some w.heap.size), .map (some (w.heap.size + 1)), .bool false] 117)
    simp only [World.size_alloc] at this
    exact this
  · have := mapF_made (w.alloc (.map #[] 0)) 9
    rw [World.size_alloc] at this
    exact this.keep (Below.heap_alloc _ _ _ (by simp))
/-- The walker. -/
abbrev wkV (rb ro n rc : Nat) (st : Value) : Value := .agg #[.slice (some ⟨rb, ro, none⟩) n rc, st]
/-- Does the last one lie in a block? -/
def lastIs (l : List Pl.Rw) (L : List Int) (b : Int) : Bool := match L.getLast? with | some e => (Pl.rw l e).parent == b | none => false
set_option maxHeartbeats 1600000 in
theorem declaredIn_any {w : World} {B fb m1 m2 : Nat} {P : ByteArray → Option Int} {L : ByteArray → List Int} {ib : Bool} {N : Nat} (h : FrIs w B fb m1 m2 P L ib N) (hN : N ≤ 100000000) {s : ByteArray} (hs : s.size ≤ maxLen)
    (rb ro n rc : Nat) (l : List Pl.Rw) (R : Nat → Sl) (sn : Nat) (caps : Array Value) (hT : Tb w rb ro l R) (hn : n = l.length) (hn2 : n ≤ 1000000) (hL : ∀ e ∈ L s, 0 ≤ e ∧ e < (l.length : Int)) (blk : Int) :
    Calls Try.prog 91 #[wkV rb ro n rc (.func (.func sn) #[] caps), .int .i64 blk, .string s, .pointer (some ⟨fb, 0, none⟩)] w
      fun e w' => e = .returned (.bool (lastIs l (L s) blk)) ∧ Below w.heap.size w w' := by
  obtain ⟨W, hW⟩ : ∃ W, W = w.alloc (.cells #[.slice (some ⟨rb, ro, none⟩) n rc, .func (.func sn) #[] caps] 93) := ⟨_, rfl⟩
  have hb : Below w.heap.size w W := by rw [hW]; exact below_1 _ _
  have v0 : W.heap[w.heap.size]? = some (.cells #[.slice (some ⟨rb, ro, none⟩) n rc, .func (.func sn) #[] caps] 93 (0, 0)) := by rw [hW]; exact heap_alloc_new _ _
  have h2 := h.later hb
  have hT2 := hT.later hb
  obtain ⟨a, c, hl, how, hlN⟩ := h2.lets hs
  have w0 := (blk_one v0 0 _ rfl).1
  have w1 := (blk_one v0 1 _ rfl).1
  have f0 := (blk_one h2.fr 0 _ rfl).1
  have f1 := (blk_one h2.fr 1 _ rfl).1
  have f2 := (blk_one h2.fr 2 _ rfl).1
  have HB := Lib.hid hb
  have HWw := Lib.hid hW
  clear hW hb v0
  cases hLl : (L s).getLast? with
  | some e =>
    have HLI : Hid (lastIs l (L s) blk = ((Pl.rw l e).parent == blk)) := Lib.hid (by unfold lastIs; rw [hLl])
    obtain ⟨g, rfl, hcell, h0, _, _, hcap, _⟩ := ints_last how hLl
    obtain ⟨he0, he1⟩ := hL e (List.mem_of_getLast? hLl)
    obtain ⟨k, rfl⟩ : ∃ k : Nat, e = k := ⟨e.toNat, by omega⟩
    obtain ⟨x, r, hgx, hxr, c0, c1, c2, c3, c4, _, _⟩ := hT2.row (i := k) (by omega)
    have HX : Hid ((Pl.rw l k).parent = x.parent) := Lib.hid (by rw [hxr])
    generalize (L s).length = n1 at *
    have hw : IntKind.i64.wrap ((n1 : Int) - 1) = ((n1 - 1 : Nat) : Int) := by rw [IntWalk.i64_in _ (by omega)]; omega
    have hn0 : (0 : Int) < (n1 : Int) := by omega
    have hi0 : (0 : Int) ≤ ((n1 - 1 : Nat) : Int) := Int.natCast_nonneg _
    have hi1 : ((n1 - 1 : Nat) : Int) < (n1 : Int) := by omega
    have hk0 : (0 : Int) ≤ (k : Int) := he0
    have hk1 : (k : Int) < (n : Int) := by omega
    clear how hLl h h2 hT hT2 hgx hxr hL hn he1
    go_enter Try.func91, Try.ntmps91
    go_upto_region 1 with fail
    rw [← HWw.out]
    go_upto_region 2 with fail
    go_quiet (fail)
    go_wp2_with fail
    go_ret
    exact ⟨ret_bool (by rw [HLI.out, HX.out]), HB.out.trans ((below_drewN W nq).mono HB.out.size)⟩
  | none =>
    have HLI : Hid (lastIs l (L s) blk = false) := Lib.hid (by unfold lastIs; rw [hLl])
    have hLn : L s = [] := by cases hh : L s with | nil => rfl | cons x l => rw [hh] at hLl; simp [List.getLast?_cons] at hLl
    rw [hLn] at hl
    simp only [List.length_nil] at hl
    clear how hLl h h2 hT hT2 hL hn hLn hlN
    go_enter Try.func91, Try.ntmps91
    go_upto_region 1 with fail
    rw [← HWw.out]
    go_upto_region 2 with fail
    go_quiet (fail)
    go_wp2_with fail
    go_ret
    exact ⟨ret_bool HLI.out.symm, HB.out.trans ((below_drewN W nq).mono HB.out.size)⟩
theorem own_obj {w : World} {B n : Nat} {v : Value} {xs : List Value} {b : Nat} (h : w.ownsRow B 3 1 v n xs) (hb : v.ownBlock = some b) : ∃ cur, w.heap[b]? = some (.cells cur 3 (0, 0)) ∧ B ≤ b := by
  rcases h.2 with ⟨rfl, _⟩ | ⟨g, cap, cur, rfl, e2, e3, _⟩
  · cases hb
  · cases hb; exact ⟨cur, e3, e2⟩
theorem LetOk.mono {w : World} {B N N' : Nat} {L : List Int} {o : Option Value} (h : LetOk w B N L o) (hN : N ≤ N') : LetOk w B N' L o := by
  cases o with
  | none => exact h
  | some v => exact ⟨h.1, Nat.le_trans h.2 hN⟩
theorem owns_but {w w' : World} {B n : Nat} {v : Value} {xs : List Value} (h : w.ownsRow B 3 1 v n xs) (hk : ∀ b, v.ownBlock = some b → w'.heap[b]? = w.heap[b]?) : w'.ownsRow B 3 1 v n xs := owns_keep h hk
/-- What stands at a name, and the way back. -/
theorem FrIs.letsB {w : World} {B fb m1 m2 : Nat} {P : ByteArray → Option Int} {L : ByteArray → List Int} {ib : Bool} {N : Nat} (h : FrIs w B fb m1 m2 P L ib N) {s : ByteArray} (hs : s.size ≤ maxLen) (hN : N < maxLen) :
    ∃ a c, (Instr.lookup 115 (.map (some m2)) (.string s) false).run Try.prog w = .ok (.slice a (L s).length c) w ∧ w.ownsRow B 3 1 (.slice a (L s).length c) (L s).length (ints (L s)) ∧ (L s).length ≤ N ∧ (∀ wx : World, wx.heap[m2]? = w.heap[m2]? → (Instr.lookup 115 (.map (some m2)) (.string s) false).run Try.prog wx = .ok (.slice a (L s).length c) wx) ∧
      ∀ (w1 : World) (v' : Value) (L' : List Int), w.grownBy w1 (Value.slice a (L s).length c).ownBlock → w1.ownsRow B 3 1 v' L'.length (ints L') → L'.length ≤ N + 1 → (v'.ownBlock = (Value.slice a (L s).length c).ownBlock ∨ ∃ g, v'.ownBlock = some g ∧ w.heap.size ≤ g) →
        ∃ w2, (Instr.mapUpdate 115 (.map (some m2)) (.string s) v').run Try.prog w1 = .ok () w2 ∧ FrIs w2 B fb m1 m2 P (fun s' => if s' = s then L' else L s') ib (N + 1) ∧ w1.grownBy w2 (some m2) := by
  obtain ⟨h1, h2, ⟨f, h3, h4⟩, g, h5, h6, h7⟩ := h
  have hl := h5.look (t := 115) strKeyed Try.underlying115 zero_ints (str_key hs) false
  have h8 := h6 s hs
  simp only [Bool.false_eq_true, if_false] at hl
  have key : ∃ a c, (g (.string s)).getD (.slice none 0 0) = .slice a (L s).length c ∧ w.ownsRow B 3 1 (.slice a (L s).length c) (L s).length (ints (L s)) ∧ (L s).length ≤ N := by
    cases hg : g (.string s) with
    | none =>
      rw [hg] at h8
      have h8 : L s = [] := h8
      rw [h8]
      exact ⟨none, 0, rfl, World.ownsRow_nil _ _ _ _, Nat.zero_le _⟩
    | some v =>
      rw [hg] at h8
      obtain ⟨h9, h10⟩ := h8
      rcases h9.2 with ⟨rfl, h3⟩ | ⟨b, cap, cur, rfl, _⟩
      · rw [h3] at h9 ⊢
        exact ⟨none, 0, rfl, h9, h3 ▸ h10⟩
      · exact ⟨_, _, rfl, h9, h10⟩
  obtain ⟨a, c, hv, hown, hlen⟩ := key
  rw [hv] at hl
  have hlx : ∀ wx : World, wx.heap[m2]? = w.heap[m2]? → (Instr.lookup 115 (.map (some m2)) (.string s) false).run Try.prog wx = .ok (.slice a (L s).length c) wx := fun wx e => by
    have := (h5.keep e).look (t := 115) strKeyed Try.underlying115 zero_ints (str_key hs) false
    simp only [Bool.false_eq_true, if_false] at this
    rw [hv] at this
    exact this
  refine ⟨a, c, hl, hown, hlen, hlx, fun w1 v' L' hg hown' hL' hloc => ?_⟩
  -- apart from the others
  have hap : ∀ s' : ByteArray, s'.size ≤ maxLen → s' ≠ s → ∀ v'', g (.string s') = some v'' → v''.ownBlock = none ∨ v''.ownBlock ≠ (Value.slice a (L s).length c).ownBlock := by
    intro s' hsz' hne v'' hv''
    cases hgs : g (.string s) with
    | none =>
      rw [hgs] at hv
      have : (Value.slice a (L s).length c).ownBlock = none := by rw [← hv]; rfl
      rw [this]
      cases hh : v''.ownBlock with
      | none => exact .inl rfl
      | some z => exact .inr (by simp)
    | some v =>
      rw [hgs] at hv
      have hv : v = _ := hv
      rw [← hv]
      exact h7 s' s hsz' hs hne v'' v hv'' hgs
  have hm2 : w1.heap[m2]? = w.heap[m2]? := hg.block _ h5.lt (fun e => by
    obtain ⟨cur, ho, _⟩ := own_obj hown e.symm
    obtain ⟨es, c2, ho2⟩ := h5.obj
    rw [ho2] at ho; cases ho)
  have hm1 : w1.heap[m1]? = w.heap[m1]? := hg.block _ h3.lt (fun e => by
    obtain ⟨cur, ho, _⟩ := own_obj hown e.symm
    obtain ⟨es, c2, ho2⟩ := h3.obj
    rw [ho2] at ho; cases ho)
  have hfb : w1.heap[fb]? = w.heap[fb]? := hg.block _ (lt_blk h1) (fun e => by
    obtain ⟨cur, ho, _⟩ := own_obj hown e.symm
    rw [h1] at ho; cases ho)
  obtain ⟨w2, hrun, hs2, hg2⟩ := (h5.keep hm2).store (t := 115) strKeyed Try.underlying115 hN (str_key hs) v'
  have k2 : ∀ b, b < w1.heap.size → b ≠ m2 → w2.heap[b]? = w1.heap[b]? := fun b hb hne => hg2.block b hb (fun e => hne (by cases e; rfl))
  have nm2 : ∀ {wx : World} {v : Value} {n : Nat} {xs : List Value}, (∃ es c, wx.heap[m2]? = some (.map es c)) → wx.ownsRow B 3 1 v n xs → ∀ b, v.ownBlock = some b → b ≠ m2 := by
    intro wx v n xs ⟨es, c2, ho2⟩ ho b hb e
    obtain ⟨cur, ho3, _⟩ := own_obj ho hb
    rw [e, ho2] at ho3; cases ho3
  have hm2o : ∃ es c, w1.heap[m2]? = some (.map es c) := by obtain ⟨es, c2, ho2⟩ := h5.obj; exact ⟨es, c2, hm2.trans ho2⟩
  refine ⟨w2, hrun, ⟨(k2 fb (by rw [show fb < w1.heap.size ↔ True from ⟨fun _ => trivial, fun _ => Nat.lt_of_lt_of_le (lt_blk h1) hg.size⟩]; trivial) (fun e => by obtain ⟨es, c2, ho2⟩ := hm2o; rw [← e, hfb, h1] at ho2; cases ho2)).trans (hfb.trans h1), h2, ⟨f, (h3.keep ((k2 m1 (Nat.lt_of_lt_of_le h3.lt hg.size) h2.2.2.2).trans hm1)).mono (Nat.le_succ N), h4⟩, upd g (.string s) v', hs2, fun s' hs' => ?_, fun s1 s2 hz1 hz2 hne v1 v2 e1 e2 => ?_⟩, hg2⟩
  · by_cases e : s' = s
    · subst e
      rw [upd_same, if_pos rfl]
      exact ⟨owns_but hown' (fun b hb => k2 b (hown'.lt b hb).2 (nm2 hm2o hown' b hb)), hL'⟩
    · rw [upd_other _ _ (fun e2 => e (by injection e2)), if_neg e]
      have h9 := h6 s' hs'
      cases hg' : g (.string s') with
      | none => rw [hg'] at h9; exact h9
      | some v'' =>
        rw [hg'] at h9
        have hk1 : ∀ b, v''.ownBlock = some b → w1.heap[b]? = w.heap[b]? := fun b hb => hg.block b (h9.1.lt b hb).2 (fun e2 => by
          rcases hap s' hs' e v'' hg' with h | h
          · rw [h] at hb; cases hb
          · exact h (by rw [hb, e2]))
        have o1 := owns_but h9.1 hk1
        exact ⟨owns_but o1 (fun b hb => k2 b (o1.lt b hb).2 (nm2 hm2o o1 b hb)), Nat.le_trans h9.2 (Nat.le_succ N)⟩
  · have newp : ∀ s' : ByteArray, s'.size ≤ maxLen → s' ≠ s → ∀ v'', g (.string s') = some v'' → v''.ownBlock = none ∨ v''.ownBlock ≠ v'.ownBlock := by
      intro s' hsz' hne' v'' hv''
      cases hb : v''.ownBlock with
      | none => exact .inl rfl
      | some b =>
        refine .inr (fun e => ?_)
        rcases hloc with hl2 | ⟨z, hz, hz2⟩
        · rcases hap s' hsz' hne' v'' hv'' with h | h
          · rw [h] at hb; cases hb
          · exact h (by rw [hb, e, hl2])
        · rw [hz] at e
          cases e
          have h9 := h6 s' hsz'
          rw [hv''] at h9
          have := (h9.1.lt _ hb).2
          omega
    by_cases e3 : s1 = s
    · subst e3
      rw [upd_same] at e1
      cases e1
      rw [upd_other _ _ (fun e4 => hne (by injection e4 with e5; exact e5.symm))] at e2
      rcases newp s2 hz2 (fun e4 => hne e4.symm) v2 e2 with h | h
      · cases hv1 : v'.ownBlock with
        | none => exact .inl rfl
        | some z => exact .inr (by rw [h]; simp)
      · exact .inr (fun e4 => h e4.symm)
    · rw [upd_other _ _ (fun e4 => e3 (by injection e4))] at e1
      by_cases e5 : s2 = s
      · subst e5
        rw [upd_same] at e2
        cases e2
        exact newp s1 hz1 e3 v1 e1
      · rw [upd_other _ _ (fun e4 => e5 (by injection e4))] at e2
        exact h7 s1 s2 hz1 hz2 hne v1 v2 e1 e2
end Go.Proofs.Ytoelfiendfemaaa

namespace Go.Proofs.Ytoelfiendfemaaa
open Go.RowKit Go.Deep
set_option linter.unusedVariables false
set_option linter.unusedSimpArgs false
set_option maxRecDepth 100000

theorem FrIs.ne2 {w : World} {B fb m1 m2 : Nat} {P : ByteArray → Option Int} {L : ByteArray → List Int} {ib : Bool} {N : Nat} (h : FrIs w B fb m1 m2 P L ib N) : fb ≠ m2 := fun e => by
  obtain ⟨h1, _, _, g, h5, _⟩ := h; obtain ⟨es, c, ho⟩ := h5.obj; rw [← e, h1] at ho; cases ho
theorem FrIs.ne1 {w : World} {B fb m1 m2 : Nat} {P : ByteArray → Option Int} {L : ByteArray → List Int} {ib : Bool} {N : Nat} (h : FrIs w B fb m1 m2 P L ib N) : fb ≠ m1 := fun e => by
  obtain ⟨h1, _, ⟨f, h5, _⟩, _⟩ := h; obtain ⟨es, c, ho⟩ := h5.obj; rw [← e, h1] at ho; cases ho
theorem FrIs.mono {w : World} {B fb m1 m2 : Nat} {P : ByteArray → Option Int} {L : ByteArray → List Int} {ib : Bool} {N N' : Nat} (h : FrIs w B fb m1 m2 P L ib N) (hN : N ≤ N') : FrIs w B fb m1 m2 P L ib N' := by
  obtain ⟨h1, h2, ⟨f, h3, h4⟩, g, h5, h6, h7⟩ := h
  exact ⟨h1, h2, ⟨f, h3.mono hN, h4⟩, g, h5.mono hN, fun s hs => (h6 s hs).mono hN, h7⟩
/-- A parameter is stored. -/
theorem FrIs.storeP {w : World} {B fb m1 m2 : Nat} {P : ByteArray → Option Int} {L : ByteArray → List Int} {ib : Bool} {N : Nat} (h : FrIs w B fb m1 m2 P L ib N) (hN : N < maxLen) {s : ByteArray} (hs : s.size ≤ maxLen) (i : Int) :
    ∃ w2, (Instr.mapUpdate 114 (.map (some m1)) (.string s) (.int .i64 i)).run Try.prog w = .ok () w2 ∧ FrIs w2 B fb m1 m2 (fun s' => if s' = s then some i else P s') L ib (N + 1) ∧ w.grownBy w2 (some m1) := by
  have hn1 := h.ne1
  obtain ⟨h1, h2, ⟨f, h3, h4⟩, g, h5, h6, h7⟩ := h
  obtain ⟨w2, hrun, hs2, hg2⟩ := h3.store (t := 114) strKeyed Try.underlying114 hN (str_key hs) (.int .i64 i)
  have k2 : ∀ b, b < w.heap.size → b ≠ m1 → w2.heap[b]? = w.heap[b]? := fun b hb hne => hg2.block b hb (fun e => hne (by cases e; rfl))
  refine ⟨w2, hrun, ⟨(k2 fb (lt_blk h1) hn1).trans h1, h2, ⟨_, hs2, fun s' hs' => ?_⟩, g, (h5.keep (k2 m2 h5.lt (fun e => h2.2.2.2 e.symm))).mono (Nat.le_succ N), fun s' hs' => ?_, h7⟩, hg2⟩
  · by_cases e : s' = s
    · subst e; rw [upd_same, if_pos rfl]; rfl
    · rw [upd_other _ _ (fun e2 => e (by injection e2)), if_neg e]; exact h4 s' hs'
  · have h9 := (h6 s' hs').mono (Nat.le_succ N)
    cases hg' : g (.string s') with
    | none => rw [hg'] at h9; exact h9
    | some v =>
      rw [hg'] at h9
      refine ⟨owns_but h9.1 (fun b hb => k2 b (h9.1.lt b hb).2 (fun e => ?_)), h9.2⟩
      obtain ⟨cur, ho, _⟩ := own_obj h9.1 hb
      obtain ⟨es, c, ho2⟩ := h3.obj
      rw [e, ho2] at ho; cases ho
theorem FrIs.params {w : World} {B fb m1 m2 : Nat} {P : ByteArray → Option Int} {L : ByteArray → List Int} {ib : Bool} {N : Nat} (h : FrIs w B fb m1 m2 P L ib N) {s : ByteArray} (hs : s.size ≤ maxLen) :
    (Instr.lookup 114 (.map (some m1)) (.string s) true).run Try.prog w = .ok (ansV (P s)) w := by
  obtain ⟨f, hf1, hf2⟩ := h.pm
  have hp := hf1.look (t := 114) strKeyed Try.underlying114 zero_int (str_key hs) true
  rw [hf2 s hs] at hp
  simp only [if_true] at hp
  rw [hp]
  cases P s <;> rfl
/-- A look into a map in a region that draws its order. -/
theorem quiet_lookF {P : Program} {ops : Array Oper} {C : World → Prop} {Q : Act → Prop} {o : Oper} {rest : List Oper} {a : Act} (hw : Region.wanted o (yielded ops a.tmps) = true) (t : TypeId) (m x : Operand) (c : Bool) (ho : o.op = .lookup t m x c) (b : Nat) (key v : Value) (hm : a.eval m = .map (some b)) (hx : a.eval x = key)
    (hl : ∀ w, C w → (Instr.lookup t (.map (some b)) key c).run P w = .ok v w) (h : wpQuiet P ops C Q rest (a.put o.dst v)) : wpQuiet P ops C Q (o :: rest) a := by
  unfold wpQuiet
  rw [if_pos hw]
  refine ⟨v, fun w hC => ?_, h⟩
  unfold Oper.quietAt execOp
  simp only [ho, hm, hx, hl w hC, Sem.run_bind, Sem.run_pure, Result.andThen_ok]
  exact ⟨rfl, rfl⟩
/-- L with another list at one name. -/
def updL (L : ByteArray → List Int) (s : ByteArray) (x : List Int) : ByteArray → List Int := fun s' => if s' = s then x else L s'
theorem ints_take (L : List Int) (n : Nat) : ints (L.take n) = (ints L).take n := by unfold ints; rw [List.map_take]
/-- A slice without its last number. -/
theorem owns_drop {w : World} {B : Nat} {a : Option Addr} {c : Nat} {L : List Int} (h : w.ownsRow B 3 1 (.slice a L.length c) L.length (ints L)) (h0 : 0 < L.length) : w.ownsRow B 3 1 (.slice a (L.length - 1) c) L.dropLast.length (ints L.dropLast) := by
  have hd : L.dropLast = L.take (L.length - 1) := List.dropLast_eq_take
  have hl : L.dropLast.length = L.length - 1 := List.length_dropLast
  rcases h.2 with ⟨e1, h3⟩ | ⟨g, cap, cur, e1, e2, e3, e4, e5, e6, e7⟩
  · omega
  · injection e1 with e1 e8 e9
    subst e1 e9
    refine ⟨by unfold ints; simp, .inr ⟨g, c, cur, by rw [hl], e2, e3, by omega, e5, e6, ?_⟩⟩
    rw [hl, hd, ints_take, ← e7, List.take_take]
    congr 1
    omega
set_option maxHeartbeats 1600000 in
theorem dropLet_any {w : World} {B fb m1 m2 : Nat} {P : ByteArray → Option Int} {L : ByteArray → List Int} {ib : Bool} {N : Nat} (h : FrIs w B fb m1 m2 P L ib N) (hN : N ≤ 100000000) {s : ByteArray} (hs : s.size ≤ maxLen) (h0 : 0 < (L s).length) :
    Calls Try.prog 92 #[.pointer (some ⟨fb, 0, none⟩), .string s] w
      fun e w' => e = .returned (.tuple #[]) ∧ FrIs w' B fb m1 m2 P (updL L s (L s).dropLast) ib (N + 1) ∧ w.grownBy w' (some m2) := by
  obtain ⟨a, c, hl, how, hlN, _, hback⟩ := h.letsB hs (by unfold maxLen; omega)
  obtain ⟨w2, hrun, hfr, hg⟩ := hback w.drew _ (L s).dropLast (below_grown (Below.refl _ _).drew) (owns_drop how h0) (by rw [List.length_dropLast]; omega) (.inl (by cases a <;> rfl))
  have f0 := (blk_one h.fr 0 _ rfl).1
  have f1 := (blk_one h.fr 1 _ rfl).1
  have f2 := (blk_one h.fr 2 _ rfl).1
  obtain ⟨g, rfl, hjunk, h0', _, _, hcap, hcm⟩ := ints_last how (List.getLast?_eq_some_getLast (List.ne_nil_of_length_pos h0))
  have HFr := Lib.hid hfr
  have HG := Lib.hid hg
  clear how hback hjunk h0
  generalize (L s).length = n at *
  have hw : IntKind.i64.wrap ((n : Int) - 1) = ((n - 1 : Nat) : Int) := by rw [IntWalk.i64_in _ (by omega)]; omega
  have hi0 : (0 : Int) ≤ ((n - 1 : Nat) : Int) := Int.natCast_nonneg _
  have hi1 : ((n - 1 : Nat) : Int) ≤ (c : Int) := by omega
  have hd1 : w.drew.cell? ⟨fb, 1, none⟩ = some (.map (some m2)) := f1
  have hfl := lt_blk h.fr
  have hne : fb ≠ m2 := h.ne2
  have hw2 : w2.cell? ⟨fb, 1, none⟩ = some (.map (some m2)) := (World.cell?_of_block (w := w.drew) (a := ⟨fb, 1, none⟩) (hg.block fb hfl (fun e => hne (by cases e; rfl)))).trans f1
  clear hfr hg h
  go_enter Try.func92, Try.ntmps92
  go_upto_region 1 with fail
  go_region_held3 (fun w' => w'.cell? ⟨fb, 1, none⟩ = some (.map (some m2)))
    (first | with_reducible exact hd1 | with_reducible exact hw2)
    (fail)
  go_wp2_with fail
  go_end0
  exact ⟨rfl, HFr.out, ⟨HG.out.os, HG.out.tape, HG.out.output, HG.out.size, HG.out.block⟩⟩
/-- The parameters of a list are added. -/
def addP (l : List Pl.Rw) (P : ByteArray → Option Int) (ks : List Int) : ByteArray → Option Int := fun s => match P s with | some i => some i | none => ks.find? fun d => decide ((Pl.rw l d).kind = 4 ∧ (Pl.rw l d).text = s)
theorem addP_nil (l : List Pl.Rw) (P : ByteArray → Option Int) : addP l P [] = P := by
  funext s; unfold addP; cases P s <;> rfl
theorem addP_take (l : List Pl.Rw) (P : ByteArray → Option Int) (ks : List Int) (j : Nat) (d : Int) (h : ks[j]? = some d) :
    addP l P (ks.take (j + 1)) = if (Pl.rw l d).kind = 4 ∧ addP l P (ks.take j) (Pl.rw l d).text = none then (fun s' => if s' = (Pl.rw l d).text then some d else addP l P (ks.take j) s') else addP l P (ks.take j) := by
  funext s
  rw [List.take_add_one, h, Option.toList_some]
  by_cases hk : (Pl.rw l d).kind = 4 ∧ addP l P (ks.take j) (Pl.rw l d).text = none
  · rw [if_pos hk]
    obtain ⟨hk1, hk2⟩ := hk
    unfold addP at hk2 ⊢
    by_cases e : s = (Pl.rw l d).text
    · subst e
      rw [if_pos rfl]
      cases hP : P (Pl.rw l d).text with
      | some i => rw [hP] at hk2; cases hk2
      | none =>
        rw [hP] at hk2
        simp only at hk2 ⊢
        rw [List.find?_append, hk2]
        simp [hk1]
    · rw [if_neg e]
      cases hP : P s with
      | some i => rfl
      | none =>
        simp only
        rw [List.find?_append]
        simp [Ne.symm e]
  · rw [if_neg hk]
    unfold addP
    cases hP : P s with
    | some i => rfl
    | none =>
      simp only
      rw [List.find?_append]
      by_cases hk1 : (Pl.rw l d).kind = 4
      · by_cases e : (Pl.rw l d).text = s
        · have h2 : addP l P (ks.take j) (Pl.rw l d).text ≠ none := fun h2 => hk ⟨hk1, h2⟩
          rw [e] at h2
          unfold addP at h2
          rw [hP] at h2
          simp only at h2
          cases hf : (ks.take j).find? fun d => decide ((Pl.rw l d).kind = 4 ∧ (Pl.rw l d).text = s) with
          | none => exact absurd hf h2
          | some z => rfl
        · simp [e]
      · simp [hk1]
/-- What a row's kids are: numbers in memory. -/
theorem Tb.kids {w : World} {b o : Nat} {l : List Pl.Rw} {R : Nat → Sl} (h : Tb w b o l R) {i : Nat} (hi : i < l.length) {j : Nat} {c : Int} (hc : (Pl.rw l i).kids[j]? = some c) : ∃ kb ko, (R i).da = some ⟨kb, ko, none⟩ ∧ kb < w.heap.size ∧ w.cell? ⟨kb, ko + j, none⟩ = some (.int .i64 c) := by
  have hx := List.getElem?_eq_getElem hi
  have hr := Pl.rw_get hx
  rcases (h.2.2 i _ hx).2 with h0 | ⟨kb, ko, e, hb, hat⟩
  · rw [hr, h0] at hc; cases j <;> cases hc
  · rw [hr] at hc
    exact ⟨kb, ko, e, hb, hat j c hc⟩
/-- The rows' cells and slices, with R. -/
theorem Tb.row' {w : World} {b o : Nat} {l : List Pl.Rw} {R : Nat → Sl} (h : Tb w b o l R) {i : Nat} (hi : i < l.length) :
    w.rangeAt b (o + i * 5) [.int .i64 (Pl.rw l i).parent, .int .i64 (Pl.rw l i).kind, .string (Pl.rw l i).text, .slice (R i).ga (Pl.rw l i).gaps.length (R i).gc, .slice (R i).da (Pl.rw l i).kids.length (R i).dc] := by
  have hx := List.getElem?_eq_getElem hi
  have hr := Pl.rw_get hx
  rw [hr]
  exact h.2.1 i _ hx
theorem walker_not {c : Array Value} {f : Nat × Nat} : ¬ FrObj (.cells c 93 f) := fun h => by
  rcases h with h | h <;> exact absurd h (by decide)
/-- What a frame's own functions keep. -/
def FD (B : Nat) : Nat → Obj → Prop := fun b o => b < B ∨ ¬ FrObj o
/-- The base: what lies there and is never written. -/
structure Base (w0 : World) (P0 : Nat → Prop) (rb ro n : Nat) (l : List Pl.Rw) (R : Nat → Sl) : Prop where
  hP : ∀ b, P0 b → b < w0.heap.size
  hT : ∀ wx, Same P0 w0 wx → w0.heap.size ≤ wx.heap.size → Tb wx rb ro l R
  hok : Pl.Ok l
  hn : n = l.length
  hn2 : n ≤ 1000000
  htx : ∀ i : Nat, (Pl.rw l i).text.size ≤ maxLen
def On (w0 : World) (P0 : Nat → Prop) (w : World) : Prop := Same P0 w0 w ∧ w0.heap.size ≤ w.heap.size
theorem On.kept {w0 w w' : World} {P0 : Nat → Prop} {D : Nat → Obj → Prop} (h : On w0 P0 w) (hP : ∀ b, P0 b → b < w0.heap.size) (k : Kept D w w') (hD : ∀ b o, P0 b → D b o) : On w0 P0 w' :=
  ⟨fun b hb => by
    have hlt : b < w.heap.size := Nat.lt_of_lt_of_le (hP b hb) h.2
    rw [← h.1 b hb]
    have e := Array.getElem?_eq_getElem hlt
    rw [k.keep b _ e (hD b _ hb), e], Nat.le_trans h.2 k.size⟩
theorem On.later {w0 w w' : World} {P0 : Nat → Prop} (h : On w0 P0 w) (hP : ∀ b, P0 b → b < w0.heap.size) (k : Below w.heap.size w w') : On w0 P0 w' := h.kept hP (Kept.below (D := fun _ _ => True) k) fun _ _ _ => trivial
theorem Base.kids {w0 : World} {P0 : Nat → Prop} {rb ro n : Nat} {l : List Pl.Rw} {R : Nat → Sl} (h : Base w0 P0 rb ro n l R) {i : Nat} (hi : i < n) : (Pl.rw l i).kids.length ≤ 1000000 ∧ ∀ c ∈ (Pl.rw l i).kids, ∃ k : Nat, c = k ∧ i < k ∧ k < n := by
  have hil : i < l.length := by rw [← h.hn]; exact hi
  have hx := List.getElem?_eq_getElem hil
  obtain ⟨_, _, h3, h4⟩ := h.hok.2 i _ hx
  rw [Pl.rw_get hx]
  refine ⟨h3, fun c hc => ?_⟩
  obtain ⟨h5, h6⟩ := h4 c hc
  exact ⟨c.toNat, by omega, by omega, by rw [h.hn]; omega⟩
set_option maxHeartbeats 3200000 in
theorem addParams_any {w0 : World} {P0 : Nat → Prop} {rb ro n : Nat} {l : List Pl.Rw} {R : Nat → Sl} (HBs : Base w0 P0 rb ro n l R) (rc sn : Nat) (caps : Array Value) {w : World} (hon : On w0 P0 w)
    {B fb m1 m2 : Nat} {P : ByteArray → Option Int} {L : ByteArray → List Int} {ib : Bool} {N : Nat} (h : FrIs w B fb m1 m2 P L ib N) (hPB : ∀ b, P0 b → b < B) (at' : Nat) (hat : at' < n) (hN : N + (Pl.rw l at').kids.length ≤ 100000000) :
    Calls Try.prog 90 #[wkV rb ro n rc (.func (.func sn) #[] caps), .int .i64 at', .pointer (some ⟨fb, 0, none⟩)] w
      fun e w' => e = .returned (.tuple #[]) ∧ FrIs w' B fb m1 m2 (addP l P (Pl.rw l at').kids) L ib (N + (Pl.rw l at').kids.length) ∧ Kept (FD B) w w' := by
  obtain ⟨W, hW⟩ : ∃ W, W = w.alloc (.cells #[.slice (some ⟨rb, ro, none⟩) n rc, .func (.func sn) #[] caps] 93) := ⟨_, rfl⟩
  have hb : Below w.heap.size w W := by rw [hW]; exact below_1 _ _
  have v0 : W.heap[w.heap.size]? = some (.cells #[.slice (some ⟨rb, ro, none⟩) n rc, .func (.func sn) #[] caps] 93 (0, 0)) := by rw [hW]; exact heap_alloc_new _ _
  have hF := h.later hb
  have hOn := hon.later HBs.hP hb
  have hT2 := HBs.hT _ hOn.1 hOn.2
  have HWw := Lib.hid hW
  have HB := Lib.hid hb
  have HF0 := Lib.hid hF
  have HV0 := Lib.hid v0
  have HO0 := Lib.hid hOn
  have HBase := Lib.hid HBs
  have hwb : w.heap.size < W.heap.size := lt_blk v0
  have w0' := (blk_one v0 0 _ rfl).1
  have hn2 := HBs.hn2
  have hr0 := hT2.row' (i := at') (by rw [← HBs.hn]; exact hat)
  have k4 := hr0 4 _ rfl
  obtain ⟨hkl, hkm⟩ := HBs.kids hat
  have HKm := Lib.hid hkm
  obtain ⟨q, hq⟩ : ∃ q, q = (Pl.rw l at').kids.length := ⟨_, rfl⟩
  rw [← hq] at k4 hkl hN ⊢
  have HQ := Lib.hid hq
  obtain ⟨da, hdaE⟩ : ∃ da, da = (R at').da := ⟨_, rfl⟩
  rw [← hdaE] at k4
  have HDa := Lib.hid hdaE
  clear hdaE
  have ha0 : (0 : Int) ≤ (at' : Int) := Int.natCast_nonneg _
  have ha1 : (at' : Int) < (n : Int) := by omega
  have HPB := Lib.hid hPB
  clear hW hb hF hT2 hr0 hkm hq h hon v0 hOn HBs hPB
  go_enter Try.func90, Try.ntmps90
  go_upto_region 1 with fail
  rw [← HWw.out]
  go_wp2_with fail
  go_loopw [18] (fun i wr => ∃ j : Nat, j ≤ q ∧ i = .int .i64 j ∧ FrIs wr B fb m1 m2 (addP l P ((Pl.rw l at').kids.take j)) L ib (N + j) ∧ Kept (FD B) W wr) (fun i _ => q - (intOf i).toNat)
  case atStart => exact ⟨0, Nat.zero_le _, rfl, by rw [List.take_zero, addP_nil]; exact HF0.out, Kept.refl _ _⟩
  case round =>
    obtain ⟨j, hj, rfl, hfr, hkp⟩ := hrel
    have HFr := Lib.hid hfr
    have HKp := Lib.hid hkp
    have hzr := hkp.size
    have hwk : wr.heap[w.heap.size]? = some (.cells #[.slice (some ⟨rb, ro, none⟩) n rc, .func (.func sn) #[] caps] 93 (0, 0)) := hkp.keep _ _ HV0.out (.inr walker_not)
    have w1' := (blk_one hwk 0 _ rfl).1
    have hOr := HO0.out.kept HBase.out.hP hkp (fun b o hb => .inl (HPB.out b hb))
    have hT := HBase.out.hT _ hOr.1 hOr.2
    by_cases hlt : j < q
    · have hjk : j < (Pl.rw l at').kids.length := by rw [← HQ.out]; exact hlt
      obtain ⟨d, hd⟩ : ∃ d, (Pl.rw l at').kids[j]? = some d := ⟨_, List.getElem?_eq_getElem hjk⟩
      obtain ⟨k, rfl, hk1, hk2⟩ := HKm.out d (List.mem_of_getElem? hd)
      obtain ⟨kb, ko, hda, hkb, hkc⟩ := hT.kids (i := at') (by rw [← HBase.out.hn]; exact hat) hd
      obtain rfl : da = some ⟨kb, ko, none⟩ := HDa.out.trans hda
      have k4' := (hT.row' (i := at') (by rw [← HBase.out.hn]; exact hat)) 4 _ rfl
      rw [hda, ← HQ.out] at k4'
      have HRk := Lib.hid (hT.row' (i := k) (by rw [← HBase.out.hn]; exact hk2))
      have HTk := Lib.hid (addP_take l P _ j (k : Int) hd)
      have hsz := HBase.out.htx k
      have hk0 : (0 : Int) ≤ (k : Int) := Int.natCast_nonneg _
      have hk3 : (k : Int) < (n : Int) := by omega
      have hj0 : (0 : Int) ≤ (j : Int) := Int.natCast_nonneg _
      have hj1 : (j : Int) < (q : Int) := by omega
      obtain ⟨X, hX⟩ : ∃ X, X = wr.alloc (.cells #[.int .i64 (Pl.rw l k).parent, .int .i64 (Pl.rw l k).kind, .string (Pl.rw l k).text, .slice (R k).ga (Pl.rw l k).gaps.length (R k).gc, .slice (R k).da (Pl.rw l k).kids.length (R k).dc] 47) := ⟨_, rfl⟩
      have hbX : Below wr.heap.size wr X := by rw [hX]; exact below_1 _ _
      have x0 : X.heap[wr.heap.size]? = some (.cells #[.int .i64 (Pl.rw l k).parent, .int .i64 (Pl.rw l k).kind, .string (Pl.rw l k).text, .slice (R k).ga (Pl.rw l k).gaps.length (R k).gc, .slice (R k).da (Pl.rw l k).kids.length (R k).dc] 47 (0, 0)) := by rw [hX]; exact heap_alloc_new _ _
      have hFX := HFr.out.later hbX
      have HXw := Lib.hid hX
      have HKX : Hid (Kept (FD B) W X) := Lib.hid (HKp.out.trans (Kept.below hbX))
      obtain ⟨⟨p0, p1, p2, p3, p4⟩, pl⟩ := blk_five x0
      generalize addP l P ((Pl.rw l at').kids.take j) = Pj at *
      generalize (Pl.rw l k).parent = xp at *
      generalize (Pl.rw l k).kind = xk at *
      generalize (Pl.rw l k).text = xt at *
      have HFX := Lib.hid hFX
      clear hfr hkp hOr hT hd hda hX hbX hFX x0 hwk
      go_upto_region 5 with (refine wpList_load_mid rfl 47 _ rfl rb (ro + k * 5) rfl [.int .i64 xp, .int .i64 xk, .string xt, .slice (R k).ga (Pl.rw l k).gaps.length (R k).gc, .slice (R k).da (Pl.rw l k).kids.length (R k).dc] _ HRk.out Try.underlying47 rfl sizeR ?_)
      rw [← HXw.out]
      by_cases h4 : xk = 4
      · subst h4
        go_upto_region 6 with fail
        have hfl := lt_blk HFX.out.fr
        have k0 : ∀ z : Later X, z.u.cell? ⟨fb, 0, none⟩ = some (.map (some m1)) := fun z => (z.h.cell (p := ⟨fb, 0, none⟩) hfl).trans (blk_one HFX.out.fr 0 _ rfl).1
        have k2 : ∀ z : Later X, z.u.cell? ⟨wr.heap.size, 2, none⟩ = some (.string xt) := fun z => (z.h.cell (p := ⟨_, _, none⟩) pl).trans p2
        have kl : ∀ z : Later X, (Instr.lookup 114 (.map (some m1)) (.string xt) true).run Try.prog z.u = .ok (ansV (Pj xt)) z.u := fun z => (HFX.out.later z.h).params hsz
        refine region_later (by kernel_rfl) (by kernel_rfl) ?_
        iterate 6 (go_big_quiet_step (fail))
        refine quiet_lookF (by rfl) 114 _ _ true (by rfl) m1 (.string xt) (ansV (Pj xt)) (by rfl) (by rfl) (fun x hx => by obtain ⟨n, rfl⟩ := hx; exact kl n) ?_
        simp only [Act.put, List.setIfInBounds_toArray, List.set_cons_succ, List.set_cons_zero]
        cases hPj : Pj xt with
        | some i =>
          have HE := HTk.out
          rw [if_neg (fun h => by rw [hPj] at h; cases h.2)] at HE
          have HE := Lib.hid HE
          clear kl hPj
          unfold ansV
          iterate 5 (go_big_quiet_step (fail))
          refine wpQuiet_nil ?_
          intro _ hw'
          obtain ⟨n1, rfl⟩ := hw'
          go_wp2_with fail
          exact ⟨⟨j + 1, by omega, by go_num, by rw [HE.out]; exact (HFX.out.later n1.h).mono (by omega), HKX.out.trans (Kept.below n1.h)⟩, by simp [intOf]; omega⟩
        | none =>
          have HE := HTk.out
          rw [if_pos ⟨rfl, hPj⟩] at HE
          have HE := Lib.hid HE
          clear kl hPj
          unfold ansV
          iterate 5 (go_big_quiet_step (fail))
          refine wpQuiet_nil ?_
          intro _ hw'
          obtain ⟨n1, rfl⟩ := hw'
          have hF1 := HFX.out.later n1.h
          obtain ⟨w9, hrun, hF9, hg9⟩ := FrIs.storeP (w := n1.u.drew) (hF1.later (Below.refl _ _).drew) (by unfold maxLen; omega) hsz (k : Int)
          have HF9 := Lib.hid hF9
          have HG9 := Lib.hid hg9
          have q0 : n1.u.drew.cell? ⟨fb, 0, none⟩ = some (.map (some m1)) := k0 n1
          have q2 : n1.u.drew.cell? ⟨wr.heap.size, 2, none⟩ = some (.string xt) := k2 n1
          have hlt1 : fb < n1.u.heap.size := Nat.lt_of_lt_of_le hfl n1.h.size
          have hlt2 : wr.heap.size < n1.u.heap.size := Nat.lt_of_lt_of_le pl n1.h.size
          have hm1 : m1 < wr.heap.size := by obtain ⟨f, hf, _⟩ := HFr.out.pm; exact hf.lt
          have r0 : w9.cell? ⟨fb, 0, none⟩ = some (.map (some m1)) := (World.cell?_of_block (w := n1.u.drew) (a := ⟨fb, 0, none⟩) (hg9.block fb hlt1 (fun e => hF1.ne1 (by cases e; rfl)))).trans q0
          have r2 : w9.cell? ⟨wr.heap.size, 2, none⟩ = some (.string xt) := (World.cell?_of_block (w := n1.u.drew) (a := ⟨wr.heap.size, 2, none⟩) (hg9.block wr.heap.size hlt2 (fun e => by cases e; omega))).trans q2
          have HK1 := Lib.hid (HKX.out.trans (Kept.below n1.h))
          have hm1B := HFX.out.ge.2.1
          have HMo : Hid (∃ es c, n1.u.drew.heap[m1]? = some (.map es c)) := Lib.hid (by obtain ⟨f, hf, _⟩ := hF1.pm; exact hf.obj)
          clear hF9 hg9 hF1 k0 k2
          go_upto_region 8 with fail
          go_region_held3 (fun w' => w'.cell? ⟨fb, 0, none⟩ = some (.map (some m1)) ∧ w'.cell? ⟨wr.heap.size, 2, none⟩ = some (.string xt))
            (first | with_reducible exact ⟨q0, q2⟩ | with_reducible exact ⟨r0, r2⟩)
            (fail)
          go_wp2_with fail
          refine ⟨⟨j + 1, by omega, by go_num, by rw [HE.out]; exact HF9.out, (HK1.out.trans (Kept.below (Below.refl _ _).drew)).trans (Kept.grown HG9.out (fun b o ho hD e => ?_))⟩, by simp [intOf]; omega⟩
          obtain ⟨es, c, ho2⟩ := HMo.out
          cases e
          rw [ho2] at ho
          cases ho
          rcases hD with h | h
          · omega
          · exact h trivial
      · have e4 := (int_no h4).1
        have HE := HTk.out
        rw [if_neg (fun h => h4 h.1)] at HE
        have HE := Lib.hid HE
        clear h4
        go_wp2_with fail
        exact ⟨⟨j + 1, by omega, by go_num, by rw [HE.out]; exact HFX.out.mono (by omega), HKX.out⟩, by simp [intOf]; omega⟩
    · have hjq : j = q := by omega
      subst hjq
      have HT : Hid ((Pl.rw l at').kids.take j = (Pl.rw l at').kids) := Lib.hid (List.take_of_length_le (by rw [← HQ.out]; exact Nat.le_refl _))
      rw [HT.out] at HFr
      clear hfr hkp hwk hOr hT
      go_wp2_with fail
      go_end0
      exact ⟨rfl, HFr.out, (Kept.below HB.out).trans HKp.out⟩
end Go.Proofs.Ytoelfiendfemaaa

namespace Go.Proofs.Ytoelfiendfemaaa
open Go.RowKit Go.Deep
set_option linter.unusedVariables false
set_option linter.unusedSimpArgs false

/-- A tree's rows stand in a table from a row on. -/
def Sits (l : List Pl.Rw) (t : Pl.Tr) (i : Nat) (q : Int) : Prop := ∃ m, l.drop i = Pl.tab t i q ++ m
theorem Sits.row {l : List Pl.Rw} {t : Pl.Tr} {i : Nat} {q : Int} (h : Sits l t i q) : i + Pl.sz t ≤ l.length ∧ Pl.rw l i = Pl.rowOf q t i := by
  obtain ⟨m, h⟩ := h
  have hl := congrArg List.length h
  rw [List.length_drop, List.length_append, Pl.tab_len] at hl
  have hp := Pl.sz_pos t
  refine ⟨by omega, ?_⟩
  rw [Pl.tab_head, List.cons_append] at h
  exact Pl.rw_get (Pl.rw_drop h).1
theorem Sits.kid {l : List Pl.Rw} {t : Pl.Tr} {i : Nat} {q : Int} (h : Sits l t i q) (j : Nat) (hj : j < t.kids.length) : Sits l t.kids[j] (i + 1 + Pl.szs (t.kids.take j)) i := by
  obtain ⟨m, h⟩ := h
  rw [Pl.tab_head, List.cons_append] at h
  have h1 := (Pl.rw_drop h).2
  have hk : t.kids = t.kids.take (j + 1) ++ t.kids.drop (j + 1) := (List.take_append_drop _ _).symm
  have e : Pl.tabs t.kids (i + 1) i = Pl.tabs (t.kids.take j) (i + 1) i ++ Pl.tab t.kids[j] (i + 1 + Pl.szs (t.kids.take j)) i ++ Pl.tabs (t.kids.drop (j + 1)) (i + 1 + Pl.szs (t.kids.take (j + 1))) i := by
    conv => lhs; rw [hk]
    rw [Pl.tabs_append, Pl.tabs_take _ _ hj]
  refine ⟨Pl.tabs (t.kids.drop (j + 1)) (i + 1 + Pl.szs (t.kids.take (j + 1))) i ++ m, ?_⟩
  rw [← List.drop_drop, h1, e, List.append_assoc, List.append_assoc, List.drop_left' (Pl.tabs_len _ _ _)]
/-- The frame tells the variables at a node. -/
def Fits (l : List Pl.Rw) (i : Nat) (P : ByteArray → Option Int) (L : ByteArray → List Int) (ib : Bool) : Prop := (∀ s, ans P L ib s = Pl.var l i s) ∧ ∀ s e, e ∈ L s → 0 ≤ e ∧ e < (l.length : Int) ∧ (Pl.rw l e).parent < (i : Int)
section
variable {l : List Pl.Rw} {t : Pl.Tr} {i : Nat} {q : Int}
/-- The j-th kid's place. -/
abbrev kp (t : Pl.Tr) (i j : Nat) : Nat := i + 1 + Pl.szs (t.kids.take j)
theorem Sits.kids (h : Sits l t i q) : (Pl.rw l i).kids = Pl.kidx t.kids (i + 1) ∧ (Pl.rw l i).kind = t.kind ∧ (Pl.rw l i).text = t.text ∧ (Pl.rw l i).kids.length = t.kids.length := by
  rw [h.row.2]; exact ⟨rfl, rfl, rfl, Pl.kidx_len _ _⟩
theorem Sits.kidAt (h : Sits l t i q) (j : Nat) (hj : j < t.kids.length) : (Pl.rw l i).kids[j]? = some ((kp t i j : Nat) : Int) ∧ (Pl.rw l (kp t i j)).parent = i ∧ kp t i j < l.length ∧ i < kp t i j := by
  have hk := (h.kid j hj).row
  have hp := Pl.sz_pos t.kids[j]
  refine ⟨by rw [h.kids.1]; exact Pl.kidx_get _ _ _ hj, by rw [hk.2]; rfl, by unfold kp; omega, by unfold kp; omega⟩
theorem Sits.parts (h : Sits l t i q) (j : Nat) (hj : j ≤ t.kids.length) : ∃ A B, (Pl.rw l i).kids = A ++ B ∧ (Pl.rw l i).kids.take j = A ∧ (∀ c ∈ A, c < ((kp t i j : Nat) : Int)) ∧ (∀ c ∈ B, ((kp t i j : Nat) : Int) ≤ c) := by
  have hk : t.kids = t.kids.take j ++ t.kids.drop j := (List.take_append_drop _ _).symm
  have e : (Pl.rw l i).kids = Pl.kidx (t.kids.take j) (i + 1) ++ Pl.kidx (t.kids.drop j) (i + 1 + Pl.szs (t.kids.take j)) := by
    rw [h.kids.1]
    conv => lhs; rw [hk]
    rw [Pl.kidx_append]
  refine ⟨_, _, e, ?_, fun c hc => (Pl.kidx_mem _ _ _ hc).2, fun c hc => (Pl.kidx_mem _ _ _ hc).1⟩
  rw [e, List.take_left' (by rw [Pl.kidx_len, List.length_take]; omega)]
theorem Sits.kidMem (h : Sits l t i q) {c : Int} (hc : c ∈ (Pl.rw l i).kids) : (Pl.rw l c).parent = i := by
  obtain ⟨j, hj⟩ := List.getElem?_of_mem hc
  have hlt : j < t.kids.length := by have := (List.getElem?_eq_some_iff.1 hj).1; rw [h.kids.2.2.2] at this; exact this
  rw [(h.kidAt j hlt).1] at hj
  cases hj
  exact (h.kidAt j hlt).2.1
theorem var_kid (hok : Pl.Ok l) (h : Sits l t i q) (j : Nat) (hj : j < t.kids.length) (s : ByteArray) :
    Pl.var l (kp t i j) s = match (Pl.declared l i (kp t i j)).find? (fun d => decide ((Pl.rw l d).text = s)) with
      | some v => some v
      | none => if t.kind = 2 then none else Pl.var l i s := by
  obtain ⟨_, hp, hl, _⟩ := h.kidAt j hj
  rw [var_step hok (k := ((kp t i j : Nat) : Int)) (by omega) (by omega), hp, if_neg (by omega), h.kids.2.1]
  cases (Pl.declared l i (kp t i j)).find? (fun d => decide ((Pl.rw l d).text = s)) <;> rfl
/-- A node that is neither a function nor a block. -/
theorem fits_kid (hok : Pl.Ok l) (h : Sits l t i q) (h2 : t.kind ≠ 2) (h6 : t.kind ≠ 6) {P : ByteArray → Option Int} {L : ByteArray → List Int} {ib : Bool} (hF : Fits l i P L ib) (j : Nat) (hj : j < t.kids.length) : Fits l (kp t i j) P L ib := by
  refine ⟨fun s => ?_, fun s e he => ?_⟩
  · rw [var_kid hok h j hj, declared_none (by rw [h.kids.2.1]; exact h6) (by rw [h.kids.2.1]; exact fun hh => h2 hh.1), List.find?_nil]
    simp only
    rw [if_neg h2]
    exact hF.1 s
  · obtain ⟨a, b, c⟩ := hF.2 s e he
    exact ⟨a, b, by have := (h.kidAt j hj).2.2.2; omega⟩
/- ### Blocks -/
def isLet (l : List Pl.Rw) (s : ByteArray) (c : Int) : Bool := decide ((Pl.rw l c).kind = 10 ∧ (Pl.rw l c).text = s)
/-- The variables of the kids that have been visited are pushed. -/
def pushL (l : List Pl.Rw) (L : ByteArray → List Int) (cs : List Int) : ByteArray → List Int := fun s => match cs.find? (isLet l s) with | some c => L s ++ [c] | none => L s
theorem pushL_nil (L : ByteArray → List Int) : pushL l L [] = L := rfl
theorem pushL_snoc (L : ByteArray → List Int) (cs : List Int) (d : Int) : pushL l L (cs ++ [d]) = if (Pl.rw l d).kind = 10 ∧ cs.find? (isLet l (Pl.rw l d).text) = none then updL (pushL l L cs) (Pl.rw l d).text (pushL l L cs (Pl.rw l d).text ++ [d]) else pushL l L cs := by
  funext s
  unfold pushL
  rw [List.find?_append]
  by_cases hk : (Pl.rw l d).kind = 10 ∧ cs.find? (isLet l (Pl.rw l d).text) = none
  · rw [if_pos hk]
    unfold updL
    by_cases e : s = (Pl.rw l d).text
    · subst e
      rw [if_pos rfl, hk.2]
      simp [isLet, hk.1]
    · rw [if_neg e]
      have : isLet l s d = false := by unfold isLet; simp; exact fun _ h => e h.symm
      simp [this]
  · rw [if_neg hk]
    cases hf : cs.find? (isLet l s) with
    | some c => rfl
    | none =>
      have : isLet l s d = false := by
        unfold isLet
        simp only [decide_eq_false_iff_not]
        rintro ⟨h1, h2⟩
        exact hk ⟨h1, by rw [h2]; exact hf⟩
      simp [this]
/-- What isDeclaredIn answers there. -/
theorem last_push {L : ByteArray → List Int} (hF : ∀ s e, e ∈ L s → (Pl.rw l e).parent < (i : Int)) {cs : List Int} (hc : ∀ c ∈ cs, (Pl.rw l c).parent = i) (s : ByteArray) :
    lastIs l (pushL l L cs s) i = (cs.find? (isLet l s)).isSome := by
  unfold lastIs pushL
  cases hf : cs.find? (isLet l s) with
  | some c =>
    simp only
    rw [List.getLast?_append]
    simp [hc c (List.mem_of_find?_eq_some hf)]
  | none =>
    simp only
    cases hl : (L s).getLast? with
    | none => rfl
    | some e =>
      have := hF s e (List.mem_of_getLast? hl)
      simp; omega
theorem last_old {L : ByteArray → List Int} (hF : ∀ s e, e ∈ L s → (Pl.rw l e).parent < (i : Int)) (s : ByteArray) : lastIs l (L s) i = false := by
  unfold lastIs
  cases hl : (L s).getLast? with
  | none => rfl
  | some e =>
    have := hF s e (List.mem_of_getLast? hl)
    simp; omega
theorem fits_block (hok : Pl.Ok l) (h : Sits l t i q) (h6 : t.kind = 6) {P : ByteArray → Option Int} {L : ByteArray → List Int} {ib : Bool} (hF : Fits l i P L ib) (j : Nat) (hj : j < t.kids.length) : Fits l (kp t i j) P (pushL l L ((Pl.rw l i).kids.take j)) ib := by
  obtain ⟨A, B, e1, e2, hA, hB⟩ := h.parts j (Nat.le_of_lt hj)
  have hfd : ∀ s, (Pl.declared l i (kp t i j)).find? (fun d => decide ((Pl.rw l d).text = s)) = ((Pl.rw l i).kids.take j).find? (isLet l s) := by
    intro s
    rw [declared_block (by rw [h.kids.2.1]; exact h6)]
    unfold Pl.blockVars
    rw [e2, e1, List.filter_append, List.find?_append]
    have hb : (B.filter fun c => decide (c < ((kp t i j : Nat) : Int) ∧ (Pl.rw l c).kind = 10)) = [] := by
      rw [List.filter_eq_nil_iff]
      intro c hc; have := hB c hc; simp only [decide_eq_true_eq]; rintro ⟨h1, _⟩; omega
    rw [hb, List.find?_nil, Option.or_none, List.find?_filter]
    have : ∀ (M : List Int), (∀ c ∈ M, c < ((kp t i j : Nat) : Int)) → M.find? (fun a => decide (decide (a < ((kp t i j : Nat) : Int) ∧ (Pl.rw l a).kind = 10) = true ∧ decide ((Pl.rw l a).text = s) = true)) = M.find? (isLet l s) := by
      intro M hM
      induction M with
      | nil => rfl
      | cons c M ih =>
        have hc := hM c (by simp)
        rw [List.find?_cons, List.find?_cons, ih (fun x hx => hM x (by simp [hx]))]
        have : decide (decide (c < ((kp t i j : Nat) : Int) ∧ (Pl.rw l c).kind = 10) = true ∧ decide ((Pl.rw l c).text = s) = true) = isLet l s c := by unfold isLet; rw [decide_eq_decide]; simp only [decide_eq_true_eq]; exact ⟨fun h => ⟨h.1.2, h.2⟩, fun h => ⟨⟨hc, h.1⟩, h.2⟩⟩
        rw [this]
    exact this A hA
  refine ⟨fun s => ?_, fun s e he => ?_⟩
  · rw [var_kid hok h j hj, hfd, if_neg (by omega), ← hF.1 s]
    unfold ans pushL
    cases ((Pl.rw l i).kids.take j).find? (isLet l s) with
    | some c => simp [List.getLast?_append]
    | none => rfl
  · have hk := h.kidAt j hj
    unfold pushL at he
    cases hf : ((Pl.rw l i).kids.take j).find? (isLet l s) with
    | some c =>
      rw [hf] at he
      simp only [List.mem_append, List.mem_singleton] at he
      rcases he with he | rfl
      · obtain ⟨a, b, c'⟩ := hF.2 s e he
        exact ⟨a, b, by omega⟩
      · have hm := List.mem_of_mem_take (List.mem_of_find?_eq_some hf)
        obtain ⟨j', hj'⟩ := List.getElem?_of_mem hm
        have hlt : j' < t.kids.length := by have := (List.getElem?_eq_some_iff.1 hj').1; rw [h.kids.2.2.2] at this; exact this
        have hk' := h.kidAt j' hlt
        rw [hk'.1] at hj'
        cases hj'
        exact ⟨by omega, by omega, by omega⟩
    | none =>
      rw [hf] at he
      obtain ⟨a, b, c'⟩ := hF.2 s e he
      exact ⟨a, b, by omega⟩
/-- While the variables are dropped. -/
def dropL (l : List Pl.Rw) (L : ByteArray → List Int) (all cs : List Int) : ByteArray → List Int := fun s => if (cs.any fun c => decide ((Pl.rw l c).text = s)) = true then L s else pushL l L all s
theorem dropL_nil (L : ByteArray → List Int) (all : List Int) : dropL l L all [] = pushL l L all := by funext s; unfold dropL; simp
theorem dropL_all (L : ByteArray → List Int) (all : List Int) : dropL l L all all = L := by
  funext s
  unfold dropL
  by_cases h : (all.any fun c => decide ((Pl.rw l c).text = s)) = true
  · rw [if_pos h]
  · rw [if_neg h]
    unfold pushL
    cases hf : all.find? (isLet l s) with
    | none => rfl
    | some c =>
      exfalso
      apply h
      have h1 := List.find?_some hf
      unfold isLet at h1
      simp only [decide_eq_true_eq] at h1
      exact List.any_eq_true.2 ⟨c, List.mem_of_find?_eq_some hf, by simp [h1.2]⟩
theorem dropL_snoc (L : ByteArray → List Int) (all cs : List Int) (d : Int) :
    dropL l L all (cs ++ [d]) = updL (dropL l L all cs) (Pl.rw l d).text (L (Pl.rw l d).text) := by
  funext s
  unfold dropL updL
  by_cases e : s = (Pl.rw l d).text
  · subst e; simp
  · rw [if_neg e]
    have : (fun c => decide ((Pl.rw l c).text = s)) d = false := by simp; exact fun h => e h.symm
    simp [List.any_append, this]
theorem last_drop {L : ByteArray → List Int} (hF : ∀ s e, e ∈ L s → (Pl.rw l e).parent < (i : Int)) {all : List Int} (hc : ∀ c ∈ all, (Pl.rw l c).parent = i) (cs : List Int) (s : ByteArray) :
    lastIs l (dropL l L all cs s) i = (!(cs.any fun c => decide ((Pl.rw l c).text = s)) && (all.find? (isLet l s)).isSome) := by
  unfold dropL
  by_cases h : (cs.any fun c => decide ((Pl.rw l c).text = s)) = true
  · rw [if_pos h, h, last_old hF]; rfl
  · rw [if_neg h, last_push hF hc]
    simp only [Bool.not_eq_true] at h
    rw [h]; rfl
theorem drop_yes {L : ByteArray → List Int} {all cs : List Int} {d : Int} (h : (!(cs.any fun c => decide ((Pl.rw l c).text = (Pl.rw l d).text)) && (all.find? (isLet l (Pl.rw l d).text)).isSome) = true) :
    0 < (dropL l L all cs (Pl.rw l d).text).length ∧ (dropL l L all cs (Pl.rw l d).text).dropLast = L (Pl.rw l d).text := by
  rw [Bool.and_eq_true] at h
  obtain ⟨h1, h2⟩ := h
  have e : dropL l L all cs (Pl.rw l d).text = pushL l L all (Pl.rw l d).text := by
    unfold dropL
    rw [if_neg (by simpa using h1)]
  rw [e]
  unfold pushL
  obtain ⟨c, hc⟩ := Option.isSome_iff_exists.1 h2
  rw [hc]
  simp
theorem drop_no {L : ByteArray → List Int} {all cs : List Int} {d : Int} (h : (!(cs.any fun c => decide ((Pl.rw l c).text = (Pl.rw l d).text)) && (all.find? (isLet l (Pl.rw l d).text)).isSome) = false) :
    dropL l L all (cs ++ [d]) = dropL l L all cs := by
  rw [dropL_snoc]
  funext s
  unfold updL
  by_cases e : s = (Pl.rw l d).text
  · subst e
    rw [if_pos rfl]
    unfold dropL
    by_cases h1 : (cs.any fun c => decide ((Pl.rw l c).text = (Pl.rw l d).text)) = true
    · rw [if_pos h1]
    · rw [if_neg h1]
      simp only [Bool.not_eq_true] at h1
      rw [h1] at h
      unfold pushL
      cases hf : all.find? (isLet l (Pl.rw l d).text) with
      | none => rfl
      | some c => rw [hf] at h; simp at h
  · rw [if_neg e]
/- ### Functions -/
/-- The parameters of the lists that have been visited. -/
def parL (l : List Pl.Rw) (cs : List Int) : ByteArray → Option Int := fun s => (cs.flatMap fun c => if (Pl.rw l c).kind = 3 then (Pl.rw l c).kids else []).find? fun d => decide ((Pl.rw l d).kind = 4 ∧ (Pl.rw l d).text = s)
theorem parL_nil : parL l [] = fun _ => none := rfl
theorem parL_snoc (cs : List Int) (c : Int) : parL l (cs ++ [c]) = if (Pl.rw l c).kind = 3 then addP l (parL l cs) (Pl.rw l c).kids else parL l cs := by
  by_cases h : (Pl.rw l c).kind = 3
  · rw [if_pos h]
    funext s
    unfold parL addP
    rw [List.flatMap_append, List.flatMap_cons, List.flatMap_nil, List.append_nil, if_pos h, List.find?_append]
    dsimp only
    cases (cs.flatMap fun c => if (Pl.rw l c).kind = 3 then (Pl.rw l c).kids else []).find? fun d => decide ((Pl.rw l d).kind = 4 ∧ (Pl.rw l d).text = s) <;> rfl
  · rw [if_neg h]
    funext s
    unfold parL
    rw [List.flatMap_append, List.flatMap_cons, List.flatMap_nil, List.append_nil, if_neg h, List.append_nil]
theorem fits_func (hok : Pl.Ok l) (h : Sits l t i q) (h2 : t.kind = 2) (j : Nat) (hj : j < t.kids.length) : Fits l (kp t i j) (parL l ((Pl.rw l i).kids.take j)) (fun _ => []) (decide ((Pl.rw l (kp t i j)).kind = 6)) := by
  obtain ⟨A, B, e1, e2, hA, hB⟩ := h.parts j (Nat.le_of_lt hj)
  refine ⟨fun s => ?_, fun s e he => by cases he⟩
  rw [var_kid hok h j hj, if_pos h2]
  unfold ans
  simp only [List.getLast?_nil]
  by_cases h6 : (Pl.rw l (kp t i j)).kind = 6
  · rw [declared_func (by rw [h.kids.2.1]; exact h2) h6, if_pos (by simpa using h6)]
    unfold parL Pl.funcVars
    rw [e2, e1, List.flatMap_append, List.find?_append]
    have hb : B.flatMap (Pl.parKids l ((kp t i j : Nat) : Int)) = [] := by
      rw [List.flatMap_eq_nil_iff]
      intro c hc
      unfold Pl.parKids
      rw [List.filter_eq_nil_iff]
      intro d _
      have := hB c hc
      simp only [decide_eq_true_eq]
      rintro ⟨h1, _⟩
      omega
    rw [hb, List.find?_nil, Option.or_none]
    have key : ∀ (M : List Int), (∀ c ∈ M, c < ((kp t i j : Nat) : Int)) → (M.flatMap fun c => if (Pl.rw l c).kind = 3 then (Pl.rw l c).kids else []).find? (fun d => decide ((Pl.rw l d).kind = 4 ∧ (Pl.rw l d).text = s)) = (M.flatMap (Pl.parKids l ((kp t i j : Nat) : Int))).find? (fun d => decide ((Pl.rw l d).text = s)) := by
      intro M hM
      induction M with
      | nil => rfl
      | cons c M ih =>
        rw [List.flatMap_cons, List.flatMap_cons, List.find?_append, List.find?_append, ih (fun x hx => hM x (by simp [hx]))]
        congr 1
        have hc := hM c (by simp)
        unfold Pl.parKids
        by_cases h3 : (Pl.rw l c).kind = 3
        · rw [if_pos h3, List.find?_filter]
          congr 1
          funext d
          rw [decide_eq_decide]
          simp only [decide_eq_true_eq]
          exact ⟨fun hh => ⟨⟨hc, h3, hh.1⟩, hh.2⟩, fun hh => ⟨hh.1.2.2, hh.2⟩⟩
        · rw [if_neg h3, List.find?_nil]
          symm
          rw [List.find?_eq_none]
          intro d hd
          have := (List.mem_filter.1 hd).2
          simp only [decide_eq_true_eq] at this
          exact absurd this.2.1 h3
    rw [key A hA]
    cases (A.flatMap (Pl.parKids l ((kp t i j : Nat) : Int))).find? (fun d => decide ((Pl.rw l d).text = s)) <;> rfl
  · rw [declared_none (by rw [h.kids.2.1]; omega) (fun hh => h6 hh.2), if_neg (by simpa using h6)]
    rfl
end
end Go.Proofs.Ytoelfiendfemaaa
