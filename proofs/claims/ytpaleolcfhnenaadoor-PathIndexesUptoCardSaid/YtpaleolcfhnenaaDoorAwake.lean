/- The walk of the laws' awake. -/
import Derived.Test.YtpaleolcfhnenaaDoorMake
namespace Go.Proofs.YtpaleolcfhnenaaDoor.Rt
open Go.RowKit
set_option linter.unusedVariables false
set_option linter.unusedSimpArgs false
set_option maxRecDepth 100000

/-- The package's functions, without awake. -/
structure ProgC : Prop where
  of : ∀ (t : Pl.Tr) (r : Sl) (i : Int) (W : World), Tabs W → IsT W t r → Pl.sz t ≤ 10000 → i ≤ 9223372036854775807 → -9223372036854775808 ≤ i → Calls Tryd.prog 11 #[nvx t r, .int .i64 i] W (OfP t i W)
  index : ∀ (t : Pl.Tr) (r : Sl) (p : List Int) (a : Option Addr) (c : Nat) (W : World), Tabs W → IsT W t r → IsI W a p → p.length ≤ c → Pl.sz t ≤ 10000 → Calls Tryd.prog 13 #[nvx t r, .slice a p.length c] W (IndexP t p W)
  get : ∀ (t : Pl.Tr) (r : Sl) (p : List Int) (a : Option Addr) (c : Nat) (W : World), Tabs W → IsT W t r → IsI W a p → p.length ≤ c → Pl.sz t ≤ 10000 → (∀ u, Pl.getP p t = some u → Pl.GB u) → Calls Tryd.prog 15 #[nvx t r, .slice a p.length c] W (GetR t p W)
  replace : ∀ (t x : Pl.Tr) (r rx : Sl) (p : List Int) (a : Option Addr) (c : Nat) (W : World), Tabs W → IsT W t r → IsT W x rx → IsI W a p → p.length ≤ c → Pl.sz t ≤ 10000 → Pl.sz x ≤ 10000 → Calls Tryd.prog 19 #[nvx t r, .slice a p.length c, nvx x rx] W (ResR (Pl.replE t p x) (Pl.putP x p t) W)
  insert : ∀ (t x : Pl.Tr) (r rx : Sl) (p : List Int) (a : Option Addr) (c : Nat) (W : World), Tabs W → IsT W t r → IsT W x rx → IsI W a p → p.length ≤ c → Pl.sz t ≤ 10000 → Pl.sz x ≤ 10000 → Calls Tryd.prog 21 #[nvx t r, .slice a p.length c, nvx x rx] W (ResR (Pl.insE t p x) (Pl.insT t p x) W)
  remove : ∀ (t : Pl.Tr) (r : Sl) (p : List Int) (a : Option Addr) (c : Nat) (W : World), Tabs W → IsT W t r → IsI W a p → p.length ≤ c → Pl.sz t ≤ 10000 → Calls Tryd.prog 23 #[nvx t r, .slice a p.length c] W (ResR (Pl.remE t p) (Pl.remT t p) W)

abbrev sl2 (g : Nat) : Sl := ⟨none, 0, some ⟨g, 0, none⟩, 2⟩
abbrev bnv (op : UInt8) (g : Nat) : Value := .agg #[.int .i64 24, .string ⟨#[op]⟩, .slice none 0 0, .slice (some ⟨g, 0, none⟩) 2 2]
abbrev bnb (op : UInt8) (g : Nat) : Obj := .cells #[.int .i64 24, .string ⟨#[op]⟩, .slice none 0 0, .slice (some ⟨g, 0, none⟩) 2 2] 25
theorem of_ex (C : ProgC) (g : Nat) (V : World) (hV : Tabs V) (h : IsT V Pl.sumT (sl2 g)) :
    Calls Tryd.prog 11 #[bnv 43 g, .int .i64 2] V fun e w' => Below V.heap.size V w' ∧ ∃ a c, Hid (IsI w' a [1] ∧ 1 ≤ c) ∧ e = .returned (.tuple #[.slice a 1 c, .bool true]) := by
  refine (C.of Pl.sumT (sl2 g) 2 V hV h (by decide) (by omega) (by omega)).mono fun e w' hr => ⟨hr.1, ?_⟩
  rcases hr.2 with ⟨n, p, a, c, hin, hc, hq, hI, he⟩ | ⟨h1, _⟩
  · obtain rfl : n = 2 := by omega
    obtain rfl := Pl.idx_inj hq Pl.aw1
    exact ⟨a, c, Lib.hid ⟨hI.keep (Same.refl _ _) (fun b hb => hb.2), hc⟩, he⟩
  · exfalso
    have : Pl.sz Pl.sumT = 3 := by decide
    rw [this] at h1
    omega
theorem index_ex (C : ProgC) (g : Nat) (a : Option Addr) (V : World) (hV : Tabs V) (h : IsT V Pl.sumT (sl2 g)) (hp : IsI V a [1]) :
    Calls Tryd.prog 13 #[bnv 43 g, .slice a 1 1] V fun e w' => Below V.heap.size V w' ∧ e = .returned (.tuple #[.int .i64 2, .bool true]) := by
  refine (C.index Pl.sumT (sl2 g) [1] a 1 V hV h hp (by decide) (by decide)).mono fun e w' hr => ⟨hr.1, ?_⟩
  rcases hr.2 with ⟨n, hq, he⟩ | ⟨h1, _⟩
  · rw [Pl.aw1, Option.some.injEq] at hq; subst hq; exact he
  · rw [Pl.aw1] at h1; cases h1
theorem gb_ex : ∀ u, Pl.getP [1] Pl.sumT = some u → Pl.GB u := by
  intro u hu
  rw [Pl.aw2] at hu
  obtain rfl := Option.some.inj hu
  intro x hx
  have h : Pl.pre (Pl.num ⟨#[50]⟩) = [Pl.num ⟨#[50]⟩] := rfl
  rw [h, List.mem_singleton] at hx
  subst hx
  exact Nat.zero_le _
theorem get_ex (C : ProgC) (g : Nat) (a : Option Addr) (V : World) (hV : Tabs V) (h : IsT V Pl.sumT (sl2 g)) (hp : IsI V a [1]) :
    Calls Tryd.prog 15 #[bnv 43 g, .slice a 1 1] V fun e w' => Below V.heap.size V w' ∧ ∃ ga gc da dc, e = .returned (.tuple #[.agg #[.int .i64 17, .string ⟨#[50]⟩, .slice ga 0 gc, .slice da 0 dc], .int .i64 0]) := by
  refine (C.get Pl.sumT (sl2 g) [1] a 1 V hV h hp (by decide) (by decide) gb_ex).mono fun e w' hr => ?_
  obtain ⟨h1, r, _, he⟩ := get_some_u Pl.aw2 hr
  exact ⟨h1, r.ga, r.gc, r.da, r.dc, he⟩
/-- The first kid's text, as it lies. -/
theorem kid_text {w : World} {k k0 : Int} {s s0 : ByteArray} {g g0 : List ByteArray} {ks0 ks : List Pl.Tr} {r : Sl} (h : IsT w (.node k s g (.node k0 s0 g0 ks0 :: ks)) r) :
    ∃ b o, r.da = some ⟨b, o, none⟩ ∧ w.cell? ⟨b, o + 1, none⟩ = some (.string s0) := by
  cases h with
  | mk t r R hs hg hl hk hr =>
    rcases hk with h0 | ⟨b, o, e, hb, hat⟩
    · cases h0
    · exact ⟨b, o, e, by have h1 := (hat 0 _ rfl).2.1; simp only [Nat.zero_mul, Nat.add_zero] at h1; exact h1⟩
def NodeU (E : Int) (k : Int) (s : ByteArray) (n : Nat) (s0 : ByteArray) (T : Pl.Tr) (V : World) (e : Ending) (w' : World) : Prop :=
  Below V.heap.size V w' ∧ ∃ ga gc b o dc, Hid (IsT w' T ⟨ga, gc, some ⟨b, o, none⟩, dc⟩) ∧ Hid (w'.cell? ⟨b, o + 1, none⟩ = some (.string s0)) ∧ e = .returned (.tuple #[.agg #[.int .i64 k, .string s, .slice ga 0 gc, .slice (some ⟨b, o, none⟩) n dc], .int .i64 E])
theorem node_u {E : Int} {k k0 : Int} {s s0 : ByteArray} {ks ks0 : List Pl.Tr} {g0 : List ByteArray} {V w' : World} {e : Ending} (h : GetU E (.node k s [] (.node k0 s0 g0 ks0 :: ks)) V e w') : NodeU E k s (ks.length + 1) s0 (.node k s [] (.node k0 s0 g0 ks0 :: ks)) V e w' := by
  obtain ⟨h1, ⟨ga, gc, da, dc⟩, ht, he⟩ := h
  obtain ⟨b, o, e1, hc⟩ := kid_text ht.out
  subst e1
  exact ⟨h1, ga, gc, b, o, dc, ht, Lib.hid hc, he⟩
theorem repl_ex (C : ProgC) (g g2 : Nat) (a : Option Addr) (V : World) (hV : Tabs V) (h : IsT V Pl.sumT (sl2 g)) (h2 : IsT V Pl.proT (sl2 g2)) (hp : IsI V a [0]) :
    Calls Tryd.prog 19 #[bnv 43 g, .slice a 1 1, bnv 42 g2] V (NodeU 0 24 ⟨#[43]⟩ 2 ⟨#[42]⟩ (Pl.bin ⟨#[43]⟩ Pl.proT (Pl.num ⟨#[50]⟩)) V) := by
  refine (C.replace Pl.sumT Pl.proT (sl2 g) (sl2 g2) [0] a 1 V hV h h2 hp (by decide) (by decide) (by decide)).mono fun e w' hr => ?_
  have hr := res_u hr
  rw [Pl.aw4, if_pos rfl, Pl.aw3] at hr
  exact node_u hr
theorem repl_no (C : ProgC) (g g2 : Nat) (a : Option Addr) (V : World) (hV : Tabs V) (h : IsT V Pl.sumT (sl2 g)) (h2 : IsT V Pl.proT (sl2 g2)) (hp : IsI V a [0]) :
    Calls Tryd.prog 19 #[bnv 42 g2, .slice a 1 1, bnv 43 g] V fun e w' => Below V.heap.size V w' ∧ ∃ ga gc da dc, e = .returned (.tuple #[.agg #[.int .i64 0, .string ⟨#[]⟩, .slice ga 0 gc, .slice da 0 dc], .int .i64 7]) := by
  refine (C.replace Pl.proT Pl.sumT (sl2 g2) (sl2 g) [0] a 1 V hV h2 h hp (by decide) (by decide) (by decide)).mono fun e w' hr => ?_
  have hr := res_u hr
  rw [Pl.aw5, if_neg (by decide)] at hr
  obtain ⟨h1, r, _, he⟩ := hr
  exact ⟨h1, r.ga, r.gc, r.da, r.dc, he⟩
theorem ins_ex (C : ProgC) (gc : Nat) (g2 : Nat) (a : Option Addr) (V : World) (hV : Tabs V) (h : IsT V (Pl.callT [Pl.sumT]) ⟨none, 0, some ⟨gc, 0, none⟩, 1⟩) (h2 : IsT V Pl.proT (sl2 g2)) (hp : IsI V a [1]) :
    Calls Tryd.prog 21 #[.agg #[.int .i64 20, .string ⟨#[102]⟩, .slice none 0 0, .slice (some ⟨gc, 0, none⟩) 1 1], .slice a 1 1, bnv 42 g2] V (NodeU 0 20 ⟨#[102]⟩ 2 ⟨#[43]⟩ (Pl.callT [Pl.sumT, Pl.proT]) V) := by
  refine (C.insert (Pl.callT [Pl.sumT]) Pl.proT ⟨none, 0, some ⟨gc, 0, none⟩, 1⟩ (sl2 g2) [1] a 1 V hV h h2 hp (by decide) (by decide) (by decide)).mono fun e w' hr => ?_
  have hr := res_u hr
  rw [Pl.aw6, if_pos rfl, Pl.aw7] at hr
  exact node_u hr
theorem rem_ex (C : ProgC) (ga : Option Addr) (gc b o dc : Nat) (a : Option Addr) (V : World) (hV : Tabs V) (h : IsT V (Pl.callT [Pl.sumT, Pl.proT]) ⟨ga, gc, some ⟨b, o, none⟩, dc⟩) (hp : IsI V a [0]) :
    Calls Tryd.prog 23 #[.agg #[.int .i64 20, .string ⟨#[102]⟩, .slice ga 0 gc, .slice (some ⟨b, o, none⟩) 2 dc], .slice a 1 1] V (NodeU 0 20 ⟨#[102]⟩ 1 ⟨#[42]⟩ (Pl.callT [Pl.proT]) V) := by
  refine (C.remove (Pl.callT [Pl.sumT, Pl.proT]) ⟨ga, gc, some ⟨b, o, none⟩, dc⟩ [0] a 1 V hV h hp (by decide) (by decide)).mono fun e w' hr => ?_
  have hr := res_u hr
  rw [Pl.aw8, if_pos rfl, Pl.aw9] at hr
  exact node_u hr
/-- A list of one number that a call is given. -/
theorem ints_one (w : World) (x : Int) (W : World) (h : W = w.alloc (.cells #[.int .i64 x] 3)) : IsI W (some ⟨w.heap.size, 0, none⟩) [x] ∧ Below w.heap.size w W := by
  subst h
  refine ⟨⟨(show 1 ≤ maxLen by decide), .inr ⟨_, _, rfl, by simp, fun j y hj => ?_⟩⟩, box_below _ _⟩
  match j, hj with
  | 0, hj => cases hj; simp
  | j + 1, hj => cases hj
/-- The box of a binary expression, and the tree in it. -/
structure Bo (b : Nat) (op : UInt8) (g : Nat) (T : Pl.Tr) (V : World) : Prop where
  box : At4 V b 0 24 ⟨#[op]⟩ (.slice none 0 0) (.slice (some ⟨g, 0, none⟩) 2 2)
  tree : IsT V T (sl2 g)
theorem Bo.later {b : Nat} {op : UInt8} {g : Nat} {T : Pl.Tr} {V V' : World} (h : Bo b op g T V) (hb : Below V.heap.size V V') : Bo b op g T V' := ⟨at4_below h.box hb, h.tree.later hb⟩
theorem bo_new (op : UInt8) {g : Nat} {T : Pl.Tr} {V : World} (h : IsT V T (sl2 g)) : Bo V.heap.size op g T (V.alloc (bnb op g)) := ⟨at4_new V 24 ⟨#[op]⟩ _ _, h.later (box_below _ _)⟩
/-- A box of a node. -/
structure Bq (b : Nat) (k : Int) (s : ByteArray) (gv kv : Value) (V : World) : Prop where
  box : At4 V b 0 k s gv kv
theorem Bq.later {b : Nat} {k : Int} {s : ByteArray} {gv kv : Value} {V V' : World} (h : Bq b k s gv kv V) (hb : Below V.heap.size V V') : Bq b k s gv kv V' := ⟨at4_below h.box hb⟩
theorem bq_new (V : World) (k : Int) (s : ByteArray) (gv kv : Value) : Bq V.heap.size k s gv kv (V.alloc (.cells #[.int .i64 k, .string s, gv, kv] 25)) := ⟨at4_new V k s gv kv⟩
/-- A cell. -/
structure Ce (b f : Nat) (v : Value) (V : World) : Prop where
  cell : V.cell? ⟨b, f, none⟩ = some v
theorem Ce.later {b f : Nat} {v : Value} {V V' : World} (h : Ce b f v V) (hb : Below V.heap.size V V') : Ce b f v V' :=
  ⟨(hb.cell (p := ⟨b, f, none⟩) (World.block_lt_of_cell? V _ h.cell)).trans h.cell⟩
theorem one_cell {w : World} {a : Option Addr} {x : Int} (h : IsI w a [x]) : ∃ b o, a = some ⟨b, o, none⟩ ∧ w.cell? ⟨b, o, none⟩ = some (.int .i64 x) := by
  rcases h.2 with h0 | ⟨b, o, e, _, hat⟩
  · cases h0
  · exact ⟨b, o, e, by have := hat 0 x rfl; rwa [Nat.add_zero] at this⟩
theorem call_new {op : UInt8} {g : Nat} {a b : Pl.Tr} {V : World} (h : IsT V (Pl.bin ⟨#[op]⟩ a b) (sl2 g)) : IsT (V.alloc (bnb op g)) (Pl.callT [Pl.bin ⟨#[op]⟩ a b]) ⟨none, 0, some ⟨V.heap.size, 0, none⟩, 1⟩ := by
  refine .mk _ _ (fun _ => sl2 g) (show (1 : Nat) ≤ maxLen by decide) (strs_nil _ _ _) (show 1 ≤ maxLen by decide) (.inr ⟨V.heap.size, 0, rfl, by simp, fun j u hu => ?_⟩) (fun j u hu => ?_) (Nat.le_refl _)
  · match j, hu with
    | 0, hu => cases hu; exact at4_new V 24 ⟨#[op]⟩ _ _
    | j + 1, hu => cases hu
  · match j, hu with
    | 0, hu => cases hu; exact h.later (box_below _ _)
    | j + 1, hu => cases hu
set_option maxHeartbeats 6400000 in
theorem awake_is (C : ProgC) (w0 : World) (hT : Tabs w0) :
    Calls Tryd.prog 10 #[] w0 fun e w' => e = .returned (.bool true) ∧ Below w0.heap.size w0 w' := by
  have HC := Lib.hid C
  have L0 : Hid (Lo w0 w0) := Lib.hid ⟨Below.refl _ _, hT⟩
  clear hT
  go_enter Tryd.func10, Tryd.ntmps10
  go_upto_region 2 with (first
    | (go_at_call 31; refine (binary_any _ (Pl.num ⟨#[49]⟩) (Pl.num ⟨#[50]⟩) ⟨none, 0, none, 0⟩ ⟨none, 0, none, 0⟩ _ (isT_leaf _ 17 _ (by decide)) (isT_leaf _ 17 _ (by decide)) (by decide)).mono ?_; rintro e w3 ⟨gN, rfl, hb3, htN⟩; have L3 := Lib.hid (L2.out.later hb3); clear hb3)
    | (go_at_call 32; have g9 := L1.out; clear g9; refine (number_any _ _).mono ?_; rintro e w2 ⟨rfl, hb2⟩; have L2 := Lib.hid (L1.out.later hb2); clear hb2)
    | (go_at_call 32; refine (number_any _ _).mono ?_; rintro e w1 ⟨rfl, hb1⟩; have L1 := Lib.hid (L0.out.later hb1); clear hb1))
  generalize hW4 : w3.alloc (bnb 43 gN) = w4 at *
  have hb4 : Below w3.heap.size w3 w4 := by rw [← hW4]; exact box_below _ _
  have L4 := Lib.hid (L3.out.later hb4)
  have N4 := Lib.hid (bo_new 43 (T := Pl.sumT) htN.out)
  rw [hW4] at N4
  obtain ⟨c0, c1, c2, c3⟩ := N4.out.box
  clear hb4 hW4
  go_upto_region 3 with (first
    | (go_at_call 31; refine (binary_any _ (Pl.num ⟨#[51]⟩) (Pl.num ⟨#[52]⟩) ⟨none, 0, none, 0⟩ ⟨none, 0, none, 0⟩ _ (isT_leaf _ 17 _ (by decide)) (isT_leaf _ 17 _ (by decide)) (by decide)).mono ?_; rintro e w7 ⟨gX, rfl, hb7, htX⟩; have L7 := Lib.hid (L6.out.later hb7); have N7 := Lib.hid (N6.out.later hb7); clear c0 c1 c2 c3; obtain ⟨c0, c1, c2, c3⟩ := N7.out.box; clear hb7)
    | (go_at_call 32; have g9 := L5.out; clear g9; refine (number_any _ _).mono ?_; rintro e w6 ⟨rfl, hb6⟩; have L6 := Lib.hid (L5.out.later hb6); have N6 := Lib.hid (N5.out.later hb6); clear c0 c1 c2 c3; obtain ⟨c0, c1, c2, c3⟩ := N6.out.box; clear hb6)
    | (go_at_call 32; refine (number_any _ _).mono ?_; rintro e w5 ⟨rfl, hb5⟩; have L5 := Lib.hid (L4.out.later hb5); have N5 := Lib.hid (N4.out.later hb5); clear c0 c1 c2 c3; obtain ⟨c0, c1, c2, c3⟩ := N5.out.box; clear hb5))
  generalize hW8 : w7.alloc (bnb 42 gX) = w8 at *
  have hb8 : Below w7.heap.size w7 w8 := by rw [← hW8]; exact box_below _ _
  have L8 := Lib.hid (L7.out.later hb8)
  have N8 := Lib.hid (N7.out.later hb8)
  have X8 := Lib.hid (bo_new 42 (T := Pl.proT) htX.out)
  rw [hW8] at X8
  clear c0 c1 c2 c3
  obtain ⟨c0, c1, c2, c3⟩ := N8.out.box
  obtain ⟨x0, x1, x2, x3⟩ := X8.out.box
  clear hb8 hW8
  go_upto_region 4 with (go_at_call 11; refine (of_ex HC.out gN _ L8.out.tabs N8.out.tree).mono ?_; rintro e w9 ⟨hb9, pa, pc, hpi, rfl⟩; have L9 := Lib.hid (L8.out.later hb9); have N9 := Lib.hid (N8.out.later hb9); have X9 := Lib.hid (X8.out.later hb9); clear c0 c1 c2 c3; obtain ⟨c0, c1, c2, c3⟩ := N9.out.box; clear x0 x1 x2 x3; obtain ⟨x0, x1, x2, x3⟩ := X9.out.box; clear hb9; have J9 := Lib.hid (hpi.out.1))
  go_upto_region 5 with (go_at_call 13; generalize hW10 : w9.alloc (.cells #[.int .i64 1] 3) = w10 at *; obtain ⟨hi10, hb10⟩ := ints_one w9 1 w10 hW10.symm; have I10 := Lib.hid hi10; have L10 := Lib.hid (L9.out.later hb10); have N10 := Lib.hid (N9.out.later hb10); have X10 := Lib.hid (X9.out.later hb10); have J10 := Lib.hid (J9.out.later hb10); clear hW10 hi10 hb10; refine (index_ex HC.out gN (some ⟨w9.heap.size, 0, none⟩) _ L10.out.tabs N10.out.tree I10.out).mono ?_; rintro e w11 ⟨hb11, rfl⟩; have L11 := Lib.hid (L10.out.later hb11); have N11 := Lib.hid (N10.out.later hb11); have X11 := Lib.hid (X10.out.later hb11); have J11 := Lib.hid (J10.out.later hb11); clear c0 c1 c2 c3; obtain ⟨c0, c1, c2, c3⟩ := N11.out.box; clear x0 x1 x2 x3; obtain ⟨x0, x1, x2, x3⟩ := X11.out.box; clear hb11)
  go_upto_region 6 with (go_at_call 15; generalize hW12 : w11.alloc (.cells #[.int .i64 1] 3) = w12 at *; obtain ⟨hi12, hb12⟩ := ints_one w11 1 w12 hW12.symm; have I12 := Lib.hid hi12; have L12 := Lib.hid (L11.out.later hb12); have N12 := Lib.hid (N11.out.later hb12); have X12 := Lib.hid (X11.out.later hb12); have J12 := Lib.hid (J11.out.later hb12); clear hW12 hi12 hb12; refine (get_ex HC.out gN (some ⟨w11.heap.size, 0, none⟩) _ L12.out.tabs N12.out.tree I12.out).mono ?_; rintro e w13 ⟨hb13, xa, xb, xc, xd, rfl⟩; have L13 := Lib.hid (L12.out.later hb13); have N13 := Lib.hid (N12.out.later hb13); have X13 := Lib.hid (X12.out.later hb13); have J13 := Lib.hid (J12.out.later hb13); clear c0 c1 c2 c3; obtain ⟨c0, c1, c2, c3⟩ := N13.out.box; clear x0 x1 x2 x3; obtain ⟨x0, x1, x2, x3⟩ := X13.out.box; clear hb13)
  generalize hW14 : w13.alloc (.cells #[.int .i64 17, .string ⟨#[50]⟩, .slice xa 0 xb, .slice xc 0 xd] 25) = w14 at *
  have hb14 : Below w13.heap.size w13 w14 := by rw [← hW14]; exact box_below _ _
  have L14 := Lib.hid (L13.out.later hb14)
  have N14 := Lib.hid (N13.out.later hb14)
  have X14 := Lib.hid (X13.out.later hb14)
  have J14 := Lib.hid (J13.out.later hb14)
  have Q14 := Lib.hid (bq_new w13 17 ⟨#[50]⟩ (.slice xa 0 xb) (.slice xc 0 xd))
  rw [hW14] at Q14
  clear c0 c1 c2 c3
  clear x0 x1 x2 x3
  obtain ⟨c0, c1, c2, c3⟩ := N14.out.box
  obtain ⟨x0, x1, x2, x3⟩ := X14.out.box
  obtain ⟨q0, q1, q2, q3⟩ := Q14.out.box
  clear hb14 hW14
  obtain ⟨xp0, xp1, xp2, xp3⟩ := (X14.out.later (box_below w14 (.cells #[.int .i64 0] 3))).box
  go_upto_region 7 with (go_at_call 19; generalize hW15 : w14.alloc (.cells #[.int .i64 0] 3) = w15 at *; obtain ⟨hi15, hb15⟩ := ints_one w14 0 w15 hW15.symm; have I15 := Lib.hid hi15; have L15 := Lib.hid (L14.out.later hb15); have N15 := Lib.hid (N14.out.later hb15); have X15 := Lib.hid (X14.out.later hb15); have J15 := Lib.hid (J14.out.later hb15); have Q15 := Lib.hid (Q14.out.later hb15); clear hW15 hi15 hb15; clear xp0 xp1 xp2 xp3; refine (repl_ex HC.out gN gX (some ⟨w14.heap.size, 0, none⟩) _ L15.out.tabs N15.out.tree X15.out.tree I15.out).mono ?_; rintro e w16 ⟨hb16, ya, yb, yc, yd, ye, _, hyt, rfl⟩; have L16 := Lib.hid (L15.out.later hb16); have N16 := Lib.hid (N15.out.later hb16); have X16 := Lib.hid (X15.out.later hb16); have J16 := Lib.hid (J15.out.later hb16); have Q16 := Lib.hid (Q15.out.later hb16); clear c0 c1 c2 c3; obtain ⟨c0, c1, c2, c3⟩ := N16.out.box; clear x0 x1 x2 x3; obtain ⟨x0, x1, x2, x3⟩ := X16.out.box; clear q0 q1 q2 q3; obtain ⟨q0, q1, q2, q3⟩ := Q16.out.box; clear hb16; have R16 := Lib.hid ((⟨hyt.out⟩ : Ce _ _ _ _)))
  generalize hW17 : w16.alloc (.cells #[.int .i64 24, .string ⟨#[43]⟩, .slice ya 0 yb, .slice (some ⟨yc, yd, none⟩) 2 ye] 25) = w17 at *
  have hb17 : Below w16.heap.size w16 w17 := by rw [← hW17]; exact box_below _ _
  have L17 := Lib.hid (L16.out.later hb17)
  have N17 := Lib.hid (N16.out.later hb17)
  have X17 := Lib.hid (X16.out.later hb17)
  have J17 := Lib.hid (J16.out.later hb17)
  have Q17 := Lib.hid (Q16.out.later hb17)
  have R17 := Lib.hid (R16.out.later hb17)
  have S17 := Lib.hid (bq_new w16 24 ⟨#[43]⟩ (.slice ya 0 yb) (.slice (some ⟨yc, yd, none⟩) 2 ye))
  rw [hW17] at S17
  clear c0 c1 c2 c3
  clear x0 x1 x2 x3
  clear q0 q1 q2 q3
  obtain ⟨c0, c1, c2, c3⟩ := N17.out.box
  obtain ⟨x0, x1, x2, x3⟩ := X17.out.box
  obtain ⟨q0, q1, q2, q3⟩ := Q17.out.box
  obtain ⟨s0, s1, s2, s3⟩ := S17.out.box
  clear hb17 hW17
  obtain ⟨xp0, xp1, xp2, xp3⟩ := (N17.out.later (box_below w17 (.cells #[.int .i64 0] 3))).box
  go_upto_region 8 with (go_at_call 19; generalize hW18 : w17.alloc (.cells #[.int .i64 0] 3) = w18 at *; obtain ⟨hi18, hb18⟩ := ints_one w17 0 w18 hW18.symm; have I18 := Lib.hid hi18; have L18 := Lib.hid (L17.out.later hb18); have N18 := Lib.hid (N17.out.later hb18); have X18 := Lib.hid (X17.out.later hb18); have J18 := Lib.hid (J17.out.later hb18); have Q18 := Lib.hid (Q17.out.later hb18); have R18 := Lib.hid (R17.out.later hb18); have S18 := Lib.hid (S17.out.later hb18); clear hW18 hi18 hb18; clear xp0 xp1 xp2 xp3; refine (repl_no HC.out gN gX (some ⟨w17.heap.size, 0, none⟩) _ L18.out.tabs N18.out.tree X18.out.tree I18.out).mono ?_; rintro e w19 ⟨hb19, za, zb, zc, zd, rfl⟩; have L19 := Lib.hid (L18.out.later hb19); have N19 := Lib.hid (N18.out.later hb19); have X19 := Lib.hid (X18.out.later hb19); have J19 := Lib.hid (J18.out.later hb19); have Q19 := Lib.hid (Q18.out.later hb19); have R19 := Lib.hid (R18.out.later hb19); have S19 := Lib.hid (S18.out.later hb19); clear c0 c1 c2 c3; obtain ⟨c0, c1, c2, c3⟩ := N19.out.box; clear x0 x1 x2 x3; obtain ⟨x0, x1, x2, x3⟩ := X19.out.box; clear q0 q1 q2 q3; obtain ⟨q0, q1, q2, q3⟩ := Q19.out.box; clear s0 s1 s2 s3; obtain ⟨s0, s1, s2, s3⟩ := S19.out.box; clear hb19)
  generalize hW20 : w19.alloc (.cells #[.int .i64 0, .string ⟨#[]⟩, .slice za 0 zb, .slice zc 0 zd] 25) = w20 at *
  have hb20 : Below w19.heap.size w19 w20 := by rw [← hW20]; exact box_below _ _
  have L20 := Lib.hid (L19.out.later hb20)
  have N20 := Lib.hid (N19.out.later hb20)
  have X20 := Lib.hid (X19.out.later hb20)
  have J20 := Lib.hid (J19.out.later hb20)
  have Q20 := Lib.hid (Q19.out.later hb20)
  have R20 := Lib.hid (R19.out.later hb20)
  have S20 := Lib.hid (S19.out.later hb20)
  clear c0 c1 c2 c3
  clear x0 x1 x2 x3
  clear q0 q1 q2 q3
  clear s0 s1 s2 s3
  obtain ⟨c0, c1, c2, c3⟩ := N20.out.box
  obtain ⟨x0, x1, x2, x3⟩ := X20.out.box
  obtain ⟨q0, q1, q2, q3⟩ := Q20.out.box
  obtain ⟨s0, s1, s2, s3⟩ := S20.out.box
  clear hb20 hW20
  go_upto_region 9 with fail
  have hz : (w20.alloc (bnb 43 gN)).heap.size = w20.heap.size + 1 := by simp
  generalize hW21 : w20.alloc (bnb 43 gN) = w21 at *
  have hb21 : Below w20.heap.size w20 w21 := by rw [← hW21]; exact box_below _ _
  have L21 := Lib.hid (L20.out.later hb21)
  have N21 := Lib.hid (N20.out.later hb21)
  have X21 := Lib.hid (X20.out.later hb21)
  have J21 := Lib.hid (J20.out.later hb21)
  have Q21 := Lib.hid (Q20.out.later hb21)
  have R21 := Lib.hid (R20.out.later hb21)
  have S21 := Lib.hid (S20.out.later hb21)
  have T21 := Lib.hid (call_new N20.out.tree)
  rw [hW21] at T21
  clear c0 c1 c2 c3
  clear x0 x1 x2 x3
  clear q0 q1 q2 q3
  clear s0 s1 s2 s3
  obtain ⟨c0, c1, c2, c3⟩ := N21.out.box
  obtain ⟨x0, x1, x2, x3⟩ := X21.out.box
  obtain ⟨q0, q1, q2, q3⟩ := Q21.out.box
  obtain ⟨s0, s1, s2, s3⟩ := S21.out.box
  clear hb21 hW21
  generalize hW22 : w21.alloc (.cells #[.int .i64 20, .string ⟨#[102]⟩, .slice none 0 0, .slice (some ⟨w20.heap.size, 0, none⟩) 1 1] 25) = w22 at *
  have hb22 : Below w21.heap.size w21 w22 := by rw [← hW22]; exact box_below _ _
  have L22 := Lib.hid (L21.out.later hb22)
  have N22 := Lib.hid (N21.out.later hb22)
  have X22 := Lib.hid (X21.out.later hb22)
  have J22 := Lib.hid (J21.out.later hb22)
  have Q22 := Lib.hid (Q21.out.later hb22)
  have R22 := Lib.hid (R21.out.later hb22)
  have S22 := Lib.hid (S21.out.later hb22)
  have T22 := Lib.hid (T21.out.later hb22)
  have U22 := Lib.hid (bq_new w21 20 ⟨#[102]⟩ (.slice none 0 0) (.slice (some ⟨w20.heap.size, 0, none⟩) 1 1))
  rw [hW22] at U22
  rw [hz] at U22
  clear c0 c1 c2 c3
  clear x0 x1 x2 x3
  clear q0 q1 q2 q3
  clear s0 s1 s2 s3
  obtain ⟨c0, c1, c2, c3⟩ := N22.out.box
  obtain ⟨x0, x1, x2, x3⟩ := X22.out.box
  obtain ⟨q0, q1, q2, q3⟩ := Q22.out.box
  obtain ⟨s0, s1, s2, s3⟩ := S22.out.box
  obtain ⟨u0, u1, u2, u3⟩ := U22.out.box
  clear hb22 hW22
  clear hz
  obtain ⟨xp0, xp1, xp2, xp3⟩ := (X22.out.later (box_below w22 (.cells #[.int .i64 1] 3))).box
  go_upto_region 10 with (go_at_call 21; generalize hW23 : w22.alloc (.cells #[.int .i64 1] 3) = w23 at *; obtain ⟨hi23, hb23⟩ := ints_one w22 1 w23 hW23.symm; have I23 := Lib.hid hi23; have L23 := Lib.hid (L22.out.later hb23); have N23 := Lib.hid (N22.out.later hb23); have X23 := Lib.hid (X22.out.later hb23); have J23 := Lib.hid (J22.out.later hb23); have Q23 := Lib.hid (Q22.out.later hb23); have R23 := Lib.hid (R22.out.later hb23); have S23 := Lib.hid (S22.out.later hb23); have T23 := Lib.hid (T22.out.later hb23); have U23 := Lib.hid (U22.out.later hb23); clear hW23 hi23 hb23; clear xp0 xp1 xp2 xp3; refine (ins_ex HC.out w20.heap.size gX (some ⟨w22.heap.size, 0, none⟩) _ L23.out.tabs T23.out X23.out.tree I23.out).mono ?_; rintro e w24 ⟨hb24, va, vb, vc, vd, ve, hv, hvt, rfl⟩; have L24 := Lib.hid (L23.out.later hb24); have N24 := Lib.hid (N23.out.later hb24); have X24 := Lib.hid (X23.out.later hb24); have J24 := Lib.hid (J23.out.later hb24); have Q24 := Lib.hid (Q23.out.later hb24); have R24 := Lib.hid (R23.out.later hb24); have S24 := Lib.hid (S23.out.later hb24); have T24 := Lib.hid (T23.out.later hb24); have U24 := Lib.hid (U23.out.later hb24); clear c0 c1 c2 c3; obtain ⟨c0, c1, c2, c3⟩ := N24.out.box; clear x0 x1 x2 x3; obtain ⟨x0, x1, x2, x3⟩ := X24.out.box; clear q0 q1 q2 q3; obtain ⟨q0, q1, q2, q3⟩ := Q24.out.box; clear s0 s1 s2 s3; obtain ⟨s0, s1, s2, s3⟩ := S24.out.box; clear u0 u1 u2 u3; obtain ⟨u0, u1, u2, u3⟩ := U24.out.box; clear hb24; have A24 := Lib.hid (hv.out); have B24 := Lib.hid ((⟨hvt.out⟩ : Ce _ _ _ _)))
  generalize hW25 : w24.alloc (.cells #[.int .i64 20, .string ⟨#[102]⟩, .slice va 0 vb, .slice (some ⟨vc, vd, none⟩) 2 ve] 25) = w25 at *
  have hb25 : Below w24.heap.size w24 w25 := by rw [← hW25]; exact box_below _ _
  have L25 := Lib.hid (L24.out.later hb25)
  have N25 := Lib.hid (N24.out.later hb25)
  have X25 := Lib.hid (X24.out.later hb25)
  have J25 := Lib.hid (J24.out.later hb25)
  have Q25 := Lib.hid (Q24.out.later hb25)
  have R25 := Lib.hid (R24.out.later hb25)
  have S25 := Lib.hid (S24.out.later hb25)
  have T25 := Lib.hid (T24.out.later hb25)
  have U25 := Lib.hid (U24.out.later hb25)
  have A25 := Lib.hid (A24.out.later hb25)
  have B25 := Lib.hid (B24.out.later hb25)
  have D25 := Lib.hid (bq_new w24 20 ⟨#[102]⟩ (.slice va 0 vb) (.slice (some ⟨vc, vd, none⟩) 2 ve))
  rw [hW25] at D25
  clear c0 c1 c2 c3
  clear x0 x1 x2 x3
  clear q0 q1 q2 q3
  clear s0 s1 s2 s3
  clear u0 u1 u2 u3
  obtain ⟨c0, c1, c2, c3⟩ := N25.out.box
  obtain ⟨x0, x1, x2, x3⟩ := X25.out.box
  obtain ⟨q0, q1, q2, q3⟩ := Q25.out.box
  obtain ⟨s0, s1, s2, s3⟩ := S25.out.box
  obtain ⟨u0, u1, u2, u3⟩ := U25.out.box
  obtain ⟨d0, d1, d2, d3⟩ := D25.out.box
  clear hb25 hW25
  go_upto_region 11 with (go_at_call 23; generalize hW26 : w25.alloc (.cells #[.int .i64 0] 3) = w26 at *; obtain ⟨hi26, hb26⟩ := ints_one w25 0 w26 hW26.symm; have I26 := Lib.hid hi26; have L26 := Lib.hid (L25.out.later hb26); have N26 := Lib.hid (N25.out.later hb26); have X26 := Lib.hid (X25.out.later hb26); have J26 := Lib.hid (J25.out.later hb26); have Q26 := Lib.hid (Q25.out.later hb26); have R26 := Lib.hid (R25.out.later hb26); have S26 := Lib.hid (S25.out.later hb26); have T26 := Lib.hid (T25.out.later hb26); have U26 := Lib.hid (U25.out.later hb26); have A26 := Lib.hid (A25.out.later hb26); have B26 := Lib.hid (B25.out.later hb26); have D26 := Lib.hid (D25.out.later hb26); clear hW26 hi26 hb26; refine (rem_ex HC.out va vb vc vd ve (some ⟨w25.heap.size, 0, none⟩) _ L26.out.tabs A26.out I26.out).mono ?_; rintro e w27 ⟨hb27, ea, eb, ec, ed, ee, _, het, rfl⟩; have L27 := Lib.hid (L26.out.later hb27); have N27 := Lib.hid (N26.out.later hb27); have X27 := Lib.hid (X26.out.later hb27); have J27 := Lib.hid (J26.out.later hb27); have Q27 := Lib.hid (Q26.out.later hb27); have R27 := Lib.hid (R26.out.later hb27); have S27 := Lib.hid (S26.out.later hb27); have T27 := Lib.hid (T26.out.later hb27); have U27 := Lib.hid (U26.out.later hb27); have A27 := Lib.hid (A26.out.later hb27); have B27 := Lib.hid (B26.out.later hb27); have D27 := Lib.hid (D26.out.later hb27); clear c0 c1 c2 c3; obtain ⟨c0, c1, c2, c3⟩ := N27.out.box; clear x0 x1 x2 x3; obtain ⟨x0, x1, x2, x3⟩ := X27.out.box; clear q0 q1 q2 q3; obtain ⟨q0, q1, q2, q3⟩ := Q27.out.box; clear s0 s1 s2 s3; obtain ⟨s0, s1, s2, s3⟩ := S27.out.box; clear u0 u1 u2 u3; obtain ⟨u0, u1, u2, u3⟩ := U27.out.box; clear d0 d1 d2 d3; obtain ⟨d0, d1, d2, d3⟩ := D27.out.box; clear hb27; have E27 := Lib.hid ((⟨het.out⟩ : Ce _ _ _ _)))
  generalize hW28 : w27.alloc (.cells #[.int .i64 20, .string ⟨#[102]⟩, .slice ea 0 eb, .slice (some ⟨ec, ed, none⟩) 1 ee] 25) = w28 at *
  have hb28 : Below w27.heap.size w27 w28 := by rw [← hW28]; exact box_below _ _
  have L28 := Lib.hid (L27.out.later hb28)
  have N28 := Lib.hid (N27.out.later hb28)
  have X28 := Lib.hid (X27.out.later hb28)
  have J28 := Lib.hid (J27.out.later hb28)
  have Q28 := Lib.hid (Q27.out.later hb28)
  have R28 := Lib.hid (R27.out.later hb28)
  have S28 := Lib.hid (S27.out.later hb28)
  have T28 := Lib.hid (T27.out.later hb28)
  have U28 := Lib.hid (U27.out.later hb28)
  have A28 := Lib.hid (A27.out.later hb28)
  have B28 := Lib.hid (B27.out.later hb28)
  have D28 := Lib.hid (D27.out.later hb28)
  have E28 := Lib.hid (E27.out.later hb28)
  have F28 := Lib.hid (bq_new w27 20 ⟨#[102]⟩ (.slice ea 0 eb) (.slice (some ⟨ec, ed, none⟩) 1 ee))
  rw [hW28] at F28
  clear c0 c1 c2 c3
  clear x0 x1 x2 x3
  clear q0 q1 q2 q3
  clear s0 s1 s2 s3
  clear u0 u1 u2 u3
  clear d0 d1 d2 d3
  obtain ⟨c0, c1, c2, c3⟩ := N28.out.box
  obtain ⟨x0, x1, x2, x3⟩ := X28.out.box
  obtain ⟨q0, q1, q2, q3⟩ := Q28.out.box
  obtain ⟨s0, s1, s2, s3⟩ := S28.out.box
  obtain ⟨u0, u1, u2, u3⟩ := U28.out.box
  obtain ⟨d0, d1, d2, d3⟩ := D28.out.box
  obtain ⟨f0, f1, f2, f3⟩ := F28.out.box
  clear hb28 hW28
  obtain ⟨jb, jo, rfl, jc⟩ := one_cell J28.out
  have rc := R28.out.cell
  have ec1 := E28.out.cell
  clear c0 c1 c2 c3 x0 x1 x2 x3 u0 u1 u2 u3 q0 q2 q3 s0 s1 s2 d0 d1 d2 f0 f1 f2
  go_wp2_with fail
  go_ret
  exact ⟨rfl, L28.out.low⟩
theorem prog_of (C : ProgC) : Prog := ⟨C.of, C.index, C.get, C.replace, C.insert, C.remove, awake_is C⟩
end Go.Proofs.YtpaleolcfhnenaaDoor.Rt
