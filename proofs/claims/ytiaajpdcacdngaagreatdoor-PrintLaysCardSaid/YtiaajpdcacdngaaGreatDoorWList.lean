/- Rows of parts in memory; the walks of own and kid. -/
import Derived.Test.YtiaajpdcacdngaaGreatDoorBMem
import Derived.Test.YtiaajpdcacdngaaGreatDoorPParts
import Derived.Deep.AppendLies
import Derived.Deep.RegionLaw
import Derived.Deep.RegionWith
import Derived.Deep.RegionHeld3
import Derived.OwnWalk
import Derived.Laws.OwnMore
namespace Go.Proofs.YtiaajpdcacdngaaGreatDoor
open Go.RowKit
set_option linter.unusedVariables false
set_option linter.unusedSimpArgs false

def cells3 (p : Pl.Part) : List Value := [.string p.gap, .string p.text, .int .i64 p.kid]
def row3 (ps : List Pl.Part) : List Value := ps.flatMap cells3
theorem row3_append (a b : List Pl.Part) : row3 (a ++ b) = row3 a ++ row3 b := by unfold row3; simp
theorem row3_len (ps : List Pl.Part) : (row3 ps).length = ps.length * 3 := by
  induction ps with
  | nil => rfl
  | cons p ps ih => unfold row3 at ih ⊢; rw [List.flatMap_cons, List.length_append, ih, List.length_cons]; show 3 + _ = _; omega
theorem row3_get (L : List Pl.Part) (j : Nat) (t : Pl.Part) (h : L[j]? = some t) (f : Nat) (hf : f < 3) : (row3 L)[j * 3 + f]? = (cells3 t)[f]? := by
  induction L generalizing j with
  | nil => simp at h
  | cons a L ih =>
    have e : row3 (a :: L) = cells3 a ++ row3 L := by unfold row3; rw [List.flatMap_cons]
    rw [e]
    match j, h with
    | 0, h =>
      obtain rfl : a = t := by simpa using h
      rw [List.getElem?_append_left (by show 0 * 3 + f < 3; omega)]
      congr 1; omega
    | j + 1, h =>
      rw [List.getElem?_append_right (by show 3 ≤ _; omega)]
      have := ih j (by simpa using h)
      rw [← this]
      congr 1; show (j + 1) * 3 + f - 3 = _; omega
theorem row3_one (ps : List Pl.Part) : ∀ u ∈ row3 ps, u.oneCell' = true := by
  intro u hu
  unfold row3 at hu
  obtain ⟨p, _, hp⟩ := List.mem_flatMap.1 hu
  simp only [cells3, List.mem_cons, List.not_mem_nil, or_false] at hp
  rcases hp with rfl | rfl | rfl <;> rfl
theorem infoP : (Tryz.prog.info? 89).map (fun i => (i.zero, i.size, i.bytes)) = some (some (.agg #[.string ⟨#[]⟩, .string ⟨#[]⟩, .int .i64 0]), 3, 40) := by kernel_rfl
theorem info_parts {sz by' : Nat} {z : Value} {o : Option TypeInfo} (h : o.map (fun i => (i.zero, i.size, i.bytes)) = some (some z, sz, by')) : ∃ i, o = some i ∧ i.zero = some z ∧ i.size = sz ∧ i.bytes = by' := by
  obtain ⟨i, hi, hzz⟩ := Option.map_eq_some_iff.1 h
  simp only [Prod.mk.injEq] at hzz
  exact ⟨i, hi, hzz.1, hzz.2.1, hzz.2.2⟩
/-- A row of parts of the call's own. -/
def Parts (B : Nat) (w : World) (v : Value) (ps : List Pl.Part) : Prop := w.ownsRow B 89 3 v ps.length (row3 ps)
theorem lt_blk {w : World} {b : Nat} {o : Obj} (h : w.heap[b]? = some o) : b < w.heap.size := (Array.getElem?_eq_some_iff.1 h).1
theorem owns_later {w w' : World} {B : Nat} {e : TypeId} {size n : Nat} {v : Value} {xs : List Value} (h : w.ownsRow B e size v n xs) (hb : Below w.heap.size w w') : w'.ownsRow B e size v n xs := by
  refine ⟨h.1, ?_⟩
  rcases h.2 with h2 | ⟨g, cap, cur, h1, h2, h3, h4⟩
  · exact .inl h2
  · exact .inr ⟨g, cap, cur, h1, h2, by rw [hb.block g (lt_blk h3)]; exact h3, h4⟩
theorem owns_low {w : World} {B B' : Nat} {e : TypeId} {size n : Nat} {v : Value} {xs : List Value} (h : w.ownsRow B e size v n xs) (hB : B' ≤ B) : w.ownsRow B' e size v n xs := by
  refine ⟨h.1, ?_⟩
  rcases h.2 with h2 | ⟨g, cap, cur, h1, h2, h3, h4⟩
  · exact .inl h2
  · exact .inr ⟨g, cap, cur, h1, by omega, h3, h4⟩
theorem Parts.later {w w' : World} {B : Nat} {v : Value} {ps : List Pl.Part} (h : Parts B w v ps) (hb : Below w.heap.size w w') : Parts B w' v ps := owns_later h hb
theorem parts_nil (B : Nat) (w : World) : Parts B w (.slice none 0 0) [] := World.ownsRow_nil _ _ _ _
/-- A literal of parts. -/
theorem parts_lit (w : World) (ps : List Pl.Part) (cs : Array Value) (n : Nat) (hc : cs.toList = row3 ps) (hn : n = ps.length) (B : Nat) (hB : B ≤ w.heap.size) (hm : n ≤ 100) : Parts B (w.alloc (.cells cs 89)) (.slice (some ⟨w.heap.size, 0, none⟩) n n) ps := by
  subst hn
  have h := World.ownsRow_lit (base := B) (e := 89) (size := 3) w cs ps.length hB (by unfold maxLen; omega) (by rw [← Array.length_toList, hc, row3_len])
  rw [hc] at h
  exact h
/-- What a function that makes parts answers. -/
def PartsP (ps : List Pl.Part) (w : World) (e : Ending) (w' : World) : Prop := ∃ a c, e = .returned (.slice a ps.length c) ∧ Parts w.heap.size w' (.slice a ps.length c) ps ∧ Below w.heap.size w w'
theorem box_low (w : World) (o : Obj) : Below w.heap.size w (w.alloc o) := (Below.refl _ _).alloc (Nat.le_refl _) o

/- ### A node behind a pointer -/
/-- The cells of a node that its parts depend on: its kind, its text, its kids. -/
structure Nd (w : World) (b o : Nat) (k : Int) (s : ByteArray) (kv : Value) : Prop where
  c0 : w.cell? ⟨b, o, none⟩ = some (.int .i64 k)
  c1 : w.cell? ⟨b, o + 1, none⟩ = some (.string s)
  c3 : w.cell? ⟨b, o + 3, none⟩ = some kv
theorem Nd.lt {w : World} {b o : Nat} {k : Int} {s : ByteArray} {kv : Value} (h : Nd w b o k s kv) : b < w.heap.size := World.block_lt_of_cell? w _ h.c0
theorem Nd.of {w w' : World} {b o : Nat} {k : Int} {s : ByteArray} {kv : Value} (h : Nd w b o k s kv) (hb : w'.heap[b]? = w.heap[b]?) : Nd w' b o k s kv :=
  ⟨(World.cell?_of_block (w := w) (a := ⟨b, o, none⟩) hb).trans h.c0, (World.cell?_of_block (w := w) (a := ⟨b, o + 1, none⟩) hb).trans h.c1, (World.cell?_of_block (w := w) (a := ⟨b, o + 3, none⟩) hb).trans h.c3⟩
theorem Nd.later {w w' : World} {b o : Nat} {k : Int} {s : ByteArray} {kv : Value} (h : Nd w b o k s kv) (hb : Below w.heap.size w w') : Nd w' b o k s kv := h.of (hb.block b h.lt)

/- ### own, kid -/
set_option maxHeartbeats 400000 in
theorem pown_is (g t : ByteArray) (w : World) :
    Calls Tryz.prog 97 #[.string g, .string t] w fun e w' => e = .returned (.agg #[.string g, .string t, .int .i64 (-1)]) ∧ Below w.heap.size w w' := by
  go_enter Tryz.func97, Tryz.ntmps97
  go_wp2_with fail
  exact bodyPost_ret (v := .agg #[.string g, .string t, .int .i64 (-1)]) (by simp [results, Tryz.results97, go_sem]) rfl ⟨rfl, box_low _ _⟩
set_option maxHeartbeats 400000 in
theorem kid_is (g : ByteArray) (i : Int) (w : World) :
    Calls Tryz.prog 98 #[.string g, .int .i64 i] w fun e w' => e = .returned (.agg #[.string g, .string ⟨#[]⟩, .int .i64 i]) ∧ Below w.heap.size w w' := by
  go_enter Tryz.func98, Tryz.ntmps98
  go_wp2_with fail
  exact bodyPost_ret (v := .agg #[.string g, .string ⟨#[]⟩, .int .i64 i]) (by simp [results, Tryz.results98, go_sem]) rfl ⟨rfl, box_low _ _⟩
end Go.Proofs.YtiaajpdcacdngaaGreatDoor

namespace Go.Proofs.YtiaajpdcacdngaaGreatDoor
open Go.RowKit
set_option linter.unusedVariables false
set_option linter.unusedSimpArgs false

theorem kidsP_len (first n : Nat) (g : ByteArray) : (Pl.kidsP first n g).length = n - first := by unfold Pl.kidsP; simp
theorem kidsP_snoc (first j : Nat) (g : ByteArray) (h : first ≤ j) : Pl.kidsP first (j + 1) g = Pl.kidsP first j g ++ [Pl.pkid g (j : Nat)] := by
  unfold Pl.kidsP
  rw [show j + 1 - first = (j - first) + 1 from by omega, List.range'_concat, List.map_append]
  congr 1
  rw [show first + 1 * (j - first) = j from by omega]; rfl
theorem kidsP_none (first j : Nat) (g : ByteArray) (h : j ≤ first) : Pl.kidsP first j g = [] := by
  unfold Pl.kidsP
  rw [show j - first = 0 from by omega]; rfl
theorem commasP_snoc (first j : Nat) (h : first ≤ j) : Pl.commasP first (j + 1) = Pl.commasP first j ++ (if first < j then [Pl.pown ⟨#[]⟩ ⟨#[44]⟩, Pl.pkid ⟨#[32]⟩ (j : Nat)] else [Pl.pkid ⟨#[]⟩ (j : Nat)]) := by
  unfold Pl.commasP
  rw [show j + 1 - first = (j - first) + 1 from by omega, List.range'_concat, List.flatMap_append]
  congr 1
  rw [show first + 1 * (j - first) = j from by omega]; simp
theorem commasP_none (first j : Nat) (h : j ≤ first) : Pl.commasP first j = [] := by
  unfold Pl.commasP
  rw [show j - first = 0 from by omega]; rfl
theorem commasP_le (first j : Nat) : (Pl.commasP first j).length ≤ 2 * (j - first) := by
  unfold Pl.commasP
  generalize hl : List.range' first (j - first) = l
  have hlen : l.length = j - first := by rw [← hl]; simp
  rw [← hlen]
  clear hl hlen
  induction l with
  | nil => exact Nat.le_refl _
  | cons a l ih =>
    rw [List.flatMap_cons, List.length_append, List.length_cons]
    have : (if first < a then [Pl.pown ⟨#[]⟩ ⟨#[44]⟩, Pl.pkid ⟨#[32]⟩ (a : Nat)] else [Pl.pkid ⟨#[]⟩ (a : Nat)] : List Pl.Part).length ≤ 2 := by split <;> simp
    omega
theorem row3_one_part (g t : ByteArray) (k : Int) : row3 [⟨g, t, k⟩] = [.string g, .string t, .int .i64 k] := rfl
/-- One part more at the end of a row. -/
theorem parts_snoc {B : Nat} {w : World} {v : Value} {n : Nat} {ps : List Pl.Part} {g t : ByteArray} {k : Int} (h : w.ownsRow B 89 3 v n (row3 ps ++ [.string g, .string t, .int .i64 k])) (hn : n = ps.length + 1) : Parts B w v (ps ++ [⟨g, t, k⟩]) := by
  unfold Parts
  rw [row3_append, List.length_append, List.length_singleton, row3_one_part, ← hn]
  exact h
theorem news_part (w : World) (g t : ByteArray) (k : Int) : ∀ j u, ([.string g, .string t, .int .i64 k] : List Value)[j]? = some u → (w.alloc (.cells #[.string g, .string t, .int .i64 k] 89)).cell? ((⟨w.heap.size, 0, none⟩ : Addr).add j) = some u :=
  World.news_of_block (cs := #[.string g, .string t, .int .i64 k]) (t := 89) (fr := (0, 0)) (heap_alloc_new _ _)
theorem one_part (g t : ByteArray) (k : Int) : ∀ u ∈ ([.string g, .string t, .int .i64 k] : List Value), u.oneCell' = true := by
  intro u hu
  simp only [List.mem_cons, List.not_mem_nil, or_false] at hu
  rcases hu with rfl | rfl | rfl <;> rfl
set_option maxRecDepth 100000 in
set_option maxHeartbeats 800000 in
theorem kids_any (first n : Nat) (g : ByteArray) (b o : Nat) (k : Int) (s : ByteArray) (ka : Option Addr) (kc : Nat) (w : World) (hn : n ≤ 100000) (hf : first ≤ 1) (hN : Nd w b o k s (.slice ka n kc)) :
    Calls Tryz.prog 96 #[.pointer (some ⟨b, o, none⟩), .int .i64 (first : Nat), .string g] w (PartsP (Pl.kidsP first n g) w) := by
  obtain ⟨i0, hi0, hz0, hz1, hz2⟩ := info_parts infoP
  have HNd := Lib.hid hN
  have hlt0 := hN.lt
  clear hN
  go_enter Tryz.func96, Tryz.ntmps96
  go_wp2_with fail
  go_loopw [7, 8] (fun l i wr => ∃ (j : Nat) (a : Option Addr) (m c : Nat), first ≤ j ∧ (j ≤ n ∨ j = first) ∧ i = .int .i64 j ∧ l = .slice a m c ∧ Hid (m = j - first) ∧ Hid (wr.ownsRow w.heap.size 89 3 (.slice a m c) m (row3 (Pl.kidsP first j g))) ∧ Hid (Below w.heap.size w wr)) (fun _ i _ => n - (intOf i).toNat)
  case atStart => exact ⟨first, none, 0, 0, Nat.le_refl _, .inr rfl, rfl, rfl, Lib.hid (by omega), Lib.hid (by rw [kidsP_none _ _ _ (Nat.le_refl _)]; exact World.ownsRow_nil _ _ _ _), Lib.hid (Below.refl _ _)⟩
  case round =>
    obtain ⟨j, a, m, c, hj0, hj1, rfl, rfl, HM, HO, HB⟩ := hrel
    have x3 := (HNd.out.later HB.out).c3
    have hwz := HB.out.size
    by_cases hlt : j < n
    · have hm := HM.out
      have hmb : m ≤ 100000 := by omega
      clear hm
      go_wp2_with (first
        | (go_at_call 98; refine (kid_is _ _ _).mono ?_; rintro e w2 ⟨rfl, hb2⟩; have HB2 := Lib.hid hb2; have hs2 := hb2.size; clear hb2)
        | (at_builtin; refine wpList_append_lies _ rfl _ _ 86 rfl w.heap.size 89 i0 _ 3 40 Tryz.underlying86 hi0 hz0 hz1 hz2 rfl (by decide) (.slice a m c) m _ rfl ((owns_later HO.out HB2.out).alloc _)
            ⟨w2.heap.size, 0, none⟩ 1 1 [.string g, .string ⟨#[]⟩, .int .i64 j] rfl rfl (news_part _ _ _ _) (one_part _ _ _) (by decide) (by unfold maxLen; omega) (by omega) (by simp; omega) (w2.heap.size + 1) (by simp) ?_
           intro gg cap w3 hown hgrow hat3 hlt3
           have HOwn := Lib.hid hown
           have HGrow := Lib.hid hgrow
           clear hown hgrow hat3))
      refine ⟨⟨j + 1, some ⟨gg, 0, none⟩, m + 1, cap, by omega, .inl (by omega), by go_num, rfl, Lib.hid (by have := HM.out; omega), Lib.hid ?_, Lib.hid ?_⟩, by simp [intOf]; omega⟩
      · rw [kidsP_snoc _ _ _ hj0, row3_append]; exact HOwn.out
      · exact ((HB.out.trans (HB2.out.mono hwz)).alloc (by omega) _).grown HGrow.out (by simp; omega) (fun q hq => (HO.out.lt q hq).1)
    · go_wp2_with fail
      go_ret
      have hm := HM.out
      have e : Pl.kidsP first n g = Pl.kidsP first j g := by
        rcases hj1 with h | h
        · rw [show n = j from by omega]
        · rw [kidsP_none first n g (by omega), kidsP_none first j g (by omega)]
      have hl : (Pl.kidsP first j g).length = m := by rw [kidsP_len, hm]
      unfold PartsP Parts
      rw [e, hl]
      exact ⟨a, c, rfl, HO.out, HB.out⟩
end Go.Proofs.YtiaajpdcacdngaaGreatDoor

namespace Go.Proofs.YtiaajpdcacdngaaGreatDoor
open Go.RowKit
set_option linter.unusedVariables false
set_option linter.unusedSimpArgs false

theorem app3 (a : List Value) (b : List Value) (c : List Value) : a ++ b ++ c = a ++ (b ++ c) := List.append_assoc ..
def openP : Pl.Part := Pl.pown ⟨#[]⟩ ⟨#[40]⟩
set_option maxRecDepth 100000 in
set_option maxHeartbeats 1600000 in
theorem list_any (first n : Nat) (b o : Nat) (k : Int) (s : ByteArray) (ka : Option Addr) (kc : Nat) (w : World) (hn : n ≤ 100000) (hf : first ≤ 1) (hN : Nd w b o k s (.slice ka n kc)) :
    Calls Tryz.prog 99 #[.pointer (some ⟨b, o, none⟩), .int .i64 (first : Nat)] w (PartsP (Pl.listP first n) w) := by
  obtain ⟨i0, hi0, hz0, hz1, hz2⟩ := info_parts infoP
  have HNd := Lib.hid hN
  have hlt0 := hN.lt
  clear hN
  go_enter Tryz.func99, Tryz.ntmps99
  go_wp2_with ((go_at_call 97; refine (pown_is _ _ _).mono ?_; rintro e w1 ⟨rfl, hb1⟩; have HB1 := Lib.hid hb1; have hs1 := hb1.size; clear hb1))
  have HL0 := Lib.hid (parts_lit w1 [openP] #[.string ⟨#[]⟩, .string ⟨#[40]⟩, .int .i64 (-1)] 1 rfl rfl w.heap.size hs1 (by decide))
  go_loopw [5, 6] (fun l i wr => ∃ (j : Nat) (a : Option Addr) (m c : Nat), first ≤ j ∧ (j ≤ n ∨ j = first) ∧ i = .int .i64 j ∧ l = .slice a m c ∧ Hid (m = (Pl.commasP first j).length + 1) ∧ Hid (wr.ownsRow w.heap.size 89 3 (.slice a m c) m (row3 ([openP] ++ Pl.commasP first j))) ∧ Hid (Below w.heap.size w wr)) (fun _ i _ => n - (intOf i).toNat)
  case atStart => exact ⟨first, _, 1, _, Nat.le_refl _, .inr rfl, rfl, rfl, Lib.hid (by rw [commasP_none _ _ (Nat.le_refl _)]; rfl), Lib.hid (by rw [commasP_none _ _ (Nat.le_refl _)]; exact HL0.out), Lib.hid (HB1.out.alloc hs1 _)⟩
  case round =>
    obtain ⟨j, a, m, c, hj0, hj1, rfl, rfl, HM, HO, HB⟩ := hrel
    have x3 := (HNd.out.later HB.out).c3
    have hwz := HB.out.size
    have hmb : m ≤ 300000 := by
      have := HM.out
      have := commasP_le first j
      omega
    by_cases hlt : j < n
    · by_cases hfj : first < j
      · have d1 : decide ((first : Int) < j) = true := decide_eq_true (by omega)
        have d2 : decide (first < j) = true := decide_eq_true hfj
        go_wp2_with (first
          | (go_at_call 97; refine (pown_is _ _ _).mono ?_; rintro e w2 ⟨rfl, hb2⟩; have HB2 := Lib.hid hb2; have hs2 := hb2.size; clear hb2)
          | (go_at_call 98; refine (kid_is _ _ _).mono ?_; rintro e w4 ⟨rfl, hb4⟩; have HB4 := Lib.hid hb4; have hs4 := hb4.size; clear hb4)
          | (at_builtin; have g4 := HB4; clear g4; refine wpList_append_lies _ rfl _ _ 86 rfl w.heap.size 89 i0 _ 3 40 Tryz.underlying86 hi0 hz0 hz1 hz2 rfl (by decide) _ _ _ rfl ((owns_later HOwn.out HB4.out).alloc _)
              ⟨w4.heap.size, 0, none⟩ 1 1 [.string ⟨#[32]⟩, .string ⟨#[]⟩, .int .i64 j] rfl rfl (news_part _ _ _ _) (one_part _ _ _) (by decide) (by unfold maxLen; omega) (by omega) (by simp; omega) (w4.heap.size + 1) (by simp) ?_
             intro gg5 cap5 w5 hown5 hgrow5 hat5 hlt5
             have HOwn5 := Lib.hid hown5
             have HGrow5 := Lib.hid hgrow5
             clear hown5 hgrow5 hat5)
          | (at_builtin; refine wpList_append_lies _ rfl _ _ 86 rfl w.heap.size 89 i0 _ 3 40 Tryz.underlying86 hi0 hz0 hz1 hz2 rfl (by decide) (.slice a m c) m _ rfl ((owns_later HO.out HB2.out).alloc _)
              ⟨w2.heap.size, 0, none⟩ 1 1 [.string ⟨#[]⟩, .string ⟨#[44]⟩, .int .i64 (-1)] rfl rfl (news_part _ _ _ _) (one_part _ _ _) (by decide) (by unfold maxLen; omega) (by omega) (by simp; omega) (w2.heap.size + 1) (by simp) ?_
             intro gg cap w3 hown hgrow hat3 hlt3
             have HOwn := Lib.hid hown
             have HGrow := Lib.hid hgrow
             have hs3 := hgrow.size
             simp at hs3
             clear hown hgrow hat3))
        refine ⟨⟨j + 1, some ⟨gg5, 0, none⟩, m + 1 + 1, cap5, by omega, .inl (by omega), by go_num, rfl, Lib.hid ?_, Lib.hid ?_, Lib.hid ?_⟩, by simp [intOf]; omega⟩
        · have := HM.out
          rw [commasP_snoc _ _ hj0, if_pos hfj, List.length_append]; simp only [List.length_cons, List.length_nil]; omega
        · rw [commasP_snoc _ _ hj0, if_pos hfj, ← List.append_assoc, row3_append]
          have := HOwn5.out
          rw [app3] at this
          exact this
        · refine (((((HB.out.trans (HB2.out.mono hwz)).alloc (by omega) _).grown HGrow.out (by simp; omega) (fun q hq => (HO.out.lt q hq).1)).trans (HB4.out.mono (by omega))).alloc (by omega) _).grown HGrow5.out (by simp; omega) (fun q hq => (HOwn.out.lt q hq).1)
      · have d1 : decide ((first : Int) < j) = false := decide_eq_false (by omega)
        have d2 : decide (first < j) = false := decide_eq_false hfj
        go_wp2_with (first
          | (go_at_call 98; refine (kid_is _ _ _).mono ?_; rintro e w2 ⟨rfl, hb2⟩; have HB2 := Lib.hid hb2; have hs2 := hb2.size; clear hb2)
          | (at_builtin; refine wpList_append_lies _ rfl _ _ 86 rfl w.heap.size 89 i0 _ 3 40 Tryz.underlying86 hi0 hz0 hz1 hz2 rfl (by decide) (.slice a m c) m _ rfl ((owns_later HO.out HB2.out).alloc _)
              ⟨w2.heap.size, 0, none⟩ 1 1 [.string ⟨#[]⟩, .string ⟨#[]⟩, .int .i64 j] rfl rfl (news_part _ _ _ _) (one_part _ _ _) (by decide) (by unfold maxLen; omega) (by omega) (by simp; omega) (w2.heap.size + 1) (by simp) ?_
             intro gg cap w3 hown hgrow hat3 hlt3
             have HOwn := Lib.hid hown
             have HGrow := Lib.hid hgrow
             clear hown hgrow hat3))
        refine ⟨⟨j + 1, some ⟨gg, 0, none⟩, m + 1, cap, by omega, .inl (by omega), by go_num, rfl, Lib.hid ?_, Lib.hid ?_, Lib.hid ?_⟩, by simp [intOf]; omega⟩
        · have := HM.out
          rw [commasP_snoc _ _ hj0, if_neg hfj, List.length_append]; simp only [List.length_cons, List.length_nil]; omega
        · rw [commasP_snoc _ _ hj0, if_neg hfj, ← List.append_assoc, row3_append]; exact HOwn.out
        · exact ((HB.out.trans (HB2.out.mono hwz)).alloc (by omega) _).grown HGrow.out (by simp; omega) (fun q hq => (HO.out.lt q hq).1)
    · go_wp2_with (first
        | (go_at_call 97; refine (pown_is _ _ _).mono ?_; rintro e w2 ⟨rfl, hb2⟩; have HB2 := Lib.hid hb2; have hs2 := hb2.size; clear hb2)
        | (at_builtin; refine wpList_append_lies _ rfl _ _ 86 rfl w.heap.size 89 i0 _ 3 40 Tryz.underlying86 hi0 hz0 hz1 hz2 rfl (by decide) (.slice a m c) m _ rfl ((owns_later HO.out HB2.out).alloc _)
            ⟨w2.heap.size, 0, none⟩ 1 1 [.string ⟨#[]⟩, .string ⟨#[41]⟩, .int .i64 (-1)] rfl rfl (news_part _ _ _ _) (one_part _ _ _) (by decide) (by unfold maxLen; omega) (by omega) (by simp; omega) (w2.heap.size + 1) (by simp) ?_
           intro gg cap w3 hown hgrow hat3 hlt3
           have HOwn := Lib.hid hown
           have HGrow := Lib.hid hgrow
           clear hown hgrow hat3))
      go_ret
      have e : Pl.commasP first n = Pl.commasP first j := by
        rcases hj1 with h | h
        · rw [show n = j from by omega]
        · rw [commasP_none first n (by omega), commasP_none first j (by omega)]
      have hl : (Pl.listP first n).length = m + 1 := by
        unfold Pl.listP
        rw [e, List.length_cons, List.length_append, List.length_singleton, ← HM.out]
      have hrow : row3 (Pl.listP first n) = row3 ([openP] ++ Pl.commasP first j) ++ [.string ⟨#[]⟩, .string ⟨#[41]⟩, .int .i64 (-1)] := by
        unfold Pl.listP
        rw [e, show (Pl.pown ⟨#[]⟩ ⟨#[40]⟩ :: (Pl.commasP first j ++ [Pl.pown ⟨#[]⟩ ⟨#[41]⟩])) = ([openP] ++ Pl.commasP first j) ++ [Pl.pown ⟨#[]⟩ ⟨#[41]⟩] from rfl, row3_append]; rfl
      unfold PartsP Parts
      rw [hl, hrow]
      exact ⟨_, _, rfl, HOwn.out, ((HB.out.trans (HB2.out.mono hwz)).alloc (by omega) _).grown HGrow.out (by simp; omega) (fun q hq => (HO.out.lt q hq).1)⟩
end Go.Proofs.YtiaajpdcacdngaaGreatDoor
