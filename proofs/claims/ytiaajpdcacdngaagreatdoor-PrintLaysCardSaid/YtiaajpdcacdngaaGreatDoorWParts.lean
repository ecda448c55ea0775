/- The walk of parts, kind by kind. -/
import Derived.Test.YtiaajpdcacdngaaGreatDoorWStmt
import Derived.Deep.RegionHeld3
namespace Go.Proofs.YtiaajpdcacdngaaGreatDoor
open Go.RowKit
set_option linter.unusedVariables false
set_option linter.unusedSimpArgs false

set_option maxRecDepth 100000 in
set_option maxHeartbeats 800000 in
theorem parts_2 (n L : Nat) (b o : Nat) (s : ByteArray) (ka : Option Addr) (kc : Nat) (w : World) (hN : Nd w b o 2 s (.slice ka n kc)) :
    Calls Tryz.prog 71 #[.pointer (some ⟨b, o, none⟩), .int .i64 (L : Nat)] w (PartsP (Pl.parts 2 s n L) w) := by
  have x0 := hN.c0
  have x1 := hN.c1
  have hblt := hN.lt
  go_enter Tryz.func71, Tryz.ntmps71
  go_wp2_with fail
  have d1 : w.drew.cell? ⟨b, o + 1, none⟩ = some (.string s) := x1
  go_region_held3 (fun w' => w'.cell? ⟨b, o + 1, none⟩ = some (.string s))
    (first | with_reducible exact d1 | with_reducible exact e1 | with_reducible exact e2 | with_reducible exact e3 | with_reducible exact e4 | with_reducible exact e5 | go_keep)
    ((first
      | (go_at_call 98; have g := HB4; clear g; refine (kid_is _ _ _).mono ?_; rintro e w5 ⟨rfl, hb5⟩; have e5 := (hb5.cell (p := ⟨b, o + 1, none⟩) (by show b < _; omega)).trans e4; have HB5 : Hid (Below w.heap.size w w5) := Lib.hid (HB4.out.trans (hb5.mono HB4.out.size)); have hs5 := HB5.out.size; clear hb5)
      | (go_at_call 98; have g := HB3; clear g; refine (kid_is _ _ _).mono ?_; rintro e w4 ⟨rfl, hb4⟩; have e4 := (hb4.cell (p := ⟨b, o + 1, none⟩) (by show b < _; omega)).trans e3; have HB4 : Hid (Below w.heap.size w w4) := Lib.hid (HB3.out.trans (hb4.mono HB3.out.size)); have hs4 := HB4.out.size; clear hb4)
      | (go_at_call 98; have g := HB2; clear g; refine (kid_is _ _ _).mono ?_; rintro e w3 ⟨rfl, hb3⟩; have e3 := (hb3.cell (p := ⟨b, o + 1, none⟩) (by show b < _; omega)).trans e2; have HB3 : Hid (Below w.heap.size w w3) := Lib.hid (HB2.out.trans (hb3.mono HB2.out.size)); have hs3 := HB3.out.size; clear hb3)
      | (go_at_call 97; have g := HB1; clear g; refine (pown_is _ _ _).mono ?_; rintro e w2 ⟨rfl, hb2⟩; have e2 := (hb2.cell (p := ⟨b, o + 1, none⟩) (by show b < _; omega)).trans e1; have HB2 : Hid (Below w.heap.size w w2) := Lib.hid (HB1.out.trans (hb2.mono HB1.out.size)); have hs2 := HB2.out.size; clear hb2)
      | (go_at_call 97; refine (pown_is _ _ _).mono ?_; rintro e w1 ⟨rfl, hb1⟩; have e1 := (hb1.cell (p := ⟨b, o + 1, none⟩) hblt).trans d1; have HB1 : Hid (Below w.heap.size w w1) := Lib.hid ((Below.refl w.heap.size w).drew.trans hb1); have hs1 := HB1.out.size; clear hb1)))
  all_goals go_wp2_with fail
  all_goals go_ret
  all_goals exact ⟨_, _, rfl, parts_lit w5 (Pl.parts 2 s n L) _ _ rfl rfl w.heap.size HB5.out.size (by show 5 ≤ 100; decide), HB5.out.alloc HB5.out.size _⟩
set_option maxRecDepth 100000 in
set_option maxHeartbeats 800000 in
theorem parts_3 (n L : Nat) (b o : Nat) (s : ByteArray) (ka : Option Addr) (kc : Nat) (w : World) (hn : n ≤ 100000) (hN : Nd w b o 3 s (.slice ka n kc)) :
    Calls Tryz.prog 71 #[.pointer (some ⟨b, o, none⟩), .int .i64 (L : Nat)] w (PartsP (Pl.parts 3 s n L) w) := by
  have x0 := hN.c0
  have x1 := hN.c1
  have x3 := hN.c3
  have HC := Lib.hid (list_0 n b o 3 s ka kc w hn hN)
  go_enter Tryz.func71, Tryz.ntmps71
  go_wp2_with (go_at_call 99; refine HC.out.mono ?_; rintro e w1 ⟨a1, c1, rfl, ho1, hb1⟩)
  go_ret
  exact ⟨a1, c1, rfl, ho1, hb1⟩
set_option maxRecDepth 100000 in
set_option maxHeartbeats 800000 in
theorem parts_4 (n L : Nat) (b o : Nat) (s : ByteArray) (ka : Option Addr) (kc : Nat) (w : World) (hN : Nd w b o 4 s (.slice ka n kc)) :
    Calls Tryz.prog 71 #[.pointer (some ⟨b, o, none⟩), .int .i64 (L : Nat)] w (PartsP (Pl.parts 4 s n L) w) := by
  have x0 := hN.c0
  have x1 := hN.c1
  have hblt := hN.lt
  go_enter Tryz.func71, Tryz.ntmps71
  go_wp2_with (first
    | (go_at_call 98; have g := HB1; clear g; refine (kid_is _ _ _).mono ?_; rintro e w2 ⟨rfl, hb2⟩; have HB2 : Hid (Below w.heap.size w w2) := Lib.hid (HB1.out.trans (hb2.mono HB1.out.size)); have hs2 := HB2.out.size; clear hb2)
    | (go_at_call 97; refine (pown_is _ _ _).mono ?_; rintro e w1 ⟨rfl, hb1⟩; have HB1 : Hid (Below w.heap.size w w1) := Lib.hid (hb1); have hs1 := HB1.out.size; clear hb1))
  go_ret
  exact ⟨_, _, rfl, parts_lit w2 (Pl.parts 4 s n L) _ _ rfl rfl w.heap.size HB2.out.size (by show 2 ≤ 100; decide), HB2.out.alloc HB2.out.size _⟩
set_option maxRecDepth 100000 in
set_option maxHeartbeats 800000 in
theorem parts_6 (n L : Nat) (b o : Nat) (s : ByteArray) (ka : Option Addr) (kc : Nat) (w : World) (hn : n ≤ 100000) (hL : L ≤ 1000) (hN : Nd w b o 6 s (.slice ka n kc)) :
    Calls Tryz.prog 71 #[.pointer (some ⟨b, o, none⟩), .int .i64 (L : Nat)] w (PartsP (Pl.parts 6 s n L) w) := by
  obtain ⟨i0, hi0, hz0, hz1, hz2⟩ := info_parts infoP
  have HNd := Lib.hid hN
  have x0 := hN.c0
  have x1 := hN.c1
  have x3 := hN.c3
  have hblt := hN.lt
  obtain ⟨m, hm⟩ : ∃ m, m = (Pl.bodyP 0 n L).length := ⟨_, rfl⟩
  have hpos : 0 < m := by rw [hm]; exact bodyP_pos _ _ _
  have hmb : m ≤ 300000 := by rw [hm]; exact Nat.le_trans (bodyP_le _ _ _) (by omega)
  have hlm : (row3 (Pl.bodyP 0 n L)).length = m * 3 := by rw [row3_len, hm]
  have HLM := Lib.hid hlm
  have HC := Lib.hid (fun w1 (hb : Below w.heap.size w w1) => PartsP.row (m := m) (body_0 n L b o 6 s ka kc w1 hn hL (HNd.out.later hb)) hm)
  have hlen : (Pl.parts 6 s n L).length = 1 + m := by (show ([Pl.pown ⟨#[]⟩ ⟨#[123]⟩] ++ Pl.bodyP 0 n L).length = _); rw [List.length_append, ← hm]; rfl
  have hrow : row3 (Pl.parts 6 s n L) = row3 [Pl.pown ⟨#[]⟩ ⟨#[123]⟩] ++ row3 (Pl.bodyP 0 n L) := by (show row3 ([Pl.pown ⟨#[]⟩ ⟨#[123]⟩] ++ Pl.bodyP 0 n L) = _); rw [row3_append]
  unfold PartsP Parts
  rw [hlen, hrow]
  clear hlen hrow hm hlm hN
  go_enter Tryz.func71, Tryz.ntmps71
  go_wp2_with (first
    | (at_builtin; refine wpList_append_lies _ rfl _ _ 86 rfl w.heap.size 89 i0 _ 3 40 Tryz.underlying86 hi0 hz0 hz1 hz2 rfl (by decide) (.slice (some ⟨w1.heap.size, 0, none⟩) 1 1) 1 _ rfl HL9.out
         ⟨g9, 0, none⟩ m c9 (row3 (Pl.bodyP 0 n L)) rfl HLM.out HC9.out (row3_one _) hpos (by unfold maxLen; omega) (by omega) (by omega) w9.heap.size rfl ?_
       intro gg cap w10 hown hgrow hat3 hlt3
       have HOwn := Lib.hid hown
       have HGrow := Lib.hid hgrow
       clear hown hgrow hat3)
    | (go_at_call 100; have HL : Hid (Parts w.heap.size (w1.alloc (.cells #[.string ⟨#[]⟩, .string ⟨#[123]⟩, .int .i64 (-1)] 89)) (.slice (some ⟨w1.heap.size, 0, none⟩) 1 1) [Pl.pown ⟨#[]⟩ ⟨#[123]⟩]) := Lib.hid (parts_lit w1 [Pl.pown ⟨#[]⟩ ⟨#[123]⟩] #[.string ⟨#[]⟩, .string ⟨#[123]⟩, .int .i64 (-1)] 1 rfl rfl w.heap.size hs1 (by decide)); refine (HC.out _ (HB1.out.alloc hs1 _)).mono ?_; rintro e w9 ⟨a9, c9, rfl, ho9, hb9⟩; obtain ⟨g9, rfl, hB9, hl9, hc9⟩ := owns_addr ho9 hpos; have HC9 := Lib.hid hc9; have HL9 := Lib.hid (owns_later HL.out hb9); have hs9 := hb9.size; simp at hs9; have HBW := Lib.hid ((HB1.out.alloc hs1 _).trans (hb9.mono (by simp; omega))); clear ho9 hb9 hc9)
    | (go_at_call 97; refine (pown_is _ _ _).mono ?_; rintro e w1 ⟨rfl, hb1⟩; have HB1 : Hid (Below w.heap.size w w1) := Lib.hid (hb1); have hs1 := HB1.out.size; clear hb1))
  go_ret
  exact ⟨_, _, rfl, HOwn.out, HBW.out.grown HGrow.out (by omega) (fun q hq => (HL9.out.lt q hq).1)⟩
set_option maxRecDepth 100000 in
set_option maxHeartbeats 800000 in
theorem parts_9 (n L : Nat) (b o : Nat) (s : ByteArray) (ka : Option Addr) (kc : Nat) (w : World) (hn : n ≤ 100000) (hN : Nd w b o 9 s (.slice ka n kc)) :
    Calls Tryz.prog 71 #[.pointer (some ⟨b, o, none⟩), .int .i64 (L : Nat)] w (PartsP (Pl.parts 9 s n L) w) := by
  obtain ⟨i0, hi0, hz0, hz1, hz2⟩ := info_parts infoP
  have HNd := Lib.hid hN
  have x0 := hN.c0
  have x1 := hN.c1
  have x3 := hN.c3
  have hblt := hN.lt
  obtain ⟨m, hm⟩ : ∃ m, m = (Pl.assignP s).length := ⟨_, rfl⟩
  have hpos : 0 < m := by rw [hm]; exact (by show 0 < 4; decide)
  have hmb : m ≤ 300000 := by rw [hm]; exact (by show 4 ≤ 300000; decide)
  have hlm : (row3 (Pl.assignP s)).length = m * 3 := by rw [row3_len, hm]
  have HLM := Lib.hid hlm
  have HC := Lib.hid (fun w1 (hb : Below w.heap.size w w1) => PartsP.row (m := m) (assign_any b o 9 s (.slice ka n kc) w1 (HNd.out.later hb)) hm)
  have hlen : (Pl.parts 9 s n L).length = 1 + m := by (show ([Pl.pown ⟨#[]⟩ ⟨#[99, 111, 110, 115, 116]⟩] ++ Pl.assignP s).length = _); rw [List.length_append, ← hm]; rfl
  have hrow : row3 (Pl.parts 9 s n L) = row3 [Pl.pown ⟨#[]⟩ ⟨#[99, 111, 110, 115, 116]⟩] ++ row3 (Pl.assignP s) := by (show row3 ([Pl.pown ⟨#[]⟩ ⟨#[99, 111, 110, 115, 116]⟩] ++ Pl.assignP s) = _); rw [row3_append]
  unfold PartsP Parts
  rw [hlen, hrow]
  clear hlen hrow hm hlm hN
  go_enter Tryz.func71, Tryz.ntmps71
  go_wp2_with (first
    | (at_builtin; refine wpList_append_lies _ rfl _ _ 86 rfl w.heap.size 89 i0 _ 3 40 Tryz.underlying86 hi0 hz0 hz1 hz2 rfl (by decide) (.slice (some ⟨w1.heap.size, 0, none⟩) 1 1) 1 _ rfl HL9.out
         ⟨g9, 0, none⟩ m c9 (row3 (Pl.assignP s)) rfl HLM.out HC9.out (row3_one _) hpos (by unfold maxLen; omega) (by omega) (by omega) w9.heap.size rfl ?_
       intro gg cap w10 hown hgrow hat3 hlt3
       have HOwn := Lib.hid hown
       have HGrow := Lib.hid hgrow
       clear hown hgrow hat3)
    | (go_at_call 101; have HL : Hid (Parts w.heap.size (w1.alloc (.cells #[.string ⟨#[]⟩, .string ⟨#[99, 111, 110, 115, 116]⟩, .int .i64 (-1)] 89)) (.slice (some ⟨w1.heap.size, 0, none⟩) 1 1) [Pl.pown ⟨#[]⟩ ⟨#[99, 111, 110, 115, 116]⟩]) := Lib.hid (parts_lit w1 [Pl.pown ⟨#[]⟩ ⟨#[99, 111, 110, 115, 116]⟩] #[.string ⟨#[]⟩, .string ⟨#[99, 111, 110, 115, 116]⟩, .int .i64 (-1)] 1 rfl rfl w.heap.size hs1 (by decide)); refine (HC.out _ (HB1.out.alloc hs1 _)).mono ?_; rintro e w9 ⟨a9, c9, rfl, ho9, hb9⟩; obtain ⟨g9, rfl, hB9, hl9, hc9⟩ := owns_addr ho9 hpos; have HC9 := Lib.hid hc9; have HL9 := Lib.hid (owns_later HL.out hb9); have hs9 := hb9.size; simp at hs9; have HBW := Lib.hid ((HB1.out.alloc hs1 _).trans (hb9.mono (by simp; omega))); clear ho9 hb9 hc9)
    | (go_at_call 97; refine (pown_is _ _ _).mono ?_; rintro e w1 ⟨rfl, hb1⟩; have HB1 : Hid (Below w.heap.size w w1) := Lib.hid (hb1); have hs1 := HB1.out.size; clear hb1))
  go_ret
  exact ⟨_, _, rfl, HOwn.out, HBW.out.grown HGrow.out (by omega) (fun q hq => (HL9.out.lt q hq).1)⟩
set_option maxRecDepth 100000 in
set_option maxHeartbeats 800000 in
theorem parts_5 (n L : Nat) (b o : Nat) (s : ByteArray) (ka : Option Addr) (kc : Nat) (w : World) (hN : Nd w b o 5 s (.slice ka n kc)) :
    Calls Tryz.prog 71 #[.pointer (some ⟨b, o, none⟩), .int .i64 (L : Nat)] w (PartsP (Pl.parts 5 s n L) w) := by
  have x0 := hN.c0
  have x1 := hN.c1
  have x3 := hN.c3
  have HC := Lib.hid (stmt_5 n b o s ka kc w hN)
  go_enter Tryz.func71, Tryz.ntmps71
  go_wp2_with (go_at_call 102; refine HC.out.mono ?_; rintro e w1 ⟨a1, c1, rfl, ho1, hb1⟩)
  go_ret
  exact ⟨a1, c1, rfl, ho1, hb1⟩
set_option maxRecDepth 100000 in
set_option maxHeartbeats 800000 in
theorem parts_10 (n L : Nat) (b o : Nat) (s : ByteArray) (ka : Option Addr) (kc : Nat) (w : World) (hn : n ≤ 100000) (hN : Nd w b o 10 s (.slice ka n kc)) :
    Calls Tryz.prog 71 #[.pointer (some ⟨b, o, none⟩), .int .i64 (L : Nat)] w (PartsP (Pl.parts 10 s n L) w) := by
  have x0 := hN.c0
  have x1 := hN.c1
  have x3 := hN.c3
  have HC := Lib.hid (stmt_10 n b o s ka kc w hn hN)
  go_enter Tryz.func71, Tryz.ntmps71
  go_wp2_with (go_at_call 102; refine HC.out.mono ?_; rintro e w1 ⟨a1, c1, rfl, ho1, hb1⟩)
  go_ret
  exact ⟨a1, c1, rfl, ho1, hb1⟩
set_option maxRecDepth 100000 in
set_option maxHeartbeats 800000 in
theorem parts_11 (n L : Nat) (b o : Nat) (s : ByteArray) (ka : Option Addr) (kc : Nat) (w : World) (hN : Nd w b o 11 s (.slice ka n kc)) :
    Calls Tryz.prog 71 #[.pointer (some ⟨b, o, none⟩), .int .i64 (L : Nat)] w (PartsP (Pl.parts 11 s n L) w) := by
  have x0 := hN.c0
  have x1 := hN.c1
  have x3 := hN.c3
  have HC := Lib.hid (stmt_11 n b o s ka kc w hN)
  go_enter Tryz.func71, Tryz.ntmps71
  go_wp2_with (go_at_call 102; refine HC.out.mono ?_; rintro e w1 ⟨a1, c1, rfl, ho1, hb1⟩)
  go_ret
  exact ⟨a1, c1, rfl, ho1, hb1⟩
set_option maxRecDepth 100000 in
set_option maxHeartbeats 800000 in
theorem parts_12 (n L : Nat) (b o : Nat) (s : ByteArray) (ka : Option Addr) (kc : Nat) (w : World) (hN : Nd w b o 12 s (.slice ka n kc)) :
    Calls Tryz.prog 71 #[.pointer (some ⟨b, o, none⟩), .int .i64 (L : Nat)] w (PartsP (Pl.parts 12 s n L) w) := by
  have x0 := hN.c0
  have x1 := hN.c1
  have x3 := hN.c3
  have HC := Lib.hid (stmt_12 n b o s ka kc w hN)
  go_enter Tryz.func71, Tryz.ntmps71
  go_wp2_with (go_at_call 102; refine HC.out.mono ?_; rintro e w1 ⟨a1, c1, rfl, ho1, hb1⟩)
  go_ret
  exact ⟨a1, c1, rfl, ho1, hb1⟩
set_option maxRecDepth 100000 in
set_option maxHeartbeats 800000 in
theorem parts_13 (n L : Nat) (b o : Nat) (s : ByteArray) (ka : Option Addr) (kc : Nat) (w : World) (hn : n ≤ 100000) (hp : 0 < n) (hN : Nd w b o 13 s (.slice ka n kc)) :
    Calls Tryz.prog 71 #[.pointer (some ⟨b, o, none⟩), .int .i64 (L : Nat)] w (PartsP (Pl.parts 13 s n L) w) := by
  have x0 := hN.c0
  have x1 := hN.c1
  have x3 := hN.c3
  have HC := Lib.hid (stmt_13 n b o s ka kc w hn hp hN)
  go_enter Tryz.func71, Tryz.ntmps71
  go_wp2_with (go_at_call 102; refine HC.out.mono ?_; rintro e w1 ⟨a1, c1, rfl, ho1, hb1⟩)
  go_ret
  exact ⟨a1, c1, rfl, ho1, hb1⟩
set_option maxRecDepth 100000 in
set_option maxHeartbeats 800000 in
theorem parts_14 (n L : Nat) (b o : Nat) (s : ByteArray) (ka : Option Addr) (kc : Nat) (w : World) (hn : n ≤ 100000) (hp : 0 < n) (hN : Nd w b o 14 s (.slice ka n kc)) :
    Calls Tryz.prog 71 #[.pointer (some ⟨b, o, none⟩), .int .i64 (L : Nat)] w (PartsP (Pl.parts 14 s n L) w) := by
  have x0 := hN.c0
  have x1 := hN.c1
  have x3 := hN.c3
  have HC := Lib.hid (stmt_14 n b o s ka kc w hn hp hN)
  go_enter Tryz.func71, Tryz.ntmps71
  go_wp2_with (go_at_call 102; refine HC.out.mono ?_; rintro e w1 ⟨a1, c1, rfl, ho1, hb1⟩)
  go_ret
  exact ⟨a1, c1, rfl, ho1, hb1⟩
set_option maxRecDepth 100000 in
set_option maxHeartbeats 800000 in
theorem parts_15 (n L : Nat) (b o : Nat) (s : ByteArray) (ka : Option Addr) (kc : Nat) (w : World) (hn : n ≤ 100000) (hp : 0 < n) (hN : Nd w b o 15 s (.slice ka n kc)) :
    Calls Tryz.prog 71 #[.pointer (some ⟨b, o, none⟩), .int .i64 (L : Nat)] w (PartsP (Pl.parts 15 s n L) w) := by
  have x0 := hN.c0
  have x1 := hN.c1
  have x3 := hN.c3
  have HC := Lib.hid (stmt_15 n b o s ka kc w hn hp hN)
  go_enter Tryz.func71, Tryz.ntmps71
  go_wp2_with (go_at_call 102; refine HC.out.mono ?_; rintro e w1 ⟨a1, c1, rfl, ho1, hb1⟩)
  go_ret
  exact ⟨a1, c1, rfl, ho1, hb1⟩
set_option maxRecDepth 100000 in
set_option maxHeartbeats 800000 in
theorem parts_16 (n L : Nat) (b o : Nat) (s : ByteArray) (ka : Option Addr) (kc : Nat) (w : World) (hN : Nd w b o 16 s (.slice ka n kc)) :
    Calls Tryz.prog 71 #[.pointer (some ⟨b, o, none⟩), .int .i64 (L : Nat)] w (PartsP (Pl.parts 16 s n L) w) := by
  have x0 := hN.c0
  have x1 := hN.c1
  have x3 := hN.c3
  have HC := Lib.hid (stmt_16 n b o s ka kc w hN)
  go_enter Tryz.func71, Tryz.ntmps71
  go_wp2_with (go_at_call 102; refine HC.out.mono ?_; rintro e w1 ⟨a1, c1, rfl, ho1, hb1⟩)
  go_ret
  exact ⟨a1, c1, rfl, ho1, hb1⟩
set_option maxRecDepth 100000 in
set_option maxHeartbeats 800000 in
theorem parts_17 (n L : Nat) (b o : Nat) (s : ByteArray) (ka : Option Addr) (kc : Nat) (w : World) (hN : Nd w b o 17 s (.slice ka n kc)) :
    Calls Tryz.prog 71 #[.pointer (some ⟨b, o, none⟩), .int .i64 (L : Nat)] w (PartsP (Pl.parts 17 s n L) w) := by
  have x0 := hN.c0
  have x1 := hN.c1
  have x3 := hN.c3
  have HC := Lib.hid (stmt_17 n b o s ka kc w hN)
  go_enter Tryz.func71, Tryz.ntmps71
  go_wp2_with (go_at_call 102; refine HC.out.mono ?_; rintro e w1 ⟨a1, c1, rfl, ho1, hb1⟩)
  go_ret
  exact ⟨a1, c1, rfl, ho1, hb1⟩
set_option maxRecDepth 100000 in
set_option maxHeartbeats 800000 in
theorem parts_18 (n L : Nat) (b o : Nat) (s : ByteArray) (ka : Option Addr) (kc : Nat) (w : World) (hN : Nd w b o 18 s (.slice ka n kc)) :
    Calls Tryz.prog 71 #[.pointer (some ⟨b, o, none⟩), .int .i64 (L : Nat)] w (PartsP (Pl.parts 18 s n L) w) := by
  have x0 := hN.c0
  have x1 := hN.c1
  have x3 := hN.c3
  have HC := Lib.hid (stmt_18 n b o s ka kc w hN)
  go_enter Tryz.func71, Tryz.ntmps71
  go_wp2_with (go_at_call 102; refine HC.out.mono ?_; rintro e w1 ⟨a1, c1, rfl, ho1, hb1⟩)
  go_ret
  exact ⟨a1, c1, rfl, ho1, hb1⟩
set_option maxRecDepth 100000 in
set_option maxHeartbeats 800000 in
theorem parts_19 (n L : Nat) (b o : Nat) (s : ByteArray) (ka : Option Addr) (kc : Nat) (w : World) (hN : Nd w b o 19 s (.slice ka n kc)) :
    Calls Tryz.prog 71 #[.pointer (some ⟨b, o, none⟩), .int .i64 (L : Nat)] w (PartsP (Pl.parts 19 s n L) w) := by
  have x0 := hN.c0
  have x1 := hN.c1
  have x3 := hN.c3
  have HC := Lib.hid (stmt_19 n b o s ka kc w hN)
  go_enter Tryz.func71, Tryz.ntmps71
  go_wp2_with (go_at_call 102; refine HC.out.mono ?_; rintro e w1 ⟨a1, c1, rfl, ho1, hb1⟩)
  go_ret
  exact ⟨a1, c1, rfl, ho1, hb1⟩
set_option maxRecDepth 100000 in
set_option maxHeartbeats 800000 in
theorem parts_20 (n L : Nat) (b o : Nat) (s : ByteArray) (ka : Option Addr) (kc : Nat) (w : World) (hn : n ≤ 100000) (hN : Nd w b o 20 s (.slice ka n kc)) :
    Calls Tryz.prog 71 #[.pointer (some ⟨b, o, none⟩), .int .i64 (L : Nat)] w (PartsP (Pl.parts 20 s n L) w) := by
  have x0 := hN.c0
  have x1 := hN.c1
  have x3 := hN.c3
  have HC := Lib.hid (stmt_20 n b o s ka kc w hn hN)
  go_enter Tryz.func71, Tryz.ntmps71
  go_wp2_with (go_at_call 102; refine HC.out.mono ?_; rintro e w1 ⟨a1, c1, rfl, ho1, hb1⟩)
  go_ret
  exact ⟨a1, c1, rfl, ho1, hb1⟩
set_option maxRecDepth 100000 in
set_option maxHeartbeats 800000 in
theorem parts_21 (n L : Nat) (b o : Nat) (s : ByteArray) (ka : Option Addr) (kc : Nat) (w : World) (hn : n ≤ 100000) (hN : Nd w b o 21 s (.slice ka n kc)) :
    Calls Tryz.prog 71 #[.pointer (some ⟨b, o, none⟩), .int .i64 (L : Nat)] w (PartsP (Pl.parts 21 s n L) w) := by
  have x0 := hN.c0
  have x1 := hN.c1
  have x3 := hN.c3
  have HC := Lib.hid (stmt_21 n b o s ka kc w hn hN)
  go_enter Tryz.func71, Tryz.ntmps71
  go_wp2_with (go_at_call 102; refine HC.out.mono ?_; rintro e w1 ⟨a1, c1, rfl, ho1, hb1⟩)
  go_ret
  exact ⟨a1, c1, rfl, ho1, hb1⟩
set_option maxRecDepth 100000 in
set_option maxHeartbeats 800000 in
theorem parts_22 (n L : Nat) (b o : Nat) (s : ByteArray) (ka : Option Addr) (kc : Nat) (w : World) (hn : n ≤ 100000) (hN : Nd w b o 22 s (.slice ka n kc)) :
    Calls Tryz.prog 71 #[.pointer (some ⟨b, o, none⟩), .int .i64 (L : Nat)] w (PartsP (Pl.parts 22 s n L) w) := by
  have x0 := hN.c0
  have x1 := hN.c1
  have x3 := hN.c3
  have HC := Lib.hid (stmt_22 n b o s ka kc w hn hN)
  go_enter Tryz.func71, Tryz.ntmps71
  go_wp2_with (go_at_call 102; refine HC.out.mono ?_; rintro e w1 ⟨a1, c1, rfl, ho1, hb1⟩)
  go_ret
  exact ⟨a1, c1, rfl, ho1, hb1⟩
set_option maxRecDepth 100000 in
set_option maxHeartbeats 800000 in
theorem parts_23 (n L : Nat) (b o : Nat) (s : ByteArray) (ka : Option Addr) (kc : Nat) (w : World) (hN : Nd w b o 23 s (.slice ka n kc)) :
    Calls Tryz.prog 71 #[.pointer (some ⟨b, o, none⟩), .int .i64 (L : Nat)] w (PartsP (Pl.parts 23 s n L) w) := by
  have x0 := hN.c0
  have x1 := hN.c1
  have x3 := hN.c3
  have HC := Lib.hid (stmt_23 n b o s ka kc w hN)
  go_enter Tryz.func71, Tryz.ntmps71
  go_wp2_with (go_at_call 102; refine HC.out.mono ?_; rintro e w1 ⟨a1, c1, rfl, ho1, hb1⟩)
  go_ret
  exact ⟨a1, c1, rfl, ho1, hb1⟩
set_option maxRecDepth 100000 in
set_option maxHeartbeats 800000 in
theorem parts_24 (n L : Nat) (b o : Nat) (s : ByteArray) (ka : Option Addr) (kc : Nat) (w : World) (hN : Nd w b o 24 s (.slice ka n kc)) :
    Calls Tryz.prog 71 #[.pointer (some ⟨b, o, none⟩), .int .i64 (L : Nat)] w (PartsP (Pl.parts 24 s n L) w) := by
  have x0 := hN.c0
  have x1 := hN.c1
  have x3 := hN.c3
  have HC := Lib.hid (stmt_24 n b o s ka kc w hN)
  go_enter Tryz.func71, Tryz.ntmps71
  go_wp2_with (go_at_call 102; refine HC.out.mono ?_; rintro e w1 ⟨a1, c1, rfl, ho1, hb1⟩)
  go_ret
  exact ⟨a1, c1, rfl, ho1, hb1⟩
set_option maxRecDepth 100000 in
set_option maxHeartbeats 800000 in
theorem parts_25 (n L : Nat) (b o : Nat) (s : ByteArray) (ka : Option Addr) (kc : Nat) (w : World) (hN : Nd w b o 25 s (.slice ka n kc)) :
    Calls Tryz.prog 71 #[.pointer (some ⟨b, o, none⟩), .int .i64 (L : Nat)] w (PartsP (Pl.parts 25 s n L) w) := by
  have x0 := hN.c0
  have x1 := hN.c1
  have x3 := hN.c3
  have HC := Lib.hid (stmt_25 n b o s ka kc w hN)
  go_enter Tryz.func71, Tryz.ntmps71
  go_wp2_with (go_at_call 102; refine HC.out.mono ?_; rintro e w1 ⟨a1, c1, rfl, ho1, hb1⟩)
  go_ret
  exact ⟨a1, c1, rfl, ho1, hb1⟩
set_option maxRecDepth 100000 in
set_option maxHeartbeats 800000 in
theorem parts_26 (n L : Nat) (b o : Nat) (s : ByteArray) (ka : Option Addr) (kc : Nat) (w : World) (hN : Nd w b o 26 s (.slice ka n kc)) :
    Calls Tryz.prog 71 #[.pointer (some ⟨b, o, none⟩), .int .i64 (L : Nat)] w (PartsP (Pl.parts 26 s n L) w) := by
  have x0 := hN.c0
  have x1 := hN.c1
  have x3 := hN.c3
  have HC := Lib.hid (stmt_26 n b o s ka kc w hN)
  go_enter Tryz.func71, Tryz.ntmps71
  go_wp2_with (go_at_call 102; refine HC.out.mono ?_; rintro e w1 ⟨a1, c1, rfl, ho1, hb1⟩)
  go_ret
  exact ⟨a1, c1, rfl, ho1, hb1⟩
set_option maxHeartbeats 800000 in
theorem parts_14_none (L b o : Nat) (s : ByteArray) (ka : Option Addr) (kc : Nat) (w : World) (hN : Nd w b o 14 s (.slice ka 0 kc)) :
    Calls Tryz.prog 71 #[.pointer (some ⟨b, o, none⟩), .int .i64 (L : Nat)] w (PartsP (Pl.parts 14 s 0 L) w) := by
  have x0 := hN.c0
  have HC := Lib.hid (stmt_14_none b o s ka kc w hN)
  go_enter Tryz.func71, Tryz.ntmps71
  go_wp2_with (go_at_call 102; refine HC.out.mono ?_; rintro e w1 ⟨a1, c1, rfl, ho1, hb1⟩)
  go_ret
  exact ⟨a1, c1, rfl, ho1, hb1⟩
set_option maxRecDepth 100000 in
set_option maxHeartbeats 800000 in
theorem parts_1 (n L : Nat) (b o : Nat) (s : ByteArray) (ka : Option Addr) (kc : Nat) (w : World) (hn : n ≤ 100000) (hN : Nd w b o 1 s (.slice ka n kc)) :
    Calls Tryz.prog 71 #[.pointer (some ⟨b, o, none⟩), .int .i64 (L : Nat)] w (PartsP (Pl.parts 1 s n L) w) := by
  obtain ⟨i0, hi0, hz0, hz1, hz2⟩ := info_parts infoP
  have x0 := hN.c0
  obtain ⟨m, hm⟩ : ∃ m, m = (Pl.kidsP 0 n ⟨#[10, 10]⟩).length := ⟨_, rfl⟩
  have hmb : m ≤ 100000 := by rw [hm, kidsP_len]; omega
  have HC := Lib.hid (PartsP.row (m := m) (kids_0 n ⟨#[10, 10]⟩ b o 1 s ka kc w hn hN) hm)
  have hlen : (Pl.parts 1 s n L).length = m + 1 := by (show (Pl.kidsP 0 n ⟨#[10, 10]⟩ ++ [Pl.pown ⟨#[10]⟩ ⟨#[]⟩]).length = _); rw [List.length_append, ← hm]; rfl
  have hrow : row3 (Pl.parts 1 s n L) = row3 (Pl.kidsP 0 n ⟨#[10, 10]⟩) ++ [.string ⟨#[10]⟩, .string ⟨#[]⟩, .int .i64 (-1)] := by (show row3 (Pl.kidsP 0 n ⟨#[10, 10]⟩ ++ [Pl.pown ⟨#[10]⟩ ⟨#[]⟩]) = _); rw [row3_append]; rfl
  unfold PartsP Parts
  rw [hlen, hrow]
  clear hlen hrow hm hN
  go_enter Tryz.func71, Tryz.ntmps71
  go_wp2_with (first
    | (go_at_call 96; refine HC.out.mono ?_; rintro e w1 ⟨a1, c1, rfl, ho1, hb1⟩; have HO1 := Lib.hid ho1; have HB1 := Lib.hid hb1; have hs1 := hb1.size; clear ho1 hb1)
    | (go_at_call 97; refine (pown_is _ _ _).mono ?_; rintro e w2 ⟨rfl, hb2⟩; have HO2 := Lib.hid (owns_later HO1.out hb2); have HB2 := Lib.hid (HB1.out.trans (hb2.mono HB1.out.size)); have hs2 := HB2.out.size; clear hb2)
    | (at_builtin; refine wpList_append_lies _ rfl _ _ 86 rfl w.heap.size 89 i0 _ 3 40 Tryz.underlying86 hi0 hz0 hz1 hz2 rfl (by decide) (.slice a1 m c1) m _ rfl (HO2.out.alloc _)
         ⟨w2.heap.size, 0, none⟩ 1 1 [.string ⟨#[10]⟩, .string ⟨#[]⟩, .int .i64 (-1)] rfl rfl (news_part _ _ _ _) (one_part _ _ _) (by decide) (by unfold maxLen; omega) (by omega) (by simp; omega) (w2.heap.size + 1) (by simp) ?_
       intro gg cap w3 hown hgrow hat3 hlt3
       have HOwn := Lib.hid hown
       have HGrow := Lib.hid hgrow
       clear hown hgrow hat3))
  go_ret
  exact ⟨_, _, rfl, HOwn.out, (HB2.out.alloc hs2 _).grown HGrow.out (by simp; omega) (fun q hq => (HO2.out.lt q hq).1)⟩
def cls (s : ByteArray) : List Pl.Part := [Pl.pown ⟨#[]⟩ ⟨#[99, 108, 97, 115, 115]⟩, Pl.pown ⟨#[32]⟩ s, Pl.pkid ⟨#[32]⟩ 0, Pl.pown ⟨#[32]⟩ ⟨#[123]⟩]
set_option maxRecDepth 100000 in
set_option maxHeartbeats 1600000 in
theorem parts_7 (n L : Nat) (b o : Nat) (s : ByteArray) (ka : Option Addr) (kc : Nat) (w : World) (hn : n ≤ 100000) (hL : L ≤ 1000) (hN : Nd w b o 7 s (.slice ka n kc)) :
    Calls Tryz.prog 71 #[.pointer (some ⟨b, o, none⟩), .int .i64 (L : Nat)] w (PartsP (Pl.parts 7 s n L) w) := by
  obtain ⟨i0, hi0, hz0, hz1, hz2⟩ := info_parts infoP
  have HNd := Lib.hid hN
  have x0 := hN.c0
  have x1 := hN.c1
  have hblt := hN.lt
  obtain ⟨m, hm⟩ : ∃ m, m = (Pl.bodyP 1 n L).length := ⟨_, rfl⟩
  have hpos : 0 < m := by rw [hm]; exact bodyP_pos _ _ _
  have hmb : m ≤ 300000 := by rw [hm]; exact Nat.le_trans (bodyP_le _ _ _) (by omega)
  have hlm : (row3 (Pl.bodyP 1 n L)).length = m * 3 := by rw [row3_len, hm]
  have HLM := Lib.hid hlm
  have HC := Lib.hid (fun w1 (hb : Below w.heap.size w w1) => PartsP.row (m := m) (body_1 n L b o 7 s ka kc w1 hn hL (HNd.out.later hb)) hm)
  have hlen : (Pl.parts 7 s n L).length = 4 + m := by (show (cls s ++ Pl.bodyP 1 n L).length = _); rw [List.length_append, ← hm]; rfl
  have hrow : row3 (Pl.parts 7 s n L) = row3 (cls s) ++ row3 (Pl.bodyP 1 n L) := by (show row3 (cls s ++ Pl.bodyP 1 n L) = _); rw [row3_append]
  unfold PartsP Parts
  rw [hlen, hrow]
  clear hlen hrow hm hlm hN
  go_enter Tryz.func71, Tryz.ntmps71
  go_wp2_with fail
  have d1 : w.drew.cell? ⟨b, o + 1, none⟩ = some (.string s) := x1
  go_region_held3 (fun w' => w'.cell? ⟨b, o + 1, none⟩ = some (.string s))
    (first | with_reducible exact d1 | with_reducible exact e1 | with_reducible exact e2 | with_reducible exact e3 | with_reducible exact e4 | go_keep)
    ((first
      | (go_at_call 97; have g := HB3; clear g; refine (pown_is _ _ _).mono ?_; rintro e w4 ⟨rfl, hb4⟩; have e4 := (hb4.cell (p := ⟨b, o + 1, none⟩) (by show b < _; omega)).trans e3; have HB4 : Hid (Below w.heap.size w w4) := Lib.hid (HB3.out.trans (hb4.mono HB3.out.size)); have hs4 := HB4.out.size; clear hb4)
      | (go_at_call 98; refine (kid_is _ _ _).mono ?_; rintro e w3 ⟨rfl, hb3⟩; have e3 := (hb3.cell (p := ⟨b, o + 1, none⟩) (by show b < _; omega)).trans e2; have HB3 : Hid (Below w.heap.size w w3) := Lib.hid (HB2.out.trans (hb3.mono HB2.out.size)); have hs3 := HB3.out.size; clear hb3)
      | (go_at_call 97; have g := HB1; clear g; refine (pown_is _ _ _).mono ?_; rintro e w2 ⟨rfl, hb2⟩; have e2 := (hb2.cell (p := ⟨b, o + 1, none⟩) (by show b < _; omega)).trans e1; have HB2 : Hid (Below w.heap.size w w2) := Lib.hid (HB1.out.trans (hb2.mono HB1.out.size)); have hs2 := HB2.out.size; clear hb2)
      | (go_at_call 97; refine (pown_is _ _ _).mono ?_; rintro e w1 ⟨rfl, hb1⟩; have e1 := (hb1.cell (p := ⟨b, o + 1, none⟩) hblt).trans d1; have HB1 : Hid (Below w.heap.size w w1) := Lib.hid ((Below.refl w.heap.size w).drew.trans hb1); have hs1 := HB1.out.size; clear hb1)))
  all_goals
    have HL : Hid (Parts w.heap.size (w4.alloc (.cells #[.string ⟨#[]⟩, .string ⟨#[99, 108, 97, 115, 115]⟩, .int .i64 (-1), .string ⟨#[32]⟩, .string s, .int .i64 (-1), .string ⟨#[32]⟩, .string ⟨#[]⟩, .int .i64 0, .string ⟨#[32]⟩, .string ⟨#[123]⟩, .int .i64 (-1)] 89)) (.slice (some ⟨w4.heap.size, 0, none⟩) 4 4) (cls s)) := Lib.hid (parts_lit w4 (cls s) _ 4 rfl rfl w.heap.size hs4 (by decide))
    go_wp2_with (first
      | (at_builtin; refine wpList_append_lies _ rfl _ _ 86 rfl w.heap.size 89 i0 _ 3 40 Tryz.underlying86 hi0 hz0 hz1 hz2 rfl (by decide) (.slice (some ⟨w4.heap.size, 0, none⟩) 4 4) 4 _ rfl HL9.out
           ⟨g9, 0, none⟩ m c9 (row3 (Pl.bodyP 1 n L)) rfl HLM.out HC9.out (row3_one _) hpos (by unfold maxLen; omega) (by omega) (by omega) w9.heap.size rfl ?_
         intro gg cap w10 hown hgrow hat3 hlt3
         have HOwn := Lib.hid hown
         have HGrow := Lib.hid hgrow
         clear hown hgrow hat3)
      | (go_at_call 100; refine (HC.out _ (HB4.out.alloc hs4 _)).mono ?_; rintro e w9 ⟨a9, c9, rfl, ho9, hb9⟩; obtain ⟨g9, rfl, hB9, hl9, hc9⟩ := owns_addr ho9 hpos; have HC9 := Lib.hid hc9; have HL9 := Lib.hid (owns_later HL.out hb9); have hs9 := hb9.size; simp at hs9; have HBW := Lib.hid ((HB4.out.alloc hs4 _).trans (hb9.mono (by simp; omega))); clear ho9 hb9 hc9))
    go_ret
    exact ⟨_, _, rfl, HOwn.out, HBW.out.grown HGrow.out (by omega) (fun q hq => (HL9.out.lt q hq).1)⟩
set_option maxHeartbeats 800000 in
theorem parts_8_none (n L b o : Nat) (ka : Option Addr) (kc : Nat) (w : World) (hN : Nd w b o 8 ⟨#[]⟩ (.slice ka n kc)) :
    Calls Tryz.prog 71 #[.pointer (some ⟨b, o, none⟩), .int .i64 (L : Nat)] w (PartsP (Pl.parts 8 ⟨#[]⟩ n L) w) := by
  have x0 := hN.c0
  have x1 := hN.c1
  go_enter Tryz.func71, Tryz.ntmps71
  go_wp2_with fail
  go_ret
  exact ⟨none, 0, rfl, parts_nil _ _, Below.refl _ _⟩
set_option maxRecDepth 100000 in
set_option maxHeartbeats 800000 in
theorem parts_8 (n L b o : Nat) (s : ByteArray) (ka : Option Addr) (kc : Nat) (w : World) (hs : 1 ≤ s.size) (hN : Nd w b o 8 s (.slice ka n kc)) :
    Calls Tryz.prog 71 #[.pointer (some ⟨b, o, none⟩), .int .i64 (L : Nat)] w (PartsP (Pl.parts 8 s n L) w) := by
  have x0 := hN.c0
  have x1 := hN.c1
  have hblt := hN.lt
  have hz : ¬ s.size = 0 := by omega
  have hp8 : Pl.parts 8 s n L = [Pl.pown ⟨#[]⟩ ⟨#[58]⟩, Pl.pown ⟨#[32]⟩ s] := by (show (if s.size = 0 then [] else _) = _); rw [if_neg hz]
  rw [hp8]
  obtain ⟨n1, n2, n3⟩ := Pl.not_empty s hs
  clear hp8 hz
  go_enter Tryz.func71, Tryz.ntmps71
  go_wp2_with fail
  have d1 : w.drew.cell? ⟨b, o + 1, none⟩ = some (.string s) := x1
  go_region_held3 (fun w' => w'.cell? ⟨b, o + 1, none⟩ = some (.string s))
    (first | with_reducible exact d1 | with_reducible exact e1 | with_reducible exact e2 | go_keep)
    ((first
      | (go_at_call 97; have g := HB1; clear g; refine (pown_is _ _ _).mono ?_; rintro e w2 ⟨rfl, hb2⟩; have e2 := (hb2.cell (p := ⟨b, o + 1, none⟩) (by show b < _; omega)).trans e1; have HB2 : Hid (Below w.heap.size w w2) := Lib.hid (HB1.out.trans (hb2.mono HB1.out.size)); have hs2 := HB2.out.size; clear hb2)
      | (go_at_call 97; refine (pown_is _ _ _).mono ?_; rintro e w1 ⟨rfl, hb1⟩; have e1 := (hb1.cell (p := ⟨b, o + 1, none⟩) hblt).trans d1; have HB1 : Hid (Below w.heap.size w w1) := Lib.hid ((Below.refl w.heap.size w).drew.trans hb1); have hs1 := HB1.out.size; clear hb1)))
  all_goals go_wp2_with fail
  all_goals go_ret
  all_goals exact ⟨_, _, rfl, parts_lit w2 [Pl.pown ⟨#[]⟩ ⟨#[58]⟩, Pl.pown ⟨#[32]⟩ s] _ _ rfl rfl w.heap.size HB2.out.size (by show 2 ≤ 100; decide), HB2.out.alloc HB2.out.size _⟩
theorem parts_any (k : Int) (n L : Nat) (b o : Nat) (s : ByteArray) (ka : Option Addr) (kc : Nat) (w : World) (har : Pl.Ar k n) (hn : n ≤ 100000) (hL : L ≤ 1000) (hN : Nd w b o k s (.slice ka n kc)) :
    Calls Tryz.prog 71 #[.pointer (some ⟨b, o, none⟩), .int .i64 (L : Nat)] w (PartsP (Pl.parts k s n L) w) := by
  rcases Pl.kinds k ⟨har.lo, har.hi⟩ with rfl | rfl | rfl | rfl | rfl | rfl | rfl | rfl | rfl | rfl | rfl | rfl | rfl | rfl | rfl | rfl | rfl | rfl | rfl | rfl | rfl | rfl | rfl | rfl | rfl | rfl
  · exact parts_1 n L b o s ka kc w hn hN
  · exact parts_2 n L b o s ka kc w hN
  · exact parts_3 n L b o s ka kc w hn hN
  · exact parts_4 n L b o s ka kc w hN
  · exact parts_5 n L b o s ka kc w hN
  · exact parts_6 n L b o s ka kc w hn hL hN
  · exact parts_7 n L b o s ka kc w hn hL hN
  · by_cases hs : s.size = 0
    · obtain rfl := Pl.size_zero s hs
      exact parts_8_none n L b o ka kc w hN
    · exact parts_8 n L b o s ka kc w (by omega) hN
  · exact parts_9 n L b o s ka kc w hn hN
  · exact parts_10 n L b o s ka kc w hn hN
  · exact parts_11 n L b o s ka kc w hN
  · exact parts_12 n L b o s ka kc w hN
  · exact parts_13 n L b o s ka kc w hn (by have := har.a2 (.inr rfl); omega) hN
  · by_cases h0 : n = 0
    · subst h0; exact parts_14_none L b o s ka kc w hN
    · exact parts_14 n L b o s ka kc w hn (by omega) hN
  · exact parts_15 n L b o s ka kc w hn (by have := har.at2 (.inl rfl); omega) hN
  · exact parts_16 n L b o s ka kc w hN
  · exact parts_17 n L b o s ka kc w hN
  · exact parts_18 n L b o s ka kc w hN
  · exact parts_19 n L b o s ka kc w hN
  · exact parts_20 n L b o s ka kc w hn hN
  · exact parts_21 n L b o s ka kc w hn hN
  · exact parts_22 n L b o s ka kc w hn hN
  · exact parts_23 n L b o s ka kc w hN
  · exact parts_24 n L b o s ka kc w hN
  · exact parts_25 n L b o s ka kc w hN
  · exact parts_26 n L b o s ka kc w hN
end Go.Proofs.YtiaajpdcacdngaaGreatDoor
