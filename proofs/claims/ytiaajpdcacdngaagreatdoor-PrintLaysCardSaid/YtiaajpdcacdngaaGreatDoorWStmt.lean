/- The walk of statementParts, kind by kind. -/
import Derived.Test.YtiaajpdcacdngaaGreatDoorWExpr
import Derived.Deep.RegionHeld3
namespace Go.Proofs.YtiaajpdcacdngaaGreatDoor
open Go.RowKit
set_option linter.unusedVariables false
set_option linter.unusedSimpArgs false

set_option maxRecDepth 100000 in
set_option maxHeartbeats 800000 in
theorem stmt_10 (n : Nat) (b o : Nat) (s : ByteArray) (ka : Option Addr) (kc : Nat) (w : World) (hn : n ≤ 100000) (hN : Nd w b o 10 s (.slice ka n kc)) :
    Calls Tryz.prog 102 #[.pointer (some ⟨b, o, none⟩)] w (PartsP (Pl.stmtP 10 s n) w) := by
  obtain ⟨i0, hi0, hz0, hz1, hz2⟩ := info_parts infoP
  have HNd := Lib.hid hN
  have x0 := hN.c0
  have x1 := hN.c1
  have x3 := hN.c3
  have hblt := hN.lt
  obtain ⟨m, hm⟩ : ∃ m, m = (Pl.assignP s).length := ⟨_, rfl⟩
  have hpos : 0 < m := by rw [hm]; exact (by show 0 < 4; decide)
  have hmb : m ≤ 300000 := by rw [hm]; exact (by show 4 ≤ 300000; decide)
  have hlm : (row3 (Pl.assignP s)).length = m * 3 := by rw [row3_len, hm]
  have HLM := Lib.hid hlm
  have HC := Lib.hid (fun w1 (hb : Below w.heap.size w w1) => PartsP.row (m := m) (assign_any b o 10 s (.slice ka n kc) w1 (HNd.out.later hb)) hm)
  have hlen : (Pl.stmtP 10 s n).length = 1 + m := by (show ([Pl.pown ⟨#[]⟩ ⟨#[108, 101, 116]⟩] ++ Pl.assignP s).length = _); rw [List.length_append, ← hm]; rfl
  have hrow : row3 (Pl.stmtP 10 s n) = row3 [Pl.pown ⟨#[]⟩ ⟨#[108, 101, 116]⟩] ++ row3 (Pl.assignP s) := by (show row3 ([Pl.pown ⟨#[]⟩ ⟨#[108, 101, 116]⟩] ++ Pl.assignP s) = _); rw [row3_append]
  unfold PartsP Parts
  rw [hlen, hrow]
  clear hlen hrow hm hlm hN
  go_enter Tryz.func102, Tryz.ntmps102
  go_wp2_with (first
    | (at_builtin; refine wpList_append_lies _ rfl _ _ 86 rfl w.heap.size 89 i0 _ 3 40 Tryz.underlying86 hi0 hz0 hz1 hz2 rfl (by decide) (.slice (some ⟨w1.heap.size, 0, none⟩) 1 1) 1 _ rfl HL9.out
         ⟨g9, 0, none⟩ m c9 (row3 (Pl.assignP s)) rfl HLM.out HC9.out (row3_one _) hpos (by unfold maxLen; omega) (by omega) (by omega) w9.heap.size rfl ?_
       intro gg cap w10 hown hgrow hat3 hlt3
       have HOwn := Lib.hid hown
       have HGrow := Lib.hid hgrow
       clear hown hgrow hat3)
    | (go_at_call 101; have HL : Hid (Parts w.heap.size (w1.alloc (.cells #[.string ⟨#[]⟩, .string ⟨#[108, 101, 116]⟩, .int .i64 (-1)] 89)) (.slice (some ⟨w1.heap.size, 0, none⟩) 1 1) [Pl.pown ⟨#[]⟩ ⟨#[108, 101, 116]⟩]) := Lib.hid (parts_lit w1 [Pl.pown ⟨#[]⟩ ⟨#[108, 101, 116]⟩] #[.string ⟨#[]⟩, .string ⟨#[108, 101, 116]⟩, .int .i64 (-1)] 1 rfl rfl w.heap.size hs1 (by decide)); refine (HC.out _ (HB1.out.alloc hs1 _)).mono ?_; rintro e w9 ⟨a9, c9, rfl, ho9, hb9⟩; obtain ⟨g9, rfl, hB9, hl9, hc9⟩ := owns_addr ho9 hpos; have HC9 := Lib.hid hc9; have HL9 := Lib.hid (owns_later HL.out hb9); have hs9 := hb9.size; simp at hs9; have HBW := Lib.hid ((HB1.out.alloc hs1 _).trans (hb9.mono (by simp; omega))); clear ho9 hb9 hc9)
    | (go_at_call 97; refine (pown_is _ _ _).mono ?_; rintro e w1 ⟨rfl, hb1⟩; have HB1 : Hid (Below w.heap.size w w1) := Lib.hid (hb1); have hs1 := HB1.out.size; clear hb1))
  go_ret
  exact ⟨_, _, rfl, HOwn.out, HBW.out.grown HGrow.out (by omega) (fun q hq => (HL9.out.lt q hq).1)⟩
set_option maxRecDepth 100000 in
set_option maxHeartbeats 800000 in
theorem stmt_11 (n : Nat) (b o : Nat) (s : ByteArray) (ka : Option Addr) (kc : Nat) (w : World) (hN : Nd w b o 11 s (.slice ka n kc)) :
    Calls Tryz.prog 102 #[.pointer (some ⟨b, o, none⟩)] w (PartsP (Pl.stmtP 11 s n) w) := by
  have x0 := hN.c0
  have x1 := hN.c1
  have x3 := hN.c3
  have HC := Lib.hid (assign_any b o 11 s (.slice ka n kc) w hN)
  go_enter Tryz.func102, Tryz.ntmps102
  go_wp2_with (go_at_call 101; refine HC.out.mono ?_; rintro e w1 ⟨a1, c1, rfl, ho1, hb1⟩)
  go_ret
  exact ⟨a1, c1, rfl, ho1, hb1⟩
set_option maxRecDepth 100000 in
set_option maxHeartbeats 800000 in
theorem stmt_12 (n : Nat) (b o : Nat) (s : ByteArray) (ka : Option Addr) (kc : Nat) (w : World) (hN : Nd w b o 12 s (.slice ka n kc)) :
    Calls Tryz.prog 102 #[.pointer (some ⟨b, o, none⟩)] w (PartsP (Pl.stmtP 12 s n) w) := by
  have x0 := hN.c0
  have x1 := hN.c1
  have hblt := hN.lt
  go_enter Tryz.func102, Tryz.ntmps102
  go_wp2_with (first
    | (go_at_call 97; have g := HB2; clear g; refine (pown_is _ _ _).mono ?_; rintro e w3 ⟨rfl, hb3⟩; have HB3 : Hid (Below w.heap.size w w3) := Lib.hid (HB2.out.trans (hb3.mono HB2.out.size)); have hs3 := HB3.out.size; clear hb3)
    | (go_at_call 98; have g := HB1; clear g; refine (kid_is _ _ _).mono ?_; rintro e w2 ⟨rfl, hb2⟩; have HB2 : Hid (Below w.heap.size w w2) := Lib.hid (HB1.out.trans (hb2.mono HB1.out.size)); have hs2 := HB2.out.size; clear hb2)
    | (go_at_call 97; refine (pown_is _ _ _).mono ?_; rintro e w1 ⟨rfl, hb1⟩; have HB1 : Hid (Below w.heap.size w w1) := Lib.hid (hb1); have hs1 := HB1.out.size; clear hb1))
  go_ret
  exact ⟨_, _, rfl, parts_lit w3 (Pl.stmtP 12 s n) _ _ rfl rfl w.heap.size HB3.out.size (by show 3 ≤ 100; decide), HB3.out.alloc HB3.out.size _⟩
set_option maxRecDepth 100000 in
set_option maxHeartbeats 800000 in
theorem stmt_13 (n : Nat) (b o : Nat) (s : ByteArray) (ka : Option Addr) (kc : Nat) (w : World) (hn : n ≤ 100000) (hp : 0 < n) (hN : Nd w b o 13 s (.slice ka n kc)) :
    Calls Tryz.prog 102 #[.pointer (some ⟨b, o, none⟩)] w (PartsP (Pl.stmtP 13 s n) w) := by
  obtain ⟨i0, hi0, hz0, hz1, hz2⟩ := info_parts infoP
  have HNd := Lib.hid hN
  have x0 := hN.c0
  have x1 := hN.c1
  have x3 := hN.c3
  have hblt := hN.lt
  obtain ⟨m, hm⟩ : ∃ m, m = (Pl.kidsP 0 n ⟨#[32]⟩).length := ⟨_, rfl⟩
  have hpos : 0 < m := by rw [hm]; exact (by rw [kidsP_len]; omega)
  have hmb : m ≤ 300000 := by rw [hm]; exact (by rw [kidsP_len]; omega)
  have hlm : (row3 (Pl.kidsP 0 n ⟨#[32]⟩)).length = m * 3 := by rw [row3_len, hm]
  have HLM := Lib.hid hlm
  have HC := Lib.hid (fun w1 (hb : Below w.heap.size w w1) => PartsP.row (m := m) (kids_0 n ⟨#[32]⟩ b o 13 s ka kc w1 hn (HNd.out.later hb)) hm)
  have hlen : (Pl.stmtP 13 s n).length = 1 + m := by (show ([Pl.pown ⟨#[]⟩ ⟨#[105, 102]⟩] ++ Pl.kidsP 0 n ⟨#[32]⟩).length = _); rw [List.length_append, ← hm]; rfl
  have hrow : row3 (Pl.stmtP 13 s n) = row3 [Pl.pown ⟨#[]⟩ ⟨#[105, 102]⟩] ++ row3 (Pl.kidsP 0 n ⟨#[32]⟩) := by (show row3 ([Pl.pown ⟨#[]⟩ ⟨#[105, 102]⟩] ++ Pl.kidsP 0 n ⟨#[32]⟩) = _); rw [row3_append]
  unfold PartsP Parts
  rw [hlen, hrow]
  clear hlen hrow hm hlm hN
  go_enter Tryz.func102, Tryz.ntmps102
  go_wp2_with (first
    | (at_builtin; refine wpList_append_lies _ rfl _ _ 86 rfl w.heap.size 89 i0 _ 3 40 Tryz.underlying86 hi0 hz0 hz1 hz2 rfl (by decide) (.slice (some ⟨w1.heap.size, 0, none⟩) 1 1) 1 _ rfl HL9.out
         ⟨g9, 0, none⟩ m c9 (row3 (Pl.kidsP 0 n ⟨#[32]⟩)) rfl HLM.out HC9.out (row3_one _) hpos (by unfold maxLen; omega) (by omega) (by omega) w9.heap.size rfl ?_
       intro gg cap w10 hown hgrow hat3 hlt3
       have HOwn := Lib.hid hown
       have HGrow := Lib.hid hgrow
       clear hown hgrow hat3)
    | (go_at_call 96; have HL : Hid (Parts w.heap.size (w1.alloc (.cells #[.string ⟨#[]⟩, .string ⟨#[105, 102]⟩, .int .i64 (-1)] 89)) (.slice (some ⟨w1.heap.size, 0, none⟩) 1 1) [Pl.pown ⟨#[]⟩ ⟨#[105, 102]⟩]) := Lib.hid (parts_lit w1 [Pl.pown ⟨#[]⟩ ⟨#[105, 102]⟩] #[.string ⟨#[]⟩, .string ⟨#[105, 102]⟩, .int .i64 (-1)] 1 rfl rfl w.heap.size hs1 (by decide)); refine (HC.out _ (HB1.out.alloc hs1 _)).mono ?_; rintro e w9 ⟨a9, c9, rfl, ho9, hb9⟩; obtain ⟨g9, rfl, hB9, hl9, hc9⟩ := owns_addr ho9 hpos; have HC9 := Lib.hid hc9; have HL9 := Lib.hid (owns_later HL.out hb9); have hs9 := hb9.size; simp at hs9; have HBW := Lib.hid ((HB1.out.alloc hs1 _).trans (hb9.mono (by simp; omega))); clear ho9 hb9 hc9)
    | (go_at_call 97; refine (pown_is _ _ _).mono ?_; rintro e w1 ⟨rfl, hb1⟩; have HB1 : Hid (Below w.heap.size w w1) := Lib.hid (hb1); have hs1 := HB1.out.size; clear hb1))
  go_ret
  exact ⟨_, _, rfl, HOwn.out, HBW.out.grown HGrow.out (by omega) (fun q hq => (HL9.out.lt q hq).1)⟩
set_option maxRecDepth 100000 in
set_option maxHeartbeats 800000 in
theorem stmt_15 (n : Nat) (b o : Nat) (s : ByteArray) (ka : Option Addr) (kc : Nat) (w : World) (hn : n ≤ 100000) (hp : 0 < n) (hN : Nd w b o 15 s (.slice ka n kc)) :
    Calls Tryz.prog 102 #[.pointer (some ⟨b, o, none⟩)] w (PartsP (Pl.stmtP 15 s n) w) := by
  obtain ⟨i0, hi0, hz0, hz1, hz2⟩ := info_parts infoP
  have HNd := Lib.hid hN
  have x0 := hN.c0
  have x1 := hN.c1
  have x3 := hN.c3
  have hblt := hN.lt
  obtain ⟨m, hm⟩ : ∃ m, m = (Pl.kidsP 0 n ⟨#[32]⟩).length := ⟨_, rfl⟩
  have hpos : 0 < m := by rw [hm]; exact (by rw [kidsP_len]; omega)
  have hmb : m ≤ 300000 := by rw [hm]; exact (by rw [kidsP_len]; omega)
  have hlm : (row3 (Pl.kidsP 0 n ⟨#[32]⟩)).length = m * 3 := by rw [row3_len, hm]
  have HLM := Lib.hid hlm
  have HC := Lib.hid (fun w1 (hb : Below w.heap.size w w1) => PartsP.row (m := m) (kids_0 n ⟨#[32]⟩ b o 15 s ka kc w1 hn (HNd.out.later hb)) hm)
  have hlen : (Pl.stmtP 15 s n).length = 1 + m := by (show ([Pl.pown ⟨#[]⟩ ⟨#[119, 104, 105, 108, 101]⟩] ++ Pl.kidsP 0 n ⟨#[32]⟩).length = _); rw [List.length_append, ← hm]; rfl
  have hrow : row3 (Pl.stmtP 15 s n) = row3 [Pl.pown ⟨#[]⟩ ⟨#[119, 104, 105, 108, 101]⟩] ++ row3 (Pl.kidsP 0 n ⟨#[32]⟩) := by (show row3 ([Pl.pown ⟨#[]⟩ ⟨#[119, 104, 105, 108, 101]⟩] ++ Pl.kidsP 0 n ⟨#[32]⟩) = _); rw [row3_append]
  unfold PartsP Parts
  rw [hlen, hrow]
  clear hlen hrow hm hlm hN
  go_enter Tryz.func102, Tryz.ntmps102
  go_wp2_with (first
    | (at_builtin; refine wpList_append_lies _ rfl _ _ 86 rfl w.heap.size 89 i0 _ 3 40 Tryz.underlying86 hi0 hz0 hz1 hz2 rfl (by decide) (.slice (some ⟨w1.heap.size, 0, none⟩) 1 1) 1 _ rfl HL9.out
         ⟨g9, 0, none⟩ m c9 (row3 (Pl.kidsP 0 n ⟨#[32]⟩)) rfl HLM.out HC9.out (row3_one _) hpos (by unfold maxLen; omega) (by omega) (by omega) w9.heap.size rfl ?_
       intro gg cap w10 hown hgrow hat3 hlt3
       have HOwn := Lib.hid hown
       have HGrow := Lib.hid hgrow
       clear hown hgrow hat3)
    | (go_at_call 96; have HL : Hid (Parts w.heap.size (w1.alloc (.cells #[.string ⟨#[]⟩, .string ⟨#[119, 104, 105, 108, 101]⟩, .int .i64 (-1)] 89)) (.slice (some ⟨w1.heap.size, 0, none⟩) 1 1) [Pl.pown ⟨#[]⟩ ⟨#[119, 104, 105, 108, 101]⟩]) := Lib.hid (parts_lit w1 [Pl.pown ⟨#[]⟩ ⟨#[119, 104, 105, 108, 101]⟩] #[.string ⟨#[]⟩, .string ⟨#[119, 104, 105, 108, 101]⟩, .int .i64 (-1)] 1 rfl rfl w.heap.size hs1 (by decide)); refine (HC.out _ (HB1.out.alloc hs1 _)).mono ?_; rintro e w9 ⟨a9, c9, rfl, ho9, hb9⟩; obtain ⟨g9, rfl, hB9, hl9, hc9⟩ := owns_addr ho9 hpos; have HC9 := Lib.hid hc9; have HL9 := Lib.hid (owns_later HL.out hb9); have hs9 := hb9.size; simp at hs9; have HBW := Lib.hid ((HB1.out.alloc hs1 _).trans (hb9.mono (by simp; omega))); clear ho9 hb9 hc9)
    | (go_at_call 97; refine (pown_is _ _ _).mono ?_; rintro e w1 ⟨rfl, hb1⟩; have HB1 : Hid (Below w.heap.size w w1) := Lib.hid (hb1); have hs1 := HB1.out.size; clear hb1))
  go_ret
  exact ⟨_, _, rfl, HOwn.out, HBW.out.grown HGrow.out (by omega) (fun q hq => (HL9.out.lt q hq).1)⟩
set_option maxRecDepth 100000 in
set_option maxHeartbeats 800000 in
theorem stmt_16 (n : Nat) (b o : Nat) (s : ByteArray) (ka : Option Addr) (kc : Nat) (w : World) (hN : Nd w b o 16 s (.slice ka n kc)) :
    Calls Tryz.prog 102 #[.pointer (some ⟨b, o, none⟩)] w (PartsP (Pl.stmtP 16 s n) w) := by
  have x0 := hN.c0
  have x1 := hN.c1
  have hblt := hN.lt
  go_enter Tryz.func102, Tryz.ntmps102
  go_wp2_with (first
    | (go_at_call 97; have g := HB1; clear g; refine (pown_is _ _ _).mono ?_; rintro e w2 ⟨rfl, hb2⟩; have HB2 : Hid (Below w.heap.size w w2) := Lib.hid (HB1.out.trans (hb2.mono HB1.out.size)); have hs2 := HB2.out.size; clear hb2)
    | (go_at_call 98; refine (kid_is _ _ _).mono ?_; rintro e w1 ⟨rfl, hb1⟩; have HB1 : Hid (Below w.heap.size w w1) := Lib.hid (hb1); have hs1 := HB1.out.size; clear hb1))
  go_ret
  exact ⟨_, _, rfl, parts_lit w2 (Pl.stmtP 16 s n) _ _ rfl rfl w.heap.size HB2.out.size (by show 2 ≤ 100; decide), HB2.out.alloc HB2.out.size _⟩
theorem stmtP14 (s : ByteArray) (n : Nat) (h : 0 < n) : Pl.stmtP 14 s n = [Pl.pown ⟨#[]⟩ ⟨#[101, 108, 115, 101]⟩] ++ Pl.kidsP 0 n ⟨#[32]⟩ := by
  have h0 : ¬ n = 0 := by omega
  show (if n = 0 then [] else _) = _
  rw [if_neg h0]; rfl
set_option maxRecDepth 100000 in
set_option maxHeartbeats 800000 in
theorem stmt_14 (n : Nat) (b o : Nat) (s : ByteArray) (ka : Option Addr) (kc : Nat) (w : World) (hn : n ≤ 100000) (hp : 0 < n) (hN : Nd w b o 14 s (.slice ka n kc)) :
    Calls Tryz.prog 102 #[.pointer (some ⟨b, o, none⟩)] w (PartsP (Pl.stmtP 14 s n) w) := by
  obtain ⟨i0, hi0, hz0, hz1, hz2⟩ := info_parts infoP
  have HNd := Lib.hid hN
  have x0 := hN.c0
  have x1 := hN.c1
  have x3 := hN.c3
  have hblt := hN.lt
  have hne : ((n : Int) == 0) = false := beq_eq_false_iff_ne.2 (by omega)
  obtain ⟨m, hm⟩ : ∃ m, m = (Pl.kidsP 0 n ⟨#[32]⟩).length := ⟨_, rfl⟩
  have hpos : 0 < m := by rw [hm]; exact (by rw [kidsP_len]; omega)
  have hmb : m ≤ 300000 := by rw [hm]; exact (by rw [kidsP_len]; omega)
  have hlm : (row3 (Pl.kidsP 0 n ⟨#[32]⟩)).length = m * 3 := by rw [row3_len, hm]
  have HLM := Lib.hid hlm
  have HC := Lib.hid (fun w1 (hb : Below w.heap.size w w1) => PartsP.row (m := m) (kids_0 n ⟨#[32]⟩ b o 14 s ka kc w1 hn (HNd.out.later hb)) hm)
  have hlen : (Pl.stmtP 14 s n).length = 1 + m := by rw [stmtP14 s n hp]; (show ([Pl.pown ⟨#[]⟩ ⟨#[101, 108, 115, 101]⟩] ++ Pl.kidsP 0 n ⟨#[32]⟩).length = _); rw [List.length_append, ← hm]; rfl
  have hrow : row3 (Pl.stmtP 14 s n) = row3 [Pl.pown ⟨#[]⟩ ⟨#[101, 108, 115, 101]⟩] ++ row3 (Pl.kidsP 0 n ⟨#[32]⟩) := by rw [stmtP14 s n hp]; (show row3 ([Pl.pown ⟨#[]⟩ ⟨#[101, 108, 115, 101]⟩] ++ Pl.kidsP 0 n ⟨#[32]⟩) = _); rw [row3_append]
  unfold PartsP Parts
  rw [hlen, hrow]
  clear hlen hrow hm hlm hN
  go_enter Tryz.func102, Tryz.ntmps102
  go_wp2_with (first
    | (at_builtin; refine wpList_append_lies _ rfl _ _ 86 rfl w.heap.size 89 i0 _ 3 40 Tryz.underlying86 hi0 hz0 hz1 hz2 rfl (by decide) (.slice (some ⟨w1.heap.size, 0, none⟩) 1 1) 1 _ rfl HL9.out
         ⟨g9, 0, none⟩ m c9 (row3 (Pl.kidsP 0 n ⟨#[32]⟩)) rfl HLM.out HC9.out (row3_one _) hpos (by unfold maxLen; omega) (by omega) (by omega) w9.heap.size rfl ?_
       intro gg cap w10 hown hgrow hat3 hlt3
       have HOwn := Lib.hid hown
       have HGrow := Lib.hid hgrow
       clear hown hgrow hat3)
    | (go_at_call 96; have HL : Hid (Parts w.heap.size (w1.alloc (.cells #[.string ⟨#[]⟩, .string ⟨#[101, 108, 115, 101]⟩, .int .i64 (-1)] 89)) (.slice (some ⟨w1.heap.size, 0, none⟩) 1 1) [Pl.pown ⟨#[]⟩ ⟨#[101, 108, 115, 101]⟩]) := Lib.hid (parts_lit w1 [Pl.pown ⟨#[]⟩ ⟨#[101, 108, 115, 101]⟩] #[.string ⟨#[]⟩, .string ⟨#[101, 108, 115, 101]⟩, .int .i64 (-1)] 1 rfl rfl w.heap.size hs1 (by decide)); refine (HC.out _ (HB1.out.alloc hs1 _)).mono ?_; rintro e w9 ⟨a9, c9, rfl, ho9, hb9⟩; obtain ⟨g9, rfl, hB9, hl9, hc9⟩ := owns_addr ho9 hpos; have HC9 := Lib.hid hc9; have HL9 := Lib.hid (owns_later HL.out hb9); have hs9 := hb9.size; simp at hs9; have HBW := Lib.hid ((HB1.out.alloc hs1 _).trans (hb9.mono (by simp; omega))); clear ho9 hb9 hc9)
    | (go_at_call 97; refine (pown_is _ _ _).mono ?_; rintro e w1 ⟨rfl, hb1⟩; have HB1 : Hid (Below w.heap.size w w1) := Lib.hid (hb1); have hs1 := HB1.out.size; clear hb1))
  go_ret
  exact ⟨_, _, rfl, HOwn.out, HBW.out.grown HGrow.out (by omega) (fun q hq => (HL9.out.lt q hq).1)⟩
set_option maxHeartbeats 800000 in
theorem stmt_14_none (b o : Nat) (s : ByteArray) (ka : Option Addr) (kc : Nat) (w : World) (hN : Nd w b o 14 s (.slice ka 0 kc)) :
    Calls Tryz.prog 102 #[.pointer (some ⟨b, o, none⟩)] w (PartsP (Pl.stmtP 14 s 0) w) := by
  have x0 := hN.c0
  have x3 := hN.c3
  go_enter Tryz.func102, Tryz.ntmps102
  go_wp2_with fail
  go_ret
  exact ⟨none, 0, rfl, parts_nil _ _, Below.refl _ _⟩
set_option maxRecDepth 100000 in
set_option maxHeartbeats 800000 in
theorem stmt_5 (n : Nat) (b o : Nat) (s : ByteArray) (ka : Option Addr) (kc : Nat) (w : World) (hN : Nd w b o 5 s (.slice ka n kc)) :
    Calls Tryz.prog 102 #[.pointer (some ⟨b, o, none⟩)] w (PartsP (Pl.stmtP 5 s n) w) := by
  have x0 := hN.c0
  have x1 := hN.c1
  have x3 := hN.c3
  have HC := Lib.hid (expr_5 n b o s ka kc w hN)
  go_enter Tryz.func102, Tryz.ntmps102
  go_wp2_with (go_at_call 128; refine HC.out.mono ?_; rintro e w1 ⟨a1, c1, rfl, ho1, hb1⟩)
  go_ret
  exact ⟨a1, c1, rfl, ho1, hb1⟩
set_option maxRecDepth 100000 in
set_option maxHeartbeats 800000 in
theorem stmt_17 (n : Nat) (b o : Nat) (s : ByteArray) (ka : Option Addr) (kc : Nat) (w : World) (hN : Nd w b o 17 s (.slice ka n kc)) :
    Calls Tryz.prog 102 #[.pointer (some ⟨b, o, none⟩)] w (PartsP (Pl.stmtP 17 s n) w) := by
  have x0 := hN.c0
  have x1 := hN.c1
  have x3 := hN.c3
  have HC := Lib.hid (expr_17 n b o s ka kc w hN)
  go_enter Tryz.func102, Tryz.ntmps102
  go_wp2_with (go_at_call 128; refine HC.out.mono ?_; rintro e w1 ⟨a1, c1, rfl, ho1, hb1⟩)
  go_ret
  exact ⟨a1, c1, rfl, ho1, hb1⟩
set_option maxRecDepth 100000 in
set_option maxHeartbeats 800000 in
theorem stmt_18 (n : Nat) (b o : Nat) (s : ByteArray) (ka : Option Addr) (kc : Nat) (w : World) (hN : Nd w b o 18 s (.slice ka n kc)) :
    Calls Tryz.prog 102 #[.pointer (some ⟨b, o, none⟩)] w (PartsP (Pl.stmtP 18 s n) w) := by
  have x0 := hN.c0
  have x1 := hN.c1
  have x3 := hN.c3
  have HC := Lib.hid (expr_18 n b o s ka kc w hN)
  go_enter Tryz.func102, Tryz.ntmps102
  go_wp2_with (go_at_call 128; refine HC.out.mono ?_; rintro e w1 ⟨a1, c1, rfl, ho1, hb1⟩)
  go_ret
  exact ⟨a1, c1, rfl, ho1, hb1⟩
set_option maxRecDepth 100000 in
set_option maxHeartbeats 800000 in
theorem stmt_19 (n : Nat) (b o : Nat) (s : ByteArray) (ka : Option Addr) (kc : Nat) (w : World) (hN : Nd w b o 19 s (.slice ka n kc)) :
    Calls Tryz.prog 102 #[.pointer (some ⟨b, o, none⟩)] w (PartsP (Pl.stmtP 19 s n) w) := by
  have x0 := hN.c0
  have x1 := hN.c1
  have x3 := hN.c3
  have HC := Lib.hid (expr_19 n b o s ka kc w hN)
  go_enter Tryz.func102, Tryz.ntmps102
  go_wp2_with (go_at_call 128; refine HC.out.mono ?_; rintro e w1 ⟨a1, c1, rfl, ho1, hb1⟩)
  go_ret
  exact ⟨a1, c1, rfl, ho1, hb1⟩
set_option maxRecDepth 100000 in
set_option maxHeartbeats 800000 in
theorem stmt_20 (n : Nat) (b o : Nat) (s : ByteArray) (ka : Option Addr) (kc : Nat) (w : World) (hn : n ≤ 100000) (hN : Nd w b o 20 s (.slice ka n kc)) :
    Calls Tryz.prog 102 #[.pointer (some ⟨b, o, none⟩)] w (PartsP (Pl.stmtP 20 s n) w) := by
  have x0 := hN.c0
  have x1 := hN.c1
  have x3 := hN.c3
  have HC := Lib.hid (expr_20 n b o s ka kc w hn hN)
  go_enter Tryz.func102, Tryz.ntmps102
  go_wp2_with (go_at_call 128; refine HC.out.mono ?_; rintro e w1 ⟨a1, c1, rfl, ho1, hb1⟩)
  go_ret
  exact ⟨a1, c1, rfl, ho1, hb1⟩
set_option maxRecDepth 100000 in
set_option maxHeartbeats 800000 in
theorem stmt_21 (n : Nat) (b o : Nat) (s : ByteArray) (ka : Option Addr) (kc : Nat) (w : World) (hn : n ≤ 100000) (hN : Nd w b o 21 s (.slice ka n kc)) :
    Calls Tryz.prog 102 #[.pointer (some ⟨b, o, none⟩)] w (PartsP (Pl.stmtP 21 s n) w) := by
  have x0 := hN.c0
  have x1 := hN.c1
  have x3 := hN.c3
  have HC := Lib.hid (expr_21 n b o s ka kc w hn hN)
  go_enter Tryz.func102, Tryz.ntmps102
  go_wp2_with (go_at_call 128; refine HC.out.mono ?_; rintro e w1 ⟨a1, c1, rfl, ho1, hb1⟩)
  go_ret
  exact ⟨a1, c1, rfl, ho1, hb1⟩
set_option maxRecDepth 100000 in
set_option maxHeartbeats 800000 in
theorem stmt_22 (n : Nat) (b o : Nat) (s : ByteArray) (ka : Option Addr) (kc : Nat) (w : World) (hn : n ≤ 100000) (hN : Nd w b o 22 s (.slice ka n kc)) :
    Calls Tryz.prog 102 #[.pointer (some ⟨b, o, none⟩)] w (PartsP (Pl.stmtP 22 s n) w) := by
  have x0 := hN.c0
  have x1 := hN.c1
  have x3 := hN.c3
  have HC := Lib.hid (expr_22 n b o s ka kc w hn hN)
  go_enter Tryz.func102, Tryz.ntmps102
  go_wp2_with (go_at_call 128; refine HC.out.mono ?_; rintro e w1 ⟨a1, c1, rfl, ho1, hb1⟩)
  go_ret
  exact ⟨a1, c1, rfl, ho1, hb1⟩
set_option maxRecDepth 100000 in
set_option maxHeartbeats 800000 in
theorem stmt_23 (n : Nat) (b o : Nat) (s : ByteArray) (ka : Option Addr) (kc : Nat) (w : World) (hN : Nd w b o 23 s (.slice ka n kc)) :
    Calls Tryz.prog 102 #[.pointer (some ⟨b, o, none⟩)] w (PartsP (Pl.stmtP 23 s n) w) := by
  have x0 := hN.c0
  have x1 := hN.c1
  have x3 := hN.c3
  have HC := Lib.hid (expr_23 n b o s ka kc w hN)
  go_enter Tryz.func102, Tryz.ntmps102
  go_wp2_with (go_at_call 128; refine HC.out.mono ?_; rintro e w1 ⟨a1, c1, rfl, ho1, hb1⟩)
  go_ret
  exact ⟨a1, c1, rfl, ho1, hb1⟩
set_option maxRecDepth 100000 in
set_option maxHeartbeats 800000 in
theorem stmt_24 (n : Nat) (b o : Nat) (s : ByteArray) (ka : Option Addr) (kc : Nat) (w : World) (hN : Nd w b o 24 s (.slice ka n kc)) :
    Calls Tryz.prog 102 #[.pointer (some ⟨b, o, none⟩)] w (PartsP (Pl.stmtP 24 s n) w) := by
  have x0 := hN.c0
  have x1 := hN.c1
  have x3 := hN.c3
  have HC := Lib.hid (expr_24 n b o s ka kc w hN)
  go_enter Tryz.func102, Tryz.ntmps102
  go_wp2_with (go_at_call 128; refine HC.out.mono ?_; rintro e w1 ⟨a1, c1, rfl, ho1, hb1⟩)
  go_ret
  exact ⟨a1, c1, rfl, ho1, hb1⟩
set_option maxRecDepth 100000 in
set_option maxHeartbeats 800000 in
theorem stmt_25 (n : Nat) (b o : Nat) (s : ByteArray) (ka : Option Addr) (kc : Nat) (w : World) (hN : Nd w b o 25 s (.slice ka n kc)) :
    Calls Tryz.prog 102 #[.pointer (some ⟨b, o, none⟩)] w (PartsP (Pl.stmtP 25 s n) w) := by
  have x0 := hN.c0
  have x1 := hN.c1
  have x3 := hN.c3
  have HC := Lib.hid (expr_25 n b o s ka kc w hN)
  go_enter Tryz.func102, Tryz.ntmps102
  go_wp2_with (go_at_call 128; refine HC.out.mono ?_; rintro e w1 ⟨a1, c1, rfl, ho1, hb1⟩)
  go_ret
  exact ⟨a1, c1, rfl, ho1, hb1⟩
set_option maxRecDepth 100000 in
set_option maxHeartbeats 800000 in
theorem stmt_26 (n : Nat) (b o : Nat) (s : ByteArray) (ka : Option Addr) (kc : Nat) (w : World) (hN : Nd w b o 26 s (.slice ka n kc)) :
    Calls Tryz.prog 102 #[.pointer (some ⟨b, o, none⟩)] w (PartsP (Pl.stmtP 26 s n) w) := by
  have x0 := hN.c0
  have x1 := hN.c1
  have x3 := hN.c3
  have HC := Lib.hid (expr_26 n b o s ka kc w hN)
  go_enter Tryz.func102, Tryz.ntmps102
  go_wp2_with (go_at_call 128; refine HC.out.mono ?_; rintro e w1 ⟨a1, c1, rfl, ho1, hb1⟩)
  go_ret
  exact ⟨a1, c1, rfl, ho1, hb1⟩
end Go.Proofs.YtiaajpdcacdngaaGreatDoor
