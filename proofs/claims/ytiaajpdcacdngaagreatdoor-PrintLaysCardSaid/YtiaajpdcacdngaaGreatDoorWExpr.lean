/- The walk of expressionParts, kind by kind. -/
import Derived.Test.YtiaajpdcacdngaaGreatDoorWBody
import Derived.Deep.RegionHeld3
namespace Go.Proofs.YtiaajpdcacdngaaGreatDoor
open Go.RowKit
set_option linter.unusedVariables false
set_option linter.unusedSimpArgs false

theorem PartsP.row {f : FuncId} {args : Array Value} {w : World} {ps : List Pl.Part} {m : Nat} (h : Calls Tryz.prog f args w (PartsP ps w)) (hm : m = ps.length) : Calls Tryz.prog f args w (RowP m ps w) := by subst hm; exact h
theorem list_0 (n : Nat) (b o : Nat) (k : Int) (s : ByteArray) (ka : Option Addr) (kc : Nat) (w : World) (hn : n ≤ 100000) (hN : Nd w b o k s (.slice ka n kc)) :
    Calls Tryz.prog 99 #[.pointer (some ⟨b, o, none⟩), .int .i64 0] w (PartsP (Pl.listP 0 n) w) := list_any 0 n b o k s ka kc w hn (by decide) hN
theorem list_1 (n : Nat) (b o : Nat) (k : Int) (s : ByteArray) (ka : Option Addr) (kc : Nat) (w : World) (hn : n ≤ 100000) (hN : Nd w b o k s (.slice ka n kc)) :
    Calls Tryz.prog 99 #[.pointer (some ⟨b, o, none⟩), .int .i64 1] w (PartsP (Pl.listP 1 n) w) := list_any 1 n b o k s ka kc w hn (by decide) hN
theorem kids_0 (n : Nat) (g : ByteArray) (b o : Nat) (k : Int) (s : ByteArray) (ka : Option Addr) (kc : Nat) (w : World) (hn : n ≤ 100000) (hN : Nd w b o k s (.slice ka n kc)) :
    Calls Tryz.prog 96 #[.pointer (some ⟨b, o, none⟩), .int .i64 0, .string g] w (PartsP (Pl.kidsP 0 n g) w) := kids_any 0 n g b o k s ka kc w hn (by decide) hN
theorem body_0 (n L : Nat) (b o : Nat) (k : Int) (s : ByteArray) (ka : Option Addr) (kc : Nat) (w : World) (hn : n ≤ 100000) (hL : L ≤ 1000) (hN : Nd w b o k s (.slice ka n kc)) :
    Calls Tryz.prog 100 #[.pointer (some ⟨b, o, none⟩), .int .i64 0, .int .i64 (L : Nat)] w (PartsP (Pl.bodyP 0 n L) w) := body_any 0 n L b o k s ka kc w hn (by decide) hL hN
theorem body_1 (n L : Nat) (b o : Nat) (k : Int) (s : ByteArray) (ka : Option Addr) (kc : Nat) (w : World) (hn : n ≤ 100000) (hL : L ≤ 1000) (hN : Nd w b o k s (.slice ka n kc)) :
    Calls Tryz.prog 100 #[.pointer (some ⟨b, o, none⟩), .int .i64 1, .int .i64 (L : Nat)] w (PartsP (Pl.bodyP 1 n L) w) := body_any 1 n L b o k s ka kc w hn (by decide) hL hN
theorem listP_pos (first n : Nat) : 0 < (Pl.listP first n).length := by unfold Pl.listP; simp
theorem listP_le (first n : Nat) : (Pl.listP first n).length ≤ 2 * n + 2 := by
  have := commasP_le first n
  unfold Pl.listP; rw [List.length_cons, List.length_append, List.length_singleton]; omega
theorem bodyP_pos (first n L : Nat) : 0 < (Pl.bodyP first n L).length := by unfold Pl.bodyP; split <;> simp
theorem bodyP_le (first n L : Nat) : (Pl.bodyP first n L).length ≤ n + 1 := by
  unfold Pl.bodyP
  split
  · simp
  · rw [List.length_append, kidsP_len]; simp only [List.length_cons, List.length_nil]; omega
set_option maxRecDepth 100000 in
set_option maxHeartbeats 800000 in
theorem expr_20 (n : Nat) (b o : Nat) (s : ByteArray) (ka : Option Addr) (kc : Nat) (w : World) (hn : n ≤ 100000) (hN : Nd w b o 20 s (.slice ka n kc)) :
    Calls Tryz.prog 128 #[.pointer (some ⟨b, o, none⟩)] w (PartsP (Pl.exprP 20 s n) w) := by
  obtain ⟨i0, hi0, hz0, hz1, hz2⟩ := info_parts infoP
  have HNd := Lib.hid hN
  have x0 := hN.c0
  have x1 := hN.c1
  have x3 := hN.c3
  have hblt := hN.lt
  obtain ⟨m, hm⟩ : ∃ m, m = (Pl.listP 0 n).length := ⟨_, rfl⟩
  have hpos : 0 < m := by rw [hm]; exact listP_pos _ _
  have hmb : m ≤ 300000 := by rw [hm]; exact Nat.le_trans (listP_le _ _) (by omega)
  have hlm : (row3 (Pl.listP 0 n)).length = m * 3 := by rw [row3_len, hm]
  have HLM := Lib.hid hlm
  have HC := Lib.hid (fun w1 (hb : Below w.heap.size w w1) => PartsP.row (m := m) (list_0 n b o 20 s ka kc w1 hn (HNd.out.later hb)) hm)
  have hlen : (Pl.exprP 20 s n).length = 1 + m := by (show ([Pl.pown ⟨#[]⟩ s] ++ Pl.listP 0 n).length = _); rw [List.length_append, ← hm]; rfl
  have hrow : row3 (Pl.exprP 20 s n) = row3 [Pl.pown ⟨#[]⟩ s] ++ row3 (Pl.listP 0 n) := by (show row3 ([Pl.pown ⟨#[]⟩ s] ++ Pl.listP 0 n) = _); rw [row3_append]
  unfold PartsP Parts
  rw [hlen, hrow]
  clear hlen hrow hm hlm hN
  go_enter Tryz.func128, Tryz.ntmps128
  go_wp2_with (first
    | (at_builtin; refine wpList_append_lies _ rfl _ _ 86 rfl w.heap.size 89 i0 _ 3 40 Tryz.underlying86 hi0 hz0 hz1 hz2 rfl (by decide) (.slice (some ⟨w1.heap.size, 0, none⟩) 1 1) 1 _ rfl HL9.out
         ⟨g9, 0, none⟩ m c9 (row3 (Pl.listP 0 n)) rfl HLM.out HC9.out (row3_one _) hpos (by unfold maxLen; omega) (by omega) (by omega) w9.heap.size rfl ?_
       intro gg cap w10 hown hgrow hat3 hlt3
       have HOwn := Lib.hid hown
       have HGrow := Lib.hid hgrow
       clear hown hgrow hat3)
    | (go_at_call 99; have HL : Hid (Parts w.heap.size (w1.alloc (.cells #[.string ⟨#[]⟩, .string s, .int .i64 (-1)] 89)) (.slice (some ⟨w1.heap.size, 0, none⟩) 1 1) [Pl.pown ⟨#[]⟩ s]) := Lib.hid (parts_lit w1 [Pl.pown ⟨#[]⟩ s] #[.string ⟨#[]⟩, .string s, .int .i64 (-1)] 1 rfl rfl w.heap.size hs1 (by decide)); refine (HC.out _ (HB1.out.alloc hs1 _)).mono ?_; rintro e w9 ⟨a9, c9, rfl, ho9, hb9⟩; obtain ⟨g9, rfl, hB9, hl9, hc9⟩ := owns_addr ho9 hpos; have HC9 := Lib.hid hc9; have HL9 := Lib.hid (owns_later HL.out hb9); have hs9 := hb9.size; simp at hs9; have HBW := Lib.hid ((HB1.out.alloc hs1 _).trans (hb9.mono (by simp; omega))); clear ho9 hb9 hc9)
    | (go_at_call 97; refine (pown_is _ _ _).mono ?_; rintro e w1 ⟨rfl, hb1⟩; have HB1 : Hid (Below w.heap.size w w1) := Lib.hid (hb1); have hs1 := HB1.out.size; clear hb1))
  go_ret
  exact ⟨_, _, rfl, HOwn.out, HBW.out.grown HGrow.out (by omega) (fun q hq => (HL9.out.lt q hq).1)⟩
set_option maxRecDepth 100000 in
set_option maxHeartbeats 800000 in
theorem expr_21 (n : Nat) (b o : Nat) (s : ByteArray) (ka : Option Addr) (kc : Nat) (w : World) (hn : n ≤ 100000) (hN : Nd w b o 21 s (.slice ka n kc)) :
    Calls Tryz.prog 128 #[.pointer (some ⟨b, o, none⟩)] w (PartsP (Pl.exprP 21 s n) w) := by
  obtain ⟨i0, hi0, hz0, hz1, hz2⟩ := info_parts infoP
  have HNd := Lib.hid hN
  have x0 := hN.c0
  have x1 := hN.c1
  have hblt := hN.lt
  obtain ⟨m, hm⟩ : ∃ m, m = (Pl.listP 1 n).length := ⟨_, rfl⟩
  have hpos : 0 < m := by rw [hm]; exact listP_pos _ _
  have hmb : m ≤ 300000 := by rw [hm]; exact Nat.le_trans (listP_le _ _) (by omega)
  have hlm : (row3 (Pl.listP 1 n)).length = m * 3 := by rw [row3_len, hm]
  have HLM := Lib.hid hlm
  have HC := Lib.hid (fun w1 (hb : Below w.heap.size w w1) => PartsP.row (m := m) (list_1 n b o 21 s ka kc w1 hn (HNd.out.later hb)) hm)
  have hlen : (Pl.exprP 21 s n).length = 3 + m := by (show ([Pl.pkid ⟨#[]⟩ 0, Pl.pown ⟨#[]⟩ ⟨#[46]⟩, Pl.pown ⟨#[]⟩ s] ++ Pl.listP 1 n).length = _); rw [List.length_append, ← hm]; rfl
  have hrow : row3 (Pl.exprP 21 s n) = row3 [Pl.pkid ⟨#[]⟩ 0, Pl.pown ⟨#[]⟩ ⟨#[46]⟩, Pl.pown ⟨#[]⟩ s] ++ row3 (Pl.listP 1 n) := by (show row3 ([Pl.pkid ⟨#[]⟩ 0, Pl.pown ⟨#[]⟩ ⟨#[46]⟩, Pl.pown ⟨#[]⟩ s] ++ Pl.listP 1 n) = _); rw [row3_append]
  unfold PartsP Parts
  rw [hlen, hrow]
  clear hlen hrow hm hlm hN
  go_enter Tryz.func128, Tryz.ntmps128
  go_wp2_with fail
  have d1 : w.drew.cell? ⟨b, o + 1, none⟩ = some (.string s) := x1
  go_region_law
    ((first
      | (have gV := HLV; clear gV; refine step_append_lies _ (by rfl) _ _ _ (by rfl) w.heap.size 89 i0 _ 3 40 Tryz.underlying86 hi0 hz0 hz1 hz2 rfl (by decide) (.slice (some ⟨w9.heap.size, 0, none⟩) 3 3) 3 _ (by rfl) HLV.out ⟨g9, 0, none⟩ m c9 (row3 (Pl.listP 1 n)) (by rfl) HLM.out HCV.out (row3_one _) hpos (by unfold maxLen; omega) (by omega) (by simp; omega) (w9.heap.size + 1) (by simp) ?_; intro gg cap w10 hown hgrow hat3 hlt3; have HOwn := Lib.hid hown; have HGrow := Lib.hid hgrow; clear hown hgrow hat3)
      | (refine step_append_lies _ (by rfl) _ _ _ (by rfl) w.heap.size 89 i0 _ 3 40 Tryz.underlying86 hi0 hz0 hz1 hz2 rfl (by decide) (.slice (some ⟨w3.heap.size, 0, none⟩) 3 3) 3 _ (by rfl) HL9.out ⟨g9, 0, none⟩ m c9 (row3 (Pl.listP 1 n)) (by rfl) HLM.out HC9.out (row3_one _) hpos (by unfold maxLen; omega) (by omega) (by omega) w9.heap.size rfl ?_; intro gg cap w10 hown hgrow hat3 hlt3; have HOwn := Lib.hid hown; have HGrow := Lib.hid hgrow; clear hown hgrow hat3)
      | (go_simp; go_at_call 99; refine (HC.out _ HB3.out).mono ?_; rintro e w9 ⟨a9, c9, rfl, ho9, hb9⟩; obtain ⟨g9, rfl, hB9, hl9, hc9⟩ := owns_addr ho9 hpos; have hs9 := hb9.size; have hbw := HB3.out.trans (hb9.mono hs3); have HBV : Hid (Below w.heap.size w (w9.alloc (.cells #[.string ⟨#[]⟩, .string ⟨#[]⟩, .int .i64 0, .string ⟨#[]⟩, .string ⟨#[46]⟩, .int .i64 (-1), .string ⟨#[]⟩, .string s, .int .i64 (-1)] 89))) := Lib.hid (hbw.alloc (by omega) _); have HLV : Hid (Parts w.heap.size (w9.alloc (.cells #[.string ⟨#[]⟩, .string ⟨#[]⟩, .int .i64 0, .string ⟨#[]⟩, .string ⟨#[46]⟩, .int .i64 (-1), .string ⟨#[]⟩, .string s, .int .i64 (-1)] 89)) (.slice (some ⟨w9.heap.size, 0, none⟩) 3 3) [Pl.pkid ⟨#[]⟩ 0, Pl.pown ⟨#[]⟩ ⟨#[46]⟩, Pl.pown ⟨#[]⟩ s]) := Lib.hid (parts_lit w9 [Pl.pkid ⟨#[]⟩ 0, Pl.pown ⟨#[]⟩ ⟨#[46]⟩, Pl.pown ⟨#[]⟩ s] #[.string ⟨#[]⟩, .string ⟨#[]⟩, .int .i64 0, .string ⟨#[]⟩, .string ⟨#[46]⟩, .int .i64 (-1), .string ⟨#[]⟩, .string s, .int .i64 (-1)] 3 rfl rfl w.heap.size (by omega) (by show 3 ≤ 100; decide)); have HCV : Hid (∀ j u, (row3 (Pl.listP 1 n))[j]? = some u → (w9.alloc (.cells #[.string ⟨#[]⟩, .string ⟨#[]⟩, .int .i64 0, .string ⟨#[]⟩, .string ⟨#[46]⟩, .int .i64 (-1), .string ⟨#[]⟩, .string s, .int .i64 (-1)] 89)).cell? ((⟨g9, 0, none⟩ : Addr).add j) = some u) := Lib.hid ((owns_addr (ho9.alloc _) hpos).elim fun g h => by obtain ⟨h1, _, _, h4⟩ := h; cases h1; exact h4); have e9 := (hbw.cell (p := ⟨b, o + 1, none⟩) hblt).trans x1; clear ho9 hb9 hc9 hbw)
      | (go_simp; go_at_call 99; have HL : Hid (Parts w.heap.size (w3.alloc (.cells #[.string ⟨#[]⟩, .string ⟨#[]⟩, .int .i64 0, .string ⟨#[]⟩, .string ⟨#[46]⟩, .int .i64 (-1), .string ⟨#[]⟩, .string s, .int .i64 (-1)] 89)) (.slice (some ⟨w3.heap.size, 0, none⟩) 3 3) [Pl.pkid ⟨#[]⟩ 0, Pl.pown ⟨#[]⟩ ⟨#[46]⟩, Pl.pown ⟨#[]⟩ s]) := Lib.hid (parts_lit w3 [Pl.pkid ⟨#[]⟩ 0, Pl.pown ⟨#[]⟩ ⟨#[46]⟩, Pl.pown ⟨#[]⟩ s] #[.string ⟨#[]⟩, .string ⟨#[]⟩, .int .i64 0, .string ⟨#[]⟩, .string ⟨#[46]⟩, .int .i64 (-1), .string ⟨#[]⟩, .string s, .int .i64 (-1)] 3 rfl rfl w.heap.size hs3 (by show 3 ≤ 100; decide)); refine (HC.out _ (HB3.out.alloc hs3 _)).mono ?_; rintro e w9 ⟨a9, c9, rfl, ho9, hb9⟩; obtain ⟨g9, rfl, hB9, hl9, hc9⟩ := owns_addr ho9 hpos; have HC9 := Lib.hid hc9; have HL9 := Lib.hid (owns_later HL.out hb9); have hs9 := hb9.size; simp at hs9; have HBW := Lib.hid ((HB3.out.alloc hs3 _).trans (hb9.mono (by simp; omega))); have e9 := (HBW.out.cell (p := ⟨b, o + 1, none⟩) hblt).trans x1; clear ho9 hb9 hc9)
      | (go_simp; go_at_call 97; have g := HB2; clear g; refine (pown_is _ _ _).mono ?_; rintro e w3 ⟨rfl, hb3⟩; have e3 := (hb3.cell (p := ⟨b, o + 1, none⟩) (by show b < _; omega)).trans e2; have HB3 : Hid (Below w.heap.size w w3) := Lib.hid (HB2.out.trans (hb3.mono HB2.out.size)); have hs3 := HB3.out.size; clear hb3)
      | (go_simp; go_at_call 97; have g := HB1; clear g; refine (pown_is _ _ _).mono ?_; rintro e w2 ⟨rfl, hb2⟩; have e2 := (hb2.cell (p := ⟨b, o + 1, none⟩) (by show b < _; omega)).trans e1; have HB2 : Hid (Below w.heap.size w w2) := Lib.hid (HB1.out.trans (hb2.mono HB1.out.size)); have hs2 := HB2.out.size; clear hb2)
      | (go_simp; go_at_call 98; refine (kid_is _ _ _).mono ?_; rintro e w1 ⟨rfl, hb1⟩; have e1 := (hb1.cell (p := ⟨b, o + 1, none⟩) hblt).trans d1; have HB1 : Hid (Below w.heap.size w w1) := Lib.hid ((Below.refl w.heap.size w).drew.trans hb1); have hs1 := HB1.out.size; clear hb1)))
  all_goals go_wp2_with fail
  all_goals go_ret
  all_goals first
    | exact ⟨_, _, rfl, HOwn.out, HBW.out.grown HGrow.out (by omega) (fun q hq => (HL9.out.lt q hq).1)⟩
    | exact ⟨_, _, rfl, HOwn.out, HBV.out.grown HGrow.out (by simp; omega) (fun q hq => (HLV.out.lt q hq).1)⟩
set_option maxRecDepth 100000 in
set_option maxHeartbeats 800000 in
theorem expr_22 (n : Nat) (b o : Nat) (s : ByteArray) (ka : Option Addr) (kc : Nat) (w : World) (hn : n ≤ 100000) (hN : Nd w b o 22 s (.slice ka n kc)) :
    Calls Tryz.prog 128 #[.pointer (some ⟨b, o, none⟩)] w (PartsP (Pl.exprP 22 s n) w) := by
  obtain ⟨i0, hi0, hz0, hz1, hz2⟩ := info_parts infoP
  have HNd := Lib.hid hN
  have x0 := hN.c0
  have x1 := hN.c1
  have hblt := hN.lt
  obtain ⟨m, hm⟩ : ∃ m, m = (Pl.listP 0 n).length := ⟨_, rfl⟩
  have hpos : 0 < m := by rw [hm]; exact listP_pos _ _
  have hmb : m ≤ 300000 := by rw [hm]; exact Nat.le_trans (listP_le _ _) (by omega)
  have hlm : (row3 (Pl.listP 0 n)).length = m * 3 := by rw [row3_len, hm]
  have HLM := Lib.hid hlm
  have HC := Lib.hid (fun w1 (hb : Below w.heap.size w w1) => PartsP.row (m := m) (list_0 n b o 22 s ka kc w1 hn (HNd.out.later hb)) hm)
  have hlen : (Pl.exprP 22 s n).length = 2 + m := by (show ([Pl.pown ⟨#[]⟩ ⟨#[110, 101, 119]⟩, Pl.pown ⟨#[32]⟩ s] ++ Pl.listP 0 n).length = _); rw [List.length_append, ← hm]; rfl
  have hrow : row3 (Pl.exprP 22 s n) = row3 [Pl.pown ⟨#[]⟩ ⟨#[110, 101, 119]⟩, Pl.pown ⟨#[32]⟩ s] ++ row3 (Pl.listP 0 n) := by (show row3 ([Pl.pown ⟨#[]⟩ ⟨#[110, 101, 119]⟩, Pl.pown ⟨#[32]⟩ s] ++ Pl.listP 0 n) = _); rw [row3_append]
  unfold PartsP Parts
  rw [hlen, hrow]
  clear hlen hrow hm hlm hN
  go_enter Tryz.func128, Tryz.ntmps128
  go_wp2_with fail
  have d1 : w.drew.cell? ⟨b, o + 1, none⟩ = some (.string s) := x1
  go_region_law
    ((first
      | (have gV := HLV; clear gV; refine step_append_lies _ (by rfl) _ _ _ (by rfl) w.heap.size 89 i0 _ 3 40 Tryz.underlying86 hi0 hz0 hz1 hz2 rfl (by decide) (.slice (some ⟨w9.heap.size, 0, none⟩) 2 2) 2 _ (by rfl) HLV.out ⟨g9, 0, none⟩ m c9 (row3 (Pl.listP 0 n)) (by rfl) HLM.out HCV.out (row3_one _) hpos (by unfold maxLen; omega) (by omega) (by simp; omega) (w9.heap.size + 1) (by simp) ?_; intro gg cap w10 hown hgrow hat3 hlt3; have HOwn := Lib.hid hown; have HGrow := Lib.hid hgrow; clear hown hgrow hat3)
      | (refine step_append_lies _ (by rfl) _ _ _ (by rfl) w.heap.size 89 i0 _ 3 40 Tryz.underlying86 hi0 hz0 hz1 hz2 rfl (by decide) (.slice (some ⟨w2.heap.size, 0, none⟩) 2 2) 2 _ (by rfl) HL9.out ⟨g9, 0, none⟩ m c9 (row3 (Pl.listP 0 n)) (by rfl) HLM.out HC9.out (row3_one _) hpos (by unfold maxLen; omega) (by omega) (by omega) w9.heap.size rfl ?_; intro gg cap w10 hown hgrow hat3 hlt3; have HOwn := Lib.hid hown; have HGrow := Lib.hid hgrow; clear hown hgrow hat3)
      | (go_simp; go_at_call 99; refine (HC.out _ HB2.out).mono ?_; rintro e w9 ⟨a9, c9, rfl, ho9, hb9⟩; obtain ⟨g9, rfl, hB9, hl9, hc9⟩ := owns_addr ho9 hpos; have hs9 := hb9.size; have hbw := HB2.out.trans (hb9.mono hs2); have HBV : Hid (Below w.heap.size w (w9.alloc (.cells #[.string ⟨#[]⟩, .string ⟨#[110, 101, 119]⟩, .int .i64 (-1), .string ⟨#[32]⟩, .string s, .int .i64 (-1)] 89))) := Lib.hid (hbw.alloc (by omega) _); have HLV : Hid (Parts w.heap.size (w9.alloc (.cells #[.string ⟨#[]⟩, .string ⟨#[110, 101, 119]⟩, .int .i64 (-1), .string ⟨#[32]⟩, .string s, .int .i64 (-1)] 89)) (.slice (some ⟨w9.heap.size, 0, none⟩) 2 2) [Pl.pown ⟨#[]⟩ ⟨#[110, 101, 119]⟩, Pl.pown ⟨#[32]⟩ s]) := Lib.hid (parts_lit w9 [Pl.pown ⟨#[]⟩ ⟨#[110, 101, 119]⟩, Pl.pown ⟨#[32]⟩ s] #[.string ⟨#[]⟩, .string ⟨#[110, 101, 119]⟩, .int .i64 (-1), .string ⟨#[32]⟩, .string s, .int .i64 (-1)] 2 rfl rfl w.heap.size (by omega) (by show 2 ≤ 100; decide)); have HCV : Hid (∀ j u, (row3 (Pl.listP 0 n))[j]? = some u → (w9.alloc (.cells #[.string ⟨#[]⟩, .string ⟨#[110, 101, 119]⟩, .int .i64 (-1), .string ⟨#[32]⟩, .string s, .int .i64 (-1)] 89)).cell? ((⟨g9, 0, none⟩ : Addr).add j) = some u) := Lib.hid ((owns_addr (ho9.alloc _) hpos).elim fun g h => by obtain ⟨h1, _, _, h4⟩ := h; cases h1; exact h4); have e9 := (hbw.cell (p := ⟨b, o + 1, none⟩) hblt).trans x1; clear ho9 hb9 hc9 hbw)
      | (go_simp; go_at_call 99; have HL : Hid (Parts w.heap.size (w2.alloc (.cells #[.string ⟨#[]⟩, .string ⟨#[110, 101, 119]⟩, .int .i64 (-1), .string ⟨#[32]⟩, .string s, .int .i64 (-1)] 89)) (.slice (some ⟨w2.heap.size, 0, none⟩) 2 2) [Pl.pown ⟨#[]⟩ ⟨#[110, 101, 119]⟩, Pl.pown ⟨#[32]⟩ s]) := Lib.hid (parts_lit w2 [Pl.pown ⟨#[]⟩ ⟨#[110, 101, 119]⟩, Pl.pown ⟨#[32]⟩ s] #[.string ⟨#[]⟩, .string ⟨#[110, 101, 119]⟩, .int .i64 (-1), .string ⟨#[32]⟩, .string s, .int .i64 (-1)] 2 rfl rfl w.heap.size hs2 (by show 2 ≤ 100; decide)); refine (HC.out _ (HB2.out.alloc hs2 _)).mono ?_; rintro e w9 ⟨a9, c9, rfl, ho9, hb9⟩; obtain ⟨g9, rfl, hB9, hl9, hc9⟩ := owns_addr ho9 hpos; have HC9 := Lib.hid hc9; have HL9 := Lib.hid (owns_later HL.out hb9); have hs9 := hb9.size; simp at hs9; have HBW := Lib.hid ((HB2.out.alloc hs2 _).trans (hb9.mono (by simp; omega))); have e9 := (HBW.out.cell (p := ⟨b, o + 1, none⟩) hblt).trans x1; clear ho9 hb9 hc9)
      | (go_simp; go_at_call 97; have g := HB1; clear g; refine (pown_is _ _ _).mono ?_; rintro e w2 ⟨rfl, hb2⟩; have e2 := (hb2.cell (p := ⟨b, o + 1, none⟩) (by show b < _; omega)).trans e1; have HB2 : Hid (Below w.heap.size w w2) := Lib.hid (HB1.out.trans (hb2.mono HB1.out.size)); have hs2 := HB2.out.size; clear hb2)
      | (go_simp; go_at_call 97; refine (pown_is _ _ _).mono ?_; rintro e w1 ⟨rfl, hb1⟩; have e1 := (hb1.cell (p := ⟨b, o + 1, none⟩) hblt).trans d1; have HB1 : Hid (Below w.heap.size w w1) := Lib.hid ((Below.refl w.heap.size w).drew.trans hb1); have hs1 := HB1.out.size; clear hb1)))
  all_goals go_wp2_with fail
  all_goals go_ret
  all_goals first
    | exact ⟨_, _, rfl, HOwn.out, HBW.out.grown HGrow.out (by omega) (fun q hq => (HL9.out.lt q hq).1)⟩
    | exact ⟨_, _, rfl, HOwn.out, HBV.out.grown HGrow.out (by simp; omega) (fun q hq => (HLV.out.lt q hq).1)⟩
set_option maxRecDepth 100000 in
set_option maxHeartbeats 800000 in
theorem expr_24 (n : Nat) (b o : Nat) (s : ByteArray) (ka : Option Addr) (kc : Nat) (w : World) (hN : Nd w b o 24 s (.slice ka n kc)) :
    Calls Tryz.prog 128 #[.pointer (some ⟨b, o, none⟩)] w (PartsP (Pl.exprP 24 s n) w) := by
  have x0 := hN.c0
  have x1 := hN.c1
  have hblt := hN.lt
  go_enter Tryz.func128, Tryz.ntmps128
  go_wp2_with fail
  have d1 : w.drew.cell? ⟨b, o + 1, none⟩ = some (.string s) := x1
  go_region_held3 (fun w' => w'.cell? ⟨b, o + 1, none⟩ = some (.string s))
    (first | with_reducible exact d1 | with_reducible exact e1 | with_reducible exact e2 | with_reducible exact e3 | go_keep)
    ((first
      | (go_at_call 98; have g := HB2; clear g; refine (kid_is _ _ _).mono ?_; rintro e w3 ⟨rfl, hb3⟩; have e3 := (hb3.cell (p := ⟨b, o + 1, none⟩) (by show b < _; omega)).trans e2; have HB3 : Hid (Below w.heap.size w w3) := Lib.hid (HB2.out.trans (hb3.mono HB2.out.size)); have hs3 := HB3.out.size; clear hb3)
      | (go_at_call 97; have g := HB1; clear g; refine (pown_is _ _ _).mono ?_; rintro e w2 ⟨rfl, hb2⟩; have e2 := (hb2.cell (p := ⟨b, o + 1, none⟩) (by show b < _; omega)).trans e1; have HB2 : Hid (Below w.heap.size w w2) := Lib.hid (HB1.out.trans (hb2.mono HB1.out.size)); have hs2 := HB2.out.size; clear hb2)
      | (go_at_call 98; refine (kid_is _ _ _).mono ?_; rintro e w1 ⟨rfl, hb1⟩; have e1 := (hb1.cell (p := ⟨b, o + 1, none⟩) hblt).trans d1; have HB1 : Hid (Below w.heap.size w w1) := Lib.hid ((Below.refl w.heap.size w).drew.trans hb1); have hs1 := HB1.out.size; clear hb1)))
  all_goals go_wp2_with fail
  all_goals go_ret
  all_goals exact ⟨_, _, rfl, parts_lit w3 (Pl.exprP 24 s n) _ _ rfl rfl w.heap.size HB3.out.size (by show 3 ≤ 100; decide), HB3.out.alloc HB3.out.size _⟩
set_option maxRecDepth 100000 in
set_option maxHeartbeats 800000 in
theorem expr_25 (n : Nat) (b o : Nat) (s : ByteArray) (ka : Option Addr) (kc : Nat) (w : World) (hN : Nd w b o 25 s (.slice ka n kc)) :
    Calls Tryz.prog 128 #[.pointer (some ⟨b, o, none⟩)] w (PartsP (Pl.exprP 25 s n) w) := by
  have x0 := hN.c0
  have x1 := hN.c1
  have hblt := hN.lt
  go_enter Tryz.func128, Tryz.ntmps128
  go_wp2_with (first
    | (go_at_call 98; have g := HB1; clear g; refine (kid_is _ _ _).mono ?_; rintro e w2 ⟨rfl, hb2⟩; have HB2 : Hid (Below w.heap.size w w2) := Lib.hid (HB1.out.trans (hb2.mono HB1.out.size)); have hs2 := HB2.out.size; clear hb2)
    | (go_at_call 97; refine (pown_is _ _ _).mono ?_; rintro e w1 ⟨rfl, hb1⟩; have HB1 : Hid (Below w.heap.size w w1) := Lib.hid (hb1); have hs1 := HB1.out.size; clear hb1))
  go_ret
  exact ⟨_, _, rfl, parts_lit w2 (Pl.exprP 25 s n) _ _ rfl rfl w.heap.size HB2.out.size (by show 2 ≤ 100; decide), HB2.out.alloc HB2.out.size _⟩
set_option maxRecDepth 100000 in
set_option maxHeartbeats 800000 in
theorem expr_26 (n : Nat) (b o : Nat) (s : ByteArray) (ka : Option Addr) (kc : Nat) (w : World) (hN : Nd w b o 26 s (.slice ka n kc)) :
    Calls Tryz.prog 128 #[.pointer (some ⟨b, o, none⟩)] w (PartsP (Pl.exprP 26 s n) w) := by
  have x0 := hN.c0
  have x1 := hN.c1
  have hblt := hN.lt
  go_enter Tryz.func128, Tryz.ntmps128
  go_wp2_with (first
    | (go_at_call 97; have g := HB2; clear g; refine (pown_is _ _ _).mono ?_; rintro e w3 ⟨rfl, hb3⟩; have HB3 : Hid (Below w.heap.size w w3) := Lib.hid (HB2.out.trans (hb3.mono HB2.out.size)); have hs3 := HB3.out.size; clear hb3)
    | (go_at_call 98; have g := HB1; clear g; refine (kid_is _ _ _).mono ?_; rintro e w2 ⟨rfl, hb2⟩; have HB2 : Hid (Below w.heap.size w w2) := Lib.hid (HB1.out.trans (hb2.mono HB1.out.size)); have hs2 := HB2.out.size; clear hb2)
    | (go_at_call 97; refine (pown_is _ _ _).mono ?_; rintro e w1 ⟨rfl, hb1⟩; have HB1 : Hid (Below w.heap.size w w1) := Lib.hid (hb1); have hs1 := HB1.out.size; clear hb1))
  go_ret
  exact ⟨_, _, rfl, parts_lit w3 (Pl.exprP 26 s n) _ _ rfl rfl w.heap.size HB3.out.size (by show 3 ≤ 100; decide), HB3.out.alloc HB3.out.size _⟩
set_option maxRecDepth 100000 in
set_option maxHeartbeats 800000 in
theorem expr_5 (n : Nat) (b o : Nat) (s : ByteArray) (ka : Option Addr) (kc : Nat) (w : World) (hN : Nd w b o 5 s (.slice ka n kc)) :
    Calls Tryz.prog 128 #[.pointer (some ⟨b, o, none⟩)] w (PartsP (Pl.exprP 5 s n) w) := by
  have x0 := hN.c0
  have x1 := hN.c1
  have hblt := hN.lt
  go_enter Tryz.func128, Tryz.ntmps128
  go_wp2_with (first
    | (go_at_call 97; refine (pown_is _ _ _).mono ?_; rintro e w1 ⟨rfl, hb1⟩; have HB1 : Hid (Below w.heap.size w w1) := Lib.hid (hb1); have hs1 := HB1.out.size; clear hb1))
  go_ret
  exact ⟨_, _, rfl, parts_lit w1 (Pl.exprP 5 s n) _ _ rfl rfl w.heap.size HB1.out.size (by show 1 ≤ 100; decide), HB1.out.alloc HB1.out.size _⟩
set_option maxRecDepth 100000 in
set_option maxHeartbeats 800000 in
theorem expr_17 (n : Nat) (b o : Nat) (s : ByteArray) (ka : Option Addr) (kc : Nat) (w : World) (hN : Nd w b o 17 s (.slice ka n kc)) :
    Calls Tryz.prog 128 #[.pointer (some ⟨b, o, none⟩)] w (PartsP (Pl.exprP 17 s n) w) := by
  have x0 := hN.c0
  have x1 := hN.c1
  have hblt := hN.lt
  go_enter Tryz.func128, Tryz.ntmps128
  go_wp2_with (first
    | (go_at_call 97; refine (pown_is _ _ _).mono ?_; rintro e w1 ⟨rfl, hb1⟩; have HB1 : Hid (Below w.heap.size w w1) := Lib.hid (hb1); have hs1 := HB1.out.size; clear hb1))
  go_ret
  exact ⟨_, _, rfl, parts_lit w1 (Pl.exprP 17 s n) _ _ rfl rfl w.heap.size HB1.out.size (by show 1 ≤ 100; decide), HB1.out.alloc HB1.out.size _⟩
set_option maxRecDepth 100000 in
set_option maxHeartbeats 800000 in
theorem expr_18 (n : Nat) (b o : Nat) (s : ByteArray) (ka : Option Addr) (kc : Nat) (w : World) (hN : Nd w b o 18 s (.slice ka n kc)) :
    Calls Tryz.prog 128 #[.pointer (some ⟨b, o, none⟩)] w (PartsP (Pl.exprP 18 s n) w) := by
  have x0 := hN.c0
  have x1 := hN.c1
  have hblt := hN.lt
  go_enter Tryz.func128, Tryz.ntmps128
  go_wp2_with (first
    | (go_at_call 97; refine (pown_is _ _ _).mono ?_; rintro e w1 ⟨rfl, hb1⟩; have HB1 : Hid (Below w.heap.size w w1) := Lib.hid (hb1); have hs1 := HB1.out.size; clear hb1))
  go_ret
  exact ⟨_, _, rfl, parts_lit w1 (Pl.exprP 18 s n) _ _ rfl rfl w.heap.size HB1.out.size (by show 1 ≤ 100; decide), HB1.out.alloc HB1.out.size _⟩
set_option maxRecDepth 100000 in
set_option maxHeartbeats 800000 in
theorem expr_19 (n : Nat) (b o : Nat) (s : ByteArray) (ka : Option Addr) (kc : Nat) (w : World) (hN : Nd w b o 19 s (.slice ka n kc)) :
    Calls Tryz.prog 128 #[.pointer (some ⟨b, o, none⟩)] w (PartsP (Pl.exprP 19 s n) w) := by
  have x0 := hN.c0
  have x1 := hN.c1
  have hblt := hN.lt
  go_enter Tryz.func128, Tryz.ntmps128
  go_wp2_with (first
    | (go_at_call 97; refine (pown_is _ _ _).mono ?_; rintro e w1 ⟨rfl, hb1⟩; have HB1 : Hid (Below w.heap.size w w1) := Lib.hid (hb1); have hs1 := HB1.out.size; clear hb1))
  go_ret
  exact ⟨_, _, rfl, parts_lit w1 (Pl.exprP 19 s n) _ _ rfl rfl w.heap.size HB1.out.size (by show 1 ≤ 100; decide), HB1.out.alloc HB1.out.size _⟩
set_option maxRecDepth 100000 in
set_option maxHeartbeats 800000 in
theorem expr_23 (n : Nat) (b o : Nat) (s : ByteArray) (ka : Option Addr) (kc : Nat) (w : World) (hN : Nd w b o 23 s (.slice ka n kc)) :
    Calls Tryz.prog 128 #[.pointer (some ⟨b, o, none⟩)] w (PartsP (Pl.exprP 23 s n) w) := by
  have x0 := hN.c0
  have x1 := hN.c1
  have hblt := hN.lt
  go_enter Tryz.func128, Tryz.ntmps128
  go_wp2_with (first
    | (go_at_call 97; refine (pown_is _ _ _).mono ?_; rintro e w1 ⟨rfl, hb1⟩; have HB1 : Hid (Below w.heap.size w w1) := Lib.hid (hb1); have hs1 := HB1.out.size; clear hb1))
  go_ret
  exact ⟨_, _, rfl, parts_lit w1 (Pl.exprP 23 s n) _ _ rfl rfl w.heap.size HB1.out.size (by show 1 ≤ 100; decide), HB1.out.alloc HB1.out.size _⟩
end Go.Proofs.YtiaajpdcacdngaaGreatDoor
