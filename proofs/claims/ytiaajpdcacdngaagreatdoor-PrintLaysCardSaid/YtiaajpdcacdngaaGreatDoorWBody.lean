/- The walks of newLine, body and assignment. -/
import Derived.Test.YtiaajpdcacdngaaGreatDoorWList
namespace Go.Proofs.YtiaajpdcacdngaaGreatDoor
open Go.RowKit
set_option linter.unusedVariables false
set_option linter.unusedSimpArgs false

theorem repeat_tabs (c : Nat) : Lib.repeatL [9] c = List.replicate c 9 := by
  induction c with
  | zero => rfl
  | succ c ih => first | (show [9] ++ Lib.repeatL [9] c = _; rw [ih]; rfl) | (rw [Lib.repeatL] at ih ⊢; simp)
theorem nl_cat (c : Nat) : (⟨#[10]⟩ : ByteArray) ++ ⟨(Lib.repeatL [9] c).toArray⟩ = Pl.nl c := by
  apply Pl.list_ext
  unfold Pl.nl
  rw [Pl.mk_list, ByteArray.data_append, Array.toList_append, repeat_tabs]
  simp
set_option maxHeartbeats 400000 in
theorem newLine_is (c : Nat) (w : World) (hc : c ≤ 1000000) :
    Calls Tryz.prog 127 #[.int .i64 (c : Nat)] w fun e w' => e = .returned (.string (Pl.nl c)) ∧ Below w.heap.size w w' := by
  have hsz : (⟨(Lib.repeatL (⟨#[9]⟩ : ByteArray).data.toList c).toArray⟩ : ByteArray).size ≤ 1000000 := by
    rw [Lib.size_eq]
    show (Lib.repeatL [9] c).toArray.toList.length ≤ _
    rw [List.toList_toArray, repeat_tabs, List.length_replicate]; exact hc
  have HN := Lib.hid (nl_cat c)
  have HR := Lib.hid (Tryz.strings_Repeat ⟨#[9]⟩ c w (by omega) (by show 1 * c ≤ _; omega))
  obtain ⟨x, hx⟩ : ∃ x, x = (⟨(Lib.repeatL (⟨#[9]⟩ : ByteArray).data.toList c).toArray⟩ : ByteArray) := ⟨_, rfl⟩
  have HN2 : Hid ((⟨#[10]⟩ : ByteArray) ++ x = Pl.nl c) := Lib.hid (by rw [hx]; exact HN.out)
  rw [← hx] at hsz HR
  clear hx
  go_enter Tryz.func127, Tryz.ntmps127
  go_wp2_with (go_at_call 140; refine HR.out.mono ?_; rintro e w2 ⟨rfl, hb2⟩; have HB2 := Lib.hid hb2; clear hb2)
  go_ret
  exact ⟨by rw [← HN2.out]; rfl, HB2.out⟩
/-- What kids answers, its length named. -/
def RowP (m : Nat) (ps : List Pl.Part) (w : World) (e : Ending) (w' : World) : Prop := ∃ a c, e = .returned (.slice a m c) ∧ w'.ownsRow w.heap.size 89 3 (.slice a m c) m (row3 ps) ∧ Below w.heap.size w w'
theorem kids_len (first n m : Nat) (g : ByteArray) (b o : Nat) (k : Int) (s : ByteArray) (ka : Option Addr) (kc : Nat) (w : World) (hn : n ≤ 100000) (hf : first ≤ 1) (hN : Nd w b o k s (.slice ka n kc)) (hm : m = n - first) :
    Calls Tryz.prog 96 #[.pointer (some ⟨b, o, none⟩), .int .i64 (first : Nat), .string g] w (RowP m (Pl.kidsP first n g) w) := by
  have h := kids_any first n g b o k s ka kc w hn hf hN
  unfold PartsP Parts at h
  rw [kidsP_len, ← hm] at h
  exact h
theorem owns_addr {w : World} {B n : Nat} {e : TypeId} {size : Nat} {a : Option Addr} {c : Nat} {xs : List Value} (h : w.ownsRow B e size (.slice a n c) n xs) (hn : 0 < n) : ∃ g, a = some ⟨g, 0, none⟩ ∧ B ≤ g ∧ g < w.heap.size ∧ ∀ j u, xs[j]? = some u → w.cell? ((⟨g, 0, none⟩ : Addr).add j) = some u := by
  rcases h.2 with ⟨_, h0⟩ | ⟨g, cap, cur, he, hB, hh, _⟩
  · omega
  · injection he with h1 h2 h3
    exact ⟨g, h1, hB, lt_blk hh, h.cells (by rw [h1]; rfl)⟩
set_option maxRecDepth 100000 in
set_option maxHeartbeats 1600000 in
theorem body_any (first n L : Nat) (b o : Nat) (k : Int) (s : ByteArray) (ka : Option Addr) (kc : Nat) (w : World) (hn : n ≤ 100000) (hf : first ≤ 1) (hL : L ≤ 1000) (hN : Nd w b o k s (.slice ka n kc)) :
    Calls Tryz.prog 100 #[.pointer (some ⟨b, o, none⟩), .int .i64 (first : Nat), .int .i64 (L : Nat)] w (PartsP (Pl.bodyP first n L) w) := by
  obtain ⟨i0, hi0, hz0, hz1, hz2⟩ := info_parts infoP
  have HNd := Lib.hid hN
  have hlt0 := hN.lt
  have hL1 : (L : Int) + 1 = ((L + 1 : Nat) : Int) := by omega
  have HL1 := Lib.hid hL1
  have HC : Hid (∀ w, Calls Tryz.prog 127 #[.int .i64 ((L : Int) + 1)] w fun e w' => e = .returned (.string (Pl.nl (L + 1))) ∧ Below w.heap.size w w') := Lib.hid (fun w => by rw [hL1]; exact newLine_is (L + 1) w (by omega))
  clear hN hL1
  obtain ⟨g1, hg1⟩ : ∃ g1, g1 = Pl.nl (L + 1) := ⟨_, rfl⟩
  rw [← hg1] at HC
  have HG1 := Lib.hid hg1
  clear hg1
  by_cases hnf : n ≤ first
  · have HK := Lib.hid (fun w1 (hb : Below w.heap.size w w1) => kids_len first n 0 g1 b o k s ka kc w1 hn hf (HNd.out.later hb) (by omega))
    unfold Pl.bodyP
    rw [if_pos hnf]
    clear hnf
    go_enter Tryz.func100, Tryz.ntmps100
    go_wp2_with (first
      | (go_at_call 127; refine (HC.out _).mono ?_; rintro e w1 ⟨rfl, hb1⟩; have HB1 := Lib.hid hb1; clear hb1)
      | (go_at_call 96; refine (HK.out _ HB1.out).mono ?_; rintro e w2 ⟨a2, c2, rfl, ho2, hb2⟩; have HO2 := Lib.hid ho2; have HB2 := Lib.hid (HB1.out.trans (hb2.mono HB1.out.size)); clear ho2 hb2)
      | (go_at_call 97; refine (pown_is _ _ _).mono ?_; rintro e w3 ⟨rfl, hb3⟩; have HB3 := Lib.hid (HB2.out.trans (hb3.mono HB2.out.size)); clear hb3))
    go_ret
    exact ⟨_, _, rfl, parts_lit w3 _ _ _ rfl rfl w.heap.size HB3.out.size (by decide), HB3.out.alloc HB3.out.size _⟩
  · obtain ⟨m, hm⟩ : ∃ m, m = n - first := ⟨_, rfl⟩
    have HK := Lib.hid (fun w1 (hb : Below w.heap.size w w1) => kids_len first n m g1 b o k s ka kc w1 hn hf (HNd.out.later hb) hm)
    have HN2 : Hid (∀ w, Calls Tryz.prog 127 #[.int .i64 (L : Nat)] w fun e w' => e = .returned (.string (Pl.nl L)) ∧ Below w.heap.size w w') := Lib.hid (fun w => newLine_is L w (by omega))
    have hm0 : 0 < m := by omega
    have hmb : m ≤ 100000 := by omega
    have hne : ((m : Int) == 0) = false := beq_eq_false_iff_ne.2 (by omega)
    have hlen : (Pl.bodyP first n L).length = m + 1 := by unfold Pl.bodyP; rw [if_neg hnf, List.length_append, kidsP_len, ← hm]; rfl
    have hrow : row3 (Pl.bodyP first n L) = row3 (Pl.kidsP first n g1) ++ [.string (Pl.nl L), .string ⟨#[125]⟩, .int .i64 (-1)] := by
      unfold Pl.bodyP; rw [if_neg hnf, row3_append, HG1.out]; rfl
    unfold PartsP Parts
    rw [hlen, hrow]
    clear hlen hrow hnf hm
    go_enter Tryz.func100, Tryz.ntmps100
    go_wp2_with (first
      | (go_at_call 127; have g := HB2; clear g; refine (HN2.out _).mono ?_; rintro e w3 ⟨rfl, hb3⟩; have HB3 := Lib.hid (HB2.out.trans (hb3.mono HB2.out.size)); have HO3 := Lib.hid (owns_later HO2.out hb3); clear hb3)
      | (go_at_call 127; refine (HC.out _).mono ?_; rintro e w1 ⟨rfl, hb1⟩; have HB1 := Lib.hid hb1; clear hb1)
      | (go_at_call 96; refine (HK.out _ HB1.out).mono ?_; rintro e w2 ⟨a2, c2, rfl, ho2, hb2⟩; have HO2 := Lib.hid (owns_low ho2 HB1.out.size); have HB2 := Lib.hid (HB1.out.trans (hb2.mono HB1.out.size)); clear ho2 hb2)
      | (go_at_call 97; refine (pown_is _ _ _).mono ?_; rintro e w4 ⟨rfl, hb4⟩; have HB4 := Lib.hid (HB3.out.trans (hb4.mono HB3.out.size)); have HO4 := Lib.hid (owns_later HO3.out hb4); have hs4 := HB4.out.size; clear hb4)
      | (at_builtin; refine wpList_append_lies _ rfl _ _ 86 rfl w.heap.size 89 i0 _ 3 40 Tryz.underlying86 hi0 hz0 hz1 hz2 rfl (by decide) (.slice a2 m c2) m _ rfl (HO4.out.alloc _)
          ⟨w4.heap.size, 0, none⟩ 1 1 [.string (Pl.nl L), .string ⟨#[125]⟩, .int .i64 (-1)] rfl rfl (news_part _ _ _ _) (one_part _ _ _) (by decide) (by unfold maxLen; omega) (by omega) (by simp; omega) (w4.heap.size + 1) (by simp) ?_
         intro gg cap w5 hown hgrow hat3 hlt3
         have HOwn := Lib.hid hown
         have HGrow := Lib.hid hgrow
         clear hown hgrow hat3))
    go_ret
    exact ⟨_, _, rfl, HOwn.out, (HB4.out.alloc hs4 _).grown HGrow.out (by simp; omega) (fun q hq => (HO4.out.lt q hq).1)⟩
set_option maxRecDepth 100000 in
set_option maxHeartbeats 800000 in
theorem assign_any (b o : Nat) (k : Int) (s : ByteArray) (kv : Value) (w : World) (hN : Nd w b o k s kv) :
    Calls Tryz.prog 101 #[.pointer (some ⟨b, o, none⟩)] w (PartsP (Pl.assignP s) w) := by
  have x1 := hN.c1
  go_enter Tryz.func101, Tryz.ntmps101
  go_wp2_with (first
    | (go_at_call 97; have g := HB3; clear g; refine (pown_is _ _ _).mono ?_; rintro e w4 ⟨rfl, hb4⟩; have HB4 := Lib.hid (HB3.out.trans (hb4.mono HB3.out.size)); clear hb4)
    | (go_at_call 98; refine (kid_is _ _ _).mono ?_; rintro e w3 ⟨rfl, hb3⟩; have HB3 := Lib.hid (HB2.out.trans (hb3.mono HB2.out.size)); clear hb3)
    | (go_at_call 97; have g := HB1; clear g; refine (pown_is _ _ _).mono ?_; rintro e w2 ⟨rfl, hb2⟩; have HB2 := Lib.hid (HB1.out.trans (hb2.mono HB1.out.size)); clear hb2)
    | (go_at_call 97; refine (pown_is _ _ _).mono ?_; rintro e w1 ⟨rfl, hb1⟩; have HB1 := Lib.hid hb1; clear hb1))
  go_ret
  exact ⟨_, _, rfl, parts_lit w4 (Pl.assignP s) _ _ rfl rfl w.heap.size HB4.out.size (by show 4 ≤ 100; decide), HB4.out.alloc HB4.out.size _⟩
end Go.Proofs.YtiaajpdcacdngaaGreatDoor
