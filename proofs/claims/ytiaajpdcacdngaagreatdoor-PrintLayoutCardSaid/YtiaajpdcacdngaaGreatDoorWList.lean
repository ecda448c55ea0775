/- The walk of list. -/
import Derived.Test.YtiaajpdcacdngaaGreatDoorWKids
namespace Go.Proofs.YtiaajpdcacdngaaGreatDoor
open Go.RowKit
set_option linter.unusedVariables false
set_option linter.unusedSimpArgs false

theorem app3 (a : List Value) (b : List Value) (c : List Value) : a ++ b ++ c = a ++ (b ++ c) := List.append_assoc ..
def openP : Pl.Part := Pl.pown ⟨#[]⟩ ⟨#[40]⟩
set_option maxRecDepth 100000 in
set_option maxHeartbeats 1600000 in
theorem list_any (first n : Nat) (b o : Nat) (k : Int) (s : ByteArray) (ka : Option Addr) (kc : Nat) (w : World) (hn : n ≤ 100000) (hf : first ≤ 1) (hN : Nd w b o k s (.slice ka n kc)) :
    Calls Tryz.prog 99 #[.pointer (some ⟨b, o, none⟩), .int .i64 (first : Nat)] w (PartsP (Pl.listP first n) w) := by
  obtain ⟨i0, hi0, hz0, hz1, hz2⟩ := info_parts infoP
  have HNd := Lib.hid hN
  have hlt0 := hN.lt
  clear hN
  go_enter Tryz.func99, Tryz.ntmps99
  go_wp2_with ((go_at_call 97; refine (pown_is _ _ _).mono ?_; rintro e w1 ⟨rfl, hb1⟩; have HB1 := Lib.hid hb1; have hs1 := hb1.size; clear hb1))
  have HL0 := Lib.hid (parts_lit w1 [openP] #[.string ⟨#[]⟩, .string ⟨#[40]⟩, .int .i64 (-1)] 1 rfl rfl w.heap.size hs1 (by decide))
  go_loopw [5, 6] (fun l i wr => ∃ (j : Nat) (a : Option Addr) (m c : Nat), first ≤ j ∧ (j ≤ n ∨ j = first) ∧ i = .int .i64 j ∧ l = .slice a m c ∧ Hid (m = (Pl.commasP first j).length + 1) ∧ Hid (wr.ownsRow w.heap.size 89 3 (.slice a m c) m (row3 ([openP] ++ Pl.commasP first j))) ∧ Hid (Below w.heap.size w wr)) (fun _ i _ => n - (intOf i).toNat)
  case atStart => exact ⟨first, _, 1, _, Nat.le_refl _, .inr rfl, rfl, rfl, Lib.hid (by rw [commasP_none _ _ (Nat.le_refl _)]; rfl), Lib.hid (by rw [commasP_none _ _ (Nat.le_refl _)]; exact HL0.out), Lib.hid (HB1.out.alloc hs1 _)⟩
  case round =>
    obtain ⟨j, a, m, c, hj0, hj1, rfl, rfl, HM, HO, HB⟩ := hrel
    have x3 := (HNd.out.later HB.out).c3
    have hwz := HB.out.size
    have hmb : m ≤ 300000 := by
      have := HM.out
      have := commasP_le first j
      omega
    by_cases hlt : j < n
    · by_cases hfj : first < j
      · have d1 : decide ((first : Int) < j) = true := decide_eq_true (by omega)
        have d2 : decide (first < j) = true := decide_eq_true hfj
        go_wp2_with (first
          | (go_at_call 97; refine (pown_is _ _ _).mono ?_; rintro e w2 ⟨rfl, hb2⟩; have HB2 := Lib.hid hb2; have hs2 := hb2.size; clear hb2)
          | (go_at_call 98; refine (kid_is _ _ _).mono ?_; rintro e w4 ⟨rfl, hb4⟩; have HB4 := Lib.hid hb4; have hs4 := hb4.size; clear hb4)
          | (at_builtin; have g4 := HB4; clear g4; refine wpList_append_lies _ rfl _ _ 86 rfl w.heap.size 89 i0 _ 3 40 Tryz.underlying86 hi0 hz0 hz1 hz2 rfl (by decide) _ _ _ rfl ((owns_later HOwn.out HB4.out).alloc _)
              ⟨w4.heap.size, 0, none⟩ 1 1 [.string ⟨#[32]⟩, .string ⟨#[]⟩, .int .i64 j] rfl rfl (news_part _ _ _ _) (one_part _ _ _) (by decide) (by unfold maxLen; omega) (by omega) (by simp; omega) (w4.heap.size + 1) (by simp) ?_
             intro gg5 cap5 w5 hown5 hgrow5 hat5 hlt5
             have HOwn5 := Lib.hid hown5
             have HGrow5 := Lib.hid hgrow5
             clear hown5 hgrow5 hat5)
          | (at_builtin; refine wpList_append_lies _ rfl _ _ 86 rfl w.heap.size 89 i0 _ 3 40 Tryz.underlying86 hi0 hz0 hz1 hz2 rfl (by decide) (.slice a m c) m _ rfl ((owns_later HO.out HB2.out).alloc _)
              ⟨w2.heap.size, 0, none⟩ 1 1 [.string ⟨#[]⟩, .string ⟨#[44]⟩, .int .i64 (-1)] rfl rfl (news_part _ _ _ _) (one_part _ _ _) (by decide) (by unfold maxLen; omega) (by omega) (by simp; omega) (w2.heap.size + 1) (by simp) ?_
             intro gg cap w3 hown hgrow hat3 hlt3
             have HOwn := Lib.hid hown
             have HGrow := Lib.hid hgrow
             have hs3 := hgrow.size
             simp at hs3
             clear hown hgrow hat3))
        refine ⟨⟨j + 1, some ⟨gg5, 0, none⟩, m + 1 + 1, cap5, by omega, .inl (by omega), by go_num, rfl, Lib.hid ?_, Lib.hid ?_, Lib.hid ?_⟩, by simp [intOf]; omega⟩
        · have := HM.out
          rw [commasP_snoc _ _ hj0, if_pos hfj, List.length_append]; simp only [List.length_cons, List.length_nil]; omega
        · rw [commasP_snoc _ _ hj0, if_pos hfj, ← List.append_assoc, row3_append]
          have := HOwn5.out
          rw [app3] at this
          exact this
        · refine (((((HB.out.trans (HB2.out.mono hwz)).alloc (by omega) _).grown HGrow.out (by simp; omega) (fun q hq => (HO.out.lt q hq).1)).trans (HB4.out.mono (by omega))).alloc (by omega) _).grown HGrow5.out (by simp; omega) (fun q hq => (HOwn.out.lt q hq).1)
      · have d1 : decide ((first : Int) < j) = false := decide_eq_false (by omega)
        have d2 : decide (first < j) = false := decide_eq_false hfj
        go_wp2_with (first
          | (go_at_call 98; refine (kid_is _ _ _).mono ?_; rintro e w2 ⟨rfl, hb2⟩; have HB2 := Lib.hid hb2; have hs2 := hb2.size; clear hb2)
          | (at_builtin; refine wpList_append_lies _ rfl _ _ 86 rfl w.heap.size 89 i0 _ 3 40 Tryz.underlying86 hi0 hz0 hz1 hz2 rfl (by decide) (.slice a m c) m _ rfl ((owns_later HO.out HB2.out).alloc _)
              ⟨w2.heap.size, 0, none⟩ 1 1 [.string ⟨#[]⟩, .string ⟨#[]⟩, .int .i64 j] rfl rfl (news_part _ _ _ _) (one_part _ _ _) (by decide) (by unfold maxLen; omega) (by omega) (by simp; omega) (w2.heap.size + 1) (by simp) ?_
             intro gg cap w3 hown hgrow hat3 hlt3
             have HOwn := Lib.hid hown
             have HGrow := Lib.hid hgrow
             clear hown hgrow hat3))
        refine ⟨⟨j + 1, some ⟨gg, 0, none⟩, m + 1, cap, by omega, .inl (by omega), by go_num, rfl, Lib.hid ?_, Lib.hid ?_, Lib.hid ?_⟩, by simp [intOf]; omega⟩
        · have := HM.out
          rw [commasP_snoc _ _ hj0, if_neg hfj, List.length_append]; simp only [List.length_cons, List.length_nil]; omega
        · rw [commasP_snoc _ _ hj0, if_neg hfj, ← List.append_assoc, row3_append]; exact HOwn.out
        · exact ((HB.out.trans (HB2.out.mono hwz)).alloc (by omega) _).grown HGrow.out (by simp; omega) (fun q hq => (HO.out.lt q hq).1)
    · go_wp2_with (first
        | (go_at_call 97; refine (pown_is _ _ _).mono ?_; rintro e w2 ⟨rfl, hb2⟩; have HB2 := Lib.hid hb2; have hs2 := hb2.size; clear hb2)
        | (at_builtin; refine wpList_append_lies _ rfl _ _ 86 rfl w.heap.size 89 i0 _ 3 40 Tryz.underlying86 hi0 hz0 hz1 hz2 rfl (by decide) (.slice a m c) m _ rfl ((owns_later HO.out HB2.out).alloc _)
            ⟨w2.heap.size, 0, none⟩ 1 1 [.string ⟨#[]⟩, .string ⟨#[41]⟩, .int .i64 (-1)] rfl rfl (news_part _ _ _ _) (one_part _ _ _) (by decide) (by unfold maxLen; omega) (by omega) (by simp; omega) (w2.heap.size + 1) (by simp) ?_
           intro gg cap w3 hown hgrow hat3 hlt3
           have HOwn := Lib.hid hown
           have HGrow := Lib.hid hgrow
           clear hown hgrow hat3))
      go_ret
      have e : Pl.commasP first n = Pl.commasP first j := by
        rcases hj1 with h | h
        · rw [show n = j from by omega]
        · rw [commasP_none first n (by omega), commasP_none first j (by omega)]
      have hl : (Pl.listP first n).length = m + 1 := by
        unfold Pl.listP
        rw [e, List.length_cons, List.length_append, List.length_singleton, ← HM.out]
      have hrow : row3 (Pl.listP first n) = row3 ([openP] ++ Pl.commasP first j) ++ [.string ⟨#[]⟩, .string ⟨#[41]⟩, .int .i64 (-1)] := by
        unfold Pl.listP
        rw [e, show (Pl.pown ⟨#[]⟩ ⟨#[40]⟩ :: (Pl.commasP first j ++ [Pl.pown ⟨#[]⟩ ⟨#[41]⟩])) = ([openP] ++ Pl.commasP first j) ++ [Pl.pown ⟨#[]⟩ ⟨#[41]⟩] from rfl, row3_append]; rfl
      unfold PartsP Parts
      rw [hl, hrow]
      exact ⟨_, _, rfl, HOwn.out, ((HB.out.trans (HB2.out.mono hwz)).alloc (by omega) _).grown HGrow.out (by simp; omega) (fun q hq => (HO.out.lt q hq).1)⟩
end Go.Proofs.YtiaajpdcacdngaaGreatDoor
