/- The walk of the reference's Tokens. -/
import Derived.Test.YtebmmpepniokjaaDoorWalkRefTok
import Derived.Test.YtebmmpepniokjaaDoorWalkRefEnd
import Derived.Test.YtebmmpepniokjaaDoorWalkToks
import Derived.Deep.RegionLaw
import Derived.Deep.AppendLies
namespace Go.Proofs.YtebmmpepniokjaaDoor
open Go.RowKit
set_option linter.unusedVariables false
set_option linter.unusedSimpArgs false

theorem rend_at (s : ByteArray) (k : Nat) (m : Int) (hm : m = (k : Int) + (Pl.eo (rest s k) : Nat)) (w : World) (hs : s.size ≤ maxLen) (hk : k ≤ s.size) :
    Calls Tryd.prog 24 #[.string s, .int .i64 k] w fun e w' => e = .returned (.int .i64 m) ∧ w = w' :=
  (rend_in s k w hs hk).mono fun e w' ⟨he, hb⟩ => ⟨by rw [he, hm]; exact ret_int (by omega), hb⟩

set_option maxHeartbeats 3200000 in
set_option maxRecDepth 100000 in
theorem rtoks_any (s : ByteArray) (w : World) (hs : s.size ≤ 65536) :
    Calls Tryd.prog 12 #[.string s] w (Lexed s w) := by
  obtain ⟨i0, hi, hz0, hz1, hz2⟩ := info_parts Tryd.infoT
  have hs2 : s.size ≤ maxLen := by unfold maxLen; omega
  have HS := Lib.hid hs2
  have hN := Pl.tk_len s.data.toList 0
  rw [← Lib.size_eq] at hN
  obtain ⟨F, hF⟩ : ∃ F, F = Pl.tk s.data.toList 0 := ⟨_, rfl⟩
  have h0 : F = ([] ++ (Pl.tk (rest s 0) 0).1, (Pl.tk (rest s 0) 0).2) := by rw [hF, rest_all]; rfl
  unfold Lexed
  rw [← hF] at hN ⊢
  have H0 := Lib.hid h0
  have HN := Lib.hid hN
  clear hs2 hF h0 hN
  go_enter Tryd.func12, Tryd.ntmps12
  go_wp2_with fail
  go_loopw [5, 6] (fun l i wr => ∃ k : Nat, ∃ A, k ≤ s.size ∧ i = .int .i64 k ∧ F = (A ++ (Pl.tk (rest s k) k).1, (Pl.tk (rest s k) k).2) ∧ Own wr w.heap.size l (A.map t4) ∧ Below w.heap.size w wr) (fun _ i _ => s.size - (intOf i).toNat)
  case atStart => exact ⟨0, [], Nat.zero_le _, rfl, H0.out, own_nil _ _, Below.refl _ _⟩
  case round =>
    obtain ⟨k, A, hk, rfl, hsum, hown, hbel⟩ := hrel
    have hAl : A.length ≤ s.size + 1 := by
      have := HN.out
      rw [hsum] at this
      simp only [List.length_append] at this
      omega
    have hel := Pl.eo_le (rest s k)
    rw [rest_len] at hel
    obtain ⟨q, hh⟩ : ∃ q, q = Pl.eo (rest s k) := ⟨_, rfl⟩
    rw [← hh] at hel
    have HEND := Lib.hid (fun w => rend_at s k ((k : Int) + (q : Nat)) (by rw [hh]) w HS.out hk)
    have hAm : (A.map t4).length ≤ s.size + 1 := by rw [List.length_map]; exact hAl
    have HW := Lib.hid hown
    have HB := Lib.hid hbel
    have hwz := hbel.size
    have hgo := own_ge hown
    have HG := Lib.hid hgo
    by_cases hfin : k + q = s.size
    · have hT := Pl.tk_end (rest s k) k (by rw [rest_len, ← hh]; omega)
      rw [hT, ← hh] at hsum
      have hx : Pl.mk (rest s k) = s.extract k s.size := by
        apply Pl.list_ext
        rw [Pl.mk_list, rest_ext]
      have HSUM := Lib.hid hsum
      have HX := Lib.hid hx
      clear hsum hT hown hbel hh hx hgo
      go_wp2_with (first | (go_at_call 24; refine (HEND.out _).mono ?_; rintro e w1 ⟨rfl, rfl⟩) | (at_builtin; refine wpList_append_own _ rfl _ _ 23 rfl w.heap.size 32 i0 (.agg #[.int .i64 0, .string ⟨#[]⟩, .string ⟨#[]⟩, .int .i64 0]) 4 48 Tryd.underlying23 hi hz0 hz1 hz2 rfl (by decide) _ _ _ rfl (World.ownsRow.alloc HW.out _) ⟨wr.heap.size, 0, none⟩ 1 1 [.int .i64 4, .string (s.extract k s.size), .string ⟨#[]⟩, .int .i64 s.size] rfl rfl (news4 _ _ _ _ _) (news4_cell _ _ _ _) (by unfold maxLen; omega) (by omega) (by simp; omega) ?_))
      intro v2 w2 hown2 hg2 _
      have hb2 : Below w.heap.size w w2 := (HB.out.alloc (by omega) _).grown hg2 (by simp; omega) HG.out
      have HO := Lib.hid hown2
      clear hown2 hg2
      go_wp2_with fail
      go_ret3
      have hS := HSUM.out
      subst hS
      refine ⟨fun off h => (by cases h), fun _ => ⟨v2, rfl, ?_⟩, hb2⟩
      refine reads_own (B := w.heap.size) ?_
      exact own_tok HO.out (by simp) rfl (by simp; omega) HX.out rfl
    · have hlt : k + q < s.size := by omega
      have hb0 : decide ((s.size : Int) ≤ (k : Int) + (q : Int)) = false := decide_eq_false (by omega)
      obtain ⟨kd, n, hf⟩ : ∃ kd n, Pl.fst (rest s (k + q)) = (kd, n) := ⟨_, _, rfl⟩
      have hd : (rest s k).drop q = rest s (k + q) := rest_rest s k q
      have HF := Lib.hid (fun (i : Int) (hi : i = ((k + q : Nat) : Int)) w => hi ▸ next_is s (k + q) kd n hf w HS.out (by unfold maxLen; omega))
      by_cases hk0 : kd = 0
      · subst hk0
        have hn0 : n = 0 := by have := Pl.fst_zero _ (by rw [hf]); rw [hf] at this; simpa using this
        subst hn0
        have hT := Pl.tk_bad (rest s k) k (by rw [rest_len, ← hh]; omega) (by rw [← hh, hd, hf])
        rw [hT, ← hh] at hsum
        have HSUM := Lib.hid hsum
        clear hsum hT hown hbel hh hgo hf hd
        go_wp2_with (first | (go_at_call 24; refine (HEND.out _).mono ?_; rintro e w1 ⟨rfl, rfl⟩) | (go_at_call 25; refine (HF.out _ (by omega) _).mono ?_; rintro e w2 ⟨rfl, rfl⟩))
        go_ret3
        have hS := HSUM.out
        subst hS
        refine ⟨fun off h => ?_, fun h => (by cases h), HB.out⟩
        obtain rfl : k + q = off := by simpa using h
        rfl
      · have hp := Pl.fst_pos (rest s (k + q)) (by rw [hf]; exact hk0)
        have hq2 := Pl.fst_le (rest s (k + q))
        rw [hf, rest_len] at hq2
        rw [hf] at hp
        simp only at hp hq2
        have hT := Pl.tk_go (rest s k) k (by rw [rest_len, ← hh]; omega) kd n (by rw [← hh, hd]; exact hf) hk0
        rw [← hh, hd, rest_rest s k (q + n)] at hT
        have hnum : k + (q + n) = k + q + n := by omega
        rw [hnum] at hT
        rw [hT, List.append_cons] at hsum
        have hx : Pl.mk ((rest s k).take q) = s.extract k (k + q) := by
          apply Pl.list_ext
          rw [Pl.mk_list, Pl.extract_list]; unfold rest; rw [List.drop_take, Nat.add_sub_cancel_left]
        have hx2 : Pl.mk ((rest s (k + q)).take n) = s.extract (k + q) (k + q + n) := by
          apply Pl.list_ext
          rw [Pl.mk_list, Pl.extract_list]; unfold rest; rw [List.drop_take, Nat.add_sub_cancel_left]
        have HSUM := Lib.hid hsum
        have HX := Lib.hid hx
        have HX2 := Lib.hid hx2
        have hk0b : ((kd : Int) == 0) = false := beq_eq_false_iff_ne.2 (by omega)
        have q1 : (0 : Int) ≤ (k : Int) := by omega
        have q2 : (k : Int) ≤ (k : Int) + (q : Int) := by omega
        have q3 : (k : Int) + (q : Int) ≤ (s.size : Int) := by omega
        have q4 : (k : Int) + (q : Int) ≤ (k : Int) + (q : Int) + (n : Int) := by omega
        have q6 : (0 : Int) ≤ (k : Int) + (q : Int) := by omega
        have q7 : (0 : Int) ≤ (k : Int) + (q : Int) + (n : Int) := by omega
        have q5 : (k : Int) + (q : Int) + (n : Int) ≤ (s.size : Int) := by omega
        have e1 : ((k : Int) + (q : Int)).toNat = k + q := by omega
        have e2 : ((k : Int) + (q : Int) + (n : Int)).toNat = k + q + n := by omega
        clear hsum hT hown hbel hh hgo hf hd hx hx2 hk0
        go_wp2_with (first | (go_at_call 24; refine (HEND.out _).mono ?_; rintro e w1 ⟨rfl, rfl⟩) | (go_at_call 25; refine (HF.out _ (by omega) _).mono ?_; rintro e w2 ⟨rfl, rfl⟩))
        go_region_law ((refine step_append_lies _ (by rfl) _ _ _ (by rfl) w.heap.size 32 i0 (.agg #[.int .i64 0, .string ⟨#[]⟩, .string ⟨#[]⟩, .int .i64 0]) 4 48 Tryd.underlying23 hi hz0 hz1 hz2 rfl (by omega) _ (A.map t4).length (row4 (A.map t4)) (by rfl) ((World.ownsRow.alloc HW.out _).drew) ⟨wr.heap.size, 0, none⟩ 1 1 [.int .i64 kd, .string (s.extract k (k + q)), .string (s.extract (k + q) (k + q + n)), .int .i64 ((k : Int) + (q : Int))] (by rfl) (by rfl) (World.news_of_block (cs := #[.int .i64 kd, .string (s.extract k (k + q)), .string (s.extract (k + q) (k + q + n)), .int .i64 ((k : Int) + (q : Int))]) (t := 32) (fr := (0, 0)) (heap_alloc_new _ _)) (news4_cell _ _ _ _) (by omega) (by unfold maxLen; omega) (by omega) (by simp; omega) (wr.heap.size + 1) (by simp) ?_; intro gg cap w1 hown1 hgrow hat hlt1))
        all_goals go_wp2_with fail
        all_goals
          have hb3 : Below w.heap.size w w1 := ((HB.out.alloc (by omega) _).drew).grown hgrow (by simp; omega) HG.out
          rw [List.length_map] at hown1
          exact ⟨⟨k + q + n, _, by omega, by go_num, HSUM.out, own_tok hown1 rfl rfl (by simp) HX.out HX2.out, hb3⟩, by simp [intOf]; omega⟩
end Go.Proofs.YtebmmpepniokjaaDoor
