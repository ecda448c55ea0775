/- The walk of Tokens. -/
import Derived.Test.YtebmmpepniokjaaDoorWalkKind
import Derived.Test.YtebmmpepniokjaaDoorWalkEnd
import Derived.Test.YtebmmpepniokjaaDoorWalkRow
namespace Go.Proofs.YtebmmpepniokjaaDoor
open Go.RowKit
set_option linter.unusedVariables false
set_option linter.unusedSimpArgs false

theorem rest_all (s : ByteArray) : rest s 0 = s.data.toList := by unfold rest; rw [List.drop_zero]
/-- What both functions Tokens answer: the tokens, or the offset at which none begins. -/
def Lexed (s : ByteArray) (w : World) (e : Ending) (w' : World) : Prop :=
  (∀ off, (Pl.tk s.data.toList 0).2 = some off → e = .returned (.tuple #[.slice none 0 0, .int .i64 1, .int .i64 (off : Nat)])) ∧
  ((Pl.tk s.data.toList 0).2 = none → ∃ v, e = .returned (.tuple #[v, .int .i64 0, .int .i64 0]) ∧ Reads w' v ((Pl.tk s.data.toList 0).1.map t4)) ∧ Below w.heap.size w w'
theorem end_at (s : ByteArray) (k : Nat) (m : Int) (hm : m = (k : Int) + (Pl.eo (rest s k) : Nat)) (w : World) (hs : s.size ≤ maxLen) (hk : k ≤ s.size) :
    Calls Tryd.prog 22 #[.string s, .int .i64 k] w fun e w' => e = .returned (.int .i64 m) ∧ Below w.heap.size w w' :=
  (end_in s k w hs hk).mono fun e w' ⟨he, hb⟩ => ⟨by rw [he, hm]; exact ret_int (by omega), hb⟩

theorem own_tok {w : World} {B n : Nat} {v : Value} {A : List Pl.Tok} {t : Pl.Tok} {k p : Int} {x y : ByteArray} (h : w.ownsRow B 32 4 v n (row4 (A.map t4) ++ [.int .i64 k, .string x, .string y, .int .i64 p])) (hn : n = A.length + 1) (hk : (t.k : Int) = k) (hp : (t.pos : Int) = p) (hx : Pl.mk t.lead = x) (hy : Pl.mk t.text = y) : Own w B v ((A ++ [t]).map t4) := by
  subst hn hk hp hx hy
  rw [List.map_append]
  exact own_snoc (t := t4 t) (L := A.map t4) h (by rw [List.length_map])

set_option maxHeartbeats 3200000 in
theorem toks_any (s : ByteArray) (w : World) (hs : s.size ≤ 65536) (hE : Errs w) :
    Calls Tryd.prog 11 #[.string s] w (Lexed s w) := by
  obtain ⟨i0, hi, hz0, hz1, hz2⟩ := info_parts Tryd.infoT
  have hs2 : s.size ≤ maxLen := by unfold maxLen; omega
  have HS := Lib.hid hs2
  have HE := Lib.hid hE
  have hN := Pl.tk_len s.data.toList 0
  rw [← Lib.size_eq] at hN
  obtain ⟨F, hF⟩ : ∃ F, F = Pl.tk s.data.toList 0 := ⟨_, rfl⟩
  have h0 : F = ([] ++ (Pl.tk (rest s 0) 0).1, (Pl.tk (rest s 0) 0).2) := by rw [hF, rest_all]; rfl
  unfold Lexed
  rw [← hF] at hN ⊢
  have H0 := Lib.hid h0
  have HN := Lib.hid hN
  clear hs2 hE hF h0 hN
  go_enter Tryd.func11, Tryd.ntmps11
  go_wp2_with fail
  go_loopw [5, 6] (fun l i wr => ∃ k : Nat, ∃ A, k ≤ s.size ∧ i = .int .i64 k ∧ F = (A ++ (Pl.tk (rest s k) k).1, (Pl.tk (rest s k) k).2) ∧ Own wr w.heap.size l (A.map t4) ∧ Below w.heap.size w wr) (fun _ i _ => s.size - (intOf i).toNat)
  case atStart => exact ⟨0, [], Nat.zero_le _, rfl, H0.out, own_nil _ _, Below.refl _ _⟩
  case round =>
    obtain ⟨k, A, hk, rfl, hsum, hown, hbel⟩ := hrel
    have hAl : A.length ≤ s.size + 1 := by
      have := HN.out
      rw [hsum] at this
      simp only [List.length_append] at this
      omega
    have hel := Pl.eo_le (rest s k)
    rw [rest_len] at hel
    obtain ⟨q, hh⟩ : ∃ q, q = Pl.eo (rest s k) := ⟨_, rfl⟩
    rw [← hh] at hel
    have HEND := Lib.hid (fun w => end_at s k ((k : Int) + (q : Nat)) (by rw [hh]) w HS.out hk)
    have hAm : (A.map t4).length ≤ s.size + 1 := by rw [List.length_map]; exact hAl
    have HW := Lib.hid hown
    have HB := Lib.hid hbel
    have hwz := hbel.size
    have hgo := own_ge hown
    have HG := Lib.hid hgo
    by_cases hfin : k + q = s.size
    · have hT := Pl.tk_end (rest s k) k (by rw [rest_len, ← hh]; omega)
      rw [hT, ← hh] at hsum
      have hx : Pl.mk (rest s k) = s.extract k s.size := by
        apply Pl.list_ext
        rw [Pl.mk_list, rest_ext]
      have HSUM := Lib.hid hsum
      have HX := Lib.hid hx
      clear hsum hT hown hbel hh hx hgo
      go_wp2_with (first | (go_at_call 22; refine (HEND.out _).mono ?_; rintro e w1 ⟨rfl, hb1⟩; have HW1 := Lib.hid (own_later HW.out hb1); have hz1w := hb1.size) | (at_builtin; refine wpList_append_own _ rfl _ _ 23 rfl w.heap.size 32 i0 (.agg #[.int .i64 0, .string ⟨#[]⟩, .string ⟨#[]⟩, .int .i64 0]) 4 48 Tryd.underlying23 hi hz0 hz1 hz2 rfl (by decide) _ _ _ rfl (World.ownsRow.alloc HW1.out _) ⟨w1.heap.size, 0, none⟩ 1 1 [.int .i64 4, .string (s.extract k s.size), .string ⟨#[]⟩, .int .i64 ((k : Int) + (q : Int))] rfl rfl (news4 _ _ _ _ _) (news4_cell _ _ _ _) (by unfold maxLen; omega) (by omega) (by simp; omega) ?_))
      intro v2 w2 hown2 hg2 _
      have hb2 : Below w.heap.size w w2 := ((HB.out.trans (hb1.mono hwz)).alloc (by omega) _).grown hg2 (by simp; omega) HG.out
      have HO := Lib.hid hown2
      clear hown2 hg2
      go_wp2_with fail
      go_ret3
      have hS := HSUM.out
      subst hS
      refine ⟨fun off h => (by cases h), fun _ => ⟨v2, rfl, ?_⟩, hb2⟩
      refine reads_own (B := w.heap.size) ?_
      exact own_tok HO.out (by simp) rfl (by simp) HX.out rfl
    · have hlt : k + q < s.size := by omega
      have hb0 : ((k : Int) + (q : Int) == (s.size : Int)) = false := beq_eq_false_iff_ne.2 (by omega)
      obtain ⟨kd, n, hf⟩ : ∃ kd n, Pl.fst (rest s (k + q)) = (kd, n) := ⟨_, _, rfl⟩
      have hd : (rest s k).drop q = rest s (k + q) := rest_rest s k q
      have hy : (s.extract (k + q) s.size).size ≤ 1099511627776 := by rw [Lib.size_eq, rest_ext, rest_len]; omega
      have HF := Lib.hid (fun w hE => first_is (s.extract (k + q) s.size) kd n (by rw [rest_ext]; exact hf) w hy hE)
      by_cases hk0 : kd = 0
      · subst hk0
        have hT := Pl.tk_bad (rest s k) k (by rw [rest_len, ← hh]; omega) (by rw [← hh, hd, hf])
        rw [hT, ← hh] at hsum
        have HSUM := Lib.hid hsum
        clear hsum hT hown hbel hh hgo hf hd hy
        go_wp2_with (first | (go_at_call 22; refine (HEND.out _).mono ?_; rintro e w1 ⟨rfl, hb1⟩; have hb01 := HB.out.trans (hb1.mono hwz); have HE1 := Lib.hid (HE.out.later hb01)) | (go_at_call 23; refine (HF.out _ HE1.out).mono ?_; rintro e w2 ⟨rfl, hb2⟩; have hb02 := hb01.trans (hb2.mono hb01.size)))
        go_ret3
        have hS := HSUM.out
        subst hS
        refine ⟨fun off h => ?_, fun h => (by cases h), hb02⟩
        obtain rfl : k + q = off := by simpa using h
        rfl
      · have hp := Pl.fst_pos (rest s (k + q)) (by rw [hf]; exact hk0)
        have hq2 := Pl.fst_le (rest s (k + q))
        rw [hf, rest_len] at hq2
        rw [hf] at hp
        simp only at hp hq2
        have hT := Pl.tk_go (rest s k) k (by rw [rest_len, ← hh]; omega) kd n (by rw [← hh, hd]; exact hf) hk0
        rw [← hh, hd, rest_rest s k (q + n)] at hT
        have hnum : k + (q + n) = k + q + n := by omega
        rw [hnum] at hT
        rw [hT, List.append_cons] at hsum
        have hx : Pl.mk ((rest s k).take q) = s.extract k (k + q) := by
          apply Pl.list_ext
          rw [Pl.mk_list, Pl.extract_list]; unfold rest; rw [List.drop_take, Nat.add_sub_cancel_left]
        have hx2 : Pl.mk ((rest s (k + q)).take n) = s.extract (k + q) (k + q + n) := by
          apply Pl.list_ext
          rw [Pl.mk_list, Pl.extract_list]; unfold rest; rw [List.drop_take, Nat.add_sub_cancel_left]
        have HSUM := Lib.hid hsum
        have HX := Lib.hid hx
        have HX2 := Lib.hid hx2
        have hk0b : ((kd : Int) == 0) = false := beq_eq_false_iff_ne.2 (by omega)
        clear hsum hT hown hbel hh hgo hf hd hy hx hx2 hk0
        go_wp2_with (first | (go_at_call 22; refine (HEND.out _).mono ?_; rintro e w1 ⟨rfl, hb1⟩; have hb01 := HB.out.trans (hb1.mono hwz); have HE1 := Lib.hid (HE.out.later hb01); have HW1 := Lib.hid (own_later HW.out hb1)) | (go_at_call 23; refine (HF.out _ HE1.out).mono ?_; rintro e w2 ⟨rfl, hb2⟩; have hb02 := hb01.trans (hb2.mono hb01.size); have hz2w := hb02.size; have HW2 := Lib.hid (own_later HW1.out hb2)) | (at_builtin; refine wpList_append_own _ rfl _ _ 23 rfl w.heap.size 32 i0 (.agg #[.int .i64 0, .string ⟨#[]⟩, .string ⟨#[]⟩, .int .i64 0]) 4 48 Tryd.underlying23 hi hz0 hz1 hz2 rfl (by decide) _ _ _ rfl (World.ownsRow.alloc HW2.out _) ⟨w2.heap.size, 0, none⟩ 1 1 [.int .i64 kd, .string (s.extract k (k + q)), .string (s.extract (k + q) (k + q + n)), .int .i64 ((k : Int) + (q : Int))] rfl rfl (news4 _ _ _ _ _) (news4_cell _ _ _ _) (by unfold maxLen; omega) (by omega) (by simp; omega) ?_))
        intro v2 w3 hown2 hg2 _
        have hb3 : Below w.heap.size w w3 := (hb02.alloc (by omega) _).grown hg2 (by simp; omega) HG.out
        have HO := Lib.hid hown2
        clear hown2 hg2
        go_wp2_with fail
        exact ⟨⟨k + q + n, _, by omega, by go_num, HSUM.out, own_tok HO.out (by simp) rfl (by simp) HX.out HX2.out, hb3⟩, by simp [intOf]; omega⟩
end Go.Proofs.YtebmmpepniokjaaDoor
