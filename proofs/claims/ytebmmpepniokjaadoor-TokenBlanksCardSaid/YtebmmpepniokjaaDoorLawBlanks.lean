/- The walk of the law TokenBlanks. -/
import Derived.Test.YtebmmpepniokjaaDoorWalkAwake
namespace Go.Proofs.YtebmmpepniokjaaDoor
open Go.RowKit
set_option linter.unusedVariables false
set_option linter.unusedSimpArgs false

/-- The tokens of a source, as a row of n of them. -/
def Row (A : List Pl.Tok) (n : Nat) (w : World) (e : Ending) (w' : World) : Prop := ∃ b o c, e = .returned (.tuple #[.slice (some ⟨b, o, none⟩) n c, .int .i64 0, .int .i64 0]) ∧ b < w'.heap.size ∧ Toks w' b o (A.map t4) ∧ Below w.heap.size w w'
theorem tk_some (l : Pl.Bs) (off : Nat) (h : (Pl.tk l off).2 = none) : 0 < (Pl.tk l off).1.length := by
  obtain ⟨L, e, h1, _⟩ := Pl.tk_shape l off h
  rw [h1, List.length_append]; simp
theorem row_of (s : ByteArray) (A : List Pl.Tok) (n : Nat) (w : World) (hs : s.size ≤ 65536) (hE : Errs w) (hA : Pl.tk s.data.toList 0 = (A, none)) (hn : A.length = n) (h0 : 0 < n) :
    Calls Tryd.prog 11 #[.string s] w (Row A n w) := by
  refine (toks_any s w hs hE).mono fun e w' hx => ?_
  obtain ⟨b, o, c, h1, h2, h3, h4⟩ := lexed_row hx A hA (by omega)
  exact ⟨b, o, c, by rw [h1, List.length_map, hn], h2, h3, h4⟩
/-- A token of a row. -/
theorem toks_at {w : World} {b o k : Nat} {A : List Pl.Tok} (h : Toks w b o (A.map t4)) (hk : k < A.length) :
    w.cell? ⟨b, o + k * 4, none⟩ = some (.int .i64 (A[k].k : Nat)) ∧ w.cell? ⟨b, o + k * 4 + 2, none⟩ = some (.string (Pl.mk A[k].text)) := by
  have := h k (t4 A[k]) (by rw [List.getElem?_map, List.getElem?_eq_getElem hk]; rfl)
  rw [Nat.mul_comm k 4]
  exact ⟨this.1, this.2.2.1⟩
theorem spaced_step (A : List Pl.Tok) (k : Nat) (h : k < A.length) : Pl.mk (Pl.spaced (A.take k)) ++ Pl.mk A[k].text ++ ⟨#[32]⟩ = Pl.mk (Pl.spaced (A.take (k + 1))) := by
  apply Pl.list_ext
  rw [Pl.mk_list, List.take_succ_eq_append_getElem h, Pl.spaced_snoc, ByteArray.data_append, Array.toList_append, ByteArray.data_append, Array.toList_append, Pl.mk_list, Pl.mk_list]
theorem kt_at (A B : List Pl.Tok) (h : B.map Pl.kt = A.map Pl.kt) (k : Nat) (hA : k < A.length) (hB : k < B.length) : B[k].k = A[k].k ∧ B[k].text = A[k].text := by
  have h1 : (B.map Pl.kt)[k]? = (A.map Pl.kt)[k]? := by rw [h]
  rw [List.getElem?_map, List.getElem?_map, List.getElem?_eq_getElem hA, List.getElem?_eq_getElem hB] at h1
  simp only [Option.map_some, Option.some.injEq] at h1
  unfold Pl.kt at h1
  rw [Prod.mk.injEq] at h1
  exact h1

set_option maxHeartbeats 3200000 in
theorem lawBlanks (s : ByteArray) (w : World) (hE : Errs w) (hs : s.size ≤ maxLen) :
    Calls Tryd.prog 9 #[.string s] w fun e w' => e = .returned (.bool true) ∧ Below w.heap.size w w' := by
  have HE := Lib.hid hE
  clear hE
  unfold maxLen at hs
  by_cases h1 : 1000 < s.size
  · go_enter Tryd.func9, Tryd.ntmps9
    go_wp2_with (go_at_call 10; refine (awake_any _ HE.out).mono ?_; rintro e w1 ⟨rfl, k1⟩)
    go_ret
    exact ⟨rfl, k1⟩
  · cases hR : (Pl.tk s.data.toList 0).2 with
    | some off =>
      have HA := Lib.hid (fun w hE => toks_any s w (by omega) hE)
      have HR := Lib.hid hR
      clear hR
      go_enter Tryd.func9, Tryd.ntmps9
      go_wp2_with (first
        | (go_at_call 11; refine (HA.out _ HE.out).mono ?_; intro e w1 hx; obtain ⟨rfl, k1⟩ := lexed_err hx off HR.out; clear hx; have HE1 := Lib.hid (HE.out.later k1))
        | (go_at_call 10; refine (awake_any _ HE1.out).mono ?_; rintro e w2 ⟨rfl, k2⟩; have k12 := k1.trans (k2.mono k1.size)))
      go_ret
      exact ⟨rfl, k12⟩
    | none =>
      have hlen := Pl.tk_len s.data.toList 0
      rw [← Lib.size_eq] at hlen
      have hsp := Pl.spaced_le s.data.toList 0
      rw [← Lib.size_eq] at hsp
      obtain ⟨hb1, hb2⟩ := Pl.blanks_tk s.data.toList 0 hR
      have h0 := tk_some _ _ hR
      have hTA : Pl.tk s.data.toList 0 = ((Pl.tk s.data.toList 0).1, none) := Prod.ext rfl hR
      generalize hA : (Pl.tk s.data.toList 0).1 = A at *
      clear hA
      obtain ⟨n, hn⟩ : ∃ n, A.length = n := ⟨_, rfl⟩
      have hTB : Pl.tk (Pl.mk (Pl.spaced A)).data.toList 0 = ((Pl.tk (Pl.spaced A) 0).1, none) := by rw [Pl.mk_list]; exact Prod.ext rfl hb1
      generalize hB : (Pl.tk (Pl.spaced A) 0).1 = B at *
      clear hB
      have hnB : B.length = n := by rw [← hn, ← List.length_map Pl.kt, hb2, List.length_map]
      have H1 := Lib.hid (fun w hE => row_of s A n w (by omega) hE hTA hn (by omega))
      have H2 := Lib.hid (fun w hE => row_of (Pl.mk (Pl.spaced A)) B n w (by rw [Pl.mk_size]; omega) hE hTB hnB (by omega))
      have HN := Lib.hid hn
      have HNB := Lib.hid hnB
      have HK := Lib.hid hb2
      have HSP := Lib.hid hsp
      rw [hn] at hlen h0
      clear hTA hTB hb1 hb2 hR hn hnB hsp
      go_enter Tryd.func9, Tryd.ntmps9
      go_wp2_with (go_at_call 11; refine (H1.out _ HE.out).mono ?_; rintro e w1 ⟨b, o, c, rfl, hbb, ht, k1⟩; have HT := Lib.hid ht; have HE1 := Lib.hid (HE.out.later k1); have K1 := Lib.hid k1; clear ht k1)
      go_loop [6, 7] (fun t i => ∃ k : Nat, k ≤ n ∧ i = .int .i64 k ∧ t = .string (Pl.mk (Pl.spaced (A.take k)))) (fun _ i => n - (intOf i).toNat)
      case atStart => exact ⟨0, Nat.zero_le _, rfl, rfl⟩
      case round =>
        obtain ⟨k, hk, rfl, rfl⟩ := hrel
        by_cases hlt : k < n
        · have hkA : k < A.length := by rw [HN.out]; exact hlt
          obtain ⟨_, f2⟩ := toks_at HT.out hkA
          have HST := Lib.hid (spaced_step A k hkA)
          have hz : (Pl.mk (Pl.spaced (A.take k))).size ≤ 4000 := by rw [Pl.mk_size]; have := Pl.spaced_take A k; have := HSP.out; omega
          have hz3 : (Pl.mk (Pl.spaced (A.take (k + 1)))).size ≤ 4000 := by rw [Pl.mk_size]; have := Pl.spaced_take A (k + 1); have := HSP.out; omega
          rw [← HST.out, ByteArray.size_append, ByteArray.size_append] at hz3
          generalize Pl.mk (Pl.spaced (A.take k)) = acc at *
          generalize Pl.mk A[k].text = x at *
          have hz4 : acc.size + x.size ≤ 4000 := by omega
          have hz5 : (acc ++ x).size + (⟨#[32]⟩ : ByteArray).size ≤ 4000 := by rw [ByteArray.size_append]; omega
          clear hz3
          go_wp2_with fail
          exact ⟨⟨k + 1, by omega, by go_num, by rw [HST.out]⟩, by simp [intOf]; omega⟩
        · obtain rfl : k = n := by omega
          have e : A.take k = A := by rw [← HN.out, List.take_length]
          rw [e]
          go_wp2_with (go_at_call 11; refine (H2.out _ HE1.out).mono ?_; rintro e w2 ⟨b2, o2, c2, rfl, hb2, ht2, k2⟩; have HT2 := Lib.hid ht2; have HE2 := Lib.hid (HE1.out.later k2); have K2 := Lib.hid (K1.out.trans (k2.mono K1.out.size)); have HT1 := Lib.hid (HT.out.later hbb k2); clear ht2 k2)
          go_loopw [11] (fun i wr => ∃ j nq : Nat, j ≤ k ∧ i = .int .i64 j ∧ wr = w2.drewN nq) (fun i _ => k - (intOf i).toNat)
          case atStart => exact ⟨0, 0, Nat.zero_le _, rfl, rfl⟩
          case round =>
            obtain ⟨j, nq, hj, rfl, rfl⟩ := hrel
            by_cases hlt2 : j < k
            · have hjA : j < A.length := by rw [HN.out]; exact hlt2
              have hjB : j < B.length := by rw [HNB.out]; exact hlt2
              obtain ⟨f0, f2⟩ := toks_at HT1.out hjA
              obtain ⟨g0, g2⟩ := toks_at HT2.out hjB
              obtain ⟨e1, e2⟩ := kt_at A B HK.out j hjA hjB
              rw [e1] at g0
              rw [e2] at g2
              clear e1 e2
              generalize Pl.mk A[j].text = x at *
              generalize A[j].k = kk at *
              go_wp2
              go_quiet (fail)
              go_wp2
              exact ⟨⟨j + 1, _, by omega, by go_num, rfl⟩, by simp [intOf]; omega⟩
            · have HED := Lib.hid (HE2.out.later (below_drewN w2 nq))
              go_wp2_with (go_at_call 10; refine (awake_any _ HED.out).mono ?_; rintro e w3 ⟨rfl, k3⟩)
              go_ret
              have kd := K2.out.trans ((below_drewN w2 nq).mono K2.out.size)
              exact ⟨rfl, kd.trans (k3.mono kd.size)⟩
end Go.Proofs.YtebmmpepniokjaaDoor
