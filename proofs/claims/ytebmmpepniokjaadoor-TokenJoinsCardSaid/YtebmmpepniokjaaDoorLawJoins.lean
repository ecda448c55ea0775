/- The walks of the laws TokenJoins, TokenLossless. -/
import Derived.Test.YtebmmpepniokjaaDoorWalkAwake
namespace Go.Proofs.YtebmmpepniokjaaDoor
open Go.RowKit
set_option linter.unusedVariables false
set_option linter.unusedSimpArgs false

theorem jn_bound (L : List T4) (n : Nat) (h : ∀ (j : Nat) t, L[j]? = some t → t.lead.size ≤ n ∧ t.text.size ≤ n) : (jn L).length ≤ L.length * (2 * n) := by
  induction L with
  | nil => simp [jn]
  | cons t L ih =>
    have h0 := h 0 t rfl
    have := ih (fun j x hx => h (j + 1) x (by simpa using hx))
    unfold jn at this ⊢
    rw [List.map_cons, List.flatten_cons, List.length_append, List.length_append, ← Lib.size_eq, ← Lib.size_eq, List.length_cons, Nat.add_mul]
    omega

set_option maxHeartbeats 800000 in
theorem joins_none (a : Option Addr) (c : Nat) (w : World) (hE : Errs w) (hc : a = none → c = 0) :
    Calls Tryd.prog 5 #[.slice a 0 c] w fun e w' => e = .returned (.bool true) ∧ Below w.heap.size w w' := by
  have HE := Lib.hid hE
  have HR := Lib.hid (show Reads w (.slice a 0 c) [] from .inl ⟨rfl, a, c, rfl, hc⟩)
  clear hE hc
  go_enter Tryd.func5, Tryd.ntmps5
  go_wp2_with fail
  refine wp_loop_rounds 1 ?_; rw [rounds_succ]
  go_wp2_with (first
    | (go_at_call 18; refine (join_any _ [] _ HR.out (by decide) (by decide)).mono ?_; rintro e w1 ⟨rfl, k1⟩; have HE1 := Lib.hid (HE.out.later k1); have HR1 := Lib.hid (HR.out.later k1))
    | (go_at_call 19; refine (rjoin_any _ [] _ HR1.out (by decide) (by decide)).mono ?_; rintro e w2 ⟨rfl, k2⟩; have k12 := k1.trans (k2.mono k1.size); have HE2 := Lib.hid (HE1.out.later k2))
    | (go_at_call 10; refine (awake_any _ HE2.out).mono ?_; rintro e w3 ⟨rfl, k3⟩; have k13 := k12.trans (k3.mono k12.size)))
  go_ret
  exact ⟨rfl, k13⟩
set_option maxHeartbeats 1600000 in
theorem joins_some (b o c n : Nat) (L : List T4) (w : World) (hE : Errs w) (hn : n = L.length) (hl : n ≤ maxLen) (hb : b < w.heap.size) (hT : Toks w b o L) (h4 : ∀ t ∈ L, t.lead.size ≤ maxLen ∧ t.text.size ≤ maxLen) :
    Calls Tryd.prog 5 #[.slice (some ⟨b, o, none⟩) n c] w fun e w' => e = .returned (.bool true) ∧ Below w.heap.size w w' := by
  have HE := Lib.hid hE
  have HN := Lib.hid hn
  have HT := Lib.hid hT
  have HR := Lib.hid (show Reads w (.slice (some ⟨b, o, none⟩) n c) L from .inr ⟨b, o, c, by rw [hn], hb, hT, by rw [← hn]; exact hl⟩)
  clear hE hn hT
  unfold maxLen at hl
  by_cases h1 : 50 < n
  · go_enter Tryd.func5, Tryd.ntmps5
    go_wp2_with (go_at_call 10; refine (awake_any _ HE.out).mono ?_; rintro e w1 ⟨rfl, k1⟩)
    go_ret
    exact ⟨rfl, k1⟩
  · go_enter Tryd.func5, Tryd.ntmps5
    go_wp2_with fail
    go_loop [3] (fun i => ∃ k : Nat, k ≤ n ∧ i = .int .i64 k ∧ ∀ (j : Nat) t, L[j]? = some t → j < k → t.lead.size ≤ 200 ∧ t.text.size ≤ 200) (fun i => n - (intOf i).toNat)
    case atStart => exact ⟨0, Nat.zero_le _, rfl, fun j t _ h => absurd h (Nat.not_lt_zero _)⟩
    case round =>
      obtain ⟨k, hk, rfl, hsm⟩ := hrel
      have HS := Lib.hid hsm
      clear hsm
      by_cases hlt : k < n
      · have hlt2 : k < L.length := by rw [← HN.out]; exact hlt
        have hx0 := List.getElem?_eq_getElem hlt2
        obtain ⟨_, g2, g3, _⟩ := HT.out k _ hx0
        obtain ⟨m1, m2⟩ := h4 _ (List.getElem_mem hlt2)
        have HX := Lib.hid hx0
        rw [Nat.mul_comm] at g2 g3
        clear hx0
        generalize L[k] = x at *
        unfold maxLen at m1 m2
        by_cases hb1 : 200 < x.lead.size
        · have hd1 : decide (200 < (x.lead.size : Int)) = true := decide_eq_true (by omega)
          go_wp2_with (go_at_call 10; refine (awake_any _ HE.out).mono ?_; rintro e w1 ⟨rfl, k1⟩)
          go_ret
          exact ⟨rfl, k1⟩
        · have hd1 : decide (200 < (x.lead.size : Int)) = false := decide_eq_false (by omega)
          by_cases hb2 : 200 < x.text.size
          · have hd2 : decide (200 < (x.text.size : Int)) = true := decide_eq_true (by omega)
            go_wp2_with (go_at_call 10; refine (awake_any _ HE.out).mono ?_; rintro e w1 ⟨rfl, k1⟩)
            go_ret
            exact ⟨rfl, k1⟩
          · have hd2 : decide (200 < (x.text.size : Int)) = false := decide_eq_false (by omega)
            have hnext : ∀ (j : Nat) t, L[j]? = some t → j < k + 1 → t.lead.size ≤ 200 ∧ t.text.size ≤ 200 := by
              intro j t ht hj
              by_cases e : j = k
              · subst e
                have := HX.out
                rw [ht] at this
                obtain rfl : t = x := by simpa using this
                omega
              · exact HS.out j t ht (by omega)
            have HN2 := Lib.hid hnext
            clear hnext
            go_wp2_with fail
            exact ⟨⟨k + 1, by omega, by go_num, HN2.out⟩, by simp [intOf]; omega⟩
      · obtain rfl : k = n := by omega
        have hsmall := jn_bound L 200 (fun j t ht => HS.out j t ht (by rw [HN.out]; exact (List.getElem?_eq_some_iff.1 ht).1))
        rw [← HN.out] at hsmall
        have hj : (jn L).length ≤ 1099511627776 := Nat.le_trans hsmall (by omega)
        have hL : L.length ≤ 1099511627776 := by rw [← HN.out]; omega
        clear hsmall
        go_wp2_with (first
          | (go_at_call 18; refine (join_any _ L _ HR.out hj hL).mono ?_; rintro e w1 ⟨rfl, k1⟩; have HE1 := Lib.hid (HE.out.later k1); have HR1 := Lib.hid (HR.out.later k1))
          | (go_at_call 19; refine (rjoin_any _ L _ HR1.out hj hL).mono ?_; rintro e w2 ⟨rfl, k2⟩; have k12 := k1.trans (k2.mono k1.size); have HE2 := Lib.hid (HE1.out.later k2))
          | (go_at_call 10; refine (awake_any _ HE2.out).mono ?_; rintro e w3 ⟨rfl, k3⟩; have k13 := k12.trans (k3.mono k12.size)))
        go_ret
        exact ⟨rfl, k13⟩
theorem lawJoins (v : Value) (L : List T4) (w : World) (hE : Errs w) (hv : Reads w v L) (h4 : ∀ t ∈ L, t.lead.size ≤ maxLen ∧ t.text.size ≤ maxLen) :
    Calls Tryd.prog 5 #[v] w fun e w' => e = .returned (.bool true) ∧ Below w.heap.size w w' := by
  rcases hv with ⟨rfl, a, c, rfl, h⟩ | ⟨b, o, c, rfl, h1, h2, h3⟩
  · exact joins_none a c w hE h
  · exact joins_some b o c _ L w hE rfl h3 h1 h2 h4

/- ### TokenLossless -/
theorem jn_t4 (L : List Pl.Tok) : jn (L.map t4) = Pl.joinT L := by
  induction L with
  | nil => rfl
  | cons t L ih =>
    unfold jn Pl.joinT at ih ⊢
    rw [List.map_cons, List.map_cons, List.flatten_cons, ih]
    show (Pl.mk t.lead).data.toList ++ (Pl.mk t.text).data.toList ++ _ = _
    rw [Pl.mk_list, Pl.mk_list, List.map_cons, List.flatten_cons]
theorem mk_self (s : ByteArray) : Pl.mk s.data.toList = s := Pl.list_ext (by rw [Pl.mk_list])
set_option maxHeartbeats 1600000 in
theorem lawLossless (s : ByteArray) (w : World) (hE : Errs w) (hs : s.size ≤ maxLen) :
    Calls Tryd.prog 6 #[.string s] w fun e w' => e = .returned (.bool true) ∧ Below w.heap.size w w' := by
  have HE := Lib.hid hE
  clear hE
  unfold maxLen at hs
  by_cases h1 : 1000 < s.size
  · go_enter Tryd.func6, Tryd.ntmps6
    go_wp2_with (go_at_call 10; refine (awake_any _ HE.out).mono ?_; rintro e w1 ⟨rfl, k1⟩)
    go_ret
    exact ⟨rfl, k1⟩
  · have HA := Lib.hid (fun w hE => toks_any s w (by omega) hE)
    have hlen := Pl.tk_len s.data.toList 0
    rw [← Lib.size_eq] at hlen
    cases hR : (Pl.tk s.data.toList 0).2 with
    | some off =>
      have HR := Lib.hid hR
      clear hR
      go_enter Tryd.func6, Tryd.ntmps6
      go_wp2_with (first
        | (go_at_call 11; refine (HA.out _ HE.out).mono ?_; intro e w1 hx; obtain ⟨rfl, k1⟩ := lexed_err hx off HR.out; clear hx; have HE1 := Lib.hid (HE.out.later k1))
        | (go_at_call 10; refine (awake_any _ HE1.out).mono ?_; rintro e w2 ⟨rfl, k2⟩; have k12 := k1.trans (k2.mono k1.size)))
      go_ret
      exact ⟨rfl, k12⟩
    | none =>
      have HR := Lib.hid hR
      have hjo : jn ((Pl.tk s.data.toList 0).1.map t4) = s.data.toList := by rw [jn_t4, Pl.tk_join _ _ hR]
      have hj : (jn ((Pl.tk s.data.toList 0).1.map t4)).length ≤ 1099511627776 := by rw [hjo, ← Lib.size_eq]; omega
      have hlm : ((Pl.tk s.data.toList 0).1.map t4).length ≤ 1099511627776 := by rw [List.length_map]; omega
      have HJ : Hid (Pl.mk (jn ((Pl.tk s.data.toList 0).1.map t4)) = s) := Lib.hid (by rw [hjo]; exact mk_self s)
      clear hR hjo
      go_enter Tryd.func6, Tryd.ntmps6
      go_wp2_with (first
        | (go_at_call 11; refine (HA.out _ HE.out).mono ?_; intro e w1 hx; obtain ⟨v1, rfl, r1⟩ := hx.2.1 HR.out; have k1 := hx.2.2; have R1 := Lib.hid r1; clear hx r1)
        | (go_at_call 18; refine (join_is v1 _ s HJ.out _ R1.out hj hlm).mono ?_; rintro e w2 ⟨rfl, k2⟩; have k12 := k1.trans (k2.mono k1.size); have HE2 := Lib.hid (HE.out.later k12))
        | (go_at_call 10; refine (awake_any _ HE2.out).mono ?_; rintro e w3 ⟨rfl, k3⟩; have k13 := k12.trans (k3.mono k12.size)))
      go_ret
      exact ⟨rfl, k13⟩
end Go.Proofs.YtebmmpepniokjaaDoor
