/- The walk of the law on two strings, one after the other. -/
import Derived.Test.YtheemneojippgaaWalkAwake
import Derived.Deep.QuietTactic
import Derived.BigQuiet
namespace Go.Proofs.Ytheemneojippgaa
open Go.RowKit
set_option linter.unusedVariables false
set_option linter.unusedSimpArgs false

theorem nl_list (s : ByteArray) : (s ++ ⟨#[10]⟩ : ByteArray).data.toList = s.data.toList ++ [10] := by
  rw [ByteArray.data_append, Array.toList_append]
theorem nlt_list (s t : ByteArray) : (s ++ ⟨#[10]⟩ ++ t : ByteArray).data.toList = s.data.toList ++ [10] ++ t.data.toList := by
  rw [ByteArray.data_append, Array.toList_append, nl_list]

/-- Strings that lie in a block, from its beginning on. -/
def StrsAt (w : World) (g : Nat) (L : List Pl.Bs) : Prop := g < w.heap.size ∧ ∀ (j : Nat) x, L[j]? = some x → w.cell? ⟨g, j, none⟩ = some (str x)
theorem StrsAt.later {w w' : World} {g : Nat} {L : List Pl.Bs} (h : StrsAt w g L) (hb : Below w.heap.size w w') : StrsAt w' g L :=
  ⟨Nat.lt_of_lt_of_le h.1 hb.size, fun j x hx => (hb.cell (p := ⟨g, j, none⟩) h.1).trans (h.2 j x hx)⟩
theorem StrsAt.drewN {w : World} {g : Nat} {L : List Pl.Bs} (h : StrsAt w g L) (n : Nat) : StrsAt (w.drewN n) g L := h

theorem split_shape (s : ByteArray) (w : World) (hs : s.size ≤ 1099511627776) (L : List Pl.Bs) (n : Nat) (hL : Pl.lns s.data.toList = L) (hn : n = L.length) (h0 : 0 < n) :
    Calls Try.prog 10 #[.string s] w fun e w' => ∃ g c, e = .returned (.slice (some ⟨g, 0, none⟩) n c) ∧ StrsAt w' g L ∧ Below w.heap.size w w' := by
  refine (split_any s w hs).mono ?_
  rintro e w' ⟨v, rfl, hown, hbel⟩
  rw [hL, ← hn] at hown
  obtain ⟨g, c, rfl, h1, h2, h3, h4⟩ := own_some hown hn h0
  exact ⟨g, c, rfl, ⟨h3, h4⟩, hbel⟩
theorem split_empty (s : ByteArray) (w : World) (hs : s.size ≤ 1099511627776) (hL : Pl.lns s.data.toList = []) :
    Calls Try.prog 10 #[.string s] w fun e w' => ∃ a c, e = .returned (.slice a 0 c) ∧ Below w.heap.size w w' := by
  refine (split_any s w hs).mono ?_
  rintro e w' ⟨v, rfl, hown, hbel⟩
  rw [hL] at hown
  obtain ⟨a, c, rfl, _⟩ := own_len hown
  exact ⟨a, c, rfl, hbel⟩

theorem app_left (A B : List Pl.Bs) (k : Nat) (h : k < A.length) : (A ++ B)[k]? = A[k]? := by rw [List.getElem?_append_left h]
theorem app_right (A B : List Pl.Bs) (k : Nat) (h : A.length ≤ k) : (A ++ B)[k]? = B[k - A.length]? := by rw [List.getElem?_append_right h]

set_option maxHeartbeats 800000 in
theorem lawAppends_some (s t : ByteArray) (w : World) (A B : List Pl.Bs) (na nb : Nat) (hA : na = A.length) (hB : nb = B.length) (ha : 0 < na) (hb : 0 < nb) (hna : na ≤ 2097152) (hnb : nb ≤ 2097152) (hs : s.size ≤ 1048576) (ht : t.size ≤ 1048576)
    (h1 : Pl.lns (s ++ ⟨#[10]⟩ : ByteArray).data.toList = A) (h2 : Pl.lns t.data.toList = B) (h3 : Pl.lns (s ++ ⟨#[10]⟩ ++ t : ByteArray).data.toList = A ++ B) :
    Calls Try.prog 7 #[.string s, .string t] w fun e w' => e = .returned (.bool true) ∧ Below w.heap.size w w' := by
  have S1 := Lib.hid (fun wx => split_shape (s ++ ⟨#[10]⟩ : ByteArray) wx (by rw [ByteArray.size_append]; show s.size + 1 ≤ _; omega) A na h1 hA ha)
  have S2 := Lib.hid (fun wx => split_shape t wx (by omega) B nb h2 hB hb)
  have S3 := Lib.hid (fun wx => split_shape (s ++ ⟨#[10]⟩ ++ t : ByteArray) wx (by rw [ByteArray.size_append, ByteArray.size_append]; show s.size + 1 + t.size ≤ _; omega) (A ++ B) (na + nb) h3 (by rw [List.length_append]; omega) (by omega))
  have HA := Lib.hid hA
  have HB := Lib.hid hB
  have e1 : (((na + nb : Nat) : Int) != (na : Int) + nb) = false := by simp
  have e2 : ((na : Int) == 0) = false := by simp; omega
  clear h1 h2 h3 hA hB
  go_enter Try.func7, Try.ntmps7
  go_wp2_with fail
  refine (S1.out _).mono ?_
  rintro e w1 ⟨ga, ca, rfl, ga1, hb1⟩
  go_wp2_with fail
  refine (S2.out _).mono ?_
  rintro e w2 ⟨gb, cb, rfl, gb2, hb2⟩
  have ga2 := ga1.later hb2
  go_wp2_with fail
  refine (S3.out _).mono ?_
  rintro e w3 ⟨gc, cc, rfl, gc3, hb3⟩
  have ga3 := ga2.later hb3
  have gb3 := gb2.later hb3
  have hb13 := hb1.trans ((hb2.trans (hb3.mono hb2.size)).mono hb1.size)
  go_wp2_with fail
  go_loopw [8] (fun i wr => ∃ k nq : Nat, k ≤ na + nb ∧ i = .int .i64 k ∧ wr = w3.drewN nq) (fun i _ => na + nb - (intOf i).toNat)
  case atStart => exact ⟨0, 0, Nat.zero_le _, rfl, rfl⟩
  case round =>
    obtain ⟨k, nq, hk, rfl, rfl⟩ := hrel
    by_cases hlt : k < na + nb
    · by_cases hin : k < na
      · have hkA : k < A.length := by rw [← HA.out]; exact hin
        have c1 := ga3.2 k _ (List.getElem?_eq_getElem hkA)
        have c2 := gc3.2 k A[k] (by rw [app_left A B k hkA]; exact List.getElem?_eq_getElem hkA)
        generalize A[k] = x at c1 c2
        unfold str at c1 c2
        have hlt2 : (k : Int) < (na : Int) + nb := by omega
        have d1 : decide (k < na) = true := by simpa using hin
        have d2 : decide ((na : Int) ≤ k) = false := by simp; omega
        have d3 : decide (na ≤ k) = false := by simp; omega
        go_wp2
        go_quiet (fail)
        go_wp2
        exact ⟨⟨k + 1, _, by omega, by go_num, rfl⟩, by simp [intOf]; omega⟩
      · have hkB : k - na < B.length := by rw [← HB.out]; omega
        have c1 := gb3.2 (k - na) _ (List.getElem?_eq_getElem hkB)
        have c2 := gc3.2 k B[k - na] (by rw [app_right A B k (by rw [← HA.out]; omega), ← HA.out]; exact List.getElem?_eq_getElem hkB)
        generalize B[k - na] = x at c1 c2
        unfold str at c1 c2
        have hlt2 : (k : Int) < (na : Int) + nb := by omega
        have d1 : decide (k < na) = false := by simpa using hin
        have d2 : decide ((na : Int) ≤ k) = true := by simp; omega
        have d3 : decide (na ≤ k) = true := by simp; omega
        go_wp2
        go_quiet (fail)
        go_wp2
        exact ⟨⟨k + 1, _, by omega, by go_num, rfl⟩, by simp [intOf]; omega⟩
    · go_wp2_with fail
      refine (awake_any _).mono ?_
      rintro e w5 ⟨rfl, hb5⟩
      go_wp2
      go_ret
      exact ⟨rfl, hb13.trans ((Below.trans (below_drewN (Below.refl _ _) nq) hb5).mono hb13.size)⟩

set_option maxHeartbeats 800000 in
theorem lawAppends_none (s t : ByteArray) (w : World) (A : List Pl.Bs) (na : Nat) (hA : na = A.length) (ha : 0 < na) (hna : na ≤ 2097152) (hs : s.size ≤ 1048576) (ht : t.size ≤ 1048576)
    (h1 : Pl.lns (s ++ ⟨#[10]⟩ : ByteArray).data.toList = A) (h2 : Pl.lns t.data.toList = []) (h3 : Pl.lns (s ++ ⟨#[10]⟩ ++ t : ByteArray).data.toList = A) :
    Calls Try.prog 7 #[.string s, .string t] w fun e w' => e = .returned (.bool true) ∧ Below w.heap.size w w' := by
  have S1 := Lib.hid (fun wx => split_shape (s ++ ⟨#[10]⟩ : ByteArray) wx (by rw [ByteArray.size_append]; show s.size + 1 ≤ _; omega) A na h1 hA ha)
  have S2 := Lib.hid (fun wx => split_empty t wx (by omega) h2)
  have S3 := Lib.hid (fun wx => split_shape (s ++ ⟨#[10]⟩ ++ t : ByteArray) wx (by rw [ByteArray.size_append, ByteArray.size_append]; show s.size + 1 + t.size ≤ _; omega) A na h3 hA ha)
  have HA := Lib.hid hA
  have e1 : ((na : Int) != (na : Int) + 0) = false := by simp
  have e3 : ((na : Int) != (na : Int)) = false := by simp
  have e2 : ((na : Int) == 0) = false := by simp; omega
  clear h1 h2 h3 hA
  go_enter Try.func7, Try.ntmps7
  go_wp2_with fail
  refine (S1.out _).mono ?_
  rintro e w1 ⟨ga, ca, rfl, ga1, hb1⟩
  go_wp2_with fail
  refine (S2.out _).mono ?_
  rintro e w2 ⟨ab, cb, rfl, hb2⟩
  have ga2 := ga1.later hb2
  go_wp2_with fail
  refine (S3.out _).mono ?_
  rintro e w3 ⟨gc, cc, rfl, gc3, hb3⟩
  have ga3 := ga2.later hb3
  have hb13 := hb1.trans ((hb2.trans (hb3.mono hb2.size)).mono hb1.size)
  go_wp2_with fail
  go_loopw [8] (fun i wr => ∃ k nq : Nat, k ≤ na ∧ i = .int .i64 k ∧ wr = w3.drewN nq) (fun i _ => na - (intOf i).toNat)
  case atStart => exact ⟨0, 0, Nat.zero_le _, rfl, rfl⟩
  case round =>
    obtain ⟨k, nq, hk, rfl, rfl⟩ := hrel
    by_cases hin : k < na
    · have hkA : k < A.length := by rw [← HA.out]; exact hin
      have c1 := ga3.2 k _ (List.getElem?_eq_getElem hkA)
      have c2 := gc3.2 k _ (List.getElem?_eq_getElem hkA)
      generalize A[k] = x at c1 c2
      unfold str at c1 c2
      have hlt2 : (k : Int) < (na : Int) := by omega
      have d1 : decide (k < na) = true := by simpa using hin
      have d2 : decide ((na : Int) ≤ k) = false := by simp; omega
      have d3 : decide (na ≤ k) = false := by simp; omega
      go_wp2
      go_quiet (fail)
      go_wp2
      exact ⟨⟨k + 1, _, by omega, by go_num, rfl⟩, by simp [intOf]; omega⟩
    · go_wp2_with fail
      refine (awake_any _).mono ?_
      rintro e w5 ⟨rfl, hb5⟩
      go_wp2
      go_ret
      exact ⟨rfl, hb13.trans ((Below.trans (below_drewN (Below.refl _ _) nq) hb5).mono hb13.size)⟩

theorem lawAppends (s t : ByteArray) (w : World) (hs : s.size ≤ 1048576) (ht : t.size ≤ 1048576) :
    Calls Try.prog 7 #[.string s, .string t] w fun e w' => e = .returned (.bool true) ∧ Below w.heap.size w w' := by
  have h1 : Pl.lns (s ++ ⟨#[10]⟩ : ByteArray).data.toList = Pl.lns (s.data.toList ++ [10]) := by rw [nl_list]
  have h3 : Pl.lns (s ++ ⟨#[10]⟩ ++ t : ByteArray).data.toList = Pl.lns (s.data.toList ++ [10]) ++ Pl.lns t.data.toList := by rw [nlt_list, Pl.lns_append_nl]
  have ha := Pl.lns_nl_pos s.data.toList
  have hla := Pl.lns_le (s.data.toList ++ [10])
  have hlb := Pl.lns_le t.data.toList
  rw [List.length_append, ← Lib.size_eq] at hla
  rw [← Lib.size_eq] at hlb
  simp only [List.length_singleton] at hla
  by_cases h0 : Pl.lns t.data.toList = []
  · exact lawAppends_none s t w _ _ rfl ha (by omega) hs ht h1 h0 (by rw [h3, h0, List.append_nil])
  · exact lawAppends_some s t w _ _ _ _ rfl rfl ha (List.length_pos_iff.2 h0) (by omega) (by omega) hs ht h1 rfl h3
end Go.Proofs.Ytheemneojippgaa
