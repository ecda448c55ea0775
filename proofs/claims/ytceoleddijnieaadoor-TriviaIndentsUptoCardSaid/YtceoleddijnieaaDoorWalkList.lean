/- Lists of strings that a call makes; the walks of the reference's Same and of the law's same. -/
import Derived.Test.YtceoleddijnieaaDoorWalkSkip
import Derived.Deep.QuietTactic
import Derived.BigQuiet
import Derived.IntWalk
namespace Go.Proofs.YtceoleddijnieaaDoor
open Go.RowKit
set_option linter.unusedVariables false
set_option linter.unusedSimpArgs false

def str (x : Pl.Bs) : Value := .string (Pl.mk x)
theorem Tryd.infoS : (Tryd.prog.info? 9).map (fun i => (i.zero, i.size, i.bytes)) = some (some (.string ⟨#[]⟩), 1, 16) := by kernel_rfl

/-- A slice that reads as a list of strings: nil, or from the head of a row. -/
def Reads (w : World) (v : Value) (xs : List Pl.Bs) : Prop :=
  (xs = [] ∧ v = .slice none 0 0) ∨ ∃ g c, v = .slice (some ⟨g, 0, none⟩) xs.length c ∧ g < w.heap.size ∧ ∀ (j : Nat) x, xs[j]? = some x → w.cell? ⟨g, j, none⟩ = some (str x)
theorem Reads.later {w w' : World} {v : Value} {xs : List Pl.Bs} (h : Reads w v xs) (hb : Below w.heap.size w w') : Reads w' v xs := by
  rcases h with h | ⟨g, c, h1, h2, h3⟩
  · exact .inl h
  · exact .inr ⟨g, c, h1, Nat.lt_of_lt_of_le h2 hb.size, fun j x hx => (hb.cell (p := ⟨g, j, none⟩) h2).trans (h3 j x hx)⟩
theorem reads_own {w : World} {B : Nat} {v : Value} {xs : List Pl.Bs} (h : w.ownsRow B 9 1 v xs.length (xs.map str)) : Reads w v xs := by
  obtain ⟨h1, h2⟩ := h
  rcases h2 with ⟨rfl, h3⟩ | ⟨g, cap, cur, rfl, hg, hh, hn, hm, hz, ht⟩
  · exact .inl ⟨List.eq_nil_of_length_eq_zero h3, rfl⟩
  · refine .inr ⟨g, cap, rfl, lt_of_block hh, fun j x hx => ?_⟩
    have hj := (List.getElem?_eq_some_iff.1 hx).1
    have h4 : (xs.map str)[j]? = some (str x) := by rw [List.getElem?_map, hx]; rfl
    rw [← ht, List.getElem?_take, if_pos (by omega)] at h4
    simp only [World.cell?, hh]
    simpa using h4

/-- Both lists from the head of a row, or empty. -/
theorem reads_len {w : World} {v : Value} {xs : List Pl.Bs} (h : Reads w v xs) : ∃ a c, v = .slice a xs.length c := by
  rcases h with ⟨rfl, rfl⟩ | ⟨g, c, rfl, _⟩
  · exact ⟨none, 0, rfl⟩
  · exact ⟨some ⟨g, 0, none⟩, c, rfl⟩

set_option maxHeartbeats 400000 in
theorem same_none (a b : Option Addr) (c d : Nat) (w : World) :
    Calls Tryd.prog 13 #[.slice a 0 c, .slice b 0 d] w fun e w' => e = .returned (.bool true) ∧ w = w' := by
  go_enter Tryd.func13, Tryd.ntmps13
  go_wp2
  refine wp_loop_rounds 1 ?_; rw [rounds_succ]
  go_wp2
  go_ret
  exact ⟨rfl, rfl⟩
set_option maxHeartbeats 800000 in
theorem same_some (g h c d : Nat) (xs : List Pl.Bs) (w : World) (hn : xs.length ≤ 1099511627776)
    (hg : ∀ (j : Nat) x, xs[j]? = some x → w.cell? ⟨g, j, none⟩ = some (str x)) (hh : ∀ (j : Nat) x, xs[j]? = some x → w.cell? ⟨h, j, none⟩ = some (str x)) :
    Calls Tryd.prog 13 #[.slice (some ⟨g, 0, none⟩) xs.length c, .slice (some ⟨h, 0, none⟩) xs.length d] w fun e w' => e = .returned (.bool true) ∧ ∃ n, w' = w.drewN n := by
  have HG := Lib.hid hg
  have HH := Lib.hid hh
  clear hg hh
  obtain ⟨n, hnn⟩ : ∃ n, n = xs.length := ⟨_, rfl⟩
  rw [← hnn] at hn ⊢
  have HN := Lib.hid hnn
  clear hnn
  go_enter Tryd.func13, Tryd.ntmps13
  go_wp2
  go_loopw [5] (fun i wr => ∃ k nq : Nat, k ≤ n ∧ i = .int .i64 k ∧ wr = w.drewN nq) (fun i _ => n - (intOf i).toNat)
  case atStart => exact ⟨0, 0, Nat.zero_le _, rfl, rfl⟩
  case round =>
    obtain ⟨k, nq, hk, rfl, rfl⟩ := hrel
    by_cases hlt : k < n
    · have hlt2 : k < xs.length := by rw [← HN.out]; exact hlt
      have g1 := HG.out k _ (List.getElem?_eq_getElem hlt2)
      have g2 := HH.out k _ (List.getElem?_eq_getElem hlt2)
      generalize xs[k] = x at g1 g2
      unfold str at g1 g2
      go_wp2
      go_quiet (fail)
      go_wp2
      exact ⟨⟨k + 1, _, by omega, by go_num, rfl⟩, by simp [intOf]; omega⟩
    · go_wp2
      go_ret
      exact ⟨rfl, _, rfl⟩
theorem below_drewN (w : World) (n : Nat) : Below w.heap.size w (w.drewN n) := ⟨rfl, rfl, rfl, Nat.le_refl _, fun _ _ => rfl⟩
theorem same_any (u v : Value) (xs : List Pl.Bs) (w : World) (hn : xs.length ≤ 1099511627776) (hu : Reads w u xs) (hv : Reads w v xs) :
    Calls Tryd.prog 13 #[u, v] w fun e w' => e = .returned (.bool true) ∧ Below w.heap.size w w' := by
  by_cases h0 : xs.length = 0
  · obtain ⟨a, c, rfl⟩ := reads_len hu
    obtain ⟨b, d, rfl⟩ := reads_len hv
    rw [h0]
    exact (same_none a b c d w).mono fun e w' ⟨he, hw⟩ => ⟨he, hw ▸ Below.refl _ _⟩
  · rcases hu with ⟨rfl, _⟩ | ⟨g, c, rfl, _, hg⟩
    · exact absurd rfl h0
    · rcases hv with ⟨rfl, _⟩ | ⟨h, d, rfl, _, hh⟩
      · exact absurd rfl h0
      · exact (same_some g h c d xs w hn hg hh).mono fun e w' ⟨he, n, hw⟩ => ⟨he, hw ▸ below_drewN w n⟩

/- ### same of the law: a list is two others, one after the other -/

set_option maxHeartbeats 1600000 in
theorem cat_some (g ga gb c ca cb : Nat) (la lb : Option Addr) (xs ys : List Pl.Bs) (n na nb : Nat) (w : World) (hna : na = xs.length) (hnb : nb = ys.length) (hn : n = na + nb) (hle : n ≤ 1099511627776)
    (hg : ∀ (j : Nat) x, (xs ++ ys)[j]? = some x → w.cell? ⟨g, j, none⟩ = some (str x)) (hla : 0 < na → la = some ⟨ga, 0, none⟩) (hlb : 0 < nb → lb = some ⟨gb, 0, none⟩)
    (ha : ∀ (j : Nat) x, xs[j]? = some x → w.cell? ⟨ga, j, none⟩ = some (str x)) (hb : ∀ (j : Nat) x, ys[j]? = some x → w.cell? ⟨gb, j, none⟩ = some (str x)) :
    Calls Tryd.prog 21 #[.slice (some ⟨g, 0, none⟩) n c, .slice la na ca, .slice lb nb cb] w fun e w' => e = .returned (.bool true) ∧ ∃ n, w' = w.drewN n := by
  have HG := Lib.hid hg
  have HA := Lib.hid ha
  have HB := Lib.hid hb
  have HNA := Lib.hid hna
  have HNB := Lib.hid hnb
  have HLA := Lib.hid hla
  have HLB := Lib.hid hlb
  clear hg ha hb hna hnb hla hlb
  subst hn
  go_enter Tryd.func21, Tryd.ntmps21
  go_wp2_with fail
  go_loopw [7] (fun i wr => ∃ k nq : Nat, k ≤ na + nb ∧ i = .int .i64 k ∧ wr = w.drewN nq) (fun i _ => na + nb - (intOf i).toNat)
  case atStart => exact ⟨0, 0, Nat.zero_le _, rfl, rfl⟩
  case round =>
    obtain ⟨k, nq, hk, rfl, rfl⟩ := hrel
    by_cases hlt : k < na + nb
    · by_cases hka : k < na
      · have e := HLA.out (by omega)
        subst e
        have hlt2 : k < xs.length := by rw [← HNA.out]; exact hka
        have g1 := HG.out k _ (by rw [List.getElem?_append_left hlt2]; exact List.getElem?_eq_getElem hlt2)
        have g2 := HA.out k _ (List.getElem?_eq_getElem hlt2)
        generalize xs[k] = x at g1 g2
        unfold str at g1 g2
        have hd1 : decide (k < na) = true := by simpa using hka
        have hd2 : decide (na ≤ k) = false := by simpa using hka
        go_wp2_with fail
        go_quiet (fail)
        go_wp2
        exact ⟨⟨k + 1, _, by omega, by go_num, rfl⟩, by simp [intOf]; omega⟩
      · have e := HLB.out (by omega)
        subst e
        obtain ⟨j, hj⟩ : ∃ j, j = k - na := ⟨_, rfl⟩
        have hlt2 : j < ys.length := by rw [← HNB.out]; omega
        have g1 := HG.out k _ (by rw [List.getElem?_append_right (by rw [← HNA.out]; omega), ← HNA.out, ← hj]; exact List.getElem?_eq_getElem hlt2)
        have g2 := HB.out j _ (List.getElem?_eq_getElem hlt2)
        generalize ys[j] = x at g1 g2
        unfold str at g1 g2
        have hd1 : decide (k < na) = false := by simpa using hka
        have hd2 : decide (na ≤ k) = true := by simpa using hka
        have hw : IntKind.i64.wrap ((k : Int) - na) = (j : Int) := by rw [IntWalk.i64_in _ (by omega)]; omega
        have hjb : j < nb := by omega
        clear hj
        go_wp2_with fail
        go_quiet (fail)
        go_wp2
        exact ⟨⟨k + 1, _, by omega, by go_num, rfl⟩, by simp [intOf]; omega⟩
    · go_wp2
      go_ret
      exact ⟨rfl, _, rfl⟩
set_option maxHeartbeats 400000 in
theorem cat_none (w : World) (a b d : Option Addr) (c ca cb : Nat) :
    Calls Tryd.prog 21 #[.slice a 0 c, .slice b 0 ca, .slice d 0 cb] w fun e w' => e = .returned (.bool true) ∧ w = w' := by
  go_enter Tryd.func21, Tryd.ntmps21
  go_wp2
  refine wp_loop_rounds 1 ?_; rw [rounds_succ]
  go_wp2
  go_ret
  exact ⟨rfl, rfl⟩
theorem cat_any (u v z : Value) (xs ys : List Pl.Bs) (w : World) (hn : xs.length + ys.length ≤ 1099511627776) (hu : Reads w u (xs ++ ys)) (hv : Reads w v xs) (hz : Reads w z ys) :
    Calls Tryd.prog 21 #[u, v, z] w fun e w' => e = .returned (.bool true) ∧ Below w.heap.size w w' := by
  by_cases h0 : xs.length + ys.length = 0
  · obtain ⟨a, c, rfl⟩ := reads_len hu
    obtain ⟨b, ca, rfl⟩ := reads_len hv
    obtain ⟨d, cb, rfl⟩ := reads_len hz
    rw [List.length_append, h0, show xs.length = 0 from by omega, show ys.length = 0 from by omega]
    exact (cat_none w a b d c ca cb).mono fun e w' ⟨he, hw⟩ => ⟨he, hw ▸ Below.refl _ _⟩
  · rcases hu with ⟨h1, _⟩ | ⟨g, c, rfl, _, hg⟩
    · exact absurd (by rw [← List.length_append, h1]; rfl) h0
    · rw [List.length_append]
      have fin : ∀ (la lb : Option Addr) (ga gb ca cb : Nat), (0 < xs.length → la = some ⟨ga, 0, none⟩) → (0 < ys.length → lb = some ⟨gb, 0, none⟩) → (∀ (j : Nat) x, xs[j]? = some x → w.cell? ⟨ga, j, none⟩ = some (str x)) → (∀ (j : Nat) x, ys[j]? = some x → w.cell? ⟨gb, j, none⟩ = some (str x)) →
          Calls Tryd.prog 21 #[.slice (some ⟨g, 0, none⟩) (xs.length + ys.length) c, .slice la xs.length ca, .slice lb ys.length cb] w fun e w' => e = .returned (.bool true) ∧ Below w.heap.size w w' := by
        intro la lb ga gb ca cb h1 h2 h3 h4
        exact (cat_some g ga gb c ca cb la lb xs ys _ _ _ w rfl rfl rfl hn hg h1 h2 h3 h4).mono fun e w' ⟨he, n, hw⟩ => ⟨he, hw ▸ below_drewN w n⟩
      rcases hv with ⟨rfl, rfl⟩ | ⟨ga, ca, rfl, _, ha⟩
      · rcases hz with ⟨rfl, rfl⟩ | ⟨gb, cb, rfl, _, hb⟩
        · exact absurd rfl h0
        · exact fin none _ 0 gb 0 cb (fun h => absurd h (Nat.lt_irrefl 0)) (fun _ => rfl) (fun j x hx => by cases hx) hb
      · rcases hz with ⟨rfl, rfl⟩ | ⟨gb, cb, rfl, _, hb⟩
        · exact fin _ none ga 0 ca 0 (fun _ => rfl) (fun h => absurd h (Nat.lt_irrefl 0)) ha (fun j x hx => by cases hx)
        · exact fin _ _ ga gb ca cb (fun _ => rfl) (fun _ => rfl) ha hb
end Go.Proofs.YtceoleddijnieaaDoor
