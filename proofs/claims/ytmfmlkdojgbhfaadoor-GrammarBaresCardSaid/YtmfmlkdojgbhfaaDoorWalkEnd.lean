/- The walks of scan with the step of End, of End and of Valid. -/
import Derived.Test.YtmfmlkdojgbhfaaDoorWalkSkip
namespace Go.Proofs.YtmfmlkdojgbhfaaDoor
open Go.RowKit
set_option linter.unusedVariables false
set_option linter.unusedSimpArgs false

set_option maxHeartbeats 400000 in
theorem endstep_any (a t : Int) (B : Nat) (v : Value) (w : World) (hB : w.heap[B]? = some (.cells #[v] 3 (0, 0))) :
    Calls Tryd.prog 70 #[.int .i64 a, .int .i64 t, .pointer (some ⟨B, 0, none⟩)] w fun e w' => e = .returned (.tuple #[]) ∧ w' = w.setCell ⟨B, 0, none⟩ (.int .i64 t) := by
  have hc := cell_of_one hB
  have hf := free_of_one hB
  clear hB
  go_enter Tryd.func70, Tryd.ntmps70
  go_wp2
  go_end0
  exact ⟨rfl, rfl⟩

theorem skip_at (s : ByteArray) (k : Nat) (n m : Int) (w : World) (hs : s.size ≤ maxLen) (hk : k ≤ s.size) (hn : n = k) (hm : m = (k : Int) + (Pl.hop (rest s k) : Nat)) :
    Calls Tryd.prog 71 #[.string s, .int .i64 n] w fun e w' => e = .returned (.int .i64 m) ∧ w = w' := by
  subst hn
  refine (skip_any s k w hs hk).mono fun e w' ⟨he, hw⟩ => ⟨by rw [he, hm]; exact ret_int (by omega), hw⟩
theorem rest_rest (s : ByteArray) (k h : Nat) : (rest s k).drop h = rest s (k + h) := by unfold rest; rw [List.drop_drop]
theorem eo_next (s : ByteArray) (k : Nat) (h : Pl.hop (rest s k) ≠ 0) : k + Pl.eo (rest s k) = k + Pl.hop (rest s k) + Pl.eo (rest s (k + Pl.hop (rest s k))) := by
  rw [Pl.eo_go _ h, rest_rest]; omega

set_option maxHeartbeats 800000 in
theorem scan_end (s : ByteArray) (k0 B : Nat) (w : World) (hs : s.size ≤ maxLen) (hk0 : k0 ≤ s.size) (hB : w.heap[B]? = some (.cells #[.int .i64 k0] 3 (0, 0))) :
    Calls Tryd.prog 69 #[.string s, .int .i64 k0, .func (.func 70) #[] #[.pointer (some ⟨B, 0, none⟩)]] w fun e w' =>
      e = .returned (.tuple #[]) ∧ w'.heap[B]? = some (.cells #[.int .i64 ((k0 + Pl.eo (rest s k0) : Nat) : Int)] 3 (0, 0)) ∧ Below B w w' := by
  have hs2 := hs
  unfold maxLen at hs2
  obtain ⟨T, hT⟩ : ∃ T : Nat, T = k0 + Pl.eo (rest s k0) := ⟨_, rfl⟩
  rw [← hT]
  have HT := Lib.hid hT
  have HB := Lib.hid hB
  have HS := Lib.hid hs
  clear hT hB hs
  go_enter Tryd.func69, Tryd.ntmps69
  go_wp2_with (go_at_call 71; refine (skip_at s k0 _ ((k0 : Int) + (Pl.hop (rest s k0) : Nat)) _ HS.out hk0 rfl rfl).mono ?_; rintro e w' ⟨rfl, rfl⟩)
  go_loopw [1, 6] (fun u v wr => ∃ k : Nat, k ≤ s.size ∧ u = .int .i64 k ∧ v = .int .i64 ((k : Int) + (Pl.hop (rest s k) : Nat)) ∧ k + Pl.eo (rest s k) = T ∧ wr.heap[B]? = some (.cells #[.int .i64 k] 3 (0, 0)) ∧ Below B w wr) (fun u _ _ => s.size - (intOf u).toNat)
  case atStart => exact ⟨k0, hk0, rfl, rfl, HT.out.symm, HB.out, Below.refl _ _⟩
  case round =>
    obtain ⟨k, hk, rfl, rfl, hsum, hcell, hbel⟩ := hrel
    have hle := Pl.hop_le (rest s k)
    rw [rest_len] at hle
    obtain ⟨h, hh⟩ : ∃ h, h = Pl.hop (rest s k) := ⟨_, rfl⟩
    rw [← hh] at hle ⊢
    by_cases hz : h = 0
    · have e : k = T := by rw [← hsum, Pl.eo_stop _ (by rw [← hh]; exact hz)]; rfl
      have HC : Hid (wr.heap[B]? = some (.cells #[.int .i64 (T : Int)] 3 (0, 0))) := Lib.hid (by rw [← e]; exact hcell)
      have HL := Lib.hid hbel
      clear hsum hcell hbel hh e
      subst hz
      go_wp2_with fail
      go_end0
      exact ⟨rfl, HC.out, HL.out⟩
    · have hsum2 : (k + h) + Pl.eo (rest s (k + h)) = T := by
        rw [hh] at hz ⊢
        rw [← hsum, eo_next s k hz]
      have HC := Lib.hid (one_setCell (u := .int .i64 ((k : Int) + (h : Int))) hcell)
      have HC0 := Lib.hid hcell
      have HL := Lib.hid (hbel.setCell (p := ⟨B, 0, none⟩) (Nat.le_refl _) (.int .i64 ((k : Int) + (h : Int))))
      have HS2 := Lib.hid hsum2
      have hpos : 1 ≤ h := by omega
      clear hsum hcell hbel hh hsum2 hz
      go_wp2_with (first
        | (go_at_call 70; refine (endstep_any _ _ B _ _ HC0.out).mono ?_; rintro e w' ⟨rfl, rfl⟩)
        | (go_at_call 71; refine (skip_at s (k + h) _ (((k : Int) + (h : Int)) + (Pl.hop (rest s (k + h)) : Nat)) _ HS.out (by omega) (by omega) (by omega)).mono ?_; rintro e w' ⟨rfl, rfl⟩))
      go_roundw
      case rel => exact ⟨k + h, by omega, by go_num, by go_num, HS2.out, by have := HC.out; simpa using this, HL.out⟩
      case measure => simp [intOf]; omega

theorem new_one (w : World) (v : Value) (t : TypeId) : (w.alloc (.cells #[v] t (0, 0))).heap[w.heap.size]? = some (.cells #[v] t (0, 0)) := by
  show (w.heap.push _)[w.heap.size]? = _
  simp

set_option maxHeartbeats 400000 in
theorem end_in (s : ByteArray) (k : Nat) (w : World) (hs : s.size ≤ maxLen) (hk : k ≤ s.size) :
    Calls Tryd.prog 67 #[.string s, .int .i64 k] w fun e w' => e = .returned (.int .i64 ((k + Pl.eo (rest s k) : Nat) : Int)) ∧ Below w.heap.size w w' := by
  have HC := Lib.hid (scan_end s k w.heap.size (w.alloc (.cells #[.int .i64 k] 3 (0, 0))) hs hk (new_one _ _ _))
  unfold maxLen at hs
  obtain ⟨T, hT⟩ : ∃ T : Int, ((k + Pl.eo (rest s k) : Nat) : Int) = T := ⟨_, rfl⟩
  rw [hT] at HC ⊢
  clear hT
  go_enter Tryd.func67, Tryd.ntmps67
  go_wp2_with (go_at_call 69; refine HC.out.mono ?_; rintro e w' ⟨rfl, hcell, hbel⟩; have hc := cell_of_one hcell)
  go_ret
  exact ⟨rfl, ((Below.refl _ _).alloc (Nat.le_refl _) _).trans hbel⟩
set_option maxHeartbeats 400000 in
theorem end_out (s : ByteArray) (n : Int) (w : World) (hs : s.size ≤ maxLen) (h : n < 0 ∨ (s.size : Int) < n) :
    Calls Tryd.prog 67 #[.string s, .int .i64 n] w fun e w' => e = .returned (.int .i64 n) ∧ w = w' := by
  unfold maxLen at hs
  rcases h with h | h
  · go_enter Tryd.func67, Tryd.ntmps67
    go_wp2_with fail
    go_ret
    exact ⟨rfl, rfl⟩
  · have h2 : ¬ n < 0 := by omega
    go_enter Tryd.func67, Tryd.ntmps67
    go_wp2_with fail
    go_ret
    exact ⟨rfl, rfl⟩

/-- Is a text trivia? -/
def val (l : Pl.Bs) : Bool := Pl.eo l == l.length
set_option maxHeartbeats 400000 in
theorem tvalid_any (s : ByteArray) (w : World) (hs : s.size ≤ maxLen) :
    Calls Tryd.prog 56 #[.string s] w fun e w' => e = .returned (.bool (val s.data.toList)) ∧ Below w.heap.size w w' := by
  have HC := Lib.hid (end_in s 0 w hs (Nat.zero_le _))
  have hv : val s.data.toList = (((0 + Pl.eo (rest s 0) : Nat) : Int) == (s.size : Int)) := by
    unfold val rest
    rw [Lib.size_eq, List.drop_zero, Bool.eq_iff_iff]
    simp only [beq_iff_eq]; omega
  obtain ⟨T, hT⟩ : ∃ T : Int, ((0 + Pl.eo (rest s 0) : Nat) : Int) = T := ⟨_, rfl⟩
  rw [hT] at HC hv
  have HV := Lib.hid hv
  clear hT hv
  unfold maxLen at hs
  go_enter Tryd.func56, Tryd.ntmps56
  go_wp2_with (go_at_call 67; refine HC.out.mono ?_; rintro e w' ⟨rfl, hbel⟩)
  go_ret
  exact ⟨ret_bool HV.out.symm, hbel⟩
theorem tvalid_is (s : ByteArray) (b : Bool) (h : val s.data.toList = b) (w : World) (hs : s.size ≤ maxLen) :
    Calls Tryd.prog 56 #[.string s] w fun e w' => e = .returned (.bool b) ∧ Below w.heap.size w w' := h ▸ tvalid_any s w hs
end Go.Proofs.YtmfmlkdojgbhfaaDoor
