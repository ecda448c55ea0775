/- The walk of skip. -/
import Derived.Test.YtmfmlkdojgbhfaaDoorWalkWord
import Derived.Test.YtmfmlkdojgbhfaaDoorPlainEnd
import Derived.Test.YtmfmlkdojgbhfaaDoorShelf
import Derived.WalkKit
import Derived.WalkSpells
import Derived.WalkLawsBesides
import Derived.Outline
import Derived.Lib.Hide
namespace Go.Proofs.YtmfmlkdojgbhfaaDoor
open Go.RowKit
set_option linter.unusedVariables false
set_option linter.unusedSimpArgs false


/-- The rest of a string from an offset on. -/
def rest (s : ByteArray) (k : Nat) : Pl.Bs := s.data.toList.drop k
theorem rest_ext (s : ByteArray) (k : Nat) : (s.extract k s.size).data.toList = rest s k := by
  rw [Pl.extract_list, List.take_of_length_le (by rw [← Lib.size_eq]; exact Nat.le_refl _)]; rfl
theorem rest_len (s : ByteArray) (k : Nat) : (rest s k).length = s.size - k := by unfold rest; rw [List.length_drop, ← Lib.size_eq]
theorem rest_cons (s : ByteArray) (k : Nat) (h : k < s.size) : rest s k = s[k] :: rest s (k + 1) := by
  unfold rest
  rw [List.drop_eq_getElem_cons (by rw [← Lib.size_eq]; exact h)]; rfl
theorem rest_end (s : ByteArray) (k : Nat) (h : s.size ≤ k) : rest s k = [] := by
  unfold rest; rw [List.drop_of_length_le]; rw [← Lib.size_eq]; exact h

theorem ext_zero (s : ByteArray) (k : Nat) (hk : k < s.size) (h : 0 < (s.extract k s.size).size) : (s.extract k s.size)[0] = s[k] := by
  have e := Pl.get_list (s.extract k s.size) 0 h (by rw [← Lib.size_eq]; exact h)
  rw [← e]
  simp only [rest_ext, rest_cons s k hk, List.getElem_cons_zero]
theorem hop_one (s : ByteArray) (k : Nat) (hk : k < s.size) (h : 0 < (s.extract k s.size).size) (n : Nat) (hn : (n : Int) = 32 ∨ (n : Int) = 9 ∨ (n : Int) = 10) (hc : (((s.extract k s.size)[0].toNat : Int) == (n : Int)) = true) : Pl.hop (rest s k) = 1 := by
  rw [ext_zero s k hk h] at hc
  have h1 : (s[k].toNat : Int) = n := by simpa using hc
  rw [rest_cons s k hk]
  refine Pl.hop_blank _ _ ((Pl.blank_iff _).2 ?_)
  rcases hn with hn | hn | hn
  · exact .inl (UInt8.toNat_inj.1 (by show _ = 32; omega))
  · exact .inr (.inl (UInt8.toNat_inj.1 (by show _ = 9; omega)))
  · exact .inr (.inr (UInt8.toNat_inj.1 (by show _ = 10; omega)))
theorem blank_off (c : UInt8) (h1 : ((c.toNat : Int) == 32) = false) (h2 : ((c.toNat : Int) == 9) = false) (h3 : ((c.toNat : Int) == 10) = false) : Pl.blank c = false := by
  cases hb : Pl.blank c with
  | false => rfl
  | true =>
    rcases (Pl.blank_iff c).1 hb with rfl | rfl | rfl
    · simp at h1
    · simp at h2
    · simp at h3
theorem hop_out (s : ByteArray) (k : Nat) (hk : k < s.size) (h : 0 < (s.extract k s.size).size) (hp : Lib.hasPrefix (rest s k) [47, 47] = false) (h1 : (((s.extract k s.size)[0].toNat : Int) == 32) = false) (h2 : (((s.extract k s.size)[0].toNat : Int) == 9) = false) (h3 : (((s.extract k s.size)[0].toNat : Int) == 10) = false) : Pl.hop (rest s k) = 0 := by
  rw [ext_zero s k hk h] at h1 h2 h3
  rw [rest_cons s k hk] at hp ⊢
  exact Pl.hop_not _ _ (blank_off _ h1 h2 h3) hp
theorem ext_some (s : ByteArray) (k : Nat) (hk : k < s.size) : (s.extract k s.size).toList.isEmpty = false := by
  rw [Pl.toList_eq, rest_ext, rest_cons s k hk]; rfl

theorem prefix_is (y : ByteArray) (b : Bool) (h : Lib.hasPrefix y.data.toList [47, 47] = b) (w : World) :
    Calls Tryd.prog 72 #[.string y, .string ⟨#[47, 47]⟩] w fun e w' => e = .returned (.bool b) ∧ w = w' :=
  (Tryd.strings_HasPrefix y ⟨#[47, 47]⟩ w).mono fun e w' ⟨he, hw⟩ => ⟨by rw [he]; exact ret_bool h, hw.symm⟩
theorem idx_is (y : ByteArray) (n : Int) (h : Lib.indexByte y.data.toList 10 = n) (w : World) :
    Calls Tryd.prog 73 #[.string y, .int .u8 10] w fun e w' => e = .returned (.int .i64 n) ∧ w = w' :=
  (Tryd.strings_IndexByte y 10 w).mono fun e w' ⟨he, hw⟩ => ⟨by rw [he]; exact ret_int h, hw.symm⟩

set_option maxHeartbeats 400000 in
theorem skip_end (s : ByteArray) (w : World) (hs : s.size ≤ maxLen) :
    Calls Tryd.prog 71 #[.string s, .int .i64 s.size] w fun e w' => e = .returned (.int .i64 s.size) ∧ w = w' := by
  unfold maxLen at hs
  go_enter Tryd.func71, Tryd.ntmps71
  go_wp2_with fail
  go_ret
  exact ⟨rfl, rfl⟩
set_option maxHeartbeats 800000 in
theorem skip_some (s : ByteArray) (k : Nat) (w : World) (hs : s.size ≤ maxLen) (hk : k < s.size) :
    Calls Tryd.prog 71 #[.string s, .int .i64 k] w fun e w' => e = .returned (.int .i64 ((k + Pl.hop (rest s k) : Nat) : Int)) ∧ w = w' := by
  unfold maxLen at hs
  have hq : 0 < (s.extract k s.size).size := by rw [Lib.size_eq, rest_ext, rest_len]; omega
  have h0 := ext_some s k hk
  have hle := Pl.hop_le (rest s k)
  rw [rest_len] at hle
  by_cases hp : Lib.hasPrefix (rest s k) [47, 47] = true
  · obtain ⟨n, hn⟩ : ∃ n, Lib.indexByte (rest s k) 10 = n := ⟨_, rfl⟩
    have hi := Pl.hop_idx _ hp
    rw [hn] at hi
    have hn1 : -1 ≤ n := by omega
    have hn2 : n + 1 ≤ s.size - k := by omega
    have HP : Hid (Lib.hasPrefix (s.extract k s.size).data.toList [47, 47] = true) := Lib.hid (by rw [rest_ext]; exact hp)
    have HN : Hid (Lib.indexByte (s.extract k s.size).data.toList 10 = n) := Lib.hid (by rw [rest_ext]; exact hn)
    have HI := Lib.hid hi
    clear hp hn hi hle
    go_enter Tryd.func71, Tryd.ntmps71
    go_wp2_with (first
      | (go_at_call 72; refine (prefix_is _ _ HP.out _).mono ?_; rintro e w' ⟨rfl, rfl⟩)
      | (go_at_call 73; refine (idx_is _ _ HN.out _).mono ?_; rintro e w' ⟨rfl, rfl⟩))
    · have hc : (((s.extract k s.size)[0].toNat : Int) == 32) = true := by assumption
      go_ret
      exact ⟨ret_int (by rw [hop_one s k hk hq 32 (by omega) hc]; rfl), rfl⟩
    · have hc : (((s.extract k s.size)[0].toNat : Int) == 9) = true := by assumption
      go_ret
      exact ⟨ret_int (by rw [hop_one s k hk hq 9 (by omega) hc]; rfl), rfl⟩
    · have hc : (((s.extract k s.size)[0].toNat : Int) == 10) = true := by assumption
      go_ret
      exact ⟨ret_int (by rw [hop_one s k hk hq 10 (by omega) hc]; rfl), rfl⟩
    · go_ret
      exact ⟨ret_int (by have := HI.out; omega), rfl⟩
  · have hp2 : Lib.hasPrefix (rest s k) [47, 47] = false := by simpa using hp
    have HP : Hid (Lib.hasPrefix (s.extract k s.size).data.toList [47, 47] = false) := Lib.hid (by rw [rest_ext]; exact hp2)
    have HQ := Lib.hid hp2
    clear hp hp2 hle
    go_enter Tryd.func71, Tryd.ntmps71
    go_wp2_with (first
      | (go_at_call 72; refine (prefix_is _ _ HP.out _).mono ?_; rintro e w' ⟨rfl, rfl⟩))
    · have hc : (((s.extract k s.size)[0].toNat : Int) == 32) = true := by assumption
      go_ret
      exact ⟨ret_int (by rw [hop_one s k hk hq 32 (by omega) hc]; rfl), rfl⟩
    · have hc : (((s.extract k s.size)[0].toNat : Int) == 9) = true := by assumption
      go_ret
      exact ⟨ret_int (by rw [hop_one s k hk hq 9 (by omega) hc]; rfl), rfl⟩
    · have hc : (((s.extract k s.size)[0].toNat : Int) == 10) = true := by assumption
      go_ret
      exact ⟨ret_int (by rw [hop_one s k hk hq 10 (by omega) hc]; rfl), rfl⟩
    · have h1 : (((s.extract k s.size)[0].toNat : Int) == 32) = false := by assumption
      have h2 : (((s.extract k s.size)[0].toNat : Int) == 9) = false := by assumption
      have h3 : (((s.extract k s.size)[0].toNat : Int) == 10) = false := by assumption
      go_ret
      exact ⟨ret_int (by rw [hop_out s k hk hq HQ.out h1 h2 h3]; rfl), rfl⟩
theorem skip_any (s : ByteArray) (k : Nat) (w : World) (hs : s.size ≤ maxLen) (hk : k ≤ s.size) :
    Calls Tryd.prog 71 #[.string s, .int .i64 k] w fun e w' => e = .returned (.int .i64 ((k + Pl.hop (rest s k) : Nat) : Int)) ∧ w = w' := by
  by_cases h : k < s.size
  · exact skip_some s k w hs h
  · obtain rfl : k = s.size := by omega
    rw [rest_end s s.size (Nat.le_refl _)]
    exact skip_end s w hs

end Go.Proofs.YtmfmlkdojgbhfaaDoor
