/- The walk of the law on indentation. -/
import Derived.Test.YtheemneojippgaaWalkAwake
namespace Go.Proofs.Ytheemneojippgaa
open Go.RowKit
set_option linter.unusedVariables false
set_option linter.unusedSimpArgs false

theorem indOf_size (s : ByteArray) : (indOf s).size = Pl.ind s.data.toList ∧ (indOf s).size ≤ s.size := by
  have h := Pl.ind_le s.data.toList
  rw [← Lib.size_eq] at h
  have := Pl.extract_size s _ h
  unfold indOf; omega
theorem indOf_extract (s : ByteArray) : s.extract 0 (indOf s).size = indOf s := by
  rw [(indOf_size s).1]; rfl
theorem indOf_byte (s : ByteArray) (i : Nat) (h : i < (indOf s).size) : ((indOf s)[i]'h).toNat = 32 ∨ ((indOf s)[i]'h).toNat = 9 := by
  have hs := indOf_size s
  have hl : i < s.data.toList.length := by rw [← Lib.size_eq]; omega
  have h1 := Pl.ind_yes s.data.toList i hl (by omega)
  have e : (indOf s)[i] = s.data.toList[i] := by
    have h2 : (indOf s).data.toList[i]? = s.data.toList[i]? := by
      unfold indOf; rw [Pl.extract_list, List.drop_zero, List.getElem?_take, if_pos (by omega)]
    rw [List.getElem?_eq_getElem (by rw [← Lib.size_eq]; exact h), List.getElem?_eq_getElem hl] at h2
    exact Option.some.inj h2
  rw [e]
  unfold Pl.isBlank at h1
  simp only [Bool.or_eq_true, decide_eq_true_eq] at h1
  rcases h1 with h1 | h1
  · left; rw [h1]; rfl
  · right; rw [h1]; rfl
theorem indOf_next (s : ByteArray) (h : (indOf s).size < s.size) : s[(indOf s).size].toNat ≠ 32 ∧ s[(indOf s).size].toNat ≠ 9 := by
  have hs := indOf_size s
  have h1 := Pl.ind_no s.data.toList (by rw [← Lib.size_eq]; omega)
  have e : s[(indOf s).size] = s.data.toList[Pl.ind s.data.toList]'(by rw [← Lib.size_eq]; omega) := by
    rw [← Pl.get_list s _ h (by rw [← Lib.size_eq]; exact h)]
    congr 1; exact hs.1
  rw [e]
  unfold Pl.isBlank at h1
  simp only [Bool.or_eq_false_iff, decide_eq_false_iff_not] at h1
  refine ⟨fun x => h1.1 ?_, fun x => h1.2 ?_⟩
  · apply UInt8.toNat_inj.1; rw [x]; rfl
  · apply UInt8.toNat_inj.1; rw [x]; rfl

set_option maxHeartbeats 800000 in
theorem lawIndents (s : ByteArray) (w : World) (hs : s.size ≤ 140737488351232) :
    Calls Try.prog 8 #[.string s] w fun e w' => e = .returned (.bool true) ∧ Below w.heap.size w w' := by
  have hz := (indOf_size s).2
  have hx := indOf_extract s
  have hb := indOf_byte s
  have hnx := indOf_next s
  have HI := Lib.hid (indent_any s w (by unfold maxLen; omega))
  generalize indOf s = x at *
  have hsl : ∀ wx, (Instr.slice 9 (.string s) none (some (.int .i64 (x.size : Int))) none).run Try.prog wx = .ok (.string x) wx := fun wx => by
    rw [run_slice_string_to_if wx 9 s .i64 x.size Try.underlying9, if_pos ⟨by omega, by omega⟩]
    show Result.ok (Value.string (s.extract 0 x.size)) wx = _
    rw [hx]
  have HB := Lib.hid hb
  have HN := Lib.hid hnx
  clear hx hb hnx
  go_enter Try.func8, Try.ntmps8
  go_wp2_with fail
  refine (HI.out).mono ?_
  rintro e w1 ⟨rfl, hb1⟩
  go_wp2
  go_loop [5] (fun i => ∃ k : Nat, k ≤ x.size ∧ i = .int .i64 k) (fun i => x.size - (intOf i).toNat)
  case atStart => exact ⟨0, Nat.zero_le _, rfl⟩
  case round =>
    obtain ⟨k, hk, rfl⟩ := hrel
    by_cases hlt : k < x.size
    · rcases HB.out k hlt with h | h
      · have hcb : ((x[k].toNat : Int) != 32) = false := by simp [h]
        clear h
        go_wp2
        exact ⟨⟨k + 1, by omega, by go_num⟩, by simp [intOf]; omega⟩
      · have hcb : ((x[k].toNat : Int) != 32) = true := by simp [h]
        have hcb2 : ((x[k].toNat : Int) != 9) = false := by simp [h]
        clear h
        go_wp2
        exact ⟨⟨k + 1, by omega, by go_num⟩, by simp [intOf]; omega⟩
    · by_cases hend : x.size < s.size
      · obtain ⟨g1, g2⟩ := HN.out hend
        have e0 : ((x.size : Int) == s.size) = false := by simp; omega
        have e1 : ((s[x.size].toNat : Int) != 32) = true := by simp; omega
        have e2 : ((s[x.size].toNat : Int) != 9) = true := by simp; omega
        clear g1 g2
        go_wp2_with (go_at_call 18; refine (awake_any _).mono ?_; rintro e w2 ⟨rfl, hb2⟩)
        go_ret
        exact ⟨rfl, hb1.trans (hb2.mono hb1.size)⟩
      · have e0 : ((x.size : Int) == s.size) = true := by simp; omega
        go_wp2_with (go_at_call 18; refine (awake_any _).mono ?_; rintro e w2 ⟨rfl, hb2⟩)
        go_ret
        exact ⟨rfl, hb1.trans (hb2.mono hb1.size)⟩
end Go.Proofs.Ytheemneojippgaa
