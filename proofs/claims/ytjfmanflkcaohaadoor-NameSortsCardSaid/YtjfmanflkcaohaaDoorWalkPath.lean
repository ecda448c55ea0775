/- The walks of name.Path and of the reference's Path. -/
import Derived.Test.YtjfmanflkcaohaaDoorWalkPart
import Derived.Test.YtjfmanflkcaohaaDoorPlainPath
import Derived.Test.YtjfmanflkcaohaaDoorShelf
namespace Go.Proofs.YtjfmanflkcaohaaDoor
open Go.RowKit
set_option linter.unusedVariables false
set_option linter.unusedSimpArgs false

/-- The strings lie one after the other in a block. -/
def StrsAt (w : World) (b o : Nat) (xs : List ByteArray) : Prop := ∀ (j : Nat) x, xs[j]? = some x → w.cell? ⟨b, o + j, none⟩ = some (.string x)
theorem StrsAt.later {w w' : World} {b o : Nat} {xs : List ByteArray} (h : StrsAt w b o xs) (hb : b < w.heap.size) (hbel : Below w.heap.size w w') : StrsAt w' b o xs :=
  fun j x hx => (hbel.cell (p := ⟨b, o + j, none⟩) hb).trans (h j x hx)

/-- The library's variable for the greatest length of a substring holds some number. -/
def Mx (w : World) : Prop := ∃ m : Int, w.cell? ⟨0, 0, none⟩ = some (.int .i64 m) ∧ 0 < w.heap.size
theorem Mx.later {w w' : World} (h : Mx w) (hb : Below w.heap.size w w') : Mx w' := by
  obtain ⟨m, h, h0⟩ := h
  exact ⟨m, (hb.cell (p := ⟨0, 0, none⟩) h0).trans h, Nat.lt_of_lt_of_le h0 hb.size⟩

def Pieces (ps : List ByteArray) (w : World) (e : Ending) (w' : World) : Prop :=
  e = .returned (.slice (some ⟨w.heap.size, 0, none⟩) ps.length ps.length) ∧ StrsAt w' w.heap.size 0 ps ∧ w.heap.size < w'.heap.size ∧ Below w.heap.size w w'
theorem split_any (s : ByteArray) (w : World) (hm : Mx w) (hs : s.size ≤ 64) :
    Calls Tryd.prog 30 #[.string s, .string ⟨#[47]⟩] w (Pieces (Pl.pieces s) w) := by
  obtain ⟨m, hm, _⟩ := hm
  refine (Tryd.strings_Split s ⟨#[47]⟩ m w (by omega) hm (by decide)).mono ?_
  rintro e w' ⟨rfl, rfl⟩
  refine ⟨by rw [Pl.pieces_len], fun j x hx => ?_, by simp, (Below.refl _ _).alloc (Nat.le_refl _) _⟩
  rw [cell_of_row _ _ _ _ _ _ (heap_alloc_new _ _)]
  simp only [Nat.zero_add]
  show ((Pl.pieces s).map Value.string).toArray[j]? = _
  rw [List.getElem?_toArray, List.getElem?_map, hx]
  rfl

theorem path_run (s : ByteArray) (w : World) (hm : Mx w) (hs : s.size ≤ 64) :
    Calls Tryd.prog 15 #[.string s] w fun e w' => e = .returned (.bool (Pl.pathB s)) ∧ Below w.heap.size w w' := by
  have HY := Lib.hid (Pl.path_yes s hs)
  have HNO := Lib.hid (Pl.path_no s hs)
  have hle := Pl.pieces_le s
  have hbig := Pl.pieces_small s
  have hsp := split_any s w hm hs
  generalize Pl.pieces s = ps at *
  obtain ⟨n, hn⟩ : ∃ n, n = ps.length := ⟨_, rfl⟩
  unfold Pieces at hsp
  rw [← hn] at hsp hbig
  have HN := Lib.hid hn
  have HL := Lib.hid hle
  have HSP := Lib.hid hsp
  clear hn hle hsp hm
  go_enter Tryd.func15, Tryd.ntmps15
  go_wp2_with fail
  refine HSP.out.mono ?_
  rintro e w1 ⟨rfl, hstr, hsz, hbel⟩
  have HST := Lib.hid hstr
  clear hstr
  go_wp2_with fail
  go_loopw [11] (fun i wr => ∃ k : Nat, k ≤ n ∧ i = .int .i64 k ∧ StrsAt wr w.heap.size 0 ps ∧ w.heap.size < wr.heap.size ∧ Below w.heap.size w wr ∧ ∀ j, (hj : j < ps.length) → j < k → Pl.pt ps[j].data.toList = true) (fun i _ => n - (intOf i).toNat)
  case atStart => exact ⟨0, Nat.zero_le _, rfl, HST.out, hsz, hbel, fun j hj h => absurd h (Nat.not_lt_zero _)⟩
  case round =>
    obtain ⟨k, hk, rfl, hstr, hsz2, hbel2, hpt⟩ := hrel
    have HP := Lib.hid hpt
    have HS := Lib.hid hstr
    clear hpt hstr
    by_cases hp : k < n
    · have hkx : k < ps.length := by rw [← HN.out]; exact hp
      have hcl := HS.out k _ (List.getElem?_eq_getElem hkx)
      rw [Nat.zero_add] at hcl
      have hz : ps[k].size ≤ maxLen := by
        have := HL.out _ (List.getElem_mem hkx)
        unfold maxLen; omega
      cases hb : Pl.pt ps[k].data.toList
      · have HF := Lib.hid (HNO.out k hkx hb)
        have HB := Lib.hid (part_is ps[k] _ hb wr hz)
        clear hb hz
        generalize ps[k] = x at *
        go_wp2_with fail
        refine HB.out.mono ?_
        rintro e w2 ⟨rfl, hb2⟩
        go_wp2
        go_ret
        exact ⟨ret_bool HF.out.symm, hbel2.trans (hb2.mono hbel2.size)⟩
      · have HB := Lib.hid (part_is ps[k] _ hb wr hz)
        have HA : Hid (∀ j, (hj : j < ps.length) → j < k + 1 → Pl.pt ps[j].data.toList = true) := Lib.hid fun j hj hlt => by
          by_cases e : j = k
          · subst e; exact hb
          · exact HP.out j hj (by omega)
        clear hb hz
        generalize ps[k] = x at *
        go_wp2_with fail
        refine HB.out.mono ?_
        rintro e w2 ⟨rfl, hb2⟩
        have HS2 := Lib.hid (HS.out.later hsz2 hb2)
        have hsz3 := hb2.size
        go_wp2
        exact ⟨⟨k + 1, by omega, by go_num, HS2.out, by omega, hbel2.trans (hb2.mono hbel2.size), HA.out⟩, by simp [intOf]; omega⟩
    · have HT := Lib.hid (HY.out fun j hj => HP.out j hj (by rw [← HN.out] at hj; omega))
      go_wp2_with fail
      go_ret
      exact ⟨ret_bool HT.out.symm, hbel2⟩
theorem path_long (s : ByteArray) (w : World) (hs : s.size ≤ maxLen) (h : 64 < s.size) :
    Calls Tryd.prog 15 #[.string s] w fun e w' => e = .returned (.bool (Pl.pathB s)) ∧ Below w.heap.size w w' := by
  rw [Pl.path_long s h]
  unfold maxLen at hs
  go_enter Tryd.func15, Tryd.ntmps15
  go_wp2_with fail
  go_ret
  exact ⟨rfl, Below.refl _ _⟩
theorem path_any (s : ByteArray) (w : World) (hm : Mx w) (hs : s.size ≤ maxLen) :
    Calls Tryd.prog 15 #[.string s] w fun e w' => e = .returned (.bool (Pl.pathB s)) ∧ Below w.heap.size w w' := by
  by_cases h : s.size ≤ 64
  · exact path_run s w hm h
  · exact path_long s w hs (by omega)

theorem path_is (s : ByteArray) (b : Bool) (h : Pl.pathB s = b) (w : World) (hm : Mx w) (hs : s.size ≤ maxLen) :
    Calls Tryd.prog 15 #[.string s] w fun e w' => e = .returned (.bool b) ∧ Below w.heap.size w w' := h ▸ path_any s w hm hs

theorem rpath_out (s : ByteArray) (w : World) (hs : s.size ≤ maxLen) (h : s.size < 1 ∨ 64 < s.size) :
    Calls Tryd.prog 16 #[.string s] w fun e w' => e = .returned (.bool (Pl.pathB s)) ∧ w = w' := by
  unfold maxLen at hs
  rcases h with h | h
  · rw [Pl.path_zero s (by omega)]
    go_enter Tryd.func16, Tryd.ntmps16
    go_wp2_with fail
    go_ret
    exact ⟨rfl, rfl⟩
  · rw [Pl.path_long s h]
    go_enter Tryd.func16, Tryd.ntmps16
    go_wp2_with fail
    go_ret
    exact ⟨rfl, rfl⟩
theorem rpath_run (s : ByteArray) (w : World) (hs : s.size ≤ 64) (h : 1 ≤ s.size) :
    Calls Tryd.prog 16 #[.string s] w fun e w' => e = .returned (.bool (Pl.pathB s)) ∧ w = w' := by
  go_enter Tryd.func16, Tryd.ntmps16
  go_wp2_with fail
  go_loop [3, 4] (fun f i => ∃ a k : Nat, i = .int .i64 k ∧ f = .int .i64 a ∧ a ≤ k ∧ k ≤ s.size ∧ Pl.Seen s a k) (fun _ i => s.size - (intOf i).toNat)
  case atStart => exact ⟨0, 0, rfl, rfl, Nat.le_refl _, Nat.zero_le _, Pl.seen_start s⟩
  case round =>
    obtain ⟨a, k, rfl, rfl, hak, hks, hseen⟩ := hrel
    have HS := Lib.hid hseen
    clear hseen
    by_cases hp : k < s.size
    · by_cases hc : s[k].toNat = 47
      · have hb : ((s[k].toNat : Int) == 47) = true := by simp [hc]
        have hz : (s.extract a k).size ≤ maxLen := by rw [ByteArray.size_extract]; unfold maxLen; omega
        cases hpt : Pl.pt (s.extract a k).data.toList
        · have HF := Lib.hid (Pl.seen_off s a k hs HS.out hp hc hpt)
          have HP := Lib.hid (fun wx => rpart_is (s.extract a k) _ hpt wx hz)
          have HC := Lib.hid hc
          clear hpt hz hc
          go_wp2_with (go_at_call 32; refine (HP.out _).mono ?_; rintro e w' ⟨rfl, rfl⟩)
          go_ret
          exact ⟨ret_bool HF.out.symm, rfl⟩
        · have HF := Lib.hid (Pl.seen_on s a k HS.out hp hc hpt)
          have HP := Lib.hid (fun wx => rpart_is (s.extract a k) _ hpt wx hz)
          have HC := Lib.hid hc
          clear hpt hz hc
          go_wp2_with (go_at_call 32; refine (HP.out _).mono ?_; rintro e w' ⟨rfl, rfl⟩)
          exact ⟨⟨k + 1, k + 1, by go_num, by go_num, Nat.le_refl _, by omega, HF.out⟩, by simp [intOf]; omega⟩
      · have hb : ((s[k].toNat : Int) == 47) = false := by simp; omega
        have HF := Lib.hid (Pl.seen_step s a k HS.out hp hc)
        go_wp2_with fail
        exact ⟨⟨a, k + 1, by go_num, rfl, by omega, by omega, HF.out⟩, by simp [intOf]; omega⟩
    · obtain rfl : k = s.size := by omega
      have HE := Lib.hid (Pl.seen_end s a hs HS.out)
      have hz : (s.extract a s.size).size ≤ maxLen := by rw [ByteArray.size_extract]; unfold maxLen; omega
      go_wp2_with (go_at_call 32; refine (rpart_any _ _ hz).mono ?_; rintro e w' ⟨rfl, rfl⟩)
      go_ret
      exact ⟨ret_bool (by have h := HE.out; rw [Pl.extract_list] at h; exact h.symm), rfl⟩
theorem rpath_any (s : ByteArray) (w : World) (hs : s.size ≤ maxLen) :
    Calls Tryd.prog 16 #[.string s] w fun e w' => e = .returned (.bool (Pl.pathB s)) ∧ w = w' := by
  by_cases h : s.size < 1 ∨ 64 < s.size
  · exact rpath_out s w hs h
  · exact rpath_run s w (by omega) (by omega)
end Go.Proofs.YtjfmanflkcaohaaDoor
