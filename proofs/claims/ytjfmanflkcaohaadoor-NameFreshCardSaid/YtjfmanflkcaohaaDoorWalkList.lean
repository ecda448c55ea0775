/- The walks over lists of strings that only read. -/
import Derived.Test.YtjfmanflkcaohaaDoorWalkFresh
namespace Go.Proofs.YtjfmanflkcaohaaDoor
open Go.RowKit
set_option linter.unusedVariables false
set_option linter.unusedSimpArgs false

/-- A slice that reads as a list of strings, wherever it lies. -/
def Reads (w : World) (v : Value) (xs : List ByteArray) : Prop :=
  (xs = [] ∧ ∃ a c, v = .slice a 0 c ∧ (a = none → c = 0)) ∨
  ∃ b o c, v = .slice (some ⟨b, o, none⟩) xs.length c ∧ b < w.heap.size ∧ StrsAt w b o xs ∧ xs.length ≤ maxLen
theorem Reads.later {w w' : World} {v : Value} {xs : List ByteArray} (h : Reads w v xs) (hb : Below w.heap.size w w') : Reads w' v xs := by
  rcases h with h | ⟨b, o, c, h1, h2, h3, h4⟩
  · exact .inl h
  · exact .inr ⟨b, o, c, h1, Nat.lt_of_lt_of_le h2 hb.size, h3.later h2 hb, h4⟩
theorem reads_nil (w : World) : Reads w (.slice none 0 0) [] := .inl ⟨rfl, _, _, rfl, fun _ => rfl⟩

theorem has_any (v : Value) (xs : List ByteArray) (x : ByteArray) (w : World) (h : Reads w v xs) :
    Calls Tryd.prog 23 #[v, .string x] w fun e w' => e = .returned (.bool (Pl.inL xs x)) ∧ w = w' := by
  have hq : Calls Tryd.prog 38 #[v, .string x] w fun e w' => e = .returned (.bool (Pl.inL xs x)) ∧ w = w' := by
    rcases h with ⟨rfl, a, c, rfl, _⟩ | ⟨b, o, c, rfl, _, h2, h3⟩
    · refine (Tryd.slices_Contains_string_empty a c x w).mono ?_
      rintro e w' ⟨rfl, rfl⟩
      exact ⟨rfl, rfl⟩
    · refine (Tryd.slices_Contains_string b o xs.length c xs x w (Nat.le_refl _) (by unfold maxLen at h3; omega) (fun j hj => ?_)).mono ?_
      · rw [h2 j _ (List.getElem?_eq_getElem hj), List.getD_eq_getElem?_getD, List.getElem?_eq_getElem hj]; rfl
      · rintro e w' ⟨rfl, rfl⟩
        refine ⟨ret_bool ?_, rfl⟩
        rw [List.take_length, Bool.eq_iff_iff, Lib.containsS_iff, Pl.inL_iff]
  have HQ := Lib.hid hq
  clear hq h
  go_enter Tryd.func23, Tryd.ntmps23
  go_wp2_with fail
  refine HQ.out.mono ?_
  rintro e w' ⟨rfl, rfl⟩
  go_wp2_with fail
  go_ret
  exact ⟨rfl, rfl⟩
theorem has_is (v : Value) (xs : List ByteArray) (x : ByteArray) (b : Bool) (hb : Pl.inL xs x = b) (w : World) (h : Reads w v xs) :
    Calls Tryd.prog 23 #[v, .string x] w fun e w' => e = .returned (.bool b) ∧ w = w' := hb ▸ has_any v xs x w h

theorem rhas_none (a : Option Addr) (c : Nat) (x : ByteArray) (w : World) :
    Calls Tryd.prog 24 #[.slice a 0 c, .string x] w fun e w' => e = .returned (.bool (Pl.inL [] x)) ∧ w = w' := by
  go_enter Tryd.func24, Tryd.ntmps24
  go_wp2_with fail
  refine wp_loop_rounds 1 ?_; rw [rounds_succ]
  go_wp2_with fail
  go_ret
  exact ⟨rfl, rfl⟩
set_option maxHeartbeats 400000 in
theorem rhas_some (b o c n : Nat) (xs : List ByteArray) (x : ByteArray) (w : World) (hc : StrsAt w b o xs) (hn : n = xs.length) (hm : n ≤ maxLen) :
    Calls Tryd.prog 24 #[.slice (some ⟨b, o, none⟩) n c, .string x] w fun e w' => e = .returned (.bool (Pl.inL xs x)) ∧ w = w' := by
  have HN := Lib.hid hn
  have HC := Lib.hid hc
  clear hn hc
  unfold maxLen at hm
  go_enter Tryd.func24, Tryd.ntmps24
  go_wp2_with fail
  go_loop [5] (fun i => ∃ k : Nat, k ≤ n ∧ i = .int .i64 k ∧ Pl.inL (xs.take k) x = false) (fun i => n - (intOf i).toNat)
  case atStart => exact ⟨0, Nat.zero_le _, rfl, rfl⟩
  case round =>
    obtain ⟨k, hk, rfl, hno⟩ := hrel
    have HO := Lib.hid hno
    clear hno
    by_cases hp : k < n
    · have hkx : k < xs.length := by rw [← HN.out]; exact hp
      have hcl := HC.out k _ (List.getElem?_eq_getElem hkx)
      have HT := Lib.hid (Pl.inL_take xs k hkx x)
      by_cases he : xs[k] = x
      · have HY : Hid (Pl.inL xs x = true) := Lib.hid (Pl.inL_yes xs x (by rw [← he]; exact List.getElem_mem _))
        have hb : (xs[k].toList == x.toList) = true := by rw [he]; exact beq_self_eq_true _
        clear HT he
        generalize xs[k] = y at *
        go_wp2_with fail
        go_ret
        exact ⟨ret_bool HY.out.symm, rfl⟩
      · have HF : Hid (Pl.inL (xs.take (k + 1)) x = false) := Lib.hid (by rw [HT.out, HO.out]; simpa using he)
        have hb : (xs[k].toList == x.toList) = false := by
          have : xs[k].toList ≠ x.toList := fun e => he (Pl.list_ext (by rw [← Pl.toList_eq, ← Pl.toList_eq]; exact e))
          simpa using this
        clear HT he
        generalize xs[k] = y at *
        go_wp2_with fail
        exact ⟨⟨k + 1, by omega, by go_num, HF.out⟩, by simp [intOf]; omega⟩
    · have hkn : k = n := by omega
      subst hkn
      have HL : Hid (Pl.inL xs x = false) := Lib.hid (by have := HO.out; rw [HN.out, List.take_length] at this; exact this)
      go_wp2_with fail
      go_ret
      exact ⟨ret_bool HL.out.symm, rfl⟩
theorem rhas_any (v : Value) (xs : List ByteArray) (x : ByteArray) (w : World) (h : Reads w v xs) :
    Calls Tryd.prog 24 #[v, .string x] w fun e w' => e = .returned (.bool (Pl.inL xs x)) ∧ w = w' := by
  rcases h with ⟨rfl, a, c, rfl, _⟩ | ⟨b, o, c, rfl, _, h2, h3⟩
  · exact rhas_none a c x w
  · exact rhas_some b o c _ xs x w h2 rfl h3
theorem rhas_is (v : Value) (xs : List ByteArray) (x : ByteArray) (b : Bool) (hb : Pl.inL xs x = b) (w : World) (h : Reads w v xs) :
    Calls Tryd.prog 24 #[v, .string x] w fun e w' => e = .returned (.bool b) ∧ w = w' := hb ▸ rhas_any v xs x w h

theorem lhas_none (a : Option Addr) (c : Nat) (x : ByteArray) (w : World) :
    Calls Tryd.prog 25 #[.slice a 0 c, .string x] w fun e w' => e = .returned (.bool (Pl.inL [] x)) ∧ w = w' := by
  go_enter Tryd.func25, Tryd.ntmps25
  go_wp2_with fail
  refine wp_loop_rounds 1 ?_; rw [rounds_succ]
  go_wp2_with fail
  go_ret
  exact ⟨rfl, rfl⟩
set_option maxHeartbeats 400000 in
theorem lhas_some (b o c n : Nat) (xs : List ByteArray) (x : ByteArray) (w : World) (hc : StrsAt w b o xs) (hn : n = xs.length) (hm : n ≤ maxLen) :
    Calls Tryd.prog 25 #[.slice (some ⟨b, o, none⟩) n c, .string x] w fun e w' => e = .returned (.bool (Pl.inL xs x)) ∧ w = w' := by
  have HN := Lib.hid hn
  have HC := Lib.hid hc
  clear hn hc
  unfold maxLen at hm
  go_enter Tryd.func25, Tryd.ntmps25
  go_wp2_with fail
  go_loop [5] (fun i => ∃ k : Nat, k ≤ n ∧ i = .int .i64 k ∧ Pl.inL (xs.take k) x = false) (fun i => n - (intOf i).toNat)
  case atStart => exact ⟨0, Nat.zero_le _, rfl, rfl⟩
  case round =>
    obtain ⟨k, hk, rfl, hno⟩ := hrel
    have HO := Lib.hid hno
    clear hno
    by_cases hp : k < n
    · have hkx : k < xs.length := by rw [← HN.out]; exact hp
      have hcl := HC.out k _ (List.getElem?_eq_getElem hkx)
      have HT := Lib.hid (Pl.inL_take xs k hkx x)
      by_cases he : xs[k] = x
      · have HY : Hid (Pl.inL xs x = true) := Lib.hid (Pl.inL_yes xs x (by rw [← he]; exact List.getElem_mem _))
        have hb : (xs[k].toList == x.toList) = true := by rw [he]; exact beq_self_eq_true _
        clear HT he
        generalize xs[k] = y at *
        go_wp2_with fail
        go_ret
        exact ⟨ret_bool HY.out.symm, rfl⟩
      · have HF : Hid (Pl.inL (xs.take (k + 1)) x = false) := Lib.hid (by rw [HT.out, HO.out]; simpa using he)
        have hb : (xs[k].toList == x.toList) = false := by
          have : xs[k].toList ≠ x.toList := fun e => he (Pl.list_ext (by rw [← Pl.toList_eq, ← Pl.toList_eq]; exact e))
          simpa using this
        clear HT he
        generalize xs[k] = y at *
        go_wp2_with fail
        exact ⟨⟨k + 1, by omega, by go_num, HF.out⟩, by simp [intOf]; omega⟩
    · have hkn : k = n := by omega
      subst hkn
      have HL : Hid (Pl.inL xs x = false) := Lib.hid (by have := HO.out; rw [HN.out, List.take_length] at this; exact this)
      go_wp2_with fail
      go_ret
      exact ⟨ret_bool HL.out.symm, rfl⟩
theorem lhas_any (v : Value) (xs : List ByteArray) (x : ByteArray) (w : World) (h : Reads w v xs) :
    Calls Tryd.prog 25 #[v, .string x] w fun e w' => e = .returned (.bool (Pl.inL xs x)) ∧ w = w' := by
  rcases h with ⟨rfl, a, c, rfl, _⟩ | ⟨b, o, c, rfl, _, h2, h3⟩
  · exact lhas_none a c x w
  · exact lhas_some b o c _ xs x w h2 rfl h3
theorem lhas_is (v : Value) (xs : List ByteArray) (x : ByteArray) (b : Bool) (hb : Pl.inL xs x = b) (w : World) (h : Reads w v xs) :
    Calls Tryd.prog 25 #[v, .string x] w fun e w' => e = .returned (.bool b) ∧ w = w' := hb ▸ lhas_any v xs x w h

/-- The answer of Short, of which only what true says is wanted. -/
def SomeShort (xs : List ByteArray) (N M : Int) (w : World) (e : Ending) (w' : World) : Prop := ∃ s : Bool, e = .returned (.bool s) ∧ (s = true ↔ (xs.length : Int) ≤ N ∧ ∀ x ∈ xs, (x.size : Int) ≤ M) ∧ w = w'
theorem short_none (a : Option Addr) (c : Nat) (N M : Int) (hN : 0 ≤ N) (w : World) :
    Calls Tryd.prog 17 #[.slice a 0 c, .int .i64 N, .int .i64 M] w (SomeShort [] N M w) := by
  go_enter Tryd.func17, Tryd.ntmps17
  go_wp2_with fail
  refine wp_loop_rounds 1 ?_; rw [rounds_succ]
  go_wp2_with fail
  go_ret
  exact ⟨_, rfl, ⟨fun _ => ⟨by simpa using hN, fun x hx => by cases hx⟩, fun _ => rfl⟩, rfl⟩
set_option maxHeartbeats 400000 in
theorem short_some (b o c n : Nat) (xs : List ByteArray) (N M : Int) (w : World) (hc : StrsAt w b o xs) (hn : n = xs.length) (hm : n ≤ maxLen) :
    Calls Tryd.prog 17 #[.slice (some ⟨b, o, none⟩) n c, .int .i64 N, .int .i64 M] w (SomeShort xs N M w) := by
  have HN := Lib.hid hn
  have HC := Lib.hid hc
  clear hn hc
  unfold maxLen at hm
  by_cases hbig : N < (n : Int)
  · go_enter Tryd.func17, Tryd.ntmps17
    go_wp2_with fail
    go_ret
    exact ⟨_, rfl, ⟨(fun h => by cases h), fun h => absurd h.1 (by rw [← HN.out]; omega)⟩, rfl⟩
  · go_enter Tryd.func17, Tryd.ntmps17
    go_wp2_with fail
    go_loop [7] (fun i => ∃ k : Nat, k ≤ n ∧ i = .int .i64 k ∧ ∀ x ∈ xs.take k, (x.size : Int) ≤ M) (fun i => n - (intOf i).toNat)
    case atStart => exact ⟨0, Nat.zero_le _, rfl, fun x hx => by simp at hx⟩
    case round =>
      obtain ⟨k, hk, rfl, hall⟩ := hrel
      have HO := Lib.hid hall
      clear hall
      by_cases hp : k < n
      · have hkx : k < xs.length := by rw [← HN.out]; exact hp
        have hcl := HC.out k _ (List.getElem?_eq_getElem hkx)
        have HT := Lib.hid (List.take_succ_eq_append_getElem hkx)
        have HMemX := Lib.hid (List.getElem_mem hkx)
        generalize xs[k] = x at hcl HT HMemX
        by_cases hx : (x.size : Int) > M
        · go_wp2_with fail
          go_ret
          exact ⟨_, rfl, ⟨(fun h => by cases h), fun h => absurd (h.2 x HMemX.out) (by omega)⟩, rfl⟩
        · have HX : Hid (∀ y ∈ xs.take (k + 1), (y.size : Int) ≤ M) := Lib.hid fun y hy => by
            rw [HT.out] at hy
            rcases List.mem_append.1 hy with h | h
            · exact HO.out y h
            · simp at h; subst h; omega
          go_wp2_with fail
          refine ⟨⟨k + 1, by omega, by go_num, HX.out⟩, by simp [intOf]; omega⟩
      · have hkn : k = n := by omega
        subst hkn
        have HL : Hid ((xs.length : Int) ≤ N ∧ ∀ x ∈ xs, (x.size : Int) ≤ M) := Lib.hid (by
          have := HO.out; rw [HN.out, List.take_length] at this
          exact ⟨by rw [← HN.out]; omega, this⟩)
        go_wp2_with fail
        go_ret
        exact ⟨_, rfl, ⟨fun _ => HL.out, fun _ => rfl⟩, rfl⟩
theorem short_any (v : Value) (xs : List ByteArray) (N M : Int) (hN : 0 ≤ N) (w : World) (h : Reads w v xs) :
    Calls Tryd.prog 17 #[v, .int .i64 N, .int .i64 M] w (SomeShort xs N M w) := by
  rcases h with ⟨rfl, a, c, rfl, _⟩ | ⟨b, o, c, rfl, _, h2, h3⟩
  · exact short_none a c N M hN w
  · exact short_some b o c _ xs N M w h2 rfl h3

theorem short_yes (v : Value) (xs : List ByteArray) (N M : Int) (hN : 0 ≤ N) (w : World) (h : Reads w v xs) (hy : (xs.length : Int) ≤ N ∧ ∀ x ∈ xs, (x.size : Int) ≤ M) :
    Calls Tryd.prog 17 #[v, .int .i64 N, .int .i64 M] w fun e w' => e = .returned (.bool true) ∧ w = w' :=
  (short_any v xs N M hN w h).mono fun e w' ⟨s, h1, h2, h3⟩ => ⟨by rw [h1, h2.2 hy], h3⟩
theorem short_no (v : Value) (xs : List ByteArray) (N M : Int) (hN : 0 ≤ N) (w : World) (h : Reads w v xs) (hy : ¬ ((xs.length : Int) ≤ N ∧ ∀ x ∈ xs, (x.size : Int) ≤ M)) :
    Calls Tryd.prog 17 #[v, .int .i64 N, .int .i64 M] w fun e w' => e = .returned (.bool false) ∧ w = w' :=
  (short_any v xs N M hN w h).mono fun e w' ⟨s, h1, h2, h3⟩ => ⟨by
    cases s
    · exact h1
    · exact absurd (h2.1 rfl) hy, h3⟩

theorem same_none (a a2 : Option Addr) (c c2 : Nat) (w : World) :
    Calls Tryd.prog 20 #[.slice a 0 c, .slice a2 0 c2] w fun e w' => e = .returned (.bool true) ∧ Below w.heap.size w w' := by
  go_enter Tryd.func20, Tryd.ntmps20
  go_wp2_with fail
  refine wp_loop_rounds 1 ?_; rw [rounds_succ]
  go_wp2_with fail
  go_ret
  exact ⟨rfl, Below.refl _ _⟩
set_option maxHeartbeats 800000 in
theorem same_some (b o c b2 o2 c2 n : Nat) (xs : List ByteArray) (w : World) (hc : StrsAt w b o xs) (hc2 : StrsAt w b2 o2 xs) (hn : n = xs.length) (hm : n ≤ maxLen) :
    Calls Tryd.prog 20 #[.slice (some ⟨b, o, none⟩) n c, .slice (some ⟨b2, o2, none⟩) n c2] w fun e w' => e = .returned (.bool true) ∧ Below w.heap.size w w' := by
  have HN := Lib.hid hn
  have HC := Lib.hid hc
  have HC2 := Lib.hid hc2
  clear hn hc hc2
  unfold maxLen at hm
  go_enter Tryd.func20, Tryd.ntmps20
  go_wp2_with fail
  go_loopw [5] (fun i wr => ∃ k q : Nat, k ≤ n ∧ i = .int .i64 k ∧ wr = w.drewN q) (fun i _ => n - (intOf i).toNat)
  case atStart => exact ⟨0, 0, Nat.zero_le _, rfl, rfl⟩
  case round =>
    obtain ⟨k, q, hk, rfl, rfl⟩ := hrel
    by_cases hp : k < n
    · have hkx : k < xs.length := by rw [← HN.out]; exact hp
      have hcl := HC.out k _ (List.getElem?_eq_getElem hkx)
      have hcl2 := HC2.out k _ (List.getElem?_eq_getElem hkx)
      generalize xs[k] = x at hcl hcl2
      have h0 : (0 : Int) ≤ k := by omega
      have h1 : (k : Int) < n := by omega
      go_wp2_with fail
      go_quiet (fail)
      go_wp2_with fail
      exact ⟨⟨k + 1, _, by omega, by go_num, rfl⟩, by simp [intOf]; omega⟩
    · go_wp2_with fail
      go_ret
      exact ⟨rfl, below_drewN (Below.refl _ _) _⟩
theorem same_any (v u : Value) (xs : List ByteArray) (w : World) (h : Reads w v xs) (h2 : Reads w u xs) :
    Calls Tryd.prog 20 #[v, u] w fun e w' => e = .returned (.bool true) ∧ Below w.heap.size w w' := by
  by_cases hz : xs = []
  · subst hz
    have k1 : ∃ a c, v = .slice a 0 c := by
      rcases h with ⟨_, a, c, rfl, _⟩ | ⟨b, o, c, rfl, _⟩
      · exact ⟨_, _, rfl⟩
      · exact ⟨_, _, rfl⟩
    have k2 : ∃ a c, u = .slice a 0 c := by
      rcases h2 with ⟨_, a, c, rfl, _⟩ | ⟨b, o, c, rfl, _⟩
      · exact ⟨_, _, rfl⟩
      · exact ⟨_, _, rfl⟩
    obtain ⟨a, c, rfl⟩ := k1
    obtain ⟨a2, c2, rfl⟩ := k2
    exact same_none a a2 c c2 w
  · rcases h with ⟨h, _⟩ | ⟨b, o, c, rfl, _, s1, hm⟩
    · exact absurd h hz
    · rcases h2 with ⟨h, _⟩ | ⟨b2, o2, c2, rfl, _, s2, _⟩
      · exact absurd h hz
      · exact same_some b o c b2 o2 c2 _ xs w s1 s2 rfl hm
end Go.Proofs.YtjfmanflkcaohaaDoor
