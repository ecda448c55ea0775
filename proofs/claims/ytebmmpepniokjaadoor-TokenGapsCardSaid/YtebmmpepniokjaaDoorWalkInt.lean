/- The walks of isInteger, firstRun, first, Kind, Glue. -/
import Derived.Test.YtebmmpepniokjaaDoorWalkClass
import Derived.Test.YtebmmpepniokjaaDoorWalkValid
namespace Go.Proofs.YtebmmpepniokjaaDoor
open Go.RowKit
set_option linter.unusedVariables false
set_option linter.unusedSimpArgs false

/-- The library's two variables hold an error or nil. -/
def Errs (w : World) : Prop :=
  (∃ ev, w.cell? ⟨1, 0, none⟩ = some ev ∧ (ev = .nilIface ∨ ∃ te pe, ev = .iface te pe)) ∧ (∃ ev, w.cell? ⟨2, 0, none⟩ = some ev ∧ (ev = .nilIface ∨ ∃ te pe, ev = .iface te pe))
theorem Errs.later {w w' : World} (h : Errs w) (hb : Below w.heap.size w w') : Errs w' := by
  obtain ⟨⟨a, h1, h2⟩, ⟨b, h3, h4⟩⟩ := h
  have l1 := Lib.lt_of_cell h1
  have l3 := Lib.lt_of_cell h3
  exact ⟨⟨a, (hb.cell (p := ⟨1, 0, none⟩) l1).trans h1, h2⟩, ⟨b, (hb.cell (p := ⟨2, 0, none⟩) l3).trans h3, h4⟩⟩

/-- A string whose bytes are letters, digits, underscores. -/
def Run (s : ByteArray) : Prop := 1 ≤ s.size ∧ s.size ≤ 1099511627776 ∧ ∀ a ∈ s.data.toList, Pl.wb a = true
theorem parse_ok (s : ByteArray) (v : Nat) (hs : s.size ≤ 1099511627776) (h : Lib.parseIntB 64 s.data.toList = .ok (v : Int)) (w : World) :
    Calls Tryd.prog 51 #[.string s, .int .i64 10, .int .i64 64] w fun e w' => e = .returned (.tuple #[.int .i64 v, .nilIface]) ∧ Below w.heap.size w w' := by
  refine (Tryd.strconv_ParseInt_10_at64_ok s (by omega) v h w).mono ?_
  rintro e w' ⟨rfl, rfl | ⟨t, rfl⟩⟩
  · exact ⟨rfl, Below.refl _ _⟩
  · exact ⟨rfl, Lib.bytesWorld_below _ _ _⟩
/-- A number and an error that is not nil. -/
def Err (w : World) (e : Ending) (w' : World) : Prop := ∃ n N, e = .returned (.tuple #[.int .i64 n, .iface 66 (.pointer (some ⟨N, 0, none⟩))]) ∧ Below w.heap.size w w'
theorem parse_err (s : ByteArray) (hs : s.size ≤ 1099511627776) (h : ∀ v, Lib.parseIntB 64 s.data.toList ≠ .ok v) (w : World) (hE : Errs w) :
    Calls Tryd.prog 51 #[.string s, .int .i64 10, .int .i64 64] w (Err w) := by
  obtain ⟨⟨a, h1, h2⟩, ⟨b, h3, h4⟩⟩ := hE
  cases hq : Lib.parseIntB 64 s.data.toList
  · exact absurd hq (h _)
  · refine (Any.strconv_ParseInt_10_at64_syntax Tryd.laysC174 s (by omega) hq a w h1 h2).mono ?_
    rintro e w' ⟨N, he, _, _, hb⟩
    exact ⟨_, N, he, hb⟩
  · refine (Any.strconv_ParseInt_10_at64_range Tryd.laysC174 s (by omega) hq b w h3 h4).mono ?_
    rintro e w' ⟨N, he, _, _, hb⟩
    exact ⟨_, N, he, hb⟩

theorem data_ne (s : ByteArray) (h : 1 ≤ s.size) : s.data.toList ≠ [] := by
  intro e; rw [Lib.size_eq, e] at h; simp at h
theorem head_eq (s : ByteArray) (h : 0 < s.size) : s.data.toList.head? = some s[0] := by
  have hl : 0 < s.data.toList.length := by rw [← Lib.size_eq]; exact h
  rw [← Pl.get_list s 0 h hl]
  match s.data.toList, hl with
  | c :: r, _ => rfl

set_option maxHeartbeats 1000000 in
theorem int_any (s : ByteArray) (w : World) (hr : Run s) (hE : Errs w) :
    Calls Tryd.prog 45 #[.string s] w fun e w' => e = .returned (.bool (Pl.isInt s.data.toList)) ∧ Below w.heap.size w w' := by
  obtain ⟨h1, h2, h3⟩ := hr
  have h0 : 0 < s.size := h1
  have hne := data_ne s h1
  have hh := head_eq s h0
  obtain ⟨b, hb⟩ : ∃ b, Pl.isInt s.data.toList = b := ⟨_, rfl⟩
  rw [hb]
  by_cases hz : s[0] = 48
  · have hzn : ((s[0].toNat : Int) == 48) = true := by rw [hz]; decide
    by_cases ho : s.data.toList = [48]
    · have e1 : (s.toList == [48]) = true := by rw [Pl.toList_eq, ho]; rfl
      have hp := Pl.parse_run s.data.toList hne h3
      rw [← Pl.isInt_eq _ hne (.inl ho), hb] at hp
      rcases hp with ⟨v, hv, hd⟩ | ⟨hv, hd⟩
      · have HP := Lib.hid (parse_ok s v h2 hv)
        have hd2 : decide ((v : Int) ≤ 1000000000000) = b := by rw [← hd, Bool.eq_iff_iff]; simp; omega
        clear hv hd hh ho h3 hz hE hb
        cases b
        all_goals
          go_enter Tryd.func45, Tryd.ntmps45
          go_wp2_with (go_at_call 51; refine (HP.out _).mono ?_; rintro e w' ⟨rfl, hbel⟩)
          go_ret
          exact ⟨rfl, hbel⟩
      · have HP := Lib.hid (parse_err s h2 hv w hE)
        subst hd
        clear hv hh ho h3 hz hE hb
        go_enter Tryd.func45, Tryd.ntmps45
        go_wp2_with (go_at_call 51; refine HP.out.mono ?_; rintro e w' ⟨n, N, rfl, hbel⟩)
        go_ret
        exact ⟨rfl, hbel⟩
    · have e1 : (s.toList == [48]) = false := by rw [Pl.toList_eq]; simpa using ho
      have hf : b = false := by rw [← hb]; exact Pl.isInt_zero _ ho (by rw [hh, hz])
      subst hf
      clear hh ho h3 hz hE hb
      go_enter Tryd.func45, Tryd.ntmps45
      go_wp2_with fail
      go_ret
      exact ⟨rfl, Below.refl _ _⟩
  · have hzn : ((s[0].toNat : Int) == 48) = false := by
      have : s[0].toNat ≠ 48 := fun e => hz (UInt8.toNat_inj.1 e)
      simp; omega
    have hp := Pl.parse_run s.data.toList hne h3
    rw [← Pl.isInt_eq _ hne (.inr (by rw [hh]; simpa using hz)), hb] at hp
    rcases hp with ⟨v, hv, hd⟩ | ⟨hv, hd⟩
    · have HP := Lib.hid (parse_ok s v h2 hv)
      have hd2 : decide ((v : Int) ≤ 1000000000000) = b := by rw [← hd, Bool.eq_iff_iff]; simp; omega
      clear hv hd hh h3 hz hE hb
      cases b
      all_goals
        go_enter Tryd.func45, Tryd.ntmps45
        go_wp2_with (go_at_call 51; refine (HP.out _).mono ?_; rintro e w' ⟨rfl, hbel⟩)
        go_ret
        exact ⟨rfl, hbel⟩
    · have HP := Lib.hid (parse_err s h2 hv w hE)
      subst hd
      clear hv hh h3 hz hE hb
      go_enter Tryd.func45, Tryd.ntmps45
      go_wp2_with (go_at_call 51; refine HP.out.mono ?_; rintro e w' ⟨n, N, rfl, hbel⟩)
      go_ret
      exact ⟨rfl, hbel⟩
theorem int_is (s : ByteArray) (b : Bool) (h : Pl.isInt s.data.toList = b) (w : World) (hr : Run s) (hE : Errs w) :
    Calls Tryd.prog 45 #[.string s] w fun e w' => e = .returned (.bool b) ∧ Below w.heap.size w w' := h ▸ int_any s w hr hE
end Go.Proofs.YtebmmpepniokjaaDoor
