/- The walks of the classes of bytes and of runs. -/
import Derived.Test.YtiaajpdcacdngaaGreatDoorBBytes
import Derived.Test.YtiaajpdcacdngaaGreatDoorBTok
namespace Go.Proofs.YtiaajpdcacdngaaGreatDoor.Tk
open Go.RowKit
set_option linter.unusedVariables false
set_option linter.unusedSimpArgs false

/-- The class of a byte. -/
def cls (c : UInt8) : Nat := if Pl.lt c.toNat = true then 1 else if Pl.db c = true then 2 else if c = 61 then 4 else if c = 47 then 5 else if Pl.mks.contains c = true then 3 else 0
theorem idx_mem (l : Pl.Bs) (c : UInt8) : (0 ≤ Lib.indexByte l c) ↔ l.contains c = true := by
  induction l with
  | nil => simp [Lib.indexByte]
  | cons a t ih =>
    have hge := Lib.indexByte_ge t c
    rw [List.contains_cons]
    by_cases h : a = c
    · subst h; simp [Lib.indexByte]
    · have h1 : (a == c) = false := by simpa using h
      have h2 : (c == a) = false := by simpa using fun e => h e.symm
      rw [h2, Bool.false_or, ← ih]
      rw [Lib.indexByte, h1, if_neg (by decide)]
      split
      · rename_i e
        have e2 : Lib.indexByte t c = -1 := by simpa using e
        omega
      · rename_i e
        have e2 : ¬ Lib.indexByte t c = -1 := by simpa using e
        omega
theorem lt_iff (n : Nat) : Pl.lt n = true ↔ (97 ≤ n ∧ n ≤ 122) ∨ (65 ≤ n ∧ n ≤ 90) ∨ n = 95 := by
  unfold Pl.lt; simp only [Bool.or_eq_true, Bool.and_eq_true, decide_eq_true_eq, or_assoc]
theorem cls_lt (c : UInt8) (h : (97 ≤ c.toNat ∧ c.toNat ≤ 122) ∨ (65 ≤ c.toNat ∧ c.toNat ≤ 90) ∨ c.toNat = 95) : cls c = 1 := by
  unfold cls; rw [if_pos ((lt_iff _).2 h)]
theorem cls_dg (c : UInt8) (h : 48 ≤ c.toNat ∧ c.toNat ≤ 57) : cls c = 2 := by
  unfold cls; rw [if_neg (fun e => by have := (lt_iff _).1 e; omega), if_pos ((Pl.db_iff c).2 h)]
theorem cls_61 (c : UInt8) (h : c.toNat = 61) : cls c = 4 := by
  obtain rfl : c = 61 := UInt8.toNat_inj.1 h
  decide
theorem cls_47 (c : UInt8) (h : c.toNat = 47) : cls c = 5 := by
  obtain rfl : c = 47 := UInt8.toNat_inj.1 h
  decide
theorem cls_else (c : UInt8) (h1 : ¬ ((97 ≤ c.toNat ∧ c.toNat ≤ 122) ∨ (65 ≤ c.toNat ∧ c.toNat ≤ 90) ∨ c.toNat = 95)) (h2 : ¬ (48 ≤ c.toNat ∧ c.toNat ≤ 57)) (h3 : c.toNat ≠ 61) (h4 : c.toNat ≠ 47) :
    cls c = if Pl.mks.contains c = true then 3 else 0 := by
  unfold cls
  rw [if_neg (fun e => h1 ((lt_iff _).1 e)), if_neg (fun e => h2 ((Pl.db_iff c).1 e)), if_neg (fun e => h3 (by rw [e]; rfl)), if_neg (fun e => h4 (by rw [e]; rfl))]

theorem markidx_is (c : UInt8) (n : Int) (h : Lib.indexByte Pl.mks c = n) (w : World) :
    Calls Tryz.prog 116 #[.string ⟨#[40, 41, 123, 125, 44, 59, 58, 46, 60, 43, 45, 42, 33, 38, 124]⟩, .int .u8 c.toNat] w fun e w' => e = .returned (.int .i64 n) ∧ w = w' := by
  refine (Tryz.strings_IndexByte ⟨#[40, 41, 123, 125, 44, 59, 58, 46, 60, 43, 45, 42, 33, 38, 124]⟩ c.toNat w).mono fun e w' ⟨he, hw⟩ => ⟨?_, hw.symm⟩
  rw [he]
  refine ret_int ?_
  rw [← h]
  have : ((c.toNat : Int).toNat).toUInt8 = c := by simp
  rw [this]; rfl

set_option maxHeartbeats 1000000 in
theorem class_any (c : UInt8) (w : World) :
    Calls Tryz.prog 87 #[.int .u8 c.toNat] w fun e w' => e = .returned (.int .i64 (cls c)) ∧ w = w' := by
  have hb : c.toNat < 256 := c.toNat_lt
  by_cases h1 : (97 ≤ c.toNat ∧ c.toNat ≤ 122) ∨ (65 ≤ c.toNat ∧ c.toNat ≤ 90) ∨ c.toNat = 95
  · rw [cls_lt c h1]
    generalize c.toNat = n at *
    rcases h1 with ⟨h1, h2⟩ | ⟨h1, h2⟩ | h1
    all_goals
      go_enter Tryz.func87, Tryz.ntmps87
      go_wp2_with fail
      go_ret
      exact ⟨rfl, rfl⟩
  · by_cases h2 : 48 ≤ c.toNat ∧ c.toNat ≤ 57
    · rw [cls_dg c h2]
      generalize c.toNat = n at *
      obtain ⟨h3, h4⟩ := h2
      go_enter Tryz.func87, Tryz.ntmps87
      go_wp2_with fail
      go_ret
      exact ⟨rfl, rfl⟩
    · by_cases h3 : c.toNat = 61
      · rw [cls_61 c h3, h3]
        go_enter Tryz.func87, Tryz.ntmps87
        go_wp2_with fail
        go_ret
        exact ⟨rfl, rfl⟩
      · by_cases h4 : c.toNat = 47
        · rw [cls_47 c h4, h4]
          go_enter Tryz.func87, Tryz.ntmps87
          go_wp2_with fail
          go_ret
          exact ⟨rfl, rfl⟩
        · rw [cls_else c h1 h2 h3 h4]
          obtain ⟨i, hi⟩ : ∃ i, Lib.indexByte Pl.mks c = i := ⟨_, rfl⟩
          have hm := idx_mem Pl.mks c
          rw [hi] at hm
          have HI := Lib.hid (markidx_is c i hi)
          clear hi
          generalize c.toNat = n at *
          have h95 : n ≠ 95 := fun e => h1 (.inr (.inr e))
          have hr : n < 48 ∨ (57 < n ∧ n < 65) ∨ (90 < n ∧ n < 97) ∨ 122 < n := by omega
          by_cases hm2 : 0 ≤ i
          · rw [if_pos (hm.1 hm2)]
            clear hm h1 h2
            rcases hr with hr | ⟨hr, hq⟩ | ⟨hr, hq⟩ | hr
            all_goals
              have d0 : ((n : Int) == 95) = decide (n = 95) := by rw [Bool.eq_iff_iff]; simp; omega
              have d1 : decide (n = 95) = false := by simp; omega
              rw [d1] at d0
              clear d1
              try have d1 : decide ((n : Int) ≤ 90) = false := by simp; omega
              try have d2 : decide ((n : Int) ≤ 122) = false := by simp; omega
              go_enter Tryz.func87, Tryz.ntmps87
              go_wp2_with (go_at_call 116; refine (HI.out _).mono ?_; rintro e w' ⟨rfl, rfl⟩)
              go_ret
              exact ⟨rfl, rfl⟩
          · rw [if_neg (fun e => hm2 (hm.2 e))]
            clear hm h1 h2
            rcases hr with hr | ⟨hr, hq⟩ | ⟨hr, hq⟩ | hr
            all_goals
              have d0 : ((n : Int) == 95) = decide (n = 95) := by rw [Bool.eq_iff_iff]; simp; omega
              have d1 : decide (n = 95) = false := by simp; omega
              rw [d1] at d0
              clear d1
              try have d1 : decide ((n : Int) ≤ 90) = false := by simp; omega
              try have d2 : decide ((n : Int) ≤ 122) = false := by simp; omega
              go_enter Tryz.func87, Tryz.ntmps87
              go_wp2_with (go_at_call 116; refine (HI.out _).mono ?_; rintro e w' ⟨rfl, rfl⟩)
              go_ret
              exact ⟨rfl, rfl⟩
theorem class_is (c : UInt8) (n : Int) (h : (cls c : Int) = n) (w : World) :
    Calls Tryz.prog 87 #[.int .u8 c.toNat] w fun e w' => e = .returned (.int .i64 n) ∧ w = w' := h ▸ class_any c w
theorem wb_iff (c : UInt8) : Pl.wb c = true ↔ cls c = 1 ∨ cls c = 2 := by
  unfold Pl.wb Pl.wd cls Pl.db
  cases Pl.lt c.toNat <;> cases Pl.dg c.toNat <;> simp
  split
  · simp
  · split
    · simp
    · split <;> simp
theorem inrun_any (c : UInt8) (w : World) :
    Calls Tryz.prog 104 #[.int .u8 c.toNat] w fun e w' => e = .returned (.bool (Pl.wb c)) ∧ w = w' := by
  obtain ⟨n, hn⟩ : ∃ n : Int, (cls c : Int) = n := ⟨_, rfl⟩
  have hw : Pl.wb c = (n == 1 || n == 2) := by
    rw [Bool.eq_iff_iff, wb_iff]; simp; omega
  have HC := Lib.hid (class_is c n hn)
  have HW := Lib.hid hw
  clear hn hw
  go_enter Tryz.func104, Tryz.ntmps104
  go_wp2_with (go_at_call 87; refine (HC.out _).mono ?_; rintro e w' ⟨rfl, rfl⟩)
  all_goals go_ret
  all_goals refine ⟨ret_bool ?_, rfl⟩
  all_goals first | (rw [HW.out]; simp [*]; done) | (rw [HW.out])
theorem inrun_is (c : UInt8) (b : Bool) (h : Pl.wb c = b) (w : World) :
    Calls Tryz.prog 104 #[.int .u8 c.toNat] w fun e w' => e = .returned (.bool b) ∧ w = w' := h ▸ inrun_any c w

/- ### The reference's -/
theorem digit5_any (c : UInt8) (w : World) :
    Calls Tryz.prog 129 #[.int .u8 c.toNat] w fun e w' => e = .returned (.bool (Pl.db c)) ∧ w = w' := by
  have hb : c.toNat < 256 := c.toNat_lt
  have hd := Pl.db_iff c
  generalize c.toNat = n at *
  generalize Pl.db c = b at *
  go_enter Tryz.func129, Tryz.ntmps129
  go_wp2
  all_goals go_ret
  all_goals refine ⟨ret_bool ?_, rfl⟩
  all_goals (rw [Bool.eq_iff_iff, hd]; simp; omega)
theorem digit5_is (c : UInt8) (b : Bool) (h : Pl.db c = b) (w : World) :
    Calls Tryz.prog 129 #[.int .u8 c.toNat] w fun e w' => e = .returned (.bool b) ∧ w = w' := h ▸ digit5_any c w
theorem letter5_any (c : UInt8) (w : World) :
    Calls Tryz.prog 106 #[.int .u8 c.toNat] w fun e w' => e = .returned (.bool (Pl.wb c)) ∧ w = w' := by
  have hb : c.toNat < 256 := c.toNat_lt
  obtain ⟨d, hd⟩ : ∃ d, Pl.db c = d := ⟨_, rfl⟩
  have hw : Pl.wb c = true ↔ ((97 ≤ c.toNat ∧ c.toNat ≤ 122) ∨ (65 ≤ c.toNat ∧ c.toNat ≤ 90) ∨ c.toNat = 95) ∨ d = true := by
    rw [← hd, ← lt_iff]; unfold Pl.wb Pl.wd Pl.db; rw [Bool.or_eq_true]
  have HD := Lib.hid (digit5_is c d hd)
  clear hd
  generalize c.toNat = n at *
  generalize Pl.wb c = b at *
  cases d
  all_goals
    go_enter Tryz.func106, Tryz.ntmps106
    go_wp2_with (go_at_call 129; refine (HD.out _).mono ?_; rintro e w' ⟨rfl, rfl⟩)
  all_goals go_ret
  all_goals refine ⟨ret_bool ?_, rfl⟩
  all_goals (rw [Bool.eq_iff_iff, hw]; simp; try omega)
theorem letter5_is (c : UInt8) (b : Bool) (h : Pl.wb c = b) (w : World) :
    Calls Tryz.prog 106 #[.int .u8 c.toNat] w fun e w' => e = .returned (.bool b) ∧ w = w' := h ▸ letter5_any c w
end Go.Proofs.YtiaajpdcacdngaaGreatDoor.Tk

namespace Go.Proofs.YtiaajpdcacdngaaGreatDoor.Tk
open Go.RowKit
set_option linter.unusedVariables false
set_option linter.unusedSimpArgs false

/-- The library's two variables hold an error or nil. -/
def Errs (w : World) : Prop :=
  (∃ ev, w.cell? ⟨6, 0, none⟩ = some ev ∧ (ev = .nilIface ∨ ∃ te pe, ev = .iface te pe)) ∧ (∃ ev, w.cell? ⟨7, 0, none⟩ = some ev ∧ (ev = .nilIface ∨ ∃ te pe, ev = .iface te pe))
theorem Errs.later {w w' : World} (h : Errs w) (hb : Below w.heap.size w w') : Errs w' := by
  obtain ⟨⟨a, h1, h2⟩, ⟨b, h3, h4⟩⟩ := h
  have l1 := Lib.lt_of_cell h1
  have l3 := Lib.lt_of_cell h3
  exact ⟨⟨a, (hb.cell (p := ⟨6, 0, none⟩) l1).trans h1, h2⟩, ⟨b, (hb.cell (p := ⟨7, 0, none⟩) l3).trans h3, h4⟩⟩

/-- A string whose bytes are letters, digits, underscores. -/
def Run (s : ByteArray) : Prop := 1 ≤ s.size ∧ s.size ≤ 1099511627776 ∧ ∀ a ∈ s.data.toList, Pl.wb a = true
theorem parse_ok (s : ByteArray) (v : Nat) (hs : s.size ≤ 1099511627776) (h : Lib.parseIntB 64 s.data.toList = .ok (v : Int)) (w : World) :
    Calls Tryz.prog 136 #[.string s, .int .i64 10, .int .i64 64] w fun e w' => e = .returned (.tuple #[.int .i64 v, .nilIface]) ∧ Below w.heap.size w w' := by
  refine (Tryz.strconv_ParseInt_10_at64_ok s (by omega) v h w).mono ?_
  rintro e w' ⟨rfl, rfl | ⟨t, rfl⟩⟩
  · exact ⟨rfl, Below.refl _ _⟩
  · exact ⟨rfl, Lib.bytesWorld_below _ _ _⟩
/-- A number and an error that is not nil. -/
def Err (w : World) (e : Ending) (w' : World) : Prop := ∃ n N, e = .returned (.tuple #[.int .i64 n, .iface 128 (.pointer (some ⟨N, 0, none⟩))]) ∧ Below w.heap.size w w'
theorem parse_err (s : ByteArray) (hs : s.size ≤ 1099511627776) (h : ∀ v, Lib.parseIntB 64 s.data.toList ≠ .ok v) (w : World) (hE : Errs w) :
    Calls Tryz.prog 136 #[.string s, .int .i64 10, .int .i64 64] w (Err w) := by
  obtain ⟨⟨a, h1, h2⟩, ⟨b, h3, h4⟩⟩ := hE
  cases hq : Lib.parseIntB 64 s.data.toList
  · exact absurd hq (h _)
  · refine (Any.strconv_ParseInt_10_at64_syntax Tryz.laysC174 s (by omega) hq a w h1 h2).mono ?_
    rintro e w' ⟨N, he, _, _, hb⟩
    exact ⟨_, N, he, hb⟩
  · refine (Any.strconv_ParseInt_10_at64_range Tryz.laysC174 s (by omega) hq b w h3 h4).mono ?_
    rintro e w' ⟨N, he, _, _, hb⟩
    exact ⟨_, N, he, hb⟩

theorem data_ne (s : ByteArray) (h : 1 ≤ s.size) : s.data.toList ≠ [] := by
  intro e; rw [Lib.size_eq, e] at h; simp at h
theorem head_eq (s : ByteArray) (h : 0 < s.size) : s.data.toList.head? = some s[0] := by
  have hl : 0 < s.data.toList.length := by rw [← Lib.size_eq]; exact h
  rw [← Pl.get_list s 0 h hl]
  match s.data.toList, hl with
  | c :: r, _ => rfl

set_option maxHeartbeats 1000000 in
theorem int_any (s : ByteArray) (w : World) (hr : Run s) (hE : Errs w) :
    Calls Tryz.prog 119 #[.string s] w fun e w' => e = .returned (.bool (Pl.isInt s.data.toList)) ∧ Below w.heap.size w w' := by
  obtain ⟨h1, h2, h3⟩ := hr
  have h0 : 0 < s.size := h1
  have hne := data_ne s h1
  have hh := head_eq s h0
  obtain ⟨b, hb⟩ : ∃ b, Pl.isInt s.data.toList = b := ⟨_, rfl⟩
  rw [hb]
  by_cases hz : s[0] = 48
  · have hzn : ((s[0].toNat : Int) == 48) = true := by rw [hz]; decide
    by_cases ho : s.data.toList = [48]
    · have e1 : (s.toList == [48]) = true := by rw [Pl.toList_eq, ho]; rfl
      have hp := Pl.parse_run s.data.toList hne h3
      rw [← Pl.isInt_eq _ hne (.inl ho), hb] at hp
      rcases hp with ⟨v, hv, hd⟩ | ⟨hv, hd⟩
      · have HP := Lib.hid (parse_ok s v h2 hv)
        have hd2 : decide ((v : Int) ≤ 1000000000000) = b := by rw [← hd, Bool.eq_iff_iff]; simp; omega
        clear hv hd hh ho h3 hz hE hb
        cases b
        all_goals
          go_enter Tryz.func119, Tryz.ntmps119
          go_wp2_with (go_at_call 136; refine (HP.out _).mono ?_; rintro e w' ⟨rfl, hbel⟩)
          go_ret
          exact ⟨rfl, hbel⟩
      · have HP := Lib.hid (parse_err s h2 hv w hE)
        subst hd
        clear hv hh ho h3 hz hE hb
        go_enter Tryz.func119, Tryz.ntmps119
        go_wp2_with (go_at_call 136; refine HP.out.mono ?_; rintro e w' ⟨n, N, rfl, hbel⟩)
        go_ret
        exact ⟨rfl, hbel⟩
    · have e1 : (s.toList == [48]) = false := by rw [Pl.toList_eq]; simpa using ho
      have hf : b = false := by rw [← hb]; exact Pl.isInt_zero _ ho (by rw [hh, hz])
      subst hf
      clear hh ho h3 hz hE hb
      go_enter Tryz.func119, Tryz.ntmps119
      go_wp2_with fail
      go_ret
      exact ⟨rfl, Below.refl _ _⟩
  · have hzn : ((s[0].toNat : Int) == 48) = false := by
      have : s[0].toNat ≠ 48 := fun e => hz (UInt8.toNat_inj.1 e)
      simp; omega
    have hp := Pl.parse_run s.data.toList hne h3
    rw [← Pl.isInt_eq _ hne (.inr (by rw [hh]; simpa using hz)), hb] at hp
    rcases hp with ⟨v, hv, hd⟩ | ⟨hv, hd⟩
    · have HP := Lib.hid (parse_ok s v h2 hv)
      have hd2 : decide ((v : Int) ≤ 1000000000000) = b := by rw [← hd, Bool.eq_iff_iff]; simp; omega
      clear hv hd hh h3 hz hE hb
      cases b
      all_goals
        go_enter Tryz.func119, Tryz.ntmps119
        go_wp2_with (go_at_call 136; refine (HP.out _).mono ?_; rintro e w' ⟨rfl, hbel⟩)
        go_ret
        exact ⟨rfl, hbel⟩
    · have HP := Lib.hid (parse_err s h2 hv w hE)
      subst hd
      clear hv hh h3 hz hE hb
      go_enter Tryz.func119, Tryz.ntmps119
      go_wp2_with (go_at_call 136; refine HP.out.mono ?_; rintro e w' ⟨n, N, rfl, hbel⟩)
      go_ret
      exact ⟨rfl, hbel⟩
theorem int_is (s : ByteArray) (b : Bool) (h : Pl.isInt s.data.toList = b) (w : World) (hr : Run s) (hE : Errs w) :
    Calls Tryz.prog 119 #[.string s] w fun e w' => e = .returned (.bool b) ∧ Below w.heap.size w w' := h ▸ int_any s w hr hE
end Go.Proofs.YtiaajpdcacdngaaGreatDoor.Tk
