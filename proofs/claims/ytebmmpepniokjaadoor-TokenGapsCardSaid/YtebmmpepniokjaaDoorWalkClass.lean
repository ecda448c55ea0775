/- The walks of classOf, inRun, and of the reference's Digit, Letter, mark. -/
import Derived.Test.YtebmmpepniokjaaDoorWalkSkip
import Derived.Test.YtebmmpepniokjaaDoorPlainGap
import Derived.Test.YtebmmpepniokjaaDoorPlainInt
namespace Go.Proofs.YtebmmpepniokjaaDoor
open Go.RowKit
set_option linter.unusedVariables false
set_option linter.unusedSimpArgs false

/-- The class of a byte. -/
def cls (c : UInt8) : Nat := if Pl.lt c.toNat = true then 1 else if Pl.db c = true then 2 else if c = 61 then 4 else if c = 47 then 5 else if Pl.mks.contains c = true then 3 else 0
theorem idx_mem (l : Pl.Bs) (c : UInt8) : (0 ≤ Lib.indexByte l c) ↔ l.contains c = true := by
  induction l with
  | nil => simp [Lib.indexByte]
  | cons a t ih =>
    have hge := Lib.indexByte_ge t c
    rw [List.contains_cons]
    by_cases h : a = c
    · subst h; simp [Lib.indexByte]
    · have h1 : (a == c) = false := by simpa using h
      have h2 : (c == a) = false := by simpa using fun e => h e.symm
      rw [h2, Bool.false_or, ← ih]
      rw [Lib.indexByte, h1, if_neg (by decide)]
      split
      · rename_i e
        have e2 : Lib.indexByte t c = -1 := by simpa using e
        omega
      · rename_i e
        have e2 : ¬ Lib.indexByte t c = -1 := by simpa using e
        omega
theorem lt_iff (n : Nat) : Pl.lt n = true ↔ (97 ≤ n ∧ n ≤ 122) ∨ (65 ≤ n ∧ n ≤ 90) ∨ n = 95 := by
  unfold Pl.lt; simp only [Bool.or_eq_true, Bool.and_eq_true, decide_eq_true_eq, or_assoc]
theorem cls_lt (c : UInt8) (h : (97 ≤ c.toNat ∧ c.toNat ≤ 122) ∨ (65 ≤ c.toNat ∧ c.toNat ≤ 90) ∨ c.toNat = 95) : cls c = 1 := by
  unfold cls; rw [if_pos ((lt_iff _).2 h)]
theorem cls_dg (c : UInt8) (h : 48 ≤ c.toNat ∧ c.toNat ≤ 57) : cls c = 2 := by
  unfold cls; rw [if_neg (fun e => by have := (lt_iff _).1 e; omega), if_pos ((Pl.db_iff c).2 h)]
theorem cls_61 (c : UInt8) (h : c.toNat = 61) : cls c = 4 := by
  obtain rfl : c = 61 := UInt8.toNat_inj.1 h
  decide
theorem cls_47 (c : UInt8) (h : c.toNat = 47) : cls c = 5 := by
  obtain rfl : c = 47 := UInt8.toNat_inj.1 h
  decide
theorem cls_else (c : UInt8) (h1 : ¬ ((97 ≤ c.toNat ∧ c.toNat ≤ 122) ∨ (65 ≤ c.toNat ∧ c.toNat ≤ 90) ∨ c.toNat = 95)) (h2 : ¬ (48 ≤ c.toNat ∧ c.toNat ≤ 57)) (h3 : c.toNat ≠ 61) (h4 : c.toNat ≠ 47) :
    cls c = if Pl.mks.contains c = true then 3 else 0 := by
  unfold cls
  rw [if_neg (fun e => h1 ((lt_iff _).1 e)), if_neg (fun e => h2 ((Pl.db_iff c).1 e)), if_neg (fun e => h3 (by rw [e]; rfl)), if_neg (fun e => h4 (by rw [e]; rfl))]

theorem markidx_is (c : UInt8) (n : Int) (h : Lib.indexByte Pl.mks c = n) (w : World) :
    Calls Tryd.prog 42 #[.string ⟨#[40, 41, 123, 125, 44, 59, 58, 46, 60, 43, 45, 42, 33, 38, 124]⟩, .int .u8 c.toNat] w fun e w' => e = .returned (.int .i64 n) ∧ w = w' := by
  refine (Tryd.strings_IndexByte ⟨#[40, 41, 123, 125, 44, 59, 58, 46, 60, 43, 45, 42, 33, 38, 124]⟩ c.toNat w).mono fun e w' ⟨he, hw⟩ => ⟨?_, hw.symm⟩
  rw [he]
  refine ret_int ?_
  rw [← h]
  have : ((c.toNat : Int).toNat).toUInt8 = c := by simp
  rw [this]; rfl

set_option maxHeartbeats 1000000 in
theorem class_any (c : UInt8) (w : World) :
    Calls Tryd.prog 32 #[.int .u8 c.toNat] w fun e w' => e = .returned (.int .i64 (cls c)) ∧ w = w' := by
  have hb : c.toNat < 256 := c.toNat_lt
  by_cases h1 : (97 ≤ c.toNat ∧ c.toNat ≤ 122) ∨ (65 ≤ c.toNat ∧ c.toNat ≤ 90) ∨ c.toNat = 95
  · rw [cls_lt c h1]
    generalize c.toNat = n at *
    rcases h1 with ⟨h1, h2⟩ | ⟨h1, h2⟩ | h1
    all_goals
      go_enter Tryd.func32, Tryd.ntmps32
      go_wp2_with fail
      go_ret
      exact ⟨rfl, rfl⟩
  · by_cases h2 : 48 ≤ c.toNat ∧ c.toNat ≤ 57
    · rw [cls_dg c h2]
      generalize c.toNat = n at *
      obtain ⟨h3, h4⟩ := h2
      go_enter Tryd.func32, Tryd.ntmps32
      go_wp2_with fail
      go_ret
      exact ⟨rfl, rfl⟩
    · by_cases h3 : c.toNat = 61
      · rw [cls_61 c h3, h3]
        go_enter Tryd.func32, Tryd.ntmps32
        go_wp2_with fail
        go_ret
        exact ⟨rfl, rfl⟩
      · by_cases h4 : c.toNat = 47
        · rw [cls_47 c h4, h4]
          go_enter Tryd.func32, Tryd.ntmps32
          go_wp2_with fail
          go_ret
          exact ⟨rfl, rfl⟩
        · rw [cls_else c h1 h2 h3 h4]
          obtain ⟨i, hi⟩ : ∃ i, Lib.indexByte Pl.mks c = i := ⟨_, rfl⟩
          have hm := idx_mem Pl.mks c
          rw [hi] at hm
          have HI := Lib.hid (markidx_is c i hi)
          clear hi
          generalize c.toNat = n at *
          have h95 : n ≠ 95 := fun e => h1 (.inr (.inr e))
          have hr : n < 48 ∨ (57 < n ∧ n < 65) ∨ (90 < n ∧ n < 97) ∨ 122 < n := by omega
          by_cases hm2 : 0 ≤ i
          · rw [if_pos (hm.1 hm2)]
            clear hm h1 h2
            rcases hr with hr | ⟨hr, hq⟩ | ⟨hr, hq⟩ | hr
            all_goals
              have d0 : ((n : Int) == 95) = decide (n = 95) := by rw [Bool.eq_iff_iff]; simp; omega
              have d1 : decide (n = 95) = false := by simp; omega
              rw [d1] at d0
              clear d1
              try have d1 : decide ((n : Int) ≤ 90) = false := by simp; omega
              try have d2 : decide ((n : Int) ≤ 122) = false := by simp; omega
              go_enter Tryd.func32, Tryd.ntmps32
              go_wp2_with (go_at_call 42; refine (HI.out _).mono ?_; rintro e w' ⟨rfl, rfl⟩)
              go_ret
              exact ⟨rfl, rfl⟩
          · rw [if_neg (fun e => hm2 (hm.2 e))]
            clear hm h1 h2
            rcases hr with hr | ⟨hr, hq⟩ | ⟨hr, hq⟩ | hr
            all_goals
              have d0 : ((n : Int) == 95) = decide (n = 95) := by rw [Bool.eq_iff_iff]; simp; omega
              have d1 : decide (n = 95) = false := by simp; omega
              rw [d1] at d0
              clear d1
              try have d1 : decide ((n : Int) ≤ 90) = false := by simp; omega
              try have d2 : decide ((n : Int) ≤ 122) = false := by simp; omega
              go_enter Tryd.func32, Tryd.ntmps32
              go_wp2_with (go_at_call 42; refine (HI.out _).mono ?_; rintro e w' ⟨rfl, rfl⟩)
              go_ret
              exact ⟨rfl, rfl⟩
theorem class_is (c : UInt8) (n : Int) (h : (cls c : Int) = n) (w : World) :
    Calls Tryd.prog 32 #[.int .u8 c.toNat] w fun e w' => e = .returned (.int .i64 n) ∧ w = w' := h ▸ class_any c w
theorem wb_iff (c : UInt8) : Pl.wb c = true ↔ cls c = 1 ∨ cls c = 2 := by
  unfold Pl.wb Pl.wd cls Pl.db
  cases Pl.lt c.toNat <;> cases Pl.dg c.toNat <;> simp
  split
  · simp
  · split
    · simp
    · split <;> simp
theorem inrun_any (c : UInt8) (w : World) :
    Calls Tryd.prog 26 #[.int .u8 c.toNat] w fun e w' => e = .returned (.bool (Pl.wb c)) ∧ w = w' := by
  obtain ⟨n, hn⟩ : ∃ n : Int, (cls c : Int) = n := ⟨_, rfl⟩
  have hw : Pl.wb c = (n == 1 || n == 2) := by
    rw [Bool.eq_iff_iff, wb_iff]; simp; omega
  have HC := Lib.hid (class_is c n hn)
  have HW := Lib.hid hw
  clear hn hw
  go_enter Tryd.func26, Tryd.ntmps26
  go_wp2_with (go_at_call 32; refine (HC.out _).mono ?_; rintro e w' ⟨rfl, rfl⟩)
  all_goals go_ret
  all_goals refine ⟨ret_bool ?_, rfl⟩
  all_goals first | (rw [HW.out]; simp [*]; done) | (rw [HW.out])
theorem inrun_is (c : UInt8) (b : Bool) (h : Pl.wb c = b) (w : World) :
    Calls Tryd.prog 26 #[.int .u8 c.toNat] w fun e w' => e = .returned (.bool b) ∧ w = w' := h ▸ inrun_any c w

/- ### The reference's -/
theorem digit5_any (c : UInt8) (w : World) :
    Calls Tryd.prog 37 #[.int .u8 c.toNat] w fun e w' => e = .returned (.bool (Pl.db c)) ∧ w = w' := by
  have hb : c.toNat < 256 := c.toNat_lt
  have hd := Pl.db_iff c
  generalize c.toNat = n at *
  generalize Pl.db c = b at *
  go_enter Tryd.func37, Tryd.ntmps37
  go_wp2
  all_goals go_ret
  all_goals refine ⟨ret_bool ?_, rfl⟩
  all_goals (rw [Bool.eq_iff_iff, hd]; simp; omega)
theorem digit5_is (c : UInt8) (b : Bool) (h : Pl.db c = b) (w : World) :
    Calls Tryd.prog 37 #[.int .u8 c.toNat] w fun e w' => e = .returned (.bool b) ∧ w = w' := h ▸ digit5_any c w
theorem letter5_any (c : UInt8) (w : World) :
    Calls Tryd.prog 27 #[.int .u8 c.toNat] w fun e w' => e = .returned (.bool (Pl.wb c)) ∧ w = w' := by
  have hb : c.toNat < 256 := c.toNat_lt
  obtain ⟨d, hd⟩ : ∃ d, Pl.db c = d := ⟨_, rfl⟩
  have hw : Pl.wb c = true ↔ ((97 ≤ c.toNat ∧ c.toNat ≤ 122) ∨ (65 ≤ c.toNat ∧ c.toNat ≤ 90) ∨ c.toNat = 95) ∨ d = true := by
    rw [← hd, ← lt_iff]; unfold Pl.wb Pl.wd Pl.db; rw [Bool.or_eq_true]
  have HD := Lib.hid (digit5_is c d hd)
  clear hd
  generalize c.toNat = n at *
  generalize Pl.wb c = b at *
  cases d
  all_goals
    go_enter Tryd.func27, Tryd.ntmps27
    go_wp2_with (go_at_call 37; refine (HD.out _).mono ?_; rintro e w' ⟨rfl, rfl⟩)
  all_goals go_ret
  all_goals refine ⟨ret_bool ?_, rfl⟩
  all_goals (rw [Bool.eq_iff_iff, hw]; simp; try omega)
theorem letter5_is (c : UInt8) (b : Bool) (h : Pl.wb c = b) (w : World) :
    Calls Tryd.prog 27 #[.int .u8 c.toNat] w fun e w' => e = .returned (.bool b) ∧ w = w' := h ▸ letter5_any c w
end Go.Proofs.YtebmmpepniokjaaDoor
