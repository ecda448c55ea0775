/- The walks of numbered and Fresh, and of the reference's. -/
import Derived.Test.YtjfmanflkcaohaaDoorWalkMap
import Derived.Deep.QuietTactic
import Derived.BigQuiet
import Derived.Deep.RegionWith
namespace Go.Proofs.YtjfmanflkcaohaaDoor
open Go.RowKit
set_option linter.unusedVariables false
set_option linter.unusedSimpArgs false

theorem ext_all (s : ByteArray) : s.extract 0 s.size = s := by
  apply Pl.list_ext
  rw [Lib.extract_data, Lib.size_eq, List.drop_zero, Nat.sub_zero, List.take_length]
theorem itoa_any (n : Nat) (h : n < 100) (w : World) :
    Calls Tryd.prog 40 #[.int .i64 n] w fun e w' => e = .returned (.string (Pl.num n)) ∧ w = w' :=
  (Tryd.strconv_Itoa_small n h w).mono fun e w' ⟨h1, h2⟩ => ⟨h1, h2.symm⟩

theorem numbered_any (base : ByteArray) (n : Nat) (hb : base.size ≤ 32) (h : n < 100) (w : World) :
    Calls Tryd.prog 33 #[.string base, .int .i64 n] w fun e w' => e = .returned (.string (Pl.cand base n)) ∧ w = w' := by
  have hd := Pl.dec_len n h
  have HI := Lib.hid (itoa_any n h)
  have HC : Hid (Pl.cand base n = base.extract 0 (Pl.keep base n) ++ Pl.num n) := Lib.hid rfl
  have HK : Hid (Pl.keep base n = min base.size (32 - (Pl.num n).size)) := Lib.hid rfl
  generalize Pl.num n = d at *
  generalize Pl.cand base n = r at *
  generalize Pl.keep base n = kk at *
  by_cases hc : base.size ≤ 32 - d.size
  · have hm : min (base.size : Int) (32 - d.size) = base.size := by omega
    go_enter Tryd.func33, Tryd.ntmps33
    go_wp2_with (go_at_call 40; refine (HI.out _).mono ?_; rintro e w' ⟨rfl, rfl⟩)
    go_ret
    exact ⟨ret_str (by rw [HC.out, HK.out, show min base.size (32 - d.size) = base.size by omega, ext_all]), rfl⟩
  · have hm : min (base.size : Int) (32 - d.size) = 32 - d.size := by omega
    go_enter Tryd.func33, Tryd.ntmps33
    go_wp2_with (go_at_call 40; refine (HI.out _).mono ?_; rintro e w' ⟨rfl, rfl⟩)
    go_ret
    exact ⟨ret_str (by rw [HC.out, HK.out, show min base.size (32 - d.size) = 32 - d.size by omega]), rfl⟩


/-- A slice of one byte, as a string. -/
def oneB (c : Int) : ByteArray := strOfNums [c]
theorem oneB_eq (c : Nat) (h : c < 256) : oneB c = ⟨#[UInt8.ofNat c]⟩ := by
  unfold oneB strOfNums
  congr 1
theorem conv_one (c : Int) (W : World) (b : Nat) (h : W.cell? ⟨b, 0, none⟩ = some (.int .u8 c)) :
    (convert 34 9 (.slice (some ⟨b, 0, none⟩) 1 1)).run Tryd.prog W = .ok (.string (oneB c)) W :=
  run_convert_bytes_arg (P := Tryd.prog) W 34 5 Tryd.underlying34 Tryd.underlying5 b 0 1 1 [c] rfl (fun i hi => by
      match i, hi with
      | 0, _ => exact h) 9 Tryd.underlying9
theorem conv_new (c : Int) (w : World) :
    (convert 34 9 (.slice (some ⟨w.heap.size, 0, none⟩) 1 1)).run Tryd.prog (w.alloc (.cells #[.int .u8 c] 5)) = .ok (.string (oneB c)) (w.alloc (.cells #[.int .u8 c] 5)) :=
  conv_one c _ _ (by rw [cell_of_row _ _ _ _ _ _ (heap_alloc_new _ _)]; rfl)
theorem number_one (q : Int) (h0 : 0 ≤ q) (h : q < 10) (w : World) :
    Calls Tryd.prog 41 #[.int .i64 q] w fun e w' => e = .returned (.string (oneB (48 + q % 10))) ∧ w' = w.alloc (.cells #[.int .u8 (48 + q % 10)] 5) := by
  have hcv := conv_new (48 + q % 10) w
  go_enter Tryd.func41, Tryd.ntmps41
  go_wp2_with fail
  go_ret
  exact ⟨rfl, rfl⟩
theorem number_two (n : Int) (h : n < 100) (h10 : 10 ≤ n) (w : World) :
    Calls Tryd.prog 41 #[.int .i64 n] w fun e w' => e = .returned (.string (oneB (48 + n / 10 % 10) ++ oneB (48 + n % 10))) ∧ Below w.heap.size w w' := by
  obtain ⟨q, hq⟩ : ∃ q, q = n / 10 := ⟨_, rfl⟩
  obtain ⟨c, hc⟩ : ∃ c, c = 48 + n % 10 := ⟨_, rfl⟩
  obtain ⟨d, hd⟩ : ∃ d, d = 48 + q % 10 := ⟨_, rfl⟩
  have hone := number_one q (by omega) (by omega)
  rw [← hd] at hone
  have HQ := Lib.hid hone
  have HE : Hid (oneB (48 + n / 10 % 10) ++ oneB (48 + n % 10) = oneB d ++ oneB c) := Lib.hid (by rw [hd, hq, hc])
  have e0 : n.tdiv 10 = n / 10 := Int.tdiv_eq_ediv_of_nonneg (by omega)
  have e1 : n.tmod 10 = n % 10 := Int.tmod_eq_emod_of_nonneg (by omega)
  have f1 : IntKind.i64.wrap (n.tdiv 10) = q := by rw [e0, hq]; exact IntWalk.i64_in _ (by omega)
  have f2 : IntKind.i64.wrap (48 + n.tmod 10) = c := by rw [e1, hc]; exact IntWalk.i64_in _ (by omega)
  have f3 : IntKind.u8.wrap c = c := by rw [IntKind.wrap_u8]; omega
  have cA : (convert 34 9 (.slice (some ⟨w.heap.size + 1, 0, none⟩) 1 1)).run Tryd.prog ((w.alloc (.cells #[.int .u8 d] 5)).alloc (.cells #[.int .u8 c] 5)).drew = .ok (.string (oneB c)) ((w.alloc (.cells #[.int .u8 d] 5)).alloc (.cells #[.int .u8 c] 5)).drew := conv_one c _ _ (by simp)
  have cB : (convert 34 9 (.slice (some ⟨w.heap.size, 0, none⟩) 1 1)).run Tryd.prog ((w.alloc (.cells #[.int .u8 c] 5)).alloc (.cells #[.int .u8 d] 5)).drew = .ok (.string (oneB c)) ((w.alloc (.cells #[.int .u8 c] 5)).alloc (.cells #[.int .u8 d] 5)).drew := conv_one c _ _ (by simp)
  have cC : (convert 34 9 (.slice (some ⟨w.heap.size, 0, none⟩) 1 1)).run Tryd.prog (w.alloc (.cells #[.int .u8 c] 5)).drew = .ok (.string (oneB c)) (w.alloc (.cells #[.int .u8 c] 5)).drew := conv_one c _ _ (by simp)
  clear hone e0 e1 hq hc hd
  go_enter Tryd.func41, Tryd.ntmps41
  go_wp2_with fail
  go_region_with (go_at_call 41; refine (HQ.out _).mono ?_; rintro e w' ⟨rfl, rfl⟩)
  all_goals
    go_wp2_with fail
    go_ret
    exact ⟨ret_str HE.out.symm, (((Below.refl _ _).alloc (Nat.le_refl _) _).alloc (by simp) _).drew⟩
theorem number_any (n : Nat) (h : n < 100) (w : World) :
    Calls Tryd.prog 41 #[.int .i64 n] w fun e w' => e = .returned (.string (Pl.num n)) ∧ Below w.heap.size w w' := by
  by_cases h1 : n < 10
  · refine (number_one n (by omega) (by omega) w).mono ?_
    rintro e w' ⟨rfl, rfl⟩
    refine ⟨ret_str ?_, (Below.refl _ _).alloc (Nat.le_refl _) _⟩
    rw [show (48 : Int) + (n : Int) % 10 = ((48 + n : Nat) : Int) by omega, oneB_eq _ (by omega)]
    unfold Pl.num; rw [Pl.dec_one n h1]
  · refine (number_two n (by omega) (by omega) w).mono ?_
    rintro e w' ⟨rfl, hb⟩
    refine ⟨ret_str ?_, hb⟩
    rw [show (48 : Int) + (n : Int) / 10 % 10 = ((48 + n / 10 : Nat) : Int) by omega, show (48 : Int) + (n : Int) % 10 = ((48 + n % 10 : Nat) : Int) by omega, oneB_eq _ (by omega), oneB_eq _ (by omega)]
    unfold Pl.num; rw [Pl.dec_two n (by omega) h]
    rfl

theorem candidate_any (base : ByteArray) (n : Nat) (hb : base.size ≤ 32) (h : n < 100) (w : World) :
    Calls Tryd.prog 34 #[.string base, .int .i64 n] w fun e w' => e = .returned (.string (Pl.cand base n)) ∧ Below w.heap.size w w' := by
  have hd := Pl.dec_len n h
  have HI := Lib.hid (number_any n h)
  have HC : Hid (Pl.cand base n = base.extract 0 (Pl.keep base n) ++ Pl.num n) := Lib.hid rfl
  have HK : Hid (Pl.keep base n = min base.size (32 - (Pl.num n).size)) := Lib.hid rfl
  generalize Pl.num n = d at *
  generalize Pl.cand base n = r at *
  generalize Pl.keep base n = kk at *
  by_cases hc : base.size ≤ 32 - d.size
  · go_enter Tryd.func34, Tryd.ntmps34
    go_wp2_with fail
    refine (HI.out _).mono ?_
    rintro e w' ⟨rfl, hbel⟩
    go_wp2_with fail
    go_ret
    exact ⟨ret_str (by rw [HC.out, HK.out, show min base.size (32 - d.size) = base.size by omega, ext_all]), hbel⟩
  · go_enter Tryd.func34, Tryd.ntmps34
    go_wp2_with fail
    refine (HI.out _).mono ?_
    rintro e w' ⟨rfl, hbel⟩
    go_wp2_with fail
    go_ret
    exact ⟨ret_str (by rw [HC.out, HK.out, show min base.size (32 - d.size) = 32 - d.size by omega]), hbel⟩
end Go.Proofs.YtjfmanflkcaohaaDoor
