/- The walks of the six laws. -/
import Derived.Test.YtkgflcfpmnlaeaaDoorWalkAwake
namespace Go.Proofs.YtkgflcfpmnlaeaaDoor
open Go.RowKit
set_option linter.unusedVariables false
set_option linter.unusedSimpArgs false

set_option maxHeartbeats 800000 in
theorem lawSums (s : ByteArray) (a b : Int) (w : World) (hg : Digs w) (hs : s.size ≤ maxLen) :
    Calls Tryd.prog 3 #[.string s, .int .u64 a, .int .u64 b] w fun e w' => e = .returned (.bool true) ∧ Below w.heap.size w w' := by
  have HS := Lib.hid hs
  unfold maxLen at hs
  by_cases h : (s.size : Int) > 2000
  · go_enter Tryd.func3, Tryd.ntmps3
    go_wp2_with fail
    refine (awake_any _ hg).mono ?_
    rintro e w' ⟨rfl, hb⟩
    go_wp2
    go_ret
    exact ⟨rfl, hb⟩
  · go_enter Tryd.func3, Tryd.ntmps3
    go_wp2_with fail
    refine (sum_any _ _ HS.out).mono ?_
    rintro e w' ⟨rfl, rfl⟩
    go_wp2_with fail
    refine (rsum_any _ _ HS.out).mono ?_
    rintro e w' ⟨rfl, rfl⟩
    go_wp2_with fail
    refine (mix_any _ _ _).mono ?_
    rintro e w' ⟨rfl, rfl⟩
    go_wp2_with fail
    refine (rmix_any _ _ _).mono ?_
    rintro e w' ⟨rfl, rfl⟩
    go_wp2_with fail
    refine (awake_any _ hg).mono ?_
    rintro e w' ⟨rfl, hb⟩
    go_wp2
    go_ret
    exact ⟨rfl, hb⟩

set_option maxHeartbeats 800000 in
theorem lawParses (s : ByteArray) (w : World) (hg : Digs w) (hs : s.size ≤ maxLen) :
    Calls Tryd.prog 5 #[.string s] w fun e w' => e = .returned (.bool true) ∧ Below w.heap.size w w' := by
  go_enter Tryd.func5, Tryd.ntmps5
  go_wp2_with fail
  refine (parse_any _ _ hg hs).mono ?_
  rintro e w' ⟨rfl, rfl⟩
  go_wp2_with fail
  refine (rparse_any _ _ hs).mono ?_
  rintro e w' ⟨rfl, rfl⟩
  go_wp2_with fail
  refine (awake_any _ hg).mono ?_
  rintro e w' ⟨rfl, hb⟩
  go_wp2
  go_ret
  exact ⟨rfl, hb⟩

/-- One byte more: its string, and the digest behind it. -/
theorem one_byte (s : ByteArray) (c : Nat) (w : World) (hs : s.size ≤ maxLen) (hc : c < 256) :
    ∃ t : ByteArray, (convert 36 9 (.slice (some ⟨w.heap.size, 0, none⟩) 1 1)).run Tryd.prog (w.alloc (.cells #[.int .u8 (c : Int)] 5)) = .ok (.string t) (w.alloc (.cells #[.int .u8 (c : Int)] 5)) ∧ t.size ≤ 1 ∧
      Hid (∀ wx : World, s.size ≤ 2000 → Calls Tryd.prog 10 #[.string (s ++ t)] wx fun e w' => e = .returned (.int .u64 (IntKind.u64.wrap (bits .xor .u64 (Pl.sum s.data.toList) c * 1099511628211))) ∧ wx = w') := by
  have hcv := run_convert_bytes_arg (P := Tryd.prog) (w.alloc (.cells #[.int .u8 (c : Int)] 5)) 36 5 Tryd.underlying36 Tryd.underlying5 w.heap.size 0 1 1 [(c : Int)] rfl (fun i hi => by
      rw [cell_of_row _ _ _ _ _ _ (heap_alloc_new _ _)]
      match i, hi with
      | 0, _ => rfl) 9 Tryd.underlying9
  have hsz : (strOfNums [(c : Int)]).size = 1 := by rw [strOfNums_size]; rfl
  refine ⟨_, hcv, by omega, Lib.hid fun wx h2 => (sum_any _ wx (by rw [ByteArray.size_append, hsz]; unfold maxLen; omega)).mono ?_⟩
  rintro e w' ⟨rfl, rfl⟩
  refine ⟨ret_u64 ?_, rfl⟩
  rw [ByteArray.data_append, Array.toList_append, strOfNums_data]
  show Pl.sum (s.data.toList ++ [UInt8.ofNat (c : Int).toNat]) = _
  rw [Pl.sum_snoc, UInt8.toNat_ofNat', Int.toNat_natCast, Nat.mod_eq_of_lt hc]
  rfl

set_option maxHeartbeats 800000 in
theorem lawSteps (s : ByteArray) (c : Nat) (w : World) (hg : Digs w) (hs : s.size ≤ maxLen) (hc : c < 256) :
    Calls Tryd.prog 7 #[.string s, .int .u8 c] w fun e w' => e = .returned (.bool true) ∧ Below w.heap.size w w' := by
  have HS := Lib.hid hs
  unfold maxLen at hs
  by_cases h : (s.size : Int) > 2000
  · go_enter Tryd.func7, Tryd.ntmps7
    go_wp2_with fail
    refine (awake_any _ hg).mono ?_
    rintro e w' ⟨rfl, hb⟩
    go_wp2
    go_ret
    exact ⟨rfl, hb⟩
  · obtain ⟨t, hcv, hz1, H1⟩ := one_byte s c w HS.out hc
    have hbl : Below w.heap.size w (w.alloc (.cells #[.int .u8 (c : Int)] 5)) := (Below.refl _ _).alloc (Nat.le_refl _) _
    have hg1 := hg.later hbl
    have hs2000 : s.size ≤ 2000 := by omega
    have h1 := H1.out (w.alloc (.cells #[.int .u8 (c : Int)] 5)) (by omega)
    have H2 := Lib.hid h1
    have hwc : IntKind.u64.wrap (c : Int) = c := by rw [IntKind.wrap_u64]; omega
    have hc2 : (c : Int) ≤ 255 := by omega
    clear h1 H1
    go_enter Tryd.func7, Tryd.ntmps7
    go_wp2_with fail
    refine (H2.out).mono ?_
    rintro e w' ⟨rfl, rfl⟩
    go_wp2_with fail
    refine (sum_any _ _ HS.out).mono ?_
    rintro e w' ⟨rfl, rfl⟩
    go_wp2_with fail
    refine (awake_any _ hg1).mono ?_
    rintro e w' ⟨rfl, hb⟩
    go_wp2
    go_ret
    exact ⟨rfl, hbl.trans (hb.mono hbl.size)⟩

set_option maxHeartbeats 800000 in
theorem lawHex (d : Nat) (s : ByteArray) (w : World) (hg : Digs w) (hd : d < 18446744073709551616) (hs : s.size ≤ maxLen) :
    Calls Tryd.prog 6 #[.int .u64 d, .string s] w fun e w' => e = .returned (.bool true) ∧ Below w.heap.size w w' := by
  have hx := hex_any d w hg hd
  have hz := Pl.hexS_size d
  have hp := Pl.par_yes (Pl.hexS d) hz (Pl.hexB_ok _ _)
  rw [Pl.hexS_list, Pl.parN_hex d (by have : (16 : Nat) ^ 16 = 18446744073709551616 := by decide
                                      omega)] at hp
  have hpp := fun wx hgx => parse_any (Pl.hexS d) wx hgx (by rw [hz]; decide)
  rw [hp.1, hp.2] at hpp
  obtain ⟨t, ht⟩ : ∃ t, t = Pl.hexS d := ⟨_, rfl⟩
  rw [← ht] at hx hz hpp
  clear hp ht
  have HX := Lib.hid hx
  have HZ := Lib.hid hz
  have HP := Lib.hid hpp
  have hzb : ((t.size : Int) != 16) = false := by simp [hz]
  clear hx hz hpp hd
  by_cases hok : s.size = 16 ∧ Pl.okL s.data.toList
  · have hy := Pl.par_yes s hok.1 hok.2
    have hr := Pl.hex_parN s hok.1 hok.2
    have hlt := Pl.parN_lt s.data.toList
    rw [Pl.len_list, hok.1] at hlt
    have hps := fun wx hgx => parse_any s wx hgx hs
    rw [hy.1, hy.2] at hps
    have hxs := fun wx hgx => hex_any (Pl.parN s.data.toList) wx hgx (by have : (16 : Nat) ^ 16 = 18446744073709551616 := by decide
                                                                         omega)
    rw [hr] at hxs
    have HPS := Lib.hid hps
    have HXS := Lib.hid hxs
    clear hy hr hlt hps hxs hok hs
    generalize Pl.parN s.data.toList = m at HPS HXS
    go_enter Tryd.func6, Tryd.ntmps6
    go_wp2_with fail
    refine HX.out.mono ?_
    rintro e w1 ⟨rfl, hb1⟩
    have hg1 := hg.later hb1
    go_wp2_with fail
    refine (HP.out _ hg1).mono ?_
    rintro e w' ⟨rfl, rfl⟩
    go_wp2_with fail
    refine (HPS.out _ hg1).mono ?_
    rintro e w' ⟨rfl, rfl⟩
    go_wp2_with fail
    refine (HXS.out _ hg1).mono ?_
    rintro e w2 ⟨rfl, hb2⟩
    have hg2 := hg1.later hb2
    go_wp2_with fail
    refine (awake_any _ hg2).mono ?_
    rintro e w3 ⟨rfl, hb3⟩
    go_wp2
    go_ret
    exact ⟨rfl, hb1.trans ((hb2.trans (hb3.mono hb2.size)).mono hb1.size)⟩
  · have hy := Pl.par_no s hok
    have hps := fun wx hgx => parse_any s wx hgx hs
    rw [hy.1, hy.2] at hps
    have HPS := Lib.hid hps
    clear hy hps hok hs
    go_enter Tryd.func6, Tryd.ntmps6
    go_wp2_with fail
    refine HX.out.mono ?_
    rintro e w1 ⟨rfl, hb1⟩
    have hg1 := hg.later hb1
    go_wp2_with fail
    refine (HP.out _ hg1).mono ?_
    rintro e w' ⟨rfl, rfl⟩
    go_wp2_with fail
    refine (HPS.out _ hg1).mono ?_
    rintro e w' ⟨rfl, rfl⟩
    go_wp2_with fail
    refine (awake_any _ hg1).mono ?_
    rintro e w3 ⟨rfl, hb3⟩
    go_wp2
    go_ret
    exact ⟨rfl, hb1.trans (hb3.mono hb1.size)⟩
end Go.Proofs.YtkgflcfpmnlaeaaDoor
