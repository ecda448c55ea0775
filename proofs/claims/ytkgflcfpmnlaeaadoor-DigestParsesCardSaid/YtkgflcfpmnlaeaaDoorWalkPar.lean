/- The walks of digest.Parse and of the reference's. -/
import Derived.Test.YtkgflcfpmnlaeaaDoorWalkSum
import Derived.Laws.Rows
namespace Go.Proofs.YtkgflcfpmnlaeaaDoor
open Go.RowKit
set_option linter.unusedVariables false
set_option linter.unusedSimpArgs false

theorem ret_int {k : IntKind} {a b : Int} (h : a = b) : Ending.returned (.int k a) = .returned (.int k b) := by rw [h]
theorem ret_par {a b c d : Int} (h1 : a = c) (h2 : b = d) : Ending.returned (.tuple #[.int .u64 a, .int .i64 b]) = .returned (.tuple #[.int .u64 c, .int .i64 d]) := by rw [h1, h2]

/-- The program's table of digits lies in its block. -/
def Digs (w : World) : Prop := ∃ t fr, w.heap[0]? = some (.cells Pl.digV t fr)
theorem Digs.later {w w' : World} (h : Digs w) (hb : Below w.heap.size w w') : Digs w' := by
  obtain ⟨t, fr, h⟩ := h
  exact ⟨t, fr, by rw [hb.block 0 (Array.getElem?_eq_some_iff.1 h).1, h]⟩
theorem Digs.cell {w : World} (h : Digs w) (m : Nat) (hm : m < 16) : w.cell? ⟨0, m, none⟩ = some (.int .u8 (Pl.hx m)) := by
  obtain ⟨t, fr, h⟩ := h
  rw [cell_of_row w 0 m Pl.digV t fr h, Pl.digV_at m hm]

theorem di0 (w : World) : (Instr.index 41 (.agg Pl.digV) (.int .i64 0)).run Tryd.prog w = .ok (.int .u8 48) w := by kernel_rfl
theorem di1 (w : World) : (Instr.index 41 (.agg Pl.digV) (.int .i64 1)).run Tryd.prog w = .ok (.int .u8 49) w := by kernel_rfl
theorem di2 (w : World) : (Instr.index 41 (.agg Pl.digV) (.int .i64 2)).run Tryd.prog w = .ok (.int .u8 50) w := by kernel_rfl
theorem di3 (w : World) : (Instr.index 41 (.agg Pl.digV) (.int .i64 3)).run Tryd.prog w = .ok (.int .u8 51) w := by kernel_rfl
theorem di4 (w : World) : (Instr.index 41 (.agg Pl.digV) (.int .i64 4)).run Tryd.prog w = .ok (.int .u8 52) w := by kernel_rfl
theorem di5 (w : World) : (Instr.index 41 (.agg Pl.digV) (.int .i64 5)).run Tryd.prog w = .ok (.int .u8 53) w := by kernel_rfl
theorem di6 (w : World) : (Instr.index 41 (.agg Pl.digV) (.int .i64 6)).run Tryd.prog w = .ok (.int .u8 54) w := by kernel_rfl
theorem di7 (w : World) : (Instr.index 41 (.agg Pl.digV) (.int .i64 7)).run Tryd.prog w = .ok (.int .u8 55) w := by kernel_rfl
theorem di8 (w : World) : (Instr.index 41 (.agg Pl.digV) (.int .i64 8)).run Tryd.prog w = .ok (.int .u8 56) w := by kernel_rfl
theorem di9 (w : World) : (Instr.index 41 (.agg Pl.digV) (.int .i64 9)).run Tryd.prog w = .ok (.int .u8 57) w := by kernel_rfl
theorem di10 (w : World) : (Instr.index 41 (.agg Pl.digV) (.int .i64 10)).run Tryd.prog w = .ok (.int .u8 97) w := by kernel_rfl
theorem di11 (w : World) : (Instr.index 41 (.agg Pl.digV) (.int .i64 11)).run Tryd.prog w = .ok (.int .u8 98) w := by kernel_rfl
theorem di12 (w : World) : (Instr.index 41 (.agg Pl.digV) (.int .i64 12)).run Tryd.prog w = .ok (.int .u8 99) w := by kernel_rfl
theorem di13 (w : World) : (Instr.index 41 (.agg Pl.digV) (.int .i64 13)).run Tryd.prog w = .ok (.int .u8 100) w := by kernel_rfl
theorem di14 (w : World) : (Instr.index 41 (.agg Pl.digV) (.int .i64 14)).run Tryd.prog w = .ok (.int .u8 101) w := by kernel_rfl
theorem di15 (w : World) : (Instr.index 41 (.agg Pl.digV) (.int .i64 15)).run Tryd.prog w = .ok (.int .u8 102) w := by kernel_rfl
theorem dig_index (m : Nat) (hm : m < 16) (w : World) : (Instr.index 41 (.agg Pl.digV) (.int .i64 (m : Int))).run Tryd.prog w = .ok (.int .u8 (Pl.hx m)) w := by
  match m, hm with
  | 0, _ => exact di0 w
  | 1, _ => exact di1 w
  | 2, _ => exact di2 w
  | 3, _ => exact di3 w
  | 4, _ => exact di4 w
  | 5, _ => exact di5 w
  | 6, _ => exact di6 w
  | 7, _ => exact di7 w
  | 8, _ => exact di8 w
  | 9, _ => exact di9 w
  | 10, _ => exact di10 w
  | 11, _ => exact di11 w
  | 12, _ => exact di12 w
  | 13, _ => exact di13 w
  | 14, _ => exact di14 w
  | 15, _ => exact di15 w
  | m + 16, h => omega

set_option maxHeartbeats 400000 in
theorem dval_any (c : Nat) (w : World) (hg : Digs w) :
    Calls Tryd.prog 24 #[.int .u8 c] w fun e w' => e = .returned (.int .i64 (Pl.val c)) ∧ w = w' := by
  obtain ⟨t, fr, hg⟩ := hg
  have HG := Lib.hid hg
  clear hg
  go_enter Tryd.func24, Tryd.ntmps24
  go_wp2_with (refine wpList_load_row rfl _ _ rfl 0 rfl t Pl.digV fr _ HG.out Tryd.underlying41 rfl (by kernel_rfl) ?_)
  go_loop [6] (fun i => ∃ k : Nat, k ≤ 16 ∧ i = .int .i64 k ∧ ∀ j, j < k → Pl.hx j ≠ c) (fun i => (16 - intOf i).toNat)
  case atStart => exact ⟨0, by omega, rfl, fun j hj => absurd hj (Nat.not_lt_zero _)⟩
  case round =>
    obtain ⟨k, hk, rfl, hno⟩ := hrel
    have HN := Lib.hid hno
    clear hno
    by_cases hp : k < 16
    · have hi := dig_index k hp
      have hv := Pl.val_hx k hp
      by_cases he : Pl.hx k = c
      · have HV : Hid (Pl.val c = k) := Lib.hid (by rw [← he]; exact hv)
        have hb : ((Pl.hx k : Int) == (c : Int)) = true := by simp [he]
        clear he hv
        go_wp2
        go_ret
        exact ⟨ret_int HV.out.symm, rfl⟩
      · have hb : ((Pl.hx k : Int) == (c : Int)) = false := by simp; omega
        have HE := Lib.hid he
        clear he hv
        go_wp2
        go_round
        case rel => exact ⟨k + 1, by omega, by go_num, fun j hj => by
          by_cases e : j = k
          · subst e; exact HE.out
          · exact HN.out j (by omega)⟩
        case measure => simp [intOf]; omega
    · have HV := Lib.hid (Pl.val_none c (fun j hj => HN.out j (by omega)))
      go_wp2
      go_ret
      exact ⟨ret_int HV.out.symm, rfl⟩

set_option maxHeartbeats 800000 in
theorem parse_any (s : ByteArray) (w : World) (hg : Digs w) (hs : s.size ≤ maxLen) :
    Calls Tryd.prog 17 #[.string s] w fun e w' => e = .returned (.tuple #[.int .u64 (Pl.parV s), .int .i64 (Pl.parE s)]) ∧ w = w' := by
  unfold maxLen at hs
  by_cases h16 : s.size = 16
  · have hb16 : ((s.size : Int) != 16) = false := by simp [h16]
    have H16 := Lib.hid h16
    have hs1 : s.size ≤ 16 := by omega
    have hs2 : 16 ≤ s.size := by omega
    clear h16
    go_enter Tryd.func17, Tryd.ntmps17
    go_wp2
    go_loop [4, 12] (fun d i => ∃ k : Nat, k ≤ s.size ∧ i = .int .i64 k ∧ d = .int .u64 (Pl.parN (s.data.toList.take k) : Nat) ∧ Pl.okL (s.data.toList.take k)) (fun _ i => s.size - (intOf i).toNat)
    case atStart => exact ⟨0, by omega, rfl, rfl, fun c hc => by simp at hc⟩
    case round =>
      obtain ⟨k, hk, rfl, rfl, hok⟩ := hrel
      have HO := Lib.hid hok
      clear hok
      by_cases hp : k < s.size
      · have HT := Lib.hid (Pl.par_take s k hp)
        have HK := Lib.hid (Pl.ok_take s k hp)
        have hlt := Pl.par_take_lt s k (by omega)
        have hdv := fun wx hgx => dval_any s[k].toNat wx hgx
        by_cases hv : 0 ≤ Pl.val s[k].toNat
        · obtain ⟨v, hv2⟩ := Int.eq_ofNat_of_zero_le hv
          have hv3 := Pl.val_lt s[k].toNat
          rw [hv2] at hdv hv3
          have hv4 : v < 16 := by omega
          have hor := Pl.or_shl _ v hlt hv4
          have HV := Lib.hid hv2
          have HD := Lib.hid hdv
          have HR := Lib.hid hor
          clear hv hv2 hv3 hlt hdv hor
          go_wp2_with (go_at_call 24; refine (HD.out _ hg).mono ?_; rintro e w' ⟨rfl, rfl⟩)
          refine ⟨⟨k + 1, by omega, by go_num, ?_, HK.out.2 ⟨HO.out, by rw [HV.out]; omega⟩⟩, by simp [intOf]; omega⟩
          rw [HT.out, HV.out, HR.out]
          rfl
        · have hv2 : Pl.val s[k].toNat < 0 := by omega
          have HB := Lib.hid (Pl.ok_part s k hp hv2)
          have HD := Lib.hid hdv
          clear hlt hdv
          go_wp2_with (go_at_call 24; refine (HD.out _ hg).mono ?_; rintro e w' ⟨rfl, rfl⟩)
          go_ret2
          have hn := Pl.par_no s (fun h => HB.out h.2)
          exact ⟨ret_par hn.1.symm hn.2.symm, rfl⟩
      · have HA := Lib.hid (Pl.take_all s k hp)
        go_wp2
        go_ret2
        have hy := Pl.par_yes s H16.out (by rw [← HA.out]; exact HO.out)
        exact ⟨ret_par (by rw [hy.1, HA.out]) hy.2.symm, rfl⟩
  · have hb16 : ((s.size : Int) != 16) = true := by simp; omega
    have hn := Lib.hid (Pl.par_no s (fun h => h16 h.1))
    clear h16
    go_enter Tryd.func17, Tryd.ntmps17
    go_wp2
    go_ret2
    exact ⟨ret_par hn.out.1.symm hn.out.2.symm, rfl⟩

set_option maxHeartbeats 400000 in
theorem rdval_any (c : Nat) (w : World) (hc : c < 256) :
    Calls Tryd.prog 25 #[.int .u8 c] w fun e w' => e = .returned (.int .i64 (Pl.val c)) ∧ w = w' := by
  have hc2 : (c : Int) ≤ 255 := by omega
  unfold Pl.val
  go_enter Tryd.func25, Tryd.ntmps25
  go_wp2
  all_goals go_ret
  all_goals exact ⟨ret_int (by omega), rfl⟩

set_option maxHeartbeats 800000 in
theorem rparse_any (s : ByteArray) (w : World) (hs : s.size ≤ maxLen) :
    Calls Tryd.prog 18 #[.string s] w fun e w' => e = .returned (.tuple #[.int .u64 (Pl.parV s), .int .i64 (Pl.parE s)]) ∧ w = w' := by
  unfold maxLen at hs
  by_cases h16 : s.size = 16
  · have hb16 : ((s.size : Int) != 16) = false := by simp [h16]
    have H16 := Lib.hid h16
    have hs1 : s.size ≤ 16 := by omega
    have hs2 : 16 ≤ s.size := by omega
    clear h16
    go_enter Tryd.func18, Tryd.ntmps18
    go_wp2
    go_loop [4, 5] (fun d i => ∃ k : Nat, k ≤ s.size ∧ i = .int .i64 k ∧ d = .int .u64 (Pl.parN (s.data.toList.take k) : Nat) ∧ Pl.okL (s.data.toList.take k)) (fun _ i => s.size - (intOf i).toNat)
    case atStart => exact ⟨0, by omega, rfl, rfl, fun c hc => by simp at hc⟩
    case round =>
      obtain ⟨k, hk, rfl, rfl, hok⟩ := hrel
      have HO := Lib.hid hok
      clear hok
      by_cases hp : k < s.size
      · have HT := Lib.hid (Pl.par_take s k hp)
        have HK := Lib.hid (Pl.ok_take s k hp)
        have hlt := Pl.par_take_lt s k (by omega)
        have hdv := fun wx => rdval_any s[k].toNat wx (s[k].toNat_lt)
        by_cases hv : 0 ≤ Pl.val s[k].toNat
        · obtain ⟨v, hv2⟩ := Int.eq_ofNat_of_zero_le hv
          have hv3 := Pl.val_lt s[k].toNat
          rw [hv2] at hdv hv3
          have hv4 : v < 16 := by omega
          have hor := Pl.add_16 _ v hlt hv4
          have HV := Lib.hid hv2
          have HD := Lib.hid hdv
          have HR := Lib.hid hor
          clear hv hv2 hv3 hlt hdv hor
          go_wp2_with (go_at_call 25; refine (HD.out _).mono ?_; rintro e w' ⟨rfl, rfl⟩)
          refine ⟨⟨k + 1, by omega, by go_num, ?_, HK.out.2 ⟨HO.out, by rw [HV.out]; omega⟩⟩, by simp [intOf]; omega⟩
          rw [HT.out, HV.out, HR.out]
          rfl
        · have hv2 : Pl.val s[k].toNat < 0 := by omega
          have HB := Lib.hid (Pl.ok_part s k hp hv2)
          have HD := Lib.hid hdv
          clear hlt hdv
          go_wp2_with (go_at_call 25; refine (HD.out _).mono ?_; rintro e w' ⟨rfl, rfl⟩)
          go_ret2
          have hn := Pl.par_no s (fun h => HB.out h.2)
          exact ⟨ret_par hn.1.symm hn.2.symm, rfl⟩
      · have HA := Lib.hid (Pl.take_all s k hp)
        go_wp2
        go_ret2
        have hy := Pl.par_yes s H16.out (by rw [← HA.out]; exact HO.out)
        exact ⟨ret_par (by rw [hy.1, HA.out]) hy.2.symm, rfl⟩
  · have hb16 : ((s.size : Int) != 16) = true := by simp; omega
    have hn := Lib.hid (Pl.par_no s (fun h => h16 h.1))
    clear h16
    go_enter Tryd.func18, Tryd.ntmps18
    go_wp2
    go_ret2
    exact ⟨ret_par hn.out.1.symm hn.out.2.symm, rfl⟩
end Go.Proofs.YtkgflcfpmnlaeaaDoor
