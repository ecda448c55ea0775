/- The walks of the reference's tabs and Shift. -/
import Derived.Test.YtceoleddijnieaaDoorWalkStep
import Derived.Test.YtceoleddijnieaaDoorWalkEnd
namespace Go.Proofs.YtceoleddijnieaaDoor
open Go.RowKit
set_option linter.unusedVariables false
set_option linter.unusedSimpArgs false

theorem mk_append (x y : Pl.Bs) : Pl.mk x ++ Pl.mk y = Pl.mk (x ++ y) := by
  apply Pl.list_ext
  rw [ByteArray.data_append, Array.toList_append, Pl.mk_list, Pl.mk_list, Pl.mk_list]
theorem rp_next (k : Nat) : Pl.mk (Pl.rp (k : Int)) ++ ⟨#[9]⟩ = Pl.mk (Pl.rp ((k + 1 : Nat) : Int)) := by
  have : (⟨#[9]⟩ : ByteArray) = Pl.mk [9] := rfl
  rw [this, mk_append]
  unfold Pl.rp
  have e1 : ((k : Int)).toNat = k := by omega
  have e2 : (((k + 1 : Nat) : Int)).toNat = k + 1 := by omega
  rw [e1, e2, List.replicate_succ']

set_option maxHeartbeats 400000 in
theorem rtabs_any (q : Int) (w : World) (h0 : 0 ≤ q) (h : q ≤ 100000) :
    Calls Tryd.prog 35 #[.int .i64 q] w fun e w' => e = .returned (.string (Pl.mk (Pl.rp q))) ∧ w = w' := by
  obtain ⟨c, rfl⟩ : ∃ c : Nat, q = c := ⟨q.toNat, by omega⟩
  clear h0
  go_enter Tryd.func35, Tryd.ntmps35
  go_wp2_with fail
  go_loop [3, 4] (fun v i => ∃ k : Nat, ∃ y : ByteArray, k ≤ c ∧ i = .int .i64 k ∧ v = .string y ∧ y.size ≤ k ∧ y = Pl.mk (Pl.rp (k : Int))) (fun _ i => c - (intOf i).toNat)
  case atStart => exact ⟨0, ⟨#[]⟩, Nat.zero_le _, rfl, rfl, Nat.zero_le _, rfl⟩
  case round =>
    obtain ⟨k, y, hk, rfl, rfl, hyk, hy⟩ := hrel
    by_cases hlt : k < c
    · have HN : Hid (y ++ ⟨#[9]⟩ = Pl.mk (Pl.rp ((k + 1 : Nat) : Int))) := Lib.hid (by rw [hy, rp_next])
      have HZ : Hid ((y ++ ⟨#[9]⟩ : ByteArray).size ≤ k + 1) := Lib.hid (by rw [ByteArray.size_append]; have : (⟨#[9]⟩ : ByteArray).size = 1 := rfl; omega)
      have h1 : (1 : Int) ≤ 1 := Int.le_refl _
      clear hy
      go_wp2_with fail
      exact ⟨⟨k + 1, _, by omega, by go_num, rfl, HZ.out, HN.out⟩, by simp [intOf]; omega⟩
    · obtain rfl : k = c := by omega
      have HY := Lib.hid hy
      clear hy
      go_wp2_with fail
      go_ret
      exact ⟨ret_str HY.out, rfl⟩

theorem ext_one (s : ByteArray) (k : Nat) (h : k < s.size) : (s.extract k (k + 1)).data.toList = [s[k]] := by
  have hl : k < s.data.toList.length := by rw [← Lib.size_eq]; exact h
  rw [Pl.extract_list, List.take_succ_eq_append_getElem hl, List.drop_left' (by rw [List.length_take]; omega)]; rfl
def Tabs9 (s : ByteArray) (a j : Nat) : Prop := ∀ m, (hm : m < s.size) → a ≤ m → m < a + j → s[m] = 9
theorem Tabs9.next {s : ByteArray} {a j : Nat} (h : Tabs9 s a j) (hj : a + j < s.size) (hc : s[a + j] = 9) : Tabs9 s a (j + 1) := by
  intro m hm h1 h2
  by_cases e : m = a + j
  · subst e; exact hc
  · exact h m hm h1 (by omega)
theorem tb_stop (s : ByteArray) (a j : Nat) (ha : a + j ≤ s.size) (h : Tabs9 s a j) (hstop : a + j = s.size ∨ ∃ hq : a + j < s.size, s[a + j] ≠ 9) : Pl.tb (rest s a) = j := by
  have hl := rest_len s a
  rcases hstop with e | ⟨hq, hc⟩
  · have := Pl.tb_all (rest s a) (fun i hi => by rw [rest_get s a i hi (by omega)]; exact h _ _ (by omega) (by omega))
    omega
  · exact Pl.tb_get (rest s a) j (by omega) (fun i hi hlt => by rw [rest_get s a i hi (by omega)]; exact h _ _ (by omega) (by omega)) (by rw [rest_get s a j (by omega) hq]; exact hc)
theorem sh_other (d : Int) (s : ByteArray) (k : Nat) (h : k < s.size) (hc : s[k] ≠ 10) (y : ByteArray) (T : Pl.Bs) (hs : y.data.toList ++ Pl.sh d (rest s k) = T) : (y ++ s.extract k (k + 1)).data.toList ++ Pl.sh d (rest s (k + 1)) = T := by
  rw [rest_cons s k h, Pl.sh_no _ _ _ hc] at hs
  rw [ByteArray.data_append, Array.toList_append, ext_one s k h, ← hs]; simp
theorem sh_feed (d : Int) (s : ByteArray) (k j : Nat) (h : k < s.size) (hc : s[k] = 10) (ht : Pl.tb (rest s (k + 1)) = j) (y z : ByteArray) (hz : z.data.toList = Pl.rp ((j : Int) + d)) (T : Pl.Bs) (hs : y.data.toList ++ Pl.sh d (rest s k) = T) :
    (y ++ s.extract k (k + 1) ++ z).data.toList ++ Pl.sh d (rest s (k + 1 + j)) = T := by
  rw [rest_cons s k h, hc, Pl.sh_nl, Pl.shf, ht, rest_rest] at hs
  rw [ByteArray.data_append, Array.toList_append, ByteArray.data_append, Array.toList_append, ext_one s k h, hc, hz, ← hs]; simp
theorem size_le {y : ByteArray} {r T : Pl.Bs} (h : y.data.toList ++ r = T) (hT : T.length ≤ 24400) : y.size ≤ 24400 := by
  have := congrArg List.length h
  rw [List.length_append, ← Lib.size_eq] at this; omega

set_option maxHeartbeats 1600000 in
theorem rshift_any (s : ByteArray) (n d : Int) (w : World) (hs : s.size ≤ 400) (hd : max (min n 60) (-60) = d) :
    Calls Tryd.prog 20 #[.string s, .int .i64 n] w fun e w' => e = .returned (.string (Pl.mk (Pl.sh d s.data.toList))) ∧ w = w' := by
  have hd1 : -60 ≤ d := by omega
  have hd2 : d ≤ 60 := by omega
  obtain ⟨T, hT⟩ : ∃ T, T = Pl.sh d s.data.toList := ⟨_, rfl⟩
  rw [← hT]
  have hTl : T.length ≤ 24400 := by rw [hT]; have := Pl.sh_len d s.data.toList hd2; rw [← Lib.size_eq] at this; omega
  have HT : Hid (Pl.sh d (rest s 0) = T) := Lib.hid (by rw [hT]; rfl)
  clear hT
  go_enter Tryd.func20, Tryd.ntmps20
  go_wp2_with fail
  have HD := Lib.hid hd
  clear hd
  go_loop [5, 6, 7] (fun v i _ => ∃ k : Nat, ∃ y : ByteArray, k ≤ s.size ∧ i = .int .i64 k ∧ v = .string y ∧ y.size ≤ 24400 ∧ y.data.toList ++ Pl.sh d (rest s k) = T) (fun _ i _ => s.size - (intOf i).toNat)
  case atStart => exact ⟨0, ⟨#[]⟩, Nat.zero_le _, rfl, rfl, by show (0 : Nat) ≤ _; omega, by rw [← HT.out]; rfl⟩
  case round =>
    obtain ⟨k, y, hk, rfl, rfl, hy, hsum⟩ := hrel
    by_cases hlt : k < s.size
    · have HS := Lib.hid hsum
      clear hsum
      by_cases hc : s[k] = 10
      · have hcb : ((s[k].toNat : Int) != 10) = false := by simp [hc]
        have HC := Lib.hid hc
        clear hc
        have hes : (s.extract k (k + 1)).size ≤ 1 := by rw [Lib.size_eq, ext_one s k hlt]; simp
        go_wp2_with fail
        go_loop [7] (fun v => ∃ j : Nat, k + 1 + j ≤ s.size ∧ v = .int .i64 j ∧ Tabs9 s (k + 1) j) (fun v => s.size - (intOf v).toNat)
        case atStart => exact ⟨0, by omega, rfl, fun m _ h1 h2 => by omega⟩
        case round =>
          obtain ⟨j, hj, rfl, htb⟩ := hrel
          have HT9 := Lib.hid htb
          clear htb
          by_cases hq : k + 1 + j < s.size
          · by_cases h9 : s[k + 1 + j] = 9
            · have HN := Lib.hid (HT9.out.next hq h9)
              have hb9 : ((s[k + 1 + j].toNat : Int) == 9) = true := by simp [h9]
              clear h9
              go_wp2_with fail
              exact ⟨⟨j + 1, by omega, by go_num, HN.out⟩, by simp [intOf]; omega⟩
            · have ht := tb_stop s (k + 1) j (by omega) HT9.out (.inr ⟨hq, h9⟩)
              have hb9 : ((s[k + 1 + j].toNat : Int) == 9) = false := by
                have : s[k + 1 + j].toNat ≠ 9 := fun e => h9 (UInt8.toNat_inj.1 e)
                simp; omega
              clear h9
              have hq2 := sh_feed d s k j hlt HC.out ht y (Pl.mk (Pl.rp ((j : Int) + d))) (Pl.mk_list _) T HS.out
              have hrp : Pl.rp (max ((j : Int) + d) 0) = Pl.rp ((j : Int) + d) := by unfold Pl.rp; congr 1; omega
              have hzs : (Pl.mk (Pl.rp ((j : Int) + d))).size ≤ 460 := by rw [Pl.mk_size]; unfold Pl.rp; rw [List.length_replicate]; omega
              have HR : Hid (∀ w, Calls Tryd.prog 35 #[.int .i64 (max ((j : Int) + d) 0)] w fun e w' => e = .returned (.string (Pl.mk (Pl.rp ((j : Int) + d)))) ∧ w = w') := Lib.hid (fun w => hrp ▸ rtabs_any _ w (by omega) (by omega))
              have HQ := Lib.hid hq2
              generalize Pl.mk (Pl.rp ((j : Int) + d)) = z at HQ HR hzs
              clear hq2 hrp ht
              go_wp2_with (go_at_call 35; refine (HR.out _).mono ?_; rintro e w' ⟨rfl, rfl⟩)
              exact ⟨⟨k + 1 + j, _, by omega, by go_num, rfl, size_le HQ.out hTl, HQ.out⟩, by simp [intOf]; omega⟩
          · have ht := tb_stop s (k + 1) j (by omega) HT9.out (.inl (by omega))
            have hq2 := sh_feed d s k j hlt HC.out ht y (Pl.mk (Pl.rp ((j : Int) + d))) (Pl.mk_list _) T HS.out
            have hrp : Pl.rp (max ((j : Int) + d) 0) = Pl.rp ((j : Int) + d) := by unfold Pl.rp; congr 1; omega
            have hzs : (Pl.mk (Pl.rp ((j : Int) + d))).size ≤ 460 := by rw [Pl.mk_size]; unfold Pl.rp; rw [List.length_replicate]; omega
            have HR : Hid (∀ w, Calls Tryd.prog 35 #[.int .i64 (max ((j : Int) + d) 0)] w fun e w' => e = .returned (.string (Pl.mk (Pl.rp ((j : Int) + d)))) ∧ w = w') := Lib.hid (fun w => hrp ▸ rtabs_any _ w (by omega) (by omega))
            have HQ := Lib.hid hq2
            generalize Pl.mk (Pl.rp ((j : Int) + d)) = z at HQ HR hzs
            clear hq2 hrp ht
            go_wp2_with (go_at_call 35; refine (HR.out _).mono ?_; rintro e w' ⟨rfl, rfl⟩)
            exact ⟨⟨k + 1 + j, _, by omega, by go_num, rfl, size_le HQ.out hTl, HQ.out⟩, by simp [intOf]; omega⟩
      · have hcb : ((s[k].toNat : Int) != 10) = true := by
          have : s[k].toNat ≠ 10 := fun e => hc (UInt8.toNat_inj.1 e)
          simp; omega
        have HX := Lib.hid (sh_other d s k hlt hc y T HS.out)
        have hes : (s.extract k (k + 1)).size ≤ 1 := by rw [Lib.size_eq, ext_one s k hlt]; simp
        clear hc
        go_wp2_with fail
        exact ⟨⟨k + 1, _, by omega, by go_num, rfl, size_le HX.out hTl, HX.out⟩, by simp [intOf]; omega⟩
    · obtain rfl : k = s.size := by omega
      rw [rest_end s s.size (Nat.le_refl _), Pl.sh_nil, List.append_nil] at hsum
      have HY : Hid (y = Pl.mk T) := Lib.hid (Pl.list_ext (by rw [hsum, Pl.mk_list]))
      clear hsum
      go_wp2_with fail
      go_ret
      exact ⟨ret_str HY.out, rfl⟩
end Go.Proofs.YtceoleddijnieaaDoor
