/- The walks of first, Kind, Glue. -/
import Derived.Test.YtebmmpepniokjaaDoorWalkFirst
namespace Go.Proofs.YtebmmpepniokjaaDoor
open Go.RowKit
set_option linter.unusedVariables false
set_option linter.unusedSimpArgs false

theorem two_prefix (c : UInt8) (r : Pl.Bs) (a : UInt8) : Lib.hasPrefix (c :: r) [a, a] = (c == a && r.head? == some a) := by
  unfold Lib.hasPrefix
  cases r with
  | nil => simp [List.isPrefixOf]
  | cons b t =>
    rw [Bool.eq_iff_iff]
    simp only [List.isPrefixOf, List.head?_cons, Bool.and_eq_true, beq_iff_eq, Bool.and_true, Option.some.injEq]
    exact ⟨fun ⟨h1, h2⟩ => ⟨h1.symm, h2.symm⟩, fun ⟨h1, h2⟩ => ⟨h1.symm, h2.symm⟩⟩
theorem pre_is (s p : ByteArray) (b : Bool) (h : Lib.hasPrefix s.data.toList p.data.toList = b) (w : World) :
    Calls Tryd.prog 34 #[.string s, .string p] w fun e w' => e = .returned (.bool b) ∧ w = w' :=
  (Tryd.strings_HasPrefix s p w).mono fun e w' ⟨he, hw⟩ => ⟨by rw [he]; exact ret_bool h, hw.symm⟩
theorem ne_empty (s : ByteArray) (h : 1 ≤ s.size) : s.toList.isEmpty = false := (Pl.not_empty s h).2.2

set_option maxHeartbeats 1600000 in
theorem first_some (s : ByteArray) (w : World) (c : UInt8) (r : Pl.Bs) (h : s.data.toList = c :: r) (hs : s.size ≤ 1099511627776) (hE : Errs w) :
    Calls Tryd.prog 23 #[.string s] w fun e w' => e = pairOf (Pl.fst s.data.toList) ∧ Below w.heap.size w w' := by
  have h1 : 1 ≤ s.size := by rw [Lib.size_eq, h]; simp
  have h0 : 0 < s.size := h1
  have hne := ne_empty s h1
  have hc0 : s[0] = c := by
    have := head_eq s h0
    rw [h] at this; simpa using this.symm
  by_cases hw : Pl.wb c = true
  · have HF := Lib.hid (frun_any s w c r h hw hs hE)
    have hcl := (wb_iff c).1 hw
    rw [← hc0] at hcl
    have HC := Lib.hid (fun (n : Int) (q : (cls s[0] : Int) = n) w => class_is s[0] n q w)
    clear h hw hE hc0
    generalize Pl.fst s.data.toList = p at *
    rcases hcl with hcl | hcl
    · have H1 : Hid ((cls s[0] : Int) = 1) := Lib.hid (by rw [hcl]; rfl)
      clear hcl
      go_enter Tryd.func23, Tryd.ntmps23
      go_wp2_with (first | (go_at_call 32; refine (HC.out _ H1.out _).mono ?_; rintro e w' ⟨rfl, rfl⟩) | (go_at_call 33; refine HF.out.mono ?_; rintro e w' ⟨rfl, hb⟩; unfold pairOf))
      go_ret2
      exact ⟨rfl, hb⟩
    · have H1 : Hid ((cls s[0] : Int) = 2) := Lib.hid (by rw [hcl]; rfl)
      clear hcl
      go_enter Tryd.func23, Tryd.ntmps23
      go_wp2_with (first | (go_at_call 32; refine (HC.out _ H1.out _).mono ?_; rintro e w' ⟨rfl, rfl⟩) | (go_at_call 33; refine HF.out.mono ?_; rintro e w' ⟨rfl, hb⟩; unfold pairOf))
      go_ret2
      exact ⟨rfl, hb⟩
  · have hcls : (cls s[0] : Int) = if c = 61 then 4 else if c = 47 then 5 else if Pl.mks.contains c = true then 3 else 0 := by
      have hn1 : ¬ Pl.lt c.toNat = true := fun e => hw (by unfold Pl.wb Pl.wd; rw [e]; rfl)
      have hn2 : ¬ Pl.db c = true := fun e => hw (Pl.db_wb c e)
      rw [hc0]
      unfold cls
      rw [if_neg hn1, if_neg hn2]
      split
      · rfl
      · split
        · rfl
        · split <;> rfl
    have hv : Pl.fst s.data.toList = if c = 61 then (3, if r.head? = some 61 then 2 else 1) else if c = 47 then (if r.head? = some 47 then (0, 0) else (3, 1)) else if Pl.mks.contains c = true then (3, 1) else (0, 0) := by
      rw [h, Pl.fst_cons, if_neg hw]
    have HC := Lib.hid (fun (n : Int) (q : (cls s[0] : Int) = n) w => class_is s[0] n q w)
    by_cases e1 : c = 61
    · subst e1
      rw [if_pos rfl] at hcls hv
      have hp := two_prefix 61 r 61
      rw [← h] at hp
      have H1 := Lib.hid hcls
      clear hw hE hcls h hc0
      by_cases hh : r.head? = some 61
      · rw [if_pos hh] at hv
        rw [hh] at hp
        have HP := Lib.hid (pre_is s ⟨#[61, 61]⟩ true hp)
        rw [hv]
        clear hp hv hh
        go_enter Tryd.func23, Tryd.ntmps23
        go_wp2_with (first | (go_at_call 32; refine (HC.out _ H1.out _).mono ?_; rintro e w' ⟨rfl, rfl⟩) | (go_at_call 34; refine (HP.out _).mono ?_; rintro e w' ⟨rfl, rfl⟩))
        go_ret2
        exact ⟨rfl, Below.refl _ _⟩
      · rw [if_neg hh] at hv
        have hp2 : Lib.hasPrefix s.data.toList [61, 61] = false := by rw [hp]; simpa using hh
        have HP := Lib.hid (pre_is s ⟨#[61, 61]⟩ false hp2)
        rw [hv]
        clear hp hp2 hv hh
        go_enter Tryd.func23, Tryd.ntmps23
        go_wp2_with (first | (go_at_call 32; refine (HC.out _ H1.out _).mono ?_; rintro e w' ⟨rfl, rfl⟩) | (go_at_call 34; refine (HP.out _).mono ?_; rintro e w' ⟨rfl, rfl⟩))
        go_ret2
        exact ⟨rfl, Below.refl _ _⟩
    · rw [if_neg e1] at hcls hv
      by_cases e2 : c = 47
      · subst e2
        rw [if_pos rfl] at hcls hv
        have hp := two_prefix 47 r 47
        rw [← h] at hp
        have H1 := Lib.hid hcls
        clear hw hE hcls h hc0 e1
        by_cases hh : r.head? = some 47
        · rw [if_pos hh] at hv
          rw [hh] at hp
          have HP := Lib.hid (pre_is s ⟨#[47, 47]⟩ true hp)
          rw [hv]
          clear hp hv hh
          go_enter Tryd.func23, Tryd.ntmps23
          go_wp2_with (first | (go_at_call 32; refine (HC.out _ H1.out _).mono ?_; rintro e w' ⟨rfl, rfl⟩) | (go_at_call 34; refine (HP.out _).mono ?_; rintro e w' ⟨rfl, rfl⟩))
          go_ret2
          exact ⟨rfl, Below.refl _ _⟩
        · rw [if_neg hh] at hv
          have hp2 : Lib.hasPrefix s.data.toList [47, 47] = false := by rw [hp]; simpa using hh
          have HP := Lib.hid (pre_is s ⟨#[47, 47]⟩ false hp2)
          rw [hv]
          clear hp hp2 hv hh
          go_enter Tryd.func23, Tryd.ntmps23
          go_wp2_with (first | (go_at_call 32; refine (HC.out _ H1.out _).mono ?_; rintro e w' ⟨rfl, rfl⟩) | (go_at_call 34; refine (HP.out _).mono ?_; rintro e w' ⟨rfl, rfl⟩))
          go_ret2
          exact ⟨rfl, Below.refl _ _⟩
      · rw [if_neg e2] at hcls hv
        by_cases hm : Pl.mks.contains c = true
        all_goals
          first | rw [if_pos hm] at hcls hv | rw [if_neg hm] at hcls hv
          have H1 := Lib.hid hcls
          rw [hv]
          clear hw hE hcls h hc0 e1 e2 hm hv
          go_enter Tryd.func23, Tryd.ntmps23
          go_wp2_with (first | (go_at_call 32; refine (HC.out _ H1.out _).mono ?_; rintro e w' ⟨rfl, rfl⟩))
          go_ret2
          exact ⟨rfl, Below.refl _ _⟩
theorem first_none (w : World) :
    Calls Tryd.prog 23 #[.string ⟨#[]⟩] w fun e w' => e = pairOf (0, 0) ∧ Below w.heap.size w w' := by
  go_enter Tryd.func23, Tryd.ntmps23
  go_wp2_with fail
  go_ret2
  exact ⟨rfl, Below.refl _ _⟩
theorem first_any (s : ByteArray) (w : World) (hs : s.size ≤ 1099511627776) (hE : Errs w) :
    Calls Tryd.prog 23 #[.string s] w fun e w' => e = pairOf (Pl.fst s.data.toList) ∧ Below w.heap.size w w' := by
  match h : s.data.toList with
  | [] =>
    obtain rfl : s = ⟨#[]⟩ := Pl.list_ext h
    exact first_none w
  | c :: r =>
    rw [← h]
    exact first_some s w c r h hs hE
theorem first_is (s : ByteArray) (k n : Nat) (h : Pl.fst s.data.toList = (k, n)) (w : World) (hs : s.size ≤ 1099511627776) (hE : Errs w) :
    Calls Tryd.prog 23 #[.string s] w fun e w' => e = .returned (.tuple #[.int .i64 k, .int .i64 n]) ∧ Below w.heap.size w w' := by
  have := first_any s w hs hE
  rw [h] at this
  exact this

theorem kind_any (s : ByteArray) (w : World) (hs : s.size ≤ 1099511627776) (hE : Errs w) :
    Calls Tryd.prog 16 #[.string s] w fun e w' => e = .returned (.int .i64 (Pl.kd s.data.toList)) ∧ Below w.heap.size w w' := by
  obtain ⟨k, n, h⟩ : ∃ k n, Pl.fst s.data.toList = (k, n) := ⟨_, _, rfl⟩
  have hle := Pl.fst_le s.data.toList
  rw [h, ← Lib.size_eq] at hle
  simp only at hle
  have HF := Lib.hid (first_is s k n h w hs hE)
  have hk : Pl.kd s.data.toList = if n = s.size then k else 0 := by unfold Pl.kd; rw [h, Lib.size_eq]
  rw [hk]
  clear h hE hk
  by_cases hn : n = s.size
  · rw [if_pos hn]
    subst hn
    go_enter Tryd.func16, Tryd.ntmps16
    go_wp2_with (go_at_call 23; refine HF.out.mono ?_; rintro e w' ⟨rfl, hb⟩)
    go_ret
    exact ⟨rfl, hb⟩
  · rw [if_neg hn]
    go_enter Tryd.func16, Tryd.ntmps16
    go_wp2_with (go_at_call 23; refine HF.out.mono ?_; rintro e w' ⟨rfl, hb⟩)
    go_ret
    exact ⟨rfl, hb⟩
theorem kind_is (s : ByteArray) (k : Nat) (h : Pl.kd s.data.toList = k) (w : World) (hs : s.size ≤ 1099511627776) (hE : Errs w) :
    Calls Tryd.prog 16 #[.string s] w fun e w' => e = .returned (.int .i64 k) ∧ Below w.heap.size w w' := h ▸ kind_any s w hs hE
end Go.Proofs.YtebmmpepniokjaaDoor
