/- The walks of first and Kind. -/
import Derived.Test.YtiaajpdcacdngaaGreatDoorBClass
namespace Go.Proofs.YtiaajpdcacdngaaGreatDoor.Tk
open Go.RowKit
set_option linter.unusedVariables false
set_option linter.unusedSimpArgs false

def pairOf (p : Nat × Nat) : Ending := .returned (.tuple #[.int .i64 (p.1 : Nat), .int .i64 (p.2 : Nat)])

theorem kw_small (s : ByteArray) (h : Pl.kw s = true) : s.size ≤ 32 ∧ Pl.dg0 s = false := by
  rcases Pl.kw_yes s h with rfl | rfl | rfl | rfl | rfl | rfl | rfl | rfl | rfl | rfl | rfl | rfl <;> exact ⟨by decide, by decide⟩
theorem wds_run (s : ByteArray) (h : Run s) : Pl.wds s = true := by
  unfold Pl.wds
  rw [List.all_eq_true]
  exact fun c hc => h.2.2 c hc
theorem nm_kw_run (s : ByteArray) (h : Run s) : (Pl.nm s || Pl.kw s) = (!Pl.dg0 s && decide (s.size ≤ 32)) := by
  cases hk : Pl.kw s
  · unfold Pl.nm
    rw [hk, wds_run s h]
    have : decide (1 ≤ s.size) = true := by simpa using h.1
    rw [this]
    cases Pl.dg0 s <;> cases decide (s.size ≤ 32) <;> rfl
  · obtain ⟨h1, h2⟩ := kw_small s hk
    rw [h2]
    simp [h1]
theorem isInt_head (x : Pl.Bs) (c : UInt8) (h : x.head? = some c) (hi : Pl.isInt x = true) : Pl.db c = true := by
  unfold Pl.isInt at hi
  simp only [Bool.and_eq_true] at hi
  match x, h with
  | a :: t, h =>
    obtain rfl : a = c := by simpa using h
    have := hi.1.1.2
    rw [List.all_cons, Bool.and_eq_true] at this
    exact this.1
/-- The run with which a string begins. -/
def runOf (s : ByteArray) : ByteArray := s.extract 0 (Pl.rl s.data.toList)
theorem runOf_list (s : ByteArray) : (runOf s).data.toList = s.data.toList.take (Pl.rl s.data.toList) := by unfold runOf; rw [Pl.extract_list, List.drop_zero]
theorem runOf_size (s : ByteArray) : (runOf s).size = Pl.rl s.data.toList := by
  rw [Lib.size_eq, runOf_list, List.length_take]
  have := Pl.rl_le s.data.toList
  omega
theorem runOf_run (s : ByteArray) (c : UInt8) (r : Pl.Bs) (h : s.data.toList = c :: r) (hw : Pl.wb c = true) (hs : s.size ≤ 1099511627776) : Run (runOf s) := by
  have h1 := Pl.rl_pos c r hw
  have h2 := Pl.rl_le s.data.toList
  rw [← Lib.size_eq] at h2
  refine ⟨by rw [runOf_size, h]; exact h1, by rw [runOf_size]; omega, ?_⟩
  rw [runOf_list]; exact Pl.rl_all _
theorem runOf_dg0 (s : ByteArray) (c : UInt8) (r : Pl.Bs) (h : s.data.toList = c :: r) (hw : Pl.wb c = true) : Pl.dg0 (runOf s) = Pl.db c ∧ (runOf s).data.toList.head? = some c := by
  have h1 := Pl.rl_pos c r hw
  have : (runOf s).data.toList = c :: r.take (Pl.rl (c :: r) - 1) := by
    rw [runOf_list, h]
    obtain ⟨m, hm⟩ : ∃ m, Pl.rl (c :: r) = m + 1 := ⟨Pl.rl (c :: r) - 1, by omega⟩
    rw [hm]; rfl
  constructor
  · unfold Pl.dg0; rw [this]; rfl
  · rw [this]; rfl
/-- What firstRun decides by. -/
theorem frun_val (s : ByteArray) (c : UInt8) (r : Pl.Bs) (h : s.data.toList = c :: r) (hw : Pl.wb c = true) (hs : s.size ≤ 1099511627776) :
    Pl.fst s.data.toList = if (Pl.nm (runOf s) || Pl.kw (runOf s)) = true then (1, Pl.rl s.data.toList) else if Pl.isInt (runOf s).data.toList = true then (2, Pl.rl s.data.toList) else (0, 0) := by
  have hR := runOf_run s c r h hw hs
  have hd := runOf_dg0 s c r h hw
  rw [nm_kw_run _ hR, hd.1, runOf_size]
  have e : Pl.fst s.data.toList = Pl.frun c s.data.toList := by rw [h, Pl.fst_cons, if_pos hw]
  rw [e]
  unfold Pl.frun
  rw [← runOf_list]
  cases hb : Pl.db c
  · have hi : ¬ Pl.isInt (runOf s).data.toList = true := fun hi => by
      have := isInt_head _ c hd.2 hi
      rw [hb] at this; cases this
    rw [if_neg (by decide), if_neg hi]
    by_cases hl : Pl.rl s.data.toList ≤ 32
    · rw [if_pos hl, if_pos (by simpa using hl)]
    · rw [if_neg hl, if_neg (by simpa using hl)]
  · rw [if_pos rfl, if_neg (show ¬ (!true && decide (Pl.rl s.data.toList ≤ 32)) = true by simp)]

/-- The first k bytes are of a run. -/
def Wbs (s : ByteArray) (k : Nat) : Prop := ∀ j, (hj : j < s.size) → j < k → Pl.wb s[j] = true
theorem wbs_step (s : ByteArray) (k : Nat) (hk : k < s.size) (h : Wbs s k) (hw : Pl.wb s[k] = true) : Wbs s (k + 1) := by
  intro j hj hlt
  by_cases e : j = k
  · subst e; exact hw
  · exact h j hj (by omega)
theorem wbs_end (s : ByteArray) (k : Nat) (hk : k ≤ s.size) (h : Wbs s k) (hn : ∀ h : k < s.size, Pl.wb s[k] = false) : Pl.rl s.data.toList = k := by
  refine Pl.rl_eq _ k (by rw [← Lib.size_eq]; exact hk) (fun j hj hlt => ?_) (fun hj => ?_)
  · rw [Pl.get_list s j (by rw [Lib.size_eq]; exact hj) hj]; exact h j _ hlt
  · rw [Pl.get_list s k (by rw [Lib.size_eq]; exact hj) hj]; exact hn _

set_option maxHeartbeats 1600000 in
theorem frun_any (s : ByteArray) (w : World) (c : UInt8) (r : Pl.Bs) (h : s.data.toList = c :: r) (hw : Pl.wb c = true) (hs : s.size ≤ 1099511627776) (hE : Errs w) :
    Calls Tryz.prog 88 #[.string s] w fun e w' => e = pairOf (Pl.fst s.data.toList) ∧ Below w.heap.size w w' := by
  have hR := runOf_run s c r h hw hs
  have hv := frun_val s c r h hw hs
  have hrl := Pl.rl_le s.data.toList
  rw [← Lib.size_eq] at hrl
  have hx : s.extract 0 (Pl.rl s.data.toList) = runOf s := rfl
  obtain ⟨p, hp⟩ : ∃ p, Pl.fst s.data.toList = p := ⟨_, rfl⟩
  rw [hp] at hv ⊢
  clear hp
  obtain ⟨n, hn⟩ : ∃ n, Pl.rl s.data.toList = n := ⟨_, rfl⟩
  rw [hn] at hrl hv hx
  obtain ⟨y, hy⟩ : ∃ y, runOf s = y := ⟨_, rfl⟩
  rw [hy] at hR hv hx
  have hyl : y.size ≤ maxLen := by unfold maxLen; have := hR.2.1; omega
  obtain ⟨b1, hb1⟩ : ∃ b, Pl.nm y = b := ⟨_, rfl⟩
  obtain ⟨b2, hb2⟩ : ∃ b, Pl.kw y = b := ⟨_, rfl⟩
  obtain ⟨b3, hb3⟩ : ∃ b, Pl.isInt y.data.toList = b := ⟨_, rfl⟩
  rw [hb1, hb2, hb3] at hv
  have H1 := Lib.hid (fun w => valid_is y b1 hb1 w hyl)
  have H2 := Lib.hid (fun w => kw_is y b2 hb2 w)
  have H3 := Lib.hid (fun w hE => int_is y b3 hb3 w hR hE)
  have HN := Lib.hid hn
  subst hx
  have HE := Lib.hid hE
  have HV := Lib.hid hv
  clear hb1 hb2 hb3 hn hE hv hy hR hyl h hw
  go_enter Tryz.func88, Tryz.ntmps88
  go_wp2_with fail
  go_loop [4] (fun i => ∃ k : Nat, k ≤ s.size ∧ i = .int .i64 k ∧ Wbs s k) (fun i => s.size - (intOf i).toNat)
  case atStart => exact ⟨0, Nat.zero_le _, rfl, fun j _ h => absurd h (Nat.not_lt_zero _)⟩
  case round =>
    obtain ⟨k, hk, rfl, hwb⟩ := hrel
    have HW := Lib.hid hwb
    clear hwb
    by_cases hlt : k < s.size
    · cases hc : Pl.wb s[k]
      · obtain rfl : n = k := by rw [← HN.out]; exact wbs_end s k hk HW.out (fun _ => hc)
        have HC := Lib.hid (inrun_is s[n] false hc)
        clear hc
        have hv := HV.out
        cases b1
        · cases b2
          · cases b3
            · rw [if_neg (by decide), if_neg (by decide)] at hv
              subst hv
              go_wp2_with (first | (go_at_call 104; refine (HC.out _).mono ?_; rintro e w' ⟨rfl, rfl⟩) | (go_at_call 117; refine (H1.out _).mono ?_; rintro e w1 ⟨rfl, hb1⟩; have HE1 := Lib.hid (HE.out.later hb1)) | (go_at_call 118; refine (H2.out _).mono ?_; rintro e w2 ⟨rfl, rfl⟩) | (go_at_call 119; refine (H3.out _ HE1.out).mono ?_; rintro e w3 ⟨rfl, hb3⟩; have hb13 := hb1.trans (hb3.mono hb1.size)))
              go_ret2
              exact ⟨rfl, hb13⟩
            · rw [if_neg (by decide), if_pos rfl] at hv
              subst hv
              go_wp2_with (first | (go_at_call 104; refine (HC.out _).mono ?_; rintro e w' ⟨rfl, rfl⟩) | (go_at_call 117; refine (H1.out _).mono ?_; rintro e w1 ⟨rfl, hb1⟩; have HE1 := Lib.hid (HE.out.later hb1)) | (go_at_call 118; refine (H2.out _).mono ?_; rintro e w2 ⟨rfl, rfl⟩) | (go_at_call 119; refine (H3.out _ HE1.out).mono ?_; rintro e w3 ⟨rfl, hb3⟩; have hb13 := hb1.trans (hb3.mono hb1.size)))
              go_ret2
              exact ⟨rfl, hb13⟩
          · rw [if_pos (by decide)] at hv
            subst hv
            go_wp2_with (first | (go_at_call 104; refine (HC.out _).mono ?_; rintro e w' ⟨rfl, rfl⟩) | (go_at_call 117; refine (H1.out _).mono ?_; rintro e w1 ⟨rfl, hb1⟩; have HE1 := Lib.hid (HE.out.later hb1)) | (go_at_call 118; refine (H2.out _).mono ?_; rintro e w2 ⟨rfl, rfl⟩))
            go_ret2
            exact ⟨rfl, hb1⟩
        · rw [if_pos (by simp)] at hv
          subst hv
          go_wp2_with (first | (go_at_call 104; refine (HC.out _).mono ?_; rintro e w' ⟨rfl, rfl⟩) | (go_at_call 117; refine (H1.out _).mono ?_; rintro e w1 ⟨rfl, hb1⟩; have HE1 := Lib.hid (HE.out.later hb1)))
          go_ret2
          exact ⟨rfl, hb1⟩
      · have HC := Lib.hid (inrun_is s[k] true hc)
        have HS := Lib.hid (wbs_step s k hlt HW.out hc)
        clear hc
        go_wp2_with (go_at_call 104; refine (HC.out _).mono ?_; rintro e w' ⟨rfl, rfl⟩)
        exact ⟨⟨k + 1, by omega, by go_num, HS.out⟩, by simp [intOf]; omega⟩
    · obtain rfl : n = k := by rw [← HN.out]; exact wbs_end s k hk HW.out (fun h => absurd h hlt)
      have hv := HV.out
      cases b1
      · cases b2
        · cases b3
          · rw [if_neg (by decide), if_neg (by decide)] at hv
            subst hv
            go_wp2_with (first | (go_at_call 117; refine (H1.out _).mono ?_; rintro e w1 ⟨rfl, hb1⟩; have HE1 := Lib.hid (HE.out.later hb1)) | (go_at_call 118; refine (H2.out _).mono ?_; rintro e w2 ⟨rfl, rfl⟩) | (go_at_call 119; refine (H3.out _ HE1.out).mono ?_; rintro e w3 ⟨rfl, hb3⟩; have hb13 := hb1.trans (hb3.mono hb1.size)))
            go_ret2
            exact ⟨rfl, hb13⟩
          · rw [if_neg (by decide), if_pos rfl] at hv
            subst hv
            go_wp2_with (first | (go_at_call 117; refine (H1.out _).mono ?_; rintro e w1 ⟨rfl, hb1⟩; have HE1 := Lib.hid (HE.out.later hb1)) | (go_at_call 118; refine (H2.out _).mono ?_; rintro e w2 ⟨rfl, rfl⟩) | (go_at_call 119; refine (H3.out _ HE1.out).mono ?_; rintro e w3 ⟨rfl, hb3⟩; have hb13 := hb1.trans (hb3.mono hb1.size)))
            go_ret2
            exact ⟨rfl, hb13⟩
        · rw [if_pos (by decide)] at hv
          subst hv
          go_wp2_with (first | (go_at_call 117; refine (H1.out _).mono ?_; rintro e w1 ⟨rfl, hb1⟩; have HE1 := Lib.hid (HE.out.later hb1)) | (go_at_call 118; refine (H2.out _).mono ?_; rintro e w2 ⟨rfl, rfl⟩))
          go_ret2
          exact ⟨rfl, hb1⟩
      · rw [if_pos (by simp)] at hv
        subst hv
        go_wp2_with (first | (go_at_call 117; refine (H1.out _).mono ?_; rintro e w1 ⟨rfl, hb1⟩; have HE1 := Lib.hid (HE.out.later hb1)))
        go_ret2
        exact ⟨rfl, hb1⟩
end Go.Proofs.YtiaajpdcacdngaaGreatDoor.Tk

namespace Go.Proofs.YtiaajpdcacdngaaGreatDoor.Tk
open Go.RowKit
set_option linter.unusedVariables false
set_option linter.unusedSimpArgs false

theorem two_prefix (c : UInt8) (r : Pl.Bs) (a : UInt8) : Lib.hasPrefix (c :: r) [a, a] = (c == a && r.head? == some a) := by
  unfold Lib.hasPrefix
  cases r with
  | nil => simp [List.isPrefixOf]
  | cons b t =>
    rw [Bool.eq_iff_iff]
    simp only [List.isPrefixOf, List.head?_cons, Bool.and_eq_true, beq_iff_eq, Bool.and_true, Option.some.injEq]
    exact ⟨fun ⟨h1, h2⟩ => ⟨h1.symm, h2.symm⟩, fun ⟨h1, h2⟩ => ⟨h1.symm, h2.symm⟩⟩
theorem pre_is (s p : ByteArray) (b : Bool) (h : Lib.hasPrefix s.data.toList p.data.toList = b) (w : World) :
    Calls Tryz.prog 77 #[.string s, .string p] w fun e w' => e = .returned (.bool b) ∧ w = w' :=
  (Tryz.strings_HasPrefix s p w).mono fun e w' ⟨he, hw⟩ => ⟨by rw [he]; exact ret_bool h, hw.symm⟩
theorem ne_empty (s : ByteArray) (h : 1 ≤ s.size) : s.toList.isEmpty = false := (Pl.not_empty s h).2.2

set_option maxHeartbeats 1600000 in
theorem first_some (s : ByteArray) (w : World) (c : UInt8) (r : Pl.Bs) (h : s.data.toList = c :: r) (hs : s.size ≤ 1099511627776) (hE : Errs w) :
    Calls Tryz.prog 66 #[.string s] w fun e w' => e = pairOf (Pl.fst s.data.toList) ∧ Below w.heap.size w w' := by
  have h1 : 1 ≤ s.size := by rw [Lib.size_eq, h]; simp
  have h0 : 0 < s.size := h1
  have hne := ne_empty s h1
  have hc0 : s[0] = c := by
    have := head_eq s h0
    rw [h] at this; simpa using this.symm
  by_cases hw : Pl.wb c = true
  · have HF := Lib.hid (frun_any s w c r h hw hs hE)
    have hcl := (wb_iff c).1 hw
    rw [← hc0] at hcl
    have HC := Lib.hid (fun (n : Int) (q : (cls s[0] : Int) = n) w => class_is s[0] n q w)
    clear h hw hE hc0
    generalize Pl.fst s.data.toList = p at *
    rcases hcl with hcl | hcl
    · have H1 : Hid ((cls s[0] : Int) = 1) := Lib.hid (by rw [hcl]; rfl)
      clear hcl
      go_enter Tryz.func66, Tryz.ntmps66
      go_wp2_with (first | (go_at_call 87; refine (HC.out _ H1.out _).mono ?_; rintro e w' ⟨rfl, rfl⟩) | (go_at_call 88; refine HF.out.mono ?_; rintro e w' ⟨rfl, hb⟩; unfold pairOf))
      go_ret2
      exact ⟨rfl, hb⟩
    · have H1 : Hid ((cls s[0] : Int) = 2) := Lib.hid (by rw [hcl]; rfl)
      clear hcl
      go_enter Tryz.func66, Tryz.ntmps66
      go_wp2_with (first | (go_at_call 87; refine (HC.out _ H1.out _).mono ?_; rintro e w' ⟨rfl, rfl⟩) | (go_at_call 88; refine HF.out.mono ?_; rintro e w' ⟨rfl, hb⟩; unfold pairOf))
      go_ret2
      exact ⟨rfl, hb⟩
  · have hcls : (cls s[0] : Int) = if c = 61 then 4 else if c = 47 then 5 else if Pl.mks.contains c = true then 3 else 0 := by
      have hn1 : ¬ Pl.lt c.toNat = true := fun e => hw (by unfold Pl.wb Pl.wd; rw [e]; rfl)
      have hn2 : ¬ Pl.db c = true := fun e => hw (Pl.db_wb c e)
      rw [hc0]
      unfold cls
      rw [if_neg hn1, if_neg hn2]
      split
      · rfl
      · split
        · rfl
        · split <;> rfl
    have hv : Pl.fst s.data.toList = if c = 61 then (3, if r.head? = some 61 then 2 else 1) else if c = 47 then (if r.head? = some 47 then (0, 0) else (3, 1)) else if Pl.mks.contains c = true then (3, 1) else (0, 0) := by
      rw [h, Pl.fst_cons, if_neg hw]
    have HC := Lib.hid (fun (n : Int) (q : (cls s[0] : Int) = n) w => class_is s[0] n q w)
    by_cases e1 : c = 61
    · subst e1
      rw [if_pos rfl] at hcls hv
      have hp := two_prefix 61 r 61
      rw [← h] at hp
      have H1 := Lib.hid hcls
      clear hw hE hcls h hc0
      by_cases hh : r.head? = some 61
      · rw [if_pos hh] at hv
        rw [hh] at hp
        have HP := Lib.hid (pre_is s ⟨#[61, 61]⟩ true hp)
        rw [hv]
        clear hp hv hh
        go_enter Tryz.func66, Tryz.ntmps66
        go_wp2_with (first | (go_at_call 87; refine (HC.out _ H1.out _).mono ?_; rintro e w' ⟨rfl, rfl⟩) | (go_at_call 77; refine (HP.out _).mono ?_; rintro e w' ⟨rfl, rfl⟩))
        go_ret2
        exact ⟨rfl, Below.refl _ _⟩
      · rw [if_neg hh] at hv
        have hp2 : Lib.hasPrefix s.data.toList [61, 61] = false := by rw [hp]; simpa using hh
        have HP := Lib.hid (pre_is s ⟨#[61, 61]⟩ false hp2)
        rw [hv]
        clear hp hp2 hv hh
        go_enter Tryz.func66, Tryz.ntmps66
        go_wp2_with (first | (go_at_call 87; refine (HC.out _ H1.out _).mono ?_; rintro e w' ⟨rfl, rfl⟩) | (go_at_call 77; refine (HP.out _).mono ?_; rintro e w' ⟨rfl, rfl⟩))
        go_ret2
        exact ⟨rfl, Below.refl _ _⟩
    · rw [if_neg e1] at hcls hv
      by_cases e2 : c = 47
      · subst e2
        rw [if_pos rfl] at hcls hv
        have hp := two_prefix 47 r 47
        rw [← h] at hp
        have H1 := Lib.hid hcls
        clear hw hE hcls h hc0 e1
        by_cases hh : r.head? = some 47
        · rw [if_pos hh] at hv
          rw [hh] at hp
          have HP := Lib.hid (pre_is s ⟨#[47, 47]⟩ true hp)
          rw [hv]
          clear hp hv hh
          go_enter Tryz.func66, Tryz.ntmps66
          go_wp2_with (first | (go_at_call 87; refine (HC.out _ H1.out _).mono ?_; rintro e w' ⟨rfl, rfl⟩) | (go_at_call 77; refine (HP.out _).mono ?_; rintro e w' ⟨rfl, rfl⟩))
          go_ret2
          exact ⟨rfl, Below.refl _ _⟩
        · rw [if_neg hh] at hv
          have hp2 : Lib.hasPrefix s.data.toList [47, 47] = false := by rw [hp]; simpa using hh
          have HP := Lib.hid (pre_is s ⟨#[47, 47]⟩ false hp2)
          rw [hv]
          clear hp hp2 hv hh
          go_enter Tryz.func66, Tryz.ntmps66
          go_wp2_with (first | (go_at_call 87; refine (HC.out _ H1.out _).mono ?_; rintro e w' ⟨rfl, rfl⟩) | (go_at_call 77; refine (HP.out _).mono ?_; rintro e w' ⟨rfl, rfl⟩))
          go_ret2
          exact ⟨rfl, Below.refl _ _⟩
      · rw [if_neg e2] at hcls hv
        by_cases hm : Pl.mks.contains c = true
        all_goals
          first | rw [if_pos hm] at hcls hv | rw [if_neg hm] at hcls hv
          have H1 := Lib.hid hcls
          rw [hv]
          clear hw hE hcls h hc0 e1 e2 hm hv
          go_enter Tryz.func66, Tryz.ntmps66
          go_wp2_with (first | (go_at_call 87; refine (HC.out _ H1.out _).mono ?_; rintro e w' ⟨rfl, rfl⟩))
          go_ret2
          exact ⟨rfl, Below.refl _ _⟩
theorem first_none (w : World) :
    Calls Tryz.prog 66 #[.string ⟨#[]⟩] w fun e w' => e = pairOf (0, 0) ∧ Below w.heap.size w w' := by
  go_enter Tryz.func66, Tryz.ntmps66
  go_wp2_with fail
  go_ret2
  exact ⟨rfl, Below.refl _ _⟩
theorem first_any (s : ByteArray) (w : World) (hs : s.size ≤ 1099511627776) (hE : Errs w) :
    Calls Tryz.prog 66 #[.string s] w fun e w' => e = pairOf (Pl.fst s.data.toList) ∧ Below w.heap.size w w' := by
  match h : s.data.toList with
  | [] =>
    obtain rfl : s = ⟨#[]⟩ := Pl.list_ext h
    exact first_none w
  | c :: r =>
    rw [← h]
    exact first_some s w c r h hs hE
theorem first_is (s : ByteArray) (k n : Nat) (h : Pl.fst s.data.toList = (k, n)) (w : World) (hs : s.size ≤ 1099511627776) (hE : Errs w) :
    Calls Tryz.prog 66 #[.string s] w fun e w' => e = .returned (.tuple #[.int .i64 k, .int .i64 n]) ∧ Below w.heap.size w w' := by
  have := first_any s w hs hE
  rw [h] at this
  exact this

end Go.Proofs.YtiaajpdcacdngaaGreatDoor.Tk
