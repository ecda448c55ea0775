/- The walks of the reference's Strings, Has and Insert. -/
import Derived.Test.YtoelfiendfemaaaRes
import Derived.Lib.RowBridge
namespace Go.Proofs.Ytoelfiendfemaaa
open Go.RowKit Go.Deep
set_option linter.unusedVariables false
set_option linter.unusedSimpArgs false

theorem Try.infoS : (Try.prog.info? 9).map (fun i => (i.zero, i.size, i.bytes)) = some (some (.string ⟨#[]⟩), 1, 16) := by kernel_rfl
theorem StrsAt.later {w w' : World} {b o : Nat} {xs : List ByteArray} (h : StrsAt w b o xs) (hb : b < w.heap.size) (hbel : Below w.heap.size w w') : StrsAt w' b o xs :=
  fun j x hx => (hbel.cell (p := ⟨b, o + j, none⟩) hb).trans (h j x hx)
/-- A slice that reads as a list of strings, wherever it lies. -/
def Reads (w : World) (v : Value) (xs : List ByteArray) : Prop :=
  (xs = [] ∧ ∃ a c, v = .slice a 0 c ∧ (a = none → c = 0)) ∨
  ∃ b o c, v = .slice (some ⟨b, o, none⟩) xs.length c ∧ b < w.heap.size ∧ StrsAt w b o xs ∧ xs.length ≤ maxLen
theorem Reads.later {w w' : World} {v : Value} {xs : List ByteArray} (h : Reads w v xs) (hb : Below w.heap.size w w') : Reads w' v xs := by
  rcases h with h | ⟨b, o, c, h1, h2, h3, h4⟩
  · exact .inl h
  · exact .inr ⟨b, o, c, h1, Nat.lt_of_lt_of_le h2 hb.size, h3.later h2 hb, h4⟩
theorem reads_nil (w : World) : Reads w (.slice none 0 0) [] := .inl ⟨rfl, _, _, rfl, fun _ => rfl⟩
theorem rhas_none (a : Option Addr) (c : Nat) (x : ByteArray) (w : World) :
    Calls Try.prog 29 #[.slice a 0 c, .string x] w fun e w' => e = .returned (.bool (Pl.inL [] x)) ∧ w = w' := by
  go_enter Try.func29, Try.ntmps29
  go_wp2_with fail
  refine wp_loop_rounds 1 ?_; rw [rounds_succ]
  go_wp2_with fail
  go_ret
  exact ⟨rfl, rfl⟩
set_option maxHeartbeats 400000 in
theorem rhas_some (b o c n : Nat) (xs : List ByteArray) (x : ByteArray) (w : World) (hc : StrsAt w b o xs) (hn : n = xs.length) (hm : n ≤ maxLen) :
    Calls Try.prog 29 #[.slice (some ⟨b, o, none⟩) n c, .string x] w fun e w' => e = .returned (.bool (Pl.inL xs x)) ∧ w = w' := by
  have HN := Lib.hid hn
  have HC := Lib.hid hc
  clear hn hc
  unfold maxLen at hm
  go_enter Try.func29, Try.ntmps29
  go_wp2_with fail
  go_loop [5] (fun i => ∃ k : Nat, k ≤ n ∧ i = .int .i64 k ∧ Pl.inL (xs.take k) x = false) (fun i => n - (intOf i).toNat)
  case atStart => exact ⟨0, Nat.zero_le _, rfl, rfl⟩
  case round =>
    obtain ⟨k, hk, rfl, hno⟩ := hrel
    have HO := Lib.hid hno
    clear hno
    by_cases hp : k < n
    · have hkx : k < xs.length := by rw [← HN.out]; exact hp
      have hcl := HC.out k _ (List.getElem?_eq_getElem hkx)
      have HT := Lib.hid (Pl.inL_take xs k hkx x)
      by_cases he : xs[k] = x
      · have HY : Hid (Pl.inL xs x = true) := Lib.hid (Pl.inL_yes xs x (by rw [← he]; exact List.getElem_mem _))
        have hb : (xs[k].toList == x.toList) = true := by rw [he]; exact beq_self_eq_true _
        clear HT he
        generalize xs[k] = y at *
        go_wp2_with fail
        go_ret
        exact ⟨ret_bool HY.out.symm, rfl⟩
      · have HF : Hid (Pl.inL (xs.take (k + 1)) x = false) := Lib.hid (by rw [HT.out, HO.out]; simpa using he)
        have hb : (xs[k].toList == x.toList) = false := by
          have : xs[k].toList ≠ x.toList := fun e => he (Pl.list_ext (by rw [← Pl.toList_eq, ← Pl.toList_eq]; exact e))
          simpa using this
        clear HT he
        generalize xs[k] = y at *
        go_wp2_with fail
        exact ⟨⟨k + 1, by omega, by go_num, HF.out⟩, by simp [intOf]; omega⟩
    · have hkn : k = n := by omega
      subst hkn
      have HL : Hid (Pl.inL xs x = false) := Lib.hid (by have := HO.out; rw [HN.out, List.take_length] at this; exact this)
      go_wp2_with fail
      go_ret
      exact ⟨ret_bool HL.out.symm, rfl⟩
theorem rhas_any (v : Value) (xs : List ByteArray) (x : ByteArray) (w : World) (h : Reads w v xs) :
    Calls Try.prog 29 #[v, .string x] w fun e w' => e = .returned (.bool (Pl.inL xs x)) ∧ w = w' := by
  rcases h with ⟨rfl, a, c, rfl, _⟩ | ⟨b, o, c, rfl, _, h2, h3⟩
  · exact rhas_none a c x w
  · exact rhas_some b o c _ xs x w h2 rfl h3
theorem rhas_is (v : Value) (xs : List ByteArray) (x : ByteArray) (b : Bool) (hb : Pl.inL xs x = b) (w : World) (h : Reads w v xs) :
    Calls Try.prog 29 #[v, .string x] w fun e w' => e = .returned (.bool b) ∧ w = w' := hb ▸ rhas_any v xs x w h
/-- What Insert gives: a list of the call's own. -/
def Inserted (ys : List ByteArray) (w : World) (e : Ending) (w' : World) : Prop := ∃ u, e = .returned u ∧ Reads w' u ys ∧ Below w.heap.size w w'
theorem own_at {w : World} {B : Nat} {e : TypeId} {size : Nat} {v : Value} {n : Nat} {xs : List Value} (h : w.ownsRow B e size v n xs) : ∀ k, v.ownBlock = some k → B ≤ k := by
  intro k hk
  rcases h.2 with ⟨rfl, _⟩ | ⟨g, cap, cur, rfl, hg, _⟩
  · simp [Value.ownBlock] at hk
  · simp [Value.ownBlock] at hk; omega
theorem reads_of_row {w : World} {B n : Nat} {v : Value} {ys : List ByteArray} (h : w.ownsRow B 9 1 v n (ys.map Value.string)) (hn : n = ys.length) : Reads w v ys := by
  subst hn
  rcases h.2 with ⟨rfl, h0⟩ | ⟨g, cap, cur, rfl, hg, hh, h1, h2, _⟩
  · exact .inl ⟨List.eq_nil_of_length_eq_zero h0, _, _, rfl, fun _ => rfl⟩
  · refine .inr ⟨g, 0, cap, rfl, (Array.getElem?_eq_some_iff.1 hh).1, fun j x hx => ?_, Nat.le_trans h1 h2⟩
    have hj : j < ys.length := (List.getElem?_eq_some_iff.1 hx).1
    rw [Nat.zero_add, h.cellAt j (by omega), List.getElem?_map, hx]
    rfl
/-- Go's order on strings, as the walk spells it. -/
theorem less_facts (x s : ByteArray) : Op.bytesLess x.toList s.toList = decide (x.data.toList < s.data.toList) := by
  rw [bytesLess_eq, Pl.toList_eq, Pl.toList_eq]
theorem less_no (x s : ByteArray) (h : s.data.toList < x.data.toList) : Op.bytesLess x.toList s.toList = false := by
  rw [less_facts]; simp only [decide_eq_false_iff_not]
  exact fun h2 => Pl.lt_irrefl _ (Pl.lt_trans h h2)
theorem less_yes (x s : ByteArray) (h : ¬ s.data.toList < x.data.toList) (hne : ¬ x = s) : Op.bytesLess x.toList s.toList = true := by
  rw [less_facts, decide_eq_true_eq]
  exact Pl.lt_of_ne (List.not_lt.1 h) (fun e => hne (Pl.list_ext e))
theorem eq_no (x s : ByteArray) (h : ¬ x = s) : (x.toList == s.toList) = false := by
  have : x.toList ≠ s.toList := fun e => h (Pl.list_ext (by rw [← Pl.toList_eq, ← Pl.toList_eq]; exact e))
  simpa using this
theorem own_cast {w : World} {B : Nat} {v : Value} {l : List ByteArray} {x : ByteArray} {q : List ByteArray} (h : w.ownsRow B 9 1 v (l.length + 1) (l.map Value.string ++ [.string x])) (hq : q = l ++ [x]) : w.ownsRow B 9 1 v q.length (q.map Value.string) := by
  subst hq
  rw [List.length_append, List.map_append]; exact h
theorem own_cast2 {w : World} {B : Nat} {v : Value} {l : List ByteArray} {s x : ByteArray} {q : List ByteArray} (h : w.ownsRow B 9 1 v (l.length + 1 + 1) (l.map Value.string ++ [.string s, .string x])) (hq : q = l ++ [s] ++ [x]) : w.ownsRow B 9 1 v q.length (q.map Value.string) := by
  subst hq
  rw [List.length_append, List.length_append, List.map_append, List.map_append, List.append_assoc]; exact h
theorem news_at (x : ByteArray) (w : World) : ∀ (j : Nat) u, ([.string x] : List Value)[j]? = some u → (w.alloc (.cells #[.string x] 9)).cell? ((⟨w.heap.size, 0, none⟩ : Addr).add j) = some u := by
  intro j u hj
  match j, hj with
  | 0, hj => simp at hj; subst hj; simp [Addr.add]
theorem news_cell (x : ByteArray) : ∀ u ∈ ([.string x] : List Value), u.oneCell' = true := by
  intro u hu; simp at hu; subst hu; rfl
set_option maxHeartbeats 800000 in
theorem put_none (a : Option Addr) (c : Nat) (s : ByteArray) (w : World) :
    Calls Try.prog 65 #[.slice a 0 c, .string s] w (Inserted (Pl.putB [] s) w) := by
  obtain ⟨i0, hi, hz0, hz1, hz2⟩ := info_parts Try.infoS
  go_enter Try.func65, Try.ntmps65
  go_wp2_with fail
  refine wp_loop_rounds 1 ?_; rw [rounds_succ]
  go_wp2_with (at_builtin; refine wpList_append_own _ rfl _ _ 33 rfl w.heap.size 9 i0 (.string ⟨#[]⟩) 1 16 Try.underlying33 hi hz0 hz1 hz2 rfl (by decide) _ _ _ rfl ((World.ownsRow_nil w w.heap.size 9 1).alloc _) ⟨w.heap.size, 0, none⟩ 1 1 [.string s] rfl rfl ?c1 ?c2 (by decide) (by decide) (by simp) ?_)
  case c1 =>
    intro j u hj
    match j, hj with
    | 0, hj => simp at hj; subst hj; simp [Addr.add]
  case c2 => intro u hu; simp at hu; subst hu; rfl
  intro v' w1 hown' hgrow _
  have hb1 : Below w.heap.size w w1 := ((Below.refl _ _).alloc (Nat.le_refl _) _).grown hgrow (by simp) (fun k hk => by simp [Value.ownBlock] at hk)
  clear hgrow
  go_wp2_with fail
  go_ret
  exact ⟨_, rfl, reads_of_row (ys := [s]) hown' rfl, hb1⟩
set_option maxHeartbeats 3200000 in
theorem put_some (b o c n : Nat) (xs : List ByteArray) (s : ByteArray) (w : World) (hb : b < w.heap.size) (hc : StrsAt w b o xs) (hn : n = xs.length) (hm : n ≤ 100000) :
    Calls Try.prog 65 #[.slice (some ⟨b, o, none⟩) n c, .string s] w (Inserted (Pl.putB xs s) w) := by
  obtain ⟨i0, hi, hz0, hz1, hz2⟩ := info_parts Try.infoS
  have HN := Lib.hid hn
  have HC := Lib.hid hc
  clear hn hc
  go_enter Try.func65, Try.ntmps65
  go_wp2_with fail
  go_loopw [5, 6, 7] (fun v d i wr => ∃ k : Nat, k ≤ n ∧ i = .int .i64 k ∧ d = .bool (Pl.pk xs s k).1 ∧ wr.ownsRow w.heap.size 9 1 v (Pl.pk xs s k).2.length ((Pl.pk xs s k).2.map Value.string) ∧ Below w.heap.size w wr) (fun _ _ i _ => n - (intOf i).toNat)
  case atStart => exact ⟨0, Nat.zero_le _, rfl, rfl, World.ownsRow_nil _ _ _ _, Below.refl _ _⟩
  case round =>
    obtain ⟨k, hk, rfl, rfl, hown, hbel⟩ := hrel
    by_cases hp : k < n
    · have hkx : k < xs.length := by rw [← HN.out]; exact hp
      have hcl := (HC.out.later hb hbel) k _ (List.getElem?_eq_getElem hkx)
      have HS := Lib.hid (Pl.pk_succ xs s k hkx)
      have hpl := Pl.pk_len xs s k
      have hsz := hbel.size
      have HX := Lib.hid (List.getElem?_eq_getElem hkx)
      generalize xs[k] = x at *
      generalize Pl.pk xs s k = p at *
      obtain ⟨d, l⟩ := p
      simp only at hown hpl HS
      by_cases he : x = s
      · have hbt : (x.toList == s.toList) = true := by rw [he]; exact beq_self_eq_true _
        have HS : Hid (Pl.pk xs s (k + 1) = (true, l ++ [x])) := Lib.hid (by
          have h := HS.out
          rw [decide_eq_true he, Bool.or_true, if_pos rfl] at h; exact h)
        clear he
        go_wp2_with (at_builtin; refine wpList_append_own _ rfl _ _ 33 rfl w.heap.size 9 i0 (.string ⟨#[]⟩) 1 16 Try.underlying33 hi hz0 hz1 hz2 rfl (by decide) _ _ _ rfl (hown.alloc _) ⟨wr.heap.size, 0, none⟩ 1 1 [.string x] rfl rfl (news_at _ _) (news_cell _) (by unfold maxLen; omega) (by omega) (by simp; omega) ?_)
        intro v1 w1 hown1 hg1 _
        have hb1 : Below w.heap.size w w1 := (hbel.alloc (by omega) _).grown hg1 (by simp; omega) (own_at hown)
        clear hg1 hown
        go_wp2_with fail
        exact ⟨⟨k + 1, by omega, by go_num, by rw [HS.out], own_cast hown1 (by rw [HS.out]), hb1⟩, by simp [intOf]; omega⟩
      · have hbt := eq_no x s he
        cases d
        · by_cases hlt : s.data.toList < x.data.toList
          · have hbl := less_no x s hlt
            have HS : Hid (Pl.pk xs s (k + 1) = (true, l ++ [s] ++ [x])) := Lib.hid (by
              have h := HS.out
              rw [decide_eq_false he, Bool.or_false, if_neg Bool.false_ne_true, if_pos hlt] at h; exact h)
            clear he hlt
            go_wp2_with (at_builtin; refine wpList_append_own _ rfl _ _ 33 rfl w.heap.size 9 i0 (.string ⟨#[]⟩) 1 16 Try.underlying33 hi hz0 hz1 hz2 rfl (by decide) _ _ _ rfl (hown.alloc _) ⟨wr.heap.size, 0, none⟩ 1 1 [.string s] rfl rfl (news_at _ _) (news_cell _) (by unfold maxLen; omega) (by omega) (by simp; omega) ?_)
            intro v1 w1 hown1 hg1 _
            have hb1 : Below w.heap.size w w1 := (hbel.alloc (by omega) _).grown hg1 (by simp; omega) (own_at hown)
            have hsz1 := hb1.size
            have hcl1 := (HC.out.later hb hb1) k _ HX.out
            clear hg1 hown hcl
            go_wp2_with (at_builtin; refine wpList_append_own _ rfl _ _ 33 rfl w.heap.size 9 i0 (.string ⟨#[]⟩) 1 16 Try.underlying33 hi hz0 hz1 hz2 rfl (by decide) _ _ _ rfl (hown1.alloc _) ⟨w1.heap.size, 0, none⟩ 1 1 [.string x] rfl rfl (news_at _ _) (news_cell _) (by unfold maxLen; omega) (by omega) (by simp; omega) ?_)
            intro v2 w2 hown2 hg2 _
            have hb2 : Below w.heap.size w w2 := (hb1.alloc (by omega) _).grown hg2 (by simp; omega) (own_at hown1)
            clear hg2 hown1
            go_wp2_with fail
            exact ⟨⟨k + 1, by omega, by go_num, by rw [HS.out], own_cast2 hown2 (by rw [HS.out]), hb2⟩, by simp [intOf]; omega⟩
          · have hbl := less_yes x s hlt he
            have HS : Hid (Pl.pk xs s (k + 1) = (false, l ++ [x])) := Lib.hid (by
              have h := HS.out
              rw [decide_eq_false he, Bool.or_false, if_neg Bool.false_ne_true, if_neg hlt] at h; exact h)
            clear he hlt
            go_wp2_with (at_builtin; refine wpList_append_own _ rfl _ _ 33 rfl w.heap.size 9 i0 (.string ⟨#[]⟩) 1 16 Try.underlying33 hi hz0 hz1 hz2 rfl (by decide) _ _ _ rfl (hown.alloc _) ⟨wr.heap.size, 0, none⟩ 1 1 [.string x] rfl rfl (news_at _ _) (news_cell _) (by unfold maxLen; omega) (by omega) (by simp; omega) ?_)
            intro v1 w1 hown1 hg1 _
            have hb1 : Below w.heap.size w w1 := (hbel.alloc (by omega) _).grown hg1 (by simp; omega) (own_at hown)
            clear hg1 hown
            go_wp2_with fail
            exact ⟨⟨k + 1, by omega, by go_num, by rw [HS.out], own_cast hown1 (by rw [HS.out]), hb1⟩, by simp [intOf]; omega⟩
        · have HS : Hid (Pl.pk xs s (k + 1) = (true, l ++ [x])) := Lib.hid (by
            have h := HS.out
            rw [Bool.true_or, if_pos rfl] at h; exact h)
          clear he
          go_wp2_with (at_builtin; refine wpList_append_own _ rfl _ _ 33 rfl w.heap.size 9 i0 (.string ⟨#[]⟩) 1 16 Try.underlying33 hi hz0 hz1 hz2 rfl (by decide) _ _ _ rfl (hown.alloc _) ⟨wr.heap.size, 0, none⟩ 1 1 [.string x] rfl rfl (news_at _ _) (news_cell _) (by unfold maxLen; omega) (by omega) (by simp; omega) ?_)
          intro v1 w1 hown1 hg1 _
          have hb1 : Below w.heap.size w w1 := (hbel.alloc (by omega) _).grown hg1 (by simp; omega) (own_at hown)
          clear hg1 hown
          go_wp2_with fail
          exact ⟨⟨k + 1, by omega, by go_num, by rw [HS.out], own_cast hown1 (by rw [HS.out]), hb1⟩, by simp [intOf]; omega⟩
    · obtain rfl : k = n := by omega
      have HP : Hid (Pl.putB xs s = if (Pl.pk xs s k).1 then (Pl.pk xs s k).2 else (Pl.pk xs s k).2 ++ [s]) := Lib.hid (by unfold Pl.putB; rw [HN.out])
      have hpl := Pl.pk_len xs s k
      have hsz := hbel.size
      generalize Pl.putB xs s = r at *
      generalize Pl.pk xs s k = p at *
      obtain ⟨d, l⟩ := p
      simp only at hown hpl HP
      cases d
      · have HP : Hid (r = l ++ [s]) := Lib.hid (by have h := HP.out; rw [if_neg Bool.false_ne_true] at h; exact h)
        go_wp2_with (at_builtin; refine wpList_append_own _ rfl _ _ 33 rfl w.heap.size 9 i0 (.string ⟨#[]⟩) 1 16 Try.underlying33 hi hz0 hz1 hz2 rfl (by decide) _ _ _ rfl (hown.alloc _) ⟨wr.heap.size, 0, none⟩ 1 1 [.string s] rfl rfl (news_at _ _) (news_cell _) (by unfold maxLen; omega) (by omega) (by simp; omega) ?_)
        intro v1 w1 hown1 hg1 _
        have hb1 : Below w.heap.size w w1 := (hbel.alloc (by omega) _).grown hg1 (by simp; omega) (own_at hown)
        clear hg1 hown
        go_wp2_with fail
        go_ret
        have hr := HP.out
        subst hr
        exact ⟨_, rfl, reads_of_row (by rw [List.map_append]; exact hown1) (by simp), hb1⟩
      · have HP : Hid (r = l) := Lib.hid (by have h := HP.out; rw [if_pos rfl] at h; exact h)
        go_wp2_with fail
        go_ret
        have hr := HP.out
        subst hr
        exact ⟨_, rfl, reads_of_row hown rfl, hbel⟩
theorem put_any (v : Value) (xs : List ByteArray) (s : ByteArray) (w : World) (h : Reads w v xs) (hl : xs.length ≤ 100000) :
    Calls Try.prog 65 #[v, .string s] w (Inserted (Pl.putB xs s) w) := by
  rcases h with ⟨rfl, a, c, rfl, _⟩ | ⟨b, o, c, rfl, h1, h2, _⟩
  · exact put_none a c s w
  · exact put_some b o c _ xs s w h1 h2 rfl hl
theorem rinsert_none (a : Option Addr) (c : Nat) (s : ByteArray) (w : World) :
    Calls Try.prog 49 #[.slice a 0 c, .string s] w (Inserted (Pl.insB [] s) w) := by
  have HP := Lib.hid fun wx => put_any (.slice none 0 0) [] s wx (reads_nil wx) (by simp)
  go_enter Try.func49, Try.ntmps49
  go_wp2_with fail
  refine wp_loop_rounds 1 ?_; rw [rounds_succ]
  go_wp2_with fail
  refine (HP.out _).mono ?_
  rintro e w1 ⟨u, rfl, hr, hb⟩
  go_wp2_with fail
  go_ret
  refine ⟨_, rfl, ?_, hb⟩
  rw [← Pl.ref_insB]
  exact hr
set_option maxHeartbeats 800000 in
theorem rinsert_some (b o c n : Nat) (xs : List ByteArray) (s : ByteArray) (w : World) (hb : b < w.heap.size) (hc : StrsAt w b o xs) (hn : n = xs.length) (hm : n ≤ 90000) :
    Calls Try.prog 49 #[.slice (some ⟨b, o, none⟩) n c, .string s] w (Inserted (Pl.insB xs s) w) := by
  have HN := Lib.hid hn
  have HC := Lib.hid hc
  clear hn hc
  go_enter Try.func49, Try.ntmps49
  go_wp2_with fail
  go_loopw [5, 6] (fun v i wr => ∃ k : Nat, k ≤ n ∧ i = .int .i64 k ∧ Reads wr v (Pl.refB (xs.take k)) ∧ Below w.heap.size w wr) (fun _ i _ => n - (intOf i).toNat)
  case atStart => exact ⟨0, Nat.zero_le _, rfl, reads_nil _, Below.refl _ _⟩
  case round =>
    obtain ⟨k, hk, rfl, hread, hbel⟩ := hrel
    have hrl := Pl.refB_len xs k
    by_cases hp : k < n
    · have hkx : k < xs.length := by rw [← HN.out]; exact hp
      have hcl := (HC.out.later hb hbel) k _ (List.getElem?_eq_getElem hkx)
      have HP := Lib.hid (put_any _ _ xs[k] wr hread (by omega))
      have HS := Lib.hid (Pl.refB_succ xs k hkx)
      generalize xs[k] = x at *
      clear hread
      go_wp2_with fail
      refine HP.out.mono ?_
      rintro e w1 ⟨u, rfl, hr, hb1⟩
      have HR : Hid (Reads w1 u (Pl.refB (xs.take (k + 1)))) := Lib.hid (by rw [HS.out]; exact hr)
      clear hr
      go_wp2_with fail
      exact ⟨⟨k + 1, by omega, by go_num, HR.out, hbel.trans (hb1.mono hbel.size)⟩, by simp [intOf]; omega⟩
    · obtain rfl : k = n := by omega
      have HP := Lib.hid (put_any _ _ s wr hread (by omega))
      clear hread
      go_wp2_with fail
      refine HP.out.mono ?_
      rintro e w1 ⟨u, rfl, hr, hb1⟩
      have HR : Hid (Reads w1 u (Pl.insB xs s)) := Lib.hid (by rw [← Pl.ref_insB]; rw [HN.out, List.take_length] at hr; exact hr)
      clear hr
      go_wp2_with fail
      go_ret
      exact ⟨_, rfl, HR.out, hbel.trans (hb1.mono hbel.size)⟩
theorem rinsert_any (v : Value) (xs : List ByteArray) (s : ByteArray) (w : World) (h : Reads w v xs) (hl : xs.length ≤ 90000) :
    Calls Try.prog 49 #[v, .string s] w (Inserted (Pl.insB xs s) w) := by
  rcases h with ⟨rfl, a, c, rfl, _⟩ | ⟨b, o, c, rfl, h1, h2, _⟩
  · exact rinsert_none a c s w
  · exact rinsert_some b o c _ xs s w h1 h2 rfl hl
theorem str_ne {x y : ByteArray} (h : x ≠ y) : (x.toList == y.toList) = false := by
  have : x.toList ≠ y.toList := fun e => h (by
    have e2 : x.data.toList = y.data.toList := by
      rw [← ByteArray.toList_eq, ← ByteArray.toList_eq] <;> exact e
    cases x; cases y; simp at e2; rw [e2])
  simpa using this
set_option maxHeartbeats 400000 in
theorem rstrings_any {P Q : Nat → Prop} {w : World} (a b : Option Addr) (c d : Nat) (xs ys : List ByteArray) (hx : Strs P w a xs) (hy : Strs Q w b ys) :
    Calls Try.prog 16 #[.slice a xs.length c, .slice b ys.length d] w fun e w' => e = .returned (.bool (decide (xs = ys))) ∧ Below w.heap.size w w' := by
  have hn1 : xs.length ≤ maxLen := hx.1
  have hn2 : ys.length ≤ maxLen := hy.1
  unfold maxLen at hn1 hn2
  by_cases hl : xs.length = ys.length
  · have HX := Lib.hid hx
    have HY := Lib.hid hy
    have HLen := Lib.hid hl
    clear hx hy
    rw [← hl]
    obtain ⟨n, hn⟩ : ∃ n, n = xs.length := ⟨_, rfl⟩
    have HN := Lib.hid hn
    rw [← hn] at hn1 ⊢
    clear hl hn hn2
    go_enter Try.func16, Try.ntmps16
    go_wp2_with fail
    go_loopw [5] (fun i wr => ∃ k nq : Nat, k ≤ n ∧ i = .int .i64 k ∧ xs.take k = ys.take k ∧ wr = w.drewN nq) (fun i _ => n - (intOf i).toNat)
    case atStart => exact ⟨0, 0, Nat.zero_le _, rfl, rfl, rfl⟩
    case round =>
      obtain ⟨k, nq, hk, rfl, heq, rfl⟩ := hrel
      have HE := Lib.hid heq
      clear heq
      by_cases hlt : k < n
      · have hkx : k < xs.length := by rw [← HN.out]; exact hlt
        have hky : k < ys.length := by rw [← HLen.out]; exact hkx
        have hgx := List.getElem?_eq_getElem hkx
        have hgy := List.getElem?_eq_getElem hky
        have hi0 : (0 : Int) ≤ (k : Int) := Int.natCast_nonneg _
        have hi1 : (k : Int) < (n : Int) := by omega
        rcases HX.out.2.2 with h0 | ⟨b1, o1, rfl, _, hat1⟩
        · rw [h0] at hkx; simp at hkx
        · rcases HY.out.2.2 with h0 | ⟨b2, o2, rfl, _, hat2⟩
          · rw [h0] at hky; simp at hky
          · have c1 := hat1 k _ hgx
            have c2 := hat2 k _ hgy
            have HGX := Lib.hid hgx
            have HGY := Lib.hid hgy
            generalize xs[k] = x at *
            generalize ys[k] = y at *
            clear hat1 hat2 hgx hgy
            by_cases hxy : x = y
            · subst hxy
              have HT := Lib.hid (take_same HE.out HGX.out HGY.out)
              have hb : (x.toList != x.toList) = false := by simp
              go_wp2_with fail
              go_quiet (fail)
              go_wp2_with fail
              exact ⟨⟨k + 1, _, by omega, by go_num, HT.out, rfl⟩, by simp [intOf]; omega⟩
            · have HD := Lib.hid (take_differ HGX.out HGY.out hxy)
              have hb := str_ne hxy
              have hb2 : (x.toList != y.toList) = true := by rw [bne, hb]; rfl
              clear hxy
              go_wp2_with fail
              go_quiet (fail)
              go_wp2_with fail
              go_ret
              exact ⟨ret_bool (decide_eq_false HD.out).symm, ⟨rfl, rfl, rfl, Nat.le_refl _, fun _ _ => rfl⟩⟩
      · have hkn : k = n := by omega
        subst hkn
        have HD : Hid (xs = ys) := Lib.hid (by have := HE.out; rw [HN.out, List.take_length] at this; rw [this, HLen.out, List.take_length])
        go_wp2_with fail
        go_ret
        exact ⟨ret_bool (decide_eq_true HD.out).symm, below_drewN _ _⟩
  · have HD := Lib.hid (show xs ≠ ys from fun e => hl (by rw [e]))
    obtain ⟨n, hn⟩ : ∃ n, n = xs.length := ⟨_, rfl⟩
    obtain ⟨m, hm⟩ : ∃ m, m = ys.length := ⟨_, rfl⟩
    rw [← hn, ← hm] at hl ⊢
    have hl2 : ((n : Int) == (m : Int)) = false := by simpa using fun h : (n : Int) = m => hl (by omega)
    have hl3 : ((n : Int) != (m : Int)) = true := by simpa using fun h : (n : Int) = m => hl (by omega)
    clear hn hm hx hy hl
    go_enter Try.func16, Try.ntmps16
    go_wp2_with fail
    go_ret
    exact ⟨ret_bool (decide_eq_false HD.out).symm, Below.refl _ _⟩
end Go.Proofs.Ytoelfiendfemaaa
