/- The walk of the reference's Kids. -/
import Derived.Test.YtidmbdilediplaaWalkBuild
namespace Go.Proofs.Ytidmbdilediplaa
open Go.RowKit Go.Deep
set_option linter.unusedVariables false
set_option linter.unusedSimpArgs false

/-- A list of numbers in new memory. -/
def NumsP (xs : List Int) (w1 : World) (e : Ending) (w' : World) : Prop :=
  ∃ (a : Option Addr) (c : Nat), e = .returned (.slice a xs.length c) ∧ Ints (fun b => w1.heap.size ≤ b ∧ b < w'.heap.size) w' a xs ∧ Below w1.heap.size w1 w'
theorem ints_own {w : World} {B n c : Nat} {a : Option Addr} {xs : List Int} (h : w.ownsRow B 3 1 (.slice a n c) n (ints xs)) (hn : n = xs.length) (hm : n ≤ 1000000) : Ints (fun b => B ≤ b ∧ b < w.heap.size) w a xs := by
  refine ⟨by unfold maxLen; omega, ?_⟩
  rcases Nat.eq_zero_or_pos n with h0 | h0
  · left; exact List.eq_nil_of_length_eq_zero (by omega)
  · obtain ⟨g, cap, he, hg, hlt⟩ := h.form h0
    injection he with h1 h2 h3
    subst h1
    refine .inr ⟨g, 0, rfl, ⟨hg, hlt⟩, fun j x hx => ?_⟩
    have hj := (List.getElem?_eq_some_iff.1 hx).1
    rw [h3] at h
    rw [Nat.zero_add, h.cellAt j (by omega)]
    unfold ints
    rw [List.getElem?_map, hx]; rfl
theorem kf_step (l : List Pl.Rw) (k : Nat) (x : Pl.Rw) (q : Int) (h : l[k]? = some x) : Pl.kf (l.drop k) k q = if x.parent = q then (k : Int) :: Pl.kf (l.drop (k + 1)) (k + 1) q else Pl.kf (l.drop (k + 1)) (k + 1) q := by
  have hl := (List.getElem?_eq_some_iff.1 h).1
  rw [List.drop_eq_getElem_cons hl, Pl.kf]
  have : l[k] = x := by rw [List.getElem?_eq_getElem hl] at h; exact Option.some.inj h
  rw [this]
theorem kf_len (l : List Pl.Rw) (a : Nat) (q : Int) : (Pl.kf l a q).length ≤ l.length := by
  induction l generalizing a with
  | nil => exact Nat.le_refl _
  | cons r l ih =>
    rw [Pl.kf]
    have := ih (a + 1)
    split <;> simp <;> omega
set_option maxHeartbeats 1600000 in
theorem kids_any {P : Nat → Prop} {w1 : World} (b o c : Nat) (l : List Pl.Rw) (R : Nat → Sl) (hat : ∀ (j : Nat) x, l[j]? = some x → At5 w1 b (o + j * 5) x (R j)) (hb : b < w1.heap.size) (hl : l.length ≤ 1000000) (i : Nat) (hi : i < l.length) :
    Calls Try.prog 49 #[.slice (some ⟨b, o, none⟩) l.length c, .int .i64 i] w1 (NumsP (Pl.kf (l.drop (i + 1)) (i + 1) i) w1) := by
  obtain ⟨j0, hj0, hy0, hy1, hy2⟩ := info_parts infoI
  have HA := Lib.hid hat
  obtain ⟨n, hn⟩ : ∃ n, n = l.length := ⟨_, rfl⟩
  have HN := Lib.hid hn
  rw [← hn] at hl hi ⊢
  clear hat hn
  go_enter Try.func49, Try.ntmps49
  go_wp2_with fail
  go_loopw [5, 6] (fun v q wr => ∃ (k m vc : Nat) (va : Option Addr) (xs : List Int), k ≤ n ∧ i + 1 ≤ k ∧ q = .int .i64 k ∧ v = .slice va m vc ∧ m = xs.length ∧ m ≤ k ∧ wr.ownsRow w1.heap.size 3 1 (.slice va m vc) m (ints xs) ∧ Below w1.heap.size w1 wr ∧
    Pl.kf (l.drop (i + 1)) (i + 1) i = xs ++ Pl.kf (l.drop k) k i) (fun _ q _ => n - (intOf q).toNat)
  case atStart => exact ⟨i + 1, 0, 0, none, [], by omega, Nat.le_refl _, by go_num, rfl, rfl, Nat.zero_le _, World.ownsRow_nil _ _ _ _, Below.refl _ _, rfl⟩
  case round =>
    obtain ⟨k, m, vc, va, xs, hk, hik, rfl, rfl, hm, hmk, hown, hbel, heq⟩ := hrel
    have HOwn := Lib.hid hown
    have HB := Lib.hid hbel
    have HE := Lib.hid heq
    have HM := Lib.hid hm
    have hgr := hbel.size
    clear hown heq hm
    by_cases hlt : k < n
    · have hkl : k < l.length := by rw [← HN.out]; exact hlt
      have hgx := List.getElem?_eq_getElem hkl
      have hk0 : (0 : Int) ≤ (k : Int) := Int.natCast_nonneg _
      have hk1 : (k : Int) < (n : Int) := by omega
      have hp := ((HA.out k _ hgx).keep (hbel.block b hb)).cells.1
      have HK := Lib.hid (kf_step l k _ i hgx)
      generalize l[k] = x at *
      clear hgx hbel
      rcases (Classical.em (x.parent = i)).symm with hne | he
      · have HNext : Hid (Pl.kf (l.drop (i + 1)) (i + 1) i = xs ++ Pl.kf (l.drop (k + 1)) (k + 1) i) := Lib.hid (by rw [HE.out, HK.out, if_neg hne])
        obtain ⟨hb1, hb2⟩ := int_ne hne
        clear hne
        go_wp2_with fail
        exact ⟨⟨k + 1, m, vc, va, xs, by omega, by omega, by go_num, rfl, HM.out, by omega, HOwn.out, HB.out, HNext.out⟩, by simp [intOf]; omega⟩
      · have HNext : Hid (Pl.kf (l.drop (i + 1)) (i + 1) i = (xs ++ [(k : Int)]) ++ Pl.kf (l.drop (k + 1)) (k + 1) i) := Lib.hid (by rw [HE.out, HK.out, if_pos he]; simp)
        rw [he] at hp
        clear he
        go_wp2_with (refine wpList_append_lies _ rfl (.tmp 22) (.tmp 24) 44 rfl w1.heap.size 3 j0 _ 1 8 Try.underlying44 hj0 hy0 hy1 hy2 rfl (by omega) (.slice va m vc) m (ints xs) rfl (HOwn.out.alloc _) ⟨wr.heap.size, 0, none⟩ 1 1 [.int .i64 k] rfl rfl (news_int wr _) (by simp [Value.oneCell']) (by omega) (by unfold maxLen; omega) (by omega) (by simp; omega) (wr.heap.size + 1) (by simp) ?_; intro g4 cap4 w4 hown4 hgrow4 hat4 hlt4; have HO4 := Lib.hid hown4; have HG4 := Lib.hid hgrow4; clear hown4 hgrow4 hat4)
        refine ⟨⟨k + 1, m + 1, cap4, some ⟨g4, 0, none⟩, xs ++ [(k : Int)], by omega, by omega, by go_num, rfl, by rw [List.length_append, HM.out]; rfl, by omega, ?_, ?_, HNext.out⟩, by simp [intOf]; omega⟩
        · have h1 := HO4.out
          have e : ints (xs ++ [(k : Int)]) = ints xs ++ [.int .i64 k] := by simp [ints]
          rw [e]; exact h1
        · exact (HB.out.alloc hgr _).grown HG4.out (by simp; omega) (fun y hy => (HOwn.out.lt y hy).1)
    · have hkn : k = n := by omega
      subst hkn
      have HXS : Hid (Pl.kf (l.drop (i + 1)) (i + 1) i = xs) := Lib.hid (by rw [HE.out, List.drop_of_length_le (by rw [← HN.out]; exact Nat.le_refl _)]; simp [Pl.kf])
      clear hbel
      go_wp2_with fail
      go_ret
      rw [HXS.out]
      exact ⟨va, vc, by rw [← HM.out]; rfl, ints_own HOwn.out HM.out (by omega), HB.out⟩
end Go.Proofs.Ytidmbdilediplaa
