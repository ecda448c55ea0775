/- The walks of the package's splice and withKids. -/
import Derived.Test.YtpaleolcfhnenaaDoorWell
namespace Go.Proofs.YtpaleolcfhnenaaDoor.Rt
open Go.RowKit
set_option linter.unusedVariables false
set_option linter.unusedSimpArgs false
set_option maxRecDepth 100000

/-- Kids that lie where P says, or in what the call made. -/
def SplP (P : Nat → Prop) (ks : List Pl.Tr) (m : Nat) (w1 : World) (e : Ending) (w' : World) : Prop :=
  Below w1.heap.size w1 w' ∧ ∃ (a : Option Addr) (c : Nat), e = .returned (.slice a m c) ∧ m ≤ c ∧ KidsIn (fun b => P b ∨ w1.heap.size ≤ b ∧ b < w'.heap.size) w' a ks
theorem off_some (b o n c l : Nat) : (if c = l then some (⟨b, o, none⟩ : Addr) else (some (⟨b, o, none⟩ : Addr)).map (·.add (l * n))) = some ⟨b, o + (if c = l then 0 else l * n), none⟩ := by
  split
  · simp
  · simp [Addr.add_lit]
set_option maxHeartbeats 1600000 in
theorem splice_at {P : Nat → Prop} {w1 : World} (hP : ∀ b, P b → b < w1.heap.size) (ks add : List Pl.Tr) (ka aa : Option Addr) (kc ac : Nat) (hk : KidsIn P w1 ka ks) (ha : KidsIn P w1 aa add) (hkc : ks.length ≤ kc) (k cut : Nat) (hc : k + cut ≤ ks.length) (hl : ks.length ≤ 100000) (hal : add.length ≤ 100) :
    Calls Tryd.prog 56 #[.slice ka ks.length kc, .int .i64 k, .int .i64 cut, .slice aa add.length ac] w1 (SplP P (ks.take k ++ add ++ ks.drop (k + cut)) (k + add.length + (ks.length - (k + cut))) w1) := by
  obtain ⟨L, hL, hLat, hLt⟩ := kids_list hk
  obtain ⟨A, hA, hAat, hAt⟩ := kids_list ha
  have hLl : L.length = ks.length := by rw [← hL, List.length_map]
  have hAl : A.length = add.length := by rw [← hA, List.length_map]
  obtain ⟨n, hn⟩ : ∃ n, n = ks.length := ⟨_, rfl⟩
  obtain ⟨m, hm⟩ : ∃ m, m = add.length := ⟨_, rfl⟩
  have HN := Lib.hid hn
  have HM := Lib.hid hm
  rw [← hn] at hkc hc hl hLl ⊢
  rw [← hm] at hal hAl ⊢
  -- the head of the row
  have hrow : RowP P w1.heap.size w1 ka k k (row4 (L.take k)) := by
    refine ⟨by rw [row4_len, List.length_take]; omega, Nat.le_refl _, ?_, .inl rfl⟩
    rcases Nat.eq_zero_or_pos k with h0 | h0
    · exact .inl h0
    · rcases hLat with h1 | ⟨b, o, e, hb, hat⟩
      · rw [h1] at hn; simp at hn; omega
      · refine .inr ⟨b, o, e, .inl hb, row4_cells fun j x hx => ?_⟩
        rw [List.getElem?_take] at hx
        split at hx
        · exact hat j x hx
        · cases hx
  have hnew : m = 0 ∨ ∃ b o, aa = some ⟨b, o, none⟩ ∧ ∀ (j : Nat) u, (row4 A)[j]? = some u → w1.cell? ⟨b, o + j, none⟩ = some u := by
    rcases hAat with h1 | ⟨b, o, e, hb, hat⟩
    · left; rw [hm, h1]; rfl
    · exact .inr ⟨b, o, e, row4_cells hat⟩
  obtain ⟨d, hd⟩ : ∃ d, d = k + cut := ⟨_, rfl⟩
  -- the rest of the row
  have htail : n - d = 0 ∨ ∃ b o, ka = some ⟨b, o, none⟩ ∧ P b ∧ kc ≠ d ∧ ∀ (j : Nat) u, (row4 (L.drop d))[j]? = some u → w1.cell? ⟨b, o + d * 4 + j, none⟩ = some u := by
    rcases Nat.eq_zero_or_pos (n - d) with h0 | h0
    · exact .inl h0
    · rcases hLat with h1 | ⟨b, o, e, hb, hat⟩
      · rw [h1] at hn; simp at hn; omega
      · refine .inr ⟨b, o, e, hb, by omega, fun j u hu => row4_cells (fun j x hx => ?_) j u hu⟩
        rw [List.getElem?_drop] at hx
        have := hat (d + j) x hx
        rwa [Nat.add_mul, ← Nat.add_assoc] at this
  have HRow := Lib.hid hrow
  have HNew := Lib.hid hnew
  have HTail := Lib.hid htail
  have HP := Lib.hid hP
  have HD := Lib.hid hd
  have hk0 : (0 : Int) ≤ (k : Int) := Int.natCast_nonneg _
  have hkk : (k : Int) ≤ (kc : Int) := by omega
  have hdn : (d : Int) ≤ (n : Int) := by omega
  have hsum : (k : Int) + (cut : Int) = (d : Int) := by omega
  clear hk ha hLat hAat hrow hnew htail hn hm hd
  have hone := row4_one A
  have hone2 := row4_one (L.drop d)
  have hla : (row4 A).length = m * 4 := by rw [row4_len, hAl]
  have hld : (row4 (L.drop d)).length = (n - d) * 4 := by rw [row4_len, List.length_drop, hLl]
  have hb2 : k + m + (n - d) ≤ 1000000 := by omega
  have hwr : IntKind.i64.wrap (d : Int) = d := IntWalk.i64_in _ (by omega)
  have HLd := Lib.hid (⟨hla, hld, hone, hone2, hb2⟩ : _ ∧ _ ∧ _ ∧ _ ∧ _)
  clear hone hone2 hla hld hb2
  have HEnd : Hid (∀ q, q = n - d → ∀ a' c' w', RowP P w1.heap.size w' a' (k + m + q) c' (row4 (L.take k) ++ row4 A ++ row4 (L.drop d)) → Below w1.heap.size w1 w' → SplP P (ks.take k ++ add ++ ks.drop (k + cut)) (k + m + (n - (k + cut))) w1 (.returned (.slice a' (k + m + q) c')) w') := by
    refine Lib.hid fun q hq a' c' w' hr hb => ?_
    subst hq
    rw [← row4_app, ← row4_app] at hr
    have hsz := hb.size
    obtain ⟨_, hki⟩ := row_kids hr (by omega) (fun j x hx => by
      have one : Tin P w1 x.1 x.2 := by
        rcases List.mem_append.1 (List.mem_of_getElem? hx) with h1 | h1
        · rcases List.mem_append.1 h1 with h2 | h2
          · obtain ⟨q, hq⟩ := List.getElem?_of_mem (List.mem_of_mem_take h2); exact hLt q x hq
          · obtain ⟨q, hq⟩ := List.getElem?_of_mem h2; exact hAt q x hq
        · obtain ⟨q, hq⟩ := List.getElem?_of_mem (List.mem_of_mem_drop h1); exact hLt q x hq
      exact one.keep (Same.below hb hP) (fun b hb2 => .inl hb2))
    rw [List.map_append, List.map_append, hA, List.map_take, List.map_drop, hL] at hki
    refine ⟨hb, a', c', by rw [HD.out], by rw [← HD.out]; exact hr.cap, by rw [← HD.out]; exact hki⟩
  clear hLt hAt hL hA hLl hAl
  rcases Nat.eq_zero_or_pos (n - d) with h0 | h0
  · have HLz : Hid ((row4 (L.drop d)).length = 0 * 4) := Lib.hid (by have := HLd.out.2.1; rw [h0] at this; exact this)
    have HQ := Lib.hid h0
    clear h0
    cases ka with
    | none =>
      go_enter Tryd.func56, Tryd.ntmps56
      go_upto_region 1 with fail
      go_region_law
        ((first
          | (have g := HR1; clear g;
             refine step_app (by rfl) _ _ (by rfl) P w1.heap.size (k + m) c1 a1 (row4 (L.take k) ++ row4 A) (by simp [Act.eval, Act.put]) HR1.out HB1.out.size _ 0 _ (row4 (L.drop d)) (by simp [Act.eval, Act.put]; first | exact ⟨rfl, rfl⟩ | exact ⟨rfl, HQ.out, rfl⟩ | exact rfl) HLz.out (.inl rfl) HLd.out.2.2.2.1 (by omega) ?_; intro a2 c2 w3 hr2 hb2; have HR2 := Lib.hid hr2; have HB2 := Lib.hid (HB1.out.trans hb2); clear hr2 hb2)
          | (refine step_app (by rfl) _ _ (by rfl) P w1.heap.size k k none (row4 (L.take k)) (by simp [Act.eval, Act.put]) HRow.out.drew (Nat.le_refl _) aa m ac (row4 A) (by simp [Act.eval, Act.put]) HLd.out.1 HNew.out HLd.out.2.2.1 (by omega) ?_; intro a1 c1 w2 hr1 hb1; have HR1 := Lib.hid hr1; have HB1 := Lib.hid ((Below.refl w1.heap.size w1).drew.trans hb1); clear hr1 hb1)))
      go_wp2_with fail
      go_ret
      exact HEnd.out 0 HQ.out.symm a2 c2 w3 HR2.out HB2.out
    | some ad =>
      by_cases hkd : kc = d
      · have hkz : kc - d = 0 := by omega
        have hkdd : (k : Int) ≤ (d : Int) := by have := HD.out; omega
        go_enter Tryd.func56, Tryd.ntmps56
        go_upto_region 1 with fail
        go_region_law
          ((first
            | (have g := HR1; clear g;
               refine step_app (by rfl) _ _ (by rfl) P w1.heap.size (k + m) c1 a1 (row4 (L.take k) ++ row4 A) (by simp [Act.eval, Act.put]) HR1.out HB1.out.size _ 0 _ (row4 (L.drop d)) (by simp [Act.eval, Act.put]; first | exact ⟨rfl, rfl⟩ | exact ⟨rfl, HQ.out, rfl⟩ | exact rfl) HLz.out (.inl rfl) HLd.out.2.2.2.1 (by omega) ?_; intro a2 c2 w3 hr2 hb2; have HR2 := Lib.hid hr2; have HB2 := Lib.hid (HB1.out.trans hb2); clear hr2 hb2)
            | (refine step_app (by rfl) _ _ (by rfl) P w1.heap.size k k (some ad) (row4 (L.take k)) (by simp [Act.eval, Act.put]) HRow.out.drew (Nat.le_refl _) aa m ac (row4 A) (by simp [Act.eval, Act.put]) HLd.out.1 HNew.out HLd.out.2.2.1 (by omega) ?_; intro a1 c1 w2 hr1 hb1; have HR1 := Lib.hid hr1; have HB1 := Lib.hid ((Below.refl w1.heap.size w1).drew.trans hb1); clear hr1 hb1)))
        go_wp2_with fail
        go_ret
        exact HEnd.out 0 HQ.out.symm a2 c2 w3 HR2.out HB2.out
      · have hkd2 : ¬ kc = d := hkd
        go_enter Tryd.func56, Tryd.ntmps56
        go_upto_region 1 with fail
        go_region_law
          ((first
            | (have g := HR1; clear g;
               refine step_app (by rfl) _ _ (by rfl) P w1.heap.size (k + m) c1 a1 (row4 (L.take k) ++ row4 A) (by simp [Act.eval, Act.put]) HR1.out HB1.out.size _ 0 _ (row4 (L.drop d)) (by simp [Act.eval, Act.put]; first | exact ⟨rfl, rfl⟩ | exact ⟨rfl, HQ.out, rfl⟩ | exact rfl) HLz.out (.inl rfl) HLd.out.2.2.2.1 (by omega) ?_; intro a2 c2 w3 hr2 hb2; have HR2 := Lib.hid hr2; have HB2 := Lib.hid (HB1.out.trans hb2); clear hr2 hb2)
            | (refine step_app (by rfl) _ _ (by rfl) P w1.heap.size k k (some ad) (row4 (L.take k)) (by simp [Act.eval, Act.put]) HRow.out.drew (Nat.le_refl _) aa m ac (row4 A) (by simp [Act.eval, Act.put]) HLd.out.1 HNew.out HLd.out.2.2.1 (by omega) ?_; intro a1 c1 w2 hr1 hb1; have HR1 := Lib.hid hr1; have HB1 := Lib.hid ((Below.refl w1.heap.size w1).drew.trans hb1); clear hr1 hb1)))
        go_wp2_with fail
        go_ret
        exact HEnd.out 0 HQ.out.symm a2 c2 w3 HR2.out HB2.out
  have hka : ∃ b o, ka = some ⟨b, o, none⟩ ∧ kc ≠ d := by
    rcases HTail.out with h2 | ⟨b, o, e, _, h2, _⟩
    · omega
    · exact ⟨b, o, e, h2⟩
  obtain ⟨b, o, rfl, hkd⟩ := hka
  have hkd2 : ¬ kc = d := hkd
  clear h0
  go_enter Tryd.func56, Tryd.ntmps56
  go_upto_region 1 with fail
  go_region_law
    ((first
      | (have g := HR1; clear g;
         refine step_app (by rfl) _ _ (by rfl) P w1.heap.size (k + m) c1 a1 (row4 (L.take k) ++ row4 A) (by simp [Act.eval, Act.put]) HR1.out HB1.out.size (some ⟨b, o + d * 4, none⟩) (n - d) (kc - d) (row4 (L.drop d)) (by simp [Act.eval, Act.put]) HLd.out.2.1 (HTail.out.imp id fun ⟨b', o', e, hb, hne, h⟩ => ⟨b', o' + d * 4, by cases e; rfl, fun j u hu => (HB1.out.cell (p := ⟨b', o' + d * 4 + j, none⟩) (HP.out b' hb)).trans (h j u hu)⟩) HLd.out.2.2.2.1 HLd.out.2.2.2.2 ?_; intro a2 c2 w3 hr2 hb2; have HR2 := Lib.hid hr2; have HB2 := Lib.hid (HB1.out.trans hb2); clear hr2 hb2)
      | (refine step_app (by rfl) _ _ (by rfl) P w1.heap.size k k (some ⟨b, o, none⟩) (row4 (L.take k)) (by simp [Act.eval, Act.put]) HRow.out.drew (Nat.le_refl _) aa m ac (row4 A) (by simp [Act.eval, Act.put]) HLd.out.1 HNew.out HLd.out.2.2.1 (by omega) ?_; intro a1 c1 w2 hr1 hb1; have HR1 := Lib.hid hr1; have HB1 := Lib.hid ((Below.refl w1.heap.size w1).drew.trans hb1); clear hr1 hb1)))
  go_wp2_with fail
  go_ret
  exact HEnd.out (n - d) rfl a2 c2 w3 HR2.out HB2.out
end Go.Proofs.YtpaleolcfhnenaaDoor.Rt
