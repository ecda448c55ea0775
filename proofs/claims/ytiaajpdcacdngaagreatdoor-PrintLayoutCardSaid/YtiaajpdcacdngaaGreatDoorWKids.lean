/- The walks of kids and list. -/
import Derived.Test.YtiaajpdcacdngaaGreatDoorWRow
namespace Go.Proofs.YtiaajpdcacdngaaGreatDoor
open Go.RowKit
set_option linter.unusedVariables false
set_option linter.unusedSimpArgs false

theorem kidsP_len (first n : Nat) (g : ByteArray) : (Pl.kidsP first n g).length = n - first := by unfold Pl.kidsP; simp
theorem kidsP_snoc (first j : Nat) (g : ByteArray) (h : first ≤ j) : Pl.kidsP first (j + 1) g = Pl.kidsP first j g ++ [Pl.pkid g (j : Nat)] := by
  unfold Pl.kidsP
  rw [show j + 1 - first = (j - first) + 1 from by omega, List.range'_concat, List.map_append]
  congr 1
  rw [show first + 1 * (j - first) = j from by omega]; rfl
theorem kidsP_none (first j : Nat) (g : ByteArray) (h : j ≤ first) : Pl.kidsP first j g = [] := by
  unfold Pl.kidsP
  rw [show j - first = 0 from by omega]; rfl
theorem commasP_snoc (first j : Nat) (h : first ≤ j) : Pl.commasP first (j + 1) = Pl.commasP first j ++ (if first < j then [Pl.pown ⟨#[]⟩ ⟨#[44]⟩, Pl.pkid ⟨#[32]⟩ (j : Nat)] else [Pl.pkid ⟨#[]⟩ (j : Nat)]) := by
  unfold Pl.commasP
  rw [show j + 1 - first = (j - first) + 1 from by omega, List.range'_concat, List.flatMap_append]
  congr 1
  rw [show first + 1 * (j - first) = j from by omega]; simp
theorem commasP_none (first j : Nat) (h : j ≤ first) : Pl.commasP first j = [] := by
  unfold Pl.commasP
  rw [show j - first = 0 from by omega]; rfl
theorem commasP_le (first j : Nat) : (Pl.commasP first j).length ≤ 2 * (j - first) := by
  unfold Pl.commasP
  generalize hl : List.range' first (j - first) = l
  have hlen : l.length = j - first := by rw [← hl]; simp
  rw [← hlen]
  clear hl hlen
  induction l with
  | nil => exact Nat.le_refl _
  | cons a l ih =>
    rw [List.flatMap_cons, List.length_append, List.length_cons]
    have : (if first < a then [Pl.pown ⟨#[]⟩ ⟨#[44]⟩, Pl.pkid ⟨#[32]⟩ (a : Nat)] else [Pl.pkid ⟨#[]⟩ (a : Nat)] : List Pl.Part).length ≤ 2 := by split <;> simp
    omega
theorem row3_one_part (g t : ByteArray) (k : Int) : row3 [⟨g, t, k⟩] = [.string g, .string t, .int .i64 k] := rfl
/-- One part more at the end of a row. -/
theorem parts_snoc {B : Nat} {w : World} {v : Value} {n : Nat} {ps : List Pl.Part} {g t : ByteArray} {k : Int} (h : w.ownsRow B 89 3 v n (row3 ps ++ [.string g, .string t, .int .i64 k])) (hn : n = ps.length + 1) : Parts B w v (ps ++ [⟨g, t, k⟩]) := by
  unfold Parts
  rw [row3_append, List.length_append, List.length_singleton, row3_one_part, ← hn]
  exact h
theorem news_part (w : World) (g t : ByteArray) (k : Int) : ∀ j u, ([.string g, .string t, .int .i64 k] : List Value)[j]? = some u → (w.alloc (.cells #[.string g, .string t, .int .i64 k] 89)).cell? ((⟨w.heap.size, 0, none⟩ : Addr).add j) = some u :=
  World.news_of_block (cs := #[.string g, .string t, .int .i64 k]) (t := 89) (fr := (0, 0)) (heap_alloc_new _ _)
theorem one_part (g t : ByteArray) (k : Int) : ∀ u ∈ ([.string g, .string t, .int .i64 k] : List Value), u.oneCell' = true := by
  intro u hu
  simp only [List.mem_cons, List.not_mem_nil, or_false] at hu
  rcases hu with rfl | rfl | rfl <;> rfl
set_option maxRecDepth 100000 in
set_option maxHeartbeats 800000 in
theorem kids_any (first n : Nat) (g : ByteArray) (b o : Nat) (k : Int) (s : ByteArray) (ka : Option Addr) (kc : Nat) (w : World) (hn : n ≤ 100000) (hf : first ≤ 1) (hN : Nd w b o k s (.slice ka n kc)) :
    Calls Tryz.prog 96 #[.pointer (some ⟨b, o, none⟩), .int .i64 (first : Nat), .string g] w (PartsP (Pl.kidsP first n g) w) := by
  obtain ⟨i0, hi0, hz0, hz1, hz2⟩ := info_parts infoP
  have HNd := Lib.hid hN
  have hlt0 := hN.lt
  clear hN
  go_enter Tryz.func96, Tryz.ntmps96
  go_wp2_with fail
  go_loopw [7, 8] (fun l i wr => ∃ (j : Nat) (a : Option Addr) (m c : Nat), first ≤ j ∧ (j ≤ n ∨ j = first) ∧ i = .int .i64 j ∧ l = .slice a m c ∧ Hid (m = j - first) ∧ Hid (wr.ownsRow w.heap.size 89 3 (.slice a m c) m (row3 (Pl.kidsP first j g))) ∧ Hid (Below w.heap.size w wr)) (fun _ i _ => n - (intOf i).toNat)
  case atStart => exact ⟨first, none, 0, 0, Nat.le_refl _, .inr rfl, rfl, rfl, Lib.hid (by omega), Lib.hid (by rw [kidsP_none _ _ _ (Nat.le_refl _)]; exact World.ownsRow_nil _ _ _ _), Lib.hid (Below.refl _ _)⟩
  case round =>
    obtain ⟨j, a, m, c, hj0, hj1, rfl, rfl, HM, HO, HB⟩ := hrel
    have x3 := (HNd.out.later HB.out).c3
    have hwz := HB.out.size
    by_cases hlt : j < n
    · have hm := HM.out
      have hmb : m ≤ 100000 := by omega
      clear hm
      go_wp2_with (first
        | (go_at_call 98; refine (kid_is _ _ _).mono ?_; rintro e w2 ⟨rfl, hb2⟩; have HB2 := Lib.hid hb2; have hs2 := hb2.size; clear hb2)
        | (at_builtin; refine wpList_append_lies _ rfl _ _ 86 rfl w.heap.size 89 i0 _ 3 40 Tryz.underlying86 hi0 hz0 hz1 hz2 rfl (by decide) (.slice a m c) m _ rfl ((owns_later HO.out HB2.out).alloc _)
            ⟨w2.heap.size, 0, none⟩ 1 1 [.string g, .string ⟨#[]⟩, .int .i64 j] rfl rfl (news_part _ _ _ _) (one_part _ _ _) (by decide) (by unfold maxLen; omega) (by omega) (by simp; omega) (w2.heap.size + 1) (by simp) ?_
           intro gg cap w3 hown hgrow hat3 hlt3
           have HOwn := Lib.hid hown
           have HGrow := Lib.hid hgrow
           clear hown hgrow hat3))
      refine ⟨⟨j + 1, some ⟨gg, 0, none⟩, m + 1, cap, by omega, .inl (by omega), by go_num, rfl, Lib.hid (by have := HM.out; omega), Lib.hid ?_, Lib.hid ?_⟩, by simp [intOf]; omega⟩
      · rw [kidsP_snoc _ _ _ hj0, row3_append]; exact HOwn.out
      · exact ((HB.out.trans (HB2.out.mono hwz)).alloc (by omega) _).grown HGrow.out (by simp; omega) (fun q hq => (HO.out.lt q hq).1)
    · go_wp2_with fail
      go_ret
      have hm := HM.out
      have e : Pl.kidsP first n g = Pl.kidsP first j g := by
        rcases hj1 with h | h
        · rw [show n = j from by omega]
        · rw [kidsP_none first n g (by omega), kidsP_none first j g (by omega)]
      have hl : (Pl.kidsP first j g).length = m := by rw [kidsP_len, hm]
      unfold PartsP Parts
      rw [e, hl]
      exact ⟨a, c, rfl, HO.out, HB.out⟩
end Go.Proofs.YtiaajpdcacdngaaGreatDoor
