/- (As in stage 1.) The walks of lines.Split and lines.Count. -/
import Derived.Test.YtceoleddijnieaaDoorWalkList
import Derived.Laws.RangeAny
import Derived.Lib.OthersKept
namespace Go.Proofs.YtceoleddijnieaaDoor
open Go.RowKit
set_option linter.unusedVariables false
set_option linter.unusedSimpArgs false

theorem own_ge {w : World} {B : Nat} {e : TypeId} {size : Nat} {v : Value} {n : Nat} {xs : List Value} (h : w.ownsRow (B + 1) e size v n xs) : ∀ k, v.ownBlock = some k → B ≤ k := by
  intro k hk
  rcases h.2 with ⟨rfl, _⟩ | ⟨g, cap, cur, rfl, hg, _⟩
  · simp [Value.ownBlock] at hk
  · simp [Value.ownBlock] at hk; omega
theorem own_at {w : World} {B : Nat} {e : TypeId} {size : Nat} {v : Value} {n : Nat} {xs : List Value} (h : w.ownsRow B e size v n xs) : ∀ k, v.ownBlock = some k → B ≤ k := by
  intro k hk
  rcases h.2 with ⟨rfl, _⟩ | ⟨g, cap, cur, rfl, hg, _⟩
  · simp [Value.ownBlock] at hk
  · simp [Value.ownBlock] at hk; omega
theorem own_ne {w : World} {B : Nat} {e : TypeId} {size : Nat} {v : Value} {n : Nat} {xs : List Value} (h : w.ownsRow (B + 1) e size v n xs) : some B ≠ v.ownBlock := by
  rcases h.2 with ⟨rfl, _⟩ | ⟨g, cap, cur, rfl, hg, _⟩
  · simp [Value.ownBlock]
  · simp [Value.ownBlock]; omega
theorem own_down {w : World} {B B' : Nat} {e : TypeId} {size : Nat} {v : Value} {n : Nat} {xs : List Value} (h : w.ownsRow B e size v n xs) (hB : B' ≤ B) : w.ownsRow B' e size v n xs := by
  refine ⟨h.1, ?_⟩
  rcases h.2 with h2 | ⟨g, cap, cur, a, b, c⟩
  · exact .inl h2
  · exact .inr ⟨g, cap, cur, a, Nat.le_trans hB b, c⟩
theorem World.heap_alloc_old (w : World) (o : Obj) (k : Nat) (h : k < w.heap.size) : (w.alloc o).heap[k]? = w.heap[k]? := Below.heap_alloc w o k h

/-- What Split gives: a slice of its own that holds the lines. -/
def Lines (s : ByteArray) (w : World) (e : Ending) (w' : World) : Prop := ∃ v, e = .returned v ∧ w'.ownsRow w.heap.size 9 1 v (Pl.lns s.data.toList).length ((Pl.lns s.data.toList).map str) ∧ Below w.heap.size w w'

set_option maxHeartbeats 800000 in
theorem split_any (s : ByteArray) (w : World) (hs : s.size ≤ 1099511627776) :
    Calls Tryd.prog 32 #[.string s] w (Lines s w) := by
  obtain ⟨i0, hi, hz0, hz1, hz2⟩ := info_parts Tryd.infoS
  go_enter Tryd.func32, Tryd.ntmps32
  go_wp2
  go_loopw [3, 4] (fun v st wr => ∃ pos st0 : Nat, wr.heap[w.heap.size]? = some (.stringIter s pos) ∧ pos ≤ s.size ∧ st0 + (Pl.sk s pos).2.length = pos ∧ st = .int .i64 st0 ∧ wr.ownsRow (w.heap.size + 1) 9 1 v (Pl.sk s pos).1.length ((Pl.sk s pos).1.map str) ∧ Below w.heap.size w wr) (fun _ _ wr => s.size - wr.iterPos w.heap.size)
  case atStart => exact ⟨0, 0, World.iter_heap w s 0, Nat.zero_le _, rfl, rfl, World.ownsRow_nil _ _ _ _, (Below.refl _ _).alloc (Nat.le_refl _) _⟩
  case round =>
    obtain ⟨pos, st0, hit, hps, hst0, rfl, hown, hbel⟩ := hrel
    have hlen := Pl.sk_len s pos hps
    have h5 : st0 ≤ pos := by omega
    have hsz := hbel.size
    have hlt : w.heap.size < wr.heap.size := (Array.getElem?_eq_some_iff.1 hit).1
    have hm := iterPos_of hit
    by_cases hp : pos < s.size
    · obtain ⟨c, n, hd, hr⟩ := Pl.rune_step s pos hp
      obtain ⟨wn, hwn⟩ : ∃ wn, wn = wr.iterAt w.heap.size s (pos + n) := ⟨_, rfl⟩
      have hnx : ∀ ty, (Instr.next (.pointer (some ⟨w.heap.size, 0, none⟩)) true ty).run Tryd.prog wr = .ok (.tuple #[.bool true, .int .i64 pos, .int .i32 c]) wn := fun ty => by rw [Lib.run_next_any_at wr w.heap.size s pos ty hit hp, hd, hwn]
      have hitn : wn.heap[w.heap.size]? = some (.stringIter s (pos + n)) := by rw [hwn]; exact Lib.iterAt_heap _ _ _ _ _ hit
      have hownn := ownsRow_iterAt hown (k := w.heap.size) (by omega) s (pos + n)
      rw [← hwn] at hownn
      have hbeln : Below w.heap.size w wn := by rw [hwn]; exact Lib.below_iterAt hbel (Nat.le_refl _) _ _
      have hszn : w.heap.size < wn.heap.size := by rw [hwn, Lib.iterAt_size]; exact hlt
      have HM := Lib.hid hm
      have HI := Lib.hid hit
      have HIN := Lib.hid hitn
      have HS := Lib.hid hst0
      clear hd hwn hm hit hitn hst0
      by_cases hc : (c : Int) = 10
      · obtain ⟨hn, hb⟩ := Pl.sk_rune_nl s pos hp c n hr hc
        have h10 := (Pl.rune_nl s pos hp c n hr hc).2
        have hcb : ((c : Int) == 10) = true := by simp [hc]
        have HX := Lib.hid (Pl.ext_nl s pos st0 hp h10 HS.out)
        subst hn
        have HB := Lib.hid hb
        clear hb h10 hc
        go_wp2_with (at_builtin; refine wpList_append_own _ rfl _ _ 25 rfl (w.heap.size + 1) 9 i0 (.string ⟨#[]⟩) 1 16 Tryd.underlying25 hi hz0 hz1 hz2 rfl (by decide) _ _ _ rfl (hownn.alloc _) ⟨wn.heap.size, 0, none⟩ 1 1 [.string (s.extract st0 (pos + 1))] rfl rfl ?c1 ?c2 ?c3 ?c4 ?c5 ?_)
        case c1 =>
          intro j u hj
          match j, hj with
          | 0, hj => simp at hj; subst hj; simp [Addr.add]
        case c2 => intro u hu; simp at hu; subst hu; rfl
        case c3 => unfold maxLen; omega
        case c4 => omega
        case c5 => simp; omega
        intro v' w1 hown' hgrow _
        have hb1 : Below w.heap.size w w1 := (hbeln.alloc (by omega) _).grown hgrow (by simp; omega) (own_ge hownn)
        have hi1 : w1.heap[w.heap.size]? = some (.stringIter s (pos + 1)) := by
          rw [hgrow.block _ (by simp; omega) (own_ne hownn)]
          exact (World.heap_alloc_old _ _ _ hszn).trans HIN.out
        rw [HX.out] at hown'
        have hm1 := iterPos_of hi1
        have HI1 := Lib.hid hi1
        have HM1 := Lib.hid hm1
        clear hi1 hm1 hgrow hbeln hownn
        go_wp2
        refine ⟨⟨pos + 1, pos + 1, HI1.out, by omega, by rw [HB.out]; simp, by go_num, ?_, hb1⟩, ?_⟩
        · rw [HB.out]; simpa [str] using hown'
        · rw [HM1.out, HM.out]; omega
      · obtain ⟨h1, h2, h3, h4⟩ := Pl.sk_rune_no s pos hp c n hr hc
        have hcb : ((c : Int) == 10) = false := by simpa using hc
        have H3 := Lib.hid h3
        have H4 := Lib.hid h4
        have hmn := iterPos_of HIN.out
        have HMN := Lib.hid hmn
        clear h3 h4 hmn
        go_wp2
        refine ⟨⟨pos + n, st0, HIN.out, by omega, by rw [H4.out]; have := HS.out; omega, rfl, ?_, hbeln⟩, ?_⟩
        · rw [H3.out]; exact hownn
        · rw [HMN.out, HM.out]; omega
    · have hnx : ∀ ty, (Instr.next (.pointer (some ⟨w.heap.size, 0, none⟩)) true ty).run Tryd.prog wr = .ok (.tuple #[.bool false]) wr := fun ty => Lib.run_next_end_at wr w.heap.size s pos ty hit hp
      have hpe : pos = s.size := by omega
      subst hpe
      have HM := Lib.hid hm
      have HI := Lib.hid hit
      have HS := Lib.hid hst0
      clear hm hit hst0
      by_cases hmore : st0 < s.size
      · have HX := Lib.hid (Pl.ext_cur s s.size st0 (Nat.le_refl _) HS.out)
        have HL := Lib.hid (Pl.lns_more s (by have := HS.out; omega))
        go_wp2_with (at_builtin; refine wpList_append_own _ rfl _ _ 25 rfl (w.heap.size + 1) 9 i0 (.string ⟨#[]⟩) 1 16 Tryd.underlying25 hi hz0 hz1 hz2 rfl (by decide) _ _ _ rfl (hown.alloc _) ⟨wr.heap.size, 0, none⟩ 1 1 [.string (s.extract st0 s.size)] rfl rfl ?d1 ?d2 ?d3 ?d4 ?d5 ?_)
        case d1 =>
          intro j u hj
          match j, hj with
          | 0, hj => simp at hj; subst hj; simp [Addr.add]
        case d2 => intro u hu; simp at hu; subst hu; rfl
        case d3 => unfold maxLen; omega
        case d4 => omega
        case d5 => simp; omega
        intro v' w1 hown' hgrow _
        have hb1 : Below w.heap.size w w1 := (hbel.alloc (by omega) _).grown hgrow (by simp; omega) (own_ge hown)
        rw [HX.out] at hown'
        clear hgrow hown
        go_wp2
        go_ret
        refine ⟨_, rfl, ?_, hb1⟩
        rw [HL.out]
        have := own_down hown' (Nat.le_succ _)
        simpa [str] using this
      · have HL := Lib.hid (Pl.lns_done s (by have := HS.out; omega))
        go_wp2
        go_ret
        refine ⟨_, rfl, ?_, hbel⟩
        rw [HL.out]
        exact own_down hown (Nat.le_succ _)
set_option maxHeartbeats 400000 in
theorem count_any (s : ByteArray) (w : World) (hs : s.size ≤ 140737488351232) :
    Calls Tryd.prog 22 #[.string s] w fun e w' => e = .returned (.int .i64 (Pl.lns s.data.toList).length) ∧ Below w.heap.size w w' := by
  go_enter Tryd.func22, Tryd.ntmps22
  go_wp2
  go_loopw [3] (fun n w' => ∃ pos, w' = w.iter s pos ∧ pos ≤ s.size ∧ n = .int .i64 (Pl.sk s pos).1.length) (fun _ w' => s.size - w'.iterPos w.heap.size)
  case atStart => exact ⟨0, rfl, Nat.zero_le _, rfl⟩
  case round =>
    obtain ⟨pos, rfl, hps, rfl⟩ := hrel
    have hlen := Pl.sk_len s pos hps
    by_cases hp : pos < s.size
    · obtain ⟨c, n, hd, hr⟩ := Pl.rune_step s pos hp
      have hnx : ∀ ty, (Instr.next (.pointer (some ⟨w.heap.size, 0, none⟩)) true ty).run Tryd.prog (w.iter s pos) = .ok (.tuple #[.bool true, .int .i64 pos, .int .i32 c]) (w.iter s (pos + n)) := fun ty => by rw [run_next_any w s pos ty hp, hd]
      clear hd
      go_wp2
      · have hc0 : ((c : Int) == 10) = true := by assumption
        have hc : (c : Int) = 10 := by simpa using hc0
        obtain ⟨hn, hb⟩ := Pl.sk_rune_nl s pos hp c n hr hc
        subst hn
        exact ⟨⟨pos + 1, rfl, by omega, by rw [hb]; simp⟩, by simp; omega⟩
      · have hc0 : ((c : Int) == 10) = false := by assumption
        have hc : ¬ (c : Int) = 10 := by simpa using hc0
        obtain ⟨h1, h2, h3, h4⟩ := Pl.sk_rune_no s pos hp c n hr hc
        exact ⟨⟨pos + n, rfl, by omega, by rw [h3]⟩, by simp; omega⟩
    · have hnx : ∀ ty, (Instr.next (.pointer (some ⟨w.heap.size, 0, none⟩)) true ty).run Tryd.prog (w.iter s pos) = _ := fun ty => run_next_end w s pos ty hp
      have hpe : pos = s.size := by omega
      subst hpe
      by_cases h0 : s.toList = []
      · go_wp2
        go_ret
        exact ⟨ret_int (by rw [Pl.lns_empty s h0]), (Below.refl _ _).alloc (Nat.le_refl _) _⟩
      · have h1 : 1 ≤ s.size := Pl.size_pos s h0
        have e := Pl.lns_size s (by omega)
        have E := Lib.hid e; clear e
        go_wp2
        · have h2 : (!s.toList.isEmpty) = true ∧ ((s[s.size - 1].toNat : Int) != 10) = true := by assumption
          go_ret
          refine ⟨ret_int ?_, (Below.refl _ _).alloc (Nat.le_refl _) _⟩
          rw [E.out, if_neg (by have := h2.2; simp at this; omega)]; simp
        · have h2 : (!s.toList.isEmpty) = false ∨ ((s[s.size - 1].toNat : Int) != 10) = false := by assumption
          go_ret
          refine ⟨ret_int ?_, (Below.refl _ _).alloc (Nat.le_refl _) _⟩
          have h4 : ((s[s.size - 1].toNat : Int) != 10) = false := by
            rcases h2 with h | h
            · simp [h0] at h
            · exact h
          rw [E.out, if_pos (by simp at h4; omega)]; simp
end Go.Proofs.YtceoleddijnieaaDoor
