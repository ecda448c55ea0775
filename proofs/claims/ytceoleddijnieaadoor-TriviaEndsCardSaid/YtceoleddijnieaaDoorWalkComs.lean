/- The walks of scan with the step of Comments, and of Comments. -/
import Derived.Test.YtceoleddijnieaaDoorWalkEnd
import Derived.Test.YtceoleddijnieaaDoorWalkList
import Derived.Deep.RegionLaw
import Derived.Deep.AppendLies
namespace Go.Proofs.YtceoleddijnieaaDoor
open Go.RowKit
set_option linter.unusedVariables false
set_option linter.unusedSimpArgs false

/-- The two variables of Comments: the string, in block b, and the list so far, in the block behind it. -/
def HasList (b : Nat) (s : ByteArray) (v : Value) (l : List Pl.Bs) (w : World) : Prop :=
  w.heap[b]? = some (.cells #[.string s] 9 (0, 0)) ∧ w.heap[b + 1]? = some (.cells #[v] 25 (0, 0)) ∧ w.ownsRow (b + 2) 9 1 v l.length (l.map str)

theorem own_from {w : World} {B : Nat} {e : TypeId} {size : Nat} {v : Value} {n : Nat} {xs : List Value} (h : w.ownsRow B e size v n xs) : ∀ k, v.ownBlock = some k → B ≤ k := by
  intro k hk
  rcases h.2 with ⟨rfl, _⟩ | ⟨g, cap, cur, rfl, hg, _⟩
  · simp [Value.ownBlock] at hk
  · simp [Value.ownBlock] at hk; omega

theorem list_next {b : Nat} {s : ByteArray} {v v' : Value} {l : List Pl.Bs} {x : Pl.Bs} {w W w1 : World} (h : HasList b s v l w) (hW : Below w.heap.size w W) (hgrow : W.grownBy w1 v.ownBlock)
    (hown : w1.ownsRow (b + 2) 9 1 v' (l.length + 1) (l.map str ++ [str x])) : HasList b s v' (l ++ [x]) (w1.setCell ⟨b + 1, 0, none⟩ v') ∧ Below b w (w1.setCell ⟨b + 1, 0, none⟩ v') := by
  obtain ⟨h1, h2, h3⟩ := h
  have f3 := own_from h3
  have f4 := own_from hown
  have hb := lt_of_block h2
  have hz := hW.size
  have e1 : w1.heap[b]? = some (.cells #[.string s] 9 (0, 0)) := by
    rw [hgrow.block b (by omega) (fun e => by have := f3 b e.symm; omega), hW.block b (by omega)]; exact h1
  have e2 : w1.heap[b + 1]? = some (.cells #[v] 25 (0, 0)) := by
    rw [hgrow.block (b + 1) (by omega) (fun e => by have := f3 (b + 1) e.symm; omega), hW.block (b + 1) (by omega)]; exact h2
  refine ⟨⟨?_, one_setCell e2, ?_⟩, ?_⟩
  · rw [Below.heap_setCell _ _ _ _ (by simp)]; exact e1
  · have := ownsRow_setCell_other hown (a := ⟨b + 1, 0, none⟩) (fun e => by have := f4 _ e; simp at this) v'
    simpa using this
  · exact ((hW.mono (by omega)).grown hgrow (by omega) (fun k hk => by have := f3 k hk; omega)).setCell (by simp) _

theorem ext_take (s : ByteArray) (a u : Nat) : s.extract a u = Pl.mk ((rest s a).take (u - a)) := by
  apply Pl.list_ext
  rw [Pl.mk_list, Pl.extract_list]; unfold rest
  rw [List.drop_take]

set_option maxHeartbeats 400000 in
theorem comstep_no (s : ByteArray) (a b : Nat) (n : Int) (v : Value) (l : List Pl.Bs) (w : World) (hs : s.size ≤ 1099511627776) (ha : a < s.size) (hc : s[a] ≠ 47) (h : HasList b s v l w) :
    Calls Tryd.prog 26 #[.int .i64 a, .int .i64 n, .pointer (some ⟨b, 0, none⟩), .pointer (some ⟨b + 1, 0, none⟩)] w fun e w' => e = .returned (.tuple #[]) ∧ w' = w := by
  have hcell := cell_of_one h.1
  have hb : ((s[a].toNat : Int) == 47) = false := by
    have : s[a].toNat ≠ 47 := fun e => hc (UInt8.toNat_inj.1 e)
    simp; omega
  clear h hc
  go_enter Tryd.func26, Tryd.ntmps26
  go_wp2_with fail
  go_end0
  exact ⟨rfl, rfl⟩

def Adds (b : Nat) (s : ByteArray) (l : List Pl.Bs) (w : World) (e : Ending) (w' : World) : Prop := e = .returned (.tuple #[]) ∧ (∃ v, HasList b s v l w') ∧ Below b w w'

set_option maxHeartbeats 1600000 in
set_option maxRecDepth 100000 in
theorem comstep_yes (s : ByteArray) (a u b : Nat) (n : Int) (v : Value) (l : List Pl.Bs) (w : World) (hs : s.size ≤ 1099511627776) (ha : a < s.size) (hc : s[a] = 47) (hau : a ≤ u) (hu : u < s.size) (hn : n = (u : Int) + 1) (hl : l.length ≤ 1099511627776) (h : HasList b s v l w) :
    Calls Tryd.prog 26 #[.int .i64 a, .int .i64 n, .pointer (some ⟨b, 0, none⟩), .pointer (some ⟨b + 1, 0, none⟩)] w (Adds b s (l ++ [(rest s a).take (u - a)]) w) := by
  obtain ⟨i0, hi, hz0, hz1, hz2⟩ := info_parts Tryd.infoS
  obtain ⟨k, hk⟩ : ∃ k, k = l.length := ⟨_, rfl⟩
  have h3 := h.2.2
  rw [← hk] at h3
  have f3 := own_from h3
  have hcs := cell_of_one h.1
  have hcl := cell_of_one h.2.1
  have hfl := free_of_one h.2.1
  have hbl := lt_of_block h.2.1
  have hfl2 : (w.alloc (.cells #[.string (s.extract a u)] 9)).frozen? ⟨b + 1, 0, none⟩ = false := by rw [World.frozen?_alloc_past _ _ _ (by exact hbl)]; exact hfl
  have hcl2 : (w.alloc (.cells #[.string (s.extract a u)] 9)).cell? ⟨b + 1, 0, none⟩ = some v := by rw [World.cell?_alloc_past _ _ _ (by exact hbl)]; exact hcl
  have hb : ((s[a].toNat : Int) == 47) = true := by simp [hc]
  have hw : IntKind.i64.wrap (n - 1) = (u : Int) := by rw [IntWalk.i64_in _ (by omega)]; omega
  have hx : Value.string (s.extract a u) = str ((rest s a).take (u - a)) := by unfold str; rw [ext_take]
  have H := Lib.hid h
  have HX := Lib.hid hx
  have HK := Lib.hid hk
  have F3 := Lib.hid f3
  have H3 := Lib.hid h3
  have nb : some b ≠ v.ownBlock := fun e => by have := f3 b e.symm; omega
  have nb1 : some (b + 1) ≠ v.ownBlock := fun e => by have := f3 (b + 1) e.symm; omega
  have NB := Lib.hid nb
  have NB1 := Lib.hid nb1
  have hk2 : k ≤ 1099511627776 := by omega
  have q1 : (0 : Int) ≤ (a : Int) := by omega
  have q2 : (a : Int) ≤ (u : Int) := by omega
  have q3 : (u : Int) ≤ (s.size : Int) := by omega
  clear h hx hk hn hc f3 h3 nb nb1
  go_enter Tryd.func26, Tryd.ntmps26
  go_wp2_with fail
  go_region_law ((refine step_append_lies _ (by rfl) _ _ _ (by rfl) (b + 2) 9 i0 _ 1 16 Tryd.underlying25 hi hz0 hz1 hz2 rfl (by omega) v k (l.map str) (by rfl) ((H3.out.alloc _).drew) ⟨w.heap.size, 0, none⟩ 1 1 [.string (s.extract a u)] (by rfl) (by rfl) (World.news_of_block (cs := #[.string (s.extract a u)]) (t := 9) (fr := (0, 0)) (heap_alloc_new w _)) (by simp [Value.oneCell']) (by omega) (by unfold maxLen; omega) (by omega) (by simp; omega) (w.heap.size + 1) (by simp) ?_; intro gg cap w1 hown1 hgrow hat hlt; have e1 : w1.cell? ⟨b + 1, 0, none⟩ = some v := (hgrow.cell_far _ (by simp; omega) NB1.out).trans hcl2; have e2 : w1.frozen? ⟨b + 1, 0, none⟩ = false := (hgrow.frozen_far _ (by simp; omega) NB1.out).trans hfl2))
  all_goals go_wp2_with fail
  all_goals go_end0
  all_goals
    have hk := HK.out
    subst hk
    have hh := list_next (x := (rest s a).take (u - a)) H.out (((Below.refl _ _).alloc (Nat.le_refl _) (.cells #[.string (s.extract a u)] 9)).drew) hgrow (by have := hown1; rw [HX.out] at this; exact this)
    exact ⟨rfl, ⟨_, hh.1⟩, hh.2⟩

theorem one_yes (s : ByteArray) (k : Nat) (hk : k < s.size) (hc : s[k] = 47) : Pl.one (rest s k) = [(rest s k).take (Pl.hop (rest s k) - 1)] := by
  unfold Pl.one
  rw [if_pos (by rw [rest_cons s k hk, hc]; rfl)]
theorem one_no (s : ByteArray) (k : Nat) (hk : k < s.size) (hc : s[k] ≠ 47) : Pl.one (rest s k) = [] := by
  unfold Pl.one
  rw [if_neg (by rw [rest_cons s k hk]; simpa using hc)]

set_option maxHeartbeats 1600000 in
theorem scan_coms (s : ByteArray) (b : Nat) (w : World) (L : List Pl.Bs) (hL : L = Pl.coms s.data.toList) (hs : s.size ≤ 1099511627776) (hb : HasList b s (.slice none 0 0) [] w) :
    Calls Tryd.prog 23 #[.string s, .int .i64 0, .func (.func 26) #[] #[.pointer (some ⟨b, 0, none⟩), .pointer (some ⟨b + 1, 0, none⟩)]] w (Adds b s L w) := by
  have hs2 : s.size ≤ maxLen := by unfold maxLen; omega
  have h0 : Pl.coms (rest s 0) = L := by rw [hL]; unfold rest; rw [List.drop_zero]
  have hLl : L.length ≤ 1099511627776 := by
    rw [hL]; have := Pl.coms_le s.data.toList; rw [← Lib.size_eq] at this; omega
  have H0 := Lib.hid h0
  have HB := Lib.hid hb
  have HS := Lib.hid hs2
  clear hb hs2 h0 hL
  go_enter Tryd.func23, Tryd.ntmps23
  go_wp2_with (go_at_call 36; refine (skip_at s 0 _ ((0 : Nat) + (Pl.hop (rest s 0) : Nat) : Int) _ HS.out (Nat.zero_le _) rfl rfl).mono ?_; rintro e w' ⟨rfl, rfl⟩)
  go_loopw [1, 6] (fun u v wr => ∃ k : Nat, ∃ x l, k ≤ s.size ∧ u = .int .i64 k ∧ v = .int .i64 ((k : Int) + (Pl.hop (rest s k) : Nat)) ∧ l ++ Pl.coms (rest s k) = L ∧ HasList b s x l wr ∧ Below b w wr) (fun u _ _ => s.size - (intOf u).toNat)
  case atStart => exact ⟨0, _, [], Nat.zero_le _, rfl, by go_num, H0.out, HB.out, Below.refl _ _⟩
  case round =>
    obtain ⟨k, x, l, hk, rfl, rfl, hsum, hcell, hbel⟩ := hrel
    have hle := Pl.hop_le (rest s k)
    rw [rest_len] at hle
    obtain ⟨h, hh⟩ : ∃ h, h = Pl.hop (rest s k) := ⟨_, rfl⟩
    rw [← hh] at hle ⊢
    have hll : l.length ≤ 1099511627776 := by have := congrArg List.length hsum; rw [List.length_append] at this; omega
    have HC := Lib.hid hcell
    have HL := Lib.hid hbel
    by_cases hz : h = 0
    · have e : l = L := by rw [← hsum, Pl.coms_stop _ (by rw [← hh]; exact hz), List.append_nil]
      have HE := Lib.hid e
      clear hsum hcell hbel hh e
      subst hz
      go_wp2_with fail
      go_end0
      exact ⟨rfl, ⟨_, by rw [← HE.out]; exact HC.out⟩, HL.out⟩
    · have hlt : k < s.size := by omega
      have hco : Pl.coms (rest s k) = Pl.one (rest s k) ++ Pl.coms (rest s (k + h)) := by
        have := Pl.coms_go (rest s k) (by rw [← hh]; exact hz)
        rw [rest_rest, ← hh] at this
        exact this
      have hpos : 1 ≤ h := by omega
      rw [hco] at hsum
      by_cases hc : s[k] = 47
      · rw [one_yes s k hlt hc, ← hh, ← List.append_assoc] at hsum
        have HST := Lib.hid (comstep_yes s k (k + h - 1) b ((k : Int) + (h : Int)) x l wr hs hlt hc (by omega) (by omega) (by omega) hll hcell)
        have ek : k + h - 1 - k = h - 1 := by omega
        rw [ek] at HST
        have HS2 := Lib.hid hsum
        clear hsum hcell hbel hh hz hco hc ek
        go_wp2_with (first
          | (go_at_call 26; refine HST.out.mono ?_; rintro e w' ⟨rfl, ⟨x', hx'⟩, hb'⟩; have HX := Lib.hid hx'; have HBB := Lib.hid hb'; clear hx' hb')
          | (go_at_call 36; refine (skip_at s (k + h) _ (((k : Int) + (h : Int)) + (Pl.hop (rest s (k + h)) : Nat)) _ HS.out (by omega) (by omega) (by omega)).mono ?_; rintro e w' ⟨rfl, rfl⟩))
        go_roundw
        case rel => exact ⟨k + h, _, _, by omega, by go_num, by go_num, HS2.out, HX.out, HL.out.trans HBB.out⟩
        case measure => simp [intOf]; omega
      · rw [one_no s k hlt hc, List.nil_append] at hsum
        have HST := Lib.hid (comstep_no s k b ((k : Int) + (h : Int)) x l wr hs hlt hc hcell)
        have HS2 := Lib.hid hsum
        clear hsum hcell hbel hh hz hco hc
        go_wp2_with (first
          | (go_at_call 26; refine HST.out.mono ?_; rintro e w' ⟨rfl, rfl⟩)
          | (go_at_call 36; refine (skip_at s (k + h) _ (((k : Int) + (h : Int)) + (Pl.hop (rest s (k + h)) : Nat)) _ HS.out (by omega) (by omega) (by omega)).mono ?_; rintro e w' ⟨rfl, rfl⟩))
        go_roundw
        case rel => exact ⟨k + h, _, _, by omega, by go_num, by go_num, HS2.out, HC.out, HL.out⟩
        case measure => simp [intOf]; omega

/-- A list of strings of the call's own. -/
def Gives (L : List Pl.Bs) (w : World) (e : Ending) (w' : World) : Prop := ∃ v, e = .returned v ∧ Reads w' v L ∧ Below w.heap.size w w'

set_option maxHeartbeats 800000 in
theorem coms_any (s : ByteArray) (w : World) (L : List Pl.Bs) (hL : L = Pl.coms s.data.toList) (hs : s.size ≤ 1099511627776) :
    Calls Tryd.prog 14 #[.string s] w (Gives L w) := by
  have e1 : ((w.alloc (.cells #[.string s] 9)).alloc (.cells #[.slice none 0 0] 25)).heap[w.heap.size]? = some (.cells #[.string s] 9 (0, 0)) := by
    rw [Below.heap_alloc _ _ _ (by simp)]; exact new_one _ _ _
  have e2 : ((w.alloc (.cells #[.string s] 9)).alloc (.cells #[.slice none 0 0] 25)).heap[w.heap.size + 1]? = some (.cells #[.slice none 0 0] 25 (0, 0)) := by
    have := new_one (w.alloc (.cells #[.string s] 9)) (.slice none 0 0) 25
    simpa using this
  have HC := Lib.hid (scan_coms s w.heap.size _ L hL hs ⟨e1, e2, World.ownsRow_nil _ _ _ _⟩)
  clear e1 e2 hL
  go_enter Tryd.func14, Tryd.ntmps14
  go_wp2_with (go_at_call 23; refine HC.out.mono ?_; rintro e w' ⟨rfl, ⟨x, hx⟩, hb⟩; have hcl := cell_of_one hx.2.1; have HX := Lib.hid hx; clear hx)
  go_ret
  exact ⟨_, rfl, reads_own HX.out.2.2, (((Below.refl _ _).alloc (Nat.le_refl _) _).alloc (by simp) _).trans hb⟩
end Go.Proofs.YtceoleddijnieaaDoor
