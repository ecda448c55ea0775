/- The walk of Shift. -/
import Derived.Test.YtceoleddijnieaaDoorWalkWrite
import Derived.Test.YtceoleddijnieaaDoorWalkSplit
namespace Go.Proofs.YtceoleddijnieaaDoor
open Go.RowKit
set_option linter.unusedVariables false
set_option linter.unusedSimpArgs false

/-- The list of lines lies in a row of its own, in another block than b. -/
def Row (b g : Nat) (L : List Pl.Bs) (w : World) : Prop := g ≠ b ∧ ∃ cur : Array Value, w.heap[g]? = some (.cells cur 9 (0, 0)) ∧ ∀ (j : Nat) x, L[j]? = some x → cur[j]? = some (str x)
theorem Row.cell {b g : Nat} {L : List Pl.Bs} {w : World} (h : Row b g L w) (j : Nat) (x : Pl.Bs) (hx : L[j]? = some x) : w.cell? ⟨g, j, none⟩ = some (str x) := by
  obtain ⟨_, cur, h1, h2⟩ := h
  simp only [World.cell?, h1]
  exact h2 j x hx
theorem Row.kept {b g : Nat} {L : List Pl.Bs} {w w' : World} (h : Row b g L w) (k : Lib.OthersKept 5 (some b) w w') : Row b g L w' := by
  obtain ⟨hne, cur, h1, h2⟩ := h
  refine ⟨hne, cur, k g _ h1 (by simpa using hne) (fun c fz e => ?_), h2⟩
  injection e with _ e2 _
  exact absurd e2 (by decide)

/-- The variables of Shift: the number in block a, the builder in the block behind it, and the lines. -/
def Shifting (a g : Nat) (d : Int) (L : List Pl.Bs) (acc : Pl.Bs) (w0 w : World) : Prop :=
  w.heap[a]? = some (.cells #[.int .i64 d] 3 (0, 0)) ∧ Lib.IsBuilderF 39 5 (a + 1) (a + 1) (Lib.byteCells acc) w ∧ Below a w0 w ∧ (0 < L.length → Row (a + 1) g L w)
theorem Shifting.next {a g : Nat} {d : Int} {L : List Pl.Bs} {acc out : Pl.Bs} {w0 w w' : World} (h : Shifting a g d L acc w0 w) (k : Wrote (a + 1) out w w') : Shifting a g d L out w0 w' :=
  ⟨(k.2.1.block a (Nat.lt_succ_self a)).trans h.1, k.1, h.2.2.1.trans (k.2.1.mono (Nat.le_succ a)), fun h0 => (h.2.2.2 h0).kept k.2.2⟩

/-- The shape of a list that a call made. -/
theorem row_shape {w : World} {B b n : Nat} {v : Value} {L : List Pl.Bs} (hn : n = L.length) (hbB : b < B) (h : w.ownsRow B 9 1 v L.length (L.map str)) : ∃ a g c, v = .slice a n c ∧ (0 < n → a = some ⟨g, 0, none⟩) ∧ (0 < L.length → Row b g L w) := by
  obtain ⟨h1, h2⟩ := h
  rw [← hn] at h2
  rcases h2 with ⟨rfl, h3⟩ | ⟨g, cap, cur, rfl, hg, hh, hn2, hm, hz, ht⟩
  · exact ⟨none, 0, 0, by rw [h3], fun h => by omega, fun h => by omega⟩
  · refine ⟨_, g, cap, rfl, fun _ => rfl, fun _ => ⟨by omega, cur, hh, fun j x hx => ?_⟩⟩
    have hj := (List.getElem?_eq_some_iff.1 hx).1
    have h4 : (L.map str)[j]? = some (str x) := by rw [List.getElem?_map, hx]; rfl
    rw [← ht, List.getElem?_take, if_pos (by omega)] at h4
    simpa using h4

theorem start_of (w w1 : World) (n d : Int) (g : Nat) (L : List Pl.Bs) (hd : n = d)
    (hb : Below ((w.alloc (.cells #[.int .i64 n] 3)).alloc (.cells #[.pointer none, .slice none 0 0] 39)).heap.size ((w.alloc (.cells #[.int .i64 n] 3)).alloc (.cells #[.pointer none, .slice none 0 0] 39)) w1)
    (hr : 0 < L.length → Row (w.heap.size + 1) g L w1) : Shifting w.heap.size g d L [] w w1 := by
  subst hd
  have e1 : ((w.alloc (.cells #[.int .i64 n] 3)).alloc (.cells #[.pointer none, .slice none 0 0] 39)).heap[w.heap.size]? = some (.cells #[.int .i64 n] 3 (0, 0)) := by
    rw [Below.heap_alloc _ _ _ (by simp)]; exact heap_alloc_new _ _
  have e2 : ((w.alloc (.cells #[.int .i64 n] 3)).alloc (.cells #[.pointer none, .slice none 0 0] 39)).heap[w.heap.size + 1]? = some (.cells #[.pointer none, .slice none 0 0] 39 (0, 0)) := by
    have := heap_alloc_new (w.alloc (.cells #[.int .i64 n] 3)) (.cells #[.pointer none, .slice none 0 0] 39)
    simpa using this
  refine ⟨(hb.block _ (by simp; omega)).trans e1, ?_, ?_, hr⟩
  · exact .inl ⟨Nat.le_refl _, .slice none 0 0, (hb.block _ (by simp)).trans e2, World.ownsRowF_nil _ _ _ _, by simp [Value.ownBlock]⟩
  · exact (((Below.refl _ _).alloc (Nat.le_refl _) _).alloc (by simp) _).trans (hb.mono (by simp; omega))

theorem suffix_is (y : ByteArray) (b : Bool) (h : Pl.ends y.data.toList = b) (hs : y.size ≤ maxLen) (w : World) :
    Calls Tryd.prog 33 #[.string y, .string ⟨#[10]⟩] w fun e w' => e = .returned (.bool b) ∧ w = w' :=
  (Tryd.strings_HasSuffix y ⟨#[10]⟩ w (by unfold maxLen at hs; omega)).mono fun e w' ⟨he, hw⟩ => ⟨by rw [he]; exact ret_bool h, hw.symm⟩
theorem bstring_any (b : Nat) (acc : Pl.Bs) (w : World) (h : Lib.IsBuilderF 39 5 b b (Lib.byteCells acc) w) :
    Calls Tryd.prog 34 #[.pointer (some ⟨b, 0, none⟩)] w fun e w' => e = .returned (.string (Pl.mk acc)) ∧ Below b w w' :=
  (Tryd.Builder_String_any_k b b acc w h (Nat.le_of_lt (builder_lt h))).mono fun e w' ⟨he, _, hb, _⟩ => ⟨he, hb⟩

theorem out_len (s : ByteArray) (d : Int) (hd : d ≤ 60) (k : Nat) (L : List Pl.Bs) (hL : L = Pl.lns s.data.toList) : (Pl.outL d (L.take k)).length ≤ 61 * s.size := by
  have h1 := Pl.outL_len d hd (L.take k)
  have h2 : (L.take k).flatten.length ≤ s.size := by
    have h3 : L.flatten = (L.take k).flatten ++ (L.drop k).flatten := by rw [← List.flatten_append, List.take_append_drop]
    have h4 : L.flatten = s.data.toList := by rw [hL, Pl.lns_flat]
    have h5 := congrArg List.length (h4.symm.trans h3)
    rw [List.length_append, ← Lib.size_eq] at h5; omega
  have h6 : (L.take k).length ≤ s.size := by
    have := Pl.lns_le s.data.toList
    rw [← Lib.size_eq, ← hL] at this
    rw [List.length_take]; omega
  omega

set_option maxHeartbeats 1600000 in
theorem shift_any (s : ByteArray) (n d : Int) (w : World) (hs : s.size ≤ 1000000000) (hd : max (-60) (min n 60) = d) :
    Calls Tryd.prog 19 #[.string s, .int .i64 n] w fun e w' => e = .returned (.string (Pl.mk (Pl.sh d s.data.toList))) ∧ Below w.heap.size w w' := by
  have hd1 : -60 ≤ d := by omega
  have hd2 : d ≤ 60 := by omega
  obtain ⟨L, hL⟩ : ∃ L, L = Pl.lns s.data.toList := ⟨_, rfl⟩
  obtain ⟨m, hm⟩ : ∃ m, m = L.length := ⟨_, rfl⟩
  have hms : m ≤ s.size := by
    have := Pl.lns_le s.data.toList
    rw [← Lib.size_eq, ← hL, ← hm] at this; exact this
  have HD := Lib.hid hd
  have HL := Lib.hid hL
  have HM := Lib.hid hm
  clear hd hL hm
  go_enter Tryd.func19, Tryd.ntmps19
  go_wp2_with fail
  refine (split_any s _ (by omega)).mono ?_
  rintro e w1 ⟨v, rfl, hown, hb1⟩
  rw [← HL.out] at hown
  obtain ⟨a, g, c, rfl, hla, hrow⟩ := row_shape (b := w.heap.size + 1) HM.out (by simp) hown
  have K0 := Lib.hid (start_of w w1 _ d g L HD.out hb1 hrow)
  have HA := Lib.hid hla
  clear hown hb1 hla hrow
  go_wp2_with fail
  go_loopw [16] (fun i wr => ∃ k : Nat, k ≤ m ∧ i = .int .i64 k ∧ Shifting w.heap.size g d L (Pl.outL d (L.take k)) w wr) (fun i _ => m - (intOf i).toNat)
  case atStart => exact ⟨0, Nat.zero_le _, rfl, K0.out⟩
  case round =>
    obtain ⟨k, hk, rfl, hsh⟩ := hrel
    have hol := out_len s d hd2 k L HL.out
    have HS := Lib.hid hsh
    clear hsh
    by_cases hlt : k < m
    · have e := HA.out (by omega)
      subst e
      have hkL : k < L.length := by rw [← HM.out]; exact hlt
      have hcell := (HS.out.2.2.2 (by omega)).cell k _ (List.getElem?_eq_getElem hkL)
      unfold str at hcell
      have hxs : (Pl.mk L[k]).size ≤ s.size := by
        rw [Pl.mk_size]
        have := Pl.flatten_mem_le L L[k] (List.getElem_mem hkL)
        have h4 : L.flatten = s.data.toList := by rw [HL.out, Pl.lns_flat]
        rw [h4, ← Lib.size_eq] at this; exact this
      by_cases hk0 : k = 0
      · have hout : Pl.outL d (L.take k) ++ (Pl.mk L[k]).data.toList = Pl.outL d (L.take (k + 1)) := by
          subst hk0
          rw [Pl.mk_list, Pl.outL_one d L hkL]; rfl
        have HO := Lib.hid hout
        have hkb : ((k : Int) == 0) = true := by simp [hk0]
        clear hout hk0
        generalize Pl.mk L[k] = x at hcell hxs HO
        go_wp2_with fail
        refine (wstr_any _ _ x wr HS.out.2.1 (by omega)).mono ?_
        rintro e w2 ⟨rfl, hw2⟩
        rw [HO.out] at hw2
        have K := Lib.hid (HS.out.next hw2)
        clear hw2
        go_wp2_with fail
        exact ⟨⟨k + 1, by omega, by go_num, K.out⟩, by simp [intOf]; omega⟩
      · have hout : Pl.outL d (L.take k) ++ Pl.wr d (Pl.mk L[k]).data.toList = Pl.outL d (L.take (k + 1)) := by
          rw [Pl.mk_list, Pl.outL_snoc d L k (by omega) hkL]
        have HO := Lib.hid hout
        have hkb : ((k : Int) == 0) = false := by simp; omega
        clear hout hk0
        generalize Pl.mk L[k] = x at hcell hxs HO
        go_wp2_with fail
        refine (wline_any x d _ _ _ wr HS.out.1 hd1 hd2 (by omega) (by omega) HS.out.2.1).mono ?_
        rintro e w2 ⟨rfl, hw2⟩
        rw [HO.out] at hw2
        have K := Lib.hid (HS.out.next hw2)
        clear hw2
        go_wp2_with fail
        exact ⟨⟨k + 1, by omega, by go_num, K.out⟩, by simp [intOf]; omega⟩
    · obtain rfl : k = m := by omega
      have hout := Pl.out_lines d s.data.toList
      rw [← HL.out] at hout
      have htk : L.take k = L := by rw [HM.out, List.take_length]
      rw [htk] at HS hol
      have hsm : s.size ≤ maxLen := by unfold maxLen; omega
      by_cases he : Pl.ends s.data.toList = true
      · rw [if_pos he] at hout
        have HE := Lib.hid (suffix_is s true he hsm)
        have HO : Hid (Pl.outL d L ++ Pl.wr d (⟨#[]⟩ : ByteArray).data.toList = Pl.sh d s.data.toList) := Lib.hid hout
        clear he hout hsm htk
        go_wp2_with (first
          | (go_at_call 33; refine (HE.out _).mono ?_; rintro e w' ⟨rfl, rfl⟩))
        refine (wline_any ⟨#[]⟩ d _ _ _ wr HS.out.1 hd1 hd2 (Nat.zero_le _) (by omega) HS.out.2.1).mono ?_
        rintro e w2 ⟨rfl, hw2⟩
        rw [HO.out] at hw2
        have K := Lib.hid (HS.out.next hw2)
        clear hw2
        go_wp2_with fail
        refine (bstring_any _ _ w2 K.out.2.1).mono ?_
        rintro e w3 ⟨rfl, hb3⟩
        go_wp2_with fail
        go_ret
        exact ⟨rfl, K.out.2.2.1.trans (hb3.mono (Nat.le_succ _))⟩
      · rw [if_neg he, List.append_nil] at hout
        have HE := Lib.hid (suffix_is s false (by simpa using he) hsm)
        have HO := Lib.hid hout
        clear he hout hsm htk
        go_wp2_with (first
          | (go_at_call 33; refine (HE.out _).mono ?_; rintro e w' ⟨rfl, rfl⟩))
        refine (bstring_any _ _ wr HS.out.2.1).mono ?_
        rintro e w3 ⟨rfl, hb3⟩
        go_wp2_with fail
        go_ret
        exact ⟨ret_str (by rw [HO.out]), HS.out.2.2.1.trans (hb3.mono (Nat.le_succ _))⟩
end Go.Proofs.YtceoleddijnieaaDoor
