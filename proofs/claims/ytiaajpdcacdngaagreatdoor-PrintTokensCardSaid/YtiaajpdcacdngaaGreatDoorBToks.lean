/- Rows of tokens in memory. -/
import Derived.Test.YtiaajpdcacdngaaGreatDoorBBytes
import Derived.Test.YtiaajpdcacdngaaGreatDoorBClass
import Derived.Test.YtiaajpdcacdngaaGreatDoorBFirst
import Derived.Deep.QuietTactic
import Derived.BigQuiet
import Derived.IntWalk
import Derived.OwnWalk
namespace Go.Proofs.YtiaajpdcacdngaaGreatDoor.Tk
open Go.RowKit
set_option linter.unusedVariables false
set_option linter.unusedSimpArgs false

/-- A token as it lies in memory. -/
structure T4 where
  k : Int
  lead : ByteArray
  text : ByteArray
  pos : Int
def t4 (t : Pl.Tok) : T4 := ⟨t.k, Pl.mk t.lead, Pl.mk t.text, t.pos⟩
def cells4 (t : T4) : List Value := [.int .i64 t.k, .string t.lead, .string t.text, .int .i64 t.pos]
def row4 (L : List T4) : List Value := L.flatMap cells4
theorem row4_snoc (L : List T4) (t : T4) : row4 (L ++ [t]) = row4 L ++ cells4 t := by unfold row4; simp
theorem row4_len (L : List T4) : (row4 L).length = L.length * 4 := by
  induction L with
  | nil => rfl
  | cons t L ih => unfold row4 at ih ⊢; rw [List.flatMap_cons, List.length_append, ih, List.length_cons]; show 4 + _ = _; omega
theorem row4_get (L : List T4) (j : Nat) (t : T4) (h : L[j]? = some t) (f : Nat) (hf : f < 4) : (row4 L)[4 * j + f]? = (cells4 t)[f]? := by
  induction L generalizing j with
  | nil => simp at h
  | cons a L ih =>
    have e : row4 (a :: L) = cells4 a ++ row4 L := by unfold row4; rw [List.flatMap_cons]
    rw [e]
    match j, h with
    | 0, h =>
      obtain rfl : a = t := by simpa using h
      rw [List.getElem?_append_left (by show 4 * 0 + f < 4; omega)]
      congr 1; omega
    | j + 1, h =>
      rw [List.getElem?_append_right (by show 4 ≤ _; omega)]
      have := ih j (by simpa using h)
      rw [← this]
      congr 1; show 4 * (j + 1) + f - 4 = _; omega
theorem Tryz.infoT : (Tryz.prog.info? 58).map (fun i => (i.zero, i.size, i.bytes)) = some (some (.agg #[.int .i64 0, .string ⟨#[]⟩, .string ⟨#[]⟩, .int .i64 0]), 4, 48) := by kernel_rfl

/-- The four cells of a token, from an address on. -/
def At4 (w : World) (b o : Nat) (t : T4) : Prop := w.cell? ⟨b, o, none⟩ = some (.int .i64 t.k) ∧ w.cell? ⟨b, o + 1, none⟩ = some (.string t.lead) ∧ w.cell? ⟨b, o + 2, none⟩ = some (.string t.text) ∧ w.cell? ⟨b, o + 3, none⟩ = some (.int .i64 t.pos)
def Toks (w : World) (b o : Nat) (L : List T4) : Prop := ∀ (j : Nat) t, L[j]? = some t → At4 w b (o + 4 * j) t
theorem Toks.later {w w' : World} {b o : Nat} {L : List T4} (h : Toks w b o L) (hl : b < w.heap.size) (hb : Below w.heap.size w w') : Toks w' b o L := by
  intro j t hj
  obtain ⟨h1, h2, h3, h4⟩ := h j t hj
  exact ⟨(hb.cell (p := ⟨b, _, none⟩) hl).trans h1, (hb.cell (p := ⟨b, _, none⟩) hl).trans h2, (hb.cell (p := ⟨b, _, none⟩) hl).trans h3, (hb.cell (p := ⟨b, _, none⟩) hl).trans h4⟩
/-- A slice that reads as a list of tokens, wherever it lies. -/
def Reads (w : World) (v : Value) (L : List T4) : Prop :=
  (L = [] ∧ ∃ a c, v = .slice a 0 c ∧ (a = none → c = 0)) ∨ ∃ b o c, v = .slice (some ⟨b, o, none⟩) L.length c ∧ b < w.heap.size ∧ Toks w b o L ∧ L.length ≤ maxLen
theorem Reads.later {w w' : World} {v : Value} {L : List T4} (h : Reads w v L) (hb : Below w.heap.size w w') : Reads w' v L := by
  rcases h with h | ⟨b, o, c, h1, h2, h3, h4⟩
  · exact .inl h
  · exact .inr ⟨b, o, c, h1, Nat.lt_of_lt_of_le h2 hb.size, h3.later h2 hb, h4⟩
theorem reads_nil (w : World) : Reads w (.slice none 0 0) [] := .inl ⟨rfl, _, _, rfl, fun _ => rfl⟩
theorem reads_len {w : World} {v : Value} {L : List T4} (h : Reads w v L) : ∃ a c, v = .slice a L.length c := by
  rcases h with ⟨rfl, a, c, rfl, _⟩ | ⟨b, o, c, rfl, _⟩
  · exact ⟨a, c, rfl⟩
  · exact ⟨_, c, rfl⟩
/-- A row of tokens of the call's own. -/
def Own (w : World) (B : Nat) (v : Value) (L : List T4) : Prop := w.ownsRow B 58 4 v L.length (row4 L)
theorem reads_own {w : World} {B : Nat} {v : Value} {L : List T4} (h : Own w B v L) : Reads w v L := by
  obtain ⟨h1, h2⟩ := h
  rcases h2 with ⟨rfl, h3⟩ | ⟨g, cap, cur, rfl, hg, hh, hn, hm, hz, ht⟩
  · exact .inl ⟨List.eq_nil_of_length_eq_zero h3, _, _, rfl, fun _ => rfl⟩
  · refine .inr ⟨g, 0, cap, rfl, lt_of_block hh, fun j t hj => ?_, by omega⟩
    have hjl := (List.getElem?_eq_some_iff.1 hj).1
    have one : ∀ f, f < 4 → w.cell? ⟨g, 0 + 4 * j + f, none⟩ = (cells4 t)[f]? := by
      intro f hf
      have h4 := row4_get L j t hj f hf
      rw [← ht, List.getElem?_take, if_pos (by omega)] at h4
      rw [cell_of_row w g _ cur _ _ hh, ← h4, Nat.zero_add]
      simp
    exact ⟨one 0 (by decide), one 1 (by decide), one 2 (by decide), one 3 (by decide)⟩
theorem own_ge {w : World} {B : Nat} {v : Value} {L : List T4} (h : Own w B v L) : ∀ k, v.ownBlock = some k → B ≤ k := by
  intro k hk
  rcases h.2 with ⟨rfl, _⟩ | ⟨g, cap, cur, rfl, hg, _⟩
  · simp [Value.ownBlock] at hk
  · simp [Value.ownBlock] at hk; omega
theorem own_later {w w' : World} {B : Nat} {v : Value} {L : List T4} (h : Own w B v L) (hb : Below w.heap.size w w') : Own w' B v L := by
  refine ⟨h.1, ?_⟩
  rcases h.2 with h2 | ⟨g, cap, cur, h1, h2, h3, h4⟩
  · exact .inl h2
  · exact .inr ⟨g, cap, cur, h1, h2, by rw [hb.block g (lt_of_block h3)]; exact h3, h4⟩
theorem own_nil (w : World) (B : Nat) : Own w B (.slice none 0 0) [] := World.ownsRow_nil _ _ _ _
theorem own_snoc {w : World} {B n : Nat} {v : Value} {L : List T4} {t : T4} (h : w.ownsRow B 58 4 v (n + 1) (row4 L ++ cells4 t)) (hn : n = L.length) : Own w B v (L ++ [t]) := by
  subst hn
  unfold Own
  rw [row4_snoc, List.length_append]; exact h
theorem news4 (k pos : Int) (lead text : ByteArray) (w : World) : ∀ (j : Nat) u, ([.int .i64 k, .string lead, .string text, .int .i64 pos] : List Value)[j]? = some u → (w.alloc (.cells #[.int .i64 k, .string lead, .string text, .int .i64 pos] 58)).cell? ((⟨w.heap.size, 0, none⟩ : Addr).add j) = some u := by
  intro j u hj
  match j, hj with
  | 0, hj => simp at hj; subst hj; simp [Addr.add]
  | 1, hj => simp at hj; subst hj; simp [Addr.add]
  | 2, hj => simp at hj; subst hj; simp [Addr.add]
  | 3, hj => simp at hj; subst hj; simp [Addr.add]
theorem news4_cell (k pos : Int) (lead text : ByteArray) : ∀ u ∈ ([.int .i64 k, .string lead, .string text, .int .i64 pos] : List Value), u.oneCell' = true := by
  intro u hu; simp at hu; rcases hu with rfl | rfl | rfl | rfl <;> rfl
end Go.Proofs.YtiaajpdcacdngaaGreatDoor.Tk

namespace Go.Proofs.YtiaajpdcacdngaaGreatDoor.Tk
open Go.RowKit
set_option linter.unusedVariables false
set_option linter.unusedSimpArgs false

theorem rest_all (s : ByteArray) : rest s 0 = s.data.toList := by unfold rest; rw [List.drop_zero]
/-- What both functions Tokens answer: the tokens, or the offset at which none begins. -/
def Lexed (s : ByteArray) (w : World) (e : Ending) (w' : World) : Prop :=
  (∀ off, (Pl.tk s.data.toList 0).2 = some off → e = .returned (.tuple #[.slice none 0 0, .int .i64 1, .int .i64 (off : Nat)])) ∧
  ((Pl.tk s.data.toList 0).2 = none → ∃ v, e = .returned (.tuple #[v, .int .i64 0, .int .i64 0]) ∧ Reads w' v ((Pl.tk s.data.toList 0).1.map t4)) ∧ Below w.heap.size w w'
theorem end_at (s : ByteArray) (k : Nat) (m : Int) (hm : m = (k : Int) + (Pl.eo (rest s k) : Nat)) (w : World) (hs : s.size ≤ maxLen) (hk : k ≤ s.size) :
    Calls Tryz.prog 65 #[.string s, .int .i64 k] w fun e w' => e = .returned (.int .i64 m) ∧ Below w.heap.size w w' :=
  (end_in s k w hs hk).mono fun e w' ⟨he, hb⟩ => ⟨by rw [he, hm]; exact ret_int (by omega), hb⟩

theorem own_tok {w : World} {B n : Nat} {v : Value} {A : List Pl.Tok} {t : Pl.Tok} {k p : Int} {x y : ByteArray} (h : w.ownsRow B 58 4 v n (row4 (A.map t4) ++ [.int .i64 k, .string x, .string y, .int .i64 p])) (hn : n = A.length + 1) (hk : (t.k : Int) = k) (hp : (t.pos : Int) = p) (hx : Pl.mk t.lead = x) (hy : Pl.mk t.text = y) : Own w B v ((A ++ [t]).map t4) := by
  subst hn hk hp hx hy
  rw [List.map_append]
  exact own_snoc (t := t4 t) (L := A.map t4) h (by rw [List.length_map])

set_option maxRecDepth 100000 in
set_option maxHeartbeats 3200000 in
theorem toks_any (s : ByteArray) (w : World) (hs : s.size ≤ 65536) (hE : Errs w) :
    Calls Tryz.prog 41 #[.string s] w (Lexed s w) := by
  obtain ⟨i0, hi, hz0, hz1, hz2⟩ := info_parts Tryz.infoT
  have hs2 : s.size ≤ maxLen := by unfold maxLen; omega
  have HS := Lib.hid hs2
  have HE := Lib.hid hE
  have hN := Pl.tk_len s.data.toList 0
  rw [← Lib.size_eq] at hN
  obtain ⟨F, hF⟩ : ∃ F, F = Pl.tk s.data.toList 0 := ⟨_, rfl⟩
  have h0 : F = ([] ++ (Pl.tk (rest s 0) 0).1, (Pl.tk (rest s 0) 0).2) := by rw [hF, rest_all]; rfl
  unfold Lexed
  rw [← hF] at hN ⊢
  have H0 := Lib.hid h0
  have HN := Lib.hid hN
  clear hs2 hE hF h0 hN
  go_enter Tryz.func41, Tryz.ntmps41
  go_wp2_with fail
  go_loopw [5, 6] (fun l i wr => ∃ k : Nat, ∃ A, k ≤ s.size ∧ i = .int .i64 k ∧ F = (A ++ (Pl.tk (rest s k) k).1, (Pl.tk (rest s k) k).2) ∧ Own wr w.heap.size l (A.map t4) ∧ Below w.heap.size w wr) (fun _ i _ => s.size - (intOf i).toNat)
  case atStart => exact ⟨0, [], Nat.zero_le _, rfl, H0.out, own_nil _ _, Below.refl _ _⟩
  case round =>
    obtain ⟨k, A, hk, rfl, hsum, hown, hbel⟩ := hrel
    have hAl : A.length ≤ s.size + 1 := by
      have := HN.out
      rw [hsum] at this
      simp only [List.length_append] at this
      omega
    have hel := Pl.eo_le (rest s k)
    rw [rest_len] at hel
    obtain ⟨q, hh⟩ : ∃ q, q = Pl.eo (rest s k) := ⟨_, rfl⟩
    rw [← hh] at hel
    have HEND := Lib.hid (fun w => end_at s k ((k : Int) + (q : Nat)) (by rw [hh]) w HS.out hk)
    have hAm : (A.map t4).length ≤ s.size + 1 := by rw [List.length_map]; exact hAl
    have HW := Lib.hid hown
    have HB := Lib.hid hbel
    have hwz := hbel.size
    have hgo := own_ge hown
    have HG := Lib.hid hgo
    by_cases hfin : k + q = s.size
    · have hT := Pl.tk_end (rest s k) k (by rw [rest_len, ← hh]; omega)
      rw [hT, ← hh] at hsum
      have hx : Pl.mk (rest s k) = s.extract k s.size := by
        apply Pl.list_ext
        rw [Pl.mk_list, rest_ext]
      have HSUM := Lib.hid hsum
      have HX := Lib.hid hx
      clear hsum hT hown hbel hh hx hgo
      go_wp2_with (first | (go_at_call 65; refine (HEND.out _).mono ?_; rintro e w1 ⟨rfl, hb1⟩; have HW1 := Lib.hid (own_later HW.out hb1); have hz1w := hb1.size) | (at_builtin; refine wpList_append_own _ rfl _ _ 54 rfl w.heap.size 58 i0 (.agg #[.int .i64 0, .string ⟨#[]⟩, .string ⟨#[]⟩, .int .i64 0]) 4 48 Tryz.underlying54 hi hz0 hz1 hz2 rfl (by decide) _ _ _ rfl (World.ownsRow.alloc HW1.out _) ⟨w1.heap.size, 0, none⟩ 1 1 [.int .i64 4, .string (s.extract k s.size), .string ⟨#[]⟩, .int .i64 ((k : Int) + (q : Int))] rfl rfl (news4 _ _ _ _ _) (news4_cell _ _ _ _) (by unfold maxLen; omega) (by omega) (by simp; omega) ?_))
      intro v2 w2 hown2 hg2 _
      have hb2 : Below w.heap.size w w2 := ((HB.out.trans (hb1.mono hwz)).alloc (by omega) _).grown hg2 (by simp; omega) HG.out
      have HO := Lib.hid hown2
      clear hown2 hg2
      go_wp2_with fail
      go_ret3
      have hS := HSUM.out
      subst hS
      refine ⟨fun off h => (by cases h), fun _ => ⟨v2, rfl, ?_⟩, hb2⟩
      refine reads_own (B := w.heap.size) ?_
      exact own_tok HO.out (by simp) rfl (by simp) HX.out rfl
    · have hlt : k + q < s.size := by omega
      have hb0 : ((k : Int) + (q : Int) == (s.size : Int)) = false := beq_eq_false_iff_ne.2 (by omega)
      obtain ⟨kd, n, hf⟩ : ∃ kd n, Pl.fst (rest s (k + q)) = (kd, n) := ⟨_, _, rfl⟩
      have hd : (rest s k).drop q = rest s (k + q) := rest_rest s k q
      have hy : (s.extract (k + q) s.size).size ≤ 1099511627776 := by rw [Lib.size_eq, rest_ext, rest_len]; omega
      have HF := Lib.hid (fun w hE => first_is (s.extract (k + q) s.size) kd n (by rw [rest_ext]; exact hf) w hy hE)
      by_cases hk0 : kd = 0
      · subst hk0
        have hT := Pl.tk_bad (rest s k) k (by rw [rest_len, ← hh]; omega) (by rw [← hh, hd, hf])
        rw [hT, ← hh] at hsum
        have HSUM := Lib.hid hsum
        clear hsum hT hown hbel hh hgo hf hd hy
        go_wp2_with (first | (go_at_call 65; refine (HEND.out _).mono ?_; rintro e w1 ⟨rfl, hb1⟩; have hb01 := HB.out.trans (hb1.mono hwz); have HE1 := Lib.hid (HE.out.later hb01)) | (go_at_call 66; refine (HF.out _ HE1.out).mono ?_; rintro e w2 ⟨rfl, hb2⟩; have hb02 := hb01.trans (hb2.mono hb01.size)))
        go_ret3
        have hS := HSUM.out
        subst hS
        refine ⟨fun off h => ?_, fun h => (by cases h), hb02⟩
        obtain rfl : k + q = off := by simpa using h
        rfl
      · have hp := Pl.fst_pos (rest s (k + q)) (by rw [hf]; exact hk0)
        have hq2 := Pl.fst_le (rest s (k + q))
        rw [hf, rest_len] at hq2
        rw [hf] at hp
        simp only at hp hq2
        have hT := Pl.tk_go (rest s k) k (by rw [rest_len, ← hh]; omega) kd n (by rw [← hh, hd]; exact hf) hk0
        rw [← hh, hd, rest_rest s k (q + n)] at hT
        have hnum : k + (q + n) = k + q + n := by omega
        rw [hnum] at hT
        rw [hT, List.append_cons] at hsum
        have hx : Pl.mk ((rest s k).take q) = s.extract k (k + q) := by
          apply Pl.list_ext
          rw [Pl.mk_list, Pl.extract_list]; unfold rest; rw [List.drop_take, Nat.add_sub_cancel_left]
        have hx2 : Pl.mk ((rest s (k + q)).take n) = s.extract (k + q) (k + q + n) := by
          apply Pl.list_ext
          rw [Pl.mk_list, Pl.extract_list]; unfold rest; rw [List.drop_take, Nat.add_sub_cancel_left]
        have HSUM := Lib.hid hsum
        have HX := Lib.hid hx
        have HX2 := Lib.hid hx2
        have hk0b : ((kd : Int) == 0) = false := beq_eq_false_iff_ne.2 (by omega)
        clear hsum hT hown hbel hh hgo hf hd hy hx hx2 hk0
        go_wp2_with (first | (go_at_call 65; refine (HEND.out _).mono ?_; rintro e w1 ⟨rfl, hb1⟩; have hb01 := HB.out.trans (hb1.mono hwz); have HE1 := Lib.hid (HE.out.later hb01); have HW1 := Lib.hid (own_later HW.out hb1)) | (go_at_call 66; refine (HF.out _ HE1.out).mono ?_; rintro e w2 ⟨rfl, hb2⟩; have hb02 := hb01.trans (hb2.mono hb01.size); have hz2w := hb02.size; have HW2 := Lib.hid (own_later HW1.out hb2)) | (at_builtin; refine wpList_append_own _ rfl _ _ 54 rfl w.heap.size 58 i0 (.agg #[.int .i64 0, .string ⟨#[]⟩, .string ⟨#[]⟩, .int .i64 0]) 4 48 Tryz.underlying54 hi hz0 hz1 hz2 rfl (by decide) _ _ _ rfl (World.ownsRow.alloc HW2.out _) ⟨w2.heap.size, 0, none⟩ 1 1 [.int .i64 kd, .string (s.extract k (k + q)), .string (s.extract (k + q) (k + q + n)), .int .i64 ((k : Int) + (q : Int))] rfl rfl (news4 _ _ _ _ _) (news4_cell _ _ _ _) (by unfold maxLen; omega) (by omega) (by simp; omega) ?_))
        intro v2 w3 hown2 hg2 _
        have hb3 : Below w.heap.size w w3 := (hb02.alloc (by omega) _).grown hg2 (by simp; omega) HG.out
        have HO := Lib.hid hown2
        clear hown2 hg2
        go_wp2_with fail
        exact ⟨⟨k + q + n, _, by omega, by go_num, HSUM.out, own_tok HO.out (by simp) rfl (by simp) HX.out HX2.out, hb3⟩, by simp [intOf]; omega⟩
end Go.Proofs.YtiaajpdcacdngaaGreatDoor.Tk
