/- The walks of the printer's reference: Own (all kinds), Order. -/
import Derived.Test.YtiaajpdcacdngaaGreatDoorROwnL
namespace Go.Proofs.YtiaajpdcacdngaaGreatDoor.Rf
open Go.RowKit
set_option linter.unusedVariables false
set_option linter.unusedSimpArgs false
set_option maxRecDepth 100000

theorem own_any (k : Int) (s : ByteArray) (n m gc dc : Nat) (ga da : Option Addr) (w : World) (hm : m ≤ 100000) (har : Pl.Ar k m) :
    Calls Tryz.prog 50 #[.agg #[.int .i64 k, .string s, .slice ga n gc, .slice da m dc]] w (OwnS (Pl.rown k s m) w) := by
  by_cases e1 : k = 1
  · subst e1
    exact own_1 s n m gc dc ga da w
  by_cases e2 : k = 2
  · subst e2
    exact own_2 s n m gc dc ga da w
  by_cases e3 : k = 3
  · subst e3
    exact own_3 s n m gc dc ga da w hm
  by_cases e20 : k = 20
  · subst e20
    exact own_20 s n m gc dc ga da w hm
  by_cases e21 : k = 21
  · subst e21
    obtain ⟨p, rfl⟩ : ∃ p, m = p + 1 := ⟨m - 1, by have := har.ap (.inr rfl); omega⟩
    exact own_21 s n p gc dc ga da w (by omega)
  by_cases e6 : k = 6
  · subst e6
    exact own_6 s n m gc dc ga da w
  by_cases e7 : k = 7
  · subst e7
    exact own_7 s n m gc dc ga da w
  by_cases e8 : k = 8
  · subst e8
    by_cases h : s.size = 0
    · rw [show Pl.rown 8 s m = if s.size = 0 then [] else _ from rfl, if_pos h]; exact own_8e s n m gc dc ga da w h
    · rw [show Pl.rown 8 s m = if s.size = 0 then [] else _ from rfl, if_neg h]; exact own_8n s n m gc dc ga da w h
  by_cases e9 : k = 9
  · subst e9
    exact own_9 s n m gc dc ga da w
  by_cases e10 : k = 10
  · subst e10
    exact own_10 s n m gc dc ga da w
  by_cases e11 : k = 11
  · subst e11
    exact own_11 s n m gc dc ga da w
  by_cases e12 : k = 12
  · subst e12
    exact own_12 s n m gc dc ga da w
  by_cases e13 : k = 13
  · subst e13
    exact own_13 s n m gc dc ga da w
  by_cases e14 : k = 14
  · subst e14
    by_cases h : m = 0
    · rw [show Pl.rown 14 s m = if m = 0 then [] else _ from rfl, if_pos h]; exact own_14z s n m gc dc ga da w h
    · rw [show Pl.rown 14 s m = if m = 0 then [] else _ from rfl, if_neg h]; exact own_14n s n m gc dc ga da w h (by omega)
  by_cases e15 : k = 15
  · subst e15
    exact own_15 s n m gc dc ga da w
  by_cases e16 : k = 16
  · subst e16
    exact own_16 s n m gc dc ga da w
  by_cases e22 : k = 22
  · subst e22
    exact own_22 s n m gc dc ga da w
  by_cases e26 : k = 26
  · subst e26
    exact own_26 s n m gc dc ga da w
  unfold Pl.rown
  rw [if_neg e1, if_neg e2, if_neg e3, if_neg e20, if_neg e21, if_neg e6, if_neg e7, if_neg e8, if_neg e9, if_neg e10, if_neg e11, if_neg e12, if_neg e13, if_neg e14, if_neg e15, if_neg e16, if_neg e22, if_neg e26]
  exact own_rest k s n m gc dc ga da w e1 e2 e3 e6 e7 e8 e9 e10 e11 e12 e13 e14 e15 e16 e20 e21 e22 e26
theorem box0 {w w' : World} {k : Int} {s : ByteArray} {gv kv : Value} (h : Below (w.heap.size + 1) (w.alloc (.cells #[.int .i64 k, .string s, gv, kv] 25)) w') : w'.cell? ⟨w.heap.size, 0, none⟩ = some (.int .i64 k) := (h.cell (p := ⟨w.heap.size, 0, none⟩) (Nat.lt_succ_self _)).trans (Li.box_new w k s gv kv).at4.1
theorem box1 {w w' : World} {k : Int} {s : ByteArray} {gv kv : Value} (h : Below (w.heap.size + 1) (w.alloc (.cells #[.int .i64 k, .string s, gv, kv] 25)) w') : w'.cell? ⟨w.heap.size, 1, none⟩ = some (.string s) := (h.cell (p := ⟨w.heap.size, 1, none⟩) (Nat.lt_succ_self _)).trans (Li.box_new w k s gv kv).at4.2.1
theorem box3 {w w' : World} {k : Int} {s : ByteArray} {gv kv : Value} (h : Below (w.heap.size + 1) (w.alloc (.cells #[.int .i64 k, .string s, gv, kv] 25)) w') : w'.cell? ⟨w.heap.size, 3, none⟩ = some kv := (h.cell (p := ⟨w.heap.size, 3, none⟩) (Nat.lt_succ_self _)).trans (Li.box_new w k s gv kv).at4.2.2.2
theorem intV_snoc (xs : List Int) (x : Int) : intV xs ++ [.int .i64 x] = intV (xs ++ [x]) := by rw [intV_app]; rfl
theorem all_le (xs : List Int) (p q : Nat) (hq : q ≤ 100000) (hx : xs.length ≤ 10) : (xs ++ Pl.rall p q).length ≤ 300000 := by
  rw [List.length_append, Pl.rall, List.length_map, List.length_range']; omega
theorem commas_le (xs : List Int) (p q : Nat) (hq : q ≤ 100000) (hx : xs.length ≤ 10) : (xs ++ Pl.rcommas p q).length ≤ 300000 := by
  have e : Pl.rcommas p q = rcomN p (q - p) := rfl
  have := rcomN_le p (q - p)
  rw [List.length_append, e]; omega
set_option maxHeartbeats 1600000 in
theorem order_1 (s : ByteArray) (n m gc dc : Nat) (ga da : Option Addr) (w : World) (hm : m ≤ 100000) :
    Calls Tryz.prog 51 #[.agg #[.int .i64 1, .string s, .slice ga n gc, .slice da m dc]] w (IntP w.heap.size ([] ++ Pl.rall 0 m ++ [-1]) w) := by
  obtain ⟨i0, hi0, hz0, hz1, hz2⟩ := info_parts infoI
  go_enter Tryz.func51, Tryz.ntmps51
  go_wp2_with (first
    | (at_builtin; have gd := H1; clear gd; refine wpList_append_lies _ rfl _ _ 63 rfl (w.heap.size + 1) 3 i0 _ 1 8 Tryz.underlying63 hi0 hz0 hz1 hz2 rfl (by decide) _ _ _ rfl (World.ownsRow.alloc H1.out _) ⟨w1.heap.size, 0, none⟩ 1 1 [.int .i64 (-1)] rfl rfl (news_one 1 [.int .i64 (-1)] rfl) (by simp [Value.oneCell']) (by decide) (by unfold maxLen; omega) (by omega) (by simp; try omega) _ rfl ?_; intro g2 cap2 w2 hown2 hg2 hat2 hlt2; have H2 := Lib.hid hown2; have HB2 : Hid (Below (w.heap.size + 1) (w.alloc (.cells #[.int .i64 1, .string s, .slice ga n gc, .slice da m dc] 25)) w2) := Lib.hid ((HB1.out.alloc (by omega) _).grown hg2 (by simp; omega) (fun k hk => (H1.out.lt k hk).1)); have hs2 := HB2.out.size; simp at hs2; have y02 := box0 HB2.out; have y32 := box3 HB2.out; have y12 := box1 HB2.out; clear hown2 hg2 hat2; clear y01 y11 y31)
    | (go_at_call 74; refine (all_any (w.heap.size + 1) [] 0 0 none 0 m _ (by simp) rfl (by decide) hm (World.ownsRow_nil _ _ _ _)).mono ?_; rintro e w1 ⟨a1, n1, c1, rfl, hn1, ho1, hb1⟩; have H1 := Lib.hid ho1; have HN1 := Lib.hid hn1; have hnb1 : n1 ≤ 300000 := (by rw [hn1]; exact all_le _ _ _ hm (by decide)); have HB1 : Hid (Below (w.heap.size + 1) (w.alloc (.cells #[.int .i64 1, .string s, .slice ga n gc, .slice da m dc] 25)) w1) := Lib.hid hb1; have hs1 := HB1.out.size; simp at hs1; have y01 := box0 HB1.out; have y31 := box3 HB1.out; have y11 := box1 HB1.out; clear hn1 ho1 hb1))
  go_ret
  refine ⟨_, _, cap2, rfl, ?_, owns_low ?_ (Nat.le_succ _), (box_below w _).trans (HB2.out.mono (by omega))⟩
  · rw [HN1.out]; simp
  · have h := H2.out; rw [intV_snoc] at h; exact h
set_option maxHeartbeats 1600000 in
theorem order_2 (s : ByteArray) (n m gc dc : Nat) (ga da : Option Addr) (w : World) (hm : m ≤ 100000) :
    Calls Tryz.prog 51 #[.agg #[.int .i64 2, .string s, .slice ga n gc, .slice da m dc]] w (IntP w.heap.size ([-1, -1, 0, 1, 2]) w) := by
  obtain ⟨i0, hi0, hz0, hz1, hz2⟩ := info_parts infoI
  go_enter Tryz.func51, Tryz.ntmps51
  go_wp2_with (first
    | (at_builtin; refine wpList_append_lies _ rfl _ _ 63 rfl (w.heap.size + 1) 3 i0 _ 1 8 Tryz.underlying63 hi0 hz0 hz1 hz2 rfl (by decide) _ _ _ rfl (World.ownsRow_nil _ _ _ _) ⟨w.heap.size + 1, 0, none⟩ 5 5 [.int .i64 (-1), .int .i64 (-1), .int .i64 (0), .int .i64 (1), .int .i64 (2)] rfl rfl (news_at 5 [.int .i64 (-1), .int .i64 (-1), .int .i64 (0), .int .i64 (1), .int .i64 (2)] rfl) (by simp [Value.oneCell']) (by decide) (by unfold maxLen; omega) (by omega) (by simp; try omega) _ rfl ?_; intro g1 cap1 w1 hown1 hg1 hat1 hlt1; have H1 := Lib.hid hown1; have HB1 : Hid (Below (w.heap.size + 1) (w.alloc (.cells #[.int .i64 2, .string s, .slice ga n gc, .slice da m dc] 25)) w1) := Lib.hid (((Below.refl _ _).alloc (by simp) _).grown hg1 (by simp) (fun k hk => by cases hk)); have hs1 := HB1.out.size; simp at hs1; have y01 := box0 HB1.out; have y31 := box3 HB1.out; have y11 := box1 HB1.out; clear hown1 hg1 hat1))
  go_ret
  exact ⟨_, _, cap1, rfl, rfl, owns_low H1.out (Nat.le_succ _), (box_below w _).trans (HB1.out.mono (by omega))⟩
set_option maxHeartbeats 1600000 in
theorem order_3 (s : ByteArray) (n m gc dc : Nat) (ga da : Option Addr) (w : World) (hm : m ≤ 100000) :
    Calls Tryz.prog 51 #[.agg #[.int .i64 3, .string s, .slice ga n gc, .slice da m dc]] w (IntP w.heap.size ([-1] ++ Pl.rcommas 0 m ++ [-1]) w) := by
  obtain ⟨i0, hi0, hz0, hz1, hz2⟩ := info_parts infoI
  go_enter Tryz.func51, Tryz.ntmps51
  go_wp2_with (first
    | (at_builtin; have gd := H2; clear gd; refine wpList_append_lies _ rfl _ _ 63 rfl (w.heap.size + 1) 3 i0 _ 1 8 Tryz.underlying63 hi0 hz0 hz1 hz2 rfl (by decide) _ _ _ rfl (World.ownsRow.alloc H2.out _) ⟨w2.heap.size, 0, none⟩ 1 1 [.int .i64 (-1)] rfl rfl (news_one 1 [.int .i64 (-1)] rfl) (by simp [Value.oneCell']) (by decide) (by unfold maxLen; omega) (by omega) (by simp; try omega) _ rfl ?_; intro g3 cap3 w3 hown3 hg3 hat3 hlt3; have H3 := Lib.hid hown3; have HB3 : Hid (Below (w.heap.size + 1) (w.alloc (.cells #[.int .i64 3, .string s, .slice ga n gc, .slice da m dc] 25)) w3) := Lib.hid ((HB2.out.alloc (by omega) _).grown hg3 (by simp; omega) (fun k hk => (H2.out.lt k hk).1)); have hs3 := HB3.out.size; simp at hs3; have y03 := box0 HB3.out; have y33 := box3 HB3.out; have y13 := box1 HB3.out; clear hown3 hg3 hat3; clear y02 y12 y32)
    | (go_at_call 73; refine (commas_any (w.heap.size + 1) [(-1)] 1 cap1 (some ⟨g1, 0, none⟩) 0 m w1 hs1 rfl (by decide) hm H1.out).mono ?_; rintro e w2 ⟨a2, n2, c2, rfl, hn2, ho2, hb2⟩; have H2 := Lib.hid ho2; have HN2 := Lib.hid hn2; have hnb2 : n2 ≤ 300000 := (by rw [hn2]; exact commas_le _ _ _ hm (by decide)); have HB2 : Hid (Below (w.heap.size + 1) (w.alloc (.cells #[.int .i64 3, .string s, .slice ga n gc, .slice da m dc] 25)) w2) := Lib.hid (HB1.out.trans hb2); have hs2 := HB2.out.size; simp at hs2; have y02 := box0 HB2.out; have y32 := box3 HB2.out; have y12 := box1 HB2.out; clear hn2 ho2 hb2; clear y01 y11 y31)
    | (at_builtin; refine wpList_append_lies _ rfl _ _ 63 rfl (w.heap.size + 1) 3 i0 _ 1 8 Tryz.underlying63 hi0 hz0 hz1 hz2 rfl (by decide) _ _ _ rfl (World.ownsRow_nil _ _ _ _) ⟨w.heap.size + 1, 0, none⟩ 1 1 [.int .i64 (-1)] rfl rfl (news_at 1 [.int .i64 (-1)] rfl) (by simp [Value.oneCell']) (by decide) (by unfold maxLen; omega) (by omega) (by simp; try omega) _ rfl ?_; intro g1 cap1 w1 hown1 hg1 hat1 hlt1; have H1 := Lib.hid hown1; have HB1 : Hid (Below (w.heap.size + 1) (w.alloc (.cells #[.int .i64 3, .string s, .slice ga n gc, .slice da m dc] 25)) w1) := Lib.hid (((Below.refl _ _).alloc (by simp) _).grown hg1 (by simp) (fun k hk => by cases hk)); have hs1 := HB1.out.size; simp at hs1; have y01 := box0 HB1.out; have y31 := box3 HB1.out; have y11 := box1 HB1.out; clear hown1 hg1 hat1))
  go_ret
  refine ⟨_, _, cap3, rfl, ?_, owns_low ?_ (Nat.le_succ _), (box_below w _).trans (HB3.out.mono (by omega))⟩
  · rw [HN2.out]; simp
  · have h := H3.out; rw [intV_snoc] at h; exact h
set_option maxHeartbeats 1600000 in
theorem order_4 (s : ByteArray) (n m gc dc : Nat) (ga da : Option Addr) (w : World) (hm : m ≤ 100000) :
    Calls Tryz.prog 51 #[.agg #[.int .i64 4, .string s, .slice ga n gc, .slice da m dc]] w (IntP w.heap.size ([-1, 0]) w) := by
  obtain ⟨i0, hi0, hz0, hz1, hz2⟩ := info_parts infoI
  go_enter Tryz.func51, Tryz.ntmps51
  go_wp2_with (first
    | (at_builtin; refine wpList_append_lies _ rfl _ _ 63 rfl (w.heap.size + 1) 3 i0 _ 1 8 Tryz.underlying63 hi0 hz0 hz1 hz2 rfl (by decide) _ _ _ rfl (World.ownsRow_nil _ _ _ _) ⟨w.heap.size + 1, 0, none⟩ 2 2 [.int .i64 (-1), .int .i64 (0)] rfl rfl (news_at 2 [.int .i64 (-1), .int .i64 (0)] rfl) (by simp [Value.oneCell']) (by decide) (by unfold maxLen; omega) (by omega) (by simp; try omega) _ rfl ?_; intro g1 cap1 w1 hown1 hg1 hat1 hlt1; have H1 := Lib.hid hown1; have HB1 : Hid (Below (w.heap.size + 1) (w.alloc (.cells #[.int .i64 4, .string s, .slice ga n gc, .slice da m dc] 25)) w1) := Lib.hid (((Below.refl _ _).alloc (by simp) _).grown hg1 (by simp) (fun k hk => by cases hk)); have hs1 := HB1.out.size; simp at hs1; have y01 := box0 HB1.out; have y31 := box3 HB1.out; have y11 := box1 HB1.out; clear hown1 hg1 hat1))
  go_ret
  exact ⟨_, _, cap1, rfl, rfl, owns_low H1.out (Nat.le_succ _), (box_below w _).trans (HB1.out.mono (by omega))⟩
set_option maxHeartbeats 1600000 in
theorem order_6 (s : ByteArray) (n m gc dc : Nat) (ga da : Option Addr) (w : World) (hm : m ≤ 100000) :
    Calls Tryz.prog 51 #[.agg #[.int .i64 6, .string s, .slice ga n gc, .slice da m dc]] w (IntP w.heap.size ([-1] ++ Pl.rall 0 m ++ [-1]) w) := by
  obtain ⟨i0, hi0, hz0, hz1, hz2⟩ := info_parts infoI
  go_enter Tryz.func51, Tryz.ntmps51
  go_wp2_with (first
    | (at_builtin; have gd := H2; clear gd; refine wpList_append_lies _ rfl _ _ 63 rfl (w.heap.size + 1) 3 i0 _ 1 8 Tryz.underlying63 hi0 hz0 hz1 hz2 rfl (by decide) _ _ _ rfl (World.ownsRow.alloc H2.out _) ⟨w2.heap.size, 0, none⟩ 1 1 [.int .i64 (-1)] rfl rfl (news_one 1 [.int .i64 (-1)] rfl) (by simp [Value.oneCell']) (by decide) (by unfold maxLen; omega) (by omega) (by simp; try omega) _ rfl ?_; intro g3 cap3 w3 hown3 hg3 hat3 hlt3; have H3 := Lib.hid hown3; have HB3 : Hid (Below (w.heap.size + 1) (w.alloc (.cells #[.int .i64 6, .string s, .slice ga n gc, .slice da m dc] 25)) w3) := Lib.hid ((HB2.out.alloc (by omega) _).grown hg3 (by simp; omega) (fun k hk => (H2.out.lt k hk).1)); have hs3 := HB3.out.size; simp at hs3; have y03 := box0 HB3.out; have y33 := box3 HB3.out; have y13 := box1 HB3.out; clear hown3 hg3 hat3; clear y02 y12 y32)
    | (go_at_call 74; refine (all_any (w.heap.size + 1) [(-1)] 1 cap1 (some ⟨g1, 0, none⟩) 0 m w1 hs1 rfl (by decide) hm H1.out).mono ?_; rintro e w2 ⟨a2, n2, c2, rfl, hn2, ho2, hb2⟩; have H2 := Lib.hid ho2; have HN2 := Lib.hid hn2; have hnb2 : n2 ≤ 300000 := (by rw [hn2]; exact all_le _ _ _ hm (by decide)); have HB2 : Hid (Below (w.heap.size + 1) (w.alloc (.cells #[.int .i64 6, .string s, .slice ga n gc, .slice da m dc] 25)) w2) := Lib.hid (HB1.out.trans hb2); have hs2 := HB2.out.size; simp at hs2; have y02 := box0 HB2.out; have y32 := box3 HB2.out; have y12 := box1 HB2.out; clear hn2 ho2 hb2; clear y01 y11 y31)
    | (at_builtin; refine wpList_append_lies _ rfl _ _ 63 rfl (w.heap.size + 1) 3 i0 _ 1 8 Tryz.underlying63 hi0 hz0 hz1 hz2 rfl (by decide) _ _ _ rfl (World.ownsRow_nil _ _ _ _) ⟨w.heap.size + 1, 0, none⟩ 1 1 [.int .i64 (-1)] rfl rfl (news_at 1 [.int .i64 (-1)] rfl) (by simp [Value.oneCell']) (by decide) (by unfold maxLen; omega) (by omega) (by simp; try omega) _ rfl ?_; intro g1 cap1 w1 hown1 hg1 hat1 hlt1; have H1 := Lib.hid hown1; have HB1 : Hid (Below (w.heap.size + 1) (w.alloc (.cells #[.int .i64 6, .string s, .slice ga n gc, .slice da m dc] 25)) w1) := Lib.hid (((Below.refl _ _).alloc (by simp) _).grown hg1 (by simp) (fun k hk => by cases hk)); have hs1 := HB1.out.size; simp at hs1; have y01 := box0 HB1.out; have y31 := box3 HB1.out; have y11 := box1 HB1.out; clear hown1 hg1 hat1))
  go_ret
  refine ⟨_, _, cap3, rfl, ?_, owns_low ?_ (Nat.le_succ _), (box_below w _).trans (HB3.out.mono (by omega))⟩
  · rw [HN2.out]; simp
  · have h := H3.out; rw [intV_snoc] at h; exact h
set_option maxHeartbeats 1600000 in
theorem order_7 (s : ByteArray) (n m gc dc : Nat) (ga da : Option Addr) (w : World) (hm : m ≤ 100000) :
    Calls Tryz.prog 51 #[.agg #[.int .i64 7, .string s, .slice ga n gc, .slice da m dc]] w (IntP w.heap.size ([-1, -1, 0, -1] ++ Pl.rall 1 m ++ [-1]) w) := by
  obtain ⟨i0, hi0, hz0, hz1, hz2⟩ := info_parts infoI
  go_enter Tryz.func51, Tryz.ntmps51
  go_wp2_with (first
    | (at_builtin; have gd := H2; clear gd; refine wpList_append_lies _ rfl _ _ 63 rfl (w.heap.size + 1) 3 i0 _ 1 8 Tryz.underlying63 hi0 hz0 hz1 hz2 rfl (by decide) _ _ _ rfl (World.ownsRow.alloc H2.out _) ⟨w2.heap.size, 0, none⟩ 1 1 [.int .i64 (-1)] rfl rfl (news_one 1 [.int .i64 (-1)] rfl) (by simp [Value.oneCell']) (by decide) (by unfold maxLen; omega) (by omega) (by simp; try omega) _ rfl ?_; intro g3 cap3 w3 hown3 hg3 hat3 hlt3; have H3 := Lib.hid hown3; have HB3 : Hid (Below (w.heap.size + 1) (w.alloc (.cells #[.int .i64 7, .string s, .slice ga n gc, .slice da m dc] 25)) w3) := Lib.hid ((HB2.out.alloc (by omega) _).grown hg3 (by simp; omega) (fun k hk => (H2.out.lt k hk).1)); have hs3 := HB3.out.size; simp at hs3; have y03 := box0 HB3.out; have y33 := box3 HB3.out; have y13 := box1 HB3.out; clear hown3 hg3 hat3; clear y02 y12 y32)
    | (go_at_call 74; refine (all_any (w.heap.size + 1) [(-1), (-1), (0), (-1)] 4 cap1 (some ⟨g1, 0, none⟩) 1 m w1 hs1 rfl (by decide) hm H1.out).mono ?_; rintro e w2 ⟨a2, n2, c2, rfl, hn2, ho2, hb2⟩; have H2 := Lib.hid ho2; have HN2 := Lib.hid hn2; have hnb2 : n2 ≤ 300000 := (by rw [hn2]; exact all_le _ _ _ hm (by decide)); have HB2 : Hid (Below (w.heap.size + 1) (w.alloc (.cells #[.int .i64 7, .string s, .slice ga n gc, .slice da m dc] 25)) w2) := Lib.hid (HB1.out.trans hb2); have hs2 := HB2.out.size; simp at hs2; have y02 := box0 HB2.out; have y32 := box3 HB2.out; have y12 := box1 HB2.out; clear hn2 ho2 hb2; clear y01 y11 y31)
    | (at_builtin; refine wpList_append_lies _ rfl _ _ 63 rfl (w.heap.size + 1) 3 i0 _ 1 8 Tryz.underlying63 hi0 hz0 hz1 hz2 rfl (by decide) _ _ _ rfl (World.ownsRow_nil _ _ _ _) ⟨w.heap.size + 1, 0, none⟩ 4 4 [.int .i64 (-1), .int .i64 (-1), .int .i64 (0), .int .i64 (-1)] rfl rfl (news_at 4 [.int .i64 (-1), .int .i64 (-1), .int .i64 (0), .int .i64 (-1)] rfl) (by simp [Value.oneCell']) (by decide) (by unfold maxLen; omega) (by omega) (by simp; try omega) _ rfl ?_; intro g1 cap1 w1 hown1 hg1 hat1 hlt1; have H1 := Lib.hid hown1; have HB1 : Hid (Below (w.heap.size + 1) (w.alloc (.cells #[.int .i64 7, .string s, .slice ga n gc, .slice da m dc] 25)) w1) := Lib.hid (((Below.refl _ _).alloc (by simp) _).grown hg1 (by simp) (fun k hk => by cases hk)); have hs1 := HB1.out.size; simp at hs1; have y01 := box0 HB1.out; have y31 := box3 HB1.out; have y11 := box1 HB1.out; clear hown1 hg1 hat1))
  go_ret
  refine ⟨_, _, cap3, rfl, ?_, owns_low ?_ (Nat.le_succ _), (box_below w _).trans (HB3.out.mono (by omega))⟩
  · rw [HN2.out]; simp
  · have h := H3.out; rw [intV_snoc] at h; exact h
set_option maxHeartbeats 1600000 in
theorem order_9 (s : ByteArray) (n m gc dc : Nat) (ga da : Option Addr) (w : World) (hm : m ≤ 100000) :
    Calls Tryz.prog 51 #[.agg #[.int .i64 9, .string s, .slice ga n gc, .slice da m dc]] w (IntP w.heap.size ([-1, -1, -1, 0, -1]) w) := by
  obtain ⟨i0, hi0, hz0, hz1, hz2⟩ := info_parts infoI
  go_enter Tryz.func51, Tryz.ntmps51
  go_wp2_with (first
    | (at_builtin; refine wpList_append_lies _ rfl _ _ 63 rfl (w.heap.size + 1) 3 i0 _ 1 8 Tryz.underlying63 hi0 hz0 hz1 hz2 rfl (by decide) _ _ _ rfl (World.ownsRow_nil _ _ _ _) ⟨w.heap.size + 1, 0, none⟩ 5 5 [.int .i64 (-1), .int .i64 (-1), .int .i64 (-1), .int .i64 (0), .int .i64 (-1)] rfl rfl (news_at 5 [.int .i64 (-1), .int .i64 (-1), .int .i64 (-1), .int .i64 (0), .int .i64 (-1)] rfl) (by simp [Value.oneCell']) (by decide) (by unfold maxLen; omega) (by omega) (by simp; try omega) _ rfl ?_; intro g1 cap1 w1 hown1 hg1 hat1 hlt1; have H1 := Lib.hid hown1; have HB1 : Hid (Below (w.heap.size + 1) (w.alloc (.cells #[.int .i64 9, .string s, .slice ga n gc, .slice da m dc] 25)) w1) := Lib.hid (((Below.refl _ _).alloc (by simp) _).grown hg1 (by simp) (fun k hk => by cases hk)); have hs1 := HB1.out.size; simp at hs1; have y01 := box0 HB1.out; have y31 := box3 HB1.out; have y11 := box1 HB1.out; clear hown1 hg1 hat1))
  go_ret
  exact ⟨_, _, cap1, rfl, rfl, owns_low H1.out (Nat.le_succ _), (box_below w _).trans (HB1.out.mono (by omega))⟩
set_option maxHeartbeats 1600000 in
theorem order_10 (s : ByteArray) (n m gc dc : Nat) (ga da : Option Addr) (w : World) (hm : m ≤ 100000) :
    Calls Tryz.prog 51 #[.agg #[.int .i64 10, .string s, .slice ga n gc, .slice da m dc]] w (IntP w.heap.size ([-1, -1, -1, 0, -1]) w) := by
  obtain ⟨i0, hi0, hz0, hz1, hz2⟩ := info_parts infoI
  go_enter Tryz.func51, Tryz.ntmps51
  go_wp2_with (first
    | (at_builtin; refine wpList_append_lies _ rfl _ _ 63 rfl (w.heap.size + 1) 3 i0 _ 1 8 Tryz.underlying63 hi0 hz0 hz1 hz2 rfl (by decide) _ _ _ rfl (World.ownsRow_nil _ _ _ _) ⟨w.heap.size + 1, 0, none⟩ 5 5 [.int .i64 (-1), .int .i64 (-1), .int .i64 (-1), .int .i64 (0), .int .i64 (-1)] rfl rfl (news_at 5 [.int .i64 (-1), .int .i64 (-1), .int .i64 (-1), .int .i64 (0), .int .i64 (-1)] rfl) (by simp [Value.oneCell']) (by decide) (by unfold maxLen; omega) (by omega) (by simp; try omega) _ rfl ?_; intro g1 cap1 w1 hown1 hg1 hat1 hlt1; have H1 := Lib.hid hown1; have HB1 : Hid (Below (w.heap.size + 1) (w.alloc (.cells #[.int .i64 10, .string s, .slice ga n gc, .slice da m dc] 25)) w1) := Lib.hid (((Below.refl _ _).alloc (by simp) _).grown hg1 (by simp) (fun k hk => by cases hk)); have hs1 := HB1.out.size; simp at hs1; have y01 := box0 HB1.out; have y31 := box3 HB1.out; have y11 := box1 HB1.out; clear hown1 hg1 hat1))
  go_ret
  exact ⟨_, _, cap1, rfl, rfl, owns_low H1.out (Nat.le_succ _), (box_below w _).trans (HB1.out.mono (by omega))⟩
set_option maxHeartbeats 1600000 in
theorem order_11 (s : ByteArray) (n m gc dc : Nat) (ga da : Option Addr) (w : World) (hm : m ≤ 100000) :
    Calls Tryz.prog 51 #[.agg #[.int .i64 11, .string s, .slice ga n gc, .slice da m dc]] w (IntP w.heap.size ([-1, -1, 0, -1]) w) := by
  obtain ⟨i0, hi0, hz0, hz1, hz2⟩ := info_parts infoI
  go_enter Tryz.func51, Tryz.ntmps51
  go_wp2_with (first
    | (at_builtin; refine wpList_append_lies _ rfl _ _ 63 rfl (w.heap.size + 1) 3 i0 _ 1 8 Tryz.underlying63 hi0 hz0 hz1 hz2 rfl (by decide) _ _ _ rfl (World.ownsRow_nil _ _ _ _) ⟨w.heap.size + 1, 0, none⟩ 4 4 [.int .i64 (-1), .int .i64 (-1), .int .i64 (0), .int .i64 (-1)] rfl rfl (news_at 4 [.int .i64 (-1), .int .i64 (-1), .int .i64 (0), .int .i64 (-1)] rfl) (by simp [Value.oneCell']) (by decide) (by unfold maxLen; omega) (by omega) (by simp; try omega) _ rfl ?_; intro g1 cap1 w1 hown1 hg1 hat1 hlt1; have H1 := Lib.hid hown1; have HB1 : Hid (Below (w.heap.size + 1) (w.alloc (.cells #[.int .i64 11, .string s, .slice ga n gc, .slice da m dc] 25)) w1) := Lib.hid (((Below.refl _ _).alloc (by simp) _).grown hg1 (by simp) (fun k hk => by cases hk)); have hs1 := HB1.out.size; simp at hs1; have y01 := box0 HB1.out; have y31 := box3 HB1.out; have y11 := box1 HB1.out; clear hown1 hg1 hat1))
  go_ret
  exact ⟨_, _, cap1, rfl, rfl, owns_low H1.out (Nat.le_succ _), (box_below w _).trans (HB1.out.mono (by omega))⟩
set_option maxHeartbeats 1600000 in
theorem order_12 (s : ByteArray) (n m gc dc : Nat) (ga da : Option Addr) (w : World) (hm : m ≤ 100000) :
    Calls Tryz.prog 51 #[.agg #[.int .i64 12, .string s, .slice ga n gc, .slice da m dc]] w (IntP w.heap.size ([-1] ++ Pl.rall 0 m ++ [-1]) w) := by
  obtain ⟨i0, hi0, hz0, hz1, hz2⟩ := info_parts infoI
  go_enter Tryz.func51, Tryz.ntmps51
  go_wp2_with (first
    | (at_builtin; have gd := H2; clear gd; refine wpList_append_lies _ rfl _ _ 63 rfl (w.heap.size + 1) 3 i0 _ 1 8 Tryz.underlying63 hi0 hz0 hz1 hz2 rfl (by decide) _ _ _ rfl (World.ownsRow.alloc H2.out _) ⟨w2.heap.size, 0, none⟩ 1 1 [.int .i64 (-1)] rfl rfl (news_one 1 [.int .i64 (-1)] rfl) (by simp [Value.oneCell']) (by decide) (by unfold maxLen; omega) (by omega) (by simp; try omega) _ rfl ?_; intro g3 cap3 w3 hown3 hg3 hat3 hlt3; have H3 := Lib.hid hown3; have HB3 : Hid (Below (w.heap.size + 1) (w.alloc (.cells #[.int .i64 12, .string s, .slice ga n gc, .slice da m dc] 25)) w3) := Lib.hid ((HB2.out.alloc (by omega) _).grown hg3 (by simp; omega) (fun k hk => (H2.out.lt k hk).1)); have hs3 := HB3.out.size; simp at hs3; have y03 := box0 HB3.out; have y33 := box3 HB3.out; have y13 := box1 HB3.out; clear hown3 hg3 hat3; clear y02 y12 y32)
    | (go_at_call 74; refine (all_any (w.heap.size + 1) [(-1)] 1 cap1 (some ⟨g1, 0, none⟩) 0 m w1 hs1 rfl (by decide) hm H1.out).mono ?_; rintro e w2 ⟨a2, n2, c2, rfl, hn2, ho2, hb2⟩; have H2 := Lib.hid ho2; have HN2 := Lib.hid hn2; have hnb2 : n2 ≤ 300000 := (by rw [hn2]; exact all_le _ _ _ hm (by decide)); have HB2 : Hid (Below (w.heap.size + 1) (w.alloc (.cells #[.int .i64 12, .string s, .slice ga n gc, .slice da m dc] 25)) w2) := Lib.hid (HB1.out.trans hb2); have hs2 := HB2.out.size; simp at hs2; have y02 := box0 HB2.out; have y32 := box3 HB2.out; have y12 := box1 HB2.out; clear hn2 ho2 hb2; clear y01 y11 y31)
    | (at_builtin; refine wpList_append_lies _ rfl _ _ 63 rfl (w.heap.size + 1) 3 i0 _ 1 8 Tryz.underlying63 hi0 hz0 hz1 hz2 rfl (by decide) _ _ _ rfl (World.ownsRow_nil _ _ _ _) ⟨w.heap.size + 1, 0, none⟩ 1 1 [.int .i64 (-1)] rfl rfl (news_at 1 [.int .i64 (-1)] rfl) (by simp [Value.oneCell']) (by decide) (by unfold maxLen; omega) (by omega) (by simp; try omega) _ rfl ?_; intro g1 cap1 w1 hown1 hg1 hat1 hlt1; have H1 := Lib.hid hown1; have HB1 : Hid (Below (w.heap.size + 1) (w.alloc (.cells #[.int .i64 12, .string s, .slice ga n gc, .slice da m dc] 25)) w1) := Lib.hid (((Below.refl _ _).alloc (by simp) _).grown hg1 (by simp) (fun k hk => by cases hk)); have hs1 := HB1.out.size; simp at hs1; have y01 := box0 HB1.out; have y31 := box3 HB1.out; have y11 := box1 HB1.out; clear hown1 hg1 hat1))
  go_ret
  refine ⟨_, _, cap3, rfl, ?_, owns_low ?_ (Nat.le_succ _), (box_below w _).trans (HB3.out.mono (by omega))⟩
  · rw [HN2.out]; simp
  · have h := H3.out; rw [intV_snoc] at h; exact h
set_option maxHeartbeats 1600000 in
theorem order_13 (s : ByteArray) (n m gc dc : Nat) (ga da : Option Addr) (w : World) (hm : m ≤ 100000) :
    Calls Tryz.prog 51 #[.agg #[.int .i64 13, .string s, .slice ga n gc, .slice da m dc]] w (IntP w.heap.size ([-1] ++ Pl.rall 0 m) w) := by
  obtain ⟨i0, hi0, hz0, hz1, hz2⟩ := info_parts infoI
  go_enter Tryz.func51, Tryz.ntmps51
  go_wp2_with (first
    | (go_at_call 74; refine (all_any (w.heap.size + 1) [(-1)] 1 cap1 (some ⟨g1, 0, none⟩) 0 m w1 hs1 rfl (by decide) hm H1.out).mono ?_; rintro e w2 ⟨a2, n2, c2, rfl, hn2, ho2, hb2⟩; have H2 := Lib.hid ho2; have HN2 := Lib.hid hn2; have hnb2 : n2 ≤ 300000 := (by rw [hn2]; exact all_le _ _ _ hm (by decide)); have HB2 : Hid (Below (w.heap.size + 1) (w.alloc (.cells #[.int .i64 13, .string s, .slice ga n gc, .slice da m dc] 25)) w2) := Lib.hid (HB1.out.trans hb2); have hs2 := HB2.out.size; simp at hs2; have y02 := box0 HB2.out; have y32 := box3 HB2.out; have y12 := box1 HB2.out; clear hn2 ho2 hb2; clear y01 y11 y31)
    | (at_builtin; refine wpList_append_lies _ rfl _ _ 63 rfl (w.heap.size + 1) 3 i0 _ 1 8 Tryz.underlying63 hi0 hz0 hz1 hz2 rfl (by decide) _ _ _ rfl (World.ownsRow_nil _ _ _ _) ⟨w.heap.size + 1, 0, none⟩ 1 1 [.int .i64 (-1)] rfl rfl (news_at 1 [.int .i64 (-1)] rfl) (by simp [Value.oneCell']) (by decide) (by unfold maxLen; omega) (by omega) (by simp; try omega) _ rfl ?_; intro g1 cap1 w1 hown1 hg1 hat1 hlt1; have H1 := Lib.hid hown1; have HB1 : Hid (Below (w.heap.size + 1) (w.alloc (.cells #[.int .i64 13, .string s, .slice ga n gc, .slice da m dc] 25)) w1) := Lib.hid (((Below.refl _ _).alloc (by simp) _).grown hg1 (by simp) (fun k hk => by cases hk)); have hs1 := HB1.out.size; simp at hs1; have y01 := box0 HB1.out; have y31 := box3 HB1.out; have y11 := box1 HB1.out; clear hown1 hg1 hat1))
  go_ret
  exact ⟨_, _, _, rfl, HN2.out, owns_low H2.out (Nat.le_succ _), (box_below w _).trans (HB2.out.mono (by omega))⟩
set_option maxHeartbeats 1600000 in
theorem order_15 (s : ByteArray) (n m gc dc : Nat) (ga da : Option Addr) (w : World) (hm : m ≤ 100000) :
    Calls Tryz.prog 51 #[.agg #[.int .i64 15, .string s, .slice ga n gc, .slice da m dc]] w (IntP w.heap.size ([-1] ++ Pl.rall 0 m) w) := by
  obtain ⟨i0, hi0, hz0, hz1, hz2⟩ := info_parts infoI
  go_enter Tryz.func51, Tryz.ntmps51
  go_wp2_with (first
    | (go_at_call 74; refine (all_any (w.heap.size + 1) [(-1)] 1 cap1 (some ⟨g1, 0, none⟩) 0 m w1 hs1 rfl (by decide) hm H1.out).mono ?_; rintro e w2 ⟨a2, n2, c2, rfl, hn2, ho2, hb2⟩; have H2 := Lib.hid ho2; have HN2 := Lib.hid hn2; have hnb2 : n2 ≤ 300000 := (by rw [hn2]; exact all_le _ _ _ hm (by decide)); have HB2 : Hid (Below (w.heap.size + 1) (w.alloc (.cells #[.int .i64 15, .string s, .slice ga n gc, .slice da m dc] 25)) w2) := Lib.hid (HB1.out.trans hb2); have hs2 := HB2.out.size; simp at hs2; have y02 := box0 HB2.out; have y32 := box3 HB2.out; have y12 := box1 HB2.out; clear hn2 ho2 hb2; clear y01 y11 y31)
    | (at_builtin; refine wpList_append_lies _ rfl _ _ 63 rfl (w.heap.size + 1) 3 i0 _ 1 8 Tryz.underlying63 hi0 hz0 hz1 hz2 rfl (by decide) _ _ _ rfl (World.ownsRow_nil _ _ _ _) ⟨w.heap.size + 1, 0, none⟩ 1 1 [.int .i64 (-1)] rfl rfl (news_at 1 [.int .i64 (-1)] rfl) (by simp [Value.oneCell']) (by decide) (by unfold maxLen; omega) (by omega) (by simp; try omega) _ rfl ?_; intro g1 cap1 w1 hown1 hg1 hat1 hlt1; have H1 := Lib.hid hown1; have HB1 : Hid (Below (w.heap.size + 1) (w.alloc (.cells #[.int .i64 15, .string s, .slice ga n gc, .slice da m dc] 25)) w1) := Lib.hid (((Below.refl _ _).alloc (by simp) _).grown hg1 (by simp) (fun k hk => by cases hk)); have hs1 := HB1.out.size; simp at hs1; have y01 := box0 HB1.out; have y31 := box3 HB1.out; have y11 := box1 HB1.out; clear hown1 hg1 hat1))
  go_ret
  exact ⟨_, _, _, rfl, HN2.out, owns_low H2.out (Nat.le_succ _), (box_below w _).trans (HB2.out.mono (by omega))⟩
set_option maxHeartbeats 1600000 in
theorem order_16 (s : ByteArray) (n m gc dc : Nat) (ga da : Option Addr) (w : World) (hm : m ≤ 100000) :
    Calls Tryz.prog 51 #[.agg #[.int .i64 16, .string s, .slice ga n gc, .slice da m dc]] w (IntP w.heap.size ([] ++ Pl.rall 0 m ++ [-1]) w) := by
  obtain ⟨i0, hi0, hz0, hz1, hz2⟩ := info_parts infoI
  go_enter Tryz.func51, Tryz.ntmps51
  go_wp2_with (first
    | (at_builtin; have gd := H1; clear gd; refine wpList_append_lies _ rfl _ _ 63 rfl (w.heap.size + 1) 3 i0 _ 1 8 Tryz.underlying63 hi0 hz0 hz1 hz2 rfl (by decide) _ _ _ rfl (World.ownsRow.alloc H1.out _) ⟨w1.heap.size, 0, none⟩ 1 1 [.int .i64 (-1)] rfl rfl (news_one 1 [.int .i64 (-1)] rfl) (by simp [Value.oneCell']) (by decide) (by unfold maxLen; omega) (by omega) (by simp; try omega) _ rfl ?_; intro g2 cap2 w2 hown2 hg2 hat2 hlt2; have H2 := Lib.hid hown2; have HB2 : Hid (Below (w.heap.size + 1) (w.alloc (.cells #[.int .i64 16, .string s, .slice ga n gc, .slice da m dc] 25)) w2) := Lib.hid ((HB1.out.alloc (by omega) _).grown hg2 (by simp; omega) (fun k hk => (H1.out.lt k hk).1)); have hs2 := HB2.out.size; simp at hs2; have y02 := box0 HB2.out; have y32 := box3 HB2.out; have y12 := box1 HB2.out; clear hown2 hg2 hat2; clear y01 y11 y31)
    | (go_at_call 74; refine (all_any (w.heap.size + 1) [] 0 0 none 0 m _ (by simp) rfl (by decide) hm (World.ownsRow_nil _ _ _ _)).mono ?_; rintro e w1 ⟨a1, n1, c1, rfl, hn1, ho1, hb1⟩; have H1 := Lib.hid ho1; have HN1 := Lib.hid hn1; have hnb1 : n1 ≤ 300000 := (by rw [hn1]; exact all_le _ _ _ hm (by decide)); have HB1 : Hid (Below (w.heap.size + 1) (w.alloc (.cells #[.int .i64 16, .string s, .slice ga n gc, .slice da m dc] 25)) w1) := Lib.hid hb1; have hs1 := HB1.out.size; simp at hs1; have y01 := box0 HB1.out; have y31 := box3 HB1.out; have y11 := box1 HB1.out; clear hn1 ho1 hb1))
  go_ret
  refine ⟨_, _, cap2, rfl, ?_, owns_low ?_ (Nat.le_succ _), (box_below w _).trans (HB2.out.mono (by omega))⟩
  · rw [HN1.out]; simp
  · have h := H2.out; rw [intV_snoc] at h; exact h
set_option maxHeartbeats 1600000 in
theorem order_20 (s : ByteArray) (n m gc dc : Nat) (ga da : Option Addr) (w : World) (hm : m ≤ 100000) :
    Calls Tryz.prog 51 #[.agg #[.int .i64 20, .string s, .slice ga n gc, .slice da m dc]] w (IntP w.heap.size ([-1, -1] ++ Pl.rcommas 0 m ++ [-1]) w) := by
  obtain ⟨i0, hi0, hz0, hz1, hz2⟩ := info_parts infoI
  go_enter Tryz.func51, Tryz.ntmps51
  go_wp2_with (first
    | (at_builtin; have gd := H3; clear gd; refine wpList_append_lies _ rfl _ _ 63 rfl (w.heap.size + 1) 3 i0 _ 1 8 Tryz.underlying63 hi0 hz0 hz1 hz2 rfl (by decide) _ _ _ rfl (World.ownsRow.alloc H3.out _) ⟨w3.heap.size, 0, none⟩ 1 1 [.int .i64 (-1)] rfl rfl (news_one 1 [.int .i64 (-1)] rfl) (by simp [Value.oneCell']) (by decide) (by unfold maxLen; omega) (by omega) (by simp; try omega) _ rfl ?_; intro g4 cap4 w4 hown4 hg4 hat4 hlt4; have H4 := Lib.hid hown4; have HB4 : Hid (Below (w.heap.size + 1) (w.alloc (.cells #[.int .i64 20, .string s, .slice ga n gc, .slice da m dc] 25)) w4) := Lib.hid ((HB3.out.alloc (by omega) _).grown hg4 (by simp; omega) (fun k hk => (H3.out.lt k hk).1)); have hs4 := HB4.out.size; simp at hs4; have y04 := box0 HB4.out; have y34 := box3 HB4.out; have y14 := box1 HB4.out; clear hown4 hg4 hat4; clear y03 y13 y33)
    | (go_at_call 73; refine (commas_any (w.heap.size + 1) [(-1), (-1)] 2 cap2 (some ⟨g2, 0, none⟩) 0 m w2 hs2 rfl (by decide) hm H2.out).mono ?_; rintro e w3 ⟨a3, n3, c3, rfl, hn3, ho3, hb3⟩; have H3 := Lib.hid ho3; have HN3 := Lib.hid hn3; have hnb3 : n3 ≤ 300000 := (by rw [hn3]; exact commas_le _ _ _ hm (by decide)); have HB3 : Hid (Below (w.heap.size + 1) (w.alloc (.cells #[.int .i64 20, .string s, .slice ga n gc, .slice da m dc] 25)) w3) := Lib.hid (HB2.out.trans hb3); have hs3 := HB3.out.size; simp at hs3; have y03 := box0 HB3.out; have y33 := box3 HB3.out; have y13 := box1 HB3.out; clear hn3 ho3 hb3; clear y02 y12 y32)
    | (at_builtin; have gd := H1; clear gd; refine wpList_append_lies _ rfl _ _ 63 rfl (w.heap.size + 1) 3 i0 _ 1 8 Tryz.underlying63 hi0 hz0 hz1 hz2 rfl (by decide) _ _ _ rfl (World.ownsRow.alloc H1.out _) ⟨w1.heap.size, 0, none⟩ 1 1 [.int .i64 (-1)] rfl rfl (news_one 1 [.int .i64 (-1)] rfl) (by simp [Value.oneCell']) (by decide) (by unfold maxLen; omega) (by omega) (by simp; try omega) _ rfl ?_; intro g2 cap2 w2 hown2 hg2 hat2 hlt2; have H2 := Lib.hid hown2; have HB2 : Hid (Below (w.heap.size + 1) (w.alloc (.cells #[.int .i64 20, .string s, .slice ga n gc, .slice da m dc] 25)) w2) := Lib.hid ((HB1.out.alloc (by omega) _).grown hg2 (by simp; omega) (fun k hk => (H1.out.lt k hk).1)); have hs2 := HB2.out.size; simp at hs2; have y02 := box0 HB2.out; have y32 := box3 HB2.out; have y12 := box1 HB2.out; clear hown2 hg2 hat2; clear y01 y11 y31)
    | (at_builtin; refine wpList_append_lies _ rfl _ _ 63 rfl (w.heap.size + 1) 3 i0 _ 1 8 Tryz.underlying63 hi0 hz0 hz1 hz2 rfl (by decide) _ _ _ rfl (World.ownsRow_nil _ _ _ _) ⟨w.heap.size + 1, 0, none⟩ 1 1 [.int .i64 (-1)] rfl rfl (news_at 1 [.int .i64 (-1)] rfl) (by simp [Value.oneCell']) (by decide) (by unfold maxLen; omega) (by omega) (by simp; try omega) _ rfl ?_; intro g1 cap1 w1 hown1 hg1 hat1 hlt1; have H1 := Lib.hid hown1; have HB1 : Hid (Below (w.heap.size + 1) (w.alloc (.cells #[.int .i64 20, .string s, .slice ga n gc, .slice da m dc] 25)) w1) := Lib.hid (((Below.refl _ _).alloc (by simp) _).grown hg1 (by simp) (fun k hk => by cases hk)); have hs1 := HB1.out.size; simp at hs1; have y01 := box0 HB1.out; have y31 := box3 HB1.out; have y11 := box1 HB1.out; clear hown1 hg1 hat1))
  go_ret
  refine ⟨_, _, cap4, rfl, ?_, owns_low ?_ (Nat.le_succ _), (box_below w _).trans (HB4.out.mono (by omega))⟩
  · rw [HN3.out]; simp
  · have h := H4.out; rw [intV_snoc] at h; exact h
set_option maxHeartbeats 1600000 in
theorem order_21 (s : ByteArray) (n m gc dc : Nat) (ga da : Option Addr) (w : World) (hm : m ≤ 100000) :
    Calls Tryz.prog 51 #[.agg #[.int .i64 21, .string s, .slice ga n gc, .slice da m dc]] w (IntP w.heap.size ([0, -1, -1, -1] ++ Pl.rcommas 1 m ++ [-1]) w) := by
  obtain ⟨i0, hi0, hz0, hz1, hz2⟩ := info_parts infoI
  go_enter Tryz.func51, Tryz.ntmps51
  go_wp2_with (first
    | (at_builtin; have gd := H2; clear gd; refine wpList_append_lies _ rfl _ _ 63 rfl (w.heap.size + 1) 3 i0 _ 1 8 Tryz.underlying63 hi0 hz0 hz1 hz2 rfl (by decide) _ _ _ rfl (World.ownsRow.alloc H2.out _) ⟨w2.heap.size, 0, none⟩ 1 1 [.int .i64 (-1)] rfl rfl (news_one 1 [.int .i64 (-1)] rfl) (by simp [Value.oneCell']) (by decide) (by unfold maxLen; omega) (by omega) (by simp; try omega) _ rfl ?_; intro g3 cap3 w3 hown3 hg3 hat3 hlt3; have H3 := Lib.hid hown3; have HB3 : Hid (Below (w.heap.size + 1) (w.alloc (.cells #[.int .i64 21, .string s, .slice ga n gc, .slice da m dc] 25)) w3) := Lib.hid ((HB2.out.alloc (by omega) _).grown hg3 (by simp; omega) (fun k hk => (H2.out.lt k hk).1)); have hs3 := HB3.out.size; simp at hs3; have y03 := box0 HB3.out; have y33 := box3 HB3.out; have y13 := box1 HB3.out; clear hown3 hg3 hat3; clear y02 y12 y32)
    | (go_at_call 73; refine (commas_any (w.heap.size + 1) [(0), (-1), (-1), (-1)] 4 cap1 (some ⟨g1, 0, none⟩) 1 m w1 hs1 rfl (by decide) hm H1.out).mono ?_; rintro e w2 ⟨a2, n2, c2, rfl, hn2, ho2, hb2⟩; have H2 := Lib.hid ho2; have HN2 := Lib.hid hn2; have hnb2 : n2 ≤ 300000 := (by rw [hn2]; exact commas_le _ _ _ hm (by decide)); have HB2 : Hid (Below (w.heap.size + 1) (w.alloc (.cells #[.int .i64 21, .string s, .slice ga n gc, .slice da m dc] 25)) w2) := Lib.hid (HB1.out.trans hb2); have hs2 := HB2.out.size; simp at hs2; have y02 := box0 HB2.out; have y32 := box3 HB2.out; have y12 := box1 HB2.out; clear hn2 ho2 hb2; clear y01 y11 y31)
    | (at_builtin; refine wpList_append_lies _ rfl _ _ 63 rfl (w.heap.size + 1) 3 i0 _ 1 8 Tryz.underlying63 hi0 hz0 hz1 hz2 rfl (by decide) _ _ _ rfl (World.ownsRow_nil _ _ _ _) ⟨w.heap.size + 1, 0, none⟩ 4 4 [.int .i64 (0), .int .i64 (-1), .int .i64 (-1), .int .i64 (-1)] rfl rfl (news_at 4 [.int .i64 (0), .int .i64 (-1), .int .i64 (-1), .int .i64 (-1)] rfl) (by simp [Value.oneCell']) (by decide) (by unfold maxLen; omega) (by omega) (by simp; try omega) _ rfl ?_; intro g1 cap1 w1 hown1 hg1 hat1 hlt1; have H1 := Lib.hid hown1; have HB1 : Hid (Below (w.heap.size + 1) (w.alloc (.cells #[.int .i64 21, .string s, .slice ga n gc, .slice da m dc] 25)) w1) := Lib.hid (((Below.refl _ _).alloc (by simp) _).grown hg1 (by simp) (fun k hk => by cases hk)); have hs1 := HB1.out.size; simp at hs1; have y01 := box0 HB1.out; have y31 := box3 HB1.out; have y11 := box1 HB1.out; clear hown1 hg1 hat1))
  go_ret
  refine ⟨_, _, cap3, rfl, ?_, owns_low ?_ (Nat.le_succ _), (box_below w _).trans (HB3.out.mono (by omega))⟩
  · rw [HN2.out]; simp
  · have h := H3.out; rw [intV_snoc] at h; exact h
set_option maxHeartbeats 1600000 in
theorem order_22 (s : ByteArray) (n m gc dc : Nat) (ga da : Option Addr) (w : World) (hm : m ≤ 100000) :
    Calls Tryz.prog 51 #[.agg #[.int .i64 22, .string s, .slice ga n gc, .slice da m dc]] w (IntP w.heap.size ([-1, -1, -1, -1]) w) := by
  obtain ⟨i0, hi0, hz0, hz1, hz2⟩ := info_parts infoI
  go_enter Tryz.func51, Tryz.ntmps51
  go_wp2_with (first
    | (at_builtin; refine wpList_append_lies _ rfl _ _ 63 rfl (w.heap.size + 1) 3 i0 _ 1 8 Tryz.underlying63 hi0 hz0 hz1 hz2 rfl (by decide) _ _ _ rfl (World.ownsRow_nil _ _ _ _) ⟨w.heap.size + 1, 0, none⟩ 4 4 [.int .i64 (-1), .int .i64 (-1), .int .i64 (-1), .int .i64 (-1)] rfl rfl (news_at 4 [.int .i64 (-1), .int .i64 (-1), .int .i64 (-1), .int .i64 (-1)] rfl) (by simp [Value.oneCell']) (by decide) (by unfold maxLen; omega) (by omega) (by simp; try omega) _ rfl ?_; intro g1 cap1 w1 hown1 hg1 hat1 hlt1; have H1 := Lib.hid hown1; have HB1 : Hid (Below (w.heap.size + 1) (w.alloc (.cells #[.int .i64 22, .string s, .slice ga n gc, .slice da m dc] 25)) w1) := Lib.hid (((Below.refl _ _).alloc (by simp) _).grown hg1 (by simp) (fun k hk => by cases hk)); have hs1 := HB1.out.size; simp at hs1; have y01 := box0 HB1.out; have y31 := box3 HB1.out; have y11 := box1 HB1.out; clear hown1 hg1 hat1))
  go_ret
  exact ⟨_, _, cap1, rfl, rfl, owns_low H1.out (Nat.le_succ _), (box_below w _).trans (HB1.out.mono (by omega))⟩
set_option maxHeartbeats 1600000 in
theorem order_24 (s : ByteArray) (n m gc dc : Nat) (ga da : Option Addr) (w : World) (hm : m ≤ 100000) :
    Calls Tryz.prog 51 #[.agg #[.int .i64 24, .string s, .slice ga n gc, .slice da m dc]] w (IntP w.heap.size ([0, -1, 1]) w) := by
  obtain ⟨i0, hi0, hz0, hz1, hz2⟩ := info_parts infoI
  go_enter Tryz.func51, Tryz.ntmps51
  go_wp2_with (first
    | (at_builtin; refine wpList_append_lies _ rfl _ _ 63 rfl (w.heap.size + 1) 3 i0 _ 1 8 Tryz.underlying63 hi0 hz0 hz1 hz2 rfl (by decide) _ _ _ rfl (World.ownsRow_nil _ _ _ _) ⟨w.heap.size + 1, 0, none⟩ 3 3 [.int .i64 (0), .int .i64 (-1), .int .i64 (1)] rfl rfl (news_at 3 [.int .i64 (0), .int .i64 (-1), .int .i64 (1)] rfl) (by simp [Value.oneCell']) (by decide) (by unfold maxLen; omega) (by omega) (by simp; try omega) _ rfl ?_; intro g1 cap1 w1 hown1 hg1 hat1 hlt1; have H1 := Lib.hid hown1; have HB1 : Hid (Below (w.heap.size + 1) (w.alloc (.cells #[.int .i64 24, .string s, .slice ga n gc, .slice da m dc] 25)) w1) := Lib.hid (((Below.refl _ _).alloc (by simp) _).grown hg1 (by simp) (fun k hk => by cases hk)); have hs1 := HB1.out.size; simp at hs1; have y01 := box0 HB1.out; have y31 := box3 HB1.out; have y11 := box1 HB1.out; clear hown1 hg1 hat1))
  go_ret
  exact ⟨_, _, cap1, rfl, rfl, owns_low H1.out (Nat.le_succ _), (box_below w _).trans (HB1.out.mono (by omega))⟩
set_option maxHeartbeats 1600000 in
theorem order_25 (s : ByteArray) (n m gc dc : Nat) (ga da : Option Addr) (w : World) (hm : m ≤ 100000) :
    Calls Tryz.prog 51 #[.agg #[.int .i64 25, .string s, .slice ga n gc, .slice da m dc]] w (IntP w.heap.size ([-1, 0]) w) := by
  obtain ⟨i0, hi0, hz0, hz1, hz2⟩ := info_parts infoI
  go_enter Tryz.func51, Tryz.ntmps51
  go_wp2_with (first
    | (at_builtin; refine wpList_append_lies _ rfl _ _ 63 rfl (w.heap.size + 1) 3 i0 _ 1 8 Tryz.underlying63 hi0 hz0 hz1 hz2 rfl (by decide) _ _ _ rfl (World.ownsRow_nil _ _ _ _) ⟨w.heap.size + 1, 0, none⟩ 2 2 [.int .i64 (-1), .int .i64 (0)] rfl rfl (news_at 2 [.int .i64 (-1), .int .i64 (0)] rfl) (by simp [Value.oneCell']) (by decide) (by unfold maxLen; omega) (by omega) (by simp; try omega) _ rfl ?_; intro g1 cap1 w1 hown1 hg1 hat1 hlt1; have H1 := Lib.hid hown1; have HB1 : Hid (Below (w.heap.size + 1) (w.alloc (.cells #[.int .i64 25, .string s, .slice ga n gc, .slice da m dc] 25)) w1) := Lib.hid (((Below.refl _ _).alloc (by simp) _).grown hg1 (by simp) (fun k hk => by cases hk)); have hs1 := HB1.out.size; simp at hs1; have y01 := box0 HB1.out; have y31 := box3 HB1.out; have y11 := box1 HB1.out; clear hown1 hg1 hat1))
  go_ret
  exact ⟨_, _, cap1, rfl, rfl, owns_low H1.out (Nat.le_succ _), (box_below w _).trans (HB1.out.mono (by omega))⟩
set_option maxHeartbeats 1600000 in
theorem order_26 (s : ByteArray) (n m gc dc : Nat) (ga da : Option Addr) (w : World) (hm : m ≤ 100000) :
    Calls Tryz.prog 51 #[.agg #[.int .i64 26, .string s, .slice ga n gc, .slice da m dc]] w (IntP w.heap.size ([-1] ++ Pl.rall 0 m ++ [-1]) w) := by
  obtain ⟨i0, hi0, hz0, hz1, hz2⟩ := info_parts infoI
  go_enter Tryz.func51, Tryz.ntmps51
  go_wp2_with (first
    | (at_builtin; have gd := H2; clear gd; refine wpList_append_lies _ rfl _ _ 63 rfl (w.heap.size + 1) 3 i0 _ 1 8 Tryz.underlying63 hi0 hz0 hz1 hz2 rfl (by decide) _ _ _ rfl (World.ownsRow.alloc H2.out _) ⟨w2.heap.size, 0, none⟩ 1 1 [.int .i64 (-1)] rfl rfl (news_one 1 [.int .i64 (-1)] rfl) (by simp [Value.oneCell']) (by decide) (by unfold maxLen; omega) (by omega) (by simp; try omega) _ rfl ?_; intro g3 cap3 w3 hown3 hg3 hat3 hlt3; have H3 := Lib.hid hown3; have HB3 : Hid (Below (w.heap.size + 1) (w.alloc (.cells #[.int .i64 26, .string s, .slice ga n gc, .slice da m dc] 25)) w3) := Lib.hid ((HB2.out.alloc (by omega) _).grown hg3 (by simp; omega) (fun k hk => (H2.out.lt k hk).1)); have hs3 := HB3.out.size; simp at hs3; have y03 := box0 HB3.out; have y33 := box3 HB3.out; have y13 := box1 HB3.out; clear hown3 hg3 hat3; clear y02 y12 y32)
    | (go_at_call 74; refine (all_any (w.heap.size + 1) [(-1)] 1 cap1 (some ⟨g1, 0, none⟩) 0 m w1 hs1 rfl (by decide) hm H1.out).mono ?_; rintro e w2 ⟨a2, n2, c2, rfl, hn2, ho2, hb2⟩; have H2 := Lib.hid ho2; have HN2 := Lib.hid hn2; have hnb2 : n2 ≤ 300000 := (by rw [hn2]; exact all_le _ _ _ hm (by decide)); have HB2 : Hid (Below (w.heap.size + 1) (w.alloc (.cells #[.int .i64 26, .string s, .slice ga n gc, .slice da m dc] 25)) w2) := Lib.hid (HB1.out.trans hb2); have hs2 := HB2.out.size; simp at hs2; have y02 := box0 HB2.out; have y32 := box3 HB2.out; have y12 := box1 HB2.out; clear hn2 ho2 hb2; clear y01 y11 y31)
    | (at_builtin; refine wpList_append_lies _ rfl _ _ 63 rfl (w.heap.size + 1) 3 i0 _ 1 8 Tryz.underlying63 hi0 hz0 hz1 hz2 rfl (by decide) _ _ _ rfl (World.ownsRow_nil _ _ _ _) ⟨w.heap.size + 1, 0, none⟩ 1 1 [.int .i64 (-1)] rfl rfl (news_at 1 [.int .i64 (-1)] rfl) (by simp [Value.oneCell']) (by decide) (by unfold maxLen; omega) (by omega) (by simp; try omega) _ rfl ?_; intro g1 cap1 w1 hown1 hg1 hat1 hlt1; have H1 := Lib.hid hown1; have HB1 : Hid (Below (w.heap.size + 1) (w.alloc (.cells #[.int .i64 26, .string s, .slice ga n gc, .slice da m dc] 25)) w1) := Lib.hid (((Below.refl _ _).alloc (by simp) _).grown hg1 (by simp) (fun k hk => by cases hk)); have hs1 := HB1.out.size; simp at hs1; have y01 := box0 HB1.out; have y31 := box3 HB1.out; have y11 := box1 HB1.out; clear hown1 hg1 hat1))
  go_ret
  refine ⟨_, _, cap3, rfl, ?_, owns_low ?_ (Nat.le_succ _), (box_below w _).trans (HB3.out.mono (by omega))⟩
  · rw [HN2.out]; simp
  · have h := H3.out; rw [intV_snoc] at h; exact h
set_option maxHeartbeats 1600000 in
theorem order_8e (s : ByteArray) (n m gc dc : Nat) (ga da : Option Addr) (w : World) (hm : m ≤ 100000) (hz : s.size = 0) :
    Calls Tryz.prog 51 #[.agg #[.int .i64 8, .string s, .slice ga n gc, .slice da m dc]] w (IntP w.heap.size ([]) w) := by
  obtain ⟨i0, hi0, hz0, hz1, hz2⟩ := info_parts infoI
  have s1 : s.toList.isEmpty = true := by rw [Pl.toList_eq, List.isEmpty_iff_length_eq_zero, ← Lib.size_eq]; exact hz
  go_enter Tryz.func51, Tryz.ntmps51
  go_wp2_with fail
  go_ret
  exact ⟨none, 0, 0, rfl, rfl, World.ownsRow_nil _ _ _ _, box_below w _⟩
set_option maxHeartbeats 1600000 in
theorem order_8n (s : ByteArray) (n m gc dc : Nat) (ga da : Option Addr) (w : World) (hm : m ≤ 100000) (hz : ¬ s.size = 0) :
    Calls Tryz.prog 51 #[.agg #[.int .i64 8, .string s, .slice ga n gc, .slice da m dc]] w (IntP w.heap.size ([-1, -1]) w) := by
  obtain ⟨i0, hi0, hz0, hz1, hz2⟩ := info_parts infoI
  obtain ⟨s1, s2, s3⟩ := Pl.not_empty s (by omega)
  go_enter Tryz.func51, Tryz.ntmps51
  go_wp2_with (first
    | (at_builtin; refine wpList_append_lies _ rfl _ _ 63 rfl (w.heap.size + 1) 3 i0 _ 1 8 Tryz.underlying63 hi0 hz0 hz1 hz2 rfl (by decide) _ _ _ rfl (World.ownsRow_nil _ _ _ _) ⟨w.heap.size + 1, 0, none⟩ 2 2 [.int .i64 (-1), .int .i64 (-1)] rfl rfl (news_at 2 [.int .i64 (-1), .int .i64 (-1)] rfl) (by simp [Value.oneCell']) (by decide) (by unfold maxLen; omega) (by omega) (by simp; try omega) _ rfl ?_; intro g1 cap1 w1 hown1 hg1 hat1 hlt1; have H1 := Lib.hid hown1; have HB1 : Hid (Below (w.heap.size + 1) (w.alloc (.cells #[.int .i64 8, .string s, .slice ga n gc, .slice da m dc] 25)) w1) := Lib.hid (((Below.refl _ _).alloc (by simp) _).grown hg1 (by simp) (fun k hk => by cases hk)); have hs1 := HB1.out.size; simp at hs1; have y01 := box0 HB1.out; have y31 := box3 HB1.out; have y11 := box1 HB1.out; clear hown1 hg1 hat1))
  go_ret
  exact ⟨_, _, cap1, rfl, rfl, owns_low H1.out (Nat.le_succ _), (box_below w _).trans (HB1.out.mono (by omega))⟩
set_option maxHeartbeats 1600000 in
theorem order_14z (s : ByteArray) (n m gc dc : Nat) (ga da : Option Addr) (w : World) (hm : m ≤ 100000) (hz : m = 0) :
    Calls Tryz.prog 51 #[.agg #[.int .i64 14, .string s, .slice ga n gc, .slice da m dc]] w (IntP w.heap.size ([]) w) := by
  obtain ⟨i0, hi0, hz0, hz1, hz2⟩ := info_parts infoI
  subst hz
  go_enter Tryz.func51, Tryz.ntmps51
  go_wp2_with fail
  go_ret
  exact ⟨none, 0, 0, rfl, rfl, World.ownsRow_nil _ _ _ _, box_below w _⟩
set_option maxHeartbeats 1600000 in
theorem order_14n (s : ByteArray) (n m gc dc : Nat) (ga da : Option Addr) (w : World) (hm : m ≤ 100000) (hz : ¬ m = 0) :
    Calls Tryz.prog 51 #[.agg #[.int .i64 14, .string s, .slice ga n gc, .slice da m dc]] w (IntP w.heap.size ([-1, 0]) w) := by
  obtain ⟨i0, hi0, hz0, hz1, hz2⟩ := info_parts infoI
  have m1 : (m == 0) = false := by simpa using hz
  have m2 : ((m : Int) == 0) = false := by simp; omega
  go_enter Tryz.func51, Tryz.ntmps51
  go_wp2_with (first
    | (at_builtin; refine wpList_append_lies _ rfl _ _ 63 rfl (w.heap.size + 1) 3 i0 _ 1 8 Tryz.underlying63 hi0 hz0 hz1 hz2 rfl (by decide) _ _ _ rfl (World.ownsRow_nil _ _ _ _) ⟨w.heap.size + 1, 0, none⟩ 2 2 [.int .i64 (-1), .int .i64 (0)] rfl rfl (news_at 2 [.int .i64 (-1), .int .i64 (0)] rfl) (by simp [Value.oneCell']) (by decide) (by unfold maxLen; omega) (by omega) (by simp; try omega) _ rfl ?_; intro g1 cap1 w1 hown1 hg1 hat1 hlt1; have H1 := Lib.hid hown1; have HB1 : Hid (Below (w.heap.size + 1) (w.alloc (.cells #[.int .i64 14, .string s, .slice ga n gc, .slice da m dc] 25)) w1) := Lib.hid (((Below.refl _ _).alloc (by simp) _).grown hg1 (by simp) (fun k hk => by cases hk)); have hs1 := HB1.out.size; simp at hs1; have y01 := box0 HB1.out; have y31 := box3 HB1.out; have y11 := box1 HB1.out; clear hown1 hg1 hat1))
  go_ret
  exact ⟨_, _, cap1, rfl, rfl, owns_low H1.out (Nat.le_succ _), (box_below w _).trans (HB1.out.mono (by omega))⟩
set_option maxHeartbeats 1600000 in
theorem order_rest (k : Int) (s : ByteArray) (n m gc dc : Nat) (ga da : Option Addr) (w : World) (hm : m ≤ 100000) (n1 : ¬ k = 1) (n2 : ¬ k = 2) (n3 : ¬ k = 3) (n4 : ¬ k = 4) (n6 : ¬ k = 6) (n7 : ¬ k = 7) (n8 : ¬ k = 8) (n9 : ¬ k = 9) (n10 : ¬ k = 10) (n11 : ¬ k = 11) (n12 : ¬ k = 12) (n13 : ¬ k = 13) (n14 : ¬ k = 14) (n15 : ¬ k = 15) (n16 : ¬ k = 16) (n20 : ¬ k = 20) (n21 : ¬ k = 21) (n22 : ¬ k = 22) (n24 : ¬ k = 24) (n25 : ¬ k = 25) (n26 : ¬ k = 26) :
    Calls Tryz.prog 51 #[.agg #[.int .i64 k, .string s, .slice ga n gc, .slice da m dc]] w (IntP w.heap.size ([-1]) w) := by
  obtain ⟨i0, hi0, hz0, hz1, hz2⟩ := info_parts infoI
  have b1 : (k == 1) = false := by simpa using n1
  have b2 : (k == 2) = false := by simpa using n2
  have b3 : (k == 3) = false := by simpa using n3
  have b4 : (k == 4) = false := by simpa using n4
  have b6 : (k == 6) = false := by simpa using n6
  have b7 : (k == 7) = false := by simpa using n7
  have b8 : (k == 8) = false := by simpa using n8
  have b9 : (k == 9) = false := by simpa using n9
  have b10 : (k == 10) = false := by simpa using n10
  have b11 : (k == 11) = false := by simpa using n11
  have b12 : (k == 12) = false := by simpa using n12
  have b13 : (k == 13) = false := by simpa using n13
  have b14 : (k == 14) = false := by simpa using n14
  have b15 : (k == 15) = false := by simpa using n15
  have b16 : (k == 16) = false := by simpa using n16
  have b20 : (k == 20) = false := by simpa using n20
  have b21 : (k == 21) = false := by simpa using n21
  have b22 : (k == 22) = false := by simpa using n22
  have b24 : (k == 24) = false := by simpa using n24
  have b25 : (k == 25) = false := by simpa using n25
  have b26 : (k == 26) = false := by simpa using n26
  go_enter Tryz.func51, Tryz.ntmps51
  go_wp2_with (first
    | (at_builtin; refine wpList_append_lies _ rfl _ _ 63 rfl (w.heap.size + 1) 3 i0 _ 1 8 Tryz.underlying63 hi0 hz0 hz1 hz2 rfl (by decide) _ _ _ rfl (World.ownsRow_nil _ _ _ _) ⟨w.heap.size + 1, 0, none⟩ 1 1 [.int .i64 (-1)] rfl rfl (news_at 1 [.int .i64 (-1)] rfl) (by simp [Value.oneCell']) (by decide) (by unfold maxLen; omega) (by omega) (by simp; try omega) _ rfl ?_; intro g1 cap1 w1 hown1 hg1 hat1 hlt1; have H1 := Lib.hid hown1; have HB1 : Hid (Below (w.heap.size + 1) (w.alloc (.cells #[.int .i64 k, .string s, .slice ga n gc, .slice da m dc] 25)) w1) := Lib.hid (((Below.refl _ _).alloc (by simp) _).grown hg1 (by simp) (fun k hk => by cases hk)); have hs1 := HB1.out.size; simp at hs1; have y01 := box0 HB1.out; have y31 := box3 HB1.out; have y11 := box1 HB1.out; clear hown1 hg1 hat1))
  go_ret
  exact ⟨_, _, cap1, rfl, rfl, owns_low H1.out (Nat.le_succ _), (box_below w _).trans (HB1.out.mono (by omega))⟩
theorem order_any (k : Int) (s : ByteArray) (n m gc dc : Nat) (ga da : Option Addr) (w : World) (hm : m ≤ 100000) :
    Calls Tryz.prog 51 #[.agg #[.int .i64 k, .string s, .slice ga n gc, .slice da m dc]] w (IntP w.heap.size (Pl.rorder k s m) w) := by
  by_cases e1 : k = 1
  · subst e1
    exact order_1 s n m gc dc ga da w hm
  by_cases e2 : k = 2
  · subst e2
    exact order_2 s n m gc dc ga da w hm
  by_cases e3 : k = 3
  · subst e3
    exact order_3 s n m gc dc ga da w hm
  by_cases e4 : k = 4
  · subst e4
    exact order_4 s n m gc dc ga da w hm
  by_cases e6 : k = 6
  · subst e6
    exact order_6 s n m gc dc ga da w hm
  by_cases e7 : k = 7
  · subst e7
    exact order_7 s n m gc dc ga da w hm
  by_cases e8 : k = 8
  · subst e8
    by_cases h : s.size = 0
    · rw [show Pl.rorder 8 s m = if s.size = 0 then [] else _ from rfl, if_pos h]; exact order_8e s n m gc dc ga da w hm h
    · rw [show Pl.rorder 8 s m = if s.size = 0 then [] else _ from rfl, if_neg h]; exact order_8n s n m gc dc ga da w hm h
  by_cases e9 : k = 9
  · subst e9
    exact order_9 s n m gc dc ga da w hm
  by_cases e10 : k = 10
  · subst e10
    exact order_10 s n m gc dc ga da w hm
  by_cases e11 : k = 11
  · subst e11
    exact order_11 s n m gc dc ga da w hm
  by_cases e12 : k = 12
  · subst e12
    exact order_12 s n m gc dc ga da w hm
  by_cases e13 : k = 13
  · subst e13
    exact order_13 s n m gc dc ga da w hm
  by_cases e14 : k = 14
  · subst e14
    by_cases h : m = 0
    · rw [show Pl.rorder 14 s m = if m = 0 then [] else _ from rfl, if_pos h]; exact order_14z s n m gc dc ga da w hm h
    · rw [show Pl.rorder 14 s m = if m = 0 then [] else _ from rfl, if_neg h]; exact order_14n s n m gc dc ga da w hm h
  by_cases e15 : k = 15
  · subst e15
    exact order_15 s n m gc dc ga da w hm
  by_cases e16 : k = 16
  · subst e16
    exact order_16 s n m gc dc ga da w hm
  by_cases e20 : k = 20
  · subst e20
    exact order_20 s n m gc dc ga da w hm
  by_cases e21 : k = 21
  · subst e21
    exact order_21 s n m gc dc ga da w hm
  by_cases e22 : k = 22
  · subst e22
    exact order_22 s n m gc dc ga da w hm
  by_cases e24 : k = 24
  · subst e24
    exact order_24 s n m gc dc ga da w hm
  by_cases e25 : k = 25
  · subst e25
    exact order_25 s n m gc dc ga da w hm
  by_cases e26 : k = 26
  · subst e26
    exact order_26 s n m gc dc ga da w hm
  unfold Pl.rorder
  rw [if_neg e3, if_neg e20, if_neg e21, if_neg (by omega), if_neg e2, if_neg (by omega), if_neg (by omega), if_neg e7, if_neg (by omega), if_neg e11, if_neg (by omega), if_neg e24, if_neg e22, if_neg e8, if_neg e14]
  exact order_rest k s n m gc dc ga da w hm e1 e2 e3 e4 e6 e7 e8 e9 e10 e11 e12 e13 e14 e15 e16 e20 e21 e22 e24 e25 e26
end Go.Proofs.YtiaajpdcacdngaaGreatDoor.Rf
