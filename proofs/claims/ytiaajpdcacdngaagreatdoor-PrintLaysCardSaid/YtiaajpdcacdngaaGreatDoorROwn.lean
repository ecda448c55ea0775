/- The walk of the printer's reference: Own, for the kinds without a list. -/
import Derived.Test.YtiaajpdcacdngaaGreatDoorLBase
import Derived.Deep.AppendLies
import Derived.OwnWalk
namespace Go.Proofs.YtiaajpdcacdngaaGreatDoor.Rf
open Go.RowKit
set_option linter.unusedVariables false
set_option linter.unusedSimpArgs false
set_option maxRecDepth 100000

theorem info_parts {sz by' : Nat} {z : Value} {o : Option TypeInfo} (h : o.map (fun i => (i.zero, i.size, i.bytes)) = some (some z, sz, by')) : ∃ i, o = some i ∧ i.zero = some z ∧ i.size = sz ∧ i.bytes = by' := by
  obtain ⟨i, hi, hzz⟩ := Option.map_eq_some_iff.1 h
  simp only [Prod.mk.injEq] at hzz
  exact ⟨i, hi, hzz.1, hzz.2.1, hzz.2.2⟩
theorem news_at {w : World} {o : Obj} {T : TypeId} (n : Nat) (vs : List Value) (h : vs.length = n) : ∀ (j : Nat) u, vs[j]? = some u → ((w.alloc o).alloc (.cells vs.toArray T)).cell? ((⟨w.heap.size + 1, 0, none⟩ : Addr).add j) = some u := by
  have := World.news_of_block (w := (w.alloc o).alloc (.cells vs.toArray T)) (cs := vs.toArray) (t := T) (fr := (0, 0)) (heap_alloc_new (w.alloc o) _)
  simpa using this
def OwnS (xs : List ByteArray) (w : World) (e : Ending) (w' : World) : Prop :=
  ∃ a n c, e = .returned (.slice a n c) ∧ n = xs.length ∧ w'.ownsRow w.heap.size 9 1 (.slice a n c) n (strV xs) ∧ Below w.heap.size w w'
theorem owns_done {w w1 w2 : World} {a : Option Addr} {n c : Nat} {xs : List ByteArray} {vs : List Value} {row : Option Nat} (hn : n = xs.length) (hv : vs = strV xs) (hown : w2.ownsRow w.heap.size 9 1 (.slice a n c) n vs) (hb : Below w.heap.size w w1) (hg : w1.grownBy w2 row) (hr : ∀ k, row = some k → w.heap.size ≤ k) : OwnS xs w (.returned (.slice a n c)) w2 :=
  ⟨a, n, c, rfl, hn, hv ▸ hown, hb.grown hg hb.size hr⟩
theorem own_1 (s : ByteArray) (n m gc dc : Nat) (ga da : Option Addr) (w : World) :
    Calls Tryz.prog 50 #[.agg #[.int .i64 1, .string s, .slice ga n gc, .slice da m dc]] w (OwnS [⟨#[]⟩] w) := by
  obtain ⟨i0, hi0, hz0, hz1, hz2⟩ := info_parts infoS
  go_enter Tryz.func50, Tryz.ntmps50
  go_wp2_with (at_builtin; refine wpList_append_lies _ rfl _ _ 22 rfl w.heap.size 9 i0 _ 1 16 Tryz.underlying22 hi0 hz0 hz1 hz2 rfl (by decide) _ _ _ rfl (World.ownsRow_nil _ _ _ _) ⟨w.heap.size + 1, 0, none⟩ 1 1 [.string ⟨#[]⟩] rfl rfl (news_at 1 [.string ⟨#[]⟩] rfl) (by simp [Value.oneCell']) (by decide) (by decide) (by decide) (by simp; try omega) _ rfl ?_; intro g cap w2 hown hg hat hlt)
  go_ret
  exact owns_done rfl rfl hown ((box_below w _).alloc (by simp) _) hg (fun k hk => by cases hk)
theorem own_2 (s : ByteArray) (n m gc dc : Nat) (ga da : Option Addr) (w : World) :
    Calls Tryz.prog 50 #[.agg #[.int .i64 2, .string s, .slice ga n gc, .slice da m dc]] w (OwnS [⟨#[102, 110]⟩, s] w) := by
  obtain ⟨i0, hi0, hz0, hz1, hz2⟩ := info_parts infoS
  go_enter Tryz.func50, Tryz.ntmps50
  go_wp2_with (at_builtin; refine wpList_append_lies _ rfl _ _ 22 rfl w.heap.size 9 i0 _ 1 16 Tryz.underlying22 hi0 hz0 hz1 hz2 rfl (by decide) _ _ _ rfl (World.ownsRow_nil _ _ _ _) ⟨w.heap.size + 1, 0, none⟩ 2 2 [.string ⟨#[102, 110]⟩, .string s] rfl rfl (news_at 2 [.string ⟨#[102, 110]⟩, .string s] rfl) (by simp [Value.oneCell']) (by decide) (by decide) (by decide) (by simp; try omega) _ rfl ?_; intro g cap w2 hown hg hat hlt)
  go_ret
  exact owns_done rfl rfl hown ((box_below w _).alloc (by simp) _) hg (fun k hk => by cases hk)
theorem own_6 (s : ByteArray) (n m gc dc : Nat) (ga da : Option Addr) (w : World) :
    Calls Tryz.prog 50 #[.agg #[.int .i64 6, .string s, .slice ga n gc, .slice da m dc]] w (OwnS [⟨#[123]⟩, ⟨#[125]⟩] w) := by
  obtain ⟨i0, hi0, hz0, hz1, hz2⟩ := info_parts infoS
  go_enter Tryz.func50, Tryz.ntmps50
  go_wp2_with (at_builtin; refine wpList_append_lies _ rfl _ _ 22 rfl w.heap.size 9 i0 _ 1 16 Tryz.underlying22 hi0 hz0 hz1 hz2 rfl (by decide) _ _ _ rfl (World.ownsRow_nil _ _ _ _) ⟨w.heap.size + 1, 0, none⟩ 2 2 [.string ⟨#[123]⟩, .string ⟨#[125]⟩] rfl rfl (news_at 2 [.string ⟨#[123]⟩, .string ⟨#[125]⟩] rfl) (by simp [Value.oneCell']) (by decide) (by decide) (by decide) (by simp; try omega) _ rfl ?_; intro g cap w2 hown hg hat hlt)
  go_ret
  exact owns_done rfl rfl hown ((box_below w _).alloc (by simp) _) hg (fun k hk => by cases hk)
theorem own_7 (s : ByteArray) (n m gc dc : Nat) (ga da : Option Addr) (w : World) :
    Calls Tryz.prog 50 #[.agg #[.int .i64 7, .string s, .slice ga n gc, .slice da m dc]] w (OwnS [⟨#[99, 108, 97, 115, 115]⟩, s, ⟨#[123]⟩, ⟨#[125]⟩] w) := by
  obtain ⟨i0, hi0, hz0, hz1, hz2⟩ := info_parts infoS
  go_enter Tryz.func50, Tryz.ntmps50
  go_wp2_with (at_builtin; refine wpList_append_lies _ rfl _ _ 22 rfl w.heap.size 9 i0 _ 1 16 Tryz.underlying22 hi0 hz0 hz1 hz2 rfl (by decide) _ _ _ rfl (World.ownsRow_nil _ _ _ _) ⟨w.heap.size + 1, 0, none⟩ 4 4 [.string ⟨#[99, 108, 97, 115, 115]⟩, .string s, .string ⟨#[123]⟩, .string ⟨#[125]⟩] rfl rfl (news_at 4 [.string ⟨#[99, 108, 97, 115, 115]⟩, .string s, .string ⟨#[123]⟩, .string ⟨#[125]⟩] rfl) (by simp [Value.oneCell']) (by decide) (by decide) (by decide) (by simp; try omega) _ rfl ?_; intro g cap w2 hown hg hat hlt)
  go_ret
  exact owns_done rfl rfl hown ((box_below w _).alloc (by simp) _) hg (fun k hk => by cases hk)
theorem own_9 (s : ByteArray) (n m gc dc : Nat) (ga da : Option Addr) (w : World) :
    Calls Tryz.prog 50 #[.agg #[.int .i64 9, .string s, .slice ga n gc, .slice da m dc]] w (OwnS [⟨#[99, 111, 110, 115, 116]⟩, s, ⟨#[61]⟩, ⟨#[59]⟩] w) := by
  obtain ⟨i0, hi0, hz0, hz1, hz2⟩ := info_parts infoS
  go_enter Tryz.func50, Tryz.ntmps50
  go_wp2_with (at_builtin; refine wpList_append_lies _ rfl _ _ 22 rfl w.heap.size 9 i0 _ 1 16 Tryz.underlying22 hi0 hz0 hz1 hz2 rfl (by decide) _ _ _ rfl (World.ownsRow_nil _ _ _ _) ⟨w.heap.size + 1, 0, none⟩ 4 4 [.string ⟨#[99, 111, 110, 115, 116]⟩, .string s, .string ⟨#[61]⟩, .string ⟨#[59]⟩] rfl rfl (news_at 4 [.string ⟨#[99, 111, 110, 115, 116]⟩, .string s, .string ⟨#[61]⟩, .string ⟨#[59]⟩] rfl) (by simp [Value.oneCell']) (by decide) (by decide) (by decide) (by simp; try omega) _ rfl ?_; intro g cap w2 hown hg hat hlt)
  go_ret
  exact owns_done rfl rfl hown ((box_below w _).alloc (by simp) _) hg (fun k hk => by cases hk)
theorem own_10 (s : ByteArray) (n m gc dc : Nat) (ga da : Option Addr) (w : World) :
    Calls Tryz.prog 50 #[.agg #[.int .i64 10, .string s, .slice ga n gc, .slice da m dc]] w (OwnS [⟨#[108, 101, 116]⟩, s, ⟨#[61]⟩, ⟨#[59]⟩] w) := by
  obtain ⟨i0, hi0, hz0, hz1, hz2⟩ := info_parts infoS
  go_enter Tryz.func50, Tryz.ntmps50
  go_wp2_with (at_builtin; refine wpList_append_lies _ rfl _ _ 22 rfl w.heap.size 9 i0 _ 1 16 Tryz.underlying22 hi0 hz0 hz1 hz2 rfl (by decide) _ _ _ rfl (World.ownsRow_nil _ _ _ _) ⟨w.heap.size + 1, 0, none⟩ 4 4 [.string ⟨#[108, 101, 116]⟩, .string s, .string ⟨#[61]⟩, .string ⟨#[59]⟩] rfl rfl (news_at 4 [.string ⟨#[108, 101, 116]⟩, .string s, .string ⟨#[61]⟩, .string ⟨#[59]⟩] rfl) (by simp [Value.oneCell']) (by decide) (by decide) (by decide) (by simp; try omega) _ rfl ?_; intro g cap w2 hown hg hat hlt)
  go_ret
  exact owns_done rfl rfl hown ((box_below w _).alloc (by simp) _) hg (fun k hk => by cases hk)
theorem own_11 (s : ByteArray) (n m gc dc : Nat) (ga da : Option Addr) (w : World) :
    Calls Tryz.prog 50 #[.agg #[.int .i64 11, .string s, .slice ga n gc, .slice da m dc]] w (OwnS [s, ⟨#[61]⟩, ⟨#[59]⟩] w) := by
  obtain ⟨i0, hi0, hz0, hz1, hz2⟩ := info_parts infoS
  go_enter Tryz.func50, Tryz.ntmps50
  go_wp2_with (at_builtin; refine wpList_append_lies _ rfl _ _ 22 rfl w.heap.size 9 i0 _ 1 16 Tryz.underlying22 hi0 hz0 hz1 hz2 rfl (by decide) _ _ _ rfl (World.ownsRow_nil _ _ _ _) ⟨w.heap.size + 1, 0, none⟩ 3 3 [.string s, .string ⟨#[61]⟩, .string ⟨#[59]⟩] rfl rfl (news_at 3 [.string s, .string ⟨#[61]⟩, .string ⟨#[59]⟩] rfl) (by simp [Value.oneCell']) (by decide) (by decide) (by decide) (by simp; try omega) _ rfl ?_; intro g cap w2 hown hg hat hlt)
  go_ret
  exact owns_done rfl rfl hown ((box_below w _).alloc (by simp) _) hg (fun k hk => by cases hk)
theorem own_12 (s : ByteArray) (n m gc dc : Nat) (ga da : Option Addr) (w : World) :
    Calls Tryz.prog 50 #[.agg #[.int .i64 12, .string s, .slice ga n gc, .slice da m dc]] w (OwnS [⟨#[114, 101, 116, 117, 114, 110]⟩, ⟨#[59]⟩] w) := by
  obtain ⟨i0, hi0, hz0, hz1, hz2⟩ := info_parts infoS
  go_enter Tryz.func50, Tryz.ntmps50
  go_wp2_with (at_builtin; refine wpList_append_lies _ rfl _ _ 22 rfl w.heap.size 9 i0 _ 1 16 Tryz.underlying22 hi0 hz0 hz1 hz2 rfl (by decide) _ _ _ rfl (World.ownsRow_nil _ _ _ _) ⟨w.heap.size + 1, 0, none⟩ 2 2 [.string ⟨#[114, 101, 116, 117, 114, 110]⟩, .string ⟨#[59]⟩] rfl rfl (news_at 2 [.string ⟨#[114, 101, 116, 117, 114, 110]⟩, .string ⟨#[59]⟩] rfl) (by simp [Value.oneCell']) (by decide) (by decide) (by decide) (by simp; try omega) _ rfl ?_; intro g cap w2 hown hg hat hlt)
  go_ret
  exact owns_done rfl rfl hown ((box_below w _).alloc (by simp) _) hg (fun k hk => by cases hk)
theorem own_13 (s : ByteArray) (n m gc dc : Nat) (ga da : Option Addr) (w : World) :
    Calls Tryz.prog 50 #[.agg #[.int .i64 13, .string s, .slice ga n gc, .slice da m dc]] w (OwnS [⟨#[105, 102]⟩] w) := by
  obtain ⟨i0, hi0, hz0, hz1, hz2⟩ := info_parts infoS
  go_enter Tryz.func50, Tryz.ntmps50
  go_wp2_with (at_builtin; refine wpList_append_lies _ rfl _ _ 22 rfl w.heap.size 9 i0 _ 1 16 Tryz.underlying22 hi0 hz0 hz1 hz2 rfl (by decide) _ _ _ rfl (World.ownsRow_nil _ _ _ _) ⟨w.heap.size + 1, 0, none⟩ 1 1 [.string ⟨#[105, 102]⟩] rfl rfl (news_at 1 [.string ⟨#[105, 102]⟩] rfl) (by simp [Value.oneCell']) (by decide) (by decide) (by decide) (by simp; try omega) _ rfl ?_; intro g cap w2 hown hg hat hlt)
  go_ret
  exact owns_done rfl rfl hown ((box_below w _).alloc (by simp) _) hg (fun k hk => by cases hk)
theorem own_15 (s : ByteArray) (n m gc dc : Nat) (ga da : Option Addr) (w : World) :
    Calls Tryz.prog 50 #[.agg #[.int .i64 15, .string s, .slice ga n gc, .slice da m dc]] w (OwnS [⟨#[119, 104, 105, 108, 101]⟩] w) := by
  obtain ⟨i0, hi0, hz0, hz1, hz2⟩ := info_parts infoS
  go_enter Tryz.func50, Tryz.ntmps50
  go_wp2_with (at_builtin; refine wpList_append_lies _ rfl _ _ 22 rfl w.heap.size 9 i0 _ 1 16 Tryz.underlying22 hi0 hz0 hz1 hz2 rfl (by decide) _ _ _ rfl (World.ownsRow_nil _ _ _ _) ⟨w.heap.size + 1, 0, none⟩ 1 1 [.string ⟨#[119, 104, 105, 108, 101]⟩] rfl rfl (news_at 1 [.string ⟨#[119, 104, 105, 108, 101]⟩] rfl) (by simp [Value.oneCell']) (by decide) (by decide) (by decide) (by simp; try omega) _ rfl ?_; intro g cap w2 hown hg hat hlt)
  go_ret
  exact owns_done rfl rfl hown ((box_below w _).alloc (by simp) _) hg (fun k hk => by cases hk)
theorem own_16 (s : ByteArray) (n m gc dc : Nat) (ga da : Option Addr) (w : World) :
    Calls Tryz.prog 50 #[.agg #[.int .i64 16, .string s, .slice ga n gc, .slice da m dc]] w (OwnS [⟨#[59]⟩] w) := by
  obtain ⟨i0, hi0, hz0, hz1, hz2⟩ := info_parts infoS
  go_enter Tryz.func50, Tryz.ntmps50
  go_wp2_with (at_builtin; refine wpList_append_lies _ rfl _ _ 22 rfl w.heap.size 9 i0 _ 1 16 Tryz.underlying22 hi0 hz0 hz1 hz2 rfl (by decide) _ _ _ rfl (World.ownsRow_nil _ _ _ _) ⟨w.heap.size + 1, 0, none⟩ 1 1 [.string ⟨#[59]⟩] rfl rfl (news_at 1 [.string ⟨#[59]⟩] rfl) (by simp [Value.oneCell']) (by decide) (by decide) (by decide) (by simp; try omega) _ rfl ?_; intro g cap w2 hown hg hat hlt)
  go_ret
  exact owns_done rfl rfl hown ((box_below w _).alloc (by simp) _) hg (fun k hk => by cases hk)
theorem own_22 (s : ByteArray) (n m gc dc : Nat) (ga da : Option Addr) (w : World) :
    Calls Tryz.prog 50 #[.agg #[.int .i64 22, .string s, .slice ga n gc, .slice da m dc]] w (OwnS [⟨#[110, 101, 119]⟩, s, ⟨#[40]⟩, ⟨#[41]⟩] w) := by
  obtain ⟨i0, hi0, hz0, hz1, hz2⟩ := info_parts infoS
  go_enter Tryz.func50, Tryz.ntmps50
  go_wp2_with (at_builtin; refine wpList_append_lies _ rfl _ _ 22 rfl w.heap.size 9 i0 _ 1 16 Tryz.underlying22 hi0 hz0 hz1 hz2 rfl (by decide) _ _ _ rfl (World.ownsRow_nil _ _ _ _) ⟨w.heap.size + 1, 0, none⟩ 4 4 [.string ⟨#[110, 101, 119]⟩, .string s, .string ⟨#[40]⟩, .string ⟨#[41]⟩] rfl rfl (news_at 4 [.string ⟨#[110, 101, 119]⟩, .string s, .string ⟨#[40]⟩, .string ⟨#[41]⟩] rfl) (by simp [Value.oneCell']) (by decide) (by decide) (by decide) (by simp; try omega) _ rfl ?_; intro g cap w2 hown hg hat hlt)
  go_ret
  exact owns_done rfl rfl hown ((box_below w _).alloc (by simp) _) hg (fun k hk => by cases hk)
theorem own_26 (s : ByteArray) (n m gc dc : Nat) (ga da : Option Addr) (w : World) :
    Calls Tryz.prog 50 #[.agg #[.int .i64 26, .string s, .slice ga n gc, .slice da m dc]] w (OwnS [⟨#[40]⟩, ⟨#[41]⟩] w) := by
  obtain ⟨i0, hi0, hz0, hz1, hz2⟩ := info_parts infoS
  go_enter Tryz.func50, Tryz.ntmps50
  go_wp2_with (at_builtin; refine wpList_append_lies _ rfl _ _ 22 rfl w.heap.size 9 i0 _ 1 16 Tryz.underlying22 hi0 hz0 hz1 hz2 rfl (by decide) _ _ _ rfl (World.ownsRow_nil _ _ _ _) ⟨w.heap.size + 1, 0, none⟩ 2 2 [.string ⟨#[40]⟩, .string ⟨#[41]⟩] rfl rfl (news_at 2 [.string ⟨#[40]⟩, .string ⟨#[41]⟩] rfl) (by simp [Value.oneCell']) (by decide) (by decide) (by decide) (by simp; try omega) _ rfl ?_; intro g cap w2 hown hg hat hlt)
  go_ret
  exact owns_done rfl rfl hown ((box_below w _).alloc (by simp) _) hg (fun k hk => by cases hk)
theorem own_8e (s : ByteArray) (n m gc dc : Nat) (ga da : Option Addr) (w : World) (hz : s.size = 0) :
    Calls Tryz.prog 50 #[.agg #[.int .i64 8, .string s, .slice ga n gc, .slice da m dc]] w (OwnS [] w) := by
  obtain ⟨i0, hi0, hz0, hz1, hz2⟩ := info_parts infoS
  have s1 : s.toList.isEmpty = true := by rw [Pl.toList_eq, List.isEmpty_iff_length_eq_zero, ← Lib.size_eq]; exact hz
  go_enter Tryz.func50, Tryz.ntmps50
  go_wp2_with fail
  go_ret
  exact ⟨none, 0, 0, rfl, rfl, World.ownsRow_nil _ _ _ _, box_below w _⟩
theorem own_8n (s : ByteArray) (n m gc dc : Nat) (ga da : Option Addr) (w : World) (hz : ¬ s.size = 0) :
    Calls Tryz.prog 50 #[.agg #[.int .i64 8, .string s, .slice ga n gc, .slice da m dc]] w (OwnS [⟨#[58]⟩, s] w) := by
  obtain ⟨i0, hi0, hz0, hz1, hz2⟩ := info_parts infoS
  obtain ⟨s1, s2, s3⟩ := Pl.not_empty s (by omega)
  go_enter Tryz.func50, Tryz.ntmps50
  go_wp2_with (at_builtin; refine wpList_append_lies _ rfl _ _ 22 rfl w.heap.size 9 i0 _ 1 16 Tryz.underlying22 hi0 hz0 hz1 hz2 rfl (by decide) _ _ _ rfl (World.ownsRow_nil _ _ _ _) ⟨w.heap.size + 1, 0, none⟩ 2 2 [.string ⟨#[58]⟩, .string s] rfl rfl (news_at 2 [.string ⟨#[58]⟩, .string s] rfl) (by simp [Value.oneCell']) (by decide) (by decide) (by decide) (by simp; try omega) _ rfl ?_; intro g cap w2 hown hg hat hlt)
  go_ret
  exact owns_done rfl rfl hown ((box_below w _).alloc (by simp) _) hg (fun k hk => by cases hk)
theorem own_14z (s : ByteArray) (n m gc dc : Nat) (ga da : Option Addr) (w : World) (hm : m = 0) :
    Calls Tryz.prog 50 #[.agg #[.int .i64 14, .string s, .slice ga n gc, .slice da m dc]] w (OwnS [] w) := by
  obtain ⟨i0, hi0, hz0, hz1, hz2⟩ := info_parts infoS
  subst hm
  go_enter Tryz.func50, Tryz.ntmps50
  go_wp2_with fail
  go_ret
  exact ⟨none, 0, 0, rfl, rfl, World.ownsRow_nil _ _ _ _, box_below w _⟩
theorem own_14n (s : ByteArray) (n m gc dc : Nat) (ga da : Option Addr) (w : World) (hm : ¬ m = 0) (hm2 : m ≤ 1000000) :
    Calls Tryz.prog 50 #[.agg #[.int .i64 14, .string s, .slice ga n gc, .slice da m dc]] w (OwnS [⟨#[101, 108, 115, 101]⟩] w) := by
  obtain ⟨i0, hi0, hz0, hz1, hz2⟩ := info_parts infoS
  have m1 : (m == 0) = false := by simpa using hm
  have m2 : ((m : Int) == 0) = false := by simp; omega
  go_enter Tryz.func50, Tryz.ntmps50
  go_wp2_with (at_builtin; refine wpList_append_lies _ rfl _ _ 22 rfl w.heap.size 9 i0 _ 1 16 Tryz.underlying22 hi0 hz0 hz1 hz2 rfl (by decide) _ _ _ rfl (World.ownsRow_nil _ _ _ _) ⟨w.heap.size + 1, 0, none⟩ 1 1 [.string ⟨#[101, 108, 115, 101]⟩] rfl rfl (news_at 1 [.string ⟨#[101, 108, 115, 101]⟩] rfl) (by simp [Value.oneCell']) (by decide) (by decide) (by decide) (by simp; try omega) _ rfl ?_; intro g cap w2 hown hg hat hlt)
  go_ret
  exact owns_done rfl rfl hown ((box_below w _).alloc (by simp) _) hg (fun k hk => by cases hk)
theorem own_rest (k : Int) (s : ByteArray) (n m gc dc : Nat) (ga da : Option Addr) (w : World) (n1 : ¬ k = 1) (n2 : ¬ k = 2) (n3 : ¬ k = 3) (n6 : ¬ k = 6) (n7 : ¬ k = 7) (n8 : ¬ k = 8) (n9 : ¬ k = 9) (n10 : ¬ k = 10) (n11 : ¬ k = 11) (n12 : ¬ k = 12) (n13 : ¬ k = 13) (n14 : ¬ k = 14) (n15 : ¬ k = 15) (n16 : ¬ k = 16) (n20 : ¬ k = 20) (n21 : ¬ k = 21) (n22 : ¬ k = 22) (n26 : ¬ k = 26) :
    Calls Tryz.prog 50 #[.agg #[.int .i64 k, .string s, .slice ga n gc, .slice da m dc]] w (OwnS [s] w) := by
  obtain ⟨i0, hi0, hz0, hz1, hz2⟩ := info_parts infoS
  have b1 : (k == 1) = false := by simpa using n1
  have b2 : (k == 2) = false := by simpa using n2
  have b3 : (k == 3) = false := by simpa using n3
  have b6 : (k == 6) = false := by simpa using n6
  have b7 : (k == 7) = false := by simpa using n7
  have b8 : (k == 8) = false := by simpa using n8
  have b9 : (k == 9) = false := by simpa using n9
  have b10 : (k == 10) = false := by simpa using n10
  have b11 : (k == 11) = false := by simpa using n11
  have b12 : (k == 12) = false := by simpa using n12
  have b13 : (k == 13) = false := by simpa using n13
  have b14 : (k == 14) = false := by simpa using n14
  have b15 : (k == 15) = false := by simpa using n15
  have b16 : (k == 16) = false := by simpa using n16
  have b20 : (k == 20) = false := by simpa using n20
  have b21 : (k == 21) = false := by simpa using n21
  have b22 : (k == 22) = false := by simpa using n22
  have b26 : (k == 26) = false := by simpa using n26
  go_enter Tryz.func50, Tryz.ntmps50
  go_wp2_with (at_builtin; refine wpList_append_lies _ rfl _ _ 22 rfl w.heap.size 9 i0 _ 1 16 Tryz.underlying22 hi0 hz0 hz1 hz2 rfl (by decide) _ _ _ rfl (World.ownsRow_nil _ _ _ _) ⟨w.heap.size + 1, 0, none⟩ 1 1 [.string s] rfl rfl (news_at 1 [.string s] rfl) (by simp [Value.oneCell']) (by decide) (by decide) (by decide) (by simp; try omega) _ rfl ?_; intro g cap w2 hown hg hat hlt)
  go_ret
  exact owns_done rfl rfl hown ((box_below w _).alloc (by simp) _) hg (fun k hk => by cases hk)
end Go.Proofs.YtiaajpdcacdngaaGreatDoor.Rf
