/- The walks of the printer's reference: Own, for the kinds with a list. -/
import Derived.Test.YtiaajpdcacdngaaGreatDoorRList
import Derived.Deep.RegionLaw
import Derived.IntWalk
namespace Go.Proofs.YtiaajpdcacdngaaGreatDoor.Rf
open Go.RowKit
set_option linter.unusedVariables false
set_option linter.unusedSimpArgs false
set_option maxRecDepth 100000

theorem news_w {w : World} {T : TypeId} (H n : Nat) (vs : List Value) (h : vs.length = n) (hH : w.heap.size = H) : ∀ (j : Nat) u, vs[j]? = some u → (w.alloc (.cells vs.toArray T)).cell? ((⟨H, 0, none⟩ : Addr).add j) = some u := by
  subst hH; exact news_one n vs h
theorem box_cell3 (w : World) (k : Int) (s : ByteArray) (gv kv : Value) (lit : Obj) : (((w.alloc (.cells #[.int .i64 k, .string s, gv, kv] 25)).drew).alloc lit).cell? ⟨w.heap.size, 3, none⟩ = some kv :=
  (World.cell?_of_block (w := w.alloc (.cells #[.int .i64 k, .string s, gv, kv] 25)) (a := ⟨w.heap.size, 3, none⟩) (Below.heap_alloc _ _ _ (by simp))).trans (Li.box_new w k s gv kv).at4.2.2.2
theorem box_cell1 (w : World) (k : Int) (s : ByteArray) (gv kv : Value) (lit : Obj) : (((w.alloc (.cells #[.int .i64 k, .string s, gv, kv] 25)).drew).alloc lit).cell? ⟨w.heap.size, 1, none⟩ = some (.string s) :=
  (World.cell?_of_block (w := w.alloc (.cells #[.int .i64 k, .string s, gv, kv] 25)) (a := ⟨w.heap.size, 1, none⟩) (Below.heap_alloc _ _ _ (by simp))).trans (Li.box_new w k s gv kv).at4.2.1
theorem owns_high {w : World} {B B' g : Nat} {e : TypeId} {size n c m : Nat} {xs : List Value} (h : w.ownsRow B e size (.slice (some ⟨g, 0, none⟩) m c) n xs) (hB : B' ≤ g) : w.ownsRow B' e size (.slice (some ⟨g, 0, none⟩) m c) n xs := by
  refine ⟨h.1, ?_⟩
  rcases h.2 with ⟨h2, _⟩ | ⟨g', cap, cur, h1, h2, h3, h4⟩
  · cases h2
  · have e : g = g' := by injection h1 with h5; injection h5 with h5; injection h5
    subst e
    exact .inr ⟨g, cap, cur, h1, hB, h3, h4⟩
theorem drew_low (w : World) (o lit : Obj) : Below w.heap.size w (((w.alloc o).drew).alloc lit) := ((box_below w o).drew).alloc (by simp) _
set_option maxHeartbeats 3200000 in
theorem own_3 (s : ByteArray) (n m gc dc : Nat) (ga da : Option Addr) (w : World) (hm : m ≤ 100000) :
    Calls Tryz.prog 50 #[.agg #[.int .i64 3, .string s, .slice ga n gc, .slice da m dc]] w (OwnS (Pl.rlist [⟨#[40]⟩] (m)) w) := by
  obtain ⟨i0, hi0, hz0, hz1, hz2⟩ := info_parts infoS
  have q0 : ((w.alloc (.cells #[.int .i64 3, .string s, .slice ga n gc, .slice da m dc] 25)).drew).cell? ⟨w.heap.size, 3, none⟩ = some (.slice da m dc) := (Li.box_new w 3 s (.slice ga n gc) (.slice da m dc)).at4.2.2.2
  have q1 : ((w.alloc (.cells #[.int .i64 3, .string s, .slice ga n gc, .slice da m dc] 25)).drew).cell? ⟨w.heap.size, 1, none⟩ = some (.string s) := (Li.box_new w 3 s (.slice ga n gc) (.slice da m dc)).at4.2.1
  have q2 := box_cell3 w 3 s (.slice ga n gc) (.slice da m dc)
  have q4 := box_cell1 w 3 s (.slice ga n gc) (.slice da m dc)
  go_enter Tryz.func50, Tryz.ntmps50
  go_wp2_with fail
  go_region_law
    ((first
      | (refine step_append_lies _ (by rfl) _ _ _ (by rfl) w.heap.size 9 i0 _ 1 16 Tryz.underlying22 hi0 hz0 hz1 hz2 rfl (by omega) (.slice none 0 0) 0 [] (by rfl) (World.ownsRow_nil _ _ _ _) ⟨w.heap.size + 1, 0, none⟩ 1 1 [.string ⟨#[40]⟩] (by rfl) (by rfl) (news_w (w.heap.size + 1) 1 [.string ⟨#[40]⟩] rfl (by simp)) (by simp [Value.oneCell']) (by omega) (by unfold maxLen; omega) (by omega) (by simp; omega) (w.heap.size + 1 + 1) (by simp) ?_; intro g cap w2 hown hg hat hlt;
         have q3 : w2.cell? ⟨w.heap.size, 3, none⟩ = some (.slice da m dc) := hg.cell (q2 _) (by simp [Value.ownBlock]);
         have hb2 : Below w.heap.size w w2 := (drew_low w _ _).grown hg (by simp; omega) (fun k hk => by cases hk);
         have HOwn := Lib.hid hown;
         have HB2 := Lib.hid hb2;
         have hs2 := hb2.size;
         clear hown hg hat hb2)
      | (go_simp; go_at_call 72; refine (lst_any w.heap.size [⟨#[40]⟩] 1 cap (some ⟨g, 0, none⟩) ((m)) w2 hs2 rfl (by decide) (by omega) HOwn.out).mono ?_; rintro e w3 ⟨a3, n3, c3, rfl, hn3, ho3, hb3⟩;
         have HN3 := Lib.hid hn3;
         have HO3 := Lib.hid ho3;
         have HB3 := Lib.hid hb3;
         clear hn3 ho3 hb3)))
  all_goals
    go_wp2_with fail
    go_ret
    exact ⟨a3, n3, c3, rfl, HN3.out, HO3.out, HB2.out.trans HB3.out⟩
set_option maxHeartbeats 3200000 in
theorem own_20 (s : ByteArray) (n m gc dc : Nat) (ga da : Option Addr) (w : World) (hm : m ≤ 100000) :
    Calls Tryz.prog 50 #[.agg #[.int .i64 20, .string s, .slice ga n gc, .slice da m dc]] w (OwnS (Pl.rlist [s, ⟨#[40]⟩] (m)) w) := by
  obtain ⟨i0, hi0, hz0, hz1, hz2⟩ := info_parts infoS
  have q0 : ((w.alloc (.cells #[.int .i64 20, .string s, .slice ga n gc, .slice da m dc] 25)).drew).cell? ⟨w.heap.size, 3, none⟩ = some (.slice da m dc) := (Li.box_new w 20 s (.slice ga n gc) (.slice da m dc)).at4.2.2.2
  have q1 : ((w.alloc (.cells #[.int .i64 20, .string s, .slice ga n gc, .slice da m dc] 25)).drew).cell? ⟨w.heap.size, 1, none⟩ = some (.string s) := (Li.box_new w 20 s (.slice ga n gc) (.slice da m dc)).at4.2.1
  have q2 := box_cell3 w 20 s (.slice ga n gc) (.slice da m dc)
  have q4 := box_cell1 w 20 s (.slice ga n gc) (.slice da m dc)
  go_enter Tryz.func50, Tryz.ntmps50
  go_wp2_with fail
  go_region_law
    ((first
      | (refine step_append_lies _ (by rfl) _ _ _ (by rfl) w.heap.size 9 i0 _ 1 16 Tryz.underlying22 hi0 hz0 hz1 hz2 rfl (by omega) (.slice none 0 0) 0 [] (by rfl) (World.ownsRow_nil _ _ _ _) ⟨w.heap.size + 1, 0, none⟩ 2 2 [.string s, .string ⟨#[40]⟩] (by rfl) (by rfl) (news_w (w.heap.size + 1) 2 [.string s, .string ⟨#[40]⟩] rfl (by simp)) (by simp [Value.oneCell']) (by omega) (by unfold maxLen; omega) (by omega) (by simp; omega) (w.heap.size + 1 + 1) (by simp) ?_; intro g cap w2 hown hg hat hlt;
         have q3 : w2.cell? ⟨w.heap.size, 3, none⟩ = some (.slice da m dc) := hg.cell (q2 _) (by simp [Value.ownBlock]);
         have hb2 : Below w.heap.size w w2 := (drew_low w _ _).grown hg (by simp; omega) (fun k hk => by cases hk);
         have HOwn := Lib.hid hown;
         have HB2 := Lib.hid hb2;
         have hs2 := hb2.size;
         clear hown hg hat hb2)
      | (go_simp; go_at_call 72; refine (lst_any w.heap.size [s, ⟨#[40]⟩] 2 cap (some ⟨g, 0, none⟩) ((m)) w2 hs2 rfl (by decide) (by omega) HOwn.out).mono ?_; rintro e w3 ⟨a3, n3, c3, rfl, hn3, ho3, hb3⟩;
         have HN3 := Lib.hid hn3;
         have HO3 := Lib.hid ho3;
         have HB3 := Lib.hid hb3;
         clear hn3 ho3 hb3)))
  all_goals
    go_wp2_with fail
    go_ret
    exact ⟨a3, n3, c3, rfl, HN3.out, HO3.out, HB2.out.trans HB3.out⟩
set_option maxHeartbeats 3200000 in
theorem own_21 (s : ByteArray) (n p gc dc : Nat) (ga da : Option Addr) (w : World) (hm : p ≤ 100000) :
    Calls Tryz.prog 50 #[.agg #[.int .i64 21, .string s, .slice ga n gc, .slice da (p + 1) dc]] w (OwnS (Pl.rlist [⟨#[46]⟩, s, ⟨#[40]⟩] (p)) w) := by
  obtain ⟨i0, hi0, hz0, hz1, hz2⟩ := info_parts infoS
  have q0 : ((w.alloc (.cells #[.int .i64 21, .string s, .slice ga n gc, .slice da (p + 1) dc] 25)).drew).cell? ⟨w.heap.size, 3, none⟩ = some (.slice da (p + 1) dc) := (Li.box_new w 21 s (.slice ga n gc) (.slice da (p + 1) dc)).at4.2.2.2
  have q1 : ((w.alloc (.cells #[.int .i64 21, .string s, .slice ga n gc, .slice da (p + 1) dc] 25)).drew).cell? ⟨w.heap.size, 1, none⟩ = some (.string s) := (Li.box_new w 21 s (.slice ga n gc) (.slice da (p + 1) dc)).at4.2.1
  have q2 := box_cell3 w 21 s (.slice ga n gc) (.slice da (p + 1) dc)
  have q4 := box_cell1 w 21 s (.slice ga n gc) (.slice da (p + 1) dc)
  have hwr : IntKind.i64.wrap (p : Int) = (p : Int) := IntWalk.i64_in _ (by omega)
  go_enter Tryz.func50, Tryz.ntmps50
  go_wp2_with fail
  go_region_law
    ((first
      | (refine step_append_lies _ (by rfl) _ _ _ (by rfl) w.heap.size 9 i0 _ 1 16 Tryz.underlying22 hi0 hz0 hz1 hz2 rfl (by omega) (.slice none 0 0) 0 [] (by rfl) (World.ownsRow_nil _ _ _ _) ⟨w.heap.size + 1, 0, none⟩ 3 3 [.string ⟨#[46]⟩, .string s, .string ⟨#[40]⟩] (by rfl) (by rfl) (news_w (w.heap.size + 1) 3 [.string ⟨#[46]⟩, .string s, .string ⟨#[40]⟩] rfl (by simp)) (by simp [Value.oneCell']) (by omega) (by unfold maxLen; omega) (by omega) (by simp; omega) (w.heap.size + 1 + 1) (by simp) ?_; intro g cap w2 hown hg hat hlt;
         have q3 : w2.cell? ⟨w.heap.size, 3, none⟩ = some (.slice da (p + 1) dc) := hg.cell (q2 _) (by simp [Value.ownBlock]);
         have hb2 : Below w.heap.size w w2 := (drew_low w _ _).grown hg (by simp; omega) (fun k hk => by cases hk);
         have HOwn := Lib.hid hown;
         have HB2 := Lib.hid hb2;
         have hs2 := hb2.size;
         clear hown hg hat hb2)
      | (go_simp; go_at_call 72; refine (lst_any w.heap.size [⟨#[46]⟩, s, ⟨#[40]⟩] 3 cap (some ⟨g, 0, none⟩) ((p)) w2 hs2 rfl (by decide) (by omega) HOwn.out).mono ?_; rintro e w3 ⟨a3, n3, c3, rfl, hn3, ho3, hb3⟩;
         have HN3 := Lib.hid hn3;
         have HO3 := Lib.hid ho3;
         have HB3 := Lib.hid hb3;
         clear hn3 ho3 hb3)))
  all_goals
    go_wp2_with fail
    go_ret
    exact ⟨a3, n3, c3, rfl, HN3.out, HO3.out, HB2.out.trans HB3.out⟩
end Go.Proofs.YtiaajpdcacdngaaGreatDoor.Rf
