/- The walks of the reference's Tables, Fits and Exists. -/
import Derived.Test.YtoelfiendfemaaaDecls
namespace Go.Proofs.Ytoelfiendfemaaa
open Go.RowKit Go.Deep
set_option linter.unusedVariables false
set_option linter.unusedSimpArgs false

/-- The table of a tree, in new memory or in the tree's own. -/
def TabP2 (P : Nat → Prop) (l : List Pl.Rw) (w1 : World) (e : Ending) (w' : World) : Prop :=
  ∃ (a : Option Addr) (c : Nat) (R : Nat → Sl), e = .returned (.slice a l.length c) ∧ TabIn (fun b => (P b ∨ w1.heap.size ≤ b) ∧ b < w'.heap.size) w' a l R ∧ Below w1.heap.size w1 w'
theorem tabP2_of {B : Nat} {P : Nat → Prop} {t : Pl.Tr} {w1 w w' : World} {e : Ending} (h : RowsP B P t (-1) none 0 0 [] w e w') (hsz : Pl.sz t ≤ 1000000) (hb : Below w1.heap.size w1 w) : TabP2 P (Pl.tab t 0 (-1)) w1 e w' := by
  obtain ⟨g, c', L2, rfl, hm, hown, hgr, hg, hlt, hrows⟩ := h
  have hg2 : w1.heap.size ≤ g := by
    rcases hg with h | h
    · simp [Value.ownBlock] at h
    · exact Nat.le_trans hb.size h
  rw [Nat.zero_add] at hown
  refine ⟨some ⟨g, 0, none⟩, c', places L2, by rw [Pl.tab_len, Nat.zero_add], ⟨by rw [Pl.tab_len]; unfold maxLen; omega, .inr ?_, fun j x hx => ?_⟩, hb.grown hgr hb.size (fun k hk => by simp [Value.ownBlock] at hk)⟩
  · have hlen : Pl.sz t = L2.length := by have := congrArg List.length hm; rw [List.length_map, Pl.tab_len] at this; exact this.symm
    obtain ⟨g2, cap2, he, _, _, _, hat⟩ := owns5_at hown hlen (Pl.sz_pos t)
    injection he with he1 he2 he3
    injection he1 with he4
    injection he4 with he5
    subst he5
    refine ⟨g, 0, rfl, ⟨.inr hg2, hlt⟩, fun j x hx => ?_⟩
    obtain ⟨r, hr⟩ := isTab_get hm hx
    rw [places_get hr]
    exact hat j _ hr
  · obtain ⟨r, hr⟩ := isTab_get hm hx
    rw [places_get hr]
    exact (hrows j _ hr).keep (Same.refl _ _) (fun b hb2 => ⟨hb2.1.imp id (fun h => Nat.le_trans hb.size h), hb2.2.1⟩)
set_option maxHeartbeats 800000 in
theorem rrows2_at {P : Nat → Prop} {w : World} {t : Pl.Tr} {r : Sl} (h : Tin P w t r) (hP : ∀ b, P b → b < w.heap.size) (w1 : World) (hsame : Same P w w1) (hge : w.heap.size ≤ w1.heap.size) (hsz : Pl.sz t ≤ 1000000) :
    Calls Try.prog 41 #[.agg #[.int .i64 t.kind, .string t.text, .slice r.ga t.gaps.length r.gc, .slice r.da t.kids.length r.dc]] w1 (TabP2 P (Pl.tab t 0 (-1)) w1) := by
  have HA := Lib.hid (fun w1 hs (hge : w.heap.size ≤ w1.heap.size) a c ho => rrows_at h hP w.heap.size (Nat.le_refl _) w1 hs hge a 0 c [] (-1) (by omega) rfl ho)
  have HS := Lib.hid (fun o => same_box (o := o) hsame hP hge)
  obtain ⟨ga, gc, a, c⟩ := r
  clear h hsame
  go_enter Try.func41, Try.ntmps41
  go_wp2_with (go_at_call 60; refine (HA.out _ (HS.out _) (by simp; omega) _ _ (World.ownsRow_nil _ _ _ _)).mono ?_; intro e w3 hr; have r4 := tabP2_of hr hsz ((Below.refl _ _).alloc (Nat.le_refl w1.heap.size) _); obtain ⟨ra, rc, RR, rfl, ht, hb3⟩ := r4; have HT := Lib.hid ht; have HB3 := Lib.hid hb3; clear hr ht hb3)
  go_ret
  exact ⟨ra, rc, RR, rfl, HT.out, HB3.out⟩

/- ### Lists of tables -/
/-- Where a table lies. -/
structure Pt where
  a : Option Addr
  c : Nat
  R : Nat → Sl
def cellsT (x : List Pl.Rw × Pt) : List Value := [.slice x.2.a x.1.length x.2.c]
theorem infoT : (Try.prog.info? 44).map (fun i => (i.zero, i.size, i.bytes)) = some (some (.slice none 0 0), 1, 24) := by kernel_rfl
/-- Tables that lie somewhere: their slices, and their rows. -/
def TabsL (w : World) (a : Option Addr) (L : List (List Pl.Rw × Pt)) : Prop :=
  FlatW 1 cellsT w a L ∧ ∀ (q : Nat) x, L[q]? = some x → TabIn (fun b => b < w.heap.size) w x.2.a x.1 x.2.R
def TabsIn (w : World) (a : Option Addr) (T : List (List Pl.Rw)) : Prop := ∃ L, L.map Prod.fst = T ∧ TabsL w a L
theorem TabsIn.later {w w' : World} {a : Option Addr} {T : List (List Pl.Rw)} (h : TabsIn w a T) (hb : Below w.heap.size w w') : TabsIn w' a T := by
  obtain ⟨L, h1, h2, h3⟩ := h
  exact ⟨L, h1, FlatW.later h2 hb, fun q x hx => (h3 q x hx).keep (Same.below hb fun _ h => h) fun b hb2 => Nat.lt_of_lt_of_le hb2 hb.size⟩
/-- One table of the list: its slice's cell, and its rows. -/
theorem TabsIn.one {w : World} {a : Option Addr} {T : List (List Pl.Rw)} (h : TabsIn w a T) {j : Nat} {l : List Pl.Rw} (hl : T[j]? = some l) :
    ∃ b o ta tc R, a = some ⟨b, o, none⟩ ∧ b < w.heap.size ∧ w.cell? ⟨b, o + j, none⟩ = some (.slice ta l.length tc) ∧ TabIn (fun b => b < w.heap.size) w ta l R := by
  obtain ⟨L, rfl, h2, h3⟩ := h
  rw [List.getElem?_map] at hl
  obtain ⟨x, hx, rfl⟩ := Option.map_eq_some_iff.1 hl
  obtain ⟨b, o, e, hb, hr⟩ := h2.one hx
  refine ⟨b, o, x.2.a, x.2.c, x.2.R, e, hb, ?_, h3 j x hx⟩
  have := hr 0 _ rfl
  simpa using this
/-- The list of tables that is being made. -/
def MadeT (B : Nat) (w : World) (a : Option Addr) (n c : Nat) (L : List (List Pl.Rw × Pt)) : Prop :=
  n = L.length ∧ w.ownsRow B 44 1 (.slice a n c) n (L.flatMap cellsT) ∧ ∀ (q : Nat) x, L[q]? = some x → TabIn (fun b => b < w.heap.size ∧ (Value.slice a n c).ownBlock ≠ some b) w x.2.a x.1 x.2.R
theorem madeT_nil (B : Nat) (w : World) : MadeT B w none 0 0 [] := ⟨rfl, World.ownsRow_nil _ _ _ _, fun q x h => by cases q <;> cases h⟩
theorem madeT_snoc {B n c cap g : Nat} {a : Option Addr} {w w2 w3 : World} {o : Obj} {L : List (List Pl.Rw × Pt)} {l : List Pl.Rw} {p : Pt} (h : MadeT B w a n c L) (hb : Below w.heap.size w w2) (ht : TabIn (fun x => (x < B ∨ w.heap.size ≤ x) ∧ x < w2.heap.size) w2 p.a l p.R)
    (hown : w3.ownsRow B 44 1 (.slice (some ⟨g, 0, none⟩) (n + 1) cap) (n + 1) (L.flatMap cellsT ++ cellsT (l, p))) (hgrow : (w2.alloc o).grownBy w3 (Value.slice a n c).ownBlock) (hat : (Value.slice a n c).ownBlock = some g ∨ g = w2.heap.size + 1) :
    MadeT B w3 (some ⟨g, 0, none⟩) (n + 1) cap (L ++ [(l, p)]) := by
  obtain ⟨h1, h2, h3⟩ := h
  have hob : ∀ k, (Value.slice a n c).ownBlock = some k → B ≤ k ∧ k < w.heap.size := fun k hk => h2.lt k hk
  have hz := hb.size
  have hz3 := hgrow.size
  simp at hz3
  refine ⟨by rw [List.length_append, h1]; rfl, by rw [flatten_snoc]; exact hown, fun q x hx => ?_⟩
  have hgo : (Value.slice (some (⟨g, 0, none⟩ : Addr)) (n + 1) cap).ownBlock = some g := rfl
  by_cases hq : q < L.length
  · rw [List.getElem?_append_left hq] at hx
    refine (h3 q x hx).keep (fun y hy => ?_) (fun y hy => ?_)
    · exact (hgrow.block y (by have := hy.1; simp; omega) (fun e => hy.2 e.symm)).trans ((Below.heap_alloc _ _ _ (by have := hy.1; omega)).trans (hb.block y hy.1))
    · have := hy.1
      refine ⟨by omega, fun e => ?_⟩
      rw [hgo, Option.some.injEq] at e
      rcases hat with hat | hat
      · exact hy.2 (by rw [hat, e])
      · omega
  · rw [List.getElem?_append_right (by omega)] at hx
    obtain rfl : (l, p) = x := by
      match hq2 : q - L.length, hx with
      | 0, hx => simpa using hx
      | k + 1, hx => simp at hx
    refine ht.keep (fun y hy => ?_) (fun y hy => ?_)
    · exact (hgrow.block y (by have := hy.2; simp; omega) (fun e => by have := hob y e.symm; have := hy.1; omega)).trans (Below.heap_alloc _ _ _ hy.2)
    · have := hy.2
      refine ⟨by omega, fun e => ?_⟩
      rw [hgo, Option.some.injEq] at e
      rcases hat with hat | hat
      · have := hob g hat; have := hy.1; omega
      · omega
theorem madeT_done {B n c : Nat} {a : Option Addr} {w : World} {L : List (List Pl.Rw × Pt)} (h : MadeT B w a n c L) : ∃ c2 a2, Value.slice a n c = .slice a2 L.length c2 ∧ TabsIn w a2 (L.map Prod.fst) := by
  obtain ⟨h1, h2, h3⟩ := h
  obtain ⟨a2, c2, e, hf⟩ := flat_row (cl := cellsT) (fun _ => rfl) (by decide) h2 h1
  exact ⟨c2, a2, e, L, rfl, hf, fun q x hx => (h3 q x hx).keep (Same.refl _ _) fun b hb => hb.1⟩
/-- Tables of units that a call makes. -/
def TabsP (T : List (List Pl.Rw)) (w : World) (e : Ending) (w' : World) : Prop := ∃ a c, e = .returned (.slice a T.length c) ∧ TabsIn w' a T ∧ Below w.heap.size w w'
set_option maxHeartbeats 1600000 in
set_option maxRecDepth 100000 in
theorem tables_any (a : Option Addr) (n c : Nat) (us : List Pl.Un) (R : Nat → Sl) (w : World) (hU : IsU w a us R) (hF : Few us) (hn : n = us.length) :
    Calls Try.prog 24 #[.slice a n c] w (TabsP (Pl.tbls us) w) := by
  obtain ⟨j0, hj0, hy0, hy1, hy2⟩ := info_parts infoT
  have hn4 : n ≤ 4 := by rw [hn]; exact hF.1
  have HU := Lib.hid hU
  have HF := Lib.hid hF
  have HN := Lib.hid hn
  clear hU hF hn
  go_enter Try.func24, Try.ntmps24
  go_wp2_with fail
  go_loopw [3, 4] (fun v i wr => ∃ (k : Nat) (a2 : Option Addr) (c2 : Nat) (L : List (List Pl.Rw × Pt)), k ≤ n ∧ i = .int .i64 k ∧ v = .slice a2 k c2 ∧ L.map Prod.fst = (Pl.tbls us).take k ∧ MadeT w.heap.size wr a2 k c2 L ∧ Below w.heap.size w wr) (fun _ i _ => n - (intOf i).toNat)
  case atStart => exact ⟨0, none, 0, [], Nat.zero_le _, rfl, rfl, rfl, madeT_nil _ _, Below.refl _ _⟩
  case round =>
    obtain ⟨k, a2, c2, L, hk, rfl, rfl, hL, hmade, hbel⟩ := hrel
    have HL := Lib.hid hL
    have HM := Lib.hid hmade
    have HB := Lib.hid hbel
    have hgr := hbel.size
    by_cases hlt : k < n
    · have hkx : k < us.length := by rw [← HN.out]; exact hlt
      have hx := List.getElem?_eq_getElem hkx
      have HTk : Hid ((Pl.tbls us).take (k + 1) = (Pl.tbls us).take k ++ [Pl.tbl us[k]]) := Lib.hid (by
        rw [List.take_succ_eq_append_getElem (by unfold Pl.tbls; rw [List.length_map]; exact hkx)]
        unfold Pl.tbls
        rw [List.getElem_map])
      have hlit := HF.out.2 _ (List.getElem_mem hkx)
      obtain ⟨b, o, rfl, hb, hrg, hT⟩ := HU.out.one hx
      have hk0 : (0 : Int) ≤ (k : Int) := Int.natCast_nonneg _
      have hk1 : (k : Int) < (n : Int) := by omega
      generalize us[k] = x at *
      generalize R k = r at *
      obtain ⟨_, _, s6, st⟩ := range7 (fun i v hv => (hbel.cell (p := ⟨b, o + k * 7 + i, none⟩) hb).trans (hrg i v hv))
      have HST := Lib.hid st
      clear hx hrg st hL
      cases hbr : x.broken with
      | true =>
        rw [hbr] at s6
        have HE : Hid (Pl.tbl x = []) := Lib.hid (by unfold Pl.tbl; rw [if_pos hbr])
        clear hmade hbel
        go_wp2_with (at_builtin; refine wpList_append_lies _ rfl (.tmp 24) (.tmp 26) 39 rfl w.heap.size 44 j0 _ 1 24 Try.underlying39 hj0 hy0 hy1 hy2 rfl (by omega) (.slice a2 k c2) k (L.flatMap cellsT) rfl (HM.out.2.1.alloc _) ⟨wr.heap.size, 0, none⟩ 1 1 (cellsT ([], ⟨none, 0, fun _ => ⟨none, 0, none, 0⟩⟩)) rfl rfl (World.news_of_block (cs := #[.slice none 0 0]) (t := 44) (fr := (0, 0)) (heap_alloc_new wr _)) (by simp [Value.oneCell', cellsT]) (by omega) (by unfold maxLen; omega) (by omega) (by simp; omega) (wr.heap.size + 1) (by simp) ?_; intro g5 cap5 w5 hown5 hgrow5 hat5 hlt5; have HO5 := Lib.hid hown5; have HG5 := Lib.hid hgrow5; have HA5 := Lib.hid hat5; clear hown5 hgrow5 hat5)
        refine ⟨⟨k + 1, some ⟨g5, 0, none⟩, cap5, L ++ [([], ⟨none, 0, fun _ => ⟨none, 0, none, 0⟩⟩)], by omega, by go_num, rfl, ?_, ?_, ?_⟩, by simp [intOf]; omega⟩
        · rw [List.map_append, HL.out, HTk.out, HE.out]; rfl
        · exact madeT_snoc HM.out (Below.refl _ _) ⟨by decide, .inl rfl, fun q x h => by cases q <;> cases h⟩ HO5.out HG5.out HA5.out
        · exact (HB.out.alloc hgr _).grown HG5.out (by simp; omega) (fun z hz => (HM.out.2.1.lt z hz).1)
      | false =>
        rw [hbr] at s6
        have HE : Hid (Pl.tbl x = Pl.tab x.tree 0 (-1)) := Lib.hid (by unfold Pl.tbl; rw [if_neg (by simp [hbr])])
        have HR := Lib.hid (rrows2_at hT (fun b h => h) wr (Same.below hbel fun _ h => h) hgr (by have := hlit.1; omega))
        rw [← HE.out] at HR
        obtain ⟨ga, gc, da, dc⟩ := r
        clear hmade hbel hT
        go_wp2_with (first
          | (refine wpList_load_mid rfl 54 _ rfl b (o + k * 7 + 2) rfl [.int .i64 x.tree.kind, .string x.tree.text, .slice ga x.tree.gaps.length gc, .slice da x.tree.kids.length dc] _ HST.out Try.underlying54 rfl sizeN ?_)
          | (go_at_call 41; refine HR.out.mono ?_; rintro e w2 ⟨ta, tc, TR, rfl, hti, hb2⟩; have HTI := Lib.hid hti; have HB2 := Lib.hid hb2; have hz2 := hb2.size; clear hti hb2)
          | (at_builtin; refine wpList_append_lies _ rfl (.tmp 24) (.tmp 26) 39 rfl w.heap.size 44 j0 _ 1 24 Try.underlying39 hj0 hy0 hy1 hy2 rfl (by omega) (.slice a2 k c2) k (L.flatMap cellsT) rfl ((owns_later HM.out.2.1 HB2.out).alloc _) ⟨w2.heap.size, 0, none⟩ 1 1 (cellsT (Pl.tbl x, ⟨ta, tc, TR⟩)) rfl rfl (World.news_of_block (cs := #[.slice ta (Pl.tbl x).length tc]) (t := 44) (fr := (0, 0)) (heap_alloc_new w2 _)) (by simp [Value.oneCell', cellsT]) (by omega) (by unfold maxLen; omega) (by omega) (by simp; omega) (w2.heap.size + 1) (by simp) ?_; intro g5 cap5 w5 hown5 hgrow5 hat5 hlt5; have HO5 := Lib.hid hown5; have HG5 := Lib.hid hgrow5; have HA5 := Lib.hid hat5; clear hown5 hgrow5 hat5))
        refine ⟨⟨k + 1, some ⟨g5, 0, none⟩, cap5, L ++ [(Pl.tbl x, ⟨ta, tc, TR⟩)], by omega, by go_num, rfl, ?_, ?_, ?_⟩, by simp [intOf]; omega⟩
        · rw [List.map_append, HL.out, HTk.out]; rfl
        · exact madeT_snoc HM.out HB2.out HTI.out HO5.out HG5.out HA5.out
        · exact ((HB.out.trans (HB2.out.mono hgr)).alloc (by omega) _).grown HG5.out (by simp; omega) (fun z hz => (HM.out.2.1.lt z hz).1)
    · have hkn : k = n := by omega
      subst hkn
      have HD : Hid (L.map Prod.fst = Pl.tbls us) := Lib.hid (by rw [HL.out, List.take_of_length_le (by unfold Pl.tbls; rw [List.length_map, HN.out]; exact Nat.le_refl _)])
      go_wp2_with fail
      go_ret
      obtain ⟨c3, a3, he, hf⟩ := madeT_done HM.out
      exact ⟨a3, c3, by rw [he, ← HD.out, List.length_map]; rfl, by rw [← HD.out]; exact hf, HB.out⟩
end Go.Proofs.Ytoelfiendfemaaa
