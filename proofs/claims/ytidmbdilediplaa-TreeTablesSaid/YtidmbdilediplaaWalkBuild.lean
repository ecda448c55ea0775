/- The walk of Build. -/
import Derived.Test.YtidmbdilediplaaWalkTreeOf
namespace Go.Proofs.Ytidmbdilediplaa
open Go.RowKit Go.Deep
set_option linter.unusedVariables false
set_option linter.unusedSimpArgs false

/-- The tree whose table this is, or none. -/
def BuildP (l : List Pl.Rw) (w1 : World) (e : Ending) (w' : World) : Prop :=
  Below w1.heap.size w1 w' ∧ ((∃ (t : Pl.Tr) (r : Sl), l = Pl.tab t 0 (-1) ∧ IsT w' t r ∧ e = .returned (.tuple #[.agg #[.int .i64 t.kind, .string t.text, .slice r.ga t.gaps.length r.gc, .slice r.da t.kids.length r.dc], .int .i64 0])) ∨
    ((∀ t, l ≠ Pl.tab t 0 (-1)) ∧ e = .returned (.tuple #[.agg #[.int .i64 0, .string ⟨#[]⟩, .slice none 0 0, .slice none 0 0], .int .i64 7])))
theorem load5 {w : World} {b o : Nat} {x : Pl.Rw} {r : Sl} (h : At5 w b o x r) : w.rangeAt b o [.int .i64 x.parent, .int .i64 x.kind, .string x.text, .slice r.ga x.gaps.length r.gc, .slice r.da x.kids.length r.dc] := h
theorem cell_single {w : World} {b f o : Nat} {v u : Value} (h : w.cell? ⟨b, o, none⟩ = some u) : (w.setCell ⟨b, o, none⟩ v).cell? ⟨b, f, none⟩ = if f = o then some v else w.cell? ⟨b, f, none⟩ := by
  by_cases hf : f = o
  · subst hf; rw [if_pos rfl]; exact World.cell?_setCell_same _ _ _ h
  · rw [if_neg hf]; exact World.cell?_setCell_other _ _ _ _ (fun e => hf (by injection e with _ e2; exact e2.symm))
set_option maxHeartbeats 3200000 in
set_option maxRecDepth 100000 in
theorem build_any {P : Nat → Prop} {w1 : World} (a : Option Addr) (c : Nat) (l : List Pl.Rw) (R : Nat → Sl) (hx : TabIn P w1 a l R) (hP : ∀ b, P b → b < w1.heap.size) (hl : l.length ≤ 100000) (hg : ∀ x ∈ l, x.gaps.length ≤ 1000000 ∧ x.kids.length ≤ 1000000) :
    Calls Try.prog 23 #[.slice a l.length c] w1 (BuildP l w1) := by
  have HX := Lib.hid hx
  have HG := Lib.hid hg
  clear hx hg
  obtain ⟨n, hn⟩ : ∃ n, n = l.length := ⟨_, rfl⟩
  have HN := Lib.hid hn
  rw [← hn] at hl ⊢
  clear hn
  rcases Nat.eq_zero_or_pos n with h0 | hpos
  · subst h0
    have HNo : Hid (∀ t, l ≠ Pl.tab t 0 (-1)) := Lib.hid fun t ht => by
      have h1 := HN.out
      rw [ht, Pl.tab_len] at h1
      have := Pl.sz_pos t
      omega
    go_enter Try.func23, Try.ntmps23
    go_wp2_with fail
    exact bodyPost_ret (v := .tuple #[.agg #[.int .i64 0, .string ⟨#[]⟩, .slice none 0 0, .slice none 0 0], .int .i64 7]) (by simp [results, Try.results23, go_sem]) rfl ⟨(Below.refl _ _).alloc (Nat.le_refl _) _, .inr ⟨HNo.out, rfl⟩⟩
  have hll : 0 < l.length := by rw [← HN.out]; exact hpos
  have hx0 := List.getElem?_eq_getElem hll
  rcases HX.out.2.1 with h0 | ⟨b, o, rfl, hb, hat⟩
  · rw [h0] at hll; simp at hll
  have hbw := hP b hb
  have hn0 : ((n : Int) == 0) = false := by simp; omega
  have hp0 : w1.cell? ⟨b, o, none⟩ = some (.int .i64 l[0].parent) := by have := (hat 0 _ hx0).cells.1; simpa using this
  have hp0' := (cell_past b w1 (.cells #[.int .i64 0, .string ⟨#[]⟩, .slice none 0 0, .slice none 0 0] 25) o hbw).trans hp0
  have HAt := Lib.hid hat
  have HX0 := Lib.hid hx0
  generalize l[0] = x0 at *
  clear hat hx0 hll
  have pa := cell_past b
  rcases (Classical.em (x0.parent = -1)).symm with hpar | hpar
  · have HNo : Hid (∀ t, l ≠ Pl.tab t 0 (-1)) := Lib.hid fun t ht => by
      have h1 := HX0.out
      rw [ht, Pl.tab_head] at h1
      obtain rfl := Option.some.inj h1
      exact hpar rfl
    obtain ⟨hb1, hb2⟩ := int_ne hpar
    clear hpar
    go_enter Try.func23, Try.ntmps23
    go_wp2_with fail
    exact bodyPost_ret (v := .tuple #[.agg #[.int .i64 0, .string ⟨#[]⟩, .slice none 0 0, .slice none 0 0], .int .i64 7]) (by simp [results, Try.results23, go_sem]) rfl ⟨(Below.refl _ _).alloc (Nat.le_refl _) _, .inr ⟨HNo.out, rfl⟩⟩
  have HPar := Lib.hid hpar
  rw [hpar] at hp0 hp0'
  clear hpar
  have hmk := make_nodes n (by omega)
  have hmi := run_make_row' (P := Try.prog) 44 3 (.int .i64 0) 8 Try.underlying44 infoI rfl .i64 .i64 n (by omega) (by omega)
  go_enter Try.func23, Try.ntmps23
  go_wp2_with fail
  obtain ⟨hr1, hr2, hr3, hlow, hsz0⟩ := three_new w1 (.cells #[.int .i64 0, .string ⟨#[]⟩, .slice none 0 0, .slice none 0 0] 25) (.cells (madeCells #[.int .i64 0, .string ⟨#[]⟩, .slice none 0 0, .slice none 0 0] (n * 4)) 25) (.cells (madeCells #[.int .i64 0] n) 3)
  have H1 := Lib.hid hr1
  have H2 := Lib.hid hr2
  have H3 := Lib.hid hr3
  have HL0 := Lib.hid hlow
  have HS0 := Lib.hid hsz0
  clear hr1 hr2 hr3 hlow hsz0 hmk hmi pa hp0' hp0
  go_loopw [6] (fun i wr => ∃ (m : Nat) (v : Int) (T : Nat → Pl.Tr) (RR : Nat → Sl), m ≤ n ∧ i = .int .i64 v ∧ v + 1 = (m : Int) ∧ Below w1.heap.size w1 wr ∧ w1.heap.size + 1 + 1 < wr.heap.size ∧
    wr.heap[w1.heap.size]? = some (.cells #[.int .i64 0, .string ⟨#[]⟩, .slice none 0 0, .slice none 0 0] 25 (0, 0)) ∧ wr.there (w1.heap.size + 1) 0 (n * 4) ∧ wr.there (w1.heap.size + 1 + 1) 0 n ∧
    (∀ j, m ≤ j → j < n → Pl.Sub l j (T j) ∧ wr.cell? ⟨w1.heap.size + 1 + 1, j, none⟩ = some (.int .i64 (j + Pl.sz (T j) : Nat)) ∧ AtT wr (w1.heap.size + 1) (j * 4) (T j) (RR j) ∧ Tin (fun b => w1.heap.size + 1 + 1 < b ∧ b < wr.heap.size) wr (T j) (RR j))) (fun i _ => (intOf i + 1).toNat)
  case atStart => exact ⟨n, _, fun _ => zeroT, fun _ => ⟨none, 0, none, 0⟩, Nat.le_refl _, rfl, by omega, HL0.out, by rw [HS0.out]; omega, H1.out, there_block H2.out 0 _ (by simp [size_madeCells]), there_block H3.out 0 _ (by simp [size_madeCells]), fun j h1 h2 => by omega⟩
  case round =>
    obtain ⟨m, v, T, RR, hm, rfl, hv, hbel, hsz, hres, hth, hte, hall⟩ := hrel
    have HB := Lib.hid hbel
    have HRes := Lib.hid hres
    have HTh := Lib.hid hth
    have HTe := Lib.hid hte
    have HA := Lib.hid hall
    clear hres hth hte hall
    rcases m with _ | k
    · obtain rfl : v = -1 := by omega
      obtain ⟨hs0, hc0, ha0, ht0⟩ := HA.out 0 (Nat.le_refl _) hpos
      have HSub := Lib.hid (Pl.sub_all l (T 0) x0 HX0.out HPar.out hs0)
      obtain ⟨⟨p0, p1, p2, p3⟩, z0, z1, z2, z3⟩ := blk_cells HRes.out
      have HT0 := Lib.hid ht0
      have A0 := Lib.hid (At4.range ha0)
      generalize T 0 = t at *
      generalize RR 0 = r at *
      obtain ⟨ga1, gc1, da1, dc1⟩ := r
      have hszt : Pl.sz t ≤ n := by
        obtain ⟨q, r', hr'⟩ := hs0
        have := congrArg List.length hr'
        rw [List.drop_zero, List.length_append, Pl.tab_len, ← HN.out] at this
        omega
      rw [Nat.zero_add] at hc0
      have hi1 : (0 : Int) < (n : Int) := by omega
      clear hs0 ha0 ht0 hbel
      rcases (Classical.em (Pl.sz t = n)).symm with hne | heq
      · have HNo : Hid (∀ t, l ≠ Pl.tab t 0 (-1)) := Lib.hid (HSub.out.2 (by rw [← HN.out]; exact hne))
        obtain ⟨hb1, hb2⟩ := int_ne (x := (Pl.sz t : Int)) (y := n) (fun e => hne (by omega))
        clear hne
        go_wp2_with fail
        exact bodyPost_ret (v := .tuple #[.agg #[.int .i64 0, .string ⟨#[]⟩, .slice none 0 0, .slice none 0 0], .int .i64 7]) (by simp [results, Try.results23, go_sem, p0, p1, p2, p3]) rfl ⟨below_set4 HB.out (Nat.le_refl _), .inr ⟨HNo.out, rfl⟩⟩
      · have HYes : Hid (l = Pl.tab t 0 (-1)) := Lib.hid (HSub.out.1 (by rw [← HN.out]; exact heq))
        rw [heq] at hc0
        clear heq
        go_wp2_with (refine wpList_load_mid rfl 25 _ rfl (w1.heap.size + 1) 0 rfl [.int .i64 t.kind, .string t.text, .slice ga1 t.gaps.length gc1, .slice da1 t.kids.length dc1] _ (by simpa using A0.out) Try.underlying25 rfl sizeN ?_)
        refine bodyPost_ret (v := .tuple #[.agg #[.int .i64 t.kind, .string t.text, .slice ga1 t.gaps.length gc1, .slice da1 t.kids.length dc1], .int .i64 0]) (by simp [results, Try.results23, go_sem, p0, p1, p2, p3]) rfl ⟨below_set4 HB.out (Nat.le_refl _), .inl ⟨t, ⟨ga1, gc1, da1, dc1⟩, HYes.out, ?_, rfl⟩⟩
        exact HT0.out.keep (fun y hy => heap_set4 (by omega)) (fun y hy => by simp; omega)
    · obtain rfl : v = (k : Int) := by omega
      have hkn : k < n := by omega
      have hkl : k < l.length := by rw [← HN.out]; exact hkn
      have hgx := List.getElem?_eq_getElem hkl
      have hmem := HG.out _ (List.getElem_mem hkl)
      have hk0 : (0 : Int) ≤ (k : Int) := Int.natCast_nonneg _
      have hk1 : (k : Int) < (n : Int) := by omega
      have hxr := HX.out.keep (w' := wr) (Q := fun b => b < wr.heap.size) (Same.below hbel hP) (fun y hy => by have := hP y hy; have := hbel.size; omega)
      have hatr : ∀ (j : Nat) x, l[j]? = some x → At5 wr b (o + j * 5) x (R j) := fun j x hj => (HAt.out j x hj).keep (hbel.block b hbw)
      have hlen : ∀ j, k + 1 ≤ j → j < n → j + Pl.sz (T j) ≤ n := fun j h1 h2 => by
        obtain ⟨q, r', hr'⟩ := (HA.out j h1 h2).1
        have := congrArg List.length hr'
        rw [List.length_drop, List.length_append, Pl.tab_len, ← HN.out] at this
        omega
      have hcall := endOf_any b o c l R hxr hatr k _ hgx (by rw [← HN.out]; omega) (w1.heap.size + 1 + 1) n (fun j => j + Pl.sz (T j)) (fun j h1 h2 => by
        rw [← HN.out] at h2
        have h3 := HA.out j (by omega) h2
        have h4 := hlen j (by omega) h2
        have h5 := Pl.sz_pos (T j)
        exact ⟨h3.2.1, by show j < j + Pl.sz (T j); omega, by show j + Pl.sz (T j) ≤ 1000000; omega⟩)
      rw [← HN.out] at hcall
      have hSub : ∀ j, k < j → j < l.length → Pl.Sub l j (T j) := fun j h1 h2 => (HA.out j (by omega) (by rw [HN.out]; exact h2)).1
      have A5 := hatr k _ hgx
      have hrow := (HX.out.2.2 k _ hgx).keep (w' := wr) (Q := P) (Same.below hbel hP) (fun _ h => h)
      have hstep := Pl.sub_step l k _ hgx
      have hno := Pl.sub_no l k _ hgx T hSub
      have hyes := Pl.endf_some l k T hSub l[k].kids (k + 1)
      obtain ⟨hgl, hkl2⟩ := hmem
      generalize l[k] = x at *
      generalize R k = rr at *
      obtain ⟨ga, gc, ka, kc⟩ := rr
      cases hE : Pl.endf l k (fun j => j + Pl.sz (T j)) x.kids (k + 1) with
      | none =>
        rw [hE] at hcall
        have HNo := Lib.hid (hno hE)
        have HC := Lib.hid hcall
        obtain ⟨⟨p0, p1, p2, p3⟩, z0, z1, z2, z3⟩ := blk_cells HRes.out
        clear hE hno hyes hstep hcall hrow A5 hSub hlen hatr hxr hgx hbel
        go_wp2_with (go_at_call 39; refine HC.out.mono ?_; rintro e w2 ⟨rfl, rfl⟩; simp only [endR])
        exact bodyPost_ret (v := .tuple #[.agg #[.int .i64 0, .string ⟨#[]⟩, .slice none 0 0, .slice none 0 0], .int .i64 7]) (by simp [results, Try.results23, go_sem, p0, p1, p2, p3]) rfl ⟨below_set4 HB.out (Nat.le_refl _), .inr ⟨HNo.out, rfl⟩⟩
      | some e =>
        rw [hE] at hcall
        obtain ⟨ts, r', hk3, hd3, he3, hq3⟩ := hyes e (by omega) hE
        have HSubK := Lib.hid (hstep ts r' hk3 hd3)
        have hsl : ts.length = x.kids.length := by rw [hk3, Pl.kidx_len]
        have hek : e = k + Pl.sz (.node x.kind x.text x.gaps ts) := by rw [Pl.sz]; omega
        have hen : e ≤ n := by
          have := congrArg List.length hd3
          rw [List.length_drop, List.length_append, Pl.tabs_len, ← HN.out] at this
          omega
        have HC := Lib.hid hcall
        have HQ := Lib.hid hq3
        have HRow := Lib.hid hrow
        have HA5 := Lib.hid A5
        have HEK := Lib.hid hek
        have HSL := Lib.hid hsl
        have hte1 := HTe.out k hkn
        rw [Nat.zero_add] at hte1
        obtain ⟨old, hold⟩ := Option.isSome_iff_exists.1 hte1.1
        have hfro := hte1.2
        have hTB := hbel.size
        have HHold := Lib.hid hold
        -- the call of treeOf, in the world behind the store
        have HT : Hid (Calls Try.prog 40 #[.agg #[.int .i64 x.parent, .int .i64 x.kind, .string x.text, .slice ga x.gaps.length gc, .slice ka x.kids.length kc], .slice (some ⟨w1.heap.size + 1, 0, none⟩) n n] (wr.setCell ⟨w1.heap.size + 1 + 1, k, none⟩ (.int .i64 e))
            (TreeOfP (fun b => w1.heap.size + 1 + 1 < b ∧ b < wr.heap.size) (.node x.kind x.text x.gaps ts) (wr.setCell ⟨w1.heap.size + 1 + 1, k, none⟩ (.int .i64 e)))) := by
          have hset : ∀ y, y ≠ w1.heap.size + 1 + 1 → (wr.setCell ⟨w1.heap.size + 1 + 1, k, none⟩ (.int .i64 e)).heap[y]? = wr.heap[y]? := fun y hy => Below.heap_setCell _ ⟨w1.heap.size + 1 + 1, k, none⟩ _ y hy
          refine treeOf_any (P := fun b => w1.heap.size + 1 + 1 < b ∧ b < wr.heap.size) x ⟨ga, gc, ka, kc⟩ ?_ hgl hkl2 (w1.heap.size + 1) n n (by simp; omega) T RR (fun y hy => by simp; exact hy.2) ts hsl (fun j kk hkk => ?_) (by omega)
          · exact hrow.keep (fun y hy => hset y (by have := hP y hy; omega)) (fun y hy => by have := hP y hy; simp; omega)
          · obtain ⟨q, h1, h2, h3, h4⟩ := hq3 j kk hkk
            rw [← HN.out] at h3
            obtain ⟨_, _, h7, h8⟩ := HA.out q (by omega) h3
            exact ⟨q, h1, h3, h4, At4.keep (P := fun y => y = w1.heap.size + 1) h7 (fun y hy => hset y (by omega)) rfl, h8.keep (fun y hy => hset y (by omega)) (fun _ h => h)⟩
        obtain ⟨y0, y1, y2, y3, y4⟩ := At5.cells (A5.keep (w' := wr.setCell ⟨w1.heap.size + 1 + 1, k, none⟩ (.int .i64 e)) (Below.heap_setCell _ ⟨w1.heap.size + 1 + 1, k, none⟩ _ b (by show b ≠ w1.heap.size + 1 + 1; omega)))
        simp only at y3 y4
        clear hE hno hyes hstep hcall hrow A5 hSub hlen hatr hxr hgx hbel hq3 hk3 hd3 hek hsl he3
        go_wp2_with (first
          | (go_at_call 39; refine HC.out.mono ?_; rintro e w2 ⟨rfl, rfl⟩; simp only [endR])
          | (refine wpList_store4 rfl (.tmp 55) (.tmp 54) rfl (w1.heap.size + 1) (k * 4) _ _ _ _ _ _ _ _ rfl rfl HTh5.out ?_; intro w6 hw6; have HW6 := Lib.hid hw6; clear hw6)
          | (go_at_call 40; refine HT.out.mono ?_; rintro _ w5 ⟨⟨ga2, gc2, da2, dc2⟩, rfl, ht5, hb5⟩; have HTh5 := Lib.hid (there_sub (there_keep HTh.out ((hb5.block (w1.heap.size + 1) (by simp; omega)).trans (Below.heap_setCell _ ⟨w1.heap.size + 1 + 1, k, none⟩ _ _ (by show w1.heap.size + 1 ≠ w1.heap.size + 1 + 1; omega)))) (o := k * 4) 4 (by omega)); have HT5 := Lib.hid ht5; have HB5 := Lib.hid hb5; clear ht5 hb5))
        have hs5 := HB5.out.size
        simp at hs5
        have hx5 : ∀ y, y < wr.heap.size → w5.heap[y]? = (wr.setCell ⟨w1.heap.size + 1 + 1, k, none⟩ (.int .i64 e)).heap[y]? := fun y hy => HB5.out.block y (by simp; exact hy)
        have hset : ∀ y, y ≠ w1.heap.size + 1 + 1 → (wr.setCell ⟨w1.heap.size + 1 + 1, k, none⟩ (.int .i64 e)).heap[y]? = wr.heap[y]? := fun y hy => Below.heap_setCell _ ⟨w1.heap.size + 1 + 1, k, none⟩ _ y hy
        have hx6 : ∀ y, y < wr.heap.size → y ≠ w1.heap.size + 1 → w6.heap[y]? = (wr.setCell ⟨w1.heap.size + 1 + 1, k, none⟩ (.int .i64 e)).heap[y]? := fun y hy hne => (HW6.out.other y hne).trans (hx5 y hy)
        have hs6 := HW6.out.size
        have hE6 : ∀ j, w6.cell? ⟨w1.heap.size + 1 + 1, j, none⟩ = if j = k then some (.int .i64 e) else wr.cell? ⟨w1.heap.size + 1 + 1, j, none⟩ := fun j =>
          (World.cell?_of_block (w := wr.setCell ⟨w1.heap.size + 1 + 1, k, none⟩ (.int .i64 e)) (a := ⟨w1.heap.size + 1 + 1, j, none⟩) (hx6 (w1.heap.size + 1 + 1) (by omega) (by omega))).trans (cell_single HHold.out)
        have hbel2 : Below w1.heap.size w1 w5 := (HB.out.setCell (p := ⟨w1.heap.size + 1 + 1, k, none⟩) (by show w1.heap.size ≤ w1.heap.size + 1 + 1; omega) _).trans (HB5.out.mono (by simp; omega))
        refine ⟨⟨k, (k : Int) - 1, fun j => if j = k then .node x.kind x.text x.gaps ts else T j, fun j => if j = k then ⟨ga2, gc2, da2, dc2⟩ else RR j, by omega, rfl, by omega, HW6.out.below hbel2 (by omega), by omega, (hx6 _ (by omega) (by omega)).trans ((hset _ (by omega)).trans HRes.out), ?_, ?_, fun j h1 h2 => ?_⟩, by simp [intOf] <;> omega⟩
        · exact HW6.out.there _ _ (there_keep HTh.out ((hx5 _ (by omega)).trans (hset _ (by omega))))
        · exact there_keep (World.there_setCells HTe.out (w1.heap.size + 1 + 1) k [.int .i64 e]) (hx6 _ (by omega) (by omega))
        · by_cases hjk : j = k
          · subst hjk
            simp only [if_pos]
            refine ⟨HSubK.out, ?_, at4_of_range HW6.out.here, ?_⟩
            · rw [hE6 j, if_pos rfl, ← HEK.out]
            · refine HT5.out.keep (fun y hy => HW6.out.other y ?_) (fun y hy => ?_)
              · simp at hy; omega
              · simp at hy; omega
          · simp only [if_neg hjk]
            obtain ⟨h3, h4, h5, h6⟩ := HA.out j (by omega) h2
            refine ⟨h3, by rw [hE6 j, if_neg hjk]; exact h4, ?_, ?_⟩
            · refine at4_of_range (HW6.out.apart _ _ (by simp; omega) ?_)
              exact At4.range (At4.keep (P := fun y => y = w1.heap.size + 1) h5 (fun y hy => (hx5 y (by omega)).trans (hset y (by omega))) rfl)
            · exact h6.keep (fun y hy => (hx6 y hy.2 (by omega)).trans (hset y (by omega))) (fun y hy => by omega)
end Go.Proofs.Ytidmbdilediplaa
