/- The walk of the reference's walk. -/
import Derived.Test.YtoelfiendfemaaaDecl
namespace Go.Proofs.Ytoelfiendfemaaa
open Go.RowKit Go.Deep
set_option linter.unusedVariables false
set_option linter.unusedSimpArgs false

theorem four_after {w w2 : World} {o1 o2 o3 o4 : Obj} (hb : Below ((((w.alloc o1).alloc o2).alloc o3).alloc o4).heap.size ((((w.alloc o1).alloc o2).alloc o3).alloc o4) w2) :
    w2.heap[w.heap.size]? = some o1 ∧ w2.heap[w.heap.size + 1]? = some o2 ∧ w2.heap[w.heap.size + 2]? = some o3 ∧ w2.heap[w.heap.size + 3]? = some o4 ∧ Below w.heap.size w w2 ∧ w.heap.size + 4 ≤ w2.heap.size := by
  obtain ⟨h1, h2, h3, h4, h5⟩ := three_new w o1 o2 o3
  have hz := hb.size
  simp at hz
  have k : ∀ x, x < w.heap.size + 3 → w2.heap[x]? = (((w.alloc o1).alloc o2).alloc o3).heap[x]? := fun x hx => (hb.block x (by simp; omega)).trans (Below.heap_alloc _ _ _ (by rw [h5]; exact hx))
  refine ⟨(k _ (by omega)).trans h1, (k _ (by omega)).trans h2, (k _ (by omega)).trans h3, ?_, (h4.alloc (by rw [h5]; omega) _).trans (hb.mono (by simp; omega)), by omega⟩
  refine (hb.block _ (by simp)).trans ?_
  have h := heap_alloc_new (((w.alloc o1).alloc o2).alloc o3) o4
  rw [h5] at h
  exact h
theorem sizeAr : (Try.prog.info? 100).map (·.size) = some 3 := by kernel_rfl
theorem cell_set2 {b x f : Nat} {w2 : World} {v0 v1 : Value} (hb : x ≠ b) : ((w2.setCell ⟨b, 0, none⟩ v0).setCell ⟨b, 1, none⟩ v1).cell? ⟨x, f, none⟩ = w2.cell? ⟨x, f, none⟩ :=
  World.cell?_of_block (w := w2) (a := ⟨x, f, none⟩) ((Below.heap_setCell _ ⟨b, 1, none⟩ _ x hb).trans (Below.heap_setCell _ ⟨b, 0, none⟩ _ x hb))
theorem heap_set2 {b x : Nat} {w2 : World} {v0 v1 : Value} (hb : x ≠ b) : ((w2.setCell ⟨b, 0, none⟩ v0).setCell ⟨b, 1, none⟩ v1).heap[x]? = w2.heap[x]? :=
  (Below.heap_setCell _ ⟨b, 1, none⟩ _ x hb).trans (Below.heap_setCell _ ⟨b, 0, none⟩ _ x hb)
theorem grown_set2 {w w2 : World} {row : Option Nat} {b : Nat} {v0 v1 : Value} (h : w.grownBy w2 row) (hb : w.heap.size ≤ b) : w.grownBy ((w2.setCell ⟨b, 0, none⟩ v0).setCell ⟨b, 1, none⟩ v1) row :=
  ⟨h.os, h.tape, h.output, by simp; exact h.size, fun k hk hne => (heap_set2 (by omega)).trans (h.block k hk hne)⟩
theorem blk_range {w : World} {b : Nat} {cs : Array Value} {T : TypeId} (h : w.heap[b]? = some (.cells cs T (0, 0))) : w.rangeAt b 0 cs.toList := by
  intro j v hv
  rw [Nat.zero_add]
  exact (blk_one h j v (by simpa using hv)).1
theorem decl1_len (k : Int) (s : ByteArray) (u i : Int) (fn cl : ByteArray) (m : Bool) : (Pl.decl1 k s u i fn cl m).toList.length ≤ 1 := by
  cases Pl.decl1 k s u i fn cl m <;> simp
theorem dcss_len (ts : List Pl.Tr) (h : ∀ t ∈ ts, ∀ u i fn cl m, (Pl.dcs t u i fn cl m).length ≤ Pl.sz t) (u : Int) (i : Nat) (fn cl : ByteArray) (m : Bool) : (Pl.dcss ts u i fn cl m).length ≤ Pl.szs ts := by
  induction ts generalizing i with
  | nil => simp [Pl.dcss]
  | cons t ts ih =>
    rw [Pl.dcss, List.length_append, Pl.szs]
    have := h t (by simp) u i fn cl m
    have := ih (fun x hx => h x (by simp [hx])) (i + Pl.sz t)
    omega
theorem dcs_len (t : Pl.Tr) : ∀ u i fn cl m, (Pl.dcs t u i fn cl m).length ≤ Pl.sz t := by
  refine Pl.Tr.ind (M := fun t => ∀ u i fn cl m, (Pl.dcs t u i fn cl m).length ≤ Pl.sz t) (fun k s g ks ih u i fn cl m => ?_) t
  rw [Pl.dcs, List.length_append, Pl.sz]
  have := decl1_len k s u i fn cl m
  have := dcss_len ks ih u (i + 1) (Pl.fn1 k s fn cl m) s (decide (k = 7))
  omega
theorem news_dec (w : World) (d : Pl.Dc) : ∀ (j : Nat) (u : Value), (cellsD d)[j]? = some u → (w.alloc (.cells #[.int .i64 d.kind, .string d.owner, .string d.name, .int .i64 d.unit, .int .i64 d.node] 77)).cell? ((⟨w.heap.size, 0, none⟩ : Addr).add j) = some u :=
  World.news_of_block (cs := #[.int .i64 d.kind, .string d.owner, .string d.name, .int .i64 d.unit, .int .i64 d.node]) (t := 77) (fr := (0, 0)) (heap_alloc_new w _)
theorem flatD_len (L : List Pl.Dc) : (L.flatMap cellsD).length = L.length * 5 := flatten_len 5 cellsD (fun _ => rfl) L
/-- What walk answers: the declarations behind those that are there, and the place behind the tree. -/
def WalkP (B : Nat) (t : Pl.Tr) (u : Int) (i : Nat) (fn cl : ByteArray) (m : Bool) (a : Option Addr) (n c : Nat) (L : List Pl.Dc) (w1 : World) (e : Ending) (w' : World) : Prop :=
  ∃ (a' : Option Addr) (n' c' : Nat), e = .returned (.tuple #[.slice a' n' c', refV (u, ((i + Pl.sz t : Nat) : Int))]) ∧ n' = (L ++ Pl.dcs t u i fn cl m).length ∧
    w'.ownsRow B 77 5 (.slice a' n' c') n' ((L ++ Pl.dcs t u i fn cl m).flatMap cellsD) ∧ w1.grownBy w' (Value.slice a n c).ownBlock ∧ ∀ k, (Value.slice a' n' c').ownBlock = some k → (Value.slice a n c).ownBlock = some k ∨ w1.heap.size ≤ k
set_option maxHeartbeats 3200000 in
set_option maxRecDepth 100000 in
theorem walk_at {P : Nat → Prop} {w : World} {t : Pl.Tr} {r : Sl} (h : Tin P w t r) (hP : ∀ b, P b → b < w.heap.size) (B : Nat) (hwB : w.heap.size ≤ B) : ∀ w1, Same P w w1 → B ≤ w1.heap.size → ∀ (a : Option Addr) (n c : Nat) (L : List Pl.Dc) (u : Int) (i : Nat) (fn cl : ByteArray) (m : Bool),
    n + Pl.sz t ≤ 1000000 → i + Pl.sz t ≤ 1000000 → n = L.length → (∀ x ∈ Pl.pre t, x.text.size ≤ 8000) → cl.size ≤ 8000 → w1.ownsRow B 77 5 (.slice a n c) n (L.flatMap cellsD) →
    Calls Try.prog 59 #[.slice a n c, .agg #[.int .i64 t.kind, .string t.text, .slice r.ga t.gaps.length r.gc, .slice r.da t.kids.length r.dc], refV (u, (i : Int)), arV fn cl m] w1 (WalkP B t u i fn cl m a n c L w1) := by
  obtain ⟨i0, hi0, hz0, hz1, hz2⟩ := info_parts infoD
  induction h with
  | mk t r R hs hg hl hk hr ih =>
    intro w1 hsame hBw a n c L u i fn cl m hsz hszi hnL htx hcl hown
    cases t with
    | node k s g ks =>
      obtain ⟨ga, gc, da, dc⟩ := r
      simp only [kids_node, gaps_node, text_node, kind_node] at *
      have hszn : Pl.sz (.node k s g ks) = Pl.szs ks + 1 := by rw [Pl.sz]
      have HSZ := Lib.hid hszn
      rw [hszn] at hsz hszi
      have hlen := Pl.len_szs ks
      obtain ⟨q, hq⟩ : ∃ q, q = ks.length := ⟨_, rfl⟩
      rw [← hq] at hlen ⊢
      have hql : q ≤ 1000000 := by omega
      have hss : s.size ≤ 8000 := htx (.node k s g ks) (by rw [Pl.pre]; simp)
      have HTX : Hid (∀ t ∈ ks, ∀ x ∈ Pl.pre t, x.text.size ≤ 8000) := Lib.hid (fun t ht x hx => htx x (by rw [Pl.pre]; exact List.mem_cons_of_mem _ (Pl.mem_pres ht hx)))
      have HG := Lib.hid hg
      have HQ := Lib.hid hq
      have HK := Lib.hid hk
      have HI := Lib.hid ih
      have HS := Lib.hid hsame
      have HO := Lib.hid hown
      have HnL := Lib.hid hnL
      have hownlt := hown.lt
      have HLT := Lib.hid hownlt
      have HDc := Lib.hid (fun gv kv w => declaration_any k s gv kv u i fn cl m w)
      have HBl := Lib.hid (fun gv kv w => below_any k s gv kv fn cl m w (by omega) (by omega))
      have HDl := Lib.hid (dcss_len ks (fun t _ => dcs_len t))
      obtain ⟨fn2, hfn2⟩ : ∃ f, f = Pl.fn1 k s fn cl m := ⟨_, rfl⟩
      obtain ⟨m2, hm2⟩ : ∃ b, b = decide (k = 7) := ⟨_, rfl⟩
      have HDE : Hid (∀ o, Pl.decl1 k s u i fn cl m = o → Pl.dcs (.node k s g ks) u i fn cl m = o.toList ++ Pl.dcss ks u (i + 1) fn2 s m2) := Lib.hid (fun o ho => by rw [Pl.dcs, ho, hfn2, hm2])
      rw [← hfn2, ← hm2] at HBl
      clear hq hk hg hr ih hsame hown hszn hnL hownlt htx hfn2 hm2
      cases hd : Pl.decl1 k s u i fn cl m with
      | none =>
        rw [hd] at HDc
        have HDE : Hid (Pl.dcs (.node k s g ks) u i fn cl m = [] ++ Pl.dcss ks u (i + 1) fn2 s m2) := Lib.hid (HDE.out _ hd)
        clear hd
        go_enter Try.func59, Try.ntmps59
        go_upto_region 2 with fail
        go_upto_region 3 with (go_at_call 74; refine (HDc.out _ _ _).mono ?_; rintro e w2 ⟨he, hb2⟩; replace he : e = .returned (.tuple #[.agg #[.int .i64 0, .string ⟨#[]⟩, .string ⟨#[]⟩, .int .i64 0, .int .i64 0], .bool false]) := he; subst he; obtain ⟨k1, k2, k3, k4, hb3, hz3⟩ := four_after hb2; have K1 := Lib.hid k1; have K2 := Lib.hid k2; have K3 := Lib.hid k3; have K4 := Lib.hid k4; have HB := Lib.hid hb3; clear hb2 hb3 k1 k2 k3 k4)
        go_upto_region 5 with fail
        obtain ⟨w3, hw3⟩ : ∃ w3, w3 = w2.alloc (.cells #[.int .i64 0, .string ⟨#[]⟩, .string ⟨#[]⟩, .int .i64 0, .int .i64 0] 77) := ⟨_, rfl⟩
        rw [← hw3]
        have v1 : w3.heap[w1.heap.size]? = some (.cells #[.int .i64 k, .string s, .slice ga g.length gc, .slice da q dc] 54) := by rw [hw3]; exact (Below.heap_alloc _ _ _ (by omega)).trans K1.out
        have v2 : w3.heap[w1.heap.size + 1]? = some (.cells #[.int .i64 u, .int .i64 i] 29) := by rw [hw3]; exact (Below.heap_alloc _ _ _ (by omega)).trans K2.out
        have v3 : w3.heap[w1.heap.size + 1 + 1]? = some (.cells #[.string fn, .string cl, .bool m] 100) := by rw [hw3]; exact (Below.heap_alloc _ _ _ (by omega)).trans K3.out
        have v4 : w3.heap[w1.heap.size + 1 + 1 + 1]? = some (.cells #[.int .i64 0, .int .i64 0] 29) := by rw [hw3]; exact (Below.heap_alloc _ _ _ (by omega)).trans K4.out
        have HGr : Hid (w1.grownBy w3 (Value.slice a n c).ownBlock) := Lib.hid (by rw [hw3]; exact (below_grown HB.out).trans (World.grownBy_alloc w2 _ _))
        have HOw : Hid (w3.ownsRow B 77 5 (.slice a n c) n ((L ++ []).flatMap cellsD)) := Lib.hid (by rw [hw3, List.append_nil]; exact (owns_later HO.out HB.out).alloc _)
        have HNn : Hid (n = (L ++ []).length) := Lib.hid (by rw [List.append_nil]; exact HnL.out)
        have HOb : Hid (∀ x, (Value.slice a n c).ownBlock = some x → (Value.slice a n c).ownBlock = some x ∨ w1.heap.size + 4 ≤ x) := Lib.hid (fun x hx => .inl hx)
        have hzV : w1.heap.size + 4 ≤ w3.heap.size := by rw [hw3]; simp; omega
        have hn1 : n ≤ n + 1 := by omega
        clear hw3 K1 K2 K3 K4 HDc
        go_upto_region 6 with (first
          | (refine wpList_load_mid rfl 54 _ rfl w1.heap.size 0 rfl [.int .i64 k, .string s, .slice ga g.length gc, .slice da q dc] _ (blk_range v1) Try.underlying54 rfl sizeN ?_)
          | (refine wpList_load_mid rfl 100 _ rfl (w1.heap.size + 1 + 1) 0 rfl [.string fn, .string cl, .bool m] _ (blk_range v3) Try.underlying100 rfl sizeAr ?_)
          | (go_at_call 75; refine (HBl.out _ _ _).mono ?_; rintro e w4 ⟨rfl, hb4⟩; have HB4 := Lib.hid hb4; have hz4 := hb4.size; clear hb4))
        obtain ⟨w5, hw5⟩ : ∃ w5, w5 = w4.alloc (.cells #[.string fn2, .string s, .bool m2] 100) := ⟨_, rfl⟩
        rw [← hw5]
        have x1 : w5.heap[w1.heap.size]? = some (.cells #[.int .i64 k, .string s, .slice ga g.length gc, .slice da q dc] 54) := by rw [hw5]; exact (Below.heap_alloc _ _ _ (by omega)).trans ((HB4.out.block _ (by omega)).trans v1)
        have x2 : w5.heap[w1.heap.size + 1]? = some (.cells #[.int .i64 u, .int .i64 i] 29) := by rw [hw5]; exact (Below.heap_alloc _ _ _ (by omega)).trans ((HB4.out.block _ (by omega)).trans v2)
        have x4 : w5.heap[w1.heap.size + 1 + 1 + 1]? = some (.cells #[.int .i64 0, .int .i64 0] 29) := by rw [hw5]; exact (Below.heap_alloc _ _ _ (by omega)).trans ((HB4.out.block _ (by omega)).trans v4)
        have x5 : w5.heap[w4.heap.size]? = some (.cells #[.string fn2, .string s, .bool m2] 100) := by rw [hw5]; exact heap_alloc_new _ _
        have hz5 : w5.heap.size = w4.heap.size + 1 := by rw [hw5]; simp
        have HGr5 : Hid (w1.grownBy w5 (Value.slice a n c).ownBlock) := Lib.hid (by rw [hw5]; exact (HGr.out.trans (below_grown HB4.out)).trans (World.grownBy_alloc w4 _ _))
        have HOw5 : Hid (w5.ownsRow B 77 5 (.slice a n c) n ((L ++ []).flatMap cellsD)) := Lib.hid (by rw [hw5]; exact (owns_later HOw.out HB4.out).alloc _)
        obtain ⟨y0, y1⟩ := (blk_two x2).1
        clear hw5 v1 v2 v3 v4
        go_upto_region 7 with fail
        obtain ⟨w6, hw6⟩ : ∃ w6, w6 = w5.alloc (.cells #[.int .i64 u, .int .i64 ((i : Int) + 1)] 29) := ⟨_, rfl⟩
        rw [← hw6]
        have z1 : w6.heap[w1.heap.size]? = some (.cells #[.int .i64 k, .string s, .slice ga g.length gc, .slice da q dc] 54) := by rw [hw6]; exact (Below.heap_alloc _ _ _ (by omega)).trans x1
        have z4 : w6.heap[w1.heap.size + 1 + 1 + 1]? = some (.cells #[.int .i64 0, .int .i64 0] 29) := by rw [hw6]; exact (Below.heap_alloc _ _ _ (by omega)).trans x4
        have z5 : w6.heap[w4.heap.size]? = some (.cells #[.string fn2, .string s, .bool m2] 100) := by rw [hw6]; exact (Below.heap_alloc _ _ _ (by omega)).trans x5
        have z6 : w6.heap[w5.heap.size]? = some (.cells #[.int .i64 u, .int .i64 ((i + 1 + Pl.szs (ks.take 0) : Nat) : Int)] 29) := by rw [hw6, heap_alloc_new]; simp [Pl.szs]
        have hz6 : w6.heap.size = w5.heap.size + 1 := by rw [hw6]; simp
        have HGr6 : Hid (w1.grownBy w6 (Value.slice a n c).ownBlock) := Lib.hid (by rw [hw6]; exact HGr5.out.trans (World.grownBy_alloc w5 _ _))
        have HOw6 : Hid (w6.ownsRow B 77 5 (.slice a n c) n (((L ++ []) ++ Pl.dcss (ks.take 0) u (i + 1) fn2 s m2).flatMap cellsD)) := Lib.hid (by rw [hw6, List.take_zero, Pl.dcss, List.append_nil]; exact HOw5.out.alloc _)
        have hob : ∀ x, (Value.slice a n c).ownBlock = some x → x < w5.heap.size := fun x hx => (HOw5.out.lt x hx).2
        have hob3 : ∀ x, (Value.slice a n c).ownBlock = some x → x < w4.heap.size := fun x hx => Nat.lt_of_lt_of_le (HOw.out.lt x hx).2 hz4
        clear hw6 x1 x2 x4 x5 y0 y1 HGr5 HOw5 HGr HOw
        rw [hz5] at z6 hob hz6
        generalize w4.heap.size = yb at *
        have hsy : w1.heap.size + 4 ≤ yb := by omega
        have HOb6 : Hid (∀ x, (Value.slice a n c).ownBlock = some x → (Value.slice a n c).ownBlock = some x ∨ (w1.heap.size + 4 ≤ x ∧ x ≠ yb ∧ x ≠ (yb + 1))) := Lib.hid (fun x hx => by
          have := hob3 x hx
          rcases HOb.out x hx with h | h
          · exact .inl h
          · exact .inr ⟨h, by omega, by omega⟩)
        have hnz : (yb + 1) < w6.heap.size := by omega
        have HZ1 := Lib.hid z1
        have HZ4 := Lib.hid z4
        have HZ5 := Lib.hid z5
        have HZ6 := Lib.hid z6
        have HN1 : Hid (n = ((L ++ []) ++ Pl.dcss (ks.take 0) u (i + 1) fn2 s m2).length) := Lib.hid (by rw [List.take_zero, Pl.dcss, List.append_nil]; exact HNn.out)
        clear hz4 hz5 hz6 hob hob3 HOb HB4 HB hz3 hzV z1 z4 z5 z6
        go_wp2_with fail
        go_loopw [10, 15] (fun v jv wr => ∃ (j : Nat) (a2 : Option Addr) (n2 c2 : Nat), j ≤ q ∧ jv = .int .i64 j ∧ v = .slice a2 n2 c2 ∧ n2 = ((L ++ []) ++ Pl.dcss (ks.take j) u (i + 1) fn2 s m2).length ∧ wr.ownsRow B 77 5 (.slice a2 n2 c2) n2 (((L ++ []) ++ Pl.dcss (ks.take j) u (i + 1) fn2 s m2).flatMap cellsD) ∧
          w1.grownBy wr (Value.slice a n c).ownBlock ∧ wr.heap[w1.heap.size]? = some (.cells #[.int .i64 k, .string s, .slice ga g.length gc, .slice da q dc] 54) ∧ wr.heap[w1.heap.size + 1 + 1 + 1]? = some (.cells #[.int .i64 0, .int .i64 0] 29) ∧ wr.heap[yb]? = some (.cells #[.string fn2, .string s, .bool m2] 100) ∧ wr.heap[(yb + 1)]? = some (.cells #[.int .i64 u, .int .i64 ((i + 1 + Pl.szs (ks.take j) : Nat) : Int)] 29) ∧ (yb + 1) < wr.heap.size ∧
          ∀ x, (Value.slice a2 n2 c2).ownBlock = some x → (Value.slice a n c).ownBlock = some x ∨ (w1.heap.size + 4 ≤ x ∧ x ≠ yb ∧ x ≠ (yb + 1))) (fun _ jv _ => q - (intOf jv).toNat)
        case atStart => exact ⟨0, _, _, _, Nat.zero_le _, rfl, rfl, HN1.out, HOw6.out, HGr6.out, HZ1.out, HZ4.out, HZ5.out, HZ6.out, hnz, HOb6.out⟩
        case round =>
          obtain ⟨j, a2, n2, c2, hj, rfl, rfl, hn2, hown2, hgr2, t1, t4, t5, t6, hnz2, hob2⟩ := hrel
          have HN2 := Lib.hid hn2
          have HO2 := Lib.hid hown2
          have HG2 := Lib.hid hgr2
          have T1 := Lib.hid t1
          have T4 := Lib.hid t4
          have T5 := Lib.hid t5
          have T6 := Lib.hid t6
          have HOb2 := Lib.hid hob2
          have hgz := hgr2.size
          have hd3 := (blk_one t1 3 _ rfl).1
          obtain ⟨⟨f0, f1⟩, f2, f3⟩ := blk_two t6
          clear hn2 hown2 hob2
          by_cases hlt : j < q
          · have hjk : j < ks.length := by rw [← HQ.out]; exact hlt
            have hu := List.getElem?_eq_getElem hjk
            have hstep := Pl.szs_step ks j hjk
            have hdl := HDl.out u (i + 1) fn2 s m2
            have HTk := Lib.hid (Pl.dcss_take ks j hjk u (i + 1) fn2 s m2)
            have HSt := Lib.hid (Pl.szs_take ks j hjk)
            have htl : (Pl.dcss (ks.take j) u (i + 1) fn2 s m2).length ≤ Pl.szs (ks.take j) := dcss_len _ (fun t _ => dcs_len t) u (i + 1) fn2 s m2
            have hnn2 : n2 ≤ n + 1 + Pl.szs (ks.take j) := by
              have h1 := HN2.out
              rw [List.length_append] at h1
              have h2 := HNn.out
              omega
            have HTx := Lib.hid (HTX.out _ (List.getElem_mem hjk))
            have hsr : Same P w wr := HS.out.trans (fun x hx => hgr2.block x (by have := hP x hx; omega) (fun e => by have h1 := (HLT.out x e.symm).1; have h2 := hP x hx; omega))
            rcases HK.out with h0 | ⟨b, o, rfl, hb, hat⟩
            · rw [h0] at hjk; simp at hjk
            obtain ⟨g0, g1, g2, g3⟩ := At4.keep (hat j _ hu) hsr hb
            have HI1 := Lib.hid (HI.out j _ hu)
            generalize ks[j] = v at *
            generalize R j = r1 at *
            obtain ⟨ga1, gc1, da1, dc1⟩ := r1
            obtain ⟨ii, hii⟩ : ∃ ii, ii = i + 1 + Pl.szs (ks.take j) := ⟨_, rfl⟩
            rw [← hii] at f1
            have HII := Lib.hid hii
            have hji0 : (0 : Int) ≤ (j : Int) := Int.natCast_nonneg _
            have hji1 : (j : Int) < (q : Int) := by omega
            have hblt : b < wr.heap.size := World.block_lt_of_cell? wr _ g0
            have HSR := Lib.hid hsr
            have e0 : wr.drew.cell? ⟨b, o + j * 4, none⟩ = some (.int .i64 v.kind) := g0
            have e1 : wr.drew.cell? ⟨b, o + j * 4 + 1, none⟩ = some (.string v.text) := g1
            have e2 : wr.drew.cell? ⟨b, o + j * 4 + 2, none⟩ = some (.slice ga1 v.gaps.length gc1) := g2
            have e3 : wr.drew.cell? ⟨b, o + j * 4 + 3, none⟩ = some (.slice da1 v.kids.length dc1) := g3
            have e4 : wr.drew.cell? ⟨w1.heap.size, 3, none⟩ = some (.slice (some ⟨b, o, none⟩) q dc) := hd3
            have e5 : wr.drew.cell? ⟨(yb + 1), 0, none⟩ = some (.int .i64 u) := f0
            have e6 : wr.drew.cell? ⟨(yb + 1), 1, none⟩ = some (.int .i64 ii) := f1
            obtain ⟨rr0, rr1, rr2⟩ : wr.cell? ⟨yb, 0, none⟩ = some (.string fn2) ∧ wr.cell? ⟨yb, 1, none⟩ = some (.string s) ∧ wr.cell? ⟨yb, 2, none⟩ = some (.bool m2) := ⟨(blk_one t5 0 _ rfl).1, (blk_one t5 1 _ rfl).1, (blk_one t5 2 _ rfl).1⟩
            obtain ⟨l0, l1, l2⟩ : wr.drew.cell? ⟨yb, 0, none⟩ = some (.string fn2) ∧ wr.drew.cell? ⟨yb, 1, none⟩ = some (.string s) ∧ wr.drew.cell? ⟨yb, 2, none⟩ = some (.bool m2) := ⟨(blk_one t5 0 _ rfl).1, (blk_one t5 1 _ rfl).1, (blk_one t5 2 _ rfl).1⟩
            clear hat hu hsr t1 t4 t5 t6
            have hA1 : n2 + Pl.sz v ≤ 1000000 := by omega
            have hA2 : ii + Pl.sz v ≤ 1000000 := by omega
            have HCall := Lib.hid (fun (z : World) (hz : Below wr.heap.size wr z) => HI1.out z (HSR.out.trans (Same.below hz fun b hb => by have := hP b hb; omega)) (by have := hz.size; omega) a2 n2 c2 _ u ii fn2 s m2 hA1 hA2 HN2.out HTx.out hss (owns_later HO2.out hz))
            have hownlt2 : ∀ x, (Value.slice a2 n2 c2).ownBlock = some x → B ≤ x ∧ x < wr.heap.size := fun x hx => HO2.out.lt x hx
            have HLT2 := Lib.hid hownlt2
            have py0 : yb < wr.heap.size := by omega
            have py1 : w1.heap.size < wr.heap.size := by omega
            have hoff : ∀ x, (x < w1.heap.size + 4 ∧ w1.heap.size ≤ x) ∨ x = yb ∨ x = yb + 1 ∨ P x → some x ≠ (Value.slice a2 n2 c2).ownBlock := fun x hx e => by
              rcases HOb2.out x e.symm with h | ⟨h1, h2, h3⟩
              · have h4 := HLT.out x h
                rcases hx with hx | hx | hx | hx
                · omega
                · omega
                · omega
                · have := hP x hx; omega
              · rcases hx with hx | hx | hx | hx
                · omega
                · omega
                · omega
                · have := hP x hx; omega
            have HOff := Lib.hid hoff
            have HDR : Hid (∀ (wx : World) (x f : Nat), wx.drew.cell? ⟨x, f, none⟩ = wx.cell? ⟨x, f, none⟩) := Lib.hid fun _ _ _ => rfl
            have HPA : Hid (∀ (wx : World) (ob : Obj) (x f : Nat), x < wx.heap.size → (wx.alloc ob).cell? ⟨x, f, none⟩ = wx.cell? ⟨x, f, none⟩) := Lib.hid fun wx ob x f h => cell_past x wx ob f h
            have HPb := Lib.hid hb
            have HGen := Lib.hid (fun (z w7 : World) (hz : Below wr.heap.size wr z) (hg : z.grownBy w7 (Value.slice a2 n2 c2).ownBlock) => ((below_grown hz).trans hg : wr.grownBy w7 (Value.slice a2 n2 c2).ownBlock))
            clear HI1 hii hownlt2 hoff rr0 rr1 rr2 e0 e1 e2 e3 e4 e5 e6 l0 l1 l2
            obtain ⟨rr0, rr1, rr2⟩ : wr.cell? ⟨yb, 0, none⟩ = some (.string fn2) ∧ wr.cell? ⟨yb, 1, none⟩ = some (.string s) ∧ wr.cell? ⟨yb, 2, none⟩ = some (.bool m2) := ⟨(blk_one T5.out 0 _ rfl).1, (blk_one T5.out 1 _ rfl).1, (blk_one T5.out 2 _ rfl).1⟩
            go_wp2_with fail
            go_cut [16, 17] (fun s16 s17 X => ∃ (a3 : Option Addr) (n3 c3 tb : Nat), s16 = .slice a3 n3 c3 ∧ s17 = .pointer (some ⟨tb, 0, none⟩) ∧ n3 = ((L ++ []) ++ Pl.dcss (ks.take j) u (i + 1) fn2 s m2 ++ Pl.dcs v u ii fn2 s m2).length ∧ X.ownsRow B 77 5 (.slice a3 n3 c3) n3 (((L ++ []) ++ Pl.dcss (ks.take j) u (i + 1) fn2 s m2 ++ Pl.dcs v u ii fn2 s m2).flatMap cellsD) ∧
              X.heap[tb]? = some (.cells #[.int .i64 u, .int .i64 ((ii + Pl.sz v : Nat) : Int)] 29) ∧ wr.heap.size ≤ tb ∧ wr.grownBy X (Value.slice a2 n2 c2).ownBlock ∧ ∀ x, (Value.slice a3 n3 c3).ownBlock = some x → (Value.slice a2 n2 c2).ownBlock = some x ∨ wr.heap.size ≤ x)
            case first =>
              go_region_held3 (fun w' => (∀ f : Nat, w'.cell? ⟨b, f, none⟩ = wr.cell? ⟨b, f, none⟩) ∧ (∀ f : Nat, w'.cell? ⟨w1.heap.size, f, none⟩ = wr.cell? ⟨w1.heap.size, f, none⟩) ∧ (∀ f : Nat, w'.cell? ⟨yb + 1, f, none⟩ = wr.cell? ⟨yb + 1, f, none⟩) ∧ ∀ f : Nat, w'.cell? ⟨yb, f, none⟩ = wr.cell? ⟨yb, f, none⟩)
                ((refine ⟨?_, ?_, ?_, ?_⟩ <;> (intro f; iterate 6 (first
                    | (with_reducible exact rfl)
                    | (with_reducible exact HQb.out f)
                    | (with_reducible exact HQs.out f)
                    | (with_reducible exact HQn.out f)
                    | (with_reducible exact HQy.out f)
                    | (with_reducible refine (HDR.out _ _ _).trans ?_)
                    | (with_reducible refine (HPA.out _ _ _ _ ?_).trans ?_; focus (first | omega | (simp; done) | (simp; omega)))
                    | (with_reducible refine (cell_set2 ?_).trans ?_; focus omega)
                    | skip))))
                ((first
                  | (go_at_call 59; refine (HCall.out wr.drew (Below.refl wr.heap.size wr).drew).mono ?_; rintro e w7 ⟨a3, n3, c3, rfl, hn3, hown3, hgr3', hob3⟩;
                     have hgr3 := HGen.out _ _ (Below.refl wr.heap.size wr).drew hgr3';
                     have HQb : Hid (∀ f : Nat, w7.cell? ⟨b, f, none⟩ = wr.cell? ⟨b, f, none⟩) := Lib.hid (fun f => World.cell?_of_block (w := wr) (a := ⟨b, f, none⟩) (hgr3.block b hblt (HOff.out b (.inr (.inr (.inr HPb.out))))));
                     have HQs : Hid (∀ f : Nat, w7.cell? ⟨w1.heap.size, f, none⟩ = wr.cell? ⟨w1.heap.size, f, none⟩) := Lib.hid (fun f => World.cell?_of_block (w := wr) (a := ⟨w1.heap.size, f, none⟩) (hgr3.block _ py1 (HOff.out w1.heap.size (.inl ⟨by omega, Nat.le_refl _⟩))));
                     have HQn : Hid (∀ f : Nat, w7.cell? ⟨yb + 1, f, none⟩ = wr.cell? ⟨yb + 1, f, none⟩) := Lib.hid (fun f => World.cell?_of_block (w := wr) (a := ⟨yb + 1, f, none⟩) (hgr3.block _ hnz2 (HOff.out (yb + 1) (.inr (.inr (.inl rfl))))));
                     have HQy : Hid (∀ f : Nat, w7.cell? ⟨yb, f, none⟩ = wr.cell? ⟨yb, f, none⟩) := Lib.hid (fun f => World.cell?_of_block (w := wr) (a := ⟨yb, f, none⟩) (hgr3.block _ py0 (HOff.out yb (.inr (.inl rfl)))));
                     have hz7 := hgr3.size; have HN3 := Lib.hid hn3; have HO3 := Lib.hid hown3; have HG3 := Lib.hid hgr3; have HOb3 := Lib.hid hob3; clear hn3 hown3 hgr3 hgr3' hob3)
                  | (go_at_call 59; refine (HCall.out (wr.alloc (.cells #[.int .i64 0, .int .i64 0] 29)).drew (below_1 wr (.cells #[.int .i64 0, .int .i64 0] 29)).drew).mono ?_; rintro e w7 ⟨a3, n3, c3, rfl, hn3, hown3, hgr3', hob3⟩;
                     have hgr3 := HGen.out _ _ (below_1 wr (.cells #[.int .i64 0, .int .i64 0] 29)).drew hgr3';
                     have HQb : Hid (∀ f : Nat, w7.cell? ⟨b, f, none⟩ = wr.cell? ⟨b, f, none⟩) := Lib.hid (fun f => World.cell?_of_block (w := wr) (a := ⟨b, f, none⟩) (hgr3.block b hblt (HOff.out b (.inr (.inr (.inr HPb.out))))));
                     have HQs : Hid (∀ f : Nat, w7.cell? ⟨w1.heap.size, f, none⟩ = wr.cell? ⟨w1.heap.size, f, none⟩) := Lib.hid (fun f => World.cell?_of_block (w := wr) (a := ⟨w1.heap.size, f, none⟩) (hgr3.block _ py1 (HOff.out w1.heap.size (.inl ⟨by omega, Nat.le_refl _⟩))));
                     have HQn : Hid (∀ f : Nat, w7.cell? ⟨yb + 1, f, none⟩ = wr.cell? ⟨yb + 1, f, none⟩) := Lib.hid (fun f => World.cell?_of_block (w := wr) (a := ⟨yb + 1, f, none⟩) (hgr3.block _ hnz2 (HOff.out (yb + 1) (.inr (.inr (.inl rfl))))));
                     have HQy : Hid (∀ f : Nat, w7.cell? ⟨yb, f, none⟩ = wr.cell? ⟨yb, f, none⟩) := Lib.hid (fun f => World.cell?_of_block (w := wr) (a := ⟨yb, f, none⟩) (hgr3.block _ py0 (HOff.out yb (.inr (.inl rfl)))));
                     have hnb2 := (hgr3'.block wr.heap.size (by show wr.heap.size < (wr.alloc _).heap.size; simp) (fun e => by have := (HLT2.out _ e.symm).2; omega)).trans (heap_alloc_new wr (.cells #[.int .i64 0, .int .i64 0] 29));
                     obtain ⟨⟨p0, p1⟩, z0, z1⟩ := blk_two hnb2;
                     have hz8 := hgr3'.size;
                     have hz7 := hgr3.size; have NB2 := Lib.hid hnb2; have HN3 := Lib.hid hn3; have HO3 := Lib.hid hown3; have HG3 := Lib.hid hgr3; have HOb3 := Lib.hid hob3; clear hn3 hown3 hgr3 hgr3' hob3 hnb2)))
              all_goals go_wp2_with fail
              all_goals go_meet
              · exact ⟨a3, n3, c3, w7.heap.size, rfl, rfl, HN3.out, HO3.out.alloc _, by rw [heap_alloc_new, Int.natCast_add], hz7, HG3.out.trans (World.grownBy_alloc w7 _ _), HOb3.out⟩
              · have hset := fun x (hx : x ≠ wr.heap.size) => heap_set2 (w2 := w7) (b := wr.heap.size) (v0 := .int .i64 u) (v1 := .int .i64 ((ii : Int) + (Pl.sz v : Int))) hx
                have hzw : wr.heap.size + 1 ≤ (wr.alloc (.cells #[.int .i64 0, .int .i64 0] 29)).drew.heap.size := by show _ ≤ (wr.alloc _).heap.size; simp
                have hob4 : ∀ x, (Value.slice a3 n3 c3).ownBlock = some x → (Value.slice a2 n2 c2).ownBlock = some x ∨ wr.heap.size + 1 ≤ x := fun x hx => (HOb3.out x hx).imp id fun h => Nat.le_trans hzw h
                refine ⟨a3, n3, c3, wr.heap.size, rfl, rfl, HN3.out, owns_keep HO3.out (fun x hx => hset x (fun e => ?_)), ?_, Nat.le_refl _, grown_set2 HG3.out (Nat.le_refl _), fun x hx => (hob4 x hx).imp id fun h => by omega⟩
                · rcases hob4 x hx with h | h
                  · have := (HLT2.out x h).2; omega
                  · omega
                · have := NB2.out
                  simp [World.setCell, Array.getElem?_modify, this]
            case rest =>
              obtain ⟨a3, n3, c3, tb, rfl, rfl, hn3, hown3, htb, htb2, hgr3, hob3⟩ := hcut
              have tn : wc.heap[yb + 1]? = some (.cells #[.int .i64 u, .int .i64 ii] 29) := (hgr3.block _ hnz2 (HOff.out (yb + 1) (.inr (.inr (.inl rfl))))).trans (by rw [HII.out]; exact T6.out)
              obtain ⟨⟨u0, u1⟩, u2, u3⟩ := blk_two htb
              obtain ⟨⟨m0, m1⟩, m3, m4⟩ := blk_two tn
              have htbn : tb ≠ yb + 1 := by omega
              have HTB := Lib.hid htb
              have HTN := Lib.hid tn
              have HN3 := Lib.hid hn3
              have HO3 := Lib.hid hown3
              have HG3 := Lib.hid hgr3
              have HOb3 := Lib.hid hob3
              have hz3 := hgr3.size
              clear htb tn hn3 hown3 hgr3 hob3 rr0 rr1 rr2
              go_wp2_with (refine wpList_load_mid rfl 29 _ rfl tb 0 rfl [.int .i64 u, .int .i64 ((ii + Pl.sz v : Nat) : Int)] _ (blk_range HTB.out) Try.underlying29 rfl sizeF ?_)
              have hset := fun x (hx : x ≠ yb + 1) => heap_set2 (w2 := wc) (b := yb + 1) (v0 := .int .i64 u) (v1 := .int .i64 ((ii + Pl.sz v : Nat) : Int)) hx
              have heq : (L ++ []) ++ Pl.dcss (ks.take (j + 1)) u (i + 1) fn2 s m2 = (L ++ []) ++ Pl.dcss (ks.take j) u (i + 1) fn2 s m2 ++ Pl.dcs v u ii fn2 s m2 := by rw [HTk.out, HII.out, ← List.append_assoc]
              have hok : ∀ x, (Value.slice a3 n3 c3).ownBlock = some x → (Value.slice a n c).ownBlock = some x ∨ (w1.heap.size + 4 ≤ x ∧ x ≠ yb ∧ x ≠ (yb + 1)) := fun x hx => by
                rcases HOb3.out x hx with h | h
                · exact HOb2.out x h
                · exact .inr ⟨by omega, by omega, by omega⟩
              refine ⟨⟨j + 1, a3, n3, c3, by omega, by go_num, rfl, by rw [heq]; exact HN3.out, ?_, ?_, ?_, ?_, ?_, ?_, by simp; omega, hok⟩, by simp [intOf]; omega⟩
              · rw [heq]
                exact owns_keep HO3.out (fun x hx => hset x (fun e => by
                  rcases hok x hx with h | h
                  · have := (HLT.out x h).2; omega
                  · omega))
              · exact grown_set2 (grown_trans HG2.out HG3.out (fun x hx => (HOb2.out x hx).symm.imp (fun h => by omega) id)) (by omega)
              · exact (hset _ (by omega)).trans ((HG3.out.block _ py1 (HOff.out w1.heap.size (.inl ⟨by omega, Nat.le_refl _⟩))).trans T1.out)
              · exact (hset _ (by omega)).trans ((HG3.out.block _ (by omega) (HOff.out (w1.heap.size + 1 + 1 + 1) (.inl ⟨by omega, by omega⟩))).trans T4.out)
              · exact (hset _ (by omega)).trans ((HG3.out.block _ py0 (HOff.out yb (.inr (.inl rfl)))).trans T5.out)
              · have := HTN.out
                rw [HSt.out]
                simp [World.setCell, Array.getElem?_modify, this]
                rw [HII.out]
                simp
                omega
          · have hjq : j = q := by omega
            subst hjq
            have HDone : Hid ((L ++ []) ++ Pl.dcss (ks.take j) u (i + 1) fn2 s m2 = L ++ Pl.dcs (.node k s g ks) u i fn cl m) := Lib.hid (by rw [HDE.out, HQ.out, List.take_length, List.append_assoc])
            have HSz2 : Hid (i + 1 + Pl.szs (ks.take j) = i + Pl.sz (.node k s g ks)) := Lib.hid (by rw [HSZ.out, HQ.out, List.take_length]; omega)
            obtain ⟨ii, hii⟩ : ∃ ii, ii = i + 1 + Pl.szs (ks.take j) := ⟨_, rfl⟩
            rw [← hii] at f1 t6
            rw [← hii] at HSz2
            obtain ⟨⟨b0, b1⟩, b2, b3⟩ := blk_two t4
            have HDR : Hid (∀ (wx : World) (x f : Nat), wx.drew.cell? ⟨x, f, none⟩ = wx.cell? ⟨x, f, none⟩) := Lib.hid fun _ _ _ => rfl
            have hne : yb + 1 ≠ w1.heap.size + 1 + 1 + 1 := by omega
            clear hii t1 t4 t5 t6
            go_wp2_with fail
            go_region_held3 (fun w' => ∀ f : Nat, w'.cell? ⟨yb + 1, f, none⟩ = wr.cell? ⟨yb + 1, f, none⟩)
              ((intro f; iterate 6 (first
                | (with_reducible exact rfl)
                | (with_reducible refine (HDR.out _ _ _).trans ?_)
                | (with_reducible refine (cell_set2 ?_).trans ?_; focus omega)
                | skip)))
              (fail)
            go_wp2_with fail
            refine bodyPost_ret (v := .tuple #[.slice a2 n2 c2, .agg #[.int .i64 u, .int .i64 ii]]) (by simp [results, Try.results59, go_sem, b0, b1]) rfl ⟨a2, n2, c2, by rw [← HSz2.out], by rw [← HDone.out]; exact HN2.out, ?_, ?_, fun x hx => (HOb2.out x hx).imp id fun h => by omega⟩
            · rw [← HDone.out]
              exact owns_keep HO2.out (fun x hx => (heap_set2 (w2 := wr) (b := w1.heap.size + 1 + 1 + 1) (fun e => by
                rcases HOb2.out x hx with h | h
                · have := (HLT.out x h).2; omega
                · omega)))
            · have h1 := grown_set2 (v0 := .int .i64 u) (v1 := .int .i64 ii) HG2.out (show w1.heap.size ≤ w1.heap.size + 1 + 1 + 1 by omega)
              exact ⟨h1.os, h1.tape, h1.output, h1.size, h1.block⟩
      | some d =>
        rw [hd] at HDc
        have HDE : Hid (Pl.dcs (.node k s g ks) u i fn cl m = [d] ++ Pl.dcss ks u (i + 1) fn2 s m2) := Lib.hid (HDE.out _ hd)
        clear hd
        go_enter Try.func59, Try.ntmps59
        go_upto_region 2 with fail
        go_upto_region 3 with (go_at_call 74; refine (HDc.out _ _ _).mono ?_; rintro e w2 ⟨he, hb2⟩; replace he : e = .returned (.tuple #[.agg #[.int .i64 d.kind, .string d.owner, .string d.name, .int .i64 d.unit, .int .i64 d.node], .bool true]) := he; subst he; obtain ⟨k1, k2, k3, k4, hb3, hz3⟩ := four_after hb2; have K1 := Lib.hid k1; have K2 := Lib.hid k2; have K3 := Lib.hid k3; have K4 := Lib.hid k4; have HB := Lib.hid hb3; clear hb2 hb3 k1 k2 k3 k4)
        go_upto_region 5 with (at_builtin; refine wpList_append_lies _ rfl (.tmp 27) (.tmp 29) 61 rfl B 77 i0 _ 5 56 Try.underlying61 hi0 hz0 hz1 hz2 rfl (by omega) (.slice a n c) n (L.flatMap cellsD) rfl (((owns_later HO.out HB.out).alloc _).alloc _) ⟨w2.heap.size + 1, 0, none⟩ 1 1 (cellsD d) rfl rfl (World.news_of_block (cs := #[.int .i64 d.kind, .string d.owner, .string d.name, .int .i64 d.unit, .int .i64 d.node]) (t := 77) (fr := (0, 0)) (heap_at2 w2 _ _)) (by simp [Value.oneCell', cellsD]) (by omega) (by unfold maxLen; omega) (by omega) (by simp; omega) (w2.heap.size + 1 + 1) (by simp) ?_; intro gg cap w3 hown3 hgrow3 hat3 hlt3; have HO3 := Lib.hid hown3; have HG3 := Lib.hid hgrow3; have HA3 := Lib.hid hat3; clear hown3 hgrow3 hat3)
        have hzg := HG3.out.size
        simp at hzg
        have old : ∀ x, w1.heap.size ≤ x → x < w2.heap.size → w3.heap[x]? = w2.heap[x]? := fun x h1 h2 => (HG3.out.block x (by simp; omega) (fun e => by have := (HLT.out x e.symm).2; omega)).trans ((Below.heap_alloc _ _ _ (by simp; omega)).trans (Below.heap_alloc _ _ _ h2))
        have v1 := (old _ (Nat.le_refl _) (by omega)).trans K1.out
        have v2 := (old (w1.heap.size + 1) (by omega) (by omega)).trans K2.out
        have v3 : w3.heap[w1.heap.size + 1 + 1]? = some (.cells #[.string fn, .string cl, .bool m] 100) := (old (w1.heap.size + 2) (by omega) (by omega)).trans K3.out
        have v4 : w3.heap[w1.heap.size + 1 + 1 + 1]? = some (.cells #[.int .i64 0, .int .i64 0] 29) := (old (w1.heap.size + 3) (by omega) (by omega)).trans K4.out
        have HGr : Hid (w1.grownBy w3 (Value.slice a n c).ownBlock) := Lib.hid (((below_grown HB.out).trans ((World.grownBy_alloc w2 _ _).trans (World.grownBy_alloc _ _ _))).trans HG3.out)
        have HOw : Hid (w3.ownsRow B 77 5 (.slice (some ⟨gg, 0, none⟩) (n + 1) cap) (n + 1) ((L ++ [d]).flatMap cellsD)) := Lib.hid (by rw [flatten_snoc]; exact HO3.out)
        have HNn : Hid (n + 1 = (L ++ [d]).length) := Lib.hid (by rw [HnL.out]; simp)
        have HOb : Hid (∀ x, (Value.slice (some (⟨gg, 0, none⟩ : Addr)) (n + 1) cap).ownBlock = some x → (Value.slice a n c).ownBlock = some x ∨ w1.heap.size + 4 ≤ x) := Lib.hid (fun x hx => by
          have hx2 : gg = x := by simpa [Value.ownBlock] using hx
          subst hx2
          rcases HA3.out with h | h
          · exact .inl h
          · right; omega)
        have hzV : w1.heap.size + 4 ≤ w3.heap.size := by omega
        have hn1 : n + 1 ≤ n + 1 := Nat.le_refl _
        clear old HO3 HG3 HA3 hzg hlt3 K1 K2 K3 K4 HDc
        go_upto_region 6 with (first
          | (refine wpList_load_mid rfl 54 _ rfl w1.heap.size 0 rfl [.int .i64 k, .string s, .slice ga g.length gc, .slice da q dc] _ (blk_range v1) Try.underlying54 rfl sizeN ?_)
          | (refine wpList_load_mid rfl 100 _ rfl (w1.heap.size + 1 + 1) 0 rfl [.string fn, .string cl, .bool m] _ (blk_range v3) Try.underlying100 rfl sizeAr ?_)
          | (go_at_call 75; refine (HBl.out _ _ _).mono ?_; rintro e w4 ⟨rfl, hb4⟩; have HB4 := Lib.hid hb4; have hz4 := hb4.size; clear hb4))
        obtain ⟨w5, hw5⟩ : ∃ w5, w5 = w4.alloc (.cells #[.string fn2, .string s, .bool m2] 100) := ⟨_, rfl⟩
        rw [← hw5]
        have x1 : w5.heap[w1.heap.size]? = some (.cells #[.int .i64 k, .string s, .slice ga g.length gc, .slice da q dc] 54) := by rw [hw5]; exact (Below.heap_alloc _ _ _ (by omega)).trans ((HB4.out.block _ (by omega)).trans v1)
        have x2 : w5.heap[w1.heap.size + 1]? = some (.cells #[.int .i64 u, .int .i64 i] 29) := by rw [hw5]; exact (Below.heap_alloc _ _ _ (by omega)).trans ((HB4.out.block _ (by omega)).trans v2)
        have x4 : w5.heap[w1.heap.size + 1 + 1 + 1]? = some (.cells #[.int .i64 0, .int .i64 0] 29) := by rw [hw5]; exact (Below.heap_alloc _ _ _ (by omega)).trans ((HB4.out.block _ (by omega)).trans v4)
        have x5 : w5.heap[w4.heap.size]? = some (.cells #[.string fn2, .string s, .bool m2] 100) := by rw [hw5]; exact heap_alloc_new _ _
        have hz5 : w5.heap.size = w4.heap.size + 1 := by rw [hw5]; simp
        have HGr5 : Hid (w1.grownBy w5 (Value.slice a n c).ownBlock) := Lib.hid (by rw [hw5]; exact (HGr.out.trans (below_grown HB4.out)).trans (World.grownBy_alloc w4 _ _))
        have HOw5 : Hid (w5.ownsRow B 77 5 (.slice (some ⟨gg, 0, none⟩) (n + 1) cap) (n + 1) ((L ++ [d]).flatMap cellsD)) := Lib.hid (by rw [hw5]; exact (owns_later HOw.out HB4.out).alloc _)
        obtain ⟨y0, y1⟩ := (blk_two x2).1
        clear hw5 v1 v2 v3 v4
        go_upto_region 7 with fail
        obtain ⟨w6, hw6⟩ : ∃ w6, w6 = w5.alloc (.cells #[.int .i64 u, .int .i64 ((i : Int) + 1)] 29) := ⟨_, rfl⟩
        rw [← hw6]
        have z1 : w6.heap[w1.heap.size]? = some (.cells #[.int .i64 k, .string s, .slice ga g.length gc, .slice da q dc] 54) := by rw [hw6]; exact (Below.heap_alloc _ _ _ (by omega)).trans x1
        have z4 : w6.heap[w1.heap.size + 1 + 1 + 1]? = some (.cells #[.int .i64 0, .int .i64 0] 29) := by rw [hw6]; exact (Below.heap_alloc _ _ _ (by omega)).trans x4
        have z5 : w6.heap[w4.heap.size]? = some (.cells #[.string fn2, .string s, .bool m2] 100) := by rw [hw6]; exact (Below.heap_alloc _ _ _ (by omega)).trans x5
        have z6 : w6.heap[w5.heap.size]? = some (.cells #[.int .i64 u, .int .i64 ((i + 1 + Pl.szs (ks.take 0) : Nat) : Int)] 29) := by rw [hw6, heap_alloc_new]; simp [Pl.szs]
        have hz6 : w6.heap.size = w5.heap.size + 1 := by rw [hw6]; simp
        have HGr6 : Hid (w1.grownBy w6 (Value.slice a n c).ownBlock) := Lib.hid (by rw [hw6]; exact HGr5.out.trans (World.grownBy_alloc w5 _ _))
        have HOw6 : Hid (w6.ownsRow B 77 5 (.slice (some ⟨gg, 0, none⟩) (n + 1) cap) (n + 1) (((L ++ [d]) ++ Pl.dcss (ks.take 0) u (i + 1) fn2 s m2).flatMap cellsD)) := Lib.hid (by rw [hw6, List.take_zero, Pl.dcss, List.append_nil]; exact HOw5.out.alloc _)
        have hob : ∀ x, (Value.slice (some ⟨gg, 0, none⟩) (n + 1) cap).ownBlock = some x → x < w5.heap.size := fun x hx => (HOw5.out.lt x hx).2
        have hob3 : ∀ x, (Value.slice (some ⟨gg, 0, none⟩) (n + 1) cap).ownBlock = some x → x < w4.heap.size := fun x hx => Nat.lt_of_lt_of_le (HOw.out.lt x hx).2 hz4
        clear hw6 x1 x2 x4 x5 y0 y1 HGr5 HOw5 HGr HOw
        rw [hz5] at z6 hob hz6
        generalize w4.heap.size = yb at *
        have hsy : w1.heap.size + 4 ≤ yb := by omega
        have HOb6 : Hid (∀ x, (Value.slice (some ⟨gg, 0, none⟩) (n + 1) cap).ownBlock = some x → (Value.slice a n c).ownBlock = some x ∨ (w1.heap.size + 4 ≤ x ∧ x ≠ yb ∧ x ≠ (yb + 1))) := Lib.hid (fun x hx => by
          have := hob3 x hx
          rcases HOb.out x hx with h | h
          · exact .inl h
          · exact .inr ⟨h, by omega, by omega⟩)
        have hnz : (yb + 1) < w6.heap.size := by omega
        have HZ1 := Lib.hid z1
        have HZ4 := Lib.hid z4
        have HZ5 := Lib.hid z5
        have HZ6 := Lib.hid z6
        have HN1 : Hid ((n + 1) = ((L ++ [d]) ++ Pl.dcss (ks.take 0) u (i + 1) fn2 s m2).length) := Lib.hid (by rw [List.take_zero, Pl.dcss, List.append_nil]; exact HNn.out)
        clear hz4 hz5 hz6 hob hob3 HOb HB4 HB hz3 hzV z1 z4 z5 z6
        go_wp2_with fail
        go_loopw [10, 15] (fun v jv wr => ∃ (j : Nat) (a2 : Option Addr) (n2 c2 : Nat), j ≤ q ∧ jv = .int .i64 j ∧ v = .slice a2 n2 c2 ∧ n2 = ((L ++ [d]) ++ Pl.dcss (ks.take j) u (i + 1) fn2 s m2).length ∧ wr.ownsRow B 77 5 (.slice a2 n2 c2) n2 (((L ++ [d]) ++ Pl.dcss (ks.take j) u (i + 1) fn2 s m2).flatMap cellsD) ∧
          w1.grownBy wr (Value.slice a n c).ownBlock ∧ wr.heap[w1.heap.size]? = some (.cells #[.int .i64 k, .string s, .slice ga g.length gc, .slice da q dc] 54) ∧ wr.heap[w1.heap.size + 1 + 1 + 1]? = some (.cells #[.int .i64 0, .int .i64 0] 29) ∧ wr.heap[yb]? = some (.cells #[.string fn2, .string s, .bool m2] 100) ∧ wr.heap[(yb + 1)]? = some (.cells #[.int .i64 u, .int .i64 ((i + 1 + Pl.szs (ks.take j) : Nat) : Int)] 29) ∧ (yb + 1) < wr.heap.size ∧
          ∀ x, (Value.slice a2 n2 c2).ownBlock = some x → (Value.slice a n c).ownBlock = some x ∨ (w1.heap.size + 4 ≤ x ∧ x ≠ yb ∧ x ≠ (yb + 1))) (fun _ jv _ => q - (intOf jv).toNat)
        case atStart => exact ⟨0, _, _, _, Nat.zero_le _, rfl, rfl, HN1.out, HOw6.out, HGr6.out, HZ1.out, HZ4.out, HZ5.out, HZ6.out, hnz, HOb6.out⟩
        case round =>
          obtain ⟨j, a2, n2, c2, hj, rfl, rfl, hn2, hown2, hgr2, t1, t4, t5, t6, hnz2, hob2⟩ := hrel
          have HN2 := Lib.hid hn2
          have HO2 := Lib.hid hown2
          have HG2 := Lib.hid hgr2
          have T1 := Lib.hid t1
          have T4 := Lib.hid t4
          have T5 := Lib.hid t5
          have T6 := Lib.hid t6
          have HOb2 := Lib.hid hob2
          have hgz := hgr2.size
          have hd3 := (blk_one t1 3 _ rfl).1
          obtain ⟨⟨f0, f1⟩, f2, f3⟩ := blk_two t6
          clear hn2 hown2 hob2
          by_cases hlt : j < q
          · have hjk : j < ks.length := by rw [← HQ.out]; exact hlt
            have hu := List.getElem?_eq_getElem hjk
            have hstep := Pl.szs_step ks j hjk
            have hdl := HDl.out u (i + 1) fn2 s m2
            have HTk := Lib.hid (Pl.dcss_take ks j hjk u (i + 1) fn2 s m2)
            have HSt := Lib.hid (Pl.szs_take ks j hjk)
            have htl : (Pl.dcss (ks.take j) u (i + 1) fn2 s m2).length ≤ Pl.szs (ks.take j) := dcss_len _ (fun t _ => dcs_len t) u (i + 1) fn2 s m2
            have hnn2 : n2 ≤ n + 1 + Pl.szs (ks.take j) := by
              have h1 := HN2.out
              rw [List.length_append] at h1
              have h2 := HNn.out
              omega
            have HTx := Lib.hid (HTX.out _ (List.getElem_mem hjk))
            have hsr : Same P w wr := HS.out.trans (fun x hx => hgr2.block x (by have := hP x hx; omega) (fun e => by have h1 := (HLT.out x e.symm).1; have h2 := hP x hx; omega))
            rcases HK.out with h0 | ⟨b, o, rfl, hb, hat⟩
            · rw [h0] at hjk; simp at hjk
            obtain ⟨g0, g1, g2, g3⟩ := At4.keep (hat j _ hu) hsr hb
            have HI1 := Lib.hid (HI.out j _ hu)
            generalize ks[j] = v at *
            generalize R j = r1 at *
            obtain ⟨ga1, gc1, da1, dc1⟩ := r1
            obtain ⟨ii, hii⟩ : ∃ ii, ii = i + 1 + Pl.szs (ks.take j) := ⟨_, rfl⟩
            rw [← hii] at f1
            have HII := Lib.hid hii
            have hji0 : (0 : Int) ≤ (j : Int) := Int.natCast_nonneg _
            have hji1 : (j : Int) < (q : Int) := by omega
            have hblt : b < wr.heap.size := World.block_lt_of_cell? wr _ g0
            have HSR := Lib.hid hsr
            have e0 : wr.drew.cell? ⟨b, o + j * 4, none⟩ = some (.int .i64 v.kind) := g0
            have e1 : wr.drew.cell? ⟨b, o + j * 4 + 1, none⟩ = some (.string v.text) := g1
            have e2 : wr.drew.cell? ⟨b, o + j * 4 + 2, none⟩ = some (.slice ga1 v.gaps.length gc1) := g2
            have e3 : wr.drew.cell? ⟨b, o + j * 4 + 3, none⟩ = some (.slice da1 v.kids.length dc1) := g3
            have e4 : wr.drew.cell? ⟨w1.heap.size, 3, none⟩ = some (.slice (some ⟨b, o, none⟩) q dc) := hd3
            have e5 : wr.drew.cell? ⟨(yb + 1), 0, none⟩ = some (.int .i64 u) := f0
            have e6 : wr.drew.cell? ⟨(yb + 1), 1, none⟩ = some (.int .i64 ii) := f1
            obtain ⟨rr0, rr1, rr2⟩ : wr.cell? ⟨yb, 0, none⟩ = some (.string fn2) ∧ wr.cell? ⟨yb, 1, none⟩ = some (.string s) ∧ wr.cell? ⟨yb, 2, none⟩ = some (.bool m2) := ⟨(blk_one t5 0 _ rfl).1, (blk_one t5 1 _ rfl).1, (blk_one t5 2 _ rfl).1⟩
            obtain ⟨l0, l1, l2⟩ : wr.drew.cell? ⟨yb, 0, none⟩ = some (.string fn2) ∧ wr.drew.cell? ⟨yb, 1, none⟩ = some (.string s) ∧ wr.drew.cell? ⟨yb, 2, none⟩ = some (.bool m2) := ⟨(blk_one t5 0 _ rfl).1, (blk_one t5 1 _ rfl).1, (blk_one t5 2 _ rfl).1⟩
            clear hat hu hsr t1 t4 t5 t6
            have hA1 : n2 + Pl.sz v ≤ 1000000 := by omega
            have hA2 : ii + Pl.sz v ≤ 1000000 := by omega
            have HCall := Lib.hid (fun (z : World) (hz : Below wr.heap.size wr z) => HI1.out z (HSR.out.trans (Same.below hz fun b hb => by have := hP b hb; omega)) (by have := hz.size; omega) a2 n2 c2 _ u ii fn2 s m2 hA1 hA2 HN2.out HTx.out hss (owns_later HO2.out hz))
            have hownlt2 : ∀ x, (Value.slice a2 n2 c2).ownBlock = some x → B ≤ x ∧ x < wr.heap.size := fun x hx => HO2.out.lt x hx
            have HLT2 := Lib.hid hownlt2
            have py0 : yb < wr.heap.size := by omega
            have py1 : w1.heap.size < wr.heap.size := by omega
            have hoff : ∀ x, (x < w1.heap.size + 4 ∧ w1.heap.size ≤ x) ∨ x = yb ∨ x = yb + 1 ∨ P x → some x ≠ (Value.slice a2 n2 c2).ownBlock := fun x hx e => by
              rcases HOb2.out x e.symm with h | ⟨h1, h2, h3⟩
              · have h4 := HLT.out x h
                rcases hx with hx | hx | hx | hx
                · omega
                · omega
                · omega
                · have := hP x hx; omega
              · rcases hx with hx | hx | hx | hx
                · omega
                · omega
                · omega
                · have := hP x hx; omega
            have HOff := Lib.hid hoff
            have HDR : Hid (∀ (wx : World) (x f : Nat), wx.drew.cell? ⟨x, f, none⟩ = wx.cell? ⟨x, f, none⟩) := Lib.hid fun _ _ _ => rfl
            have HPA : Hid (∀ (wx : World) (ob : Obj) (x f : Nat), x < wx.heap.size → (wx.alloc ob).cell? ⟨x, f, none⟩ = wx.cell? ⟨x, f, none⟩) := Lib.hid fun wx ob x f h => cell_past x wx ob f h
            have HPb := Lib.hid hb
            have HGen := Lib.hid (fun (z w7 : World) (hz : Below wr.heap.size wr z) (hg : z.grownBy w7 (Value.slice a2 n2 c2).ownBlock) => ((below_grown hz).trans hg : wr.grownBy w7 (Value.slice a2 n2 c2).ownBlock))
            clear HI1 hii hownlt2 hoff rr0 rr1 rr2 e0 e1 e2 e3 e4 e5 e6 l0 l1 l2
            obtain ⟨rr0, rr1, rr2⟩ : wr.cell? ⟨yb, 0, none⟩ = some (.string fn2) ∧ wr.cell? ⟨yb, 1, none⟩ = some (.string s) ∧ wr.cell? ⟨yb, 2, none⟩ = some (.bool m2) := ⟨(blk_one T5.out 0 _ rfl).1, (blk_one T5.out 1 _ rfl).1, (blk_one T5.out 2 _ rfl).1⟩
            go_wp2_with fail
            go_cut [16, 17] (fun s16 s17 X => ∃ (a3 : Option Addr) (n3 c3 tb : Nat), s16 = .slice a3 n3 c3 ∧ s17 = .pointer (some ⟨tb, 0, none⟩) ∧ n3 = ((L ++ [d]) ++ Pl.dcss (ks.take j) u (i + 1) fn2 s m2 ++ Pl.dcs v u ii fn2 s m2).length ∧ X.ownsRow B 77 5 (.slice a3 n3 c3) n3 (((L ++ [d]) ++ Pl.dcss (ks.take j) u (i + 1) fn2 s m2 ++ Pl.dcs v u ii fn2 s m2).flatMap cellsD) ∧
              X.heap[tb]? = some (.cells #[.int .i64 u, .int .i64 ((ii + Pl.sz v : Nat) : Int)] 29) ∧ wr.heap.size ≤ tb ∧ wr.grownBy X (Value.slice a2 n2 c2).ownBlock ∧ ∀ x, (Value.slice a3 n3 c3).ownBlock = some x → (Value.slice a2 n2 c2).ownBlock = some x ∨ wr.heap.size ≤ x)
            case first =>
              go_region_held3 (fun w' => (∀ f : Nat, w'.cell? ⟨b, f, none⟩ = wr.cell? ⟨b, f, none⟩) ∧ (∀ f : Nat, w'.cell? ⟨w1.heap.size, f, none⟩ = wr.cell? ⟨w1.heap.size, f, none⟩) ∧ (∀ f : Nat, w'.cell? ⟨yb + 1, f, none⟩ = wr.cell? ⟨yb + 1, f, none⟩) ∧ ∀ f : Nat, w'.cell? ⟨yb, f, none⟩ = wr.cell? ⟨yb, f, none⟩)
                ((refine ⟨?_, ?_, ?_, ?_⟩ <;> (intro f; iterate 6 (first
                    | (with_reducible exact rfl)
                    | (with_reducible exact HQb.out f)
                    | (with_reducible exact HQs.out f)
                    | (with_reducible exact HQn.out f)
                    | (with_reducible exact HQy.out f)
                    | (with_reducible refine (HDR.out _ _ _).trans ?_)
                    | (with_reducible refine (HPA.out _ _ _ _ ?_).trans ?_; focus (first | omega | (simp; done) | (simp; omega)))
                    | (with_reducible refine (cell_set2 ?_).trans ?_; focus omega)
                    | skip))))
                ((first
                  | (go_at_call 59; refine (HCall.out wr.drew (Below.refl wr.heap.size wr).drew).mono ?_; rintro e w7 ⟨a3, n3, c3, rfl, hn3, hown3, hgr3', hob3⟩;
                     have hgr3 := HGen.out _ _ (Below.refl wr.heap.size wr).drew hgr3';
                     have HQb : Hid (∀ f : Nat, w7.cell? ⟨b, f, none⟩ = wr.cell? ⟨b, f, none⟩) := Lib.hid (fun f => World.cell?_of_block (w := wr) (a := ⟨b, f, none⟩) (hgr3.block b hblt (HOff.out b (.inr (.inr (.inr HPb.out))))));
                     have HQs : Hid (∀ f : Nat, w7.cell? ⟨w1.heap.size, f, none⟩ = wr.cell? ⟨w1.heap.size, f, none⟩) := Lib.hid (fun f => World.cell?_of_block (w := wr) (a := ⟨w1.heap.size, f, none⟩) (hgr3.block _ py1 (HOff.out w1.heap.size (.inl ⟨by omega, Nat.le_refl _⟩))));
                     have HQn : Hid (∀ f : Nat, w7.cell? ⟨yb + 1, f, none⟩ = wr.cell? ⟨yb + 1, f, none⟩) := Lib.hid (fun f => World.cell?_of_block (w := wr) (a := ⟨yb + 1, f, none⟩) (hgr3.block _ hnz2 (HOff.out (yb + 1) (.inr (.inr (.inl rfl))))));
                     have HQy : Hid (∀ f : Nat, w7.cell? ⟨yb, f, none⟩ = wr.cell? ⟨yb, f, none⟩) := Lib.hid (fun f => World.cell?_of_block (w := wr) (a := ⟨yb, f, none⟩) (hgr3.block _ py0 (HOff.out yb (.inr (.inl rfl)))));
                     have hz7 := hgr3.size; have HN3 := Lib.hid hn3; have HO3 := Lib.hid hown3; have HG3 := Lib.hid hgr3; have HOb3 := Lib.hid hob3; clear hn3 hown3 hgr3 hgr3' hob3)
                  | (go_at_call 59; refine (HCall.out (wr.alloc (.cells #[.int .i64 0, .int .i64 0] 29)).drew (below_1 wr (.cells #[.int .i64 0, .int .i64 0] 29)).drew).mono ?_; rintro e w7 ⟨a3, n3, c3, rfl, hn3, hown3, hgr3', hob3⟩;
                     have hgr3 := HGen.out _ _ (below_1 wr (.cells #[.int .i64 0, .int .i64 0] 29)).drew hgr3';
                     have HQb : Hid (∀ f : Nat, w7.cell? ⟨b, f, none⟩ = wr.cell? ⟨b, f, none⟩) := Lib.hid (fun f => World.cell?_of_block (w := wr) (a := ⟨b, f, none⟩) (hgr3.block b hblt (HOff.out b (.inr (.inr (.inr HPb.out))))));
                     have HQs : Hid (∀ f : Nat, w7.cell? ⟨w1.heap.size, f, none⟩ = wr.cell? ⟨w1.heap.size, f, none⟩) := Lib.hid (fun f => World.cell?_of_block (w := wr) (a := ⟨w1.heap.size, f, none⟩) (hgr3.block _ py1 (HOff.out w1.heap.size (.inl ⟨by omega, Nat.le_refl _⟩))));
                     have HQn : Hid (∀ f : Nat, w7.cell? ⟨yb + 1, f, none⟩ = wr.cell? ⟨yb + 1, f, none⟩) := Lib.hid (fun f => World.cell?_of_block (w := wr) (a := ⟨yb + 1, f, none⟩) (hgr3.block _ hnz2 (HOff.out (yb + 1) (.inr (.inr (.inl rfl))))));
                     have HQy : Hid (∀ f : Nat, w7.cell? ⟨yb, f, none⟩ = wr.cell? ⟨yb, f, none⟩) := Lib.hid (fun f => World.cell?_of_block (w := wr) (a := ⟨yb, f, none⟩) (hgr3.block _ py0 (HOff.out yb (.inr (.inl rfl)))));
                     have hnb2 := (hgr3'.block wr.heap.size (by show wr.heap.size < (wr.alloc _).heap.size; simp) (fun e => by have := (HLT2.out _ e.symm).2; omega)).trans (heap_alloc_new wr (.cells #[.int .i64 0, .int .i64 0] 29));
                     obtain ⟨⟨p0, p1⟩, z0, z1⟩ := blk_two hnb2;
                     have hz8 := hgr3'.size;
                     have hz7 := hgr3.size; have NB2 := Lib.hid hnb2; have HN3 := Lib.hid hn3; have HO3 := Lib.hid hown3; have HG3 := Lib.hid hgr3; have HOb3 := Lib.hid hob3; clear hn3 hown3 hgr3 hgr3' hob3 hnb2)))
              all_goals go_wp2_with fail
              all_goals go_meet
              · exact ⟨a3, n3, c3, w7.heap.size, rfl, rfl, HN3.out, HO3.out.alloc _, by rw [heap_alloc_new, Int.natCast_add], hz7, HG3.out.trans (World.grownBy_alloc w7 _ _), HOb3.out⟩
              · have hset := fun x (hx : x ≠ wr.heap.size) => heap_set2 (w2 := w7) (b := wr.heap.size) (v0 := .int .i64 u) (v1 := .int .i64 ((ii : Int) + (Pl.sz v : Int))) hx
                have hzw : wr.heap.size + 1 ≤ (wr.alloc (.cells #[.int .i64 0, .int .i64 0] 29)).drew.heap.size := by show _ ≤ (wr.alloc _).heap.size; simp
                have hob4 : ∀ x, (Value.slice a3 n3 c3).ownBlock = some x → (Value.slice a2 n2 c2).ownBlock = some x ∨ wr.heap.size + 1 ≤ x := fun x hx => (HOb3.out x hx).imp id fun h => Nat.le_trans hzw h
                refine ⟨a3, n3, c3, wr.heap.size, rfl, rfl, HN3.out, owns_keep HO3.out (fun x hx => hset x (fun e => ?_)), ?_, Nat.le_refl _, grown_set2 HG3.out (Nat.le_refl _), fun x hx => (hob4 x hx).imp id fun h => by omega⟩
                · rcases hob4 x hx with h | h
                  · have := (HLT2.out x h).2; omega
                  · omega
                · have := NB2.out
                  simp [World.setCell, Array.getElem?_modify, this]
            case rest =>
              obtain ⟨a3, n3, c3, tb, rfl, rfl, hn3, hown3, htb, htb2, hgr3, hob3⟩ := hcut
              have tn : wc.heap[yb + 1]? = some (.cells #[.int .i64 u, .int .i64 ii] 29) := (hgr3.block _ hnz2 (HOff.out (yb + 1) (.inr (.inr (.inl rfl))))).trans (by rw [HII.out]; exact T6.out)
              obtain ⟨⟨u0, u1⟩, u2, u3⟩ := blk_two htb
              obtain ⟨⟨m0, m1⟩, m3, m4⟩ := blk_two tn
              have htbn : tb ≠ yb + 1 := by omega
              have HTB := Lib.hid htb
              have HTN := Lib.hid tn
              have HN3 := Lib.hid hn3
              have HO3 := Lib.hid hown3
              have HG3 := Lib.hid hgr3
              have HOb3 := Lib.hid hob3
              have hz3 := hgr3.size
              clear htb tn hn3 hown3 hgr3 hob3 rr0 rr1 rr2
              go_wp2_with (refine wpList_load_mid rfl 29 _ rfl tb 0 rfl [.int .i64 u, .int .i64 ((ii + Pl.sz v : Nat) : Int)] _ (blk_range HTB.out) Try.underlying29 rfl sizeF ?_)
              have hset := fun x (hx : x ≠ yb + 1) => heap_set2 (w2 := wc) (b := yb + 1) (v0 := .int .i64 u) (v1 := .int .i64 ((ii + Pl.sz v : Nat) : Int)) hx
              have heq : (L ++ [d]) ++ Pl.dcss (ks.take (j + 1)) u (i + 1) fn2 s m2 = (L ++ [d]) ++ Pl.dcss (ks.take j) u (i + 1) fn2 s m2 ++ Pl.dcs v u ii fn2 s m2 := by rw [HTk.out, HII.out, ← List.append_assoc]
              have hok : ∀ x, (Value.slice a3 n3 c3).ownBlock = some x → (Value.slice a n c).ownBlock = some x ∨ (w1.heap.size + 4 ≤ x ∧ x ≠ yb ∧ x ≠ (yb + 1)) := fun x hx => by
                rcases HOb3.out x hx with h | h
                · exact HOb2.out x h
                · exact .inr ⟨by omega, by omega, by omega⟩
              refine ⟨⟨j + 1, a3, n3, c3, by omega, by go_num, rfl, by rw [heq]; exact HN3.out, ?_, ?_, ?_, ?_, ?_, ?_, by simp; omega, hok⟩, by simp [intOf]; omega⟩
              · rw [heq]
                exact owns_keep HO3.out (fun x hx => hset x (fun e => by
                  rcases hok x hx with h | h
                  · have := (HLT.out x h).2; omega
                  · omega))
              · exact grown_set2 (grown_trans HG2.out HG3.out (fun x hx => (HOb2.out x hx).symm.imp (fun h => by omega) id)) (by omega)
              · exact (hset _ (by omega)).trans ((HG3.out.block _ py1 (HOff.out w1.heap.size (.inl ⟨by omega, Nat.le_refl _⟩))).trans T1.out)
              · exact (hset _ (by omega)).trans ((HG3.out.block _ (by omega) (HOff.out (w1.heap.size + 1 + 1 + 1) (.inl ⟨by omega, by omega⟩))).trans T4.out)
              · exact (hset _ (by omega)).trans ((HG3.out.block _ py0 (HOff.out yb (.inr (.inl rfl)))).trans T5.out)
              · have := HTN.out
                rw [HSt.out]
                simp [World.setCell, Array.getElem?_modify, this]
                rw [HII.out]
                simp
                omega
          · have hjq : j = q := by omega
            subst hjq
            have HDone : Hid ((L ++ [d]) ++ Pl.dcss (ks.take j) u (i + 1) fn2 s m2 = L ++ Pl.dcs (.node k s g ks) u i fn cl m) := Lib.hid (by rw [HDE.out, HQ.out, List.take_length, List.append_assoc])
            have HSz2 : Hid (i + 1 + Pl.szs (ks.take j) = i + Pl.sz (.node k s g ks)) := Lib.hid (by rw [HSZ.out, HQ.out, List.take_length]; omega)
            obtain ⟨ii, hii⟩ : ∃ ii, ii = i + 1 + Pl.szs (ks.take j) := ⟨_, rfl⟩
            rw [← hii] at f1 t6
            rw [← hii] at HSz2
            obtain ⟨⟨b0, b1⟩, b2, b3⟩ := blk_two t4
            have HDR : Hid (∀ (wx : World) (x f : Nat), wx.drew.cell? ⟨x, f, none⟩ = wx.cell? ⟨x, f, none⟩) := Lib.hid fun _ _ _ => rfl
            have hne : yb + 1 ≠ w1.heap.size + 1 + 1 + 1 := by omega
            clear hii t1 t4 t5 t6
            go_wp2_with fail
            go_region_held3 (fun w' => ∀ f : Nat, w'.cell? ⟨yb + 1, f, none⟩ = wr.cell? ⟨yb + 1, f, none⟩)
              ((intro f; iterate 6 (first
                | (with_reducible exact rfl)
                | (with_reducible refine (HDR.out _ _ _).trans ?_)
                | (with_reducible refine (cell_set2 ?_).trans ?_; focus omega)
                | skip)))
              (fail)
            go_wp2_with fail
            refine bodyPost_ret (v := .tuple #[.slice a2 n2 c2, .agg #[.int .i64 u, .int .i64 ii]]) (by simp [results, Try.results59, go_sem, b0, b1]) rfl ⟨a2, n2, c2, by rw [← HSz2.out], by rw [← HDone.out]; exact HN2.out, ?_, ?_, fun x hx => (HOb2.out x hx).imp id fun h => by omega⟩
            · rw [← HDone.out]
              exact owns_keep HO2.out (fun x hx => (heap_set2 (w2 := wr) (b := w1.heap.size + 1 + 1 + 1) (fun e => by
                rcases HOb2.out x hx with h | h
                · have := (HLT.out x h).2; omega
                · omega)))
            · have h1 := grown_set2 (v0 := .int .i64 u) (v1 := .int .i64 ii) HG2.out (show w1.heap.size ≤ w1.heap.size + 1 + 1 + 1 by omega)
              exact ⟨h1.os, h1.tape, h1.output, h1.size, h1.block⟩
end Go.Proofs.Ytoelfiendfemaaa
