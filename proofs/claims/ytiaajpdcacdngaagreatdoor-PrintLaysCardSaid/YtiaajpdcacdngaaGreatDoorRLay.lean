/- The walk of the printer's reference: lay. -/
import Derived.Test.YtiaajpdcacdngaaGreatDoorRTop
import Derived.Test.YtiaajpdcacdngaaGreatDoorROrd
namespace Go.Proofs.YtiaajpdcacdngaaGreatDoor.Pl
open Go
set_option linter.unusedVariables false
theorem rgap_size (k : Int) (n i : Nat) (f : ByteArray) (L : Nat) (hf : f.size ≤ 20000) (hL : L ≤ 10000) : (rgap k n i f L).size ≤ 20000 := by
  have h := nl_size L
  have e : (⟨#[]⟩ : ByteArray).size ≤ 20000 := by decide
  have e1 : (⟨#[32]⟩ : ByteArray).size ≤ 20000 := by decide
  have e2 : (⟨#[10]⟩ : ByteArray).size ≤ 20000 := by decide
  unfold rgap
  repeat (first | (split) | omega | assumption)
theorem rkid_size (k : Int) (j : Nat) (f : ByteArray) (L : Nat) (hf : f.size ≤ 20000) (hL : L ≤ 10000) : (rkid k j f L).size ≤ 20000 := by
  have h := nl_size (L + 1)
  have e : (⟨#[]⟩ : ByteArray).size ≤ 20000 := by decide
  have e1 : (⟨#[32]⟩ : ByteArray).size ≤ 20000 := by decide
  have e2 : (⟨#[10, 10]⟩ : ByteArray).size ≤ 20000 := by decide
  unfold rkid
  repeat (first | (split) | omega | assumption)
/-- The canonical gaps of a node, so many of them. -/
def gapsL (k : Int) (n : Nat) (f : ByteArray) (L j : Nat) : List ByteArray := (List.range j).map fun i => rgap k n i f L
theorem gapsL_succ (k : Int) (n : Nat) (f : ByteArray) (L j : Nat) : gapsL k n f L (j + 1) = gapsL k n f L j ++ [rgap k n j f L] := by unfold gapsL; rw [List.range_succ, List.map_append]; rfl
theorem gapsL_len (k : Int) (n : Nat) (f : ByteArray) (L j : Nat) : (gapsL k n f L j).length = j := by unfold gapsL; rw [List.length_map, List.length_range]
theorem lay_is (k : Int) (s : ByteArray) (g : List ByteArray) (ks : List Tr) (L : Nat) (f : ByteArray) (h : Ar k ks.length) : ∃ KS, lay (.node k s g ks) L f = .node k s (gapsL k ks.length f L (rown k s ks.length).length) KS ∧ KS.length = ks.length ∧ ∀ (j : Nat) u, ks[j]? = some u → KS[j]? = some (lay u (inside k L) (rkid k j f L)) := by
  refine ⟨_, by rw [lay_node, lay_gaps_is k s f ks.length L h]; rfl, layF_len _ _ _ _, fun j u hu => ?_⟩
  rw [layF_get, hu, Nat.zero_add, Option.map_some, gapK_is k s f ks.length L j h (List.getElem?_eq_some_iff.1 hu).1]
end Go.Proofs.YtiaajpdcacdngaaGreatDoor.Pl
namespace Go.Proofs.YtiaajpdcacdngaaGreatDoor.Rf
open Go.RowKit Go.Deep Go.Proofs.YtiaajpdcacdngaaGreatDoor.Aw
set_option linter.unusedVariables false
set_option linter.unusedSimpArgs false
set_option maxRecDepth 100000

theorem row_strsP {P : Nat → Prop} {B : Nat} {w : World} {a : Option Addr} {n c : Nat} {xs : List ByteArray} (h : w.ownsRow B 9 1 (.slice a n c) n (strV xs)) (hn : n = xs.length) (hx : ∀ x ∈ xs, x.size ≤ 1000000) (hl : xs.length ≤ 1000000) (hP : ∀ b, B ≤ b → b < w.heap.size → P b) : Strs P w a xs := by
  refine ⟨by unfold maxLen; omega, fun x hm => by have := hx x hm; unfold maxLen; omega, ?_⟩
  rcases Nat.eq_zero_or_pos xs.length with h0 | h0
  · exact .inl (List.eq_nil_of_length_eq_zero h0)
  · obtain ⟨g, rfl, h1, h2, h3⟩ := owns_addr h (by omega)
    refine .inr ⟨g, 0, rfl, hP g h1 h2, fun j x hj => ?_⟩
    have := h3 j (.string x) (by unfold strV; rw [List.getElem?_map, hj]; rfl)
    have hadd : (⟨g, 0, none⟩ : Addr).add j = ⟨g, j, none⟩ := by unfold Addr.add; split <;> simp_all
    rw [hadd] at this
    rw [Nat.zero_add]; exact this
theorem owns_of_block {w w' : World} {B n : Nat} {e : TypeId} {size : Nat} {v : Value} {xs : List Value} (h : w.ownsRow B e size v n xs) (hb : ∀ x, v.ownBlock = some x → w'.heap[x]? = w.heap[x]?) : w'.ownsRow B e size v n xs := by
  refine ⟨h.1, ?_⟩
  rcases h.2 with h2 | ⟨g, cap, cur, rfl, h2, h3, h4⟩
  · exact .inl h2
  · exact .inr ⟨g, cap, cur, rfl, h2, (hb g rfl).trans h3, h4⟩
/-- The out block of lay. -/
def outB (k : Int) (s : ByteArray) (gv kv : Value) : Option Obj := some (.cells #[.int .i64 k, .string s, gv, kv] 25 (0, 0))
theorem at4_blk {w w' : World} {b o : Nat} {k : Int} {s : ByteArray} {gv kv : Value} (h : At4 w b o k s gv kv) (hb : w'.heap[b]? = w.heap[b]?) : At4 w' b o k s gv kv :=
  ⟨(World.cell?_of_block (w := w) (a := ⟨b, o, none⟩) hb).trans h.1, (World.cell?_of_block (w := w) (a := ⟨b, o + 1, none⟩) hb).trans h.2.1, (World.cell?_of_block (w := w) (a := ⟨b, o + 2, none⟩) hb).trans h.2.2.1, (World.cell?_of_block (w := w) (a := ⟨b, o + 3, none⟩) hb).trans h.2.2.2⟩
set_option maxHeartbeats 6400000 in
theorem lay_at {P : Nat → Prop} {w : World} {t : Pl.Tr} {r : Sl} (h : Tin P w t r) (hP : ∀ b, P b → b < w.heap.size) : ∀ (L : Nat) (f : ByteArray) (w1 : World), Same P w w1 → w.heap.size ≤ w1.heap.size → Pl.firstE t = 0 → Pl.sz t ≤ 100000 → L + Pl.ht t ≤ 10000 → f.size ≤ 20000 →
    Calls Tryz.prog 37 #[.agg #[.int .i64 t.kind, .string t.text, .slice r.ga t.gaps.length r.gc, .slice r.da t.kids.length r.dc], .string f, .int .i64 (L : Nat)] w1 (CopyP (Pl.lay t L f) w1) := by
  obtain ⟨i0, hi0, hz0, hz1, hz2⟩ := info_parts infoN
  obtain ⟨i9, hi9, hz90, hz91, hz92⟩ := info_parts infoS
  induction h with
  | mk t r R hs hg hl hk hr ih =>
    intro L f w1 hsame hge hf hsz hht hfs
    cases t with
    | node k s g ks =>
      obtain ⟨ga, gc, da, dc⟩ := r
      simp only [Pl.Tr.kids, Pl.Tr.gaps, Pl.Tr.text, Pl.Tr.kind] at *
      obtain ⟨hn0, hks⟩ := Pl.first_zero k s g ks hf
      have har := Pl.shape_ar k s ks (Pl.nodeE_zero k s g ks hn0).1
      obtain ⟨KS, hlay, hKSl, hKS⟩ := Pl.lay_is k s g ks L f har
      rw [hlay]
      rw [Pl.sz] at hsz
      rw [Pl.ht] at hht
      have hkl := Pl.len_szs ks
      have HSZ : Hid (∀ (j : Nat) u, ks[j]? = some u → Pl.sz u ≤ 100000 ∧ Pl.firstE u = 0 ∧ Pl.inside k L + Pl.ht u ≤ 10000) := Lib.hid fun j u hu => ⟨by have := Pl.sz_mem (List.mem_of_getElem? hu); omega, Pl.firsts_mem ks hks u (List.mem_of_getElem? hu), by
        have := Pl.hts_mem (List.mem_of_getElem? hu)
        have : Pl.inside k L ≤ L + 1 := by unfold Pl.inside; split <;> omega
        omega⟩
      have hol : (Pl.rown k s ks.length).length ≤ 300000 := by
        have := (Pl.rown_size k s ks.length har).2
        omega
      have HGS : Hid (∀ j, ∀ x ∈ Pl.gapsL k ks.length f L j, x.size ≤ 1000000) := Lib.hid fun j x hx => by
        obtain ⟨i, _, rfl⟩ := List.mem_map.1 hx
        have := Pl.rgap_size k ks.length i f L hfs (by omega)
        omega
      have HKZ : Hid (∀ j, (Pl.rkid k j f L).size ≤ 20000) := Lib.hid fun j => Pl.rkid_size k j f L hfs (by omega)
      have HCO := Lib.hid (fun W => own_any k s g.length ks.length gc dc ga da W (by omega) har)
      have HCG := Lib.hid (fun i W => gap_any k s f g.length ks.length gc dc i L ga da W (by omega))
      have HCK := Lib.hid (fun j W => kid_any k s f g.length ks.length gc dc j L ga da W (by omega))
      have HCN := Lib.hid (fun W => inner_any k s g.length ks.length gc dc L ga da W (by omega))
      obtain ⟨no, hno⟩ : ∃ no, no = (Pl.rown k s ks.length).length := ⟨_, rfl⟩
      obtain ⟨nk, hnk⟩ : ∃ nk, nk = ks.length := ⟨_, rfl⟩
      obtain ⟨ng, hng⟩ : ∃ ng, ng = g.length := ⟨_, rfl⟩
      have hnk2 : nk ≤ 100000 := by omega
      rw [← hno] at hol ⊢
      have HON : Hid ((Pl.rown k s nk).length = no) := Lib.hid (by rw [hno, hnk])
      rw [← hnk, ← hng] at HCO HCG HCN HCK
      rw [← hnk] at HGS hKSl ⊢
      rw [← hng]
      have HNK := Lib.hid hnk
      have HK := Lib.hid hk
      have HI := Lib.hid ih
      have HS := Lib.hid hsame
      have HPw := Lib.hid hP
      have HKL := Lib.hid hKSl
      have HKS := Lib.hid hKS
      have HTX := Lib.hid hs
      clear hk hg hr ih hsame hl hP hf hn0 hks hsz hkl hnk hng har hs hht hfs hno hlay hKSl hKS
      go_enter Tryz.func37, Tryz.ntmps37
      go_wp2_with (go_at_call 50; refine (HCO.out _).mono ?_; rintro e w2 ⟨a2, n2, c2, rfl, hn2, ho2, hb2⟩; have HN2 := Lib.hid hn2; have HB2 := Lib.hid hb2; clear hn2 ho2 hb2)
      obtain ⟨t1, t2, t3, t4, t5⟩ := three_new w1 (.cells #[.int .i64 k, .string s, .slice ga ng gc, .slice da nk dc] 25) (.cells #[.int .i64 0, .string ⟨#[]⟩, .slice none 0 0, .slice none 0 0] 25) (.cells #[.int .i64 k, .string s, .slice none 0 0, .slice none 0 0] 25)
      have hs2 := HB2.out.size
      rw [t5] at hs2
      have hb2 := HB2.out
      rw [show Below _ _ _ = Below _ _ _ from rfl] at hb2
      have T1 : w2.heap[w1.heap.size]? = some (.cells #[.int .i64 k, .string s, .slice ga ng gc, .slice da nk dc] 25 (0, 0)) := (HB2.out.block _ (by rw [t5]; omega)).trans t1
      have T2 : w2.heap[w1.heap.size + 1]? = some (.cells #[.int .i64 0, .string ⟨#[]⟩, .slice none 0 0, .slice none 0 0] 25 (0, 0)) := (HB2.out.block _ (by rw [t5]; omega)).trans t2
      have T3 : w2.heap[w1.heap.size + 1 + 1]? = some (.cells #[.int .i64 k, .string s, .slice none 0 0, .slice none 0 0] 25 (0, 0)) := (HB2.out.block _ (by rw [t5]; omega)).trans t3
      have HB12 : Hid (Below w1.heap.size w1 w2) := Lib.hid (t4.trans (HB2.out.mono (by rw [t5]; omega)))
      have HT1 := Lib.hid T1
      have HT2 := Lib.hid T2
      have HT3 := Lib.hid T3
      have hn2 : n2 = no := by rw [HN2.out]; exact HON.out
      subst hn2
      clear t1 t2 t3 t4 t5 T1 T2 T3 hb2
      go_loopw [9] (fun v9 wr => ∃ (j : Nat) (va : Option Addr) (vc : Nat), j ≤ n2 ∧ v9 = .int .i64 (j : Int) ∧ Hid (Below w1.heap.size w1 wr) ∧ w2.heap.size ≤ wr.heap.size ∧ Hid (∀ x, x < w2.heap.size → x ≠ w1.heap.size + 1 + 1 → wr.heap[x]? = w2.heap[x]?) ∧ Hid (wr.heap[w1.heap.size + 1 + 1]? = some (.cells #[.int .i64 k, .string s, .slice va j vc, .slice none 0 0] 25 (0, 0))) ∧ Hid (wr.ownsRow w2.heap.size 9 1 (.slice va j vc) j (strV (Pl.gapsL k nk f L j)))) (fun u _ => n2 - (intOf u).toNat)
      case atStart => exact ⟨0, none, 0, Nat.zero_le _, rfl, HB12, Nat.le_refl _, Lib.hid (fun x _ _ => rfl), HT3, Lib.hid (World.ownsRow_nil _ _ _ _)⟩
      case round =>
        obtain ⟨j, va, vc, hj, rfl, HB, hgt, HF, HO, HR⟩ := hrel
        have hb1 : wr.heap[w1.heap.size]? = some (.cells #[.int .i64 k, .string s, .slice ga ng gc, .slice da nk dc] 25 (0, 0)) := (HF.out _ (by omega) (by omega)).trans HT1.out
        have A1 : Hid (At4 wr w1.heap.size 0 k s (.slice ga ng gc) (.slice da nk dc)) := Lib.hid (blk_cells hb1).1
        have C2 : Hid (wr.cell? ⟨w1.heap.size + 1 + 1, 2, none⟩ = some (.slice va j vc)) := Lib.hid (blk_cells HO.out).1.2.2.1
        clear hb1
        by_cases hlt : j < n2
        · have HCGj := Lib.hid (HCG.out j)
          have HRS : Hid (Pl.gapsL k nk f L (j + 1) = Pl.gapsL k nk f L j ++ [Pl.rgap k nk j f L]) := Lib.hid (Pl.gapsL_succ k nk f L j)
          generalize Pl.rgap k nk j f L = rg at *
          have hi0' : (0 : Int) ≤ (j : Int) := Int.natCast_nonneg _
          have hi1' : (j : Int) < (n2 : Int) := by omega
          go_wp2_with fail
          refine Ol.begin_any (S := Ol.SL (fun W => At4 W w1.heap.size 0 k s (.slice ga ng gc) (.slice da nk dc)) (fun W => W.cell? ⟨w1.heap.size + 1 + 1, 2, none⟩ = some (.slice va j vc)) 8) (by kernel_rfl) ?_
          have HH : Hid (At4 wr.drew w1.heap.size 0 k s (.slice ga ng gc) (.slice da nk dc) ∧ wr.drew.cell? ⟨w1.heap.size + 1 + 1, 2, none⟩ = some (.slice va j vc)) := Lib.hid ⟨A1.out, C2.out⟩
          refine Ol.take0 0 { dst := some 24, op := Op.fieldAddr 25 (Operand.tmp 7) 2, type := 0, pos := "ref.go:325", after := #[], guard := none } (some 24) (.pointer (some ⟨w1.heap.size + 1 + 1, 2, none⟩)) rfl rfl (by decide) (by kernel_rfl) (by kernel_rfl) (by kernel_rfl) (fun _ _ _ h => h) (Or.inl ⟨by rfl, fun W hT => by go_simp⟩) HH.out ?_
          try simp only [Act.put, List.setIfInBounds_toArray, List.set_cons_zero, List.set_cons_succ]
          refine Ol.take1 1 { dst := some 25, op := Op.load 22 (Operand.tmp 24), type := 22, pos := "ref.go:325", after := #[{ on := 0, ground := Ground.data }], guard := none } (some 25) (.slice va j vc) rfl rfl (by decide) (by kernel_rfl) (by kernel_rfl) (by kernel_rfl) (by kernel_rfl) (by kernel_rfl) (fun _ _ _ h => h) (Or.inl ⟨by rfl, fun W hT => by have hc : W.cell? ⟨w1.heap.size + 1 + 1, 2, none⟩ = some (.slice va j vc) := hT; go_simp⟩) HH.out ?_
          try simp only [Act.put, List.setIfInBounds_toArray, List.set_cons_zero, List.set_cons_succ]
          refine Ol.take0 2 { dst := some 26, op := Op.load 25 (Operand.tmp 3), type := 25, pos := "ref.go:325", after := #[], guard := none } (some 26) (.agg #[.int .i64 k, .string s, .slice ga ng gc, .slice da nk dc]) rfl rfl (by decide) (by kernel_rfl) (by kernel_rfl) (by kernel_rfl) (fun _ _ _ h => h) (Ol.yields_load 25 _ rfl (.pointer (some ⟨w1.heap.size, 0, none⟩)) (by rfl) (by rfl) (fun W hT => At4.load hT)) HH.out ?_
          try simp only [Act.put, List.setIfInBounds_toArray, List.set_cons_zero, List.set_cons_succ]
          refine Ol.take0 3 { dst := some 27, op := Op.move (Operand.tmp 9), type := 3, pos := "ref.go:325", after := #[], guard := none } (some 27) (.int .i64 (j : Int)) rfl rfl (by decide) (by kernel_rfl) (by kernel_rfl) (by kernel_rfl) (fun _ _ _ h => h) (Or.inl ⟨by rfl, fun W hT => by go_simp⟩) HH.out ?_
          try simp only [Act.put, List.setIfInBounds_toArray, List.set_cons_zero, List.set_cons_succ]
          refine Ol.take0 4 { dst := some 28, op := Op.move (Operand.tmp 1), type := 9, pos := "ref.go:325", after := #[], guard := none } (some 28) (.string f) rfl rfl (by decide) (by kernel_rfl) (by kernel_rfl) (by kernel_rfl) (fun _ _ _ h => h) (Or.inl ⟨by rfl, fun W hT => by go_simp⟩) HH.out ?_
          try simp only [Act.put, List.setIfInBounds_toArray, List.set_cons_zero, List.set_cons_succ]
          refine Ol.take0 5 { dst := some 29, op := Op.move (Operand.tmp 2), type := 3, pos := "ref.go:325", after := #[], guard := none } (some 29) (.int .i64 (L : Nat)) rfl rfl (by decide) (by kernel_rfl) (by kernel_rfl) (by kernel_rfl) (fun _ _ _ h => h) (Or.inl ⟨by rfl, fun W hT => by go_simp⟩) HH.out ?_
          try simp only [Act.put, List.setIfInBounds_toArray, List.set_cons_zero, List.set_cons_succ]
          refine Ol.ready1 (i := 6) (by kernel_rfl) (Ol.one (i := 6) (o := { dst := some 30, op := Op.call { callee := Callee.value (Operand.func 60), args := #[Operand.tmp 26, Operand.tmp 27, Operand.tmp 28, Operand.tmp 29], argTypes := #[25, 3, 9, 3] }, type := 9, pos := "ref.go:325", after := #[{ on := 2, ground := Ground.data }, { on := 3, ground := Ground.data }, { on := 4, ground := Ground.data }, { on := 5, ground := Ground.data }], guard := none }) rfl (fun K' hK => ?_))
          go_simp
          go_at_call 60
          refine (HCGj.out _).mono ?_
          rintro e w4 ⟨rfl, hb4'⟩
          have hb4 : Below wr.heap.size wr w4 := (Below.refl _ wr).drew.trans hb4'
          have hs4 := hb4.size
          have D1 := at4_below A1.out hb4
          have D2 : w4.cell? ⟨w1.heap.size + 1 + 1, 2, none⟩ = some (.slice va j vc) := (hb4.cell (p := ⟨w1.heap.size + 1 + 1, 2, none⟩) (by show w1.heap.size + 1 + 1 < _; omega)).trans C2.out
          refine hK.out _ _ D1 (fun _ => D2) ?_
          clear hK K'
          try simp only [Act.put, List.setIfInBounds_toArray, List.set_cons_zero, List.set_cons_succ]
          refine Ol.ready1 (i := 7) (by kernel_rfl) (Ol.one (i := 7) (o := { dst := some 31, op := Op.buildSlice 22 1 #[(0, Operand.tmp 30)], type := 22, pos := "ref.go:325", after := #[{ on := 6, ground := Ground.data }], guard := none }) rfl (fun K' hK => ?_))
          go_simp
          refine hK.out _ _ (at4_blk D1 (Below.heap_alloc _ _ _ (by omega))) (fun _ => (cell_past _ _ _ _ (by omega)).trans D2) ?_
          clear hK K'
          try simp only [Act.put, List.setIfInBounds_toArray, List.set_cons_zero, List.set_cons_succ]
          refine Ol.ready1 (i := 8) (by kernel_rfl) (Ol.one (i := 8) (o := { dst := some 32, op := Op.call { callee := Callee.builtin Builtin.append, args := #[Operand.tmp 25, Operand.tmp 31], argTypes := #[22, 22] }, type := 22, pos := "ref.go:325", after := #[{ on := 1, ground := Ground.data }, { on := 7, ground := Ground.data }, { on := 6, ground := Ground.chain }], guard := none }) rfl (fun K' hK => ?_))
          refine step_append_lies _ (by rfl) _ _ _ (by rfl) w2.heap.size 9 i9 _ 1 16 Tryz.underlying22 hi9 hz90 hz91 hz92 rfl (by omega) (.slice va j vc) j (strV (Pl.gapsL k nk f L j)) (by rfl) ((owns_later HR.out hb4).alloc _) ⟨w4.heap.size, 0, none⟩ 1 1 [.string rg] (by rfl) (by rfl) (news_one 1 [.string rg] rfl) (by simp [Value.oneCell']) (by omega) (by unfold maxLen; omega) (by omega) (by simp; omega) (w4.heap.size + 1) (by simp) ?_
          intro gg cap w5 hown hg hat hlt5
          have hrl : ∀ x, (Value.slice va j vc).ownBlock = some x → w2.heap.size ≤ x := fun x hx => (HR.out.lt x hx).1
          have hblk : ∀ x, x < w2.heap.size → w5.heap[x]? = wr.heap[x]? := fun x hx => (hg.block x (by simp; omega) (fun e => by have := hrl x e.symm; omega)).trans ((Below.heap_alloc _ _ _ (by omega)).trans (hb4.block x (by omega)))
          have hs5 := hg.size
          simp at hs5
          have D5 : At4 w5 w1.heap.size 0 k s (.slice ga ng gc) (.slice da nk dc) := at4_blk A1.out (hblk _ (by omega))
          have hob : w5.heap[w1.heap.size + 1 + 1]? = some (.cells #[.int .i64 k, .string s, .slice va j vc, .slice none 0 0] 25 (0, 0)) := (hblk _ (by omega)).trans HO.out
          have HOB := Lib.hid hob
          have hb5 : Below w1.heap.size w1 w5 := ((HB.out.trans (hb4.mono (by omega))).alloc (by omega) _).grown hg (by simp; omega) (fun x hx => by have := hrl x hx; omega)
          have HB5 := Lib.hid hb5
          have HOwn := Lib.hid hown
          have HBlk := Lib.hid hblk
          have HAt := Lib.hid hat
          refine hK.out _ _ D5 (fun h => absurd (h.symm.trans (by kernel_rfl)) (by decide : ¬ (false = true))) ?_
          clear hK K' hown hg hat hblk hb5 D1 D2 hb4 hb4'
          try simp only [Act.put, List.setIfInBounds_toArray, List.set_cons_zero, List.set_cons_succ]
          refine Ol.ready1 (i := 9) (by kernel_rfl) (Ol.one (i := 9) (o := { dst := some 33, op := Op.fieldAddr 25 (Operand.tmp 7) 2, type := 0, pos := "ref.go:325", after := #[{ on := 0, ground := Ground.phase }, { on := 1, ground := Ground.phase }, { on := 2, ground := Ground.phase }, { on := 3, ground := Ground.phase }, { on := 4, ground := Ground.phase }, { on := 5, ground := Ground.phase }, { on := 6, ground := Ground.phase }, { on := 7, ground := Ground.phase }, { on := 8, ground := Ground.phase }], guard := none }) rfl (fun K' hK => ?_))
          go_simp
          refine hK.out _ _ D5 (fun h => absurd (h.symm.trans (by kernel_rfl)) (by decide : ¬ (false = true))) ?_
          clear hK K'
          try simp only [Act.put, List.setIfInBounds_toArray, List.set_cons_zero, List.set_cons_succ]
          refine Ol.ready1 (i := 10) (by kernel_rfl) (Ol.one (i := 10) (o := { dst := none, op := Op.store 22 (Operand.tmp 33) (Operand.tmp 32), type := 0, pos := "ref.go:325", after := #[{ on := 9, ground := Ground.data }, { on := 8, ground := Ground.data }, { on := 8, ground := Ground.chain }, { on := 0, ground := Ground.phase }, { on := 1, ground := Ground.phase }, { on := 2, ground := Ground.phase }, { on := 3, ground := Ground.phase }, { on := 4, ground := Ground.phase }, { on := 5, ground := Ground.phase }, { on := 6, ground := Ground.phase }, { on := 7, ground := Ground.phase }, { on := 8, ground := Ground.phase }], guard := none }) rfl (fun K' hK => ?_))
          obtain ⟨⟨p0, p1, p2, p3⟩, y0, y1, y2, y3⟩ := blk_cells hob
          go_simp
          refine hK.out _ _ (at4_blk D5 (Below.heap_setCell _ _ _ _ (by show w1.heap.size ≠ w1.heap.size + 1 + 1; omega))) (fun h => absurd (h.symm.trans (by kernel_rfl)) (by decide : ¬ (false = true))) ?_
          clear hK K' hob p0 p1 p2 p3 y0 y1 y2 y3 D5
          refine Ol.done (by kernel_rfl) ?_ _
          go_wp2_with fail
          have hg5 : w2.heap.size ≤ gg := by
            rcases HAt.out with h | h
            · exact hrl _ h
            · omega
          refine ⟨⟨j + 1, some ⟨gg, 0, none⟩, cap, by omega, by go_num, Lib.hid ?_, by simp; omega, Lib.hid ?_, Lib.hid ?_, Lib.hid ?_⟩, by simp [intOf]; omega⟩
          · exact HB5.out.setCell (by show w1.heap.size ≤ w1.heap.size + 1 + 1; omega) _
          · exact fun x hx hne => (Below.heap_setCell _ _ _ _ hne).trans ((HBlk.out x hx).trans (HF.out x hx hne))
          · have := HOB.out
            simp [World.setCell, Array.getElem?_modify, this]
          · rw [HRS.out, strV_app]
            exact owns_of_block HOwn.out (fun x hx => Below.heap_setCell _ _ _ _ (by
              have e : gg = x := by simpa [Value.ownBlock] using hx
              show x ≠ w1.heap.size + 1 + 1
              omega))
        · have hjn : j = n2 := by omega
          subst hjn
          obtain ⟨wm, hwm⟩ : ∃ wm, wm = wr := ⟨_, rfl⟩
          subst hwm
          have HRB : Hid (∀ x, (Value.slice va j vc).ownBlock = some x → w2.heap.size ≤ x ∧ x < wm.heap.size) := Lib.hid (fun x hx => HR.out.lt x hx)
          clear hlt
          have hlt2 : ¬ (j : Int) < (j : Int) := by omega
          go_wp2_with fail
          go_loopw [10] (fun v10 wr => ∃ (q : Nat) (xa : Option Addr) (xc : Nat) (M : List (Pl.Tr × Sl)), q ≤ nk ∧ v10 = .int .i64 (q : Int) ∧ Hid (M.map Prod.fst = KS.take q) ∧ Hid (Below w1.heap.size w1 wr) ∧ wm.heap.size ≤ wr.heap.size ∧ Hid (∀ x, x < wm.heap.size → x ≠ w1.heap.size + 1 + 1 → wr.heap[x]? = wm.heap[x]?) ∧ Hid (wr.heap[w1.heap.size + 1 + 1]? = some (.cells #[.int .i64 k, .string s, .slice va j vc, .slice xa q xc] 25 (0, 0))) ∧ Hid (Made wm.heap.size wr xa q xc M)) (fun u _ => nk - (intOf u).toNat)
          case atStart => exact ⟨0, none, 0, [], Nat.zero_le _, rfl, Lib.hid rfl, HB, Nat.le_refl _, Lib.hid (fun x _ _ => rfl), HO, Lib.hid (made_nil _ _)⟩
          case round =>
            obtain ⟨q, xa, xc, M, hq, rfl, HML, HBX, hgx, HFX, HOX, HM⟩ := hrel
            have hb1 : wr.heap[w1.heap.size]? = some (.cells #[.int .i64 k, .string s, .slice ga ng gc, .slice da nk dc] 25 (0, 0)) := (HFX.out _ (by omega) (by omega)).trans ((HF.out _ (by omega) (by omega)).trans HT1.out)
            have X1 : Hid (At4 wr w1.heap.size 0 k s (.slice ga ng gc) (.slice da nk dc)) := Lib.hid (blk_cells hb1).1
            have C3 : Hid (wr.cell? ⟨w1.heap.size + 1 + 1, 3, none⟩ = some (.slice xa q xc)) := Lib.hid (blk_cells HOX.out).1.2.2.2
            have x3 : wr.cell? ⟨w1.heap.size, 3, none⟩ = some (.slice da nk dc) := X1.out.2.2.2
            have hsr : Same P w wr := HS.out.trans (Same.below HBX.out fun b hb => Nat.lt_of_lt_of_le (HPw.out b hb) hge)
            have HSR := Lib.hid hsr
            clear hb1 hsr
            by_cases hltq : q < nk
            · have hqk : q < ks.length := by rw [← HNK.out]; exact hltq
              have hu := List.getElem?_eq_getElem hqk
              rcases HK.out with h0 | ⟨b, o, rfl, hb, hat⟩
              · rw [h0] at hqk; simp at hqk
              have AU := Lib.hid (At4.keep (hat q _ hu) HSR.out hb)
              obtain ⟨hu1, hu2, hu3⟩ := HSZ.out q _ hu
              have HIq := Lib.hid (HI.out q _ hu)
              have HKq := Lib.hid (HKS.out q _ hu)
              have hbw := HPw.out b hb
              generalize ks[q] = u at *
              generalize R q = r1 at *
              obtain ⟨ga1, gc1, da1, dc1⟩ := r1
              obtain ⟨rk, hrk⟩ : ∃ rk, rk = Pl.rkid k q f L := ⟨_, rfl⟩
              obtain ⟨il, hil⟩ : ∃ il, il = Pl.inside k L := ⟨_, rfl⟩
              obtain ⟨lu, hlu⟩ : ∃ lu, lu = Pl.lay u il rk := ⟨_, rfl⟩
              have hrks : rk.size ≤ 20000 := by rw [hrk]; exact HKZ.out q
              have HCKq := Lib.hid (HCK.out q)
              have HCNq := HCN
              rw [← hrk] at HCKq
              rw [← hil] at HCNq hu3
              rw [← hrk, ← hil, ← hlu] at HKq
              have HCL : Hid (∀ W, Below wr.heap.size wr W → Calls Tryz.prog 37 #[.agg #[.int .i64 u.kind, .string u.text, .slice ga1 u.gaps.length gc1, .slice da1 u.kids.length dc1], .string rk, .int .i64 (il : Nat)] W (CopyP lu W)) := Lib.hid (fun W hW => by
                rw [hlu]
                exact HIq.out il rk W (HSR.out.trans (Same.below hW fun b hb => by have := HPw.out b hb; omega)) (by have := hW.size; omega) hu2 hu1 hu3 hrks)
              have hi0' : (0 : Int) ≤ (q : Int) := Int.natCast_nonneg _
              have hi1' : (q : Int) < (nk : Int) := by omega
              clear hat hu HIq hrk hil hlu hrks hu1 hu2 hu3
              go_wp2_with fail
              refine Ol.begin_any (S := Ol.SL (fun W => At4 W b (o + q * 4) u.kind u.text (.slice ga1 u.gaps.length gc1) (.slice da1 u.kids.length dc1) ∧ At4 W w1.heap.size 0 k s (.slice ga ng gc) (.slice (some ⟨b, o, none⟩) nk dc)) (fun W => W.cell? ⟨w1.heap.size + 1 + 1, 3, none⟩ = some (.slice xa q xc)) 17) (by kernel_rfl) ?_
              have HH : Hid ((At4 wr.drew b (o + q * 4) u.kind u.text (.slice ga1 u.gaps.length gc1) (.slice da1 u.kids.length dc1) ∧ At4 wr.drew w1.heap.size 0 k s (.slice ga ng gc) (.slice (some ⟨b, o, none⟩) nk dc)) ∧ wr.drew.cell? ⟨w1.heap.size + 1 + 1, 3, none⟩ = some (.slice xa q xc)) := Lib.hid ⟨⟨AU.out, X1.out⟩, C3.out⟩
              refine Ol.take0 0 { dst := some 41, op := Op.fieldAddr 25 (Operand.tmp 7) 3, type := 0, pos := "ref.go:328", after := #[], guard := none } (some 41) (.pointer (some ⟨w1.heap.size + 1 + 1, 3, none⟩)) rfl rfl (by decide) (by kernel_rfl) (by kernel_rfl) (by kernel_rfl) (fun _ _ _ h => h) (Or.inl ⟨by rfl, fun W hT => by go_simp⟩) HH.out ?_
              try simp only [Act.put, List.setIfInBounds_toArray, List.set_cons_zero, List.set_cons_succ]
              refine Ol.take1 1 { dst := some 42, op := Op.load 23 (Operand.tmp 41), type := 23, pos := "ref.go:328", after := #[{ on := 0, ground := Ground.data }], guard := none } (some 42) (.slice xa q xc) rfl rfl (by decide) (by kernel_rfl) (by kernel_rfl) (by kernel_rfl) (by kernel_rfl) (by kernel_rfl) (fun _ _ _ h => h) (Or.inl ⟨by rfl, fun W hT => by have hc : W.cell? ⟨w1.heap.size + 1 + 1, 3, none⟩ = some (.slice xa q xc) := hT; go_simp⟩) HH.out ?_
              try simp only [Act.put, List.setIfInBounds_toArray, List.set_cons_zero, List.set_cons_succ]
              refine Ol.take0 2 { dst := some 43, op := Op.fieldAddr 25 (Operand.tmp 3) 3, type := 0, pos := "ref.go:328", after := #[], guard := none } (some 43) (.pointer (some ⟨w1.heap.size, 3, none⟩)) rfl rfl (by decide) (by kernel_rfl) (by kernel_rfl) (by kernel_rfl) (fun _ _ _ h => h) (Or.inl ⟨by rfl, fun W hT => by go_simp⟩) HH.out ?_
              try simp only [Act.put, List.setIfInBounds_toArray, List.set_cons_zero, List.set_cons_succ]
              refine Ol.take0 3 { dst := some 44, op := Op.load 23 (Operand.tmp 43), type := 23, pos := "ref.go:328", after := #[{ on := 2, ground := Ground.data }], guard := none } (some 44) (.slice (some ⟨b, o, none⟩) nk dc) rfl rfl (by decide) (by kernel_rfl) (by kernel_rfl) (by kernel_rfl) (fun _ _ _ h => h) (Or.inl ⟨by rfl, fun W hT => by have hc : W.cell? ⟨w1.heap.size, 3, none⟩ = some (.slice (some ⟨b, o, none⟩) nk dc) := hT.2.2.2.2; go_simp⟩) HH.out ?_
              try simp only [Act.put, List.setIfInBounds_toArray, List.set_cons_zero, List.set_cons_succ]
              refine Ol.take0 4 { dst := some 45, op := Op.move (Operand.tmp 10), type := 3, pos := "ref.go:328", after := #[], guard := none } (some 45) (.int .i64 (q : Int)) rfl rfl (by decide) (by kernel_rfl) (by kernel_rfl) (by kernel_rfl) (fun _ _ _ h => h) (Or.inl ⟨by rfl, fun W hT => by go_simp⟩) HH.out ?_
              try simp only [Act.put, List.setIfInBounds_toArray, List.set_cons_zero, List.set_cons_succ]
              refine Ol.take0 5 { dst := some 46, op := Op.indexAddr 23 (Operand.tmp 44) (Operand.tmp 45), type := 0, pos := "ref.go:328", after := #[{ on := 3, ground := Ground.data }, { on := 4, ground := Ground.data }], guard := none } (some 46) (.pointer (some ⟨b, o + q * 4, none⟩)) rfl rfl (by decide) (by kernel_rfl) (by kernel_rfl) (by kernel_rfl) (fun _ _ _ h => h) (Or.inl ⟨by rfl, fun W hT => by go_simp⟩) HH.out ?_
              try simp only [Act.put, List.setIfInBounds_toArray, List.set_cons_zero, List.set_cons_succ]
              refine Ol.take0 6 { dst := some 47, op := Op.load 25 (Operand.tmp 46), type := 25, pos := "ref.go:328", after := #[{ on := 5, ground := Ground.data }], guard := none } (some 47) (.agg #[.int .i64 u.kind, .string u.text, .slice ga1 u.gaps.length gc1, .slice da1 u.kids.length dc1]) rfl rfl (by decide) (by kernel_rfl) (by kernel_rfl) (by kernel_rfl) (fun _ _ _ h => h) (Ol.yields_load 25 _ rfl (.pointer (some ⟨b, o + q * 4, none⟩)) (by rfl) (by rfl) (fun W hT => At4.load hT.1)) HH.out ?_
              try simp only [Act.put, List.setIfInBounds_toArray, List.set_cons_zero, List.set_cons_succ]
              refine Ol.take0 7 { dst := some 48, op := Op.load 25 (Operand.tmp 3), type := 25, pos := "ref.go:328", after := #[], guard := none } (some 48) (.agg #[.int .i64 k, .string s, .slice ga ng gc, .slice (some ⟨b, o, none⟩) nk dc]) rfl rfl (by decide) (by kernel_rfl) (by kernel_rfl) (by kernel_rfl) (fun _ _ _ h => h) (Ol.yields_load 25 _ rfl (.pointer (some ⟨w1.heap.size, 0, none⟩)) (by rfl) (by rfl) (fun W hT => At4.load hT.2)) HH.out ?_
              try simp only [Act.put, List.setIfInBounds_toArray, List.set_cons_zero, List.set_cons_succ]
              refine Ol.take0 8 { dst := some 49, op := Op.move (Operand.tmp 10), type := 3, pos := "ref.go:328", after := #[], guard := none } (some 49) (.int .i64 (q : Int)) rfl rfl (by decide) (by kernel_rfl) (by kernel_rfl) (by kernel_rfl) (fun _ _ _ h => h) (Or.inl ⟨by rfl, fun W hT => by go_simp⟩) HH.out ?_
              try simp only [Act.put, List.setIfInBounds_toArray, List.set_cons_zero, List.set_cons_succ]
              refine Ol.take0 9 { dst := some 50, op := Op.move (Operand.tmp 1), type := 9, pos := "ref.go:328", after := #[], guard := none } (some 50) (.string f) rfl rfl (by decide) (by kernel_rfl) (by kernel_rfl) (by kernel_rfl) (fun _ _ _ h => h) (Or.inl ⟨by rfl, fun W hT => by go_simp⟩) HH.out ?_
              try simp only [Act.put, List.setIfInBounds_toArray, List.set_cons_zero, List.set_cons_succ]
              refine Ol.take0 10 { dst := some 51, op := Op.move (Operand.tmp 2), type := 3, pos := "ref.go:328", after := #[], guard := none } (some 51) (.int .i64 (L : Nat)) rfl rfl (by decide) (by kernel_rfl) (by kernel_rfl) (by kernel_rfl) (fun _ _ _ h => h) (Or.inl ⟨by rfl, fun W hT => by go_simp⟩) HH.out ?_
              try simp only [Act.put, List.setIfInBounds_toArray, List.set_cons_zero, List.set_cons_succ]
              refine Ol.take0 12 { dst := some 53, op := Op.load 25 (Operand.tmp 3), type := 25, pos := "ref.go:328", after := #[], guard := none } (some 53) (.agg #[.int .i64 k, .string s, .slice ga ng gc, .slice (some ⟨b, o, none⟩) nk dc]) rfl rfl (by decide) (by kernel_rfl) (by kernel_rfl) (by kernel_rfl) (fun _ _ _ h => h) (Ol.yields_load 25 _ rfl (.pointer (some ⟨w1.heap.size, 0, none⟩)) (by rfl) (by rfl) (fun W hT => At4.load hT.2)) HH.out ?_
              try simp only [Act.put, List.setIfInBounds_toArray, List.set_cons_zero, List.set_cons_succ]
              refine Ol.take0 13 { dst := some 54, op := Op.move (Operand.tmp 2), type := 3, pos := "ref.go:328", after := #[], guard := none } (some 54) (.int .i64 (L : Nat)) rfl rfl (by decide) (by kernel_rfl) (by kernel_rfl) (by kernel_rfl) (fun _ _ _ h => h) (Or.inl ⟨by rfl, fun W hT => by go_simp⟩) HH.out ?_
              try simp only [Act.put, List.setIfInBounds_toArray, List.set_cons_zero, List.set_cons_succ]
              refine Ol.ready1 (i := 11) (by kernel_rfl) (Ol.one (i := 11) (o := { dst := some 52, op := Op.call { callee := Callee.value (Operand.func 58), args := #[Operand.tmp 48, Operand.tmp 49, Operand.tmp 50, Operand.tmp 51], argTypes := #[25, 3, 9, 3] }, type := 9, pos := "ref.go:328", after := #[{ on := 7, ground := Ground.data }, { on := 8, ground := Ground.data }, { on := 9, ground := Ground.data }, { on := 10, ground := Ground.data }], guard := none }) rfl (fun K' hK => ?_))
              go_simp
              go_at_call 58
              refine (HCKq.out _).mono ?_
              rintro e w4 ⟨rfl, hb4'⟩
              have hb4 : Below wr.heap.size wr w4 := (Below.refl _ wr).drew.trans hb4'
              have hs4 := hb4.size
              have E1 := at4_below AU.out hb4
              have D1 := at4_below X1.out hb4
              have D2 : w4.cell? ⟨w1.heap.size + 1 + 1, 3, none⟩ = some (.slice xa q xc) := (hb4.cell (p := ⟨w1.heap.size + 1 + 1, 3, none⟩) (by show w1.heap.size + 1 + 1 < _; omega)).trans C3.out
              refine hK.out _ _ ⟨E1, D1⟩ (fun _ => D2) ?_
              clear hK K' hb4'
              try simp only [Act.put, List.setIfInBounds_toArray, List.set_cons_zero, List.set_cons_succ]
              refine Ol.ready1 (i := 14) (by kernel_rfl) (Ol.one (i := 14) (o := { dst := some 55, op := Op.call { callee := Callee.value (Operand.func 59), args := #[Operand.tmp 53, Operand.tmp 54], argTypes := #[25, 3] }, type := 3, pos := "ref.go:328", after := #[{ on := 12, ground := Ground.data }, { on := 13, ground := Ground.data }, { on := 11, ground := Ground.chain }], guard := none }) rfl (fun K' hK => ?_))
              go_simp
              go_at_call 59
              refine (HCNq.out _).mono ?_
              rintro e w5 ⟨rfl, hb5'⟩
              have hb5 : Below wr.heap.size wr w5 := hb4.trans (hb5'.mono hs4)
              have hs5 := hb5.size
              clear E1 D1 D2
              have E1 := at4_below AU.out hb5
              have D1 := at4_below X1.out hb5
              have D2 : w5.cell? ⟨w1.heap.size + 1 + 1, 3, none⟩ = some (.slice xa q xc) := (hb5.cell (p := ⟨w1.heap.size + 1 + 1, 3, none⟩) (by show w1.heap.size + 1 + 1 < _; omega)).trans C3.out
              refine hK.out _ _ ⟨E1, D1⟩ (fun _ => D2) ?_
              clear hK K' hb5' hb4
              try simp only [Act.put, List.setIfInBounds_toArray, List.set_cons_zero, List.set_cons_succ]
              refine Ol.ready1 (i := 15) (by kernel_rfl) (Ol.one (i := 15) (o := { dst := some 56, op := Op.call { callee := Callee.value (Operand.func 37), args := #[Operand.tmp 47, Operand.tmp 52, Operand.tmp 55], argTypes := #[25, 9, 3] }, type := 25, pos := "ref.go:328", after := #[{ on := 6, ground := Ground.data }, { on := 11, ground := Ground.data }, { on := 14, ground := Ground.data }, { on := 14, ground := Ground.chain }], guard := none }) rfl (fun K' hK => ?_))
              go_simp
              go_at_call 37
              refine (HCL.out _ hb5).mono ?_
              rintro e w6 ⟨⟨ga2, gc2, da2, dc2⟩, rfl, ht6, hb6'⟩
              have hb6 : Below wr.heap.size wr w6 := hb5.trans (hb6'.mono hs5)
              have hs6 := hb6.size
              have HT6 := Lib.hid (ht6.keep (Same.refl _ _) (fun x (hx : w5.heap.size ≤ x ∧ x < w6.heap.size) => (show wr.heap.size ≤ x ∧ x < w6.heap.size from ⟨by omega, hx.2⟩)))
              clear E1 D1 D2 ht6
              have E1 := at4_below AU.out hb6
              have D1 := at4_below X1.out hb6
              have D2 : w6.cell? ⟨w1.heap.size + 1 + 1, 3, none⟩ = some (.slice xa q xc) := (hb6.cell (p := ⟨w1.heap.size + 1 + 1, 3, none⟩) (by show w1.heap.size + 1 + 1 < _; omega)).trans C3.out
              refine hK.out _ _ ⟨E1, D1⟩ (fun _ => D2) ?_
              clear hK K' hb6' hb5
              try simp only [Act.put, List.setIfInBounds_toArray, List.set_cons_zero, List.set_cons_succ]
              refine Ol.ready1 (i := 16) (by kernel_rfl) (Ol.one (i := 16) (o := { dst := some 57, op := Op.buildSlice 23 1 #[(0, Operand.tmp 56)], type := 23, pos := "ref.go:328", after := #[{ on := 15, ground := Ground.data }], guard := none }) rfl (fun K' hK => ?_))
              go_simp
              refine hK.out _ _ ⟨at4_blk E1 (Below.heap_alloc _ _ _ (by omega)), at4_blk D1 (Below.heap_alloc _ _ _ (by omega))⟩ (fun _ => (cell_past _ _ _ _ (by omega)).trans D2) ?_
              clear hK K'
              try simp only [Act.put, List.setIfInBounds_toArray, List.set_cons_zero, List.set_cons_succ]
              refine Ol.ready1 (i := 17) (by kernel_rfl) (Ol.one (i := 17) (o := { dst := some 58, op := Op.call { callee := Callee.builtin Builtin.append, args := #[Operand.tmp 42, Operand.tmp 57], argTypes := #[23, 23] }, type := 23, pos := "ref.go:328", after := #[{ on := 1, ground := Ground.data }, { on := 16, ground := Ground.data }, { on := 15, ground := Ground.chain }], guard := none }) rfl (fun K' hK => ?_))
              refine step_append_lies _ (by rfl) _ _ _ (by rfl) wm.heap.size 25 i0 _ 4 72 Tryz.underlying23 hi0 hz0 hz1 hz2 rfl (by omega) (.slice xa q xc) q (row4 M) (by rfl) ((owns_later HM.out.2.1 hb6).alloc _) ⟨w6.heap.size, 0, none⟩ 1 1 [.int .i64 lu.kind, .string lu.text, .slice ga2 lu.gaps.length gc2, .slice da2 lu.kids.length dc2] (by rfl) (by rfl) (World.news_of_block (cs := #[.int .i64 lu.kind, .string lu.text, .slice ga2 lu.gaps.length gc2, .slice da2 lu.kids.length dc2]) (t := 25) (fr := (0, 0)) (heap_alloc_new w6 _)) (by simp [Value.oneCell']) (by omega) (by unfold maxLen; omega) (by omega) (by simp; omega) (w6.heap.size + 1) (by simp) ?_
              intro gg cap w7 hown hg hat hlt7
              have hrl : ∀ x, (Value.slice xa q xc).ownBlock = some x → wm.heap.size ≤ x := fun x hx => (HM.out.2.1.lt x hx).1
              have hblk : ∀ x, x < wm.heap.size → w7.heap[x]? = wr.heap[x]? := fun x hx => (hg.block x (by simp; omega) (fun e => by have := hrl x e.symm; omega)).trans ((Below.heap_alloc _ _ _ (by omega)).trans (hb6.block x (by omega)))
              have hs7 := hg.size
              simp at hs7
              have E7 : At4 w7 b (o + q * 4) u.kind u.text (.slice ga1 u.gaps.length gc1) (.slice da1 u.kids.length dc1) := at4_blk AU.out (hblk _ (by omega))
              have D7 : At4 w7 w1.heap.size 0 k s (.slice ga ng gc) (.slice (some ⟨b, o, none⟩) nk dc) := at4_blk X1.out (hblk _ (by omega))
              have hob : w7.heap[w1.heap.size + 1 + 1]? = some (.cells #[.int .i64 k, .string s, .slice va j vc, .slice xa q xc] 25 (0, 0)) := (hblk _ (by omega)).trans HOX.out
              have HOB := Lib.hid hob
              have hb7 : Below w1.heap.size w1 w7 := ((HBX.out.trans (hb6.mono (by omega))).alloc (by omega) _).grown hg (by simp; omega) (fun x hx => by have := hrl x hx; omega)
              have HB7 := Lib.hid hb7
              have HMS : Hid (Made wm.heap.size w7 (some ⟨gg, 0, none⟩) (q + 1) cap (M ++ [(lu, ⟨ga2, gc2, da2, dc2⟩)])) := Lib.hid (made_snoc HM.out hgx hb6 HT6.out hown hg hat)
              have HBlk := Lib.hid hblk
              refine hK.out _ _ ⟨E7, D7⟩ (fun h => absurd (h.symm.trans (by kernel_rfl)) (by decide : ¬ (false = true))) ?_
              clear hK K' hown hg hat hblk hb7 E1 D1 D2 hb6
              try simp only [Act.put, List.setIfInBounds_toArray, List.set_cons_zero, List.set_cons_succ]
              refine Ol.ready1 (i := 18) (by kernel_rfl) (Ol.one (i := 18) (o := { dst := some 59, op := Op.fieldAddr 25 (Operand.tmp 7) 3, type := 0, pos := "ref.go:328", after := #[{ on := 0, ground := Ground.phase }, { on := 1, ground := Ground.phase }, { on := 2, ground := Ground.phase }, { on := 3, ground := Ground.phase }, { on := 4, ground := Ground.phase }, { on := 5, ground := Ground.phase }, { on := 6, ground := Ground.phase }, { on := 7, ground := Ground.phase }, { on := 8, ground := Ground.phase }, { on := 9, ground := Ground.phase }, { on := 10, ground := Ground.phase }, { on := 11, ground := Ground.phase }, { on := 12, ground := Ground.phase }, { on := 13, ground := Ground.phase }, { on := 14, ground := Ground.phase }, { on := 15, ground := Ground.phase }, { on := 16, ground := Ground.phase }, { on := 17, ground := Ground.phase }], guard := none }) rfl (fun K' hK => ?_))
              go_simp
              refine hK.out _ _ ⟨E7, D7⟩ (fun h => absurd (h.symm.trans (by kernel_rfl)) (by decide : ¬ (false = true))) ?_
              clear hK K'
              try simp only [Act.put, List.setIfInBounds_toArray, List.set_cons_zero, List.set_cons_succ]
              refine Ol.ready1 (i := 19) (by kernel_rfl) (Ol.one (i := 19) (o := { dst := none, op := Op.store 23 (Operand.tmp 59) (Operand.tmp 58), type := 0, pos := "ref.go:328", after := #[{ on := 18, ground := Ground.data }, { on := 17, ground := Ground.data }, { on := 17, ground := Ground.chain }, { on := 0, ground := Ground.phase }, { on := 1, ground := Ground.phase }, { on := 2, ground := Ground.phase }, { on := 3, ground := Ground.phase }, { on := 4, ground := Ground.phase }, { on := 5, ground := Ground.phase }, { on := 6, ground := Ground.phase }, { on := 7, ground := Ground.phase }, { on := 8, ground := Ground.phase }, { on := 9, ground := Ground.phase }, { on := 10, ground := Ground.phase }, { on := 11, ground := Ground.phase }, { on := 12, ground := Ground.phase }, { on := 13, ground := Ground.phase }, { on := 14, ground := Ground.phase }, { on := 15, ground := Ground.phase }, { on := 16, ground := Ground.phase }, { on := 17, ground := Ground.phase }], guard := none }) rfl (fun K' hK => ?_))
              obtain ⟨⟨p0, p1, p2, p3⟩, y0, y1, y2, y3⟩ := blk_cells hob
              go_simp
              refine hK.out _ _ ⟨at4_blk E7 (Below.heap_setCell _ _ _ _ (by show b ≠ w1.heap.size + 1 + 1; omega)), at4_blk D7 (Below.heap_setCell _ _ _ _ (by show w1.heap.size ≠ w1.heap.size + 1 + 1; omega))⟩ (fun h => absurd (h.symm.trans (by kernel_rfl)) (by decide : ¬ (false = true))) ?_
              clear hK K' hob p0 p1 p2 p3 y0 y1 y2 y3 D7 E7 x3
              refine Ol.done (by kernel_rfl) ?_ _
              go_wp2_with fail
              refine ⟨⟨q + 1, some ⟨gg, 0, none⟩, cap, M ++ [(lu, ⟨ga2, gc2, da2, dc2⟩)], by omega, by go_num, Lib.hid ?_, Lib.hid ?_, by simp; omega, Lib.hid ?_, Lib.hid ?_, Lib.hid ?_⟩, by simp [intOf]; omega⟩
              · rw [List.map_append, HML.out, List.take_add_one, HKq.out]; rfl
              · exact HB7.out.setCell (by show w1.heap.size ≤ w1.heap.size + 1 + 1; omega) _
              · exact fun x hx hne => (Below.heap_setCell _ _ _ _ hne).trans ((HBlk.out x hx).trans (HFX.out x hx hne))
              · have := HOB.out
                simp [World.setCell, Array.getElem?_modify, this]
              · exact made_keep HMS.out (fun x hx _ => Below.heap_setCell _ _ _ _ (by show x ≠ w1.heap.size + 1 + 1; omega)) (by simp)
            · have hqn : q = nk := by omega
              have HQ := Lib.hid hqn
              have hlt3 : ¬ (q : Int) < (nk : Int) := by omega
              have hzb : wr.heap[w1.heap.size + 1]? = some (.cells #[.int .i64 0, .string ⟨#[]⟩, .slice none 0 0, .slice none 0 0] 25 (0, 0)) := (HFX.out _ (by omega) (by omega)).trans ((HF.out _ (by omega) (by omega)).trans HT2.out)
              obtain ⟨⟨p0, p1, p2, p3⟩, z0, z1, z2, z3⟩ := blk_cells hzb
              have hob := HOX.out
              obtain ⟨⟨t0, t1, t2, t3⟩, _⟩ := blk_cells hob
              clear hzb hob hqn
              go_wp2_with fail
              refine bodyPost_ret (v := .agg #[.int .i64 k, .string s, .slice va j vc, .slice xa q xc]) (by simp [results, Tryz.results37, go_sem, p0, p1, p2, p3]) rfl ?_
              have hm := HM.out
              have hq := HQ.out
              have hML : M.map Prod.fst = KS := by have := HML.out; rw [hq, ← HKL.out, List.take_length] at this; exact this
              refine ⟨⟨va, vc, xa, xc⟩, ?_, .mk _ _ (fun i => match M[i]? with | some x => x.2 | none => ⟨none, 0, none, 0⟩) HTX.out ?_ ?_ ?_ (fun i v hv => ?_), below_set4 HBX.out (by omega)⟩
              · rw [kids_node, gaps_node, text_node, kind_node, Pl.gapsL_len, HKL.out, hq]
              · rw [gaps_node]
                have hrx : wr.ownsRow w2.heap.size 9 1 (.slice va j vc) j (strV (Pl.gapsL k nk f L j)) := owns_of_block HR.out (fun x hx => HFX.out x (HRB.out x hx).2 (by have := (HRB.out x hx).1; omega))
                exact (row_strsP hrx (Pl.gapsL_len k nk f L j).symm (HGS.out j) (by rw [Pl.gapsL_len]; omega) (P := fun x => w2.heap.size ≤ x ∧ x < wr.heap.size) (fun x h1 h2 => ⟨h1, h2⟩)).keep (fun y hy => heap_set4 (by omega)) (fun y hy => ⟨by omega, by simp; omega⟩)
              · rw [kids_node, HKL.out]; unfold maxLen; omega
              · rw [kids_node]
                rcases Nat.eq_zero_or_pos q with h0 | h0
                · left
                  rw [← hML, List.map_eq_nil_iff]
                  exact List.eq_nil_of_length_eq_zero (by rw [← hm.1]; exact h0)
                · obtain ⟨g2, cap2, he, hge2, hlt2', _, hat⟩ := owns_at hm.2.1 hm.1 h0
                  injection he with he1 he2 he3
                  refine .inr ⟨g2, 0, he1, ⟨by omega, by simp; omega⟩, fun i v hv => ?_⟩
                  rw [← hML, List.getElem?_map] at hv
                  obtain ⟨x, hx, rfl⟩ := Option.map_eq_some_iff.1 hv
                  simp only [hx]
                  exact At4.keep (P := fun y => y = g2) (hat i x hx) (fun y hy => heap_set4 (by omega)) rfl
              · rw [kids_node, ← hML, List.getElem?_map] at hv
                obtain ⟨x, hx, rfl⟩ := Option.map_eq_some_iff.1 hv
                simp only [hx]
                exact (hm.2.2 i x hx).keep (fun y hy => heap_set4 (by omega)) (fun y hy => ⟨by omega, by simp; omega⟩)
end Go.Proofs.YtiaajpdcacdngaaGreatDoor.Rf
