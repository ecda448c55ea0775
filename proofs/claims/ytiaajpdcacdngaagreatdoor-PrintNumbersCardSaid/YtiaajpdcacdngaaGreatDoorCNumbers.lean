/- The walks of List and of the law PrintNumbers. -/
import Derived.Test.YtiaajpdcacdngaaGreatDoorLBase
import Derived.Test.YtiaajpdcacdngaaGreatDoorClose
import Derived.Test.YtiaajpdcacdngaaGreatDoorCard
import Derived.Deep.AppendLies
import Derived.OwnWalk
namespace Go.Proofs.YtiaajpdcacdngaaGreatDoor.Aw
open Go.RowKit
set_option linter.unusedVariables false
set_option linter.unusedSimpArgs false
set_option maxRecDepth 100000

theorem info_parts {sz by' : Nat} {z : Value} {o : Option TypeInfo} (h : o.map (fun i => (i.zero, i.size, i.bytes)) = some (some z, sz, by')) : ∃ i, o = some i ∧ i.zero = some z ∧ i.size = sz ∧ i.bytes = by' := by
  obtain ⟨i, hi, hzz⟩ := Option.map_eq_some_iff.1 h
  simp only [Prod.mk.injEq] at hzz
  exact ⟨i, hi, hzz.1, hzz.2.1, hzz.2.2⟩
def cells4 (x : Pl.Tr × Sl) : List Value := [.int .i64 x.1.kind, .string x.1.text, .slice x.2.ga x.1.gaps.length x.2.gc, .slice x.2.da x.1.kids.length x.2.dc]
def row4 (L : List (Pl.Tr × Sl)) : List Value := L.flatMap cells4
theorem row4_snoc (L : List (Pl.Tr × Sl)) (t : Pl.Tr × Sl) : row4 (L ++ [t]) = row4 L ++ cells4 t := by unfold row4; simp
theorem row4_len (L : List (Pl.Tr × Sl)) : (row4 L).length = L.length * 4 := by
  induction L with
  | nil => rfl
  | cons t L ih => unfold row4 at ih ⊢; rw [List.flatMap_cons, List.length_append, ih, List.length_cons]; show 4 + _ = _; omega
theorem row4_get (L : List (Pl.Tr × Sl)) (j : Nat) (t : Pl.Tr × Sl) (h : L[j]? = some t) (f : Nat) (hf : f < 4) : (row4 L)[j * 4 + f]? = (cells4 t)[f]? := by
  induction L generalizing j with
  | nil => simp at h
  | cons a L ih =>
    have e : row4 (a :: L) = cells4 a ++ row4 L := by unfold row4; rw [List.flatMap_cons]
    rw [e]
    match j, h with
    | 0, h =>
      obtain rfl : a = t := by simpa using h
      rw [List.getElem?_append_left (by show 0 * 4 + f < 4; omega)]
      congr 1; omega
    | j + 1, h =>
      rw [List.getElem?_append_right (by show 4 ≤ _; omega)]
      have := ih j (by simpa using h)
      rw [← this]
      congr 1; show (j + 1) * 4 + f - 4 = _; omega
theorem lt_blk {w : World} {b : Nat} {o : Obj} (h : w.heap[b]? = some o) : b < w.heap.size := (Array.getElem?_eq_some_iff.1 h).1
theorem owns_later {w w' : World} {B : Nat} {e : TypeId} {size n : Nat} {v : Value} {xs : List Value} (h : w.ownsRow B e size v n xs) (hb : Below w.heap.size w w') : w'.ownsRow B e size v n xs := by
  refine ⟨h.1, ?_⟩
  rcases h.2 with h2 | ⟨g, cap, cur, h1, h2, h3, h4⟩
  · exact .inl h2
  · exact .inr ⟨g, cap, cur, h1, h2, by rw [hb.block g (lt_blk h3)]; exact h3, h4⟩
/-- What lies in a row of the call's own. -/
theorem owns_at {w : World} {B n : Nat} {v : Value} {L : List (Pl.Tr × Sl)} (h : w.ownsRow B 25 4 v n (row4 L)) (hn : n = L.length) (h0 : 0 < n) :
    ∃ g cap, v = .slice (some ⟨g, 0, none⟩) n cap ∧ B ≤ g ∧ g < w.heap.size ∧ n ≤ maxLen ∧ ∀ (j : Nat) x, L[j]? = some x → AtT w g (0 + j * 4) x.1 x.2 := by
  rcases h.2 with ⟨rfl, h3⟩ | ⟨g, cap, cur, rfl, hg, hh, hn1, hm, hz, ht⟩
  · omega
  · refine ⟨g, cap, rfl, hg, lt_blk hh, by omega, fun j x hj => ?_⟩
    have hjl := (List.getElem?_eq_some_iff.1 hj).1
    have one : ∀ f, f < 4 → w.cell? ⟨g, 0 + j * 4 + f, none⟩ = (cells4 x)[f]? := by
      intro f hf
      have h4 := row4_get L j x hj f hf
      rw [← ht, List.getElem?_take, if_pos (by omega)] at h4
      rw [cell_of_row w g _ cur _ _ hh, ← h4, Nat.zero_add]
      simp
    exact ⟨one 0 (by decide), one 1 (by decide), one 2 (by decide), one 3 (by decide)⟩

theorem news_node2 (w : World) (o : Obj) (k : Int) (s : ByteArray) (gv kv : Value) : ∀ (j : Nat) u, ([.int .i64 k, .string s, gv, kv] : List Value)[j]? = some u → ((w.alloc o).alloc (.cells #[.int .i64 k, .string s, gv, kv] 25)).cell? ((⟨w.heap.size + 1, 0, none⟩ : Addr).add j) = some u := by
  have := World.news_of_block (w := (w.alloc o).alloc (.cells #[.int .i64 k, .string s, gv, kv] 25)) (cs := #[.int .i64 k, .string s, gv, kv]) (t := 25) (fr := (0, 0)) (heap_alloc_new (w.alloc o) _)
  simpa using this
theorem news_node (w : World) (k : Int) (s : ByteArray) (gv kv : Value) : ∀ (j : Nat) u, ([.int .i64 k, .string s, gv, kv] : List Value)[j]? = some u → (w.alloc (.cells #[.int .i64 k, .string s, gv, kv] 25)).cell? ((⟨w.heap.size, 0, none⟩ : Addr).add j) = some u :=
  World.news_of_block (cs := #[.int .i64 k, .string s, gv, kv]) (t := 25) (fr := (0, 0)) (heap_alloc_new w _)
theorem pre_len (t : Pl.Tr) : (Pl.pre t).length = Pl.sz t := by
  refine Pl.Tr.ind (M := fun t => (Pl.pre t).length = Pl.sz t) ?_ t
  intro k s g ks ih
  rw [Pl.pre, Pl.sz, List.length_cons]
  congr 1
  induction ks with
  | nil => rw [Pl.pres, Pl.szs]; rfl
  | cons a ks ih2 => rw [Pl.pres, Pl.szs, List.length_append, ih a (by simp), ih2 fun u hu => ih u (by simp [hu])]
theorem pres_len (ks : List Pl.Tr) : (Pl.pres ks).length = Pl.szs ks := by
  induction ks with
  | nil => rw [Pl.pres, Pl.szs]; rfl
  | cons a ks ih2 => rw [Pl.pres, Pl.szs, List.length_append, pre_len, ih2]
theorem pres_take (ks : List Pl.Tr) (j : Nat) (h : j < ks.length) : Pl.pres (ks.take (j + 1)) = Pl.pres (ks.take j) ++ Pl.pre ks[j] := by
  rw [List.take_succ_eq_append_getElem h]
  generalize ks.take j = l
  induction l with
  | nil => rw [List.nil_append, Pl.pres, Pl.pres, Pl.pres]; simp
  | cons a l ih => rw [List.cons_append, Pl.pres, Pl.pres, ih, List.append_assoc]
/-- What list answers: the list, and the trees behind what it held. -/
def ListP (B : Nat) (w0 : World) (t : Pl.Tr) (a0 : Option Addr) (n c0 : Nat) (L : List (Pl.Tr × Sl)) (w : World) (e : Ending) (w' : World) : Prop :=
  ∃ (a : Option Addr) (m c : Nat) (M : List (Pl.Tr × Sl)), e = .returned (.slice a m c) ∧ m = n + Pl.sz t ∧ M.map Prod.fst = Pl.pre t ∧ (∀ x ∈ M, IsT w0 x.1 x.2) ∧ w'.ownsRow B 25 4 (.slice a m c) m (row4 (L ++ M)) ∧ Below B w0 w' ∧ w.heap.size ≤ w'.heap.size ∧ (∀ x, x < w.heap.size → (Value.slice a0 n c0).ownBlock ≠ some x → w'.heap[x]? = w.heap[x]?) ∧ (∀ x, (Value.slice a m c).ownBlock = some x → (Value.slice a0 n c0).ownBlock = some x ∨ w.heap.size ≤ x)
set_option maxHeartbeats 1600000 in
theorem list_at (w0 : World) (t : Pl.Tr) : ∀ (r : Sl), IsT w0 t r → ∀ (w : World) (n c : Nat) (a : Option Addr) (L : List (Pl.Tr × Sl)), n = L.length → n + Pl.sz t ≤ 100000 → w0.heap.size ≤ w.heap.size → Below w0.heap.size w0 w → w.ownsRow w0.heap.size 25 4 (.slice a n c) n (row4 L) →
    Calls Tryz.prog 42 #[.slice a n c, nv t r] w (ListP w0.heap.size w0 t a n c L w) := by
  obtain ⟨i0, hi0, hz0, hz1, hz2⟩ := info_parts infoN
  refine Pl.Tr.ind (M := fun t => ∀ (r : Sl), IsT w0 t r → ∀ (w : World) (n c : Nat) (a : Option Addr) (L : List (Pl.Tr × Sl)), n = L.length → n + Pl.sz t ≤ 100000 → w0.heap.size ≤ w.heap.size → Below w0.heap.size w0 w → w.ownsRow w0.heap.size 25 4 (.slice a n c) n (row4 L) → Calls Tryz.prog 42 #[.slice a n c, nv t r] w (ListP w0.heap.size w0 t a n c L w)) ?_ t
  intro k s g ks ih r h w n c a L hn hsz hge hb0 hown
  obtain ⟨hs, hg, hl, R, hks, hr⟩ := h.parts
  rw [Pl.sz] at hsz
  have hlen := Pl.len_szs ks
  obtain ⟨q, hq⟩ : ∃ q, q = ks.length := ⟨_, rfl⟩
  have H := Lib.hid h
  have HN := Lib.hid hn
  have HQ := Lib.hid hq
  have HB0 := Lib.hid hb0
  have HOWN := Lib.hid hown
  have HK := Lib.hid hks
  have HR := Lib.hid hr
  have HI := Lib.hid ih
  have HSZ := Lib.hid hsz
  have hn2 : n ≤ 100000 := by omega
  have hq2 : q ≤ 100000 := by omega
  obtain ⟨ga, gc, da, dc⟩ := r
  simp only [Pl.Tr.kids, Pl.Tr.gaps, Pl.Tr.text, Pl.Tr.kind] at *
  show Calls Tryz.prog 42 #[.slice a n c, .agg #[.int .i64 k, .string s, .slice ga g.length gc, .slice da ks.length dc]] w _
  rw [← hq]
  have B0 : Hid (Below w0.heap.size w0 (w.alloc (.cells #[.int .i64 k, .string s, .slice ga g.length gc, .slice da q dc] 25))) := Lib.hid (hb0.trans ((box_below _ _).mono hge))
  obtain ⟨gl, hgl⟩ : ∃ gl, gl = g.length := ⟨_, rfl⟩
  rw [← hgl] at B0 ⊢
  have HGL := Lib.hid hgl
  clear hq hn hb0 hown hks hr ih hsz h hs hg hl hgl hlen
  go_enter Tryz.func42, Tryz.ntmps42
  go_wp2_with (at_builtin; refine wpList_append_lies _ rfl _ _ 23 rfl w0.heap.size 25 i0 _ 4 72 Tryz.underlying23 hi0 hz0 hz1 hz2 rfl (by decide) _ _ _ rfl ((World.ownsRow.alloc HOWN.out _).alloc _) ⟨w.heap.size + 1, 0, none⟩ 1 1 [.int .i64 k, .string s, .slice ga gl gc, .slice da q dc] rfl rfl (news_node2 _ _ _ _ _ _) (by simp [Value.oneCell']) (by decide) (by unfold maxLen; omega) (by omega) (by simp; omega) (w.heap.size + 1 + 1) (by simp) ?_)
  intro g2 cap2 w2 hown2 hg2 hat2 hlt2
  have hge2 := hg2.size
  simp at hge2
  have hob : ∀ k, (Value.slice a n c).ownBlock = some k → w0.heap.size ≤ k ∧ k < w.heap.size := fun k hk => HOWN.out.lt k hk
  have HOB := Lib.hid hob
  have B2 := Lib.hid ((B0.out.alloc (by simp; omega) _).grown hg2 (by simp; omega) (fun k hk => (hob k hk).1))
  have HC2 : Hid (w2.cell? ⟨w.heap.size, 3, none⟩ = some (.slice da q dc)) := Lib.hid ((World.cell?_of_block (a := ⟨w.heap.size, 3, none⟩) (hg2.block w.heap.size (by simp; omega) (fun e => by have := (hob _ e.symm).2; omega))).trans (by simp))
  have O2 : Hid (w2.ownsRow w0.heap.size 25 4 (.slice (some ⟨g2, 0, none⟩) (n + 1) cap2) (n + 1) (row4 (L ++ [(.node k s g ks, ⟨ga, gc, da, dc⟩)]))) := Lib.hid (by
    rw [row4_snoc]
    show w2.ownsRow w0.heap.size 25 4 _ (n + 1) (row4 L ++ [.int .i64 k, .string s, .slice ga g.length gc, .slice da ks.length dc])
    rw [← HGL.out, ← HQ.out]
    exact hown2)
  have K2 : Hid (∀ x, x < w.heap.size → (Value.slice a n c).ownBlock ≠ some x → w2.heap[x]? = w.heap[x]?) := Lib.hid (fun x hx hne => (hg2.block x (by simp; omega) (fun e => hne e.symm)).trans ((Below.heap_alloc _ _ _ (by simp; omega)).trans (Below.heap_alloc _ _ _ hx)))
  have A2 : Hid (∀ x, (Value.slice (some ⟨g2, 0, none⟩) (n + 1) cap2).ownBlock = some x → (Value.slice a n c).ownBlock = some x ∨ w.heap.size < x) := Lib.hid (fun x hx => by
    obtain rfl : g2 = x := by rw [show (Value.slice (some (⟨g2, 0, none⟩ : Addr)) (n + 1) cap2).ownBlock = some g2 from rfl] at hx; simpa using hx
    rcases hat2 with e | e
    · exact .inl e
    · exact .inr (by omega))
  clear hown2 hg2 hob HOWN B0 hat2
  go_wp2_with fail
  go_loopw [0, 5] (fun v i wr => ∃ (j m c2 : Nat) (a2 : Option Addr) (M : List (Pl.Tr × Sl)), j ≤ q ∧ i = .int .i64 j ∧ v = .slice a2 m c2 ∧ m = n + 1 + Pl.szs (ks.take j) ∧ M.map Prod.fst = .node k s g ks :: Pl.pres (ks.take j) ∧ (∀ x ∈ M, IsT w0 x.1 x.2) ∧ wr.ownsRow w0.heap.size 25 4 (.slice a2 m c2) m (row4 (L ++ M)) ∧ Below w0.heap.size w0 wr ∧ w.heap.size < wr.heap.size ∧ wr.cell? ⟨w.heap.size, 3, none⟩ = some (.slice da q dc) ∧ (∀ x, x < w.heap.size → (Value.slice a n c).ownBlock ≠ some x → wr.heap[x]? = w.heap[x]?) ∧ (∀ x, (Value.slice a2 m c2).ownBlock = some x → (Value.slice a n c).ownBlock = some x ∨ w.heap.size < x)) (fun _ i _ => q - (intOf i).toNat)
  case atStart => exact ⟨0, n + 1, cap2, _, [(.node k s g ks, ⟨ga, gc, da, dc⟩)], Nat.zero_le _, rfl, rfl, by rw [List.take_zero, Pl.szs], by rw [List.take_zero, Pl.pres]; rfl, (fun x hx => by obtain rfl := List.mem_singleton.1 hx; exact H.out), O2.out, B2.out, by omega, HC2.out, K2.out, A2.out⟩
  case round =>
    obtain ⟨j, m, c2, a2, M, hj, rfl, rfl, hm, hM, hall, hown, hbel, hgt, hcell, hkeep, hat⟩ := hrel
    have HKP := Lib.hid hkeep
    have HAT := Lib.hid hat
    have HB := Lib.hid hbel
    have HO := Lib.hid hown
    have HM := Lib.hid hM
    have HA := Lib.hid hall
    have HMN := Lib.hid hm
    have HC := Lib.hid hcell
    clear hM hall hown hm hkeep hat
    by_cases hlt : j < q
    · have hjk : j < ks.length := by rw [← HQ.out]; exact hlt
      have hu := List.getElem?_eq_getElem hjk
      have HT := Lib.hid (Pl.szs_take ks j hjk)
      have HP := Lib.hid (pres_take ks j hjk)
      have HL := Lib.hid (Pl.szs_take_le ks (j + 1))
      have HR1 := Lib.hid (HR.out j _ hu)
      have HI1 := Lib.hid (HI.out _ (List.getElem_mem hjk) (R j) HR1.out)
      rcases HK.out with h0 | ⟨b, o, rfl, hb, hat⟩
      · rw [h0] at hjk; simp at hjk
      have l1 := Lib.hid (At4.keep (hat j _ hu) (Same.below hbel fun _ h => h) hb).range
      generalize ks[j] = u at *
      generalize R j = r1 at *
      obtain ⟨ga1, gc1, da1, dc1⟩ := r1
      have hlen : m = (L ++ M).length := by
        have e1 := HN.out
        have e2 := HMN.out
        have e3 : M.length = 1 + Pl.szs (ks.take j) := by rw [← List.length_map (f := Prod.fst), HM.out, List.length_cons, pres_len]; omega
        rw [List.length_append]; omega
      have HLN := Lib.hid hlen
      have hsz1 : m + Pl.sz u ≤ 100000 := by
        have e1 := HMN.out
        have e2 := HT.out
        have e3 := HL.out
        have e4 := HSZ.out
        omega
      have HS1 := Lib.hid hsz1
      clear hat hu hbel hlen hsz1
      go_wp2_with (first
        | (refine wpList_load_mid rfl 25 _ rfl b (o + j * 4) rfl [.int .i64 u.kind, .string u.text, .slice ga1 u.gaps.length gc1, .slice da1 u.kids.length dc1] _ l1.out Tryz.underlying25 rfl sizeN ?_)
        | (go_at_call 42; refine (HI1.out wr m c2 a2 (L ++ M) HLN.out HS1.out (by have := HB.out.size; omega) HB.out HO.out).mono ?_; rintro e w3 ⟨a3, m3, c3, M3, rfl, hm3, hM3, hall3, hown3, hb3, hz3, hk3, ha3⟩; have HK3 := Lib.hid hk3; have HAT3 := Lib.hid ha3; have HM3 := Lib.hid hm3; have HMM := Lib.hid hM3; have HA3 := Lib.hid hall3; have HO3 := Lib.hid hown3; have HB3 := Lib.hid hb3; clear hm3 hM3 hall3 hown3 hb3 hk3 ha3))
      exact ⟨⟨j + 1, m3, c3, a3, M ++ M3, by omega, by go_num, rfl, by have := HM3.out; have := HMN.out; have := HT.out; omega, by rw [List.map_append, HM.out, HMM.out, HP.out]; rfl, (fun x hx => by
        rcases List.mem_append.1 hx with hx | hx
        · exact HA.out x hx
        · exact HA3.out x hx), by rw [← List.append_assoc]; exact HO3.out, HB3.out, by omega, (World.cell?_of_block (a := ⟨w.heap.size, 3, none⟩) (HK3.out w.heap.size hgt (fun e => by
          rcases HAT.out _ e with e | e
          · have := HOB.out _ e; omega
          · omega))).trans HC.out, (fun x hx hne => (HK3.out x (by omega) (fun e => by
          rcases HAT.out _ e with e | e
          · exact hne e
          · omega)).trans (HKP.out x hx hne)), (fun x hx => by
          rcases HAT3.out x hx with e | e
          · exact HAT.out x e
          · exact .inr (by omega))⟩, by simp [intOf]; omega⟩
    · obtain rfl : j = q := by omega
      have e1 : ks.take j = ks := by rw [HQ.out, List.take_length]
      have HE1 := Lib.hid e1
      clear hbel e1
      go_wp2_with fail
      go_ret
      refine ⟨a2, m, c2, M, rfl, ?_, ?_, HA.out, HO.out, HB.out, by omega, HKP.out, fun x hx => (HAT.out x hx).imp id (fun h => by omega)⟩
      · have e := HMN.out; rw [HE1.out] at e; rw [Pl.sz]; omega
      · rw [HM.out, HE1.out, Pl.pre]
end Go.Proofs.YtiaajpdcacdngaaGreatDoor.Aw

namespace Go.Proofs.YtiaajpdcacdngaaGreatDoor.Pl
open Go
set_option linter.unusedVariables false
set_option linter.unusedSimpArgs false
/-- So many own tokens have these nodes. -/
def msum (l : List Tr) : Nat := (l.map fun x => (rown x.kind x.text x.kids.length).length).sum
theorem msum_take (l : List Tr) (j : Nat) (h : j < l.length) : msum (l.take (j + 1)) = msum (l.take j) + (rown l[j].kind l[j].text l[j].kids.length).length := by
  unfold msum
  rw [List.take_succ_eq_append_getElem h, List.map_append, List.sum_append]
  show _ + ((rown l[j].kind l[j].text l[j].kids.length).length + 0) = _
  omega
theorem mem_pres {ks : List Tr} {x : Tr} (h : x ∈ pres ks) : ∃ u ∈ ks, x ∈ pre u := by
  induction ks with
  | nil => rw [pres] at h; cases h
  | cons a ks ih =>
    rw [pres] at h
    rcases List.mem_append.1 h with h | h
    · exact ⟨a, by simp, h⟩
    · obtain ⟨u, hu, hx⟩ := ih h
      exact ⟨u, by simp [hu], hx⟩
theorem msum_le (l : List Tr) (j : Nat) : msum (l.take j) ≤ msum l := by
  have e : msum l = msum (l.take j) + msum (l.drop j) := by
    conv => lhs; rw [← List.take_append_drop j l]
    unfold msum
    rw [List.map_append, List.sum_append]
  omega
theorem pre_own (t : Tr) : ∀ L f, firstE t = 0 → sz t ≤ 1000000 → ∀ x ∈ pre (lay t L f), own x.kind x.text x.kids.length = ((rown x.kind x.text x.kids.length).length : Nat) ∧ x.gaps.length = (rown x.kind x.text x.kids.length).length ∧ x.kids.length ≤ 1000000 := by
  refine Tr.ind (M := fun t => ∀ L f, firstE t = 0 → sz t ≤ 1000000 → ∀ x ∈ pre (lay t L f), own x.kind x.text x.kids.length = ((rown x.kind x.text x.kids.length).length : Nat) ∧ x.gaps.length = (rown x.kind x.text x.kids.length).length ∧ x.kids.length ≤ 1000000) ?_ t
  intro k s g ks ih L f h hz x hx
  obtain ⟨hn, hks⟩ := first_zero k s g ks h
  obtain ⟨h1, h2, h3⟩ := nodeE_zero k s g ks hn
  have har := shape_ar k s ks h1
  have hlen := len_szs ks
  rw [sz] at hz
  rw [lay_node, pre] at hx
  rcases List.mem_cons.1 hx with rfl | hx
  · simp only [Tr.kind, Tr.text, Tr.kids, Tr.gaps]
    rw [layF_len]
    refine ⟨own_len k s ks.length har (by omega), ?_, by omega⟩
    rw [← rown_eq k s ks.length L har, List.length_map, List.length_map, owns_len_fix]
  · obtain ⟨u, hu, hxu⟩ := mem_pres hx
    obtain ⟨j, hj⟩ := List.getElem?_of_mem hu
    rw [layF_get] at hj
    obtain ⟨v, hv, rfl⟩ := Option.map_eq_some_iff.1 hj
    have hm := List.mem_of_getElem? hv
    exact ih v hm _ _ (firsts_mem ks hks v hm) (by have := sz_mem hm; omega) x hxu
theorem words_lay (t : Tr) : words (layout t) = words t := by
  have e1 : words (bare (layout t)) = words (layout t) := words_bare (layout t) 0 _
  have e2 : words (bare t) = words t := words_bare t 0 _
  rw [← e1, ← e2]
  unfold layout
  rw [lay_bare]
theorem many_lay (t : Tr) (h : chk t = 0) (hz : sz t ≤ 1000000) : msum (pre (layout t)) = (words t).length := by
  rw [← words_lay t, words_len _ (chk_zero _ (layout_chk t h hz)).2.2.2]; rfl
end Go.Proofs.YtiaajpdcacdngaaGreatDoor.Pl
namespace Go.Proofs.YtiaajpdcacdngaaGreatDoor.Aw
open Go.RowKit
set_option linter.unusedVariables false
set_option linter.unusedSimpArgs false
set_option maxRecDepth 100000
/-- What List answers. -/
def ListR (t : Pl.Tr) (w : World) (e : Ending) (w' : World) : Prop :=
  ∃ (g o n c : Nat) (M : List (Pl.Tr × Sl)), e = .returned (.slice (some ⟨g, o, none⟩) n c) ∧ n = Pl.sz t ∧ M.map Prod.fst = Pl.pre t ∧ (∀ (j : Nat) x, M[j]? = some x → AtT w' g (o + j * 4) x.1 x.2) ∧ Below w.heap.size w w'
theorem list_any (t : Pl.Tr) (r : Sl) (w : World) (h : IsT w t r) (hz : Pl.sz t ≤ 90000) :
    Calls Tryz.prog 24 #[nv t r] w (ListR t w) := by
  have L0 := Lib.hid (fun (w1 : World) (hb : Below w.heap.size w w1) => list_at w t r h w1 0 0 none [] rfl (by omega) hb.size hb (World.ownsRow_nil _ _ _ _))
  have hz1 : 1 ≤ Pl.sz t := by cases t; rw [Pl.sz]; omega
  clear h
  generalize hN : Pl.sz t = N at *
  go_enter Tryz.func24, Tryz.ntmps24
  go_wp2_with (go_at_call 42; refine (L0.out _ (box_below _ _)).mono ?_; rintro e w3 ⟨a3, m3, c3, M3, rfl, hm3, hM3, hall3, hown3, hb3, hz3, -, -⟩)
  go_ret
  have e1 : m3 = M3.length := by rw [hm3, ← List.length_map (f := Prod.fst), hM3, pre_len]; omega
  obtain ⟨g, cap, he, -, -, -, hat⟩ := owns_at (L := M3) hown3 e1 (by rw [hm3, hN]; omega)
  injection he with e2 e3 e4
  exact ⟨g, 0, N, c3, M3, by rw [e2]; rfl, hN.symm, hM3, hat, hb3⟩
set_option maxHeartbeats 1600000 in
theorem numbers_bad (t : Pl.Tr) (r : Sl) (w : World) (hT : Tabs w) (h : IsT w t r) (hc : ¬ Pl.chk t = 0) :
    Calls Tryz.prog 8 #[nv t r] w fun e w' => e = .returned (.bool true) ∧ Below w.heap.size w w' := by
  obtain ⟨v, hv⟩ : ∃ v, v = Pl.chk t := ⟨_, rfl⟩
  rw [← hv] at hc
  obtain ⟨v1, v2⟩ := int_neq2 hc
  have L0 := Lib.hid (lo_new hT (nb t r))
  have N0 := Lib.hid (bx_new h)
  have CK := Lib.hid (fun hl V hV => rcheck_is t v hv.symm hl V r hV)
  clear hc hv hT h
  go_enter Tryz.func8, Tryz.ntmps8
  go_wp2_with (first
    | (go_at_call 10; refine (awake_any _ L2.out.tabs).mono ?_; rintro e w3 ⟨rfl, hb3⟩; have L3 := Lib.hid (L2.out.later hb3); clear hb3)
    | (go_at_call 10; refine (awake_any _ L1.out.tabs).mono ?_; rintro e w3 ⟨rfl, hb3⟩; have L3 := Lib.hid (L1.out.later hb3); clear hb3)
    | (go_at_call 21; refine (CK.out (HL.out (by trivial)) _ N1.out.tree).mono ?_; rintro e w2 ⟨rfl, hb2⟩; have L2 := Lib.hid (L1.out.later hb2); clear hb2)
    | (go_at_call 9; refine (Li.small_at t _ r N0.out.tree).mono ?_; rintro e w1 ⟨b, hl, rfl, hb1⟩; have L1 := Lib.hid (L0.out.later hb1); have N1 := Lib.hid (N0.out.later hb1); obtain ⟨c0, c1, c2, c3⟩ := (N0.out.later hb1).box; clear hb1; have HL := Lib.hid hl; clear hl; cases b))
  all_goals go_ret
  all_goals exact ⟨rfl, L3.out.low⟩
set_option maxHeartbeats 3200000 in
theorem numbers_ok (t : Pl.Tr) (r : Sl) (w : World) (hT : Tabs w) (h : IsT w t r) (hc : Pl.chk t = 0) :
    Calls Tryz.prog 8 #[nv t r] w fun e w' => e = .returned (.bool true) ∧ Below w.heap.size w w' := by
  have L0 := Lib.hid (lo_new hT (nb t r))
  have N0 := Lib.hid (bx_new h)
  have CK := Lib.hid (fun hl V hV => rcheck_is t 0 hc hl V r hV)
  have CL : Hid (Li.Lit t → ∀ V, Tabs V → IsT V t r → Calls Tryz.prog 18 #[nv t r] V (LayP (Pl.layout t) V)) := Lib.hid (fun hl V hV hI => layout_ok t V r hV hI hc (by have := hl.1; omega))
  obtain ⟨n, hn⟩ : ∃ n, n = (Pl.words t).length := ⟨_, rfl⟩
  have CW : Hid (Li.Lit t → ∀ V, Tabs V → IsT V t r → Calls Tryz.prog 11 #[nv t r] V fun e w' => ∃ a c, e = .returned (.tuple #[.slice a n c, .int .i64 0]) ∧ Below V.heap.size V w') := Lib.hid (fun hl V hV hI => (words_ok t V r n hV hI hc (by have := hl.1; omega) hn).mono fun e w' ⟨a, c, h1, h2, h3⟩ => ⟨a, c, h1, h3⟩)
  have hzl : ∀ hl : Li.Lit t, Pl.sz (Pl.layout t) ≤ 250 := fun hl => by unfold Pl.layout; rw [Pl.lay_sz]; exact hl.1
  have DL : Hid (Li.Lit t → ∀ V q, IsT V (Pl.layout t) q → Calls Tryz.prog 24 #[nv (Pl.layout t) q] V (ListR (Pl.layout t) V)) := Lib.hid (fun hl V q hI => list_any (Pl.layout t) q V hI (by have := hzl hl; omega))
  have HM : Hid (Li.Lit t → Pl.msum (Pl.pre (Pl.layout t)) = n) := Lib.hid (fun hl => by rw [hn]; exact Pl.many_lay t hc (by have := hl.1; omega))
  have HO : Hid (Li.Lit t → ∀ x ∈ Pl.pre (Pl.layout t), Pl.own x.kind x.text x.kids.length = ((Pl.rown x.kind x.text x.kids.length).length : Nat) ∧ x.gaps.length = (Pl.rown x.kind x.text x.kids.length).length ∧ x.kids.length ≤ 1000000) := Lib.hid (fun hl => Pl.pre_own t 0 _ (Pl.chk_zero t hc).2.2.2 (by have := hl.1; omega))
  have HBN : Hid (Li.Lit t → n ≤ 2000) := Lib.hid (fun hl => by
    have e1 := Pl.words_len t (Pl.chk_zero t hc).2.2.2
    have e2 := Pl.many_le t (Pl.chk_zero t hc).2.2.2
    have := hl.1
    omega)
  have HZ : Hid (Li.Lit t → Pl.sz (Pl.layout t) ≤ 250) := Lib.hid hzl
  clear hzl hn hc hT h
  generalize Pl.layout t = T at *
  go_enter Tryz.func8, Tryz.ntmps8
  go_upto_region 3 with (first
    | (go_at_call 21; refine (CK.out HL.out _ N1.out.tree).mono ?_; rintro e w2 ⟨rfl, hb2⟩; have L2 := Lib.hid (L1.out.later hb2); have N2 := Lib.hid (N1.out.later hb2); clear hb2)
    | (go_at_call 9; refine (Li.small_at t _ r N0.out.tree).mono ?_; rintro e w1 ⟨b, hl, rfl, hb1⟩; have L1 := Lib.hid (L0.out.later hb1); have N1 := Lib.hid (N0.out.later hb1); obtain ⟨c0, c1, c2, c3⟩ := (N0.out.later hb1).box; clear hb1; rcases b with _ | _;
        (focus (clear hl; go_wp2_with (go_at_call 10; refine (awake_any _ L1.out.tabs).mono ?_; rintro e w3 ⟨rfl, hb3⟩; have L3 := Lib.hid (L1.out.later hb3); clear hb3); go_ret; exact ⟨rfl, L3.out.low⟩));
        have HL := Lib.hid (hl rfl); clear hl))
  clear c0 c1 c2 c3 L0 N0 L1 N1
  obtain ⟨c0, c1, c2, c3⟩ := N2.out.box
  go_upto_region 4 with (go_at_call 18; refine (CL.out HL.out _ L2.out.tabs N2.out.tree).mono ?_; rintro e w3 ⟨⟨ga, gc, da, dc⟩, rfl, ht3, hb3⟩; have L3 := Lib.hid ((L2.out.later hb3).later (box_below _ (nb T ⟨ga, gc, da, dc⟩))); have N3 := Lib.hid ((N2.out.later hb3).later (box_below _ (nb T ⟨ga, gc, da, dc⟩))); have A3 := Lib.hid (bx_new ht3); clear hb3 ht3)
  clear c0 c1 c2 c3 L2 N2
  obtain ⟨W3, hW3⟩ : ∃ W, W = w3.alloc (.cells #[.int .i64 T.kind, .string T.text, .slice ga T.gaps.length gc, .slice da T.kids.length dc] 25) := ⟨_, rfl⟩
  rw [← hW3]
  have L4 : Hid (Lo w W3) := by rw [hW3]; exact L3
  have N4 : Hid (Bx w.heap.size t r W3) := by rw [hW3]; exact N3
  have A4 : Hid (Bx w3.heap.size T ⟨ga, gc, da, dc⟩ W3) := by rw [hW3]; exact A3
  generalize w3.heap.size = ba at *
  clear L3 N3 A3 hW3
  obtain ⟨c0, c1, c2, c3⟩ := N4.out.box
  go_upto_region 5 with (go_at_call 11; refine (CW.out HL.out _ L4.out.tabs N4.out.tree).mono ?_; rintro e w5 ⟨la, lc, rfl, hb5⟩; have L5 := Lib.hid (L4.out.later hb5); have A5 := Lib.hid (A4.out.later hb5); clear hb5)
  clear c0 c1 c2 c3 L4 N4 A4
  obtain ⟨d0, d1, d2, d3⟩ := A5.out.box
  go_upto_region 6 with (go_at_call 24; refine (DL.out HL.out _ ⟨ga, gc, da, dc⟩ A5.out.tree).mono ?_; rintro e w6 ⟨g6, o6, m, c6, M, rfl, hm, hM, hat, hb6⟩; have L6 := Lib.hid (L5.out.later hb6); have HMM := Lib.hid hM; have HAT := Lib.hid hat; have HMS := Lib.hid hm; clear hb6 hM hat hm)
  clear d0 d1 d2 d3 L5 A5
  have hmz : m ≤ 250 := by rw [HMS.out]; exact HZ.out HL.out
  go_wp2_with fail
  go_loopw [8, 9] (fun v i wr => ∃ j : Nat, j ≤ m ∧ i = .int .i64 j ∧ v = .int .i64 (Pl.msum ((Pl.pre T).take j) : Nat) ∧ Below w6.heap.size w6 wr) (fun _ i _ => m - (intOf i).toNat)
  case atStart => exact ⟨0, Nat.zero_le _, rfl, rfl, Below.refl _ _⟩
  case round =>
    obtain ⟨j, hj, rfl, rfl, hbel⟩ := hrel
    have HB := Lib.hid hbel
    have LR := Lib.hid (L6.out.later hbel)
    have hn2 := HBN.out HL.out
    have hms : Pl.msum ((Pl.pre T).take j) ≤ n := by rw [← HM.out HL.out]; exact Pl.msum_le _ _
    by_cases hlt : j < m
    · have hjp : j < (Pl.pre T).length := by rw [pre_len, ← HMS.out]; exact hlt
      have hjm : j < M.length := by rw [← List.length_map (f := Prod.fst), HMM.out]; exact hjp
      have hms2 : Pl.msum ((Pl.pre T).take (j + 1)) ≤ n := by rw [← HM.out HL.out]; exact Pl.msum_le _ _
      have hme : (M[j]).1 = (Pl.pre T)[j] := by
        have e1 : (M.map Prod.fst)[j]? = some (M[j]).1 := by rw [List.getElem?_map, List.getElem?_eq_getElem hjm]; rfl
        rw [HMM.out, List.getElem?_eq_getElem hjp] at e1
        injection e1 with e1
        exact e1.symm
      have HST := Lib.hid (Pl.msum_take (Pl.pre T) j hjp)
      obtain ⟨x1, x2, x3⟩ := HO.out HL.out _ (List.getElem_mem hjp)
      have hat := HAT.out j _ (List.getElem?_eq_getElem hjm)
      unfold AtT at hat
      rw [hme] at hat
      generalize (Pl.pre T)[j] = x at *
      generalize (M[j]).2 = rx at *
      obtain ⟨ga1, gc1, da1, dc1⟩ := rx
      rw [x2] at hat
      generalize (Pl.rown x.kind x.text x.kids.length).length = o at *
      have l1 := Lib.hid (at4_below hat hbel).range
      have A1 := Lib.hid (at4_below hat hbel)
      have CO := Lib.hid (fun (V : World) => rown_is x.kind x.text (o : Nat) o x.kids.length gc1 dc1 ga1 da1 V x1 (by unfold maxLen; omega))
      have ho : o ≤ 2000 := by have := HST.out; omega
      clear hat hbel x1 x2 hme
      go_wp2_with (first
        | (refine wpList_load_mid rfl 25 _ rfl g6 (o6 + j * 4) rfl [.int .i64 x.kind, .string x.text, .slice ga1 o gc1, .slice da1 x.kids.length dc1] _ l1.out Tryz.underlying25 rfl sizeN ?_)
        | (go_at_call 25; refine (CO.out wr).mono ?_; rintro e w8 ⟨rfl, hb8⟩; have B8 := Lib.hid (HB.out.trans (hb8.mono HB.out.size)); obtain ⟨y0, y1, y2, y3⟩ := at4_below A1.out hb8; clear hb8))
      exact ⟨⟨j + 1, by omega, by go_num, by rw [HST.out]; go_num, B8.out⟩, by simp [intOf]; omega⟩
    · obtain rfl : j = m := by omega
      have e1 : Pl.msum ((Pl.pre T).take j) = n := by rw [List.take_of_length_le (by rw [pre_len, ← HMS.out]; exact Nat.le_refl _)]; exact HM.out HL.out
      rw [e1]
      clear hbel e1
      go_wp2_with (go_at_call 10; refine (awake_any _ LR.out.tabs).mono ?_; rintro e w9 ⟨rfl, hb9⟩; have L9 := Lib.hid (LR.out.later hb9); clear hb9)
      go_ret
      exact ⟨rfl, L9.out.low⟩
theorem numbers_any (t : Pl.Tr) (r : Sl) (w : World) (hT : Tabs w) (h : IsT w t r) :
    Calls Tryz.prog 8 #[nv t r] w fun e w' => e = .returned (.bool true) ∧ Below w.heap.size w w' := by
  by_cases hc : Pl.chk t = 0
  · exact numbers_ok t r w hT h hc
  · exact numbers_bad t r w hT h hc
end Go.Proofs.YtiaajpdcacdngaaGreatDoor.Aw

namespace Go.Proofs.YtiaajpdcacdngaaGreatDoor
open Go.RowKit
set_option linter.unusedVariables false
theorem lawNumbers (t : Pl.Tr) (r : Sl) (w : World) (hT : Tabs w) (h : IsT w t r) :
    Calls Tryz.prog 8 #[.agg #[.int .i64 t.kind, .string t.text, .slice r.ga t.gaps.length r.gc, .slice r.da t.kids.length r.dc]] w fun e w' => e = .returned (.bool true) ∧ Below w.heap.size w w' := Aw.numbers_any t r w hT h
end Go.Proofs.YtiaajpdcacdngaaGreatDoor
