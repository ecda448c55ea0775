/- The walk of visitBlock. -/
import Derived.Test.YtoelfiendfemaaaPFrmJ
import Derived.Laws.EntriesVeiled
namespace Go.Proofs.Ytoelfiendfemaaa
open Go.RowKit Go.Deep
set_option linter.unusedVariables false
set_option linter.unusedSimpArgs false
set_option maxRecDepth 100000

/-- What is never written: what lay below the base, but one box. -/
abbrev PB (w0 : World) (Bl : Nat → Prop) : Nat → Prop := fun b => b < w0.heap.size ∧ ¬ Bl b
theorem skd_wkd {B0 : Nat} {Bl : Nat → Prop} {B : Nat} {b : Nat} {o : Obj} (h : WKD B0 Bl B b o) : SKD B0 Bl b o := h.1
theorem Kept.sw {B0 : Nat} {Bl : Nat → Prop} {B : Nat} {w w' : World} (h : Kept (SKD B0 Bl) w w') : Kept (WKD B0 Bl B) w w' := h.mono fun _ _ _ h => h.1
theorem Kept.fw {B0 : Nat} {Bl : Nat → Prop} {B : Nat} {w w' : World} (h : Kept (FD B) w w') : Kept (WKD B0 Bl B) w w' := h.mono fun _ _ _ h => h.2
theorem Kept.ws {B0 : Nat} {Bl : Nat → Prop} {B : Nat} {w w' : World} (h : Kept (WKD B0 Bl B) w w') (hB : w.heap.size ≤ B) : Kept (SKD B0 Bl) w w' := h.mono fun b o ho h => ⟨h, .inl (Nat.lt_of_lt_of_le (lt_blk ho) hB)⟩
theorem Kept.fo {B0 B : Nat} {w w' : World} (h : Kept (FD B) w w') (hB : B0 ≤ B) : Kept (WOD B0) w w' := h.mono fun b o _ h => h.imp (fun h => Nat.lt_of_lt_of_le h hB) id
theorem On.w {w0 w w' : World} {Bl : Nat → Prop} {B : Nat} (h : On w0 (PB w0 Bl) w) (hB : w0.heap.size ≤ B) (k : Kept (WKD w0.heap.size Bl B) w w') : On w0 (PB w0 Bl) w' := h.kept (fun _ h => h.1) k fun b o hb => ⟨.inl hb, .inl (Nat.lt_of_lt_of_le hb.1 hB)⟩
/-- What a step does. -/
def StepOk (w0 : World) (Bl : Nat → Prop) (l : List Pl.Rw) (sn : Nat) (caps : Array Value) (J : Nat → World → Prop) : Prop :=
  ∀ (i : Nat), i < l.length → ∀ (w : World), On w0 (PB w0 Bl) w → J i w → ∀ (bx : Nat),
    (∀ w', Kept (SKD w0.heap.size Bl) w w' → ∀ s : ByteArray, s.size ≤ maxLen → Calls Try.prog 89 #[.string s, .pointer (some ⟨bx, 0, none⟩)] w' fun e w2 => e = .returned (ansV (Pl.var l i s)) ∧ w2 = w') →
    Calls Try.prog sn (#[.int .i64 i, .func (.func 89) #[] #[.pointer (some ⟨bx, 0, none⟩)]] ++ caps) w fun e w' => e = .returned (.tuple #[]) ∧ J (i + 1) w' ∧ Kept (SKD w0.heap.size Bl) w w'
def VP (w0 : World) (Bl : Nat → Prop) (J : Nat → World → Prop) (B fb m1 m2 : Nat) (P : ByteArray → Option Int) (L : ByteArray → List Int) (ib : Bool) (N : Nat) (i' : Nat) (w : World) (e : Ending) (w' : World) : Prop :=
  e = .returned (.tuple #[]) ∧ J i' w' ∧ FrIs w' B fb m1 m2 P L ib N ∧ Kept (WKD w0.heap.size Bl B) w w'
/-- The contract of a visit of a tree. -/
def VC (w0 : World) (Bl : Nat → Prop) (rb ro n rc : Nat) (l : List Pl.Rw) (sn : Nat) (caps : Array Value) (J : Nat → World → Prop) (t : Pl.Tr) : Prop :=
  ∀ (i : Nat) (q : Int), Sits l t i q → ∀ (B fb m1 m2 : Nat) (P : ByteArray → Option Int) (L : ByteArray → List Int) (ib : Bool) (N : Nat), w0.heap.size ≤ B → N + 2 * Pl.szs t.kids ≤ 10000000 → ∀ w : World, On w0 (PB w0 Bl) w → J i w → FrIs w B fb m1 m2 P L ib N → Fits l i P L ib →
    Calls Try.prog 57 #[wkV rb ro n rc (.func (.func sn) #[] caps), .int .i64 i, .pointer (some ⟨fb, 0, none⟩)] w (VP w0 Bl J B fb m1 m2 P L ib (N + 2 * Pl.szs t.kids) (i + Pl.sz t) w)
theorem own_ne {w : World} {B n : Nat} {v : Value} {xs : List Value} (h : w.ownsRow B 3 1 v n xs) {b : Nat} {c : Array Value} {T : TypeId} {f : Nat × Nat} (hb : w.heap[b]? = some (.cells c T f)) (hT : T ≠ 3) : some b ≠ v.ownBlock := fun e => by
  obtain ⟨cur, ho, _⟩ := own_obj h e.symm
  rw [hb] at ho
  cases ho
  exact hT rfl
/-- append of one number, at a step of a region that draws its order. -/
theorem step_append_at {ops : Array Oper} {o : Oper} {ac : Act} {K : Act → World → Prop} {Q : Exit → Act → World → Prop} {E : Prop} {w : World} (hgd : o.guard = none) (s x : Operand)
    (ho : o.op = .call { callee := .builtin .append, args := #[s, x], argTypes := #[45, 45] })
    (B : Nat) (hB : B ≤ w.heap.size) (v : Value) (n : Nat) (xs : List Value) (hs : ac.eval s = v) (hown : w.ownsRow B 3 1 v n xs) (xb : Nat) (d : Int) (hx : ac.eval x = .slice (some ⟨xb, 0, none⟩) 1 1) (hc : w.cell? ⟨xb, 0, none⟩ = some (.int .i64 d)) (hbig : n ≤ 100000000)
    (hK : ∀ a c w', w'.ownsRow B 3 1 (.slice a (n + 1) c) (n + 1) (xs ++ [.int .i64 d]) → w.grownBy w' v.ownBlock → ((Value.slice a (n + 1) c).ownBlock = v.ownBlock ∨ (Value.slice a (n + 1) c).ownBlock = some w.heap.size) → K (ac.put o.dst (.slice a (n + 1) c)) w') :
    if Region.wanted o (yielded ops ac.tmps) = true then Oper.wp Try.prog o ac w K Q else E := by
  have hw : Region.wanted o (yielded ops ac.tmps) = true := by simp [Region.wanted, hgd]
  rw [if_pos hw]
  obtain ⟨i, hi, hz, hsz, hb⟩ := info_parts infoI
  obtain ⟨v', w', hr, h2, h3, _, h5⟩ := run_append_own_at (P := Try.prog) w B 45 o.type 3 i _ 1 8 Try.underlying45 hi hz hsz hb rfl (by decide) v n xs hown ⟨xb, 0, none⟩ 1 1 [.int .i64 d] rfl (fun j u hj => by
    match j, hj with
    | 0, hj => simp at hj; subst hj; simpa [Addr.add] using hc) (fun u hu => by simp at hu; subst hu; rfl) (by unfold maxLen; omega) (by omega) hB
  have hsl : ∃ a c, v' = .slice a (n + 1) c := by
    rcases h2.2 with ⟨rfl, h0⟩ | ⟨g, cap, cur, rfl, _⟩
    · omega
    · exact ⟨_, _, rfl⟩
  obtain ⟨a, c, rfl⟩ := hsl
  unfold Oper.wp execOp
  simp only [ho, resolve, invoke, builtin, Sem.run_bind, Sem.run_pure, Result.andThen_ok, List.map_toArray, List.map_cons, List.map_nil, hs, hx, hr]
  exact hK a c w' h2 h3 h5
theorem row_not {c : Array Value} {f : Nat × Nat} : ¬ FrObj (.cells c 47 f) := fun h => by
  rcases h with h | h <;> exact absurd h (by decide)
theorem row_step {c : Array Value} {f : Nat × Nat} : ¬ StepObj (.cells c 47 f) := fun h => by
  rcases h with h | h | h | h <;> exact absurd h (by decide)
theorem walker_step {c : Array Value} {f : Nat × Nat} : ¬ StepObj (.cells c 93 f) := fun h => by
  rcases h with h | h | h | h <;> exact absurd h (by decide)
/-- A block that a call has made is kept. -/
theorem Kept.own {B0 : Nat} {Bl : Nat → Prop} {B : Nat} {w w' : World} (h : Kept (WKD B0 Bl B) w w') {b : Nat} {o : Obj} (ho : w.heap[b]? = some o) (hb : B0 ≤ b) (h1 : ¬ StepObj o) (h2 : ¬ FrObj o) : w'.heap[b]? = some o := h.keep b o ho ⟨.inr ⟨hb, h1⟩, .inr h2⟩
set_option maxHeartbeats 6400000 in
theorem visitBlock_any {w0 : World} {Bl : Nat → Prop} {rb ro n : Nat} {l : List Pl.Rw} {R : Nat → Sl} (HBs : Base w0 (PB w0 Bl) rb ro n l R) (rc sn : Nat) (caps : Array Value) (J : Nat → World → Prop)
    (hJ : ∀ i w w', J i w → Kept (WOD w0.heap.size) w w' → J i w') {t : Pl.Tr} (IH : ∀ u ∈ t.kids, VC w0 Bl rb ro n rc l sn caps J u) {i : Nat} {q : Int} (hsit : Sits l t i q) (h6 : t.kind = 6)
    {B fb m1 m2 : Nat} {P : ByteArray → Option Int} {L : ByteArray → List Int} {ib : Bool} {N : Nat} (hB0 : w0.heap.size ≤ B) (hN : N + 2 * Pl.szs t.kids ≤ 10000000) {w : World} (hon : On w0 (PB w0 Bl) w) (hJi : J (i + 1) w) (h : FrIs w B fb m1 m2 P L ib N) (hfit : Fits l i P L ib) :
    Calls Try.prog 73 #[wkV rb ro n rc (.func (.func sn) #[] caps), .int .i64 i, .pointer (some ⟨fb, 0, none⟩)] w (VP w0 Bl J B fb m1 m2 P L ib (N + 2 * Pl.szs t.kids) (i + Pl.sz t) w) := by
  obtain ⟨W, hW⟩ : ∃ W, W = w.alloc (.cells #[.slice (some ⟨rb, ro, none⟩) n rc, .func (.func sn) #[] caps] 93) := ⟨_, rfl⟩
  have hb : Below w.heap.size w W := by rw [hW]; exact below_1 _ _
  have v0 : W.heap[w.heap.size]? = some (.cells #[.slice (some ⟨rb, ro, none⟩) n rc, .func (.func sn) #[] caps] 93 (0, 0)) := by rw [hW]; exact heap_alloc_new _ _
  have hF := h.later hb
  have hOn := hon.later HBs.hP hb
  have hT2 := HBs.hT _ hOn.1 hOn.2
  have hJW : J (kp t i 0) W := by
    have : kp t i 0 = i + 1 := by unfold kp; rw [List.take_zero, Pl.szs]
    rw [this]
    exact hJ _ _ _ hJi (Kept.below hb)
  have HWw := Lib.hid hW
  have HB := Lib.hid hb
  have HF0 := Lib.hid hF
  have HV0 := Lib.hid v0
  have HO0 := Lib.hid hOn
  have HBase := Lib.hid HBs
  have HJ := Lib.hid hJ
  have HIH := Lib.hid IH
  have HSit := Lib.hid hsit
  have HFit := Lib.hid hfit
  have HJ0 := Lib.hid hJW
  have hw0w : w0.heap.size ≤ w.heap.size := hon.2
  have hwb : w.heap.size < W.heap.size := lt_blk v0
  have w0' := (blk_one v0 0 _ rfl).1
  have hn2 := HBs.hn2
  have hil := hsit.row.1
  have hszp := Pl.sz_pos t
  have HPR : Hid (∀ c ∈ (Pl.rw l i).kids, (Pl.rw l c).parent = i) := Lib.hid (fun c hc => hsit.kidMem hc)
  have HFo : Hid (∀ s e, e ∈ L s → (Pl.rw l e).parent < (i : Int)) := Lib.hid (fun s e he => (hfit.2 s e he).2.2)
  have hin : i < n := by rw [HBs.hn]; omega
  have hr0 := hT2.row' (i := i) (by omega)
  have k4 := hr0 4 _ rfl
  obtain ⟨qk, hq⟩ : ∃ q, q = t.kids.length := ⟨_, rfl⟩
  rw [hsit.kids.2.2.2, ← hq] at k4
  have hqk : qk ≤ 1000000 := by rw [hq, ← hsit.kids.2.2.2]; exact (HBs.kids hin).1
  have HQ := Lib.hid hq
  have hszt : Pl.sz t = Pl.szs t.kids + 1 := by cases t; rw [Pl.sz]; rfl
  have HSz := Lib.hid hszt
  have hqsz : qk ≤ Pl.szs t.kids := by rw [hq]; exact Pl.len_szs _
  obtain ⟨da, hdaE⟩ : ∃ da, da = (R i).da := ⟨_, rfl⟩
  rw [← hdaE] at k4
  have HDa := Lib.hid hdaE
  have ha0 : (0 : Int) ≤ (i : Int) := Int.natCast_nonneg _
  have ha1 : (i : Int) < (n : Int) := by omega
  have HH6 := Lib.hid h6
  clear hW hb hF hT2 hr0 hq h hon v0 hOn HBs hJ IH hsit hfit hJi hJW hdaE hil hszp hszt h6
  go_enter Try.func73, Try.ntmps73
  go_upto_region 1 with fail
  rw [← HWw.out]
  go_wp2_with fail
  go_loopw [19] (fun c wr => ∃ (j Nj : Nat), j ≤ qk ∧ c = .int .i64 j ∧ Nj + j = N + 2 * Pl.szs (t.kids.take j) ∧ FrIs wr B fb m1 m2 P (pushL l L ((Pl.rw l i).kids.take j)) ib Nj ∧ J (kp t i j) wr ∧ Kept (WKD w0.heap.size Bl B) W wr) (fun c _ => qk - (intOf c).toNat)
  case atStart => exact ⟨0, N, Nat.zero_le _, rfl, by simp [Pl.szs], by rw [List.take_zero, pushL_nil]; exact HF0.out, HJ0.out, Kept.refl _ _⟩
  case round =>
    obtain ⟨j, Nj, hj, rfl, hNj, hfr, hJr, hkp⟩ := hrel
    have HFr := Lib.hid hfr
    have HKp := Lib.hid hkp
    have HJr := Lib.hid hJr
    have HNj := Lib.hid hNj
    have hzr := hkp.size
    have hwk : wr.heap[w.heap.size]? = some (.cells #[.slice (some ⟨rb, ro, none⟩) n rc, .func (.func sn) #[] caps] 93 (0, 0)) := hkp.own HV0.out hw0w walker_step walker_not
    have w1' := (blk_one hwk 0 _ rfl).1
    have w2' := (blk_one hwk 1 _ rfl).1
    have hOr := HO0.out.w hB0 hkp
    have hT := HBase.out.hT _ hOr.1 hOr.2
    by_cases hlt : j < qk
    · have hjt : j < t.kids.length := by rw [← HQ.out]; exact hlt
      obtain ⟨hd, hpar, hkl, hik⟩ := HSit.out.kidAt j hjt
      have hst := Pl.szs_take t.kids j hjt
      have hle := Pl.szs_take_le t.kids (j + 1)
      have hku : Pl.sz t.kids[j] = Pl.szs t.kids[j].kids + 1 := by cases t.kids[j]; rw [Pl.sz]; rfl
      have HVis := Lib.hid (HIH.out _ (List.getElem_mem hjt) (kp t i j) i (HSit.out.kid j hjt) B fb m1 m2 P _ ib Nj hB0 (by omega) wr hOr hJr hfr (fits_block HBase.out.hok HSit.out HH6.out HFit.out j hjt))
      have HKP1 : Hid (kp t i j + Pl.sz t.kids[j] = kp t i (j + 1)) := Lib.hid (by unfold kp; rw [hst]; omega)
      rw [HKP1.out] at HVis
      have hN1 : Nj + 2 * Pl.szs t.kids[j].kids + (j + 1) + 1 = N + 2 * Pl.szs (t.kids.take (j + 1)) := by omega
      generalize Pl.szs t.kids[j].kids = su at *
      have hNb : Nj + 2 * su ≤ 10000000 := by omega
      obtain ⟨k, hk⟩ : ∃ k, k = kp t i j := ⟨_, rfl⟩
      rw [← hk] at hd hpar hkl hik HVis
      obtain ⟨kb, ko, hda, hkb, hkc⟩ := hT.kids (i := i) (by rw [← HBase.out.hn]; exact hin) hd
      obtain rfl : da = some ⟨kb, ko, none⟩ := HDa.out.trans hda
      have hkn : k < n := by rw [HBase.out.hn]; exact hkl
      have hk0 : (0 : Int) ≤ (k : Int) := Int.natCast_nonneg _
      have hk3 : (k : Int) < (n : Int) := by omega
      have hj0 : (0 : Int) ≤ (j : Int) := Int.natCast_nonneg _
      have hj1 : (j : Int) < (qk : Int) := by omega
      have HDj : Hid ((Pl.rw l i).kids.take (j + 1) = (Pl.rw l i).kids.take j ++ [(k : Int)]) := Lib.hid (by rw [List.take_add_one, hd]; rfl)
      have hsz := HBase.out.htx k
      have HPk := Lib.hid hpar
      clear hfr hkp hJr hOr hT hda hd hwk hku hst hle HKP1 hk hpar
      go_upto_region 5 with (go_at_call 57; refine HVis.out.mono ?_; rintro e w2 ⟨rfl, hJ2, hF2, hK2⟩; have HJ2 := Lib.hid hJ2; have HF2 := Lib.hid hF2; have HK2 := Lib.hid hK2; clear hJ2 hF2 hK2)
      have HKW := Lib.hid (HKp.out.trans HK2.out)
      have hO2 := HO0.out.w hB0 HKW.out
      have hT2 := HBase.out.hT _ hO2.1 hO2.2
      have HRk := Lib.hid (hT2.row' (i := k) (by rw [← HBase.out.hn]; exact hkn))
      have hwk2 := HKW.out.own HV0.out hw0w walker_step walker_not
      have hz2 := HKW.out.size
      have w3' := (blk_one hwk2 0 _ rfl).1
      have w4' := (blk_one hwk2 1 _ rfl).1
      have hwb2 := lt_blk hwk2
      obtain ⟨X, hX⟩ : ∃ X, X = w2.alloc (.cells #[.int .i64 (Pl.rw l k).parent, .int .i64 (Pl.rw l k).kind, .string (Pl.rw l k).text, .slice (R k).ga (Pl.rw l k).gaps.length (R k).gc, .slice (R k).da (Pl.rw l k).kids.length (R k).dc] 47) := ⟨_, rfl⟩
      have hbX : Below w2.heap.size w2 X := by rw [hX]; exact below_1 _ _
      have x0 : X.heap[w2.heap.size]? = some (.cells #[.int .i64 (Pl.rw l k).parent, .int .i64 (Pl.rw l k).kind, .string (Pl.rw l k).text, .slice (R k).ga (Pl.rw l k).gaps.length (R k).gc, .slice (R k).da (Pl.rw l k).kids.length (R k).dc] 47 (0, 0)) := by rw [hX]; exact heap_alloc_new _ _
      have hXw := (hbX.block _ hwb2).trans hwk2
      have x1' := (blk_one hXw 0 _ rfl).1
      have x2' := (blk_one hXw 1 _ rfl).1
      have HX0 := Lib.hid x0
      have HFX := Lib.hid (HF2.out.later hbX)
      have HJX := Lib.hid (HJ.out _ _ _ HJ2.out (Kept.below hbX))
      have HXw := Lib.hid hX
      have HKX : Hid (Kept (WKD w0.heap.size Bl B) W X) := Lib.hid (HKW.out.trans (Kept.below hbX))
      have HOX := Lib.hid (HO0.out.w hB0 HKX.out)
      obtain ⟨⟨p0, p1, p2, p3, p4⟩, pl⟩ := blk_five x0
      clear hO2 hT2 hwk2 hX hbX x0 hXw
      go_upto_region 6 with (refine wpList_load_mid rfl 47 _ rfl rb (ro + k * 5) rfl [.int .i64 (Pl.rw l k).parent, .int .i64 (Pl.rw l k).kind, .string (Pl.rw l k).text, .slice (R k).ga (Pl.rw l k).gaps.length (R k).gc, .slice (R k).da (Pl.rw l k).kids.length (R k).dc] _ HRk.out Try.underlying47 rfl sizeR ?_)
      rw [← HXw.out]
      by_cases h10 : (Pl.rw l k).kind = 10
      · have HDI := Lib.hid (declaredIn_any HFX.out (by omega) hsz rb ro n rc l R sn caps (HBase.out.hT _ HOX.out.1 HOX.out.2) HBase.out.hn hn2 (fun e he => by
          unfold pushL at he
          cases hf : ((Pl.rw l i).kids.take j).find? (isLet l (Pl.rw l k).text) with
          | none => rw [hf] at he; exact ⟨(HFit.out.2 _ e he).1, (HFit.out.2 _ e he).2.1⟩
          | some c =>
            rw [hf] at he
            simp only [List.mem_append, List.mem_singleton] at he
            rcases he with he | rfl
            · exact ⟨(HFit.out.2 _ e he).1, (HFit.out.2 _ e he).2.1⟩
            · obtain ⟨z, rfl, _, hz⟩ := (HBase.out.kids hin).2 e (List.mem_of_mem_take (List.mem_of_find?_eq_some hf))
              exact ⟨by omega, by have := HBase.out.hn; omega⟩) (i : Int))
        rw [last_push HFo.out (fun c hc => HPR.out c (List.mem_of_mem_take hc))] at HDI
        cases hf : ((Pl.rw l i).kids.take j).find? (isLet l (Pl.rw l k).text) with
        | some c =>
          have HE : Hid (pushL l L ((Pl.rw l i).kids.take (j + 1)) = pushL l L ((Pl.rw l i).kids.take j)) := Lib.hid (by rw [HDj.out, pushL_snoc, if_neg (fun h => by rw [hf] at h; cases h.2)])
          rw [hf] at HDI
          simp only [Option.isSome_some] at HDI
          rw [h10] at p1
          clear hf h10
          go_wp2_with (go_at_call 91; refine HDI.out.mono ?_; rintro e w5 ⟨rfl, hb5⟩; have HB5 := Lib.hid hb5; clear hb5)
          exact ⟨⟨j + 1, Nj + 2 * su + 1, by omega, by go_num, by omega, by rw [HE.out]; exact (HFX.out.later HB5.out).mono (by omega), HJ.out _ _ _ HJX.out (Kept.below HB5.out), HKX.out.trans (Kept.below HB5.out)⟩, by simp [intOf]; omega⟩
        | none =>
          have HE : Hid (pushL l L ((Pl.rw l i).kids.take (j + 1)) = updL (pushL l L ((Pl.rw l i).kids.take j)) (Pl.rw l k).text (pushL l L ((Pl.rw l i).kids.take j) (Pl.rw l k).text ++ [(k : Int)])) := Lib.hid (by rw [HDj.out, pushL_snoc, if_pos ⟨h10, hf⟩])
          rw [hf] at HDI
          simp only [Option.isSome_none] at HDI
          rw [h10] at p1
          clear hf h10
          go_upto_region 7 with (go_at_call 91; refine HDI.out.mono ?_; rintro e w5 ⟨rfl, hb5⟩; have HB5 := Lib.hid hb5; clear hb5)
          have HFY := Lib.hid (HFX.out.later HB5.out)
          have HJY := Lib.hid (HJ.out _ _ _ HJX.out (Kept.below HB5.out))
          have HKY := Lib.hid (HKX.out.trans (Kept.below HB5.out))
          have hY0 := (HB5.out.block _ pl).trans HX0.out
          have y2 := (blk_one hY0 2 _ rfl).1
          have hylt := lt_blk hY0
          obtain ⟨va, vc, hl, how, hlN, hlx, hback⟩ := HFY.out.letsB hsz (by unfold maxLen; omega)
          have hfr5 := HFY.out.fr
          have f1 := (blk_one hfr5 1 _ rfl).1
          have hfl := lt_blk hfr5
          have hge := HFY.out.ge
          have hm2l : m2 < w5.heap.size := by obtain ⟨_, _, _, g, h5, _⟩ := HFY.out; exact h5.lt
          have hm2o : ∃ es c, w5.heap[m2]? = some (.map es c) := by obtain ⟨_, _, _, g, h5, _⟩ := HFY.out; exact h5.obj
          generalize pushL l L ((Pl.rw l i).kids.take j) = Lj at *
          generalize (Pl.rw l k).text = xt at *
          obtain ⟨Lx, hLx⟩ : ∃ Lx, Lx = Lj xt := ⟨_, rfl⟩
          rw [← hLx] at hl how hlN hlx hback HE
          have HLx := Lib.hid hLx
          have hBw : B ≤ w5.heap.size := by omega
          have hl0 := hlx w5.drew rfl
          have hl1 : ∀ o, (Instr.lookup 115 (.map (some m2)) (.string xt) false).run Try.prog (w5.drew.alloc o) = .ok (.slice va Lx.length vc) (w5.drew.alloc o) := fun o => hlx _ (Below.heap_alloc w5.drew o m2 hm2l)
          have hl2 : ∀ o, (Instr.lookup 115 (.map (some m2)) (.string xt) false).run Try.prog (w5.alloc o).drew = .ok (.slice va Lx.length vc) (w5.alloc o).drew := fun o => hl1 o
          have d1 : w5.drew.cell? ⟨fb, 1, none⟩ = some (.map (some m2)) := f1
          have d2 : w5.drew.cell? ⟨w2.heap.size, 2, none⟩ = some (.string xt) := y2
          have a1' : ∀ o, (w5.drew.alloc o).cell? ⟨fb, 1, none⟩ = some (.map (some m2)) := fun o => (cell_past fb w5.drew o 1 hfl).trans d1
          have a2' : ∀ o, (w5.drew.alloc o).cell? ⟨w2.heap.size, 2, none⟩ = some (.string xt) := fun o => (cell_past _ w5.drew o 2 hylt).trans d2
          have a3' : ∀ o, (w5.alloc o).drew.cell? ⟨fb, 1, none⟩ = some (.map (some m2)) := fun o => a1' o
          have a4' : ∀ o, (w5.alloc o).drew.cell? ⟨w2.heap.size, 2, none⟩ = some (.string xt) := fun o => a2' o
          have hn1 : some fb ≠ (Value.slice va Lx.length vc).ownBlock := own_ne how hfr5 (by decide)
          have hn2' : some w2.heap.size ≠ (Value.slice va Lx.length vc).ownBlock := own_ne how hY0 (by decide)
          have hmk : fb ≠ m2 := HFY.out.ne2
          have hmk2 : w2.heap.size ≠ m2 := fun e => by obtain ⟨es, c, ho⟩ := hm2o; rw [← e, hY0] at ho; cases ho
          have HOw := Lib.hid how
          have HBk := Lib.hid hback
          have HM2 := Lib.hid hm2o
          clear how hback hLx hfr5 hY0 p0 p1 p2 p3 p4 pl hm2o
          have HEnd : Hid (∀ (o : Obj) (a8 : Option Addr) (c8 : Nat) (w8 : World), w8.ownsRow B 3 1 (.slice a8 (Lx.length + 1) c8) (Lx.length + 1) (ints Lx ++ [.int .i64 (k : Int)]) → (w5.drew.alloc o).grownBy w8 (Value.slice va Lx.length vc).ownBlock → ((Value.slice a8 (Lx.length + 1) c8).ownBlock = (Value.slice va Lx.length vc).ownBlock ∨ (Value.slice a8 (Lx.length + 1) c8).ownBlock = some (w5.drew.alloc o).heap.size) →
              ∃ w9, (Instr.mapUpdate 115 (.map (some m2)) (.string xt) (.slice a8 (Lx.length + 1) c8)).run Try.prog w8 = .ok () w9 ∧ FrIs w9 B fb m1 m2 P (fun s' => if s' = xt then Lx ++ [(k : Int)] else Lj s') ib (Nj + 2 * su + 1) ∧ w8.grownBy w9 (some m2) ∧ w5.grownBy w8 (Value.slice va Lx.length vc).ownBlock ∧
                (w8.cell? ⟨fb, 1, none⟩ = some (.map (some m2)) ∧ w8.cell? ⟨w2.heap.size, 2, none⟩ = some (.string xt)) ∧ (w9.cell? ⟨fb, 1, none⟩ = some (.map (some m2)) ∧ w9.cell? ⟨w2.heap.size, 2, none⟩ = some (.string xt)) ∧ (∃ es c, w8.heap[m2]? = some (.map es c))) := Lib.hid (by
            intro o a8 c8 w8 hown8 hg8 hat8
            have hgr := ((below_grown (row := (Value.slice va Lx.length vc).ownBlock) (Below.refl w5.heap.size w5).drew).trans (World.grownBy_alloc w5.drew o _)).trans hg8
            have e1 : (Lx ++ [(k : Int)]).length = Lx.length + 1 := by simp
            have e2 : ints (Lx ++ [(k : Int)]) = ints Lx ++ [.int .i64 (k : Int)] := ints_snoc _ _
            obtain ⟨w9, hrun9, hF9, hg9⟩ := HBk.out w8 (.slice a8 (Lx.length + 1) c8) (Lx ++ [(k : Int)]) hgr (by rw [e1, e2]; exact hown8) (by rw [e1]; omega) (hat8.imp id (fun e => ⟨_, e, by simp⟩))
            have s1 := (World.cell?_of_block (w := w5) (a := ⟨fb, 1, none⟩) (hgr.block fb hfl hn1)).trans f1
            have s2 := (World.cell?_of_block (w := w5) (a := ⟨w2.heap.size, 2, none⟩) (hgr.block w2.heap.size hylt hn2')).trans y2
            have z1 := (World.cell?_of_block (w := w8) (a := ⟨fb, 1, none⟩) (hg9.block fb (Nat.lt_of_lt_of_le hfl hgr.size) (fun e => hmk (by cases e; rfl)))).trans s1
            have z2 := (World.cell?_of_block (w := w8) (a := ⟨w2.heap.size, 2, none⟩) (hg9.block w2.heap.size (Nat.lt_of_lt_of_le hylt hgr.size) (fun e => hmk2 (by cases e; rfl)))).trans s2
            obtain ⟨es, cc, hmo⟩ := HM2.out
            exact ⟨w9, hrun9, hF9, hg9, hgr, ⟨s1, s2⟩, ⟨z1, z2⟩, es, cc, (hgr.block m2 hm2l (fun e => by
              obtain ⟨cur, ho, _⟩ := own_obj HOw.out e.symm
              rw [hmo] at ho; cases ho)).trans hmo⟩)
          have hown5 := HOw.out
          go_region_held3 (fun w' => w'.cell? ⟨fb, 1, none⟩ = some (.map (some m2)) ∧ w'.cell? ⟨w2.heap.size, 2, none⟩ = some (.string xt))
            (first | with_reducible exact ⟨d1, d2⟩ | with_reducible exact ⟨a1' _, a2' _⟩ | with_reducible exact ⟨a3' _, a4' _⟩ | with_reducible exact h89 | with_reducible exact h99 | fail)
            ((refine step_append_at rfl _ _ rfl B (by simp; omega) (.slice va Lx.length vc) Lx.length (ints Lx) (by rfl) ((owns_later HOw.out (Below.refl _ _).drew).alloc _) w5.heap.size (k : Int) (by rfl) (blk_one (heap_alloc_new w5.drew _) 0 _ rfl).1 (by omega) ?_; intro a8 c8 w8 hown8 hg8 hat8; obtain ⟨w9, hrun9, hF9, hg9, hgr, h89, h99, hmo⟩ := HEnd.out _ a8 c8 w8 hown8 hg8 hat8; have HF9 := Lib.hid hF9; have HG8 := Lib.hid hgr; have HG9 := Lib.hid hg9; have HMo := Lib.hid hmo; clear hF9 hg9 hown8 hg8 hat8 hgr hmo))
          all_goals
            go_wp2_with fail
            refine ⟨⟨j + 1, Nj + 2 * su + 1, by omega, by go_num, by omega, by rw [HE.out]; exact HF9.out, HJ.out _ _ _ (HJ.out _ _ _ HJY.out (Kept.grown HG8.out (fun b o ho hD e => ?_))) (Kept.grown HG9.out (fun b o ho hD e => ?_)), (HKY.out.trans (Kept.grown HG8.out (fun b o ho hD e => ?_))).trans (Kept.grown HG9.out (fun b o ho hD e => ?_))⟩, by simp [intOf]; omega⟩
            · obtain ⟨cur, ho2, hB2⟩ := own_obj HOw.out e
              rw [ho] at ho2; cases ho2
              rcases hD with h | h
              · omega
              · exact h (.inl rfl)
            · obtain ⟨es, cc, ho2⟩ := HMo.out
              cases e
              rw [ho] at ho2; cases ho2
              rcases hD with h | h
              · omega
              · exact h trivial
            · obtain ⟨cur, ho2, hB2⟩ := own_obj HOw.out e
              rw [ho] at ho2; cases ho2
              rcases hD.2 with h | h
              · omega
              · exact h (.inl rfl)
            · obtain ⟨es, cc, ho2⟩ := HMo.out
              cases e
              rw [ho] at ho2; cases ho2
              rcases hD.2 with h | h
              · omega
              · exact h trivial
      · have e10 := (int_no h10).1
        have HE : Hid (pushL l L ((Pl.rw l i).kids.take (j + 1)) = pushL l L ((Pl.rw l i).kids.take j)) := Lib.hid (by rw [HDj.out, pushL_snoc, if_neg (fun h => h10 h.1)])
        clear h10
        go_wp2_with fail
        refine ⟨⟨j + 1, Nj + 2 * su + 1, by omega, by go_num, by omega, by rw [HE.out]; exact HFX.out.mono (by omega), HJX.out, HKX.out⟩, by simp [intOf]; omega⟩
    · have hjq : j = qk := by omega
      subst hjq
      have HTk : Hid ((Pl.rw l i).kids.take j = (Pl.rw l i).kids) := Lib.hid (List.take_of_length_le (by rw [HSit.out.kids.2.2.2, ← HQ.out]; exact Nat.le_refl _))
      have HKp2 : Hid (kp t i j = i + Pl.sz t) := Lib.hid (by unfold kp; rw [List.take_of_length_le (by rw [← HQ.out]; exact Nat.le_refl _), HSz.out]; omega)
      have HNj2 : Nj + j = N + 2 * Pl.szs t.kids := by
        have := HNj.out
        rw [List.take_of_length_le (by rw [← HQ.out]; exact Nat.le_refl _)] at this
        exact this
      rw [HTk.out] at HFr
      rw [HKp2.out] at HJr
      have k4' := (hT.row' (i := i) (by rw [← HBase.out.hn]; exact hin)) 4 _ rfl
      rw [HSit.out.kids.2.2.2, ← HQ.out, ← HDa.out] at k4'
      clear hfr hkp hJr hOr hT k4 w0' hwk hNj hlt
      go_upto_region 10 with fail
      go_loopw [68] (fun c wq => ∃ (j2 : Nat), j2 ≤ j ∧ c = .int .i64 j2 ∧ FrIs wq B fb m1 m2 P (dropL l L (Pl.rw l i).kids ((Pl.rw l i).kids.take j2)) ib (Nj + j2) ∧ J (i + Pl.sz t) wq ∧ Kept (WKD w0.heap.size Bl B) W wq) (fun c _ => j - (intOf c).toNat)
      case atStart => exact ⟨0, Nat.zero_le _, rfl, by rw [List.take_zero, dropL_nil]; exact HFr.out, HJr.out, HKp.out⟩
      case round =>
        obtain ⟨j2, hj2, rfl, hfr, hJr, hkp⟩ := hrel
        have HFq := Lib.hid hfr
        have HKq := Lib.hid hkp
        have HJq := Lib.hid hJr
        have hwk : wr.heap[w.heap.size]? = some (.cells #[.slice (some ⟨rb, ro, none⟩) n rc, .func (.func sn) #[] caps] 93 (0, 0)) := hkp.own HV0.out hw0w walker_step walker_not
        have u1' := (blk_one hwk 0 _ rfl).1
        have u2' := (blk_one hwk 1 _ rfl).1
        have hOr := HO0.out.w hB0 hkp
        have hT := HBase.out.hT _ hOr.1 hOr.2
        by_cases hlt : j2 < j
        · have hjt : j2 < t.kids.length := by rw [← HQ.out]; exact hlt
          obtain ⟨hd, hpar, hkl, hik⟩ := HSit.out.kidAt j2 hjt
          obtain ⟨k, hk⟩ : ∃ k, k = kp t i j2 := ⟨_, rfl⟩
          rw [← hk] at hd hpar hkl hik
          obtain ⟨kb, ko, hda, hkb, hkc⟩ := hT.kids (i := i) (by rw [← HBase.out.hn]; exact hin) hd
          obtain rfl : da = some ⟨kb, ko, none⟩ := HDa.out.trans hda
          have hkn : k < n := by rw [HBase.out.hn]; exact hkl
          have hk0 : (0 : Int) ≤ (k : Int) := Int.natCast_nonneg _
          have hk3 : (k : Int) < (n : Int) := by omega
          have hj0 : (0 : Int) ≤ (j2 : Int) := Int.natCast_nonneg _
          have hj1 : (j2 : Int) < (j : Int) := by omega
          have h2k := (hT.row' (i := k) (by rw [← HBase.out.hn]; exact hkn)) 2 _ rfl
          have hsz := HBase.out.htx k
          have HDj : Hid ((Pl.rw l i).kids.take (j2 + 1) = (Pl.rw l i).kids.take j2 ++ [(k : Int)]) := Lib.hid (by rw [List.take_add_one, hd]; rfl)
          have HDI := Lib.hid (declaredIn_any hfr (by omega) hsz rb ro n rc l R sn caps hT HBase.out.hn hn2 (fun e he => by
            unfold dropL pushL at he
            split at he
            · exact ⟨(HFit.out.2 _ e he).1, (HFit.out.2 _ e he).2.1⟩
            · cases hf : (Pl.rw l i).kids.find? (isLet l (Pl.rw l k).text) with
              | none => rw [hf] at he; exact ⟨(HFit.out.2 _ e he).1, (HFit.out.2 _ e he).2.1⟩
              | some c =>
                rw [hf] at he
                simp only [List.mem_append, List.mem_singleton] at he
                rcases he with he | rfl
                · exact ⟨(HFit.out.2 _ e he).1, (HFit.out.2 _ e he).2.1⟩
                · obtain ⟨z, rfl, _, hz⟩ := (HBase.out.kids hin).2 e (List.mem_of_find?_eq_some hf)
                  exact ⟨by omega, by have := HBase.out.hn; omega⟩) (i : Int))
          rw [last_drop HFo.out HPR.out] at HDI
          cases hb : (!(((Pl.rw l i).kids.take j2).any fun c => decide ((Pl.rw l c).text = (Pl.rw l k).text)) && ((Pl.rw l i).kids.find? (isLet l (Pl.rw l k).text)).isSome) with
          | true =>
            have HY := Lib.hid (drop_yes (L := L) hb)
            have HE : Hid (dropL l L (Pl.rw l i).kids ((Pl.rw l i).kids.take (j2 + 1)) = updL (dropL l L (Pl.rw l i).kids ((Pl.rw l i).kids.take j2)) (Pl.rw l k).text (dropL l L (Pl.rw l i).kids ((Pl.rw l i).kids.take j2) (Pl.rw l k).text).dropLast) := Lib.hid (by rw [HDj.out, dropL_snoc, HY.out.2])
            rw [hb] at HDI
            clear hb hfr hkp hJr hOr hT hda hd hwk hk hpar
            go_upto_region 14 with (go_at_call 91; refine HDI.out.mono ?_; rintro e w5 ⟨rfl, hb5⟩; have HB5 := Lib.hid hb5; clear hb5)
            have HFY := Lib.hid (HFq.out.later HB5.out)
            have HJY := Lib.hid (HJ.out _ _ _ HJq.out (Kept.below HB5.out))
            have HKY := Lib.hid (HKq.out.trans (Kept.below HB5.out))
            have HDr := Lib.hid (dropLet_any HFY.out (by omega) hsz HY.out.1)
            go_wp2_with (go_at_call 92; refine HDr.out.mono ?_; rintro e w6 ⟨rfl, hF6, hg6⟩; have HF6 := Lib.hid hF6; have HG6 := Lib.hid hg6; clear hF6 hg6)
            have hmo : ∃ es c, w5.heap[m2]? = some (.map es c) := by obtain ⟨_, _, _, g, h5, _⟩ := HFY.out; exact h5.obj
            have hm2B := HFY.out.ge.2.2.1
            refine ⟨⟨j2 + 1, by omega, by go_num, by rw [HE.out]; exact HF6.out, HJ.out _ _ _ HJY.out (Kept.grown HG6.out (fun b o ho hD e => ?_)), HKY.out.trans (Kept.grown HG6.out (fun b o ho hD e => ?_))⟩, by simp [intOf]; omega⟩
            · obtain ⟨es, cc, ho2⟩ := hmo
              cases e
              rw [ho] at ho2; cases ho2
              rcases hD with h | h
              · omega
              · exact h trivial
            · obtain ⟨es, cc, ho2⟩ := hmo
              cases e
              rw [ho] at ho2; cases ho2
              rcases hD.2 with h | h
              · omega
              · exact h trivial
          | false =>
            have HE : Hid (dropL l L (Pl.rw l i).kids ((Pl.rw l i).kids.take (j2 + 1)) = dropL l L (Pl.rw l i).kids ((Pl.rw l i).kids.take j2)) := Lib.hid (by rw [HDj.out, drop_no (L := L) hb])
            rw [hb] at HDI
            clear hb hfr hkp hJr hOr hT hda hd hwk hk hpar
            go_wp2_with (go_at_call 91; refine HDI.out.mono ?_; rintro e w5 ⟨rfl, hb5⟩; have HB5 := Lib.hid hb5; clear hb5)
            exact ⟨⟨j2 + 1, by omega, by go_num, by rw [HE.out]; exact (HFq.out.later HB5.out).mono (by omega), HJ.out _ _ _ HJq.out (Kept.below HB5.out), HKq.out.trans (Kept.below HB5.out)⟩, by simp [intOf]; omega⟩
        · have hjq : j2 = j := by omega
          subst hjq
          rw [HTk.out, dropL_all] at HFq
          clear hfr hkp hwk hOr hT hJr
          go_wp2_with fail
          go_end0
          exact ⟨rfl, HJq.out, HNj2 ▸ HFq.out, (Kept.below HB.out).trans HKq.out⟩
end Go.Proofs.Ytoelfiendfemaaa

namespace Go.Proofs.Ytoelfiendfemaaa
open Go.RowKit Go.Deep
set_option linter.unusedVariables false
set_option linter.unusedSimpArgs false
set_option maxRecDepth 100000

/-- Whether the parameters are visible is stored. -/
theorem FrIs.setBody {w : World} {B fb m1 m2 : Nat} {P : ByteArray → Option Int} {L : ByteArray → List Int} {ib : Bool} {N : Nat} (h : FrIs w B fb m1 m2 P L ib N) (ib2 : Bool) : FrIs (w.setCell ⟨fb, 2, none⟩ (.bool ib2)) B fb m1 m2 P L ib2 N := by
  have n1 := h.ne1
  have n2 := h.ne2
  obtain ⟨h1, h2, ⟨f, h3, h4⟩, g, h5, h6, h7⟩ := h
  have kk : ∀ b, b ≠ fb → (w.setCell ⟨fb, 2, none⟩ (.bool ib2)).heap[b]? = w.heap[b]? := fun b hb => Below.heap_setCell _ _ _ _ hb
  refine ⟨by rw [heap_setCell_same _ _ _ _ _ _ h1]; rfl, h2, ⟨f, h3.keep (kk m1 (Ne.symm n1)), h4⟩, g, h5.keep (kk m2 (Ne.symm n2)), fun s' hs' => ?_, h7⟩
  have h9 := h6 s' hs'
  cases hg' : g (.string s') with
  | none => rw [hg'] at h9; exact h9
  | some v =>
    rw [hg'] at h9
    refine ⟨owns_but h9.1 (fun b hb => kk b (fun e => ?_)), h9.2⟩
    obtain ⟨cur, ho, _⟩ := own_obj h9.1 hb
    rw [e, h1] at ho
    cases ho
theorem FrIs.J {w0 w : World} {B fb m1 m2 : Nat} {P : ByteArray → Option Int} {L : ByteArray → List Int} {ib : Bool} {N : Nat} (h : FrIs w B fb m1 m2 P L ib N) (hB : w0.heap.size ≤ B) (ib2 : Bool) : Kept (WOD w0.heap.size) w (w.setCell ⟨fb, 2, none⟩ (.bool ib2)) :=
  Kept.setCell w (p := ⟨fb, 2, none⟩) (fun o ho hD => by
    have := h.ge.1
    rw [h.fr] at ho; cases ho
    rcases hD with h | h
    · dsimp only at h; omega
    · exact h (.inr rfl)) _
theorem FrIs.JW {w0 w : World} {Bl : Nat → Prop} {B fb m1 m2 : Nat} {P : ByteArray → Option Int} {L : ByteArray → List Int} {ib : Bool} {N : Nat} (h : FrIs w B fb m1 m2 P L ib N) (hB : w0.heap.size ≤ B) (ib2 : Bool) : Kept (WKD w0.heap.size Bl B) w (w.setCell ⟨fb, 2, none⟩ (.bool ib2)) :=
  Kept.setCell w (p := ⟨fb, 2, none⟩) (fun o ho hD => by
    have := h.ge.1
    rw [h.fr] at ho; cases ho
    rcases hD.2 with h | h
    · dsimp only at h; omega
    · exact h (.inr rfl)) _
set_option maxHeartbeats 6400000 in
theorem visitFunc_any {w0 : World} {Bl : Nat → Prop} {rb ro n : Nat} {l : List Pl.Rw} {R : Nat → Sl} (HBs : Base w0 (PB w0 Bl) rb ro n l R) (rc sn : Nat) (caps : Array Value) (J : Nat → World → Prop)
    (hJ : ∀ i w w', J i w → Kept (WOD w0.heap.size) w w' → J i w') {t : Pl.Tr} (IH : ∀ u ∈ t.kids, VC w0 Bl rb ro n rc l sn caps J u) {i : Nat} {q : Int} (hsit : Sits l t i q) (h2 : t.kind = 2)
    {w : World} (hon : On w0 (PB w0 Bl) w) (hJi : J (i + 1) w) :
    Calls Try.prog 72 #[wkV rb ro n rc (.func (.func sn) #[] caps), .int .i64 i] w fun e w' => e = .returned (.tuple #[]) ∧ J (i + Pl.sz t) w' ∧ Kept (SKD w0.heap.size Bl) w w' := by
  obtain ⟨W, hW⟩ : ∃ W, W = w.alloc (.cells #[.slice (some ⟨rb, ro, none⟩) n rc, .func (.func sn) #[] caps] 93) := ⟨_, rfl⟩
  have hb : Below w.heap.size w W := by rw [hW]; exact below_1 _ _
  have v0 : W.heap[w.heap.size]? = some (.cells #[.slice (some ⟨rb, ro, none⟩) n rc, .func (.func sn) #[] caps] 93 (0, 0)) := by rw [hW]; exact heap_alloc_new _ _
  have hOn := hon.later HBs.hP hb
  have HWw := Lib.hid hW
  have HB := Lib.hid hb
  have HV0 := Lib.hid v0
  have HO0 := Lib.hid hOn
  have HBase := Lib.hid HBs
  have HJ := Lib.hid hJ
  have HIH := Lib.hid IH
  have HSit := Lib.hid hsit
  have HJ0 := Lib.hid (hJ _ _ _ hJi (Kept.below hb))
  have hw0w : w0.heap.size ≤ w.heap.size := hon.2
  have hwb : w.heap.size < W.heap.size := lt_blk v0
  have hn2 := HBs.hn2
  have hil := hsit.row.1
  have hszp := Pl.sz_pos t
  have hin : i < n := by rw [HBs.hn]; omega
  obtain ⟨qk, hq⟩ : ∃ q, q = t.kids.length := ⟨_, rfl⟩
  have hqk : qk ≤ 1000000 := by rw [hq, ← hsit.kids.2.2.2]; exact (HBs.kids hin).1
  have HQ := Lib.hid hq
  have hszt : Pl.sz t = Pl.szs t.kids + 1 := by cases t; rw [Pl.sz]; rfl
  have HSz := Lib.hid hszt
  have hszl : Pl.szs t.kids ≤ 1000000 := by have := HBs.hn; omega
  obtain ⟨da, hdaE⟩ : ∃ da, da = (R i).da := ⟨_, rfl⟩
  have HDa := Lib.hid hdaE
  have ha0 : (0 : Int) ≤ (i : Int) := Int.natCast_nonneg _
  have ha1 : (i : Int) < (n : Int) := by omega
  have HH2 := Lib.hid h2
  clear hW hb hq hon v0 hOn HBs hJ IH hsit hJi hdaE hil hszp hszt h2
  go_enter Try.func72, Try.ntmps72
  go_upto_region 1 with fail
  rw [← HWw.out]
  go_upto_region 2 with (go_at_call 58; refine (newFrame_any W).mono ?_; rintro e V ⟨rfl, hF, hbV⟩; have HF0 := Lib.hid hF; have HBV := Lib.hid hbV; clear hF hbV)
  obtain ⟨B, hBe⟩ : ∃ B, B = W.heap.size := ⟨_, rfl⟩
  obtain ⟨fb, hfb⟩ : ∃ B, B = W.heap.size + 2 := ⟨_, rfl⟩
  obtain ⟨m2, hm2⟩ : ∃ B, B = W.heap.size + 1 := ⟨_, rfl⟩
  have hF0 := HF0.out
  rw [← hfb, ← hm2, ← hBe] at hF0
  rw [← hfb]
  have HF1 := Lib.hid hF0
  have hB0 : w0.heap.size ≤ B := by omega
  have HOV := Lib.hid (HO0.out.later HBase.out.hP HBV.out)
  have HJV := Lib.hid (HJ.out _ _ _ HJ0.out (Kept.below HBV.out))
  have hwbV : w.heap.size < V.heap.size := Nat.lt_of_lt_of_le hwb HBV.out.size
  have HVV : Hid (V.heap[w.heap.size]? = some (.cells #[.slice (some ⟨rb, ro, none⟩) n rc, .func (.func sn) #[] caps] 93 (0, 0))) := Lib.hid ((HBV.out.block _ hwb).trans HV0.out)
  have w0' := (blk_one HVV.out 0 _ rfl).1
  have hT2 := HBase.out.hT _ HOV.out.1 HOV.out.2
  have k4 := (hT2.row' (i := i) (by rw [← HBase.out.hn]; exact hin)) 4 _ rfl
  rw [HSit.out.kids.2.2.2, ← HQ.out, ← HDa.out] at k4
  obtain ⟨m1, hm1⟩ : ∃ m, m = B := ⟨_, rfl⟩
  have hF2 : FrIs V B fb m1 m2 (fun _ => none) (fun _ => []) false 0 := hm1 ▸ hF0
  have HF2 := Lib.hid hF2
  have HBe := Lib.hid hBe
  clear hF0 HF0 HF1 hfb hm2 hBe hT2 hF2 hm1
  go_wp2_with fail
  go_loopw [15] (fun c wr => ∃ (j Nj : Nat) (ib : Bool), j ≤ qk ∧ c = .int .i64 j ∧ Nj ≤ 3 * Pl.szs (t.kids.take j) ∧ FrIs wr B fb m1 m2 (parL l ((Pl.rw l i).kids.take j)) (fun _ => []) ib Nj ∧ J (kp t i j) wr ∧ Kept (WKD w0.heap.size Bl B) V wr) (fun c _ => qk - (intOf c).toNat)
  case atStart => exact ⟨0, 0, false, Nat.zero_le _, rfl, Nat.zero_le _, by rw [List.take_zero, parL_nil]; exact HF2.out, by unfold kp; rw [List.take_zero, Pl.szs]; exact HJV.out, Kept.refl _ _⟩
  case round =>
    obtain ⟨j, Nj, ib, hj, rfl, hNj, hfr, hJr, hkp⟩ := hrel
    have HFr := Lib.hid hfr
    have HKp := Lib.hid hkp
    have HJr := Lib.hid hJr
    have hzr := hkp.size
    have hwk : wr.heap[w.heap.size]? = some (.cells #[.slice (some ⟨rb, ro, none⟩) n rc, .func (.func sn) #[] caps] 93 (0, 0)) := hkp.own HVV.out hw0w walker_step walker_not
    have w1' := (blk_one hwk 0 _ rfl).1
    have w2' := (blk_one hwk 1 _ rfl).1
    have hOr := HO0.out.later HBase.out.hP HBV.out |>.w hB0 hkp
    have hT := HBase.out.hT _ hOr.1 hOr.2
    by_cases hlt : j < qk
    · have hjt : j < t.kids.length := by rw [← HQ.out]; exact hlt
      obtain ⟨hd, hpar, hkl, hik⟩ := HSit.out.kidAt j hjt
      have hst := Pl.szs_take t.kids j hjt
      have hle := Pl.szs_take_le t.kids (j + 1)
      have hku : Pl.sz t.kids[j] = Pl.szs t.kids[j].kids + 1 := by cases t.kids[j]; rw [Pl.sz]; rfl
      obtain ⟨ib2, hib⟩ : ∃ b, b = decide ((Pl.rw l (kp t i j)).kind = 6) := ⟨_, rfl⟩
      have HS := Lib.hid (hfr.setBody ib2)
      have HKS := Lib.hid (hkp.trans (hfr.JW (w0 := w0) (Bl := Bl) hB0 ib2))
      have HJS := Lib.hid (HJ.out _ _ _ hJr (hfr.J (w0 := w0) hB0 ib2))
      obtain ⟨X, hX⟩ : ∃ X, X = wr.setCell ⟨fb, 2, none⟩ (.bool ib2) := ⟨_, rfl⟩
      rw [← hX] at HS HKS HJS
      have HXw := Lib.hid hX
      have hwkX := HKS.out.own HVV.out hw0w walker_step walker_not
      have x1' := (blk_one hwkX 0 _ rfl).1
      have x2' := (blk_one hwkX 1 _ rfl).1
      clear hwkX
      have HVis := Lib.hid (HIH.out _ (List.getElem_mem hjt) (kp t i j) i (HSit.out.kid j hjt) B fb m1 m2 _ _ ib2 Nj hB0 (by omega) X (HOV.out.w hB0 HKS.out) HJS.out HS.out (hib ▸ fits_func HBase.out.hok HSit.out HH2.out j hjt))
      have HKP1 : Hid (kp t i j + Pl.sz t.kids[j] = kp t i (j + 1)) := Lib.hid (by unfold kp; rw [hst]; omega)
      rw [HKP1.out] at HVis
      have HSitK := Lib.hid (HSit.out.kid j hjt)
      have hkq : (Pl.rw l (kp t i j)).kids.length ≤ Pl.szs t.kids[j].kids := by rw [HSitK.out.kids.2.2.2]; exact Pl.len_szs _
      have hN1 : Nj + 2 * Pl.szs t.kids[j].kids + (Pl.rw l (kp t i j)).kids.length ≤ 3 * Pl.szs (t.kids.take (j + 1)) := by omega
      have hN3 : Nj + 2 * Pl.szs t.kids[j].kids + (Pl.rw l (kp t i j)).kids.length ≤ 100000000 := by omega
      have hN2 : Nj + 2 * Pl.szs t.kids[j].kids ≤ 3 * Pl.szs (t.kids.take (j + 1)) := by omega
      generalize Pl.szs t.kids[j].kids = su at *
      obtain ⟨k, hk⟩ : ∃ k, k = kp t i j := ⟨_, rfl⟩
      rw [← hk] at hd hpar hkl hik HVis hkq hN1 hN3 hib
      obtain ⟨kb, ko, hda, hkb, hkc⟩ := hT.kids (i := i) (by rw [← HBase.out.hn]; exact hin) hd
      obtain rfl : da = some ⟨kb, ko, none⟩ := HDa.out.trans hda
      have hkn : k < n := by rw [HBase.out.hn]; exact hkl
      have hk0 : (0 : Int) ≤ (k : Int) := Int.natCast_nonneg _
      have hk3 : (k : Int) < (n : Int) := by omega
      have hj0 : (0 : Int) ≤ (j : Int) := Int.natCast_nonneg _
      have hj1 : (j : Int) < (qk : Int) := by omega
      have HPt : Hid (parL l ((Pl.rw l i).kids.take (j + 1)) = if (Pl.rw l k).kind = 3 then addP l (parL l ((Pl.rw l i).kids.take j)) (Pl.rw l k).kids else parL l ((Pl.rw l i).kids.take j)) := Lib.hid (by rw [List.take_add_one, hd, Option.toList_some, parL_snoc])
      have h1k := (hT.row' (i := k) (by rw [← HBase.out.hn]; exact hkn)) 1 _ rfl
      have f2 := blk_one hfr.fr 2 _ rfl
      obtain ⟨f2a, f2b⟩ := f2
      have HIb := Lib.hid hib
      have e6 : ((Pl.rw l k).kind == 6) = ib2 := by rw [hib]; rfl
      have e6' : decide ((Pl.rw l k).kind = 6) = ib2 := hib.symm
      obtain ⟨xk, hxk⟩ : ∃ x, x = (Pl.rw l k).kind := ⟨_, rfl⟩
      have HXk := Lib.hid hxk.symm
      rw [← hxk] at e6 e6' h1k HPt
      clear hfr hkp hJr hOr hT hda hd hwk hku hst hle HKP1 hk hpar hX hib hNj hkq hxk
      go_upto_region 6 with fail
      try rw [e6']
      rw [← HXw.out]
      go_upto_region 7 with (go_at_call 57; refine HVis.out.mono ?_; rintro e w2 ⟨rfl, hJ2, hF2, hK2⟩; have HJ2 := Lib.hid hJ2; have HF2' := Lib.hid hF2; have HK2 := Lib.hid hK2; clear hJ2 hF2 hK2)
      have HKW := Lib.hid (HKS.out.trans HK2.out)
      have HO2 := Lib.hid (HOV.out.w hB0 HKW.out)
      have hT2 := HBase.out.hT _ HO2.out.1 HO2.out.2
      have h1k2 := (hT2.row' (i := k) (by rw [← HBase.out.hn]; exact hkn)) 1 _ rfl
      have hwk2 := HKW.out.own HVV.out hw0w walker_step walker_not
      have w3' := (blk_one hwk2 0 _ rfl).1
      have w4' := (blk_one hwk2 1 _ rfl).1
      rw [HXk.out] at h1k2
      clear hT2 hwk2
      by_cases h3 : xk = 3
      · have HE := HPt.out
        rw [if_pos h3] at HE
        have HE := Lib.hid HE
        subst h3
        have HAd := Lib.hid (addParams_any HBase.out rc sn caps HO2.out HF2'.out (fun b hb => Nat.lt_of_lt_of_le hb.1 hB0) k hkn hN3)
        go_wp2_with (go_at_call 90; refine HAd.out.mono ?_; rintro e w3 ⟨rfl, hF3, hK3⟩; have HF3 := Lib.hid hF3; have HK3 := Lib.hid hK3; clear hF3 hK3)
        exact ⟨⟨j + 1, _, ib2, by omega, by go_num, hN1, by rw [HE.out]; exact HF3.out, HJ.out _ _ _ HJ2.out (HK3.out.fo hB0), HKW.out.trans HK3.out.fw⟩, by simp [intOf]; omega⟩
      · have e3 := (int_no h3).1
        have HE := HPt.out
        rw [if_neg h3] at HE
        have HE := Lib.hid HE
        clear h3
        go_wp2_with fail
        exact ⟨⟨j + 1, _, ib2, by omega, by go_num, hN2, by rw [HE.out]; exact HF2'.out, HJ2.out, HKW.out⟩, by simp [intOf]; omega⟩
    · have hjq : j = qk := by omega
      subst hjq
      have HKp2 : Hid (kp t i j = i + Pl.sz t) := Lib.hid (by unfold kp; rw [List.take_of_length_le (by rw [← HQ.out]; exact Nat.le_refl _), HSz.out]; omega)
      rw [HKp2.out] at HJr
      clear hfr hkp hwk hOr hT hJr
      go_wp2_with fail
      go_end0
      exact ⟨rfl, HJr.out, (Kept.below HB.out).trans (Kept.ws (B := B) ((Kept.below HBV.out).trans HKp.out) (by rw [HBe.out]; exact Nat.le_refl _))⟩
end Go.Proofs.Ytoelfiendfemaaa

namespace Go.Proofs.Ytoelfiendfemaaa
open Go.RowKit Go.Deep
set_option linter.unusedVariables false
set_option linter.unusedSimpArgs false
set_option maxRecDepth 100000

theorem frp_step {c : Array Value} {f : Nat × Nat} : ¬ StepObj (.cells c 95 f) := fun h => by
  rcases h with h | h | h | h <;> exact absurd h (by decide)
theorem sits_szs {l : List Pl.Rw} {t : Pl.Tr} {i : Nat} {q : Int} (h : Sits l t i q) (j : Nat) (hj : j < t.kids.length) : kp t i j + Pl.sz t.kids[j] = kp t i (j + 1) := by unfold kp; rw [Pl.szs_take t.kids j hj]; omega
set_option maxHeartbeats 6400000 in
theorem visit_any {w0 : World} {Bl : Nat → Prop} {rb ro n : Nat} {l : List Pl.Rw} {R : Nat → Sl} (HBs : Base w0 (PB w0 Bl) rb ro n l R) (rc sn : Nat) (caps : Array Value) (J : Nat → World → Prop)
    (hJ : ∀ i w w', J i w → Kept (WOD w0.heap.size) w w' → J i w') (hst : StepOk w0 Bl l sn caps J) (hsn : ∀ (args : Array Value) (wx : World), (callFunc sn args).run Try.prog wx = .ok (.enter sn args) wx) (t : Pl.Tr) : VC w0 Bl rb ro n rc l sn caps J t := by
  refine Pl.Tr.ind (M := VC w0 Bl rb ro n rc l sn caps J) (fun tk ts tg ks ih => ?_) t
  obtain ⟨t, htt⟩ : ∃ t, t = Pl.Tr.node tk ts tg ks := ⟨_, rfl⟩
  rw [← htt]
  have IH : ∀ u ∈ t.kids, VC w0 Bl rb ro n rc l sn caps J u := by rw [htt]; exact ih
  clear htt ih
  intro i q hsit B fb m1 m2 P L ib N hB0 hN w hon hJi h hfit
  obtain ⟨W, hW⟩ : ∃ W, W = w.alloc (.cells #[.slice (some ⟨rb, ro, none⟩) n rc, .func (.func sn) #[] caps] 93) := ⟨_, rfl⟩
  have hb : Below w.heap.size w W := by rw [hW]; exact below_1 _ _
  have v0 : W.heap[w.heap.size]? = some (.cells #[.slice (some ⟨rb, ro, none⟩) n rc, .func (.func sn) #[] caps] 93 (0, 0)) := by rw [hW]; exact heap_alloc_new _ _
  have HWw := Lib.hid hW
  have HB := Lib.hid hb
  have HV0 := Lib.hid v0
  have HF0 := Lib.hid (h.later hb)
  have HO0 := Lib.hid (hon.later HBs.hP hb)
  have HBase := Lib.hid HBs
  have HJ := Lib.hid hJ
  have HIH := Lib.hid IH
  have HSit := Lib.hid hsit
  have HFit := Lib.hid hfit
  have HStep := Lib.hid hst
  have HJ0 := Lib.hid (hJ _ _ _ hJi (Kept.below hb))
  have hw0w : w0.heap.size ≤ w.heap.size := hon.2
  have hwb : w.heap.size < W.heap.size := lt_blk v0
  have hn2 := HBs.hn2
  have hil := hsit.row.1
  have hszp := Pl.sz_pos t
  have hin : i < n := by rw [HBs.hn]; omega
  have hil2 : i < l.length := by omega
  have ha0 : (0 : Int) ≤ (i : Int) := Int.natCast_nonneg _
  have ha1 : (i : Int) < (n : Int) := by omega
  have w0' := (blk_one v0 0 _ rfl).1
  have w1' := (blk_one v0 1 _ rfl).1
  have hNN : N ≤ 100000000 := by omega
  have d1 : W.drew.cell? ⟨w.heap.size, 1, none⟩ = some (.func (.func sn) #[] caps) := w1'
  have a1' : ∀ o, (W.drew.alloc o).cell? ⟨w.heap.size, 1, none⟩ = some (.func (.func sn) #[] caps) := fun o => (cell_past w.heap.size W.drew o 1 hwb).trans w1'
  have a2' : ∀ o, (W.alloc o).drew.cell? ⟨w.heap.size, 1, none⟩ = some (.func (.func sn) #[] caps) := a1'
  have HS : Hid (∀ wx : World, Below W.heap.size W wx → wx.heap[W.heap.size]? = some (.cells #[.pointer (some ⟨fb, 0, none⟩)] 95 (0, 0)) →
      Calls Try.prog sn (#[.int .i64 i, .func (.func 89) #[] #[.pointer (some ⟨W.heap.size, 0, none⟩)]] ++ caps) wx fun e w' => e = .returned (.tuple #[]) ∧ J (i + 1) w' ∧ Kept (SKD w0.heap.size Bl) W w' ∧ w'.cell? ⟨w.heap.size, 1, none⟩ = some (.func (.func sn) #[] caps)) := Lib.hid (by
    intro wx hbx hob
    refine (hst i hil2 wx (HO0.out.later HBs.hP hbx) (hJ _ _ _ HJ0.out (Kept.below hbx)) W.heap.size (fun w' hk s hs => ?_)).mono (fun e w' he => ⟨he.1, he.2.1, (Kept.below hbx).trans he.2.2, (blk_one (((Kept.below (D := SKD w0.heap.size Bl) hbx).trans he.2.2).keep _ _ HV0.out (.inr ⟨hw0w, walker_step⟩)) 1 _ rfl).1⟩)
    rw [← hfit.1 s]
    have hF' := (HF0.out.later hbx).kept hB0 hk
    exact finder_any hF' hNN hs W.heap.size (blk_one (hk.keep _ _ hob (.inr ⟨by omega, frp_step⟩)) 0 _ rfl).1)
  have HBf1 : Hid (∀ o, Below W.heap.size W (W.drew.alloc o)) := Lib.hid fun o => (Below.refl _ _).drew.alloc (Nat.le_refl _) o
  have HBf2 : Hid (∀ o, Below W.heap.size W (W.alloc o).drew) := Lib.hid fun o => HBf1.out o
  have HNb1 : Hid ((W.drew.alloc (.cells #[.pointer (some ⟨fb, 0, none⟩)] 95)).heap[W.heap.size]? = some (.cells #[.pointer (some ⟨fb, 0, none⟩)] 95 (0, 0))) := Lib.hid (heap_alloc_new W.drew _)
  have HNb2 : Hid ((W.alloc (.cells #[.pointer (some ⟨fb, 0, none⟩)] 95)).drew.heap[W.heap.size]? = some (.cells #[.pointer (some ⟨fb, 0, none⟩)] 95 (0, 0))) := Lib.hid HNb1.out
  clear hW hb hon v0 HBs hJ IH hsit hJi hil hszp h hfit hst
  go_enter Try.func57, Try.ntmps57
  go_upto_region 1 with fail
  rw [← HWw.out]
  go_region_held3 (fun w' => w'.cell? ⟨w.heap.size, 1, none⟩ = some (.func (.func sn) #[] caps))
    (first | with_reducible exact d1 | with_reducible exact a1' _ | with_reducible exact a2' _ | with_reducible exact h4c | fail)
    ((first
      | (go_at_call 71; refine (makeFinder_any fb _).mono ?_; rintro e w2 ⟨rfl, rfl⟩)
      | (with_reducible refine (HS.out _ ?_ ?_).mono ?_; (· first | with_reducible exact (HBf1.out _) | with_reducible exact (HBf2.out _)); (· first | with_reducible exact (HNb1.out) | with_reducible exact (HNb2.out)); rintro e w4 ⟨rfl, hJ4, hK4, h4c⟩; have HJ4 := Lib.hid hJ4; have HK4 := Lib.hid hK4; clear hJ4 hK4)))
  have HF4 := Lib.hid (HF0.out.kept hB0 HK4.out)
  have HKW4 : Hid (Kept (WKD w0.heap.size Bl B) W w4) := Lib.hid HK4.out.sw
  have HO4 := Lib.hid (HO0.out.w hB0 HKW4.out)
  have HV4 : Hid (w4.heap[w.heap.size]? = some (.cells #[.slice (some ⟨rb, ro, none⟩) n rc, .func (.func sn) #[] caps] 93 (0, 0))) := Lib.hid (HKW4.out.own HV0.out hw0w walker_step walker_not)
  have hT4 := HBase.out.hT _ HO4.out.1 HO4.out.2
  have b0' := (blk_one HV4.out 0 _ rfl).1
  have k1 := (hT4.row' (i := i) hil2) 1 _ rfl
  have k4 := (hT4.row' (i := i) hil2) 4 _ rfl
  rw [HSit.out.kids.2.1] at k1
  obtain ⟨qk, hq⟩ : ∃ q, q = t.kids.length := ⟨_, rfl⟩
  rw [HSit.out.kids.2.2.2, ← hq] at k4
  have hqk : qk ≤ 1000000 := by rw [hq, ← HSit.out.kids.2.2.2]; exact (HBase.out.kids hin).1
  have HQ := Lib.hid hq
  have HSz : Hid (Pl.sz t = Pl.szs t.kids + 1) := Lib.hid (by cases t; rw [Pl.sz]; rfl)
  obtain ⟨da, hdaE⟩ : ∃ da, da = (R i).da := ⟨_, rfl⟩
  rw [← hdaE] at k4
  have HDa := Lib.hid hdaE
  clear d1 a1' a2' HBf1 HBf2 HNb1 HNb2 HS w0' w1' hT4 hq hdaE
  by_cases h2 : t.kind = 2
  · have HFn := Lib.hid (visitFunc_any HBase.out rc sn caps J HJ.out HIH.out HSit.out h2 HO4.out HJ4.out)
    rw [h2] at k1
    clear h2
    go_wp2_with (go_at_call 72; refine HFn.out.mono ?_; rintro e w5 ⟨rfl, hJ5, hK5⟩; have HJ5 := Lib.hid hJ5; have HK5 := Lib.hid hK5; clear hJ5 hK5)
    go_end0
    exact ⟨rfl, HJ5.out, (HF4.out.kept hB0 HK5.out).mono (by omega), (Kept.below HB.out).trans (HKW4.out.trans HK5.out.sw)⟩
  · have e2 := (int_no h2).1
    by_cases h6 : t.kind = 6
    · have HBl := Lib.hid (visitBlock_any HBase.out rc sn caps J HJ.out HIH.out HSit.out h6 hB0 hN HO4.out HJ4.out HF4.out HFit.out)
      rw [h6] at k1 e2
      clear h2 h6
      go_wp2_with (go_at_call 73; refine HBl.out.mono ?_; rintro e w5 ⟨rfl, hJ5, hF5, hK5⟩; have HJ5 := Lib.hid hJ5; have HF5 := Lib.hid hF5; have HK5 := Lib.hid hK5; clear hJ5 hF5 hK5)
      go_end0
      exact ⟨rfl, HJ5.out, HF5.out, (Kept.below HB.out).trans (HKW4.out.trans HK5.out)⟩
    · have e6 := (int_no h6).1
      have HH2 := Lib.hid h2
      have HH6 := Lib.hid h6
      generalize t.kind = tk at k1 e2 e6
      clear h2 h6
      go_upto_region 4 with fail
      go_loopw [27] (fun c wr => ∃ (j Nj : Nat), j ≤ qk ∧ c = .int .i64 j ∧ Nj ≤ N + 2 * Pl.szs (t.kids.take j) ∧ FrIs wr B fb m1 m2 P L ib Nj ∧ J (kp t i j) wr ∧ Kept (WKD w0.heap.size Bl B) w4 wr) (fun c _ => qk - (intOf c).toNat)
      case atStart => exact ⟨0, N, Nat.zero_le _, rfl, by omega, HF4.out, by unfold kp; rw [List.take_zero, Pl.szs]; exact HJ4.out, Kept.refl _ _⟩
      case round =>
        obtain ⟨j, Nj, hj, rfl, hNj, hfr, hJr, hkp⟩ := hrel
        have HFr := Lib.hid hfr
        have HKp := Lib.hid hkp
        have HJr := Lib.hid hJr
        have hzr := hkp.size
        have hwk : wr.heap[w.heap.size]? = some (.cells #[.slice (some ⟨rb, ro, none⟩) n rc, .func (.func sn) #[] caps] 93 (0, 0)) := hkp.own HV4.out hw0w walker_step walker_not
        have c1' := (blk_one hwk 0 _ rfl).1
        have c2' := (blk_one hwk 1 _ rfl).1
        have hOr := HO4.out.w hB0 hkp
        have hT := HBase.out.hT _ hOr.1 hOr.2
        by_cases hlt : j < qk
        · have hjt : j < t.kids.length := by rw [← HQ.out]; exact hlt
          obtain ⟨hd, hpar, hkl, hik⟩ := HSit.out.kidAt j hjt
          have hstk := Pl.szs_take t.kids j hjt
          have hle := Pl.szs_take_le t.kids (j + 1)
          have hku : Pl.sz t.kids[j] = Pl.szs t.kids[j].kids + 1 := by cases t.kids[j]; rw [Pl.sz]; rfl
          have HVis := Lib.hid (HIH.out _ (List.getElem_mem hjt) (kp t i j) i (HSit.out.kid j hjt) B fb m1 m2 P L ib Nj hB0 (by omega) wr hOr hJr hfr (fits_kid HBase.out.hok HSit.out HH2.out HH6.out HFit.out j hjt))
          rw [sits_szs HSit.out j hjt] at HVis
          have hN2 : Nj + 2 * Pl.szs t.kids[j].kids ≤ N + 2 * Pl.szs (t.kids.take (j + 1)) := by omega
          generalize Pl.szs t.kids[j].kids = su at *
          obtain ⟨k, hk⟩ : ∃ k, k = kp t i j := ⟨_, rfl⟩
          rw [← hk] at hd hpar hkl hik HVis
          obtain ⟨kb, ko, hda, hkb, hkc⟩ := hT.kids (i := i) hil2 hd
          obtain rfl : da = some ⟨kb, ko, none⟩ := HDa.out.trans hda
          have hj0 : (0 : Int) ≤ (j : Int) := Int.natCast_nonneg _
          have hj1 : (j : Int) < (qk : Int) := by omega
          clear hfr hkp hJr hOr hT hda hd hwk hku hstk hle hk hpar hNj
          go_wp2_with (go_at_call 57; refine HVis.out.mono ?_; rintro e w2 ⟨rfl, hJ2, hF2, hK2⟩; have HJ2 := Lib.hid hJ2; have HF2' := Lib.hid hF2; have HK2 := Lib.hid hK2; clear hJ2 hF2 hK2)
          exact ⟨⟨j + 1, _, by omega, by go_num, hN2, HF2'.out, HJ2.out, HKp.out.trans HK2.out⟩, by simp [intOf]; omega⟩
        · have hjq : j = qk := by omega
          subst hjq
          have hall : t.kids.take j = t.kids := List.take_of_length_le (by rw [← HQ.out]; exact Nat.le_refl _)
          have HKp2 : Hid (kp t i j = i + Pl.sz t) := Lib.hid (by unfold kp; rw [hall, HSz.out]; omega)
          rw [HKp2.out] at HJr
          rw [hall] at hNj
          clear hfr hkp hwk hOr hT hJr
          go_wp2_with fail
          go_end0
          exact ⟨rfl, HJr.out, HFr.out.mono hNj, (Kept.below HB.out).trans (HKW4.out.trans HKp.out)⟩
end Go.Proofs.Ytoelfiendfemaaa

namespace Go.Proofs.Ytoelfiendfemaaa
open Go.RowKit Go.Deep
set_option linter.unusedVariables false
set_option linter.unusedSimpArgs false
set_option maxRecDepth 100000

set_option maxHeartbeats 800000 in
theorem run_none (c : Nat) (st : Value) (w : World) : Calls Try.prog 35 #[.slice none 0 c, st] w fun e w' => e = .returned (.tuple #[]) ∧ w' = w := by
  go_enter Try.func35, Try.ntmps35
  go_wp2_with fail
  go_end0
  exact ⟨rfl, rfl⟩
set_option maxHeartbeats 3200000 in
theorem run_any {w0 : World} {Bl : Nat → Prop} {rb ro n : Nat} {l : List Pl.Rw} {R : Nat → Sl} (HBs : Base w0 (PB w0 Bl) rb ro n l R) (rc sn : Nat) (caps : Array Value) (J : Nat → World → Prop)
    (hJ : ∀ i w w', J i w → Kept (WOD w0.heap.size) w w' → J i w') (hst : StepOk w0 Bl l sn caps J) (hsn : ∀ (args : Array Value) (wx : World), (callFunc sn args).run Try.prog wx = .ok (.enter sn args) wx)
    {t : Pl.Tr} (hsit : Sits l t 0 (-1)) (hlen : l.length = Pl.sz t) {w : World} (hon : On w0 (PB w0 Bl) w) (hJi : J 0 w) :
    Calls Try.prog 35 #[.slice (some ⟨rb, ro, none⟩) n rc, .func (.func sn) #[] caps] w fun e w' => e = .returned (.tuple #[]) ∧ J l.length w' ∧ Kept (SKD w0.heap.size Bl) w w' := by
  have HV := Lib.hid (visit_any HBs rc sn caps J hJ hst hsn t 0 (-1) hsit)
  obtain ⟨W, hW⟩ : ∃ W, W = w.alloc (.cells #[.slice (some ⟨rb, ro, none⟩) n rc, .func (.func sn) #[] caps] 93) := ⟨_, rfl⟩
  have hb : Below w.heap.size w W := by rw [hW]; exact below_1 _ _
  have v0 : W.heap[w.heap.size]? = some (.cells #[.slice (some ⟨rb, ro, none⟩) n rc, .func (.func sn) #[] caps] 93 (0, 0)) := by rw [hW]; exact heap_alloc_new _ _
  have HWw := Lib.hid hW
  have HB := Lib.hid hb
  have HV0 := Lib.hid v0
  have hw0w : w0.heap.size ≤ w.heap.size := hon.2
  have hwb : w.heap.size < W.heap.size := lt_blk v0
  have hszp := Pl.sz_pos t
  have hszt : Pl.sz t = Pl.szs t.kids + 1 := by cases t; rw [Pl.sz]; rfl
  have hnn := HBs.hn
  have hn2 := HBs.hn2
  have hn0 : (0 : Int) < (n : Int) := by omega
  have HFit : Hid (Fits l 0 (fun _ => none) (fun _ => []) false) := Lib.hid ⟨fun s => by
    rw [var_step HBs.hok (k := (0 : Nat)) (by omega) (by omega), show Pl.rw l (0 : Nat) = _ from hsit.row.2, if_pos (by show (-1 : Int) < 0; omega)]
    rfl, fun s e he => by cases he⟩
  have HA : Hid (∀ (wx w2 : World) (B fb m1 m2 : Nat), Below W.heap.size W wx → Below wx.heap.size wx w2 → FrIs w2 B fb m1 m2 (fun _ => none) (fun _ => []) false 0 → B = wx.heap.size →
      Calls Try.prog 57 #[wkV rb ro n rc (.func (.func sn) #[] caps), .int .i64 0, .pointer (some ⟨fb, 0, none⟩)] w2 fun e w' => e = .returned (.tuple #[]) ∧ J l.length w' ∧ Kept (SKD w0.heap.size Bl) w w' ∧ w'.cell? ⟨w.heap.size, 0, none⟩ = some (.slice (some ⟨rb, ro, none⟩) n rc) ∧ w'.cell? ⟨w.heap.size, 1, none⟩ = some (.func (.func sn) #[] caps)) := Lib.hid (by
    intro wx w2 B fb m1 m2 hbx hb2 hF hB
    have hB0 : w0.heap.size ≤ B := by have := hbx.size; omega
    have h := HV.out B fb m1 m2 _ _ false 0 hB0 (by omega) w2 (((hon.later HBs.hP hb).later HBs.hP hbx).later HBs.hP hb2) (hJ _ _ _ (hJ _ _ _ (hJ _ _ _ hJi (Kept.below hb)) (Kept.below hbx)) (Kept.below hb2)) hF HFit.out
    refine h.mono (fun e w' he => ?_)
    obtain ⟨he, hj, hf, hk⟩ := he
    have hk1 : Kept (WKD w0.heap.size Bl B) wx w' := (Kept.below hb2).trans hk
    have hk2 := hk1.ws (by omega)
    have hbox := ((Kept.below (D := SKD w0.heap.size Bl) hbx).trans hk2).keep _ _ v0 (.inr ⟨hw0w, walker_step⟩)
    exact ⟨he, by rw [hlen]; simpa using hj, (Kept.below hb).trans ((Kept.below hbx).trans hk2), (blk_one hbox 0 _ rfl).1, (blk_one hbox 1 _ rfl).1⟩)
  have w0' := (blk_one v0 0 _ rfl).1
  have w1' := (blk_one v0 1 _ rfl).1
  have d0 : W.drew.cell? ⟨w.heap.size, 0, none⟩ = some (.slice (some ⟨rb, ro, none⟩) n rc) := w0'
  have d1 : W.drew.cell? ⟨w.heap.size, 1, none⟩ = some (.func (.func sn) #[] caps) := w1'
  have HD : Hid (Below W.heap.size W W.drew) := Lib.hid (Below.refl _ _).drew
  clear hW hb hon v0 HBs hJ hsit hJi hst HV hszt hszp hnn hlen HFit
  go_enter Try.func35, Try.ntmps35
  go_upto_region 2 with fail
  rw [← HWw.out]
  go_region_held3 (fun w' => w'.cell? ⟨w.heap.size, 0, none⟩ = some (.slice (some ⟨rb, ro, none⟩) n rc) ∧ w'.cell? ⟨w.heap.size, 1, none⟩ = some (.func (.func sn) #[] caps))
    (first | with_reducible exact ⟨d0, d1⟩ | with_reducible exact ⟨b0, b1⟩ | with_reducible exact ⟨c0, c1⟩ | fail)
    ((first
      | (go_at_call 58; refine (newFrame_any _).mono ?_; rintro e w2 ⟨rfl, hF2, hb2⟩; have b0 := (World.cell?_of_block (w := W.drew) (a := ⟨w.heap.size, 0, none⟩) (hb2.block w.heap.size hwb)).trans d0; have b1 := (World.cell?_of_block (w := W.drew) (a := ⟨w.heap.size, 1, none⟩) (hb2.block w.heap.size hwb)).trans d1; have HF2 := Lib.hid hF2; have HB2 := Lib.hid hb2; clear hF2 hb2)
      | (go_at_call 57; refine (HA.out _ _ _ _ _ _ HD.out HB2.out HF2.out rfl).mono ?_; rintro e w4 ⟨rfl, hJ4, hK4, c0, c1⟩; have HJ4 := Lib.hid hJ4; have HK4 := Lib.hid hK4; clear hJ4 hK4)))
  all_goals go_wp2_with fail
  all_goals go_end0
  all_goals exact ⟨rfl, HJ4.out, HK4.out⟩
end Go.Proofs.Ytoelfiendfemaaa
