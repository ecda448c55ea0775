/- What holds while Layout walks. -/
import Derived.Test.YtiaajpdcacdngaaGreatDoorWLayM
import Derived.Test.YtiaajpdcacdngaaGreatDoorWStepL
namespace Go.Proofs.YtiaajpdcacdngaaGreatDoor
open Go.RowKit
set_option linter.unusedVariables false
set_option linter.unusedSimpArgs false

/-- Nodes keep their kinds, texts and kids, whatever becomes of their gaps. -/
theorem FixL.cells {w w' : World} (a : LT) : ∀ b o, FixL w a b o → (∀ ν ∈ refs a b o, ∀ f, f = 0 ∨ f = 1 ∨ f = 3 → w'.cell? ⟨ν.1, ν.2 + f, none⟩ = w.cell? ⟨ν.1, ν.2 + f, none⟩) → FixL w' a b o := by
  refine LT.ind (M := fun a => ∀ b o, FixL w a b o → (∀ ν ∈ refs a b o, ∀ f, f = 0 ∨ f = 1 ∨ f = 3 → w'.cell? ⟨ν.1, ν.2 + f, none⟩ = w.cell? ⟨ν.1, ν.2 + f, none⟩) → FixL w' a b o) (fun k s g ks r ih b o h hc => ?_) a
  rw [fixL_node] at h ⊢
  rw [refs_node] at hc
  obtain ⟨h1, h2, h3⟩ := h
  have hr := hc (b, o) (List.mem_cons_self ..)
  refine ⟨⟨(hr 0 (.inl rfl)).trans h1.c0, (hr 1 (.inr (.inl rfl))).trans h1.c1, (hr 3 (.inr (.inr rfl))).trans h1.c3⟩, h2, fixK_of w' ks _ _ fun j u hu => ?_⟩
  exact ih u (List.mem_of_getElem? hu) _ _ (fixK_get w ks _ _ h3 j u hu) fun ν hν => hc ν (List.mem_cons_of_mem _ (refsK_of ks _ _ j u ν hu hν))
/-- The block of a slice. -/
def blkOf (a : Option Addr) : Option Nat := a.map (·.block)
theorem ownBlock_slice (a : Option Addr) (n c : Nat) : (Value.slice a n c).ownBlock = blkOf a := by cases a <;> rfl
/-- The gaps of all nodes, each node's in a row of its own. -/
structure Rows (w : World) (R0 : Nat) (S : List (Nat × Nat)) (D : List Ev) (G : Nat × Nat → Option Addr × Nat) : Prop where
  cell : ∀ ν ∈ S, w.cell? ⟨ν.1, ν.2 + 2, none⟩ = some (.slice (G ν).1 (gapsOf D ν).length (G ν).2)
  row : ∀ ν ∈ S, w.ownsRow R0 9 1 (.slice (G ν).1 (gapsOf D ν).length (G ν).2) (gapsOf D ν).length (strV (gapsOf D ν))
  apart : ∀ ν ∈ S, ∀ μ ∈ S, ν ≠ μ → ∀ x, blkOf (G ν).1 = some x → blkOf (G μ).1 ≠ some x
structure InvL (W1 : World) (lo : Nat) (A : LT) (b0 : Nat) (D : List Ev) (w : World) : Prop where
  low : Below lo W1 w
  fix : FixL w A b0 0
  nb : ∀ ν ∈ refs A b0 0, NBlk w ν.1
  g : ∃ G, Rows w W1.heap.size (refs A b0 0) D G
theorem set_other {w : World} {b o x y : Nat} {v : Value} (h : (x, y) ≠ (b, o)) : (w.setCell ⟨b, o, none⟩ v).cell? ⟨x, y, none⟩ = w.cell? ⟨x, y, none⟩ :=
  World.cell?_setCell_other (w := w) (a := ⟨b, o, none⟩) (b := ⟨x, y, none⟩) (v := v) (fun e => h (by injection e with e1 e2; rw [e1, e2]))
theorem gapsOf_snoc (D : List Ev) (e : Ev) (ν : Nat × Nat) : gapsOf (D ++ [e]) ν = if (e.b, e.o) = ν then gapsOf D ν ++ [e.gap] else gapsOf D ν := by
  rw [gapsOf_append]
  by_cases h : (e.b, e.o) = ν
  · rw [if_pos h]
    congr 1
    unfold gapsOf
    rw [List.filter_cons, if_pos ((atRef_iff _ _).2 h)]; rfl
  · rw [if_neg h, gapsOf_none [e] ν (fun x hx => by obtain rfl := List.mem_singleton.1 hx; exact h), List.append_nil]
/-- Layout's step at one word. -/
theorem layL (W1 : World) (lo b0 : Nat) (A : LT) (hlo : lo ≤ W1.heap.size) (hst : ∀ ν ∈ refs A b0 0, ν.2 % 4 = 0 ∧ lo ≤ ν.1 ∧ ν.1 < W1.heap.size) (D : List Ev) (e : Ev) (he : (e.b, e.o) ∈ refs A b0 0) (hD : D.length ≤ 1000000) (w : World) (h : InvL W1 lo A b0 D w) :
    Calls Tryz.prog 36 #[wordV e] w fun en w' => en = .returned (.tuple #[]) ∧ InvL W1 lo A b0 (D ++ [e]) w' ∧ KeepP w w' := by
  obtain ⟨G, hG⟩ := h.g
  have hsz := h.low.size
  have hs0 := hst _ he
  simp only at hs0
  have hc := hG.cell _ he
  have hrow := hG.row _ he
  simp only at hc hrow
  have hgl := gapsOf_len D (e.b, e.o)
  refine (layout1_any e.b e.o _ _ e.own e.gap e.text _ W1.heap.size _ w hc ((h.nb _ he).free _) hrow hs0.2.2 hsz (by omega)).mono ?_
  rintro en w' ⟨rfl, gg, cap, W, w3, rfl, hown, hW, hgrow, hat⟩
  rw [ownBlock_slice] at hgrow hat
  have hWs := hW.size
  have hgs := hgrow.size
  -- blocks that were there
  have old : ∀ x, x < w.heap.size → blkOf (G (e.b, e.o)).1 ≠ some x → w3.heap[x]? = w.heap[x]? := fun x hx hn => (hgrow.block x (by omega) (fun q => hn q.symm)).trans (hW.block x hx)
  have rowlt : ∀ ν ∈ refs A b0 0, ∀ x, blkOf (G ν).1 = some x → W1.heap.size ≤ x ∧ x < w.heap.size := fun ν hν x hx => by
    have := (hG.row ν hν).lt x (by rw [ownBlock_slice]; exact hx)
    exact this
  have node : ∀ x, x < W1.heap.size → w3.heap[x]? = w.heap[x]? := fun x hx => old x (by omega) (fun q => by have := (rowlt _ he x q).1; omega)
  have cellN : ∀ ν ∈ refs A b0 0, ∀ f, (ν.1, ν.2 + f) ≠ (e.b, e.o + 2) → (w3.setCell ⟨e.b, e.o + 2, none⟩ (.slice (some ⟨gg, 0, none⟩) ((gapsOf D (e.b, e.o)).length + 1) cap)).cell? ⟨ν.1, ν.2 + f, none⟩ = w.cell? ⟨ν.1, ν.2 + f, none⟩ := fun ν hν f hne =>
    (set_other hne).trans (World.cell?_of_block (w := w) (a := ⟨ν.1, ν.2 + f, none⟩) (node ν.1 (hst ν hν).2.2))
  have hsn := fun ν => gapsOf_snoc D e ν
  refine ⟨rfl, ⟨?_, ?_, ?_, ⟨fun ν => if ν = (e.b, e.o) then (some ⟨gg, 0, none⟩, cap) else G ν, ?_, ?_, ?_⟩⟩, ?_⟩
  · refine h.low.trans ⟨hgrow.os.trans hW.os, hgrow.tape.trans hW.tape, hgrow.output.trans hW.output, by show w.heap.size ≤ (w3.setCell _ _).heap.size; simp; omega, fun x hx => ?_⟩
    exact (Below.heap_setCell _ _ _ _ (by show x ≠ e.b; omega)).trans (node x (by omega))
  · refine FixL.cells A b0 0 h.fix fun ν hν f hf => cellN ν hν f (fun q => ?_)
    have h4 := (hst ν hν).1
    have h5 := hs0.1
    have : ν.2 + f = e.o + 2 := congrArg Prod.snd q
    omega
  · exact fun ν hν => ((h.nb ν hν).of (node ν.1 (hst ν hν).2.2)).set
  · intro ν hν
    rw [hsn]
    by_cases hq : ν = (e.b, e.o)
    · subst hq
      rw [if_pos rfl, if_pos rfl, List.length_append, List.length_singleton]
      have hcell3 : w3.cell? ⟨e.b, e.o + 2, none⟩ = some _ := (World.cell?_of_block (w := w) (a := ⟨e.b, e.o + 2, none⟩) (node e.b hs0.2.2)).trans hc
      exact World.cell?_setCell_same' w3 ⟨e.b, e.o + 2, none⟩ _ (by rw [hcell3]; rfl)
    · rw [if_neg hq, if_neg (fun q => hq q.symm)]
      refine (cellN ν hν 2 (fun q => hq ?_)).trans (hG.cell ν hν)
      have q1 : ν.1 = e.b := congrArg Prod.fst q
      have q2 : ν.2 + 2 = e.o + 2 := congrArg Prod.snd q
      exact Prod.ext q1 (by show ν.2 = e.o; omega)
  · intro ν hν
    rw [hsn]
    by_cases hq : ν = (e.b, e.o)
    · subst hq
      rw [if_pos rfl, if_pos rfl, List.length_append, List.length_singleton]
      have : strV (gapsOf D (e.b, e.o) ++ [e.gap]) = strV (gapsOf D (e.b, e.o)) ++ [.string e.gap] := by unfold strV; simp
      rw [this]
      exact ownsRow_setCell_below hown (by show e.b < _; exact hs0.2.2) _
    · rw [if_neg hq, if_neg (fun q => hq q.symm)]
      have r1 := owns_later (hG.row ν hν) hW
      have r2 := r1.kept hgrow (by
        rw [ownBlock_slice]
        cases hb : blkOf (G ν).1 with
        | none => exact .inl rfl
        | some x => exact .inr (fun q => hG.apart ν hν _ he hq x hb q.symm))
      exact ownsRow_setCell_below r2 (by show e.b < _; exact hs0.2.2) _
  · intro ν hν μ hμ hne x hx
    have newb : ∀ y, some gg = some y → blkOf (G (e.b, e.o)).1 = some y ∨ w.heap.size ≤ y := fun y hy => by
      have := Option.some.inj hy; subst this; exact hat
    by_cases hq : ν = (e.b, e.o)
    · rw [if_pos hq] at hx
      have hm : ¬ μ = (e.b, e.o) := fun q => hne (hq.trans q.symm)
      rw [if_neg hm]
      intro hy
      rcases newb x hx with h1 | h1
      · exact hG.apart _ he μ hμ (fun q => hm q.symm) x h1 hy
      · have := (rowlt μ hμ x hy).2; omega
    · rw [if_neg hq] at hx
      by_cases hm : μ = (e.b, e.o)
      · rw [if_pos hm]
        intro hy
        rcases newb x hy with h1 | h1
        · exact hG.apart ν hν _ he hq x hx h1
        · have := (rowlt ν hν x hx).2; omega
      · rw [if_neg hm]
        exact hG.apart ν hν μ hμ hne x hx
  · refine ⟨by show w.heap.size ≤ (w3.setCell _ _).heap.size; simp; omega, fun x c fz hx => ?_⟩
    have hxl := lt_blk hx
    have no : ∀ {T : TypeId} {d : Array Value} {f2 : Nat × Nat}, w.heap[x]? = some (.cells d T f2) → T ≠ 89 → False := fun h2 hT => by
      rw [h2] at hx
      injection hx with hx
      injection hx with _ hx _
      exact hT hx
    have hxb : x ≠ e.b := fun q => by
      obtain ⟨cs, h2⟩ := h.nb _ he
      simp only at h2
      rw [← q] at h2
      exact no h2 (by decide)
    refine (Below.heap_setCell _ _ _ _ hxb).trans ((old x hxl (fun q => ?_)).trans hx)
    rcases hrow.2 with ⟨h1, _⟩ | ⟨g, cap2, cur, h1, _, h2, _⟩
    · injection h1 with h1 _ _
      rw [h1] at q; simp [blkOf] at q
    · injection h1 with h1 _ _
      rw [h1] at q
      have : g = x := by simpa [blkOf] using q
      subst this
      exact no h2 (by decide)
theorem stepL (W1 : World) (lo b0 : Nat) (A : LT) (hlo : lo ≤ W1.heap.size) (hst : ∀ ν ∈ refs A b0 0, ν.2 % 4 = 0 ∧ lo ≤ ν.1 ∧ ν.1 < W1.heap.size) (hT : (evL A b0 0 0 ⟨#[]⟩).length ≤ 1000000) : Step 36 (fun v => #[v]) (evL A b0 0 0 ⟨#[]⟩) (InvL W1 lo A b0) where
  keep := fun D w w' h hb => by
    obtain ⟨G, hG⟩ := h.g
    have hsz := h.low.size
    have hlt : ∀ ν ∈ refs A b0 0, ν.1 < w.heap.size := fun ν hν => by have := (hst ν hν).2.2; omega
    exact ⟨h.low.trans (hb.mono (by omega)), FixL.cells A b0 0 h.fix fun ν hν f _ => hb.cell (p := ⟨ν.1, ν.2 + f, none⟩) (hlt ν hν), fun ν hν => (h.nb ν hν).of (hb.block _ (hlt ν hν)),
      G, fun ν hν => (hb.cell (p := ⟨ν.1, ν.2 + 2, none⟩) (hlt ν hν)).trans (hG.cell ν hν), fun ν hν => owns_later (hG.row ν hν) hb, hG.apart⟩
  call := fun D e hp w h => layL W1 lo b0 A hlo hst D e (ev_ref A b0 0 0 ⟨#[]⟩ e (hp.subset (by simp))) (by have := hp.length_le; rw [List.length_append] at this; omega) w h
/-- What the nodes then hold is a tree. -/
theorem rows_isT {w : World} {R0 lo : Nat} {S : List (Nat × Nat)} {D : List Ev} {G : Nat × Nat → Option Addr × Nat} (hR : Rows w R0 S D G) (hlo : lo ≤ R0) (hS : ∀ ν ∈ S, lo ≤ ν.1 ∧ ν.1 < w.heap.size) (hgap : ∀ e ∈ D, e.gap.size ≤ 1000000) (hD : D.length ≤ 1000000) (t0 : Pl.Tr) : ∀ (a : LT) (b o : Nat) (w0 : World) (r0 : Sl), er a = Pl.bare t0 → IsT w0 t0 r0 → FixL w a b o → (∀ ν ∈ refs a b o, ν ∈ S) →
    Tin (fun b => lo ≤ b ∧ b < w.heap.size) w (layG D a b o) ⟨(G (b, o)).1, (G (b, o)).2, a.sl.da, a.sl.dc⟩ := by
  refine Pl.Tr.ind (M := fun t0 => ∀ (a : LT) (b o : Nat) (w0 : World) (r0 : Sl), er a = Pl.bare t0 → IsT w0 t0 r0 → FixL w a b o → (∀ ν ∈ refs a b o, ν ∈ S) → Tin (fun b => lo ≤ b ∧ b < w.heap.size) w (layG D a b o) ⟨(G (b, o)).1, (G (b, o)).2, a.sl.da, a.sl.dc⟩) (fun k0 s0 g0 ks0 ih a b o w0 r0 he ht hf hs => ?_) t0
  obtain ⟨hts, _, htl, R, _, htr⟩ := ht.parts
  cases a with
  | node k s g ks r =>
    rw [er, Pl.bare] at he
    injection he with e1 e2 e3 e4
    rw [fixL_node] at hf
    rw [refs_node] at hs
    obtain ⟨hnd, hda, hfk⟩ := hf
    have hlen : ks.length = ks0.length := by have := congrArg List.length e4; rw [ers_len, Pl.bares_len] at this; exact this
    rw [layG_node]
    have hbo := hs (b, o) (List.mem_cons_self ..)
    have hrow := hR.row _ hbo
    have hgl := gapsOf_len D (b, o)
    refine .mk _ _ (fun j => match ks[j]? with | some u => ⟨(G (kb r, ko r + j * 4)).1, (G (kb r, ko r + j * 4)).2, u.sl.da, u.sl.dc⟩ | none => ⟨none, 0, none, 0⟩) (by show s.size ≤ maxLen; rw [e2]; exact hts) ?_ (by show (layGs D ks _ _).length ≤ maxLen; rw [layGs_len, hlen]; exact htl) ?_ (fun j v hv => ?_)
    · refine ⟨by show (gapsOf D (b, o)).length ≤ maxLen; unfold maxLen; omega, fun x hx => ?_, ?_⟩
      · have hx : x ∈ gapsOf D (b, o) := hx
        unfold gapsOf at hx
        obtain ⟨e, he, rfl⟩ := List.mem_map.1 hx
        have := hgap e (List.mem_filter.1 he).1
        unfold maxLen; omega
      · rcases Nat.eq_zero_or_pos (gapsOf D (b, o)).length with h0 | h0
        · exact .inl (List.eq_nil_of_length_eq_zero h0)
        · obtain ⟨gg, hgg, h1, h2, h3⟩ := owns_addr hrow h0
          refine .inr ⟨gg, 0, hgg, ⟨by omega, h2⟩, fun j x hj => ?_⟩
          have hj : (gapsOf D (b, o))[j]? = some x := hj
          have := h3 j (.string x) (by unfold strV; rw [List.getElem?_map, hj]; rfl)
          have hadd : (⟨gg, 0, none⟩ : Addr).add j = ⟨gg, j, none⟩ := by unfold Addr.add; split <;> simp_all
          rw [hadd] at this
          rw [Nat.zero_add]; exact this
    · rcases hda with h0 | h0
      · left; show layGs D ks _ _ = []; rw [h0, layGs]
      · rcases Nat.eq_zero_or_pos ks.length with hz | hz
        · left; show layGs D ks _ _ = []; rw [List.eq_nil_of_length_eq_zero hz, layGs]
        · refine .inr ⟨kb r, ko r, h0, ?_, fun j v hv => ?_⟩
          · have hu := List.getElem?_eq_getElem hz
            have hm : (kb r, ko r + 0 * 4) ∈ refsK ks (kb r) (ko r) := refsK_of ks _ _ 0 _ _ hu (by cases ks[0]; rw [refs_node]; exact List.mem_cons_self ..)
            exact hS _ (hs _ (List.mem_cons_of_mem _ hm))
          · have hv : (layGs D ks (kb r) (ko r))[j]? = some v := hv
            rw [layGs_get] at hv
            obtain ⟨u, hu, rfl⟩ := Option.map_eq_some_iff.1 hv
            simp only [hu]
            have hfu := fixK_get w ks _ _ hfk j u hu
            have hm : (kb r, ko r + j * 4) ∈ refsK ks (kb r) (ko r) := refsK_of ks _ _ j u _ hu (by cases u; rw [refs_node]; exact List.mem_cons_self ..)
            have hcu := hR.cell _ (hs _ (List.mem_cons_of_mem _ hm))
            cases u with
            | node k2 s2 g2 ks2 r2 =>
              rw [fixL_node] at hfu
              rw [layG_node]
              refine ⟨hfu.1.c0, hfu.1.c1, hcu, ?_⟩
              show _ = some (Value.slice r2.da (layGs D ks2 _ _).length r2.dc)
              rw [layGs_len]; exact hfu.1.c3
    · have hv : (layGs D ks (kb r) (ko r))[j]? = some v := hv
      rw [layGs_get] at hv
      obtain ⟨u, hu, rfl⟩ := Option.map_eq_some_iff.1 hv
      simp only [hu]
      have hj0 : j < ks0.length := by have := (List.getElem?_eq_some_iff.1 hu).1; omega
      have hu0 := List.getElem?_eq_getElem hj0
      refine ih _ (List.getElem_mem hj0) u _ _ w0 _ ?_ (htr j _ hu0) (fixK_get w ks _ _ hfk j u hu) fun ν hν => hs ν (List.mem_cons_of_mem _ (refsK_of ks _ _ j u ν hu hν))
      have := congrArg (fun l => l[j]?) e4
      simp only [ers_map, Pl.bares_map, List.getElem?_map, hu, hu0] at this
      exact Option.some.inj this
end Go.Proofs.YtiaajpdcacdngaaGreatDoor
