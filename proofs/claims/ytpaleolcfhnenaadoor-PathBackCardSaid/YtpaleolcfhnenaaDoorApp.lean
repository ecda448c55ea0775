/- Lists of nodes that are sliced and appended to. -/
import Derived.Test.YtpaleolcfhnenaaDoorWith
import Derived.Maps.AppendAt
import Derived.Deep.AppendSrc
import Derived.Deep.Upon
namespace Go.Proofs.YtpaleolcfhnenaaDoor.Rt
open Go.RowKit
set_option linter.unusedVariables false
set_option linter.unusedSimpArgs false
set_option maxRecDepth 100000

/-- A row of nodes: what lies where P says, all of its capacity in use, or the call's own. -/
structure RowP (P : Nat → Prop) (B : Nat) (w : World) (a : Option Addr) (n c : Nat) (xs : List Value) : Prop where
  len : xs.length = n * 4
  cap : n ≤ c
  at' : n = 0 ∨ ∃ b o, a = some ⟨b, o, none⟩ ∧ (P b ∨ B ≤ b ∧ b < w.heap.size) ∧ ∀ (j : Nat) u, xs[j]? = some u → w.cell? ⟨b, o + j, none⟩ = some u
  kind : c = n ∨ w.ownsRow B 25 4 (.slice a n c) n xs
theorem RowP.drew {P : Nat → Prop} {B n c : Nat} {w : World} {a : Option Addr} {xs : List Value} (h : RowP P B w a n c xs) : RowP P B w.drew a n c xs := ⟨h.len, h.cap, h.at', h.kind⟩
theorem add_at (b o j : Nat) : (⟨b, o, none⟩ : Addr).add j = ⟨b, o + j, none⟩ := by simp [Addr.add_lit]
theorem row_own {P : Nat → Prop} {B n : Nat} {w : World} {v : Value} {xs : List Value} (h : w.ownsRow B 25 4 v n xs) (h0 : 0 < n) : ∃ a c, v = .slice a n c ∧ RowP P B w a n c xs := by
  rcases h.2 with ⟨rfl, h3⟩ | ⟨g, cap, cur, rfl, hg, hh, hn1, hm, hz, ht⟩
  · omega
  · refine ⟨_, _, rfl, h.1, hn1, .inr ⟨g, 0, rfl, .inr ⟨hg, lt_blk hh⟩, fun j u hu => ?_⟩, .inr h⟩
    rw [← ht, List.getElem?_take] at hu
    split at hu
    · rw [Nat.zero_add, cell_of_row w g _ cur _ _ hh, ← hu]; simp
    · cases hu
theorem run_app {P : Nat → Prop} {B n c : Nat} {a : Option Addr} {xs : List Value} (w : World) (h : RowP P B w a n c xs) (hB : B ≤ w.heap.size) (xa : Option Addr) (m xc : Nat) (news : List Value) (hl : news.length = m * 4)
    (hm : m = 0 ∨ ∃ b o, xa = some ⟨b, o, none⟩ ∧ ∀ (j : Nat) u, news[j]? = some u → w.cell? ⟨b, o + j, none⟩ = some u) (h1 : ∀ u ∈ news, u.oneCell' = true) (hbig : n + m ≤ 1000000) (ty : TypeId) :
    ∃ a' c' w', (Builtin.append_ #[23, 23] ty #[.slice a n c, .slice xa m xc]).run Tryd.prog w = .ok (.slice a' (n + m) c') w' ∧ RowP P B w' a' (n + m) c' (xs ++ news) ∧ Below B w w' := by
  obtain ⟨i, hi, hz, hs, hb⟩ := info_parts infoN
  have hu : Tryd.prog.underlying 23 = some (.slice 25) := Tryd.underlying23
  have hzs : (Value.agg #[.int .i64 0, .string ⟨#[]⟩, .slice none 0 0, .slice none 0 0]).cells.size = 4 := by simp [Value.cells]
  rcases Nat.eq_zero_or_pos m with rfl | hpos
  · obtain rfl : news = [] := List.eq_nil_of_length_eq_zero (by omega)
    have hsrc : Src Tryd.prog i.size 23 (.slice xa 0 xc) 0 [] w := by
      cases xa with
      | none => exact Src.ofNil w hu xc
      | some ad => exact Src.ofSlice w hu ad 0 xc [] (by simp) (fun j u hj => by simp at hj) (fun u hu => by simp at hu)
    refine ⟨a, c, w, ?_, ?_, (Below.refl w.heap.size w).mono hB⟩
    · exact run_append_nothing w _ _ ty _ i hu hi a n c h.cap _ hsrc
    · rw [List.append_nil]; exact h
  · have hmax : n + m ≤ maxLen := by unfold maxLen; omega
    rcases hm with h0 | ⟨xb, xo, rfl, hat⟩
    · omega
    have hnew : ∀ (j : Nat) u, news[j]? = some u → w.cell? ((⟨xb, xo, none⟩ : Addr).add j) = some u := fun j u hj => by rw [add_at]; exact hat j u hj
    have done : ∀ v' w', (Builtin.append_ #[23, 23] ty #[.slice a n c, .slice (some ⟨xb, xo, none⟩) m xc]).run Tryd.prog w = .ok v' w' → w'.ownsRow B 25 4 v' (n + m) (xs ++ news) → Below B w w' →
        ∃ a' c' w', (Builtin.append_ #[23, 23] ty #[.slice a n c, .slice (some ⟨xb, xo, none⟩) m xc]).run Tryd.prog w = .ok (.slice a' (n + m) c') w' ∧ RowP P B w' a' (n + m) c' (xs ++ news) ∧ Below B w w' := by
      intro v' w' hr hown hb
      obtain ⟨a', c', rfl, hrow⟩ := row_own (P := P) hown (by omega)
      exact ⟨a', c', w', hr, hrow, hb⟩
    rcases h.kind with hc | hown
    · cases a with
      | none =>
        have hn0 : n = 0 := by
          rcases h.at' with h0 | ⟨b, o, h0, _⟩
          · exact h0
          · cases h0
        subst hn0
        obtain rfl : c = 0 := hc
        obtain rfl : xs = [] := List.eq_nil_of_length_eq_zero (by have := h.len; omega)
        obtain ⟨v', w', hr, h2, h3, _⟩ := run_append_own_at (P := Tryd.prog) w B _ ty _ i _ 4 72 hu hi hz hs hb hzs (by omega) (.slice none 0 0) 0 [] (World.ownsRow_nil w _ _ _) ⟨xb, xo, none⟩ m xc news hl hnew h1 hmax (by omega) hB
        exact done v' w' hr h2 (((Below.refl w.heap.size w).mono hB).grown h3 hB (fun k hk => by cases hk))
      | some ad =>
        have holds : ∀ (j : Nat) u, xs[j]? = some u → w.cell? (ad.add j) = some u := by
          intro j u hj
          rcases h.at' with h0 | ⟨b, o, h0, _, hcell⟩
          · have := h.len
            rw [List.eq_nil_of_length_eq_zero (l := xs) (by omega)] at hj
            cases hj
          · cases h0
            rw [add_at]; exact hcell j u hj
        obtain ⟨v', w', hr, h2, h3⟩ := run_append_arg_grows (P := Tryd.prog) w _ ty _ i _ 4 72 hu hi hz hs hb hzs (by omega) ad n c xs h.len holds ⟨xb, xo, none⟩ m xc news hl hnew (by omega) hmax (by omega)
        exact done v' w' hr (h2.mono hB) (((Below.refl w.heap.size w).mono hB).grown h3 hB (fun k hk => by cases hk))
    · obtain ⟨v', w', hr, h2, h3, _⟩ := run_append_own_at (P := Tryd.prog) w B _ ty _ i _ 4 72 hu hi hz hs hb hzs (by omega) (.slice a n c) n xs hown ⟨xb, xo, none⟩ m xc news hl hnew h1 hmax (by omega) hB
      exact done v' w' hr h2 (((Below.refl w.heap.size w).mono hB).grown h3 hB (fun k hk => (hown.lt k hk).1))
/-- At a step of a region that draws its order. -/
theorem step_app {ops : Array Oper} {o : Oper} {ac : Act} {K : Act → World → Prop} {Q : Exit → Act → World → Prop} {E : Prop} {w : World} (hgd : o.guard = none) (s x : Operand)
    (ho : o.op = .call { callee := .builtin .append, args := #[s, x], argTypes := #[23, 23] })
    (P : Nat → Prop) (B n c : Nat) (a : Option Addr) (xs : List Value) (hs : ac.eval s = .slice a n c) (h : RowP P B w a n c xs) (hB : B ≤ w.heap.size) (xa : Option Addr) (m xc : Nat) (news : List Value) (hx : ac.eval x = .slice xa m xc) (hl : news.length = m * 4)
    (hm : m = 0 ∨ ∃ b o, xa = some ⟨b, o, none⟩ ∧ ∀ (j : Nat) u, news[j]? = some u → w.cell? ⟨b, o + j, none⟩ = some u) (h1 : ∀ u ∈ news, u.oneCell' = true) (hbig : n + m ≤ 1000000)
    (hK : ∀ a' c' w', RowP P B w' a' (n + m) c' (xs ++ news) → Below B w w' → K (ac.put o.dst (.slice a' (n + m) c')) w') :
    if Region.wanted o (yielded ops ac.tmps) = true then Oper.wp Tryd.prog o ac w K Q else E := by
  have hw : Region.wanted o (yielded ops ac.tmps) = true := by simp [Region.wanted, hgd]
  rw [if_pos hw]
  obtain ⟨a', c', w', hr, h2, h3⟩ := run_app w h hB xa m xc news hl hm h1 hbig o.type
  unfold Oper.wp execOp
  simp only [ho, resolve, invoke, builtin, Sem.run_bind, Sem.run_pure, Result.andThen_ok, List.map_toArray, List.map_cons, List.map_nil, hs, hx, hr]
  exact hK a' c' w' h2 h3
/-- The kids of a node, each with its slices. -/
theorem kids_list {P : Nat → Prop} {w : World} {a : Option Addr} {ks : List Pl.Tr} (h : KidsIn P w a ks) : ∃ L : List (Pl.Tr × Sl), L.map Prod.fst = ks ∧ (ks = [] ∨ ∃ b o, a = some ⟨b, o, none⟩ ∧ P b ∧ ∀ (j : Nat) x, L[j]? = some x → AtT w b (o + j * 4) x.1 x.2) ∧ ∀ (j : Nat) x, L[j]? = some x → Tin P w x.1 x.2 := by
  obtain ⟨_, R, h2, h3⟩ := h
  have get : ∀ (j : Nat) x, (ks.mapIdx fun j u => (u, R j))[j]? = some x → ∃ u, ks[j]? = some u ∧ x = (u, R j) := by
    intro j x hx
    rw [List.getElem?_mapIdx, Option.map_eq_some_iff] at hx
    obtain ⟨u, hu, rfl⟩ := hx
    exact ⟨u, hu, rfl⟩
  refine ⟨ks.mapIdx fun j u => (u, R j), ?_, ?_, ?_⟩
  · apply List.ext_getElem?
    intro j
    rw [List.getElem?_map, List.getElem?_mapIdx]
    cases ks[j]? <;> rfl
  · rcases h2 with h0 | ⟨b, o, e, hb, hat⟩
    · exact .inl h0
    · refine .inr ⟨b, o, e, hb, fun j x hx => ?_⟩
      obtain ⟨u, hu, rfl⟩ := get j x hx
      exact hat j u hu
  · intro j x hx
    obtain ⟨u, hu, rfl⟩ := get j x hx
    exact h3 j u hu
theorem cells4_of {w : World} {b o : Nat} {x : Pl.Tr × Sl} (h : AtT w b o x.1 x.2) (f : Nat) (hf : f < 4) : w.cell? ⟨b, o + f, none⟩ = (cells4 x)[f]? := by
  obtain ⟨h0, h1, h2, h3⟩ := h
  match f, hf with
  | 0, _ => exact h0
  | 1, _ => exact h1
  | 2, _ => exact h2
  | 3, _ => exact h3
theorem row4_cells {w : World} {b o : Nat} {L : List (Pl.Tr × Sl)} (h : ∀ (j : Nat) x, L[j]? = some x → AtT w b (o + j * 4) x.1 x.2) : ∀ (j : Nat) u, (row4 L)[j]? = some u → w.cell? ⟨b, o + j, none⟩ = some u := by
  intro j u hu
  have hj := (List.getElem?_eq_some_iff.1 hu).1
  rw [row4_len] at hj
  have hq : j / 4 < L.length := by omega
  have hx := List.getElem?_eq_getElem hq
  have hr := row4_get L (j / 4) _ hx (j % 4) (by omega)
  rw [show j / 4 * 4 + j % 4 = j by omega, hu] at hr
  have := cells4_of (h _ _ hx) (j % 4) (by omega)
  rw [show o + j / 4 * 4 + j % 4 = o + j by omega, ← hr] at this
  exact this
theorem row4_at {w : World} {b o : Nat} {L : List (Pl.Tr × Sl)} (h : ∀ (j : Nat) u, (row4 L)[j]? = some u → w.cell? ⟨b, o + j, none⟩ = some u) : ∀ (j : Nat) x, L[j]? = some x → AtT w b (o + j * 4) x.1 x.2 := by
  intro j x hx
  have one : ∀ f, f < 4 → w.cell? ⟨b, o + j * 4 + f, none⟩ = (cells4 x)[f]? := by
    intro f hf
    have h4 := row4_get L j x hx f hf
    have hfl : f < (cells4 x).length := hf
    rw [List.getElem?_eq_getElem hfl] at h4 ⊢
    rw [Nat.add_assoc]
    exact h _ _ h4
  exact ⟨one 0 (by decide), one 1 (by decide), one 2 (by decide), one 3 (by decide)⟩
theorem row4_one (L : List (Pl.Tr × Sl)) : ∀ u ∈ row4 L, u.oneCell' = true := by
  intro u hu
  unfold row4 at hu
  rw [List.mem_flatMap] at hu
  obtain ⟨x, _, hx⟩ := hu
  unfold cells4 at hx
  simp only [List.mem_cons, List.not_mem_nil, or_false] at hx
  rcases hx with rfl | rfl | rfl | rfl <;> rfl
theorem row4_app (L M : List (Pl.Tr × Sl)) : row4 (L ++ M) = row4 L ++ row4 M := by unfold row4; rw [List.flatMap_append]
/-- A row of nodes is a list of kids. -/
theorem row_kids {P : Nat → Prop} {B n c : Nat} {a : Option Addr} {w : World} {L : List (Pl.Tr × Sl)} (h : RowP P B w a n c (row4 L)) (hn : n ≤ 1000000) (hL : ∀ (j : Nat) x, L[j]? = some x → Tin (fun b => P b ∨ B ≤ b ∧ b < w.heap.size) w x.1 x.2) :
    n = L.length ∧ KidsIn (fun b => P b ∨ B ≤ b ∧ b < w.heap.size) w a (L.map Prod.fst) := by
  have hl := h.len
  rw [row4_len] at hl
  have hl' : n = L.length := by omega
  refine ⟨hl', by rw [List.length_map]; unfold maxLen; omega, fun q => match L[q]? with | some x => x.2 | none => ⟨none, 0, none, 0⟩, ?_, fun j u hu => ?_⟩
  · rcases h.at' with h0 | ⟨b, o, e, hb, hcell⟩
    · left; rw [List.map_eq_nil_iff]; exact List.eq_nil_of_length_eq_zero (by omega)
    · refine .inr ⟨b, o, e, hb, fun q v hv => ?_⟩
      rw [List.getElem?_map] at hv
      obtain ⟨x, hx, rfl⟩ := Option.map_eq_some_iff.1 hv
      simp only [hx]
      exact row4_at hcell q x hx
  · rw [List.getElem?_map] at hu
    obtain ⟨x, hx, rfl⟩ := Option.map_eq_some_iff.1 hu
    simp only [hx]
    exact hL j x hx
end Go.Proofs.YtpaleolcfhnenaaDoor.Rt
