/- Rows of parts in memory; the walks of own and kid. -/
import Derived.Test.YtiaajpdcacdngaaGreatDoorBMem
import Derived.Test.YtiaajpdcacdngaaGreatDoorPFacts
import Derived.Deep.AppendLies
import Derived.Deep.RegionLaw
import Derived.Deep.RegionWith
import Derived.Deep.RegionHeld3
import Derived.OwnWalk
import Derived.Laws.OwnMore
namespace Go.Proofs.YtiaajpdcacdngaaGreatDoor
open Go.RowKit
set_option linter.unusedVariables false
set_option linter.unusedSimpArgs false

def cells3 (p : Pl.Part) : List Value := [.string p.gap, .string p.text, .int .i64 p.kid]
def row3 (ps : List Pl.Part) : List Value := ps.flatMap cells3
theorem row3_append (a b : List Pl.Part) : row3 (a ++ b) = row3 a ++ row3 b := by unfold row3; simp
theorem row3_len (ps : List Pl.Part) : (row3 ps).length = ps.length * 3 := by
  induction ps with
  | nil => rfl
  | cons p ps ih => unfold row3 at ih ⊢; rw [List.flatMap_cons, List.length_append, ih, List.length_cons]; show 3 + _ = _; omega
theorem row3_get (L : List Pl.Part) (j : Nat) (t : Pl.Part) (h : L[j]? = some t) (f : Nat) (hf : f < 3) : (row3 L)[j * 3 + f]? = (cells3 t)[f]? := by
  induction L generalizing j with
  | nil => simp at h
  | cons a L ih =>
    have e : row3 (a :: L) = cells3 a ++ row3 L := by unfold row3; rw [List.flatMap_cons]
    rw [e]
    match j, h with
    | 0, h =>
      obtain rfl : a = t := by simpa using h
      rw [List.getElem?_append_left (by show 0 * 3 + f < 3; omega)]
      congr 1; omega
    | j + 1, h =>
      rw [List.getElem?_append_right (by show 3 ≤ _; omega)]
      have := ih j (by simpa using h)
      rw [← this]
      congr 1; show (j + 1) * 3 + f - 3 = _; omega
theorem row3_one (ps : List Pl.Part) : ∀ u ∈ row3 ps, u.oneCell' = true := by
  intro u hu
  unfold row3 at hu
  obtain ⟨p, _, hp⟩ := List.mem_flatMap.1 hu
  simp only [cells3, List.mem_cons, List.not_mem_nil, or_false] at hp
  rcases hp with rfl | rfl | rfl <;> rfl
theorem infoP : (Tryz.prog.info? 89).map (fun i => (i.zero, i.size, i.bytes)) = some (some (.agg #[.string ⟨#[]⟩, .string ⟨#[]⟩, .int .i64 0]), 3, 40) := by kernel_rfl
theorem info_parts {sz by' : Nat} {z : Value} {o : Option TypeInfo} (h : o.map (fun i => (i.zero, i.size, i.bytes)) = some (some z, sz, by')) : ∃ i, o = some i ∧ i.zero = some z ∧ i.size = sz ∧ i.bytes = by' := by
  obtain ⟨i, hi, hzz⟩ := Option.map_eq_some_iff.1 h
  simp only [Prod.mk.injEq] at hzz
  exact ⟨i, hi, hzz.1, hzz.2.1, hzz.2.2⟩
/-- A row of parts of the call's own. -/
def Parts (B : Nat) (w : World) (v : Value) (ps : List Pl.Part) : Prop := w.ownsRow B 89 3 v ps.length (row3 ps)
theorem lt_blk {w : World} {b : Nat} {o : Obj} (h : w.heap[b]? = some o) : b < w.heap.size := (Array.getElem?_eq_some_iff.1 h).1
theorem owns_later {w w' : World} {B : Nat} {e : TypeId} {size n : Nat} {v : Value} {xs : List Value} (h : w.ownsRow B e size v n xs) (hb : Below w.heap.size w w') : w'.ownsRow B e size v n xs := by
  refine ⟨h.1, ?_⟩
  rcases h.2 with h2 | ⟨g, cap, cur, h1, h2, h3, h4⟩
  · exact .inl h2
  · exact .inr ⟨g, cap, cur, h1, h2, by rw [hb.block g (lt_blk h3)]; exact h3, h4⟩
theorem owns_low {w : World} {B B' : Nat} {e : TypeId} {size n : Nat} {v : Value} {xs : List Value} (h : w.ownsRow B e size v n xs) (hB : B' ≤ B) : w.ownsRow B' e size v n xs := by
  refine ⟨h.1, ?_⟩
  rcases h.2 with h2 | ⟨g, cap, cur, h1, h2, h3, h4⟩
  · exact .inl h2
  · exact .inr ⟨g, cap, cur, h1, by omega, h3, h4⟩
theorem Parts.later {w w' : World} {B : Nat} {v : Value} {ps : List Pl.Part} (h : Parts B w v ps) (hb : Below w.heap.size w w') : Parts B w' v ps := owns_later h hb
theorem parts_nil (B : Nat) (w : World) : Parts B w (.slice none 0 0) [] := World.ownsRow_nil _ _ _ _
/-- A literal of parts. -/
theorem parts_lit (w : World) (ps : List Pl.Part) (cs : Array Value) (n : Nat) (hc : cs.toList = row3 ps) (hn : n = ps.length) (B : Nat) (hB : B ≤ w.heap.size) (hm : n ≤ 100) : Parts B (w.alloc (.cells cs 89)) (.slice (some ⟨w.heap.size, 0, none⟩) n n) ps := by
  subst hn
  have h := World.ownsRow_lit (base := B) (e := 89) (size := 3) w cs ps.length hB (by unfold maxLen; omega) (by rw [← Array.length_toList, hc, row3_len])
  rw [hc] at h
  exact h
/-- What a function that makes parts answers. -/
def PartsP (ps : List Pl.Part) (w : World) (e : Ending) (w' : World) : Prop := ∃ a c, e = .returned (.slice a ps.length c) ∧ Parts w.heap.size w' (.slice a ps.length c) ps ∧ Below w.heap.size w w'
theorem box_low (w : World) (o : Obj) : Below w.heap.size w (w.alloc o) := (Below.refl _ _).alloc (Nat.le_refl _) o

/- ### A node behind a pointer -/
/-- The cells of a node that its parts depend on: its kind, its text, its kids. -/
structure Nd (w : World) (b o : Nat) (k : Int) (s : ByteArray) (kv : Value) : Prop where
  c0 : w.cell? ⟨b, o, none⟩ = some (.int .i64 k)
  c1 : w.cell? ⟨b, o + 1, none⟩ = some (.string s)
  c3 : w.cell? ⟨b, o + 3, none⟩ = some kv
theorem Nd.lt {w : World} {b o : Nat} {k : Int} {s : ByteArray} {kv : Value} (h : Nd w b o k s kv) : b < w.heap.size := World.block_lt_of_cell? w _ h.c0
theorem Nd.of {w w' : World} {b o : Nat} {k : Int} {s : ByteArray} {kv : Value} (h : Nd w b o k s kv) (hb : w'.heap[b]? = w.heap[b]?) : Nd w' b o k s kv :=
  ⟨(World.cell?_of_block (w := w) (a := ⟨b, o, none⟩) hb).trans h.c0, (World.cell?_of_block (w := w) (a := ⟨b, o + 1, none⟩) hb).trans h.c1, (World.cell?_of_block (w := w) (a := ⟨b, o + 3, none⟩) hb).trans h.c3⟩
theorem Nd.later {w w' : World} {b o : Nat} {k : Int} {s : ByteArray} {kv : Value} (h : Nd w b o k s kv) (hb : Below w.heap.size w w') : Nd w' b o k s kv := h.of (hb.block b h.lt)

/- ### own, kid -/
set_option maxHeartbeats 400000 in
theorem pown_is (g t : ByteArray) (w : World) :
    Calls Tryz.prog 97 #[.string g, .string t] w fun e w' => e = .returned (.agg #[.string g, .string t, .int .i64 (-1)]) ∧ Below w.heap.size w w' := by
  go_enter Tryz.func97, Tryz.ntmps97
  go_wp2_with fail
  exact bodyPost_ret (v := .agg #[.string g, .string t, .int .i64 (-1)]) (by simp [results, Tryz.results97, go_sem]) rfl ⟨rfl, box_low _ _⟩
set_option maxHeartbeats 400000 in
theorem kid_is (g : ByteArray) (i : Int) (w : World) :
    Calls Tryz.prog 98 #[.string g, .int .i64 i] w fun e w' => e = .returned (.agg #[.string g, .string ⟨#[]⟩, .int .i64 i]) ∧ Below w.heap.size w w' := by
  go_enter Tryz.func98, Tryz.ntmps98
  go_wp2_with fail
  exact bodyPost_ret (v := .agg #[.string g, .string ⟨#[]⟩, .int .i64 i]) (by simp [results, Tryz.results98, go_sem]) rfl ⟨rfl, box_low _ _⟩
end Go.Proofs.YtiaajpdcacdngaaGreatDoor
