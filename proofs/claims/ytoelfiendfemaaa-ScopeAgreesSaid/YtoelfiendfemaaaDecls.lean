/- The walks of the reference's Decls, Tables and Fits. -/
import Derived.Test.YtoelfiendfemaaaWalk
namespace Go.Proofs.Ytoelfiendfemaaa
open Go.RowKit Go.Deep
set_option linter.unusedVariables false
set_option linter.unusedSimpArgs false

theorem IsU.one {w : World} {a : Option Addr} {us : List Pl.Un} {R : Nat → Sl} (h : IsU w a us R) {j : Nat} {x : Pl.Un} (hx : us[j]? = some x) :
    ∃ b o, a = some ⟨b, o, none⟩ ∧ b < w.heap.size ∧ w.rangeAt b (o + j * 7) (cells7 x (R j)) ∧ IsT w x.tree (R j) := by
  rcases h.2.1 with h0 | ⟨b, o, e, hb, hat⟩
  · rw [h0] at hx; cases j <;> cases hx
  · exact ⟨b, o, e, hb, hat j x hx, (h.2.2 j x hx).1⟩
theorem declsTo_len (us : List Pl.Un) (h : Few us) : ∀ k, k ≤ us.length → (Pl.declsTo us k).length ≤ k * 200 := by
  intro k
  induction k with
  | zero => intro _; simp [Pl.declsTo]
  | succ k ih =>
    intro hk
    have hx := List.getElem?_eq_getElem (show k < us.length by omega)
    rw [Pl.declsTo_succ us k _ hx, List.length_append]
    have h1 := ih (by omega)
    have h2 := (h.2 _ (List.getElem_mem (show k < us.length by omega))).1
    have h3 : (Pl.declsOf us[k] k).length ≤ 200 := by
      unfold Pl.declsOf
      split
      · simp
      · exact Nat.le_trans (dcs_len _ _ _ _ _ _) h2
    omega
/-- The declarations that a call lists. -/
def DeclsP (D : List Pl.Dc) (w : World) (e : Ending) (w' : World) : Prop := ∃ a c, e = .returned (.slice a D.length c) ∧ FlatW 5 cellsD w' a D ∧ Below w.heap.size w w'
set_option maxHeartbeats 1600000 in
set_option maxRecDepth 100000 in
theorem rdecls_any (a : Option Addr) (n c : Nat) (us : List Pl.Un) (R : Nat → Sl) (w : World) (hU : IsU w a us R) (hF : Few us) (hn : n = us.length) :
    Calls Try.prog 38 #[.slice a n c] w (DeclsP (Pl.decls us) w) := by
  have hn4 : n ≤ 4 := by rw [hn]; exact hF.1
  have HU := Lib.hid hU
  have HF := Lib.hid hF
  have HN := Lib.hid hn
  clear hU hF hn
  go_enter Try.func38, Try.ntmps38
  go_wp2_with fail
  go_loopw [3, 4] (fun v i wr => ∃ (k : Nat) (a2 : Option Addr) (n2 c2 : Nat), k ≤ n ∧ i = .int .i64 k ∧ v = .slice a2 n2 c2 ∧ n2 = (Pl.declsTo us k).length ∧ wr.ownsRow w.heap.size 77 5 (.slice a2 n2 c2) n2 ((Pl.declsTo us k).flatMap cellsD) ∧ Below w.heap.size w wr) (fun _ i _ => n - (intOf i).toNat)
  case atStart => exact ⟨0, none, 0, 0, Nat.zero_le _, rfl, rfl, rfl, World.ownsRow_nil _ _ _ _, Below.refl _ _⟩
  case round =>
    obtain ⟨k, a2, n2, c2, hk, rfl, rfl, hn2, hown, hbel⟩ := hrel
    have HN2 := Lib.hid hn2
    have HO := Lib.hid hown
    have HB := Lib.hid hbel
    have hgr := hbel.size
    by_cases hlt : k < n
    · have hkx : k < us.length := by rw [← HN.out]; exact hlt
      have hx := List.getElem?_eq_getElem hkx
      have HS := Lib.hid (Pl.declsTo_succ us k _ hx)
      have hlit := HF.out.2 _ (List.getElem_mem hkx)
      have hdl := declsTo_len us HF.out k (by omega)
      obtain ⟨b, o, rfl, hb, hrg, hT⟩ := HU.out.one hx
      have hk0 : (0 : Int) ≤ (k : Int) := Int.natCast_nonneg _
      have hk1 : (k : Int) < (n : Int) := by omega
      generalize us[k] = x at *
      generalize R k = r at *
      obtain ⟨_, _, s6, st⟩ := range7 (fun i v hv => (hbel.cell (p := ⟨b, o + k * 7 + i, none⟩) hb).trans (hrg i v hv))
      have HST := Lib.hid st
      have hle : n2 ≤ 800 := by rw [hn2]; omega
      clear hx hrg st hn2
      cases hbr : x.broken with
      | true =>
        rw [hbr] at s6
        have HS2 : Hid (Pl.declsTo us (k + 1) = Pl.declsTo us k) := Lib.hid (by rw [HS.out]; unfold Pl.declsOf; rw [if_pos hbr, List.append_nil])
        clear hown hbel
        go_wp2_with fail
        exact ⟨⟨k + 1, a2, n2, c2, by omega, by go_num, rfl, by rw [HS2.out]; exact HN2.out, by rw [HS2.out]; exact HO.out, HB.out⟩, by simp [intOf]; omega⟩
      | false =>
        rw [hbr] at s6
        have HS2 : Hid (Pl.declsTo us (k + 1) = Pl.declsTo us k ++ Pl.dcs x.tree k 0 ⟨#[]⟩ ⟨#[]⟩ false) := Lib.hid (by rw [HS.out]; unfold Pl.declsOf; rw [if_neg (by simp [hbr])]; rfl)
        have HW := Lib.hid (walk_at hT (fun b h => h) w.heap.size (Nat.le_refl _) wr (Same.below hbel fun _ h => h) hgr a2 n2 c2 (Pl.declsTo us k) (k : Int) 0 ⟨#[]⟩ ⟨#[]⟩ false (by have := hlit.1; omega) (by have := hlit.1; omega) HN2.out (fun y hy => (hlit.2 y hy).2) (by decide) hown)
        obtain ⟨ga, gc, da, dc⟩ := r
        clear hown hbel hT
        go_wp2_with (first
          | (refine wpList_load_mid rfl 54 _ rfl b (o + k * 7 + 2) rfl [.int .i64 x.tree.kind, .string x.tree.text, .slice ga x.tree.gaps.length gc, .slice da x.tree.kids.length dc] _ HST.out Try.underlying54 rfl sizeN ?_)
          | (go_at_call 59; refine HW.out.mono ?_; rintro e w2 ⟨a3, n3, c3, rfl, hn3, hown3, hgr3, hob3⟩; have HN3 := Lib.hid hn3; have HO3 := Lib.hid hown3; have HG3 := Lib.hid hgr3; clear hn3 hown3 hgr3 hob3))
        refine ⟨⟨k + 1, a3, n3, c3, by omega, by go_num, rfl, by rw [HS2.out]; exact HN3.out, by rw [HS2.out]; exact HO3.out.alloc _, ?_⟩, by simp [intOf]; omega⟩
        exact (HB.out.grown HG3.out hgr (fun x hx => (HO.out.lt x hx).1)).alloc (Nat.le_trans hgr HG3.out.size) _
    · have hkn : k = n := by omega
      subst hkn
      have HD : Hid (Pl.declsTo us k = Pl.decls us) := Lib.hid (by unfold Pl.decls; rw [HN.out])
      go_wp2_with fail
      go_ret
      obtain ⟨a3, c3, he, hf⟩ := flat_row (cl := cellsD) (fun _ => rfl) (by decide) HO.out HN2.out
      exact ⟨a3, c3, by rw [he, HD.out]; rfl, by rw [← HD.out]; exact hf, HB.out⟩
end Go.Proofs.Ytoelfiendfemaaa
