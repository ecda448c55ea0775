/- A region that draws its order: a load may be taken first though a later operation of the region writes its cell, if that one waits for it. -/
import Derived.Deep.RegionHeld
namespace Go.Proofs.YtiaajpdcacdngaaGreatDoor.Ol
open Go
set_option linter.unusedVariables false
set_option linter.unusedSimpArgs false

section
variable {P : Program} {ops : Array Oper} {Q : Exit → Act → World → Prop} {md : Region.Mode} {S : Array Bool → World → Prop}

/-- Whatever order is picked from here on, and S, of what has come up and the world, holds behind every operation. -/
def wpAnyL (P : Program) (md : Region.Mode) (ops : Array Oper) (Q : Exit → Act → World → Prop) (S : Array Bool → World → Prop) : Nat → Array Bool → Act → World → Prop
  | 0, listed, a, w => Region.ready md ops listed = [] ∧ Q .normal a w
  | fuel + 1, listed, a, w =>
    (Region.ready md ops listed = [] → Q .normal a w) ∧
    ∀ i ∈ Region.ready md ops listed, wpOp P ops Q i (fun a' w' => S (listed.setIfInBounds i true) w' ∧ wpAnyL P md ops Q S fuel (listed.setIfInBounds i true) a' w') a w
theorem wpAny_of : ∀ (fuel : Nat) (listed : Array Bool) (a : Act) (w : World), wpAnyL P md ops Q S fuel listed a w → wpAny P md ops Q fuel listed a w
  | 0, _, _, _, h => h
  | fuel + 1, _, _, _, h => ⟨h.1, fun i hi => wpOp_mono (fun a' w' h' => wpAny_of fuel _ a' w' h'.2) (h.2 i hi)⟩
/-- An operation that may come up now may be taken first, if it yields its value in every world that meets T, and S gives T as long as Ok says so of what has come up. -/
theorem wpAnyL_first {i : Nat} {oi : Oper} {v : Value} {T : World → Prop} {Ok : Array Bool → Prop} (hi : ops[i]? = some oi) (hsel : ∀ (j : Nat) (o : Oper) cs b, ops[j]? = some o → o.op ≠ .select cs b)
    (hQ : ∀ c a w, Q (.panic c) (a.put oi.dst v) w → Q (.panic c) a w)
    (hT : ∀ l w, Ok l → S (l.setIfInBounds i true) w → T w) (hSi : ∀ l w, S (l.setIfInBounds i true) w → S l w)
    (hOk : ∀ l j oj, Ok l → ops[j]? = some oj → j ≠ i → (∀ e ∈ oj.after, Region.binds md e = true → e.on ≠ i) → Ok (l.setIfInBounds j true)) :
    ∀ (fuel : Nat) (listed : Array Bool) (a : Act) (w : World),
      (∀ j oj, ops[j]? = some oj → j ≠ i → listed.getD j true = false → (∀ e ∈ oj.after, Region.binds md e = true → e.on ≠ i) → oi.apart ops oj = true) →
      i ∈ Region.ready md ops listed → YieldsIf P ops T oi v a → Ok listed → S (listed.setIfInBounds i true) w →
      wpAnyL P md ops Q S fuel (listed.setIfInBounds i true) (a.put oi.dst v) w → wpAnyL P md ops Q S (fuel + 1) listed a w := by
  intro fuel
  induction fuel with
  | zero =>
    intro listed a w _ hr hy hO hS H
    refine ⟨fun h => (by rw [h] at hr; cases hr), fun j hj => ?_⟩
    by_cases hji : j = i
    · subst hji; exact hy.wpOp hi (hT _ _ hO hS) ⟨hS, H⟩
    · have := ready_mono hj hji
      rw [H.1] at this
      cases this
  | succ fuel ih =>
    intro listed a w hfree hr hy hO hS H
    refine ⟨fun h => (by rw [h] at hr; cases hr), fun j hj => ?_⟩
    by_cases hji : j = i
    · subst hji; exact hy.wpOp hi (hT _ _ hO hS) ⟨hS, H⟩
    · have h1 := H.2 j (ready_mono hj hji)
      obtain ⟨hjun, oj, hoj, hall⟩ := mem_ready.1 hj
      have hnot : ∀ e ∈ oj.after, Region.binds md e = true → e.on ≠ i := fun e he hb heq => by
        have h1 := hall e he hb
        have h0 := (mem_ready.1 hr).1
        rw [heq] at h1
        rcases Nat.lt_or_ge i listed.size with h' | h'
        · simp [h'] at h0 h1; rw [h0] at h1; cases h1
        · simp [Array.getElem?_eq_none h'] at h1
      have h2 := wpOp_putIf hoj (hfree j oj hoj hji hjun hnot) (fun cs b => hsel i oi cs b hi) (fun cs b => hsel j oj cs b hoj) hQ hy h1
      have hfree' : ∀ k ok, ops[k]? = some ok → k ≠ i → (listed.setIfInBounds j true).getD k true = false →
          (∀ e ∈ ok.after, Region.binds md e = true → e.on ≠ i) → oi.apart ops ok = true := fun k ok hk hki hun hno => by
        refine hfree k ok hk hki ?_ hno
        by_cases hjk : j = k
        · subst hjk; exact hjun
        · rw [getD_set_ne true hjk] at hun; exact hun
      refine wpOp_mono (fun a' w' h3 => ⟨?_, ih (listed.setIfInBounds j true) a' w' hfree' (ready_mono hr (Ne.symm hji)) h3.1 (hOk _ _ _ hO hoj hji hnot) ?_ ?_⟩) h2
      · refine hSi _ _ ?_
        rw [Array.setIfInBounds_comm _ _ hji]; exact h3.2.1
      · rw [Array.setIfInBounds_comm _ _ hji]; exact h3.2.1
      · rw [Array.setIfInBounds_comm _ _ hji]
        exact h3.2.2
/-- T0 always; T1 as long as operation st has not come up. -/
def SL (T0 T1 : World → Prop) (st : Nat) (l : Array Bool) (w : World) : Prop := T0 w ∧ (l.getD st true = false → T1 w)
variable {T0 T1 : World → Prop} {st : Nat}
theorem sl_other {i : Nat} (hi : i ≠ st) (l : Array Bool) (w : World) (h : SL T0 T1 st (l.setIfInBounds i true) w) : SL T0 T1 st l w :=
  ⟨h.1, fun e => h.2 (by rw [getD_set_ne true hi]; exact e)⟩
theorem sl_put (l : Array Bool) (w : World) (h : T0 w ∧ T1 w) : SL T0 T1 st l w := ⟨h.1, fun _ => h.2⟩
/-- Number i is taken first, by T0. -/
theorem take0 (i : Nat) (oi : Oper) (d : Option Nat) (v : Value) {fuel : Nat} {listed : Array Bool} {a : Act} {w : World} (hi : ops[i]? = some oi) (hd : oi.dst = d) (his : i ≠ st)
    (hs : Region.noSelect ops = true) (hf : Region.free md ops listed i = true) (hr : (Region.ready md ops listed).contains i = true)
    (hQ : ∀ c a w, Q (.panic c) (a.put oi.dst v) w → Q (.panic c) a w) (hy : YieldsIf P ops T0 oi v a) (hS : T0 w ∧ T1 w)
    (h : wpAnyL P md ops Q (SL T0 T1 st) fuel (listed.setIfInBounds i true) (a.put d v) w) : wpAnyL P md ops Q (SL T0 T1 st) (fuel + 1) listed a w := by
  subst hd
  exact wpAnyL_first (T := T0) (Ok := fun _ => True) hi (Region.noSelect_spec hs) hQ (fun l w _ h => h.1) (sl_other his) (fun l j oj _ _ _ _ => trivial) fuel listed a w (Region.free_spec hi hf) (by simpa using hr) hy trivial (sl_put _ _ hS) h
/-- Number i is taken first, by T1: operation st waits for it. -/
theorem take1 (i : Nat) (oi : Oper) (d : Option Nat) (v : Value) {fuel : Nat} {listed : Array Bool} {a : Act} {w : World} (hi : ops[i]? = some oi) (hd : oi.dst = d) (his : i ≠ st)
    (hst : (match ops[st]? with | some o => o.after.any (fun e => Region.binds md e && e.on == i) | none => true) = true) (hl : listed.getD st true = false)
    (hs : Region.noSelect ops = true) (hf : Region.free md ops listed i = true) (hr : (Region.ready md ops listed).contains i = true)
    (hQ : ∀ c a w, Q (.panic c) (a.put oi.dst v) w → Q (.panic c) a w) (hy : YieldsIf P ops T1 oi v a) (hS : T0 w ∧ T1 w)
    (h : wpAnyL P md ops Q (SL T0 T1 st) fuel (listed.setIfInBounds i true) (a.put d v) w) : wpAnyL P md ops Q (SL T0 T1 st) (fuel + 1) listed a w := by
  subst hd
  refine wpAnyL_first (T := T1) (Ok := fun l => l.getD st true = false) hi (Region.noSelect_spec hs) hQ (fun l w hO h => h.2 (by rw [getD_set_ne true his]; exact hO)) (sl_other his) (fun l j oj hO hj hji hno => ?_) fuel listed a w (Region.free_spec hi hf) (by simpa using hr) hy hl (sl_put _ _ hS) h
  by_cases hjs : j = st
  · subst hjs
    rw [hj] at hst
    obtain ⟨e, he, hb⟩ := Array.any_eq_true'.1 hst
    rw [Bool.and_eq_true] at hb
    exact absurd (beq_iff_eq.1 hb.2) (hno e he hb.1)
  · rw [getD_set_ne true hjs]; exact hO
/-- One of those that may come up comes up. -/
def OneL (P : Program) (md : Region.Mode) (ops : Array Oper) (Q : Exit → Act → World → Prop) (S : Array Bool → World → Prop) (fuel : Nat) (listed : Array Bool) (a : Act) (w : World) (i : Nat) : Prop :=
  wpOp P ops Q i (fun a' w' => S (listed.setIfInBounds i true) w' ∧ wpAnyL P md ops Q S fuel (listed.setIfInBounds i true) a' w') a w
theorem one {fuel : Nat} {listed : Array Bool} {a : Act} {w : World} {i : Nat} {o : Oper} (ho : ops[i]? = some o)
    (h : ∀ K' : Act → World → Prop, Shut (∀ a w, T0 w → ((listed.setIfInBounds i true).getD st true = false → T1 w) → wpAnyL P md ops Q (SL T0 T1 st) fuel (listed.setIfInBounds i true) a w → K' a w) → if Region.wanted o (yielded ops a.tmps) = true then Oper.wp P o a w K' Q else K' (a.put o.dst undef) w) :
    OneL P md ops Q (SL T0 T1 st) fuel listed a w i :=
  wpOp_step ho (fun K' hK => h K' (fun a w h0 h1 hW => hK a w ⟨⟨h0, h1⟩, hW⟩))
theorem ready1 {i : Nat} {fuel : Nat} {listed : Array Bool} {a : Act} {w : World} (hr : Region.ready md ops listed = [i]) (h : OneL P md ops Q S fuel listed a w i) : wpAnyL P md ops Q S (fuel + 1) listed a w :=
  ⟨fun h0 => (by rw [hr] at h0; cases h0), fun j hj => by rw [hr] at hj; obtain rfl := List.mem_singleton.1 hj; exact h⟩
theorem ready2 {i k : Nat} {fuel : Nat} {listed : Array Bool} {a : Act} {w : World} (hr : Region.ready md ops listed = [i, k]) (h : OneL P md ops Q S fuel listed a w i) (h2 : OneL P md ops Q S fuel listed a w k) : wpAnyL P md ops Q S (fuel + 1) listed a w :=
  ⟨fun h0 => (by rw [hr] at h0; cases h0), fun j hj => by
    rw [hr] at hj
    rcases List.mem_cons.1 hj with rfl | hj
    · exact h
    · obtain rfl := List.mem_singleton.1 hj; exact h2⟩
theorem done {listed : Array Bool} {a : Act} {w : World} (hr : Region.ready md ops listed = []) (h : Q .normal a w) : ∀ fuel, wpAnyL P md ops Q S fuel listed a w
  | 0 => ⟨hr, h⟩
  | _ + 1 => ⟨fun _ => h, by rw [hr]; simp⟩
theorem begin_any {id : Nat} {a : Act} {w : World} (hm : P.follows .mixedOrders = true)
    (h : wpAnyL P .any ops Q S ops.size (Array.replicate ops.size false) a w.drew) : (Code.region id ops true).wp P Q a w :=
  wp_region_any hm (wpAny_of _ _ _ _ h)
/-- A load of a whole value. -/
theorem yields_load {T : World → Prop} {o : Oper} {a : Act} {v : Value} (ty : TypeId) (x : Operand) (ho : o.op = .load ty x) (p : Value) (hx : a.eval x = p) (hw : Region.wanted o (yielded ops a.tmps) = true)
    (hl : ∀ w, T w → (Instr.loadAt ty p).run P w = .ok v w) : YieldsIf P ops T o v a := .inl ⟨hw, fun w hT => by
  unfold execOp
  simp only [ho, hx, hl w hT, Sem.run_bind, Sem.run_pure, Result.andThen_ok]⟩
end
end Go.Proofs.YtiaajpdcacdngaaGreatDoor.Ol
