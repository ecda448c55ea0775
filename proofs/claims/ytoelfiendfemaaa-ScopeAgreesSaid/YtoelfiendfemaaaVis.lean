/- The walks of the reference's Strings (over lists as they are read) and Visible. -/
import Derived.Test.YtoelfiendfemaaaIns
import Derived.Test.YtoelfiendfemaaaDbls
namespace Go.Proofs.Ytoelfiendfemaaa
open Go.RowKit Go.Deep
set_option linter.unusedVariables false
set_option linter.unusedSimpArgs false

/-- Strings that lie somewhere. -/
def Strs0 (w : World) (a : Option Addr) (xs : List ByteArray) : Prop := xs.length ≤ maxLen ∧ (xs = [] ∨ ∃ b o, a = some ⟨b, o, none⟩ ∧ b < w.heap.size ∧ StrsAt w b o xs)
theorem Strs0.later {w w' : World} {a : Option Addr} {xs : List ByteArray} (h : Strs0 w a xs) (hb : Below w.heap.size w w') : Strs0 w' a xs := by
  obtain ⟨h1, h2⟩ := h
  refine ⟨h1, ?_⟩
  rcases h2 with h2 | ⟨b, o, e, hlt, h2⟩
  · exact .inl h2
  · exact .inr ⟨b, o, e, Nat.lt_of_lt_of_le hlt hb.size, h2.later hlt hb⟩
theorem strs_of_reads {w : World} {v : Value} {xs : List ByteArray} (h : Reads w v xs) : ∃ a c, v = .slice a xs.length c ∧ Strs0 w a xs := by
  rcases h with ⟨rfl, a, c, rfl, _⟩ | ⟨b, o, c, rfl, h1, h2, h3⟩
  · exact ⟨a, c, rfl, by decide, .inl rfl⟩
  · exact ⟨_, c, rfl, h3, .inr ⟨b, o, rfl, h1, h2⟩⟩
theorem reads_of_strs {w : World} {a : Option Addr} {c : Nat} {xs : List ByteArray} (h : Strs0 w a xs) (ha : xs = [] → a = none → c = 0) : Reads w (.slice a xs.length c) xs := by
  rcases h.2 with h0 | ⟨b, o, rfl, h1, h2⟩
  · subst h0; exact .inl ⟨rfl, a, c, rfl, ha rfl⟩
  · exact .inr ⟨b, o, c, rfl, h1, h2, h.1⟩
set_option maxHeartbeats 400000 in
theorem strs_any {w : World} (a b : Option Addr) (c d : Nat) (xs ys : List ByteArray) (hx : Strs0 w a xs) (hy : Strs0 w b ys) :
    Calls Try.prog 16 #[.slice a xs.length c, .slice b ys.length d] w fun e w' => e = .returned (.bool (decide (xs = ys))) ∧ Below w.heap.size w w' := by
  have hn1 : xs.length ≤ maxLen := hx.1
  have hn2 : ys.length ≤ maxLen := hy.1
  unfold maxLen at hn1 hn2
  by_cases hl : xs.length = ys.length
  · have HX := Lib.hid hx
    have HY := Lib.hid hy
    have HLen := Lib.hid hl
    clear hx hy
    rw [← hl]
    obtain ⟨n, hn⟩ : ∃ n, n = xs.length := ⟨_, rfl⟩
    have HN := Lib.hid hn
    rw [← hn] at hn1 ⊢
    clear hl hn hn2
    go_enter Try.func16, Try.ntmps16
    go_wp2_with fail
    go_loopw [5] (fun i wr => ∃ k nq : Nat, k ≤ n ∧ i = .int .i64 k ∧ xs.take k = ys.take k ∧ wr = w.drewN nq) (fun i _ => n - (intOf i).toNat)
    case atStart => exact ⟨0, 0, Nat.zero_le _, rfl, rfl, rfl⟩
    case round =>
      obtain ⟨k, nq, hk, rfl, heq, rfl⟩ := hrel
      have HE := Lib.hid heq
      clear heq
      by_cases hlt : k < n
      · have hkx : k < xs.length := by rw [← HN.out]; exact hlt
        have hky : k < ys.length := by rw [← HLen.out]; exact hkx
        have hgx := List.getElem?_eq_getElem hkx
        have hgy := List.getElem?_eq_getElem hky
        have hi0 : (0 : Int) ≤ (k : Int) := Int.natCast_nonneg _
        have hi1 : (k : Int) < (n : Int) := by omega
        rcases HX.out.2 with h0 | ⟨b1, o1, rfl, _, hat1⟩
        · rw [h0] at hkx; simp at hkx
        · rcases HY.out.2 with h0 | ⟨b2, o2, rfl, _, hat2⟩
          · rw [h0] at hky; simp at hky
          · have c1 := hat1 k _ hgx
            have c2 := hat2 k _ hgy
            have HGX := Lib.hid hgx
            have HGY := Lib.hid hgy
            generalize xs[k] = x at *
            generalize ys[k] = y at *
            clear hat1 hat2 hgx hgy
            by_cases hxy : x = y
            · subst hxy
              have HT := Lib.hid (take_same HE.out HGX.out HGY.out)
              have hb : (x.toList != x.toList) = false := by simp
              go_wp2_with fail
              go_quiet (fail)
              go_wp2_with fail
              exact ⟨⟨k + 1, _, by omega, by go_num, HT.out, rfl⟩, by simp [intOf]; omega⟩
            · have HD := Lib.hid (take_differ HGX.out HGY.out hxy)
              have hb := str_ne hxy
              have hb2 : (x.toList != y.toList) = true := by rw [bne, hb]; rfl
              clear hxy
              go_wp2_with fail
              go_quiet (fail)
              go_wp2_with fail
              go_ret
              exact ⟨ret_bool (decide_eq_false HD.out).symm, ⟨rfl, rfl, rfl, Nat.le_refl _, fun _ _ => rfl⟩⟩
      · have hkn : k = n := by omega
        subst hkn
        have HD : Hid (xs = ys) := Lib.hid (by have := HE.out; rw [HN.out, List.take_length] at this; rw [this, HLen.out, List.take_length])
        go_wp2_with fail
        go_ret
        exact ⟨ret_bool (decide_eq_true HD.out).symm, below_drewN _ _⟩
  · have HD := Lib.hid (show xs ≠ ys from fun e => hl (by rw [e]))
    obtain ⟨n, hn⟩ : ∃ n, n = xs.length := ⟨_, rfl⟩
    obtain ⟨m, hm⟩ : ∃ m, m = ys.length := ⟨_, rfl⟩
    rw [← hn, ← hm] at hl ⊢
    have hl2 : ((n : Int) == (m : Int)) = false := by simpa using fun h : (n : Int) = m => hl (by omega)
    have hl3 : ((n : Int) != (m : Int)) = true := by simpa using fun h : (n : Int) = m => hl (by omega)
    clear hn hm hx hy hl
    go_enter Try.func16, Try.ntmps16
    go_wp2_with fail
    go_ret
    exact ⟨ret_bool (decide_eq_false HD.out).symm, Below.refl _ _⟩


/- ### Visible -/
theorem nodup_len {α : Type} [DecidableEq α] : ∀ (A B : List α), A.Nodup → (∀ x ∈ A, x ∈ B) → A.length ≤ B.length
  | [], _, _, _ => Nat.zero_le _
  | a :: A, B, hn, h => by
    obtain ⟨h1, h2⟩ := List.nodup_cons.1 hn
    obtain ⟨s, t, rfl⟩ := List.append_of_mem (h a (by simp))
    have := nodup_len A (s ++ t) h2 (fun x hx => by
      have hx2 := h x (by simp [hx])
      have hne : x ≠ a := fun e => h1 (e ▸ hx)
      simp at hx2 ⊢
      rcases hx2 with h | h | h
      · exact .inl h
      · exact absurd h hne
      · exact .inr h)
    simp at this ⊢
    omega
theorem refB_nodup (xs : List ByteArray) : (Pl.refB xs).Nodup := by
  have h := (Pl.refL_facts (Pl.bs xs)).1
  unfold Pl.refB
  rw [List.nodup_iff_pairwise_ne, List.pairwise_map]
  refine h.imp fun {a b} hab he => ?_
  have : a = b := by rw [← Pl.mk_list a, ← Pl.mk_list b, he]
  subst this
  exact Pl.lt_irrefl _ hab
theorem vis_mem {l : List Pl.Rw} (hok : Pl.Ok l) {v : Int} : ∀ {k : Int}, 0 ≤ k → k < l.length → v ∈ Pl.vis l k → 0 ≤ v ∧ v < l.length := by
  have key : ∀ (n : Nat) (k : Int), 0 ≤ k → k < l.length → k.toNat < n → v ∈ Pl.vis l k → 0 ≤ v ∧ v < l.length := by
    intro n
    induction n with
    | zero => intro k _ _ h; omega
    | succ n ih =>
      intro k h0 h1 hn hm
      rw [Pl.vis_step hok h0 h1] at hm
      obtain ⟨hp1, hp2⟩ := ok_par hok h0 h1
      split at hm
      · cases hm
      · rcases List.mem_append.1 hm with hm | hm
        · exact declared_mem hok (by omega) (by omega) hm
        · split at hm
          · cases hm
          · exact ih _ (by omega) (by omega) (by omega) hm
  intro k h0 h1 hm
  exact key (k.toNat + 1) k h0 h1 (by omega) hm
/-- A list of names of a table and of constants, sorted, is short. -/
theorem names_len {l : List Pl.Rw} (C xs : List ByteArray) (hC : C.length ≤ 800) (hl : l.length ≤ 200) (h : ∀ x ∈ xs, x ∈ C ∨ ∃ d : Int, 0 ≤ d ∧ d < l.length ∧ x = (Pl.rw l d).text) : (Pl.refB xs).length ≤ 1000 := by
  have h1 := nodup_len (Pl.refB xs) (C ++ (List.range l.length).map fun (i : Nat) => (Pl.rw l i).text) (refB_nodup xs) (fun x hx => by
    rcases h x ((Pl.refB_mem xs x).1 hx) with h | ⟨d, h0, h1, rfl⟩
    · exact List.mem_append_left _ h
    · refine List.mem_append_right _ (List.mem_map.2 ⟨d.toNat, by simp; omega, ?_⟩)
      rw [Int.toNat_of_nonneg h0])
  rw [List.length_append, List.length_map, List.length_range] at h1
  omega
theorem consts_take (D : List Pl.Dc) (k : Nat) (d : Pl.Dc) (h : D[k]? = some d) : Pl.consts (D.take (k + 1)) = Pl.consts (D.take k) ++ (if d.kind = 3 then [d.name] else []) := by
  unfold Pl.consts
  rw [List.take_add_one, h, Option.toList_some, List.filter_append, List.map_append]
  congr 1
  by_cases hk : d.kind = 3
  · simp [hk]
  · simp [hk]
theorem consts_len (D : List Pl.Dc) : (Pl.consts D).length ≤ D.length := by
  unfold Pl.consts; rw [List.length_map]; exact List.length_filter_le _ _
/-- Names that a call lists. -/
def NamesP (xs : List ByteArray) (w : World) (e : Ending) (w' : World) : Prop := ∃ v, e = .returned v ∧ Reads w' v xs ∧ Below w.heap.size w w'
def txts (l : List Pl.Rw) (L : List Int) : List ByteArray := L.map fun d => (Pl.rw l d).text
theorem txts_append (l : List Pl.Rw) (A B : List Int) : txts l (A ++ B) = txts l A ++ txts l B := by unfold txts; rw [List.map_append]
end Go.Proofs.Ytoelfiendfemaaa
