/- How many words a tree has, and how long they are. -/
import Derived.Test.YtiaajpdcacdngaaGreatDoorPLay
namespace Go.Proofs.YtiaajpdcacdngaaGreatDoor.Pl
open Go
set_option linter.unusedVariables false
set_option linter.unusedSimpArgs false

theorem tok_le {x : ByteArray} (h : IsTok x) : x.size ≤ 32 := by
  obtain ⟨k, hk⟩ := h
  rw [Lib.size_eq]
  rcases whole_cases _ k hk with ⟨c, t, e, ha, hk⟩ | ⟨rfl, e | e | e | ⟨c, e, hc⟩⟩
  · rcases hk with ⟨_, hi, _⟩ | ⟨_, hl, _⟩
    · rcases Nat.lt_or_ge 13 (x.data.toList).length with h | h
      · exact absurd (isInt_long _ h) (by rw [hi]; simp)
      · omega
    · exact hl
  all_goals (rw [e]; simp)
theorem wordsOK_mem (l : List Wd) (h : WordsOK l) : ∀ w ∈ l, IsTok w.text ∨ w.text = ⟨#[]⟩ := by
  induction l with
  | nil => intro w hw; cases hw
  | cons a l ih =>
    obtain ⟨_, h2⟩ := h
    intro w hw
    rcases h2 with ⟨h2, h3⟩ | ⟨h2, rfl⟩
    · rcases List.mem_cons.1 hw with rfl | hw
      · exact .inl h2
      · exact ih h3 w hw
    · obtain rfl := List.mem_singleton.1 hw
      exact .inr h2
theorem words_le (t : Tr) (h : firstE t = 0) (hz : sz t ≤ 1000000) : ∀ x ∈ words t, x.size ≤ 32 := by
  intro x hx
  obtain ⟨w, hw, rfl⟩ := List.mem_map.1 hx
  rcases wordsOK_mem _ (tree_words t h hz).1 w hw with h | h
  · exact tok_le h
  · show w.text.size ≤ 32
    rw [h]; decide
theorem manys_le (ks : List Tr) (h : ∀ u ∈ ks, many u + 1 ≤ 5 * sz u) : manys ks + ks.length ≤ 5 * szs ks := by
  induction ks with
  | nil => exact Nat.le_refl _
  | cons t ts ih =>
    rw [manys_cons, szs, List.length_cons]
    have := h t (by simp)
    have := ih (fun u hu => h u (by simp [hu]))
    omega
theorem many_le (t : Tr) : firstE t = 0 → many t + 1 ≤ 5 * sz t := by
  refine Tr.ind (M := fun t => firstE t = 0 → many t + 1 ≤ 5 * sz t) (fun k s g ks ih h => ?_) t
  obtain ⟨hn, hks⟩ := first_zero k s g ks h
  obtain ⟨h1, h2, h3⟩ := nodeE_zero k s g ks hn
  have har := shape_ar k s ks h1
  have := manys_le ks (fun u hu => ih u hu (firsts_mem ks hks u hu))
  have := (rown_size k s ks.length har).2
  rw [many_node, sz]
  omega
theorem words_len (t : Tr) (h : firstE t = 0) : (words t).length = many t := by unfold words; rw [List.length_map]; exact ev_len t 0 _ h
theorem chk_ht (t : Tr) (h : chk t = 0) (hz : sz t ≤ 1000000) : ht t ≤ 60 := by
  have := (chk_zero t h).2.1
  rw [htw_eq t (by omega)] at this
  omega
end Go.Proofs.YtiaajpdcacdngaaGreatDoor.Pl
