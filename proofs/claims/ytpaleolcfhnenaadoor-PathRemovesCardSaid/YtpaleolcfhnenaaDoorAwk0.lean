/- The chapter's examples, as plain data. -/
import Derived.Test.YtpaleolcfhnenaaDoorUndo
namespace Go.Proofs.YtpaleolcfhnenaaDoor.Pl
set_option linter.unusedVariables false
abbrev num (s : ByteArray) : Tr := .node 17 s [] []
abbrev bin (s : ByteArray) (a b : Tr) : Tr := .node 24 s [] [a, b]
abbrev sumT : Tr := bin ⟨#[43]⟩ (num ⟨#[49]⟩) (num ⟨#[50]⟩)
abbrev proT : Tr := bin ⟨#[42]⟩ (num ⟨#[51]⟩) (num ⟨#[52]⟩)
abbrev callT (ks : List Tr) : Tr := .node 20 ⟨#[102]⟩ [] ks
theorem aw1 : idxP [1] sumT = some 2 := by decide
theorem aw2 : getP [1] sumT = some (num ⟨#[50]⟩) := by rfl
theorem aw3 : putP proT [0] sumT = bin ⟨#[43]⟩ proT (num ⟨#[50]⟩) := by rfl
theorem aw4 : replE sumT [0] proT = 0 := by decide
theorem aw5 : replE proT [0] sumT = 7 := by decide
theorem wth_bare (t : Tr) (ks : List Tr) (h : t.gaps = []) : wth t ks = .node t.kind t.text [] ks := by
  unfold wth; rw [h]; split <;> rfl
theorem awnm : nm ⟨#[102]⟩ = true := by
  have h : kw ⟨#[102]⟩ = kwL.any (fun k => (⟨#[102]⟩ : ByteArray).data.toList == k) := by unfold kw; rw [toList_eq]
  unfold nm; rw [h]; decide
theorem awname : nameOK 20 ⟨#[102]⟩ = true := by
  show (if txt 20 = 2 then _ else if txt 20 = 1 then nm ⟨#[102]⟩ else _) = true
  rw [if_neg (by decide), if_pos (by decide)]
  exact awnm
theorem aw_call (ks : List Tr) (h1 : shape 20 ⟨#[102]⟩ ks = true) (h2 : firstsE ks = 0) (h3 : rszs 2 1 ks ≤ 4000) (h4 : ks.length ≤ 16) : rchk (callT ks) = 0 := by
  have e1 : rsz 1 (callT ks) = min (rszs 2 1 ks) 4001 := by
    show (if 60 < 1 ∨ mostK 20 < ks.length then _ else _) = _
    rw [if_neg]
    show ¬(60 < 1 ∨ (16 : Int) < ks.length)
    omega
  have e2 : nodeE 20 ⟨#[102]⟩ [] ks = 0 := nodeE_of _ _ _ _ h1 awname (by unfold gapsOK; simp)
  have e3 : firstE (callT ks) = 0 := by
    show (if nodeE 20 ⟨#[102]⟩ [] ks ≠ 0 then _ else firstsE ks) = 0
    rw [if_neg (by rw [e2]; simp), h2]
  unfold rchk
  rw [e1, e3, if_neg (by omega)]
theorem awc1 : rchk (callT [sumT, proT]) = 0 := aw_call _ (by decide) (by decide) (by decide) (by decide)
theorem awc2 : rchk (callT [proT]) = 0 := aw_call _ (by decide) (by decide) (by decide) (by decide)
theorem awf : fits 20 1 24 = true := by decide
theorem aw7 : insT (callT [sumT]) [1] proT = callT [sumT, proT] := by
  show insT (callT [sumT]) ([] ++ [1]) proT = _
  rw [insT_snoc (u := callT [sumT]) 1 proT rfl, putP]
  exact wth_bare _ _ rfl
theorem aw6 : insE (callT [sumT]) [1] proT = 0 := by
  show insE (callT [sumT]) ([] ++ [1]) proT = _
  rw [insE_some (u := callT [sumT]) 1 proT rfl, if_neg (by decide), if_neg (by decide)]
  show (if rchk (insT (callT [sumT]) [1] proT) = 0 then _ else _) = _
  rw [aw7, awc1]; rfl
theorem aw9 : remT (callT [sumT, proT]) [0] = callT [proT] := by
  show remT (callT [sumT, proT]) ([] ++ [0]) = _
  rw [remT_snoc (u := callT [sumT, proT]) 0 rfl, putP]
  exact wth_bare _ _ rfl
theorem aw8 : remE (callT [sumT, proT]) [0] = 0 := by
  rw [remE_some (u := sumT) (by simp) rfl, aw9, awc2]; rfl
end Go.Proofs.YtpaleolcfhnenaaDoor.Pl
