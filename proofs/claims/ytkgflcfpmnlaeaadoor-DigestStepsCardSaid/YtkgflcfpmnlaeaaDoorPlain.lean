/- Plain facts on digests and their hexadecimal form. -/
import Derived.Laws.Bits64
import Derived.Laws.BytesArg
namespace Go.Proofs.YtkgflcfpmnlaeaaDoor.Pl
open Go

/-- One step of a digest. -/
def st (d c : Int) : Int := IntKind.u64.wrap (bits .xor .u64 d c * 1099511628211)
def sum (l : List UInt8) : Int := l.foldl (fun d c => st d c.toNat) 14695981039346656037
theorem sum_snoc (l : List UInt8) (c : UInt8) : sum (l ++ [c]) = st (sum l) c.toNat := by simp [sum, List.foldl_append]
theorem sum_nil : sum [] = 14695981039346656037 := rfl

theorem take_snoc (s : ByteArray) (k : Nat) (h : k < s.size) : s.data.toList.take (k + 1) = s.data.toList.take k ++ [s[k]] := by
  rw [List.take_succ_eq_append_getElem (by simpa using h)]; rfl
theorem sum_take (s : ByteArray) (k : Nat) (h : k < s.size) : sum (s.data.toList.take (k + 1)) = st (sum (s.data.toList.take k)) s[k].toNat := by
  rw [take_snoc s k h, sum_snoc]
theorem take_all (s : ByteArray) (k : Nat) (h : ¬ k < s.size) : s.data.toList.take k = s.data.toList := by
  rw [List.take_of_length_le]
  have : s.data.toList.length = s.size := by simp
  omega
theorem len_list (s : ByteArray) : s.data.toList.length = s.size := by simp

/-- The first k bytes of a number, as steps. -/
def num (d n : Int) : Nat → Int
  | 0 => d
  | k + 1 => st (num d n k) (n / 2 ^ (56 - 8 * k) % 256)
theorem num_succ (d n : Int) (k : Nat) : num d n (k + 1) = st (num d n k) (n / 2 ^ (56 - 8 * k) % 256) := rfl
def mix (a b : Int) : Int := num (num 14695981039346656037 a 8) b 8

/-- The digest of the first strings of a list. -/
def lst (l : List ByteArray) : Int := l.foldl (fun d s => mix d (sum s.data.toList)) 14695981039346656037
theorem lst_snoc (l : List ByteArray) (s : ByteArray) : lst (l ++ [s]) = mix (lst l) (sum s.data.toList) := by simp [lst, List.foldl_append]
theorem lst_take (l : List ByteArray) (k : Nat) (h : k < l.length) : lst (l.take (k + 1)) = mix (lst (l.take k)) (sum l[k].data.toList) := by
  rw [List.take_succ_eq_append_getElem h, lst_snoc]

/-- The hexadecimal digit of a number below sixteen. -/
def hx (m : Nat) : Nat := if m < 10 then 48 + m else 87 + m
/-- The value of a digit, or -1. -/
def val (c : Nat) : Int := if 48 ≤ c ∧ c ≤ 57 then (c : Int) - 48 else if 97 ≤ c ∧ c ≤ 102 then (c : Int) - 87 else -1

theorem val_lt (c : Nat) : val c < 16 := by unfold val; split <;> (try split) <;> omega
theorem val_ge (c : Nat) : -1 ≤ val c := by unfold val; split <;> (try split) <;> omega
theorem val_hx (m : Nat) (h : m < 16) : val (hx m) = m := by
  unfold val hx
  by_cases h1 : m < 10
  · rw [if_pos h1, if_pos ⟨by omega, by omega⟩]; omega
  · rw [if_neg h1, if_neg (by omega), if_pos ⟨by omega, by omega⟩]; omega
theorem hx_val (c : Nat) (h : 0 ≤ val c) : hx (val c).toNat = c := by
  unfold val at h ⊢
  by_cases h1 : 48 ≤ c ∧ c ≤ 57
  · rw [if_pos h1] at h ⊢; unfold hx; rw [if_pos (by omega)]; omega
  · rw [if_neg h1] at h ⊢
    by_cases h2 : 97 ≤ c ∧ c ≤ 102
    · rw [if_pos h2] at h ⊢; unfold hx; rw [if_neg (by omega)]; omega
    · rw [if_neg h2] at h; omega
theorem hx_lt (m : Nat) (h : m < 16) : hx m < 256 := by unfold hx; split <;> omega
/-- No digit: no place of the table holds it. -/
theorem val_none (c : Nat) (h : ∀ k, k < 16 → hx k ≠ c) : val c = -1 := by
  have h1 := val_ge c
  have h2 := val_lt c
  by_cases h0 : 0 ≤ val c
  · exact absurd (hx_val c h0) (h _ (by omega))
  · omega

/-- The number of the first digits. -/
def parN (l : List UInt8) : Nat := l.foldl (fun d c => d * 16 + (val c.toNat).toNat) 0
def okL (l : List UInt8) : Prop := ∀ c ∈ l, 0 ≤ val c.toNat
theorem parN_snoc (l : List UInt8) (c : UInt8) : parN (l ++ [c]) = parN l * 16 + (val c.toNat).toNat := by simp [parN, List.foldl_append]
theorem okL_snoc (l : List UInt8) (c : UInt8) : okL (l ++ [c]) ↔ okL l ∧ 0 ≤ val c.toNat := by
  unfold okL
  constructor
  · intro h; exact ⟨fun x hx => h x (by simp [hx]), h c (by simp)⟩
  · rintro ⟨h, hc⟩ x hx
    rcases List.mem_append.1 hx with h1 | h1
    · exact h x h1
    · obtain rfl := List.mem_singleton.1 h1; exact hc
theorem snoc_of (l : List UInt8) (h : l ≠ []) : ∃ a x, l = a ++ [x] := ⟨_, _, (List.dropLast_concat_getLast h).symm⟩
theorem parN_lt' : ∀ (n : Nat) (l : List UInt8), l.length = n → parN l < 16 ^ n
  | 0, l, h => by rw [List.eq_nil_of_length_eq_zero h]; decide
  | n + 1, l, h => by
    obtain ⟨a, c, rfl⟩ := snoc_of l (by intro e; subst e; simp at h)
    simp only [List.length_append, List.length_singleton, Nat.add_right_cancel_iff] at h
    have ih := parN_lt' n a h
    have := val_lt c.toNat
    rw [parN_snoc, Nat.pow_succ]
    omega
theorem parN_lt (l : List UInt8) : parN l < 16 ^ l.length := parN_lt' _ l rfl

/-- Lists of digits of one length with one number are one list. -/
theorem parN_inj : ∀ (n : Nat) (a b : List UInt8), a.length = n → b.length = n → okL a → okL b → parN a = parN b → a = b
  | 0, a, b, ha, hb, _, _, _ => by
    rw [List.eq_nil_of_length_eq_zero ha, List.eq_nil_of_length_eq_zero hb]
  | n + 1, a, b, ha, hb, oa, ob, h => by
    have ea : a ≠ [] := by intro e; subst e; simp at ha
    have eb : b ≠ [] := by intro e; subst e; simp at hb
    obtain ⟨a', x, rfl⟩ := snoc_of a ea
    obtain ⟨b', y, rfl⟩ := snoc_of b eb
    obtain ⟨oa1, ox⟩ := (okL_snoc _ _).1 oa
    obtain ⟨ob1, oy⟩ := (okL_snoc _ _).1 ob
    rw [parN_snoc, parN_snoc] at h
    have hx1 := val_lt x.toNat
    have hy1 := val_lt y.toNat
    have e1 : parN a' = parN b' := by omega
    have e2 : val x.toNat = val y.toNat := by omega
    have e3 : x = y := by
      have h1 := hx_val x.toNat ox
      have h2 := hx_val y.toNat oy
      rw [e2, h2] at h1
      exact UInt8.toNat_inj.1 h1.symm
    simp only [List.length_append, List.length_singleton, Nat.add_right_cancel_iff] at ha hb
    rw [parN_inj n a' b' ha hb oa1 ob1 e1, e3]

/-- Digit k of sixteen. -/
def nib (d : Int) (k : Nat) : Nat := (d / 2 ^ (60 - 4 * k)).toNat % 16
theorem nib_lt (d : Int) (k : Nat) : nib d k < 16 := Nat.mod_lt _ (by decide)
def hexB (d : Int) (n : Nat) : List UInt8 := (List.range n).map fun k => UInt8.ofNat (hx (nib d k))
theorem hexB_succ (d : Int) (n : Nat) : hexB d (n + 1) = hexB d n ++ [UInt8.ofNat (hx (nib d n))] := by simp [hexB, List.range_succ]
theorem hexB_len (d : Int) (n : Nat) : (hexB d n).length = n := by simp [hexB]
def hexS (d : Int) : ByteArray := ⟨(hexB d 16).toArray⟩
theorem hexS_size (d : Int) : (hexS d).size = 16 := by simp [hexS, ByteArray.size, hexB_len]
theorem hexS_list (d : Int) : (hexS d).data.toList = hexB d 16 := rfl
theorem of_hx (m : Nat) (h : m < 16) : (UInt8.ofNat (hx m)).toNat = hx m := by
  rw [UInt8.toNat_ofNat']
  exact Nat.mod_eq_of_lt (hx_lt m h)
theorem hexB_ok (d : Int) (n : Nat) : okL (hexB d n) := by
  intro c hc
  obtain ⟨k, _, rfl⟩ := List.mem_map.1 hc
  rw [of_hx _ (nib_lt d k), val_hx _ (nib_lt d k)]
  omega
theorem parN_hexB (d : Nat) (n : Nat) (hn : n ≤ 16) (hd : d < 16 ^ 16) : parN (hexB d n) = d / 2 ^ (64 - 4 * n) := by
  induction n with
  | zero =>
    show 0 = _
    rw [Nat.div_eq_of_lt]
    exact hd
  | succ n ih =>
    rw [hexB_succ, parN_snoc, ih (by omega), of_hx _ (nib_lt d n), val_hx _ (nib_lt d n)]
    have e1 : 64 - 4 * n = (60 - 4 * n) + 4 := by omega
    have e2 : 64 - 4 * (n + 1) = 60 - 4 * n := by omega
    have e3 : ((d : Int) / 2 ^ (60 - 4 * n)).toNat = d / 2 ^ (60 - 4 * n) := by
      have : ((d : Int) / 2 ^ (60 - 4 * n)) = ((d / 2 ^ (60 - 4 * n) : Nat) : Int) := by
        rw [Int.natCast_ediv]; norm_cast
      rw [this]; rfl
    rw [e1, e2, Nat.pow_add, ← Nat.div_div_eq_div_mul]
    unfold nib
    rw [e3]
    generalize d / 2 ^ (60 - 4 * n) = q
    omega
theorem parN_hex (d : Nat) (hd : d < 16 ^ 16) : parN (hexB d 16) = d := by
  rw [parN_hexB d 16 (by omega) hd]
  simp
theorem hex_parN (s : ByteArray) (h : s.size = 16) (ok : okL s.data.toList) : hexS (parN s.data.toList) = s := by
  have hl : s.data.toList.length = 16 := by rw [len_list, h]
  have hlt := parN_lt s.data.toList
  rw [hl] at hlt
  have e := parN_inj 16 (hexB (parN s.data.toList) 16) s.data.toList (hexB_len _ _) hl (hexB_ok _ _) ok (parN_hex _ hlt)
  unfold hexS
  rw [e]

/-- Are all of them digits? -/
def okB (l : List UInt8) : Bool := l.all fun c => decide (0 ≤ val c.toNat)
theorem okB_iff (l : List UInt8) : okB l = true ↔ okL l := by simp [okB, okL]
def parV (s : ByteArray) : Int := if s.size = 16 ∧ okB s.data.toList = true then (parN s.data.toList : Int) else 0
def parE (s : ByteArray) : Int := if s.size = 16 ∧ okB s.data.toList = true then 0 else 1
theorem par_yes (s : ByteArray) (h : s.size = 16) (ok : okL s.data.toList) : parV s = parN s.data.toList ∧ parE s = 0 := by
  unfold parV parE
  rw [if_pos ⟨h, (okB_iff _).2 ok⟩, if_pos ⟨h, (okB_iff _).2 ok⟩]
  exact ⟨rfl, rfl⟩
theorem par_no (s : ByteArray) (h : ¬ (s.size = 16 ∧ okL s.data.toList)) : parV s = 0 ∧ parE s = 1 := by
  have h' : ¬ (s.size = 16 ∧ okB s.data.toList = true) := by rw [okB_iff]; exact h
  unfold parV parE
  rw [if_neg h', if_neg h']
  exact ⟨rfl, rfl⟩
theorem ok_take (s : ByteArray) (k : Nat) (h : k < s.size) : okL (s.data.toList.take (k + 1)) ↔ okL (s.data.toList.take k) ∧ 0 ≤ val s[k].toNat := by
  rw [take_snoc s k h, okL_snoc]
theorem par_take (s : ByteArray) (k : Nat) (h : k < s.size) : parN (s.data.toList.take (k + 1)) = parN (s.data.toList.take k) * 16 + (val s[k].toNat).toNat := by
  rw [take_snoc s k h, parN_snoc]
theorem ok_part (s : ByteArray) (k : Nat) (h : k < s.size) (hv : val s[k].toNat < 0) : ¬ okL s.data.toList := by
  intro ok
  have := ok s[k] (by
    have : s.data.toList[k]'(by rw [len_list]; exact h) = s[k] := rfl
    rw [← this]
    exact List.getElem_mem _)
  omega
theorem par_take_lt (s : ByteArray) (k : Nat) (hk : k ≤ 15) : parN (s.data.toList.take k) < 16 ^ 15 := by
  have h1 := parN_lt (s.data.toList.take k)
  have h2 : (s.data.toList.take k).length ≤ 15 := by rw [List.length_take]; omega
  exact Nat.lt_of_lt_of_le h1 (Nat.pow_le_pow_right (by omega) h2)

/-- What the walks meet. -/
theorem and15 (x : Int) (h0 : 0 ≤ x) (h1 : x < 18446744073709551616) : bits .and .u64 x 15 = ((x.toNat % 16 : Nat) : Int) := by
  obtain ⟨n, rfl⟩ := Int.eq_ofNat_of_zero_le h0
  have hx : (BitVec.ofInt 64 (n : Int)).toNat = n := by
    rw [BitVec.ofInt_natCast, BitVec.toNat_ofNat]; exact Nat.mod_eq_of_lt (by omega)
  show IntKind.u64.wrap ((BitVec.ofInt 64 (n : Int) &&& BitVec.ofInt 64 15).toNat : Int) = _
  rw [BitVec.toNat_and, hx]
  have e15 : (BitVec.ofInt 64 15).toNat = 2 ^ 4 - 1 := by decide
  rw [e15, Nat.and_two_pow_sub_one_eq_mod, IntKind.wrap_u64]
  simp
  omega
theorem nib_bits (d : Nat) (k : Nat) (hd : d < 18446744073709551616) : bits .and .u64 ((d : Int) / 2 ^ (60 - 4 * k)) 15 = (nib d k : Nat) := by
  have e : ((d : Int) / 2 ^ (60 - 4 * k)) = ((d / 2 ^ (60 - 4 * k) : Nat) : Int) := by
    rw [Int.natCast_ediv]; norm_cast
  have h := Nat.div_le_self d (2 ^ (60 - 4 * k))
  unfold nib
  rw [e]
  generalize d / 2 ^ (60 - 4 * k) = q at h
  rw [and15 _ (by omega) (by omega)]
theorem or_shl (x v : Nat) (hx : x < 16 ^ 15) (hv : v < 16) : bits .or .u64 (IntKind.u64.wrap ((x : Int) * 16)) (v : Int) = ((x * 16 + v : Nat) : Int) := by
  have e1 : IntKind.u64.wrap ((x : Int) * 16) = ((x * 16 : Nat) : Int) := by
    rw [IntKind.wrap_u64]
    have : (16 : Nat) ^ 15 = 1152921504606846976 := by decide
    omega
  have hx15 : (16 : Nat) ^ 15 = 1152921504606846976 := by decide
  have h1 : (BitVec.ofInt 64 ((x * 16 : Nat) : Int)).toNat = x * 16 := by
    rw [BitVec.ofInt_natCast, BitVec.toNat_ofNat]; exact Nat.mod_eq_of_lt (by omega)
  have h2 : (BitVec.ofInt 64 (v : Int)).toNat = v := by
    rw [BitVec.ofInt_natCast, BitVec.toNat_ofNat]; exact Nat.mod_eq_of_lt (by omega)
  rw [e1]
  show IntKind.u64.wrap ((BitVec.ofInt 64 ((x * 16 : Nat) : Int) ||| BitVec.ofInt 64 (v : Int)).toNat : Int) = _
  rw [BitVec.toNat_or, h1, h2, IntKind.wrap_u64]
  have e2 : x * 16 ||| v = x * 16 + v := by
    have := Nat.shiftLeft_add_eq_or_of_lt (i := 4) (b := v) (by omega) x
    rw [Nat.shiftLeft_eq] at this
    exact this.symm
  rw [e2]
  omega

theorem add_16 (x v : Nat) (hx : x < 16 ^ 15) (hv : v < 16) : IntKind.u64.wrap (IntKind.u64.wrap ((x : Int) * 16) + (v : Int)) = ((x * 16 + v : Nat) : Int) := by
  have hx15 : (16 : Nat) ^ 15 = 1152921504606846976 := by decide
  rw [IntKind.wrap_u64, IntKind.wrap_u64]
  omega

/-- The digits of the program's table. -/
def digV : Array Value := #[.int .u8 48, .int .u8 49, .int .u8 50, .int .u8 51, .int .u8 52, .int .u8 53, .int .u8 54, .int .u8 55, .int .u8 56, .int .u8 57, .int .u8 97, .int .u8 98, .int .u8 99, .int .u8 100, .int .u8 101, .int .u8 102]
theorem digV_at (m : Nat) (h : m < 16) : digV[m]? = some (.int .u8 (hx m)) := by
  match m, h with
  | 0, _ => rfl | 1, _ => rfl | 2, _ => rfl | 3, _ => rfl | 4, _ => rfl | 5, _ => rfl | 6, _ => rfl | 7, _ => rfl
  | 8, _ => rfl | 9, _ => rfl | 10, _ => rfl | 11, _ => rfl | 12, _ => rfl | 13, _ => rfl | 14, _ => rfl | 15, _ => rfl
  | m + 16, h => omega

/-- The call's own array behind k rounds. -/
def hexA (d : Int) (k : Nat) : Array Value := ((List.range 16).map fun j => if j < k then Value.int .u8 (hx (nib d j)) else .int .u8 0).toArray
theorem hexA_zero (d : Int) : hexA d 0 = #[.int .u8 0, .int .u8 0, .int .u8 0, .int .u8 0, .int .u8 0, .int .u8 0, .int .u8 0, .int .u8 0, .int .u8 0, .int .u8 0, .int .u8 0, .int .u8 0, .int .u8 0, .int .u8 0, .int .u8 0, .int .u8 0] := rfl
theorem hexA_succ (d : Int) (k : Nat) (h : k < 16) : (hexA d k).setIfInBounds k (.int .u8 (hx (nib d k))) = hexA d (k + 1) := by
  apply Array.ext_getElem?
  intro i
  unfold hexA
  rw [Array.getElem?_setIfInBounds]
  simp only [List.getElem?_toArray, List.getElem?_map, List.size_toArray, List.length_map, List.length_range]
  by_cases hi : i < 16
  · rw [List.getElem?_range hi]
    by_cases e : k = i
    · subst e
      simp [h]
    · rw [if_neg e]
      simp only [Option.map_some, Option.some.injEq]
      by_cases h1 : i < k
      · rw [if_pos h1, if_pos (by omega)]
      · rw [if_neg h1, if_neg (by omega)]
  · rw [if_neg (by omega)]
    simp [hi]
theorem hexA_at (d : Int) (j : Nat) (h : j < 16) : (hexA d 16)[j]? = some (.int .u8 ((List.map (fun k => (hx (nib d k) : Int)) (List.range 16)).getD j 0)) := by
  unfold hexA
  simp [h]
theorem hexA_str (d : Int) : strOfNums (List.map (fun k => (hx (nib d k) : Int)) (List.range 16)) = hexS d := by
  unfold strOfNums hexS hexB
  simp

/-- Examples. -/
theorem sum_a : sum [97] = 12638187200555641996 := by decide +kernel
theorem hex_255 : hexS 255 = ⟨#[48, 48, 48, 48, 48, 48, 48, 48, 48, 48, 48, 48, 48, 48, 102, 102]⟩ := by decide +kernel
theorem hex_a : hexS 12638187200555641996 = ⟨#[97, 102, 54, 51, 100, 99, 52, 99, 56, 54, 48, 49, 101, 99, 56, 99]⟩ := by decide +kernel
theorem par_255 : parV ⟨#[48, 48, 48, 48, 48, 48, 48, 48, 48, 48, 48, 48, 48, 48, 102, 102]⟩ = 255 ∧ parE ⟨#[48, 48, 48, 48, 48, 48, 48, 48, 48, 48, 48, 48, 48, 48, 102, 102]⟩ = 0 := by decide +kernel
theorem par_FF : parE ⟨#[48, 48, 48, 48, 48, 48, 48, 48, 48, 48, 48, 48, 48, 48, 70, 70]⟩ = 1 := by decide +kernel
theorem par_ff : parE ⟨#[102, 102]⟩ = 1 := by decide +kernel
end Go.Proofs.YtkgflcfpmnlaeaaDoor.Pl
