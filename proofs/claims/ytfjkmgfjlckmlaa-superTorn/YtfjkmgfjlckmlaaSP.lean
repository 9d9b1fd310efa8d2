/- A super's block as a list of bytes; what stands in it. -/
import Derived.Test.YtfjkmgfjlckmlaaW2
import Derived.Test.YtfjkmgfjlckmlaaS1
set_option linter.unusedVariables false
namespace Go.Proofs.Ytfjkmgfjlckmlaa
open Go.RowKit Go.Attic

/-- A super's block, byte by byte. -/
def magicL : List Nat := [97, 116, 116, 105, 99, 32, 49, 10]
def zerosL (n : Nat) : List Nat := List.replicate n 0
def bodyL (ep b l d x h : Nat) : List Nat := magicL ++ (numN 8 ep ++ (numN 4 b ++ (numN 4 l ++ (numN 4 d ++ (numN 4 x ++ numN 8 h)))))
def sumdL (ep b l d x h : Nat) : List Nat := bodyL ep b l d x h ++ zerosL 20
def blockL (ep b l d x h : Nat) : List Nat := sealN (sumdL ep b l d x h) ++ zerosL 192
theorem magicL_lt : ∀ x ∈ magicL, x < 256 := by decide
theorem zerosL_lt (n : Nat) : ∀ x ∈ zerosL n, x < 256 := fun x hx => by rw [List.eq_of_mem_replicate hx]; decide
theorem zerosL_length (n : Nat) : (zerosL n).length = n := List.length_replicate
theorem zerosL_take (n k : Nat) : (zerosL n).take k = zerosL (min k n) := List.take_replicate
theorem zerosL_drop (n k : Nat) : (zerosL n).drop k = zerosL (n - k) := List.drop_replicate
theorem zerosL_succ (n : Nat) : zerosL (n + 1) = zerosL n ++ [0] := List.replicate_succ'
theorem bodyL_length (ep b l d x h : Nat) : (bodyL ep b l d x h).length = 40 := by
  unfold bodyL
  simp only [List.length_append, numN_length]
  rfl
theorem bodyL_lt (ep b l d x h : Nat) : ∀ y ∈ bodyL ep b l d x h, y < 256 := by
  unfold bodyL
  intro y hy
  simp only [List.mem_append] at hy
  rcases hy with hy | hy | hy | hy | hy | hy | hy
  · exact magicL_lt y hy
  all_goals exact numN_lt _ _ y hy
theorem sumdL_length (ep b l d x h : Nat) : (sumdL ep b l d x h).length = 60 := by
  unfold sumdL; rw [List.length_append, bodyL_length, zerosL_length]
theorem sumdL_lt (ep b l d x h : Nat) : ∀ y ∈ sumdL ep b l d x h, y < 256 := by
  unfold sumdL
  intro y hy
  rcases List.mem_append.1 hy with hy | hy
  · exact bodyL_lt _ _ _ _ _ _ y hy
  · exact zerosL_lt _ y hy
theorem blockL_length (ep b l d x h : Nat) : (blockL ep b l d x h).length = 256 := by
  unfold blockL; rw [List.length_append, sealN_length, sumdL_length, zerosL_length]
theorem blockL_lt (ep b l d x h : Nat) : ∀ y ∈ blockL ep b l d x h, y < 256 := by
  unfold blockL
  intro y hy
  rcases List.mem_append.1 hy with hy | hy
  · exact sealN_lt (sumdL_lt _ _ _ _ _ _) y hy
  · exact zerosL_lt _ y hy

theorem getN_left (a b : List Nat) (p k : Nat) (h : p + k ≤ a.length) : getN (a ++ b) p k = getN a p k := by
  induction k with
  | zero => rfl
  | succ k ih =>
    simp only [getN]
    rw [ih (by omega), List.getD_eq_getElem?_getD, List.getD_eq_getElem?_getD, List.getElem?_append_left (by omega)]
theorem getN_right (a b : List Nat) (p k : Nat) : getN (a ++ b) (a.length + p) k = getN b p k := by
  induction k with
  | zero => rfl
  | succ k ih =>
    simp only [getN]
    rw [ih, List.getD_eq_getElem?_getD, List.getD_eq_getElem?_getD, List.getElem?_append_right (by omega), show a.length + p + k - a.length = p + k by omega]
theorem getN_of_num (n v k : Nat) (hk : k ≤ n) : getN (numN n v) 0 k = v % 2 ^ (8 * k) := by
  induction k with
  | zero => simp [getN, Nat.mod_one]
  | succ k ih =>
    simp only [getN]
    rw [ih (by omega)]
    have e : (numN n v).getD (0 + k) 0 = v / 2 ^ (8 * k) % 256 := by
      rw [Nat.zero_add, List.getD_eq_getElem?_getD]
      simp [numN, show k < n by omega]
    rw [e, show 8 * (k + 1) = 8 * k + 8 by omega, Nat.pow_add, Nat.mod_mul, show (2 : Nat) ^ 8 = 256 from rfl, Nat.mul_comm (2 ^ (8 * k))]
theorem getN_num8 (v : Nat) (h : v < 2 ^ 64) : getN (numN 8 v) 0 8 = v := by rw [getN_of_num 8 v 8 (Nat.le_refl _)]; exact Nat.mod_eq_of_lt h
theorem getN_num4 (v : Nat) (h : v < 2 ^ 32) : getN (numN 4 v) 0 4 = v := by rw [getN_of_num 4 v 4 (Nat.le_refl _)]; exact Nat.mod_eq_of_lt h

theorem blockL_form (ep b l d x h : Nat) : blockL ep b l d x h = magicL ++ (numN 8 ep ++ (numN 4 b ++ (numN 4 l ++ (numN 4 d ++ (numN 4 x ++ (numN 8 h ++ (zerosL 20 ++ (numN 4 (sumN (sumdL ep b l d x h)) ++ zerosL 192)))))))) := by
  simp [blockL, sealN, sumdL, bodyL, List.append_assoc]

/-- The six numbers that stand in bytes where a super's fields stand. -/
theorem block_ep (ep b l d x h : Nat) (k : ep < 2 ^ 64) : getN (blockL ep b l d x h) 8 8 = ep := by
  rw [blockL_form]
  have e := getN_right magicL (numN 8 ep ++ (numN 4 b ++ (numN 4 l ++ (numN 4 d ++ (numN 4 x ++ (numN 8 h ++ (zerosL 20 ++ (numN 4 (sumN (sumdL ep b l d x h)) ++ zerosL 192)))))))) 0 8
  rw [show magicL.length + 0 = 8 from rfl] at e
  rw [e, getN_left _ _ 0 8 (by rw [numN_length]; omega)]
  exact getN_num8 ep k
theorem getN_skip (a b : List Nat) (m p k : Nat) (h : a.length = m) (hp : m ≤ p) : getN (a ++ b) p k = getN b (p - m) k := by
  have := getN_right a b (p - m) k
  rw [h, show m + (p - m) = p by omega] at this
  exact this
theorem block_rest (ep b l d x h : Nat) (kb : b < 2 ^ 32) (kl : l < 2 ^ 32) (kd : d < 2 ^ 32) (kx : x < 2 ^ 32) (kh : h < 2 ^ 64) :
    getN (blockL ep b l d x h) 16 4 = b ∧ getN (blockL ep b l d x h) 20 4 = l ∧ getN (blockL ep b l d x h) 24 4 = d ∧ getN (blockL ep b l d x h) 28 4 = x ∧ getN (blockL ep b l d x h) 32 8 = h := by
  have hm : magicL.length = 8 := rfl
  have h8 := numN_length 8
  have h4 := numN_length 4
  rw [blockL_form]
  refine ⟨?_, ?_, ?_, ?_, ?_⟩
  · rw [getN_skip _ _ 8 16 4 hm (by omega), getN_skip _ _ 8 _ 4 (h8 _) (by omega), getN_left _ _ _ 4 (by rw [h4]; omega)]
    exact getN_num4 b kb
  · rw [getN_skip _ _ 8 20 4 hm (by omega), getN_skip _ _ 8 _ 4 (h8 _) (by omega), getN_skip _ _ 4 _ 4 (h4 _) (by omega), getN_left _ _ _ 4 (by rw [h4]; omega)]
    exact getN_num4 l kl
  · rw [getN_skip _ _ 8 24 4 hm (by omega), getN_skip _ _ 8 _ 4 (h8 _) (by omega), getN_skip _ _ 4 _ 4 (h4 _) (by omega), getN_skip _ _ 4 _ 4 (h4 _) (by omega), getN_left _ _ _ 4 (by rw [h4]; omega)]
    exact getN_num4 d kd
  · rw [getN_skip _ _ 8 28 4 hm (by omega), getN_skip _ _ 8 _ 4 (h8 _) (by omega), getN_skip _ _ 4 _ 4 (h4 _) (by omega), getN_skip _ _ 4 _ 4 (h4 _) (by omega), getN_skip _ _ 4 _ 4 (h4 _) (by omega), getN_left _ _ _ 4 (by rw [h4]; omega)]
    exact getN_num4 x kx
  · rw [getN_skip _ _ 8 32 8 hm (by omega), getN_skip _ _ 8 _ 8 (h8 _) (by omega), getN_skip _ _ 4 _ 8 (h4 _) (by omega), getN_skip _ _ 4 _ 8 (h4 _) (by omega), getN_skip _ _ 4 _ 8 (h4 _) (by omega), getN_skip _ _ 4 _ 8 (h4 _) (by omega), getN_left _ _ _ 8 (by rw [h8]; omega)]
    exact getN_num8 h kh

theorem okS_range {ep b l d x h : Int} (k : okS ep b l d x h) : 1 ≤ ep ∧ ep ≤ 1152921504606846976 ∧ 0 ≤ b ∧ b ≤ 2048 ∧ 0 ≤ l ∧ l ≤ 256 ∧ 0 ≤ d ∧ d ≤ 64 ∧ 0 ≤ x ∧ x ≤ 256 ∧ 0 ≤ h ∧ h ≤ 1152921504606846976 := by
  unfold okS okG planB at k
  omega

/-- A super that may be comes in natural numbers. -/
theorem okS_nat {ep b l d x h : Int} (k : okS ep b l d x h) : ∃ ep' b' l' d' x' h' : Nat, ep = ep' ∧ b = b' ∧ l = l' ∧ d = d' ∧ x = x' ∧ h = h' := by
  have := okS_range k
  exact ⟨ep.toNat, b.toNat, l.toNat, d.toNat, x.toNat, h.toNat, by omega, by omega, by omega, by omega, by omega, by omega⟩

/-- The super that bytes are, if they are one. -/
def IsS (L : List Nat) (ep b l d x h : Nat) : Prop := okS ep b l d x h ∧ L = blockL ep b l d x h
def NoS (L : List Nat) : Prop := ∀ ep b l d x h : Nat, ¬ IsS L ep b l d x h

theorem IsS.nums {L : List Nat} {ep b l d x h : Nat} (k : IsS L ep b l d x h) : getN L 8 8 = ep ∧ getN L 16 4 = b ∧ getN L 20 4 = l ∧ getN L 24 4 = d ∧ getN L 28 4 = x ∧ getN L 32 8 = h := by
  obtain ⟨k1, rfl⟩ := k
  have k2 := okS_range k1
  exact ⟨block_ep ep b l d x h (by omega), block_rest ep b l d x h (by omega) (by omega) (by omega) (by omega) (by omega)⟩
theorem IsS.one {L : List Nat} {ep b l d x h ep' b' l' d' x' h' : Nat} (k : IsS L ep b l d x h) (k' : IsS L ep' b' l' d' x' h') : ep = ep' ∧ b = b' ∧ l = l' ∧ d = d' ∧ x = x' ∧ h = h' := by
  have h1 := k.nums
  have h2 := k'.nums
  omega
theorem IsS.len {L : List Nat} {ep b l d x h : Nat} (k : IsS L ep b l d x h) : L.length = 256 := by rw [k.2, blockL_length]

end Go.Proofs.Ytfjkmgfjlckmlaa
