/- A record's sector as a list of bytes; what stands in it. -/
import Derived.Test.YtjhbljkoapbkfaaR1
set_option linter.unusedSimpArgs false
set_option linter.unusedVariables false
namespace Go.Proofs.Ytjhbljkoapbkfaa
open Go.RowKit Go.Attic

def zerosL (n : Nat) : List Nat := List.replicate n 0
theorem zerosL_lt (n : Nat) : ∀ x ∈ zerosL n, x < 256 := fun x hx => by rw [List.eq_of_mem_replicate hx]; decide
theorem zerosL_length (n : Nat) : (zerosL n).length = n := List.length_replicate
theorem zerosL_take (n k : Nat) : (zerosL n).take k = zerosL (min k n) := List.take_replicate
theorem zerosL_drop (n k : Nat) : (zerosL n).drop k = zerosL (n - k) := List.drop_replicate
theorem zerosL_succ (n : Nat) : zerosL (n + 1) = zerosL n ++ [0] := List.replicate_succ'

theorem getN_left (a b : List Nat) (p k : Nat) (h : p + k ≤ a.length) : getN (a ++ b) p k = getN a p k := by
  induction k with
  | zero => rfl
  | succ k ih =>
    simp only [getN]
    rw [ih (by omega), List.getD_eq_getElem?_getD, List.getD_eq_getElem?_getD, List.getElem?_append_left (by omega)]
theorem getN_right (a b : List Nat) (p k : Nat) : getN (a ++ b) (a.length + p) k = getN b p k := by
  induction k with
  | zero => rfl
  | succ k ih =>
    simp only [getN]
    rw [ih, List.getD_eq_getElem?_getD, List.getD_eq_getElem?_getD, List.getElem?_append_right (by omega), show a.length + p + k - a.length = p + k by omega]
theorem getN_of_num (n v k : Nat) (hk : k ≤ n) : getN (numN n v) 0 k = v % 2 ^ (8 * k) := by
  induction k with
  | zero => simp [getN, Nat.mod_one]
  | succ k ih =>
    simp only [getN]
    rw [ih (by omega)]
    have e : (numN n v).getD (0 + k) 0 = v / 2 ^ (8 * k) % 256 := by
      rw [Nat.zero_add, List.getD_eq_getElem?_getD]
      simp [numN, show k < n by omega]
    rw [e, show 8 * (k + 1) = 8 * k + 8 by omega, Nat.pow_add, Nat.mod_mul, show (2 : Nat) ^ 8 = 256 from rfl, Nat.mul_comm (2 ^ (8 * k))]
theorem getN_num8 (v : Nat) (h : v < 2 ^ 64) : getN (numN 8 v) 0 8 = v := by rw [getN_of_num 8 v 8 (Nat.le_refl _)]; exact Nat.mod_eq_of_lt h
theorem getN_num4 (v : Nat) (h : v < 2 ^ 32) : getN (numN 4 v) 0 4 = v := by rw [getN_of_num 4 v 4 (Nat.le_refl _)]; exact Nat.mod_eq_of_lt h
theorem getN_skip (a b : List Nat) (m p k : Nat) (h : a.length = m) (hp : m ≤ p) : getN (a ++ b) p k = getN b (p - m) k := by
  have := getN_right a b (p - m) k
  rw [h, show m + (p - m) = p by omega] at this
  exact this
theorem getD_skip (a b : List Nat) (m p : Nat) (h : a.length = m) (hp : m ≤ p) : (a ++ b).getD p 0 = b.getD (p - m) 0 := by
  rw [List.getD_eq_getElem?_getD, List.getD_eq_getElem?_getD, List.getElem?_append_right (by omega), h]
/-- The number of the bytes from a place on, as the number of those bytes alone. -/
theorem getN_take (l : List Nat) (p k : Nat) : getN ((l.drop p).take k) 0 k = getN l p k := by
  have h : ∀ j, j ≤ k → getN ((l.drop p).take k) 0 j = getN l p j := by
    intro j
    induction j with
    | zero => intro _; rfl
    | succ j ih =>
      intro hj
      simp only [getN]
      rw [ih (by omega)]
      have e : ((l.drop p).take k).getD (0 + j) 0 = l.getD (p + j) 0 := by
        rw [Nat.zero_add, List.getD_eq_getElem?_getD, List.getD_eq_getElem?_getD, List.getElem?_take_of_lt (by omega), List.getElem?_drop]
      rw [e]
  exact h k (Nat.le_refl _)

/-- The sixty bytes ahead of the sum. -/
def bodyR (p k q o : Nat) (l : List Nat) : List Nat := [k, l.length] ++ (numN 8 p ++ (numN 4 q ++ ([o, 0] ++ (l ++ zerosL (44 - l.length)))))
theorem bodyR_length (p k q o : Nat) (l : List Nat) (h : l.length ≤ 44) : (bodyR p k q o l).length = 60 := by
  unfold bodyR
  simp only [List.length_append, numN_length, zerosL_length, List.length_cons, List.length_nil]
  omega
theorem bodyR_lt (p k q o : Nat) (l : List Nat) (hk : k < 256) (ho : o < 256) (h : l.length ≤ 44) (hx : ∀ x ∈ l, x < 256) : ∀ y ∈ bodyR p k q o l, y < 256 := by
  unfold bodyR
  intro y hy
  simp only [List.mem_append] at hy
  rcases hy with hy | hy | hy | hy | hy | hy
  · simp at hy; omega
  · exact numN_lt _ _ y hy
  · exact numN_lt _ _ y hy
  · simp at hy; omega
  · exact hx y hy
  · exact zerosL_lt _ y hy
def numR (k b m : Nat) : Nat := if k = 2 then m else b
/-- A record's sector. -/
def secR (p k b o m : Nat) (l : List Nat) : List Nat := sealN (bodyR p k (numR k b m) o l)
theorem secR_length (p k b o m : Nat) (l : List Nat) (h : l.length ≤ 44) : (secR p k b o m l).length = 64 := by
  unfold secR; rw [sealN_length, bodyR_length _ _ _ _ _ h]
theorem secR_lt (p k b o m : Nat) (l : List Nat) (hk : k < 256) (ho : o < 256) (h : l.length ≤ 44) (hx : ∀ x ∈ l, x < 256) : ∀ y ∈ secR p k b o m l, y < 256 := sealN_lt (bodyR_lt _ _ _ _ _ hk ho h hx)
theorem secR_form (p k b o m : Nat) (l : List Nat) : ∃ t, secR p k b o m l = [k, l.length] ++ (numN 8 p ++ (numN 4 (numR k b m) ++ ([o, 0] ++ (l ++ t)))) := by
  refine ⟨zerosL (44 - l.length) ++ numN 4 (sumN (bodyR p k (numR k b m) o l)), ?_⟩
  unfold secR sealN
  conv => lhs; lhs; unfold bodyR
  simp only [List.append_assoc]

/-- What stands where a record's fields stand. -/
theorem sec_fields (p k b o m : Nat) (l : List Nat) (hp : p < 2 ^ 64) (hq : numR k b m < 2 ^ 32) :
    (secR p k b o m l).getD 0 0 = k ∧ (secR p k b o m l).getD 1 0 = l.length ∧ getN (secR p k b o m l) 2 8 = p ∧ getN (secR p k b o m l) 10 4 = numR k b m ∧ (secR p k b o m l).getD 14 0 = o ∧ ((secR p k b o m l).drop 16).take l.length = l := by
  obtain ⟨t, e⟩ := secR_form p k b o m l
  generalize secR p k b o m l = L at *
  subst e
  have h8 := numN_length 8
  have h4 := numN_length 4
  refine ⟨rfl, rfl, ?_, ?_, ?_, ?_⟩
  · rw [getN_skip _ _ 2 2 8 rfl (by omega), getN_left _ _ _ 8 (by rw [h8]; omega)]
    exact getN_num8 p hp
  · rw [getN_skip _ _ 2 10 4 rfl (by omega), getN_skip _ _ 8 _ 4 (h8 _) (by omega), getN_left _ _ _ 4 (by rw [h4]; omega)]
    exact getN_num4 _ hq
  · rw [getD_skip _ _ 2 14 rfl (by omega), getD_skip _ _ 8 _ (h8 _) (by omega), getD_skip _ _ 4 _ (h4 _) (by omega)]
    rfl
  · rw [← List.append_assoc, ← List.append_assoc, ← List.append_assoc, List.drop_left' (by simp [h8, h4]), List.take_left' rfl]

theorem okR_nat {k b o m : Int} {n : Nat} (h : okR k b o m n) : ∃ k' b' o' m' : Nat, k = k' ∧ b = b' ∧ o = o' ∧ m = m' := by
  unfold okR okP okC at h
  exact ⟨k.toNat, b.toNat, o.toNat, m.toNat, by omega, by omega, by omega, by omega⟩
theorem okR_range {k b o m n : Nat} (h : okR k b o m n) : 1 ≤ k ∧ k ≤ 2 ∧ b < 2048 ∧ o < 256 ∧ m ≤ 65536 ∧ n ≤ 44 := by
  unfold okR okP okC at h
  omega
theorem numR_lt {k b o m n : Nat} (h : okR k b o m n) : numR k b m < 2 ^ 32 := by
  have := okR_range h
  unfold numR
  split <;> omega
theorem okR_patch {k b o m n : Nat} (h : okR k b o m n) (h1 : k = 1) : m = 0 := by
  unfold okR okP okC at h
  omega
theorem okR_commit {k b o m n : Nat} (h : okR k b o m n) (h1 : k = 2) : b = 0 ∧ o = 0 ∧ n = 0 := by
  unfold okR okP okC at h
  omega

/-- Bytes are the sector of a record that may be, at a place that may be. -/
def IsR (L : List Nat) (p k b o m : Nat) (l : List Nat) : Prop := okR k b o m l.length ∧ p ≤ 2305843009213693952 ∧ (∀ x ∈ l, x < 256) ∧ L = secR p k b o m l
def NoR (L : List Nat) : Prop := ∀ (p k b o m : Nat) (l : List Nat), ¬ IsR L p k b o m l

theorem IsR.len {L : List Nat} {p k b o m : Nat} {l : List Nat} (h : IsR L p k b o m l) : L.length = 64 := by
  rw [h.2.2.2, secR_length _ _ _ _ _ _ (okR_range h.1).2.2.2.2.2]
theorem IsR.fields {L : List Nat} {p k b o m : Nat} {l : List Nat} (h : IsR L p k b o m l) :
    L.getD 0 0 = k ∧ L.getD 1 0 = l.length ∧ getN L 2 8 = p ∧ getN L 10 4 = numR k b m ∧ L.getD 14 0 = o ∧ (L.drop 16).take l.length = l := by
  obtain ⟨h1, h2, h3, rfl⟩ := h
  exact sec_fields p k b o m l (by omega) (numR_lt h1)
theorem IsR.one {L : List Nat} {p k b o m p' k' b' o' m' : Nat} {l l' : List Nat} (h : IsR L p k b o m l) (h' : IsR L p' k' b' o' m' l') : p = p' ∧ k = k' ∧ b = b' ∧ o = o' ∧ m = m' ∧ l = l' := by
  obtain ⟨e0, e1, e2, e3, e4, e5⟩ := h.fields
  obtain ⟨e0', e1', e2', e3', e4', e5'⟩ := h'.fields
  have hl : l = l' := by rw [← e5, ← e5', ← e1, ← e1']
  subst hl
  have hk : k = k' := by omega
  subst hk
  rw [e3] at e3'
  have r := okR_range h.1
  refine ⟨by omega, rfl, ?_, by omega, ?_, rfl⟩
  · by_cases h2 : k = 2
    · rw [(okR_commit h.1 h2).1, (okR_commit h'.1 h2).1]
    · unfold numR at e3'
      rw [if_neg h2, if_neg h2] at e3'
      exact e3'
  · by_cases h2 : k = 2
    · unfold numR at e3'
      rw [if_pos h2, if_pos h2] at e3'
      exact e3'
    · rw [okR_patch h.1 (by omega), okR_patch h'.1 (by omega)]


end Go.Proofs.Ytjhbljkoapbkfaa
