/- Contracts: bits.Mul64, bits.Mul, slices.Repeat, Flush. -/
import Derived.Test.YtjcmmigbkhiplaaD6
set_option linter.unusedSimpArgs false
set_option linter.unusedVariables false
namespace Go.Proofs.Ytjcmmigbkhiplaa
open Go.RowKit Go.Attic
/-- k of n bytes are x. -/
def fillR (x n k : Nat) : List Nat := List.replicate k x ++ List.replicate (n - k) 0
theorem fillR_length (x n k : Nat) (h : k ≤ n) : (fillR x n k).length = n := by simp [fillR]; omega
theorem fillR_getD (x n k i : Nat) (h : k ≤ n) : (fillR x n k).getD i 0 = if i < k then x else 0 := by
  simp only [fillR, List.getD_eq_getElem?_getD]
  by_cases h1 : i < k
  · rw [if_pos h1, List.getElem?_append_left (by simpa using h1)]; simp [h1]
  · rw [if_neg h1, List.getElem?_append_right (by simpa using h1)]
    simp [List.getElem?_replicate]
    split <;> rfl
theorem fillR_splice (x n k c : Nat) (h : k + c ≤ n) : splice (fillR x n k) k (List.replicate c x) = fillR x n (k + c) := by
  refine ext_getD ?_ fun i hi => ?_
  · rw [length_splice _ _ _ (by rw [fillR_length _ _ _ (by omega)]; simpa using h), fillR_length _ _ _ (by omega), fillR_length _ _ _ h]
  · rw [splice_getD _ _ _ _ (by rw [fillR_length _ _ _ (by omega)]; simpa using h), fillR_getD _ _ _ _ (by omega), fillR_getD _ _ _ _ h]
    simp only [List.length_replicate, List.getD_eq_getElem?_getD, List.getElem?_replicate]
    by_cases h1 : i < k
    · rw [if_neg (by omega), if_pos h1, if_pos (by omega)]
    · by_cases h2 : i < k + c
      · rw [if_pos (by omega), if_pos h2, if_pos (by omega)]; rfl
      · rw [if_neg (by omega), if_neg h1, if_neg h2]

theorem operS_left (s : St) : (operS s).2 = 0 ∨ (operS s).2 = 5 := by
  simp only [operS]
  split
  · exact .inl rfl
  · split
    · exact .inr rfl
    · exact .inl rfl

theorem operS_same (s : St) (h : (operS s).2 = 0) : (operS s).1.med = s.med ∧ (operS s).1.pend = s.pend := by
  simp only [operS] at h ⊢
  split
  · exact ⟨rfl, rfl⟩
  · rename_i h0
    rw [if_neg h0] at h
    split
    · rename_i h1
      rw [if_pos h1] at h
      simp at h
    · exact ⟨rfl, rfl⟩


end Go.Proofs.Ytjcmmigbkhiplaa
