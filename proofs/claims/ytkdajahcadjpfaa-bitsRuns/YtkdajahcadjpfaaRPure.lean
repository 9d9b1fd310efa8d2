/- Runs of ones, as lists of numbers: what Runs keeps between two ones, and what it tells. Nothing here speaks of one program. -/
import Derived.Test.YtkdajahcadjpfaaPure
set_option linter.unusedSimpArgs false
set_option linter.unusedVariables false
namespace Go.Attic

/-- The numbers below n of the bits that are 1. -/
def onesN (l : List Nat) (n : Nat) : List Nat := (List.range n).filter fun i => bitB l i
theorem onesN_succ (l : List Nat) (n : Nat) : onesN l (n + 1) = onesN l n ++ if bitB l n then [n] else [] := by
  unfold onesN
  rw [List.range_succ, List.filter_append]
  cases h : bitB l n <;> simp [h]
theorem onesN_pre (l : List Nat) {k n : Nat} (h : k ≤ n) : onesN l k <+: onesN l n := by
  induction n with
  | zero => obtain rfl : k = 0 := by omega
            exact List.prefix_refl _
  | succ n ih =>
    by_cases e : k = n + 1
    · rw [e]; exact List.prefix_refl _
    · rw [onesN_succ]
      exact (ih (by omega)).trans (List.prefix_append _ _)
theorem onesN_lt {l : List Nat} {n i : Nat} (h : i ∈ onesN l n) : i < n := by
  simp [onesN] at h; exact h.1

abbrev RSt := List (Nat × Nat) × Nat × Nat
def stepR (s : RSt) (i : Nat) : RSt :=
  if 0 < s.2.2 ∧ i = s.2.1 + s.2.2 then (s.1, s.2.1, s.2.2 + 1) else if 0 < s.2.2 then (s.1 ++ [(s.2.1, s.2.2)], i, 1) else (s.1, i, 1)
def stR (p : List Nat) : RSt := p.foldl stepR ([], 0, 0)
def finR (s : RSt) : List (Nat × Nat) := if 0 < s.2.2 then s.1 ++ [(s.2.1, s.2.2)] else s.1
def runsN (l : List Nat) (n : Nat) : List (Nat × Nat) := finR (stR (onesN l n))

theorem stR_snoc (p : List Nat) (i : Nat) : stR (p ++ [i]) = stepR (stR p) i := by simp [stR]
theorem stR_nil : stR [] = ([], 0, 0) := rfl

theorem fin_pre (s : RSt) : s.1 <+: finR s := by
  unfold finR; split
  · exact List.prefix_append _ _
  · exact List.prefix_refl _
theorem step_pre (s : RSt) (i : Nat) : s.1 <+: (stepR s i).1 := by
  unfold stepR; split
  · exact List.prefix_refl _
  · split
    · exact List.prefix_append _ _
    · exact List.prefix_refl _
theorem fold_pre (q : List Nat) (s : RSt) : s.1 <+: (q.foldl stepR s).1 := by
  induction q generalizing s with
  | nil => exact List.prefix_refl _
  | cons i q ih => exact (step_pre s i).trans (ih _)
/-- What has been told behind a part of the ones is a beginning of all runs. -/
theorem told_pre {l p : List Nat} {n : Nat} (h : p <+: onesN l n) : (stR p).1 <+: runsN l n := by
  obtain ⟨q, hq⟩ := h
  unfold runsN
  rw [← hq]
  have : stR (p ++ q) = q.foldl stepR (stR p) := by simp [stR]
  rw [this]
  exact (fold_pre q _).trans (fin_pre _)

theorem snoc_ind {α : Type} {P : List α → Prop} (h0 : P []) (hs : ∀ p x, P p → P (p ++ [x])) : ∀ l, P l := by
  intro l
  rw [← List.reverse_reverse l]
  induction l.reverse with
  | nil => exact h0
  | cons x q ih => rw [List.reverse_cons]; exact hs _ _ ih

theorem stR_le {n : Nat} : ∀ p : List Nat, (∀ i ∈ p, i < n) → (stR p).2.1 + (stR p).2.2 ≤ n := by
  refine snoc_ind ?_ ?_
  · intro _; simp [stR_nil]
  · intro p i ih h
    have h1 := ih (fun j hj => h j (by simp [hj]))
    have h2 := h i (by simp)
    rw [stR_snoc]
    unfold stepR
    split
    · simp only; omega
    · split
      · simp only; omega
      · simp only; omega

end Go.Attic
