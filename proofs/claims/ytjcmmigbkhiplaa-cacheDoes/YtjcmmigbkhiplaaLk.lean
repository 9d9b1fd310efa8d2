/- What a disk reads, behind a write and behind a flush. -/
import Derived.Test.YtjcmmigbkhiplaaE2
set_option linter.unusedSimpArgs false
set_option linter.unusedVariables false
namespace Go.Proofs.Ytjcmmigbkhiplaa
open Go.RowKit Go.Attic

theorem blockL_getD (med : List Nat) (i j : Nat) (hj : j < 256) : (blockL med i).getD j 0 = med.getD (256 * i + j) 0 := by
  simp [blockL, List.getD_eq_getElem?_getD, List.getElem?_take, hj, List.getElem?_drop]
theorem blockL_length (med : List Nat) (i n : Nat) (hi : i < n) (hl : med.length = 256 * n) : (blockL med i).length = 256 := by
  simp [blockL]; omega

theorem testBit15 (k : Nat) (hk : k < 4) : (15 : Nat).testBit k = true := by
  match k, hk with
  | 0, _ => rfl
  | 1, _ => rfl
  | 2, _ => rfl
  | 3, _ => rfl

theorem readL_push (s : St) (i : Nat) (b : List Nat) (o j : Nat) : readL { s with pend := s.pend ++ [(i, b)], ops := o } j = if i = j then b else readL s j := by
  simp only [readL, lastW_append]
  split
  · rfl
  · rfl

theorem readL_length {s : St} {n : Nat} (hok : s.Ok n) (i : Nat) (hi : i < n) : (readL s i).length = 256 := by
  simp only [readL]
  have : ∀ ps : List (Nat × List Nat), (∀ x ∈ ps, x.2.length = 256) → ((lastW ps i).getD (blockL s.med i)).length = 256 := by
    intro ps
    induction ps with
    | nil => intro _; simpa [lastW] using blockL_length _ _ n hi hok.len
    | cons x ps ih =>
      intro h
      simp only [lastW]
      have := ih (fun y hy => h y (by simp [hy]))
      cases hl : lastW ps i with
      | some l => rw [hl] at this; exact this
      | none =>
        by_cases hx : x.1 = i
        · simpa [hx] using h x (by simp)
        · simpa [hx] using blockL_length _ _ n hi hok.len
  exact this _ (fun x hx => (hok.pend x hx).2.1)

theorem newS_read (n i : Nat) (hi : i < n) : readL (newS n) i = List.replicate 256 0 := by
  simp only [readL, newS, ofS, lastW, Option.getD_none]
  refine ext_getD ?_ fun j hj => ?_
  · rw [blockL_length _ _ n hi (by rw [List.length_replicate]; omega), List.length_replicate]
  · rw [blockL_length _ _ n hi (by rw [List.length_replicate]; omega)] at hj
    rw [blockL_getD _ _ _ hj]
    simp only [List.getD_eq_getElem?_getD, List.getElem?_replicate]
    rw [if_pos (by omega), if_pos hj]


/-- The power is there, nothing is armed, and little is pending. -/
structure Calm (s : St) (k : Nat) : Prop where
  on : s.on = true
  left : s.left = 0
  pend : s.pend.length ≤ k
  ops : s.ops ≤ k

theorem Calm.write {s : St} {k : Nat} (h : Calm s k) (n : Nat) (i : Int) (b : List Nat) : Calm (writeS s n i b).1 (k + 1) := by
  have h1 := h.on
  have h2 := h.left
  have h3 := h.pend
  have h4 := h.ops
  simp only [writeS]
  split
  · exact ⟨h1, h2, Nat.le_succ_of_le h3, Nat.le_succ_of_le h4⟩
  · split
    · exact ⟨h1, h2, Nat.le_succ_of_le h3, Nat.le_succ_of_le h4⟩
    · split
      · exact ⟨h1, h2, Nat.le_succ_of_le h3, Nat.le_succ_of_le h4⟩
      · have e : operS { s with pend := s.pend ++ [(i.toNat, b)] } = ({ s with pend := s.pend ++ [(i.toNat, b)], ops := s.ops + 1 }, 0) := by simp [operS, h2]
        rw [e]
        exact ⟨h1, h2, by simp; omega, by simp; omega⟩

theorem Turn.own {w w' : World} {g m n B : Nat} {F : Nat → Prop} {s : St} (h : Turn w g m F n s w') (hO : ∀ k, Own g m F k → B ≤ k) (hB : B ≤ w.heap.size) :
    ∃ p' F', Dk w' g m p' F' n s ∧ Keeps (Own g m F) w w' ∧ (∀ k, Own g m F' k → B ≤ k) ∧ Below B w w' := by
  obtain ⟨⟨p', F', h1, h2, h3⟩⟩ := (show Nonempty (∃ p' F', Dk w' g m p' F' n s ∧ Keeps (Own g m F) w w' ∧ ∀ k, F' k → F k ∨ w.heap.size ≤ k) from ⟨h⟩)
  refine ⟨p', F', h1, h2, ?_, h2.below hO hB⟩
  rintro k (e | e | e)
  · exact hO k (.inl e)
  · exact hO k (.inr (.inl e))
  · rcases h3 k e with e | e
    · exact hO k (.inr (.inr e))
    · omega

theorem Dk.ownLt {w : World} {g m : Nat} {p : Option Nat} {F : Nat → Prop} {n : Nat} {s : St} (h : Dk w g m p F n s) : ∀ k, Own g m F k → k < w.heap.size := by
  rintro k (e | e | e)
  · subst e; exact h.gl
  · subst e; exact h.ml
  · exact h.Fl k e

theorem blockL_lt {med : List Nat} (h : ∀ x ∈ med, x < 256) (i : Nat) : ∀ x ∈ blockL med i, x < 256 := fun x hx => h x (List.mem_of_mem_drop (List.mem_of_mem_take hx))
theorem readL_lt {s : St} {n : Nat} (hok : s.Ok n) (i : Nat) : ∀ x ∈ readL s i, x < 256 := by
  simp only [readL]
  have : ∀ ps : List (Nat × List Nat), (∀ x ∈ ps, ∀ y ∈ x.2, y < 256) → ∀ y ∈ (lastW ps i).getD (blockL s.med i), y < 256 := by
    intro ps
    induction ps with
    | nil => intro _; simpa [lastW] using blockL_lt hok.lt i
    | cons x ps ih =>
      intro h
      simp only [lastW]
      have := ih (fun y hy => h y (by simp [hy]))
      cases hl : lastW ps i with
      | some l => rw [hl] at this; exact this
      | none =>
        by_cases hx : x.1 = i
        · simpa [hx] using h x (by simp)
        · simpa [hx] using blockL_lt hok.lt i
  exact this _ (fun x hx => (hok.pend x hx).2.2)

end Go.Proofs.Ytjcmmigbkhiplaa
