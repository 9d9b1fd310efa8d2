/- What counts of a list of records, as plain lists. No function of the program is called here. -/
import Derived.Test.YtgdlbfoihpdlhaaL1
set_option linter.unusedSimpArgs false
set_option linter.unusedVariables false
namespace Go.Proofs.Ytgdlbfoihpdlhaa
open Go.RowKit Go.Attic

/-- A record that may be, decided. -/
def okb (r : Rc) : Bool := decide (chkR r.k r.b r.o r.m r.l.length = 0)
theorem okb_ok {r : Rc} (h : okb r = true) : okR r.k r.b r.o r.m r.l.length := chkR_zero (by simpa [okb] using h)
theorem okb_chk {r : Rc} (h : okb r = true) : chkR r.k r.b r.o r.m r.l.length = 0 := by simpa [okb] using h
theorem okb_no {r : Rc} (h : okb r = false) : chkR r.k r.b r.o r.m r.l.length = 60 := by
  have h1 : chkR r.k r.b r.o r.m r.l.length ≠ 0 := by simpa [okb] using h
  refine chkR_no fun h2 => h1 (chkR_ok h2)

/-- The patches that count, and up to where: those of out count, wait wait, n records count, i were gone through. -/
def comm : List Rc → List Rc → List Rc → Nat → Nat → List Rc × Nat
  | [], _, out, n, _ => (out, n)
  | r :: rs, wait, out, n, i =>
    if okb r = true then
      if r.k = 1 then comm rs (wait ++ [r]) out n (i + 1)
      else if r.m = (wait.length : Int) then comm rs [] (out ++ wait) (i + 1) (i + 1) else (out, n)
    else (out, n)
def commit (rs : List Rc) : List Rc × Nat := comm rs [] [] 0 0

theorem comm_no {r : Rc} {rs wait out : List Rc} {n i : Nat} (h : okb r = false) : comm (r :: rs) wait out n i = (out, n) := by simp [comm, h]
theorem comm_patch {r : Rc} {rs wait out : List Rc} {n i : Nat} (h : okb r = true) (hk : r.k = 1) : comm (r :: rs) wait out n i = comm rs (wait ++ [r]) out n (i + 1) := by simp [comm, h, hk]
theorem comm_counts {r : Rc} {rs wait out : List Rc} {n i : Nat} (h : okb r = true) (hk : r.k ≠ 1) (hm : r.m = (wait.length : Int)) : comm (r :: rs) wait out n i = comm rs [] (out ++ wait) (i + 1) (i + 1) := by simp [comm, h, hk, hm]
theorem comm_not {r : Rc} {rs wait out : List Rc} {n i : Nat} (h : okb r = true) (hk : r.k ≠ 1) (hm : r.m ≠ (wait.length : Int)) : comm (r :: rs) wait out n i = (out, n) := by simp [comm, h, hk, hm]

theorem comm_le (rs : List Rc) : ∀ (wait out : List Rc) (n i : Nat), n ≤ i → n ≤ (comm rs wait out n i).2 ∧ (comm rs wait out n i).2 ≤ i + rs.length ∧ out <+: (comm rs wait out n i).1 := by
  induction rs with
  | nil => intro wait out n i h; simp [comm]; exact h
  | cons r rs ih =>
    intro wait out n i h
    cases hb : okb r with
    | false => rw [comm_no hb]; exact ⟨Nat.le_refl _, by simp; omega, List.prefix_refl _⟩
    | true =>
      by_cases hk : r.k = 1
      · rw [comm_patch hb hk]
        obtain ⟨h1, h2, h3⟩ := ih (wait ++ [r]) out n (i + 1) (by omega)
        exact ⟨h1, by simp; omega, h3⟩
      · by_cases hm : r.m = (wait.length : Int)
        · rw [comm_counts hb hk hm]
          obtain ⟨h1, h2, h3⟩ := ih [] (out ++ wait) (i + 1) (i + 1) (Nat.le_refl _)
          exact ⟨by omega, by simp; omega, (List.prefix_append _ _).trans h3⟩
        · rw [comm_not hb hk hm]; exact ⟨Nat.le_refl _, by simp; omega, List.prefix_refl _⟩

/-- A beginning gives a beginning. -/
theorem comm_pre (rs : List Rc) : ∀ (k : Nat) (wait out : List Rc) (n i : Nat), n ≤ i → (comm (rs.take k) wait out n i).2 ≤ (comm rs wait out n i).2 ∧ (comm (rs.take k) wait out n i).1 <+: (comm rs wait out n i).1 := by
  induction rs with
  | nil => intro k wait out n i h; simp
  | cons r rs ih =>
    intro k wait out n i h
    cases k with
    | zero =>
      have := comm_le (r :: rs) wait out n i h
      simp only [List.take_zero, comm]
      exact ⟨this.1, this.2.2⟩
    | succ k =>
      rw [List.take_succ_cons]
      cases hb : okb r with
      | false => rw [comm_no hb, comm_no hb]; exact ⟨Nat.le_refl _, List.prefix_refl _⟩
      | true =>
        by_cases hk : r.k = 1
        · rw [comm_patch hb hk, comm_patch hb hk]; exact ih k _ _ _ _ (by omega)
        · by_cases hm : r.m = (wait.length : Int)
          · rw [comm_counts hb hk hm, comm_counts hb hk hm]; exact ih k _ _ _ _ (Nat.le_refl _)
          · rw [comm_not hb hk hm, comm_not hb hk hm]; exact ⟨Nat.le_refl _, List.prefix_refl _⟩

/-- The records that count, alone, count as they do in the list. -/
theorem comm_again (rs : List Rc) : ∀ (wait out : List Rc) (n i : Nat), n ≤ i →
    ((comm rs wait out n i).2 = n ∧ (comm rs wait out n i).1 = out) ∨ (i < (comm rs wait out n i).2 ∧ comm (rs.take ((comm rs wait out n i).2 - i)) wait out n i = comm rs wait out n i) := by
  induction rs with
  | nil => intro wait out n i h; exact .inl ⟨rfl, rfl⟩
  | cons r rs ih =>
    intro wait out n i h
    cases hb : okb r with
    | false => rw [comm_no hb]; exact .inl ⟨rfl, rfl⟩
    | true =>
      by_cases hk : r.k = 1
      · rw [comm_patch hb hk]
        rcases ih (wait ++ [r]) out n (i + 1) (by omega) with h1 | ⟨h1, h2⟩
        · exact .inl h1
        · refine .inr ⟨by omega, ?_⟩
          generalize hG : comm rs (wait ++ [r]) out n (i + 1) = G at *
          rw [show G.2 - i = (G.2 - (i + 1)) + 1 by omega, List.take_succ_cons, comm_patch hb hk, h2]
      · by_cases hm : r.m = (wait.length : Int)
        · rw [comm_counts hb hk hm]
          refine .inr ?_
          rcases ih [] (out ++ wait) (i + 1) (i + 1) (Nat.le_refl _) with ⟨h1, h3⟩ | ⟨h1, h2⟩
          · generalize hG : comm rs [] (out ++ wait) (i + 1) (i + 1) = G at *
            refine ⟨by omega, ?_⟩
            rw [show G.2 - i = 0 + 1 by omega, List.take_succ_cons, comm_counts hb hk hm, List.take_zero]
            show (out ++ wait, i + 1) = G
            rw [← h1, ← h3]
          · generalize hG : comm rs [] (out ++ wait) (i + 1) (i + 1) = G at *
            refine ⟨by omega, ?_⟩
            rw [show G.2 - i = (G.2 - (i + 1)) + 1 by omega, List.take_succ_cons, comm_counts hb hk hm, h2]
        · rw [comm_not hb hk hm]; exact .inl ⟨rfl, rfl⟩

theorem commit_le (rs : List Rc) : (commit rs).2 ≤ rs.length := by
  have := (comm_le rs [] [] 0 0 (Nat.le_refl _)).2.1
  unfold commit; omega
theorem commit_pre (rs : List Rc) (k : Nat) : (commit (rs.take k)).2 ≤ (commit rs).2 ∧ (commit (rs.take k)).1 <+: (commit rs).1 := comm_pre rs k [] [] 0 0 (Nat.le_refl _)
theorem commit_again (rs : List Rc) : commit (rs.take (commit rs).2) = commit rs := by
  unfold commit
  rcases comm_again rs [] [] 0 0 (Nat.le_refl _) with ⟨h1, h2⟩ | ⟨_, h⟩
  · rw [h1]
    generalize comm rs [] [] 0 0 = G at *
    obtain ⟨a, b⟩ := G
    simp only at h1 h2
    subst h1 h2
    simp [comm]
  · simpa using h
/-- Those that count are few. -/
theorem comm_len (rs : List Rc) : ∀ (wait out : List Rc) (n i : Nat), (comm rs wait out n i).1.length ≤ out.length + wait.length + rs.length := by
  induction rs with
  | nil => intro wait out n i; simp [comm]
  | cons r rs ih =>
    intro wait out n i
    cases hb : okb r with
    | false => rw [comm_no hb]; simp; omega
    | true =>
      by_cases hk : r.k = 1
      · rw [comm_patch hb hk]
        have := ih (wait ++ [r]) out n (i + 1)
        simp at this ⊢; omega
      · by_cases hm : r.m = (wait.length : Int)
        · rw [comm_counts hb hk hm]
          have := ih [] (out ++ wait) (i + 1) (i + 1)
          simp at this ⊢; omega
        · rw [comm_not hb hk hm]; simp; omega
theorem commit_len (rs : List Rc) : (commit rs).1.length ≤ rs.length := by
  have := comm_len rs [] [] 0 0
  simpa [commit] using this

end Go.Proofs.Ytgdlbfoihpdlhaa
