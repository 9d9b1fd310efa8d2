/- Contracts: Same of two records, and the document's; Clone, and the document's. -/
import Derived.Test.YtgdlbfoihpdlhaaR1
set_option linter.unusedSimpArgs false
set_option linter.unusedVariables false
namespace Go.Proofs.Ytgdlbfoihpdlhaa
open Go.RowKit Go.Attic

def sameB (k b o m : Int) (l : List Nat) (k' b' o' m' : Int) (l' : List Nat) : Bool := decide (k = k' ∧ b = b' ∧ o = o' ∧ m = m' ∧ l = l')

set_option maxRecDepth 100000 in
set_option maxHeartbeats 400000 in
theorem rsame_any (k b o m k' b' o' m' : Int) (v v' : Value) (l l' : List Nat) (w : World) (hv : Bs w v l) (hv' : Bs w v' l') :
    Calls Try.prog 33 #[.agg #[.int .i64 k, .int .i64 b, .int .i64 o, v, .int .i64 m], .agg #[.int .i64 k', .int .i64 b', .int .i64 o', v', .int .i64 m']] w fun e w2 => e = .returned (.bool (sameB k b o m l k' b' o' m' l')) ∧ Below w.heap.size w w2 := by
  obtain ⟨ao, cap, rfl, -⟩ := id hv
  obtain ⟨ao', cap', rfl, -⟩ := id hv'
  have c1 := fun o1 o2 => ((hv.alloc o1).alloc o2).convert (P := Try.prog) 37 5 9 Try.underlying37 Try.underlying5 Try.underlying9
  have c2 := fun o1 o2 => ((hv'.alloc o1).alloc o2).convert (P := Try.prog) 37 5 9 Try.underlying37 Try.underlying5 Try.underlying9
  have hb := strB_beq hv.lt hv'.lt
  clear hv hv'
  by_cases h0 : k = k'
  case neg =>
    have hq : (k == k') = false := by simp [h0]
    rw [show sameB k b o m l k' b' o' m' l' = false by simp [sameB, h0]]
    clear c1 c2 hb
    go_enter Try.func33, Try.ntmps33
    go_wp2_with fail
    go_ret
    exact ⟨rfl, ((Below.refl _ w).alloc (Nat.le_refl _) _).alloc (by simp) _⟩
  subst h0
  by_cases h1 : b = b'
  case neg =>
    have hq : (b == b') = false := by simp [h1]
    rw [show sameB k b o m l k b' o' m' l' = false by simp [sameB, h1]]
    clear c1 c2 hb
    go_enter Try.func33, Try.ntmps33
    go_wp2_with fail
    go_ret
    exact ⟨rfl, ((Below.refl _ w).alloc (Nat.le_refl _) _).alloc (by simp) _⟩
  subst h1
  by_cases h2 : o = o'
  case neg =>
    have hq : (o == o') = false := by simp [h2]
    rw [show sameB k b o m l k b o' m' l' = false by simp [sameB, h2]]
    clear c1 c2 hb
    go_enter Try.func33, Try.ntmps33
    go_wp2_with fail
    go_ret
    exact ⟨rfl, ((Below.refl _ w).alloc (Nat.le_refl _) _).alloc (by simp) _⟩
  subst h2
  by_cases hl : l = l'
  case neg =>
    rw [decide_eq_false hl] at hb
    rw [show sameB k b o m l k b o m' l' = false by simp [sameB, hl]]
    clear hl
    go_enter Try.func33, Try.ntmps33
    go_wp2_with fail
    go_ret
    exact ⟨rfl, ((Below.refl _ w).alloc (Nat.le_refl _) _).alloc (by simp) _⟩
  rw [decide_eq_true hl] at hb
  by_cases h4 : m = m'
  case neg =>
    have hq : (m == m') = false := by simp [h4]
    rw [show sameB k b o m l k b o m' l' = false by simp [sameB, h4]]
    clear hl h4
    go_enter Try.func33, Try.ntmps33
    go_wp2_with fail
    go_ret
    exact ⟨rfl, ((Below.refl _ w).alloc (Nat.le_refl _) _).alloc (by simp) _⟩
  subst h4
  rw [show sameB k b o m l k b o m l' = true by simp [sameB, hl]]
  clear hl
  go_enter Try.func33, Try.ntmps33
  go_wp2_with fail
  go_ret
  exact ⟨rfl, ((Below.refl _ w).alloc (Nat.le_refl _) _).alloc (by simp) _⟩


end Go.Proofs.Ytgdlbfoihpdlhaa
