/- Contracts: the small geometry of each statement. -/
import Derived.Test.YtecbcjdihnbdhaaC5
set_option linter.unusedSimpArgs false
set_option linter.unusedVariables false
namespace Go.Proofs.Ytecbcjdihnbdhaa
open Go.RowKit Go.Attic

set_option maxHeartbeats 400000 in
theorem some_any (w : World) : Calls Try.prog 30 #[] w fun r w' => r = .returned (.agg #[.int .i64 100, .int .i64 8, .int .i64 2, .int .i64 20]) ∧ Below w.heap.size w w' := by
  go_enter Try.func30, Try.ntmps30
  go_wp2_with fail
  refine bodyPost_ret (v := .agg #[.int .i64 100, .int .i64 8, .int .i64 2, .int .i64 20]) (by simp [results, Try.results30, go_sem]) rfl ⟨rfl, ?_⟩
  exact (Below.refl _ w).alloc (Nat.le_refl _) _

theorem eql25 (a b c d e f a' b' c' d' e' f' : Int) (w : World) : (binOp .eql 25 (.agg #[.int .i64 a, .int .i64 b, .int .i64 c, .int .i64 d, .int .i64 e, .int .i64 f]) (.agg #[.int .i64 a', .int .i64 b', .int .i64 c', .int .i64 d', .int .i64 e', .int .i64 f'])).run Try.prog w = .ok (.bool (a == a' && b == b' && c == c' && d == d' && e == e' && f == f')) w := by
  have u3 := Try.underlying3
  have a3 := Try.isAgg3
  have z3 := Try.sizeOf3
  have hS : Try.prog.underlying 25 = some (.struct (Try.prog.fieldsOf 25)) := by kernel_rfl
  have hp : Try.prog.stoodInHeld 25 = false := by kernel_rfl
  rw [run_eql_struct, show (10000 : Nat) = 9999 + 1 from rfl, run_equalIn_agg w 9999 25 _ _ hS hp]
  simp only [Program.fieldsOf, Try.underlying25]
  go_simp
  by_cases h1 : a = a' <;> by_cases h2 : b = b' <;> by_cases h3 : c = c' <;> by_cases h4 : d = d' <;> by_cases h5 : e = e' <;> by_cases h6 : f = f' <;> simp [h1, h2, h3, h4, h5, h6]

set_option maxRecDepth 100000 in
set_option maxHeartbeats 400000 in
theorem begun_any (w : World) : Calls Try.prog 10 #[] w fun r w' => r = .returned (.bool true) ∧ Below w.heap.size w w' := by
  have ho := fun w => of_yes 100 8 2 20 w (by unfold okG planB; decide)
  have e1 : (3 : Int) + 8 = 11 := rfl
  have e2 : (11 : Int) + (20 + 31) / 32 = 12 := by decide
  have e3 : (12 : Int) + (20 + 63) / 64 = 13 := by decide
  simp only [e1, e2, e3, show (13 : Int) + 2 = 15 from rfl, show (15 : Int) + 4 * 20 = 95 from by decide] at ho
  have hs := fun w => slotAt_yes 3 11 12 13 15 95 1 2 3 w (by unfold okE; decide) (by decide) (by decide)
  have hs2 : ∀ w, Calls Try.prog 19 #[.agg #[.int .i64 3, .int .i64 11, .int .i64 12, .int .i64 13, .int .i64 15, .int .i64 95], .int .i64 1, .int .i64 2, .int .i64 3] w fun r w' => r = .returned (.tuple #[.int .i64 20, .int .i64 128]) ∧ Below w.heap.size w w' := hs
  have hgu := fun op x y xs ys w => run_eqGuard_agg (P := Try.prog) w op 25 x y xs ys (by kernel_rfl)
  have hq := fun w => eql25 3 11 12 13 15 95 3 11 12 13 15 95 w
  simp only [beq_self_eq_true, Bool.and_self] at hq
  clear hs
  go_enter Try.func10, Try.ntmps10
  go_wp2_with (go_at_call 30; refine (some_any _).mono ?_; rintro r w1 ⟨rfl, hb1⟩)
  go_wp2_with (go_at_call 8; refine (ho _).mono ?_; rintro r w2 ⟨rfl, hb2⟩; have hB2 : Below w.heap.size w w2 := hb1.trans (hb2.mono hb1.size); have hP := PlanAt.new w2 3 11 12 13 15 95; clear hb1 hb2)
  go_wp2_with (go_at_call 19; refine (hs2 _).mono ?_; rintro r w3 ⟨rfl, hb3⟩; have hB3 : Below w.heap.size w w3 := (hB2.alloc hB2.size _).trans (hb3.mono (by have := hB2.size; simp; omega)); obtain ⟨c0, c1, c2, c3, c4, c5, f0, f1, f2, f3, f4, f5, lp⟩ := hP.mono hb3; clear hb3 hP hB2)
  go_ret
  exact ⟨rfl, hB3⟩

end Go.Proofs.Ytecbcjdihnbdhaa
