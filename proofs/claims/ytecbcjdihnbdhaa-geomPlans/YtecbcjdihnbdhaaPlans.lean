/- GeomPlans: for every geometry, Check and Of answer as the document says (P4.1). -/
import Derived.Test.YtecbcjdihnbdhaaC6
import Derived.Test.YtecbcjdihnbdhaaCame
set_option linter.unusedSimpArgs false
set_option linter.unusedVariables false
namespace Go.Proofs.Ytecbcjdihnbdhaa
open Go.RowKit Go.Attic Go.ChangeShapes Go.WideShapes Go.ChangeAt

theorem plans_held {w : World} {g p q : Nat} {b l d x q0 q1 q2 q3 q4 q5 : Int} (h : GeoAt w g b l d x) (h1 : PlanAt w p q0 q1 q2 q3 q4 q5) (h2 : PlanAt w q q0 q1 q2 q3 q4 q5) : w.cell? ⟨g, 0, none⟩ = some (.int .i64 b) ∧ w.cell? ⟨g, 1, none⟩ = some (.int .i64 l) ∧ w.cell? ⟨g, 2, none⟩ = some (.int .i64 d) ∧ w.cell? ⟨g, 3, none⟩ = some (.int .i64 x) ∧ w.cell? ⟨p, 0, none⟩ = some (.int .i64 q0) ∧ w.cell? ⟨p, 1, none⟩ = some (.int .i64 q1) ∧ w.cell? ⟨p, 2, none⟩ = some (.int .i64 q2) ∧ w.cell? ⟨p, 3, none⟩ = some (.int .i64 q3) ∧ w.cell? ⟨p, 4, none⟩ = some (.int .i64 q4) ∧ w.cell? ⟨p, 5, none⟩ = some (.int .i64 q5) ∧ w.cell? ⟨q, 0, none⟩ = some (.int .i64 q0) ∧ w.cell? ⟨q, 1, none⟩ = some (.int .i64 q1) ∧ w.cell? ⟨q, 2, none⟩ = some (.int .i64 q2) ∧ w.cell? ⟨q, 3, none⟩ = some (.int .i64 q3) ∧ w.cell? ⟨q, 4, none⟩ = some (.int .i64 q4) ∧ w.cell? ⟨q, 5, none⟩ = some (.int .i64 q5) :=
  ⟨h.c0, h.c1, h.c2, h.c3, h1.c0, h1.c1, h1.c2, h1.c3, h1.c4, h1.c5, h2.c0, h2.c1, h2.c2, h2.c3, h2.c4, h2.c5⟩

theorem eql25_same (a b c d e f : Int) (w : World) : (binOp .eql 25 (.agg #[.int .i64 a, .int .i64 b, .int .i64 c, .int .i64 d, .int .i64 e, .int .i64 f]) (.agg #[.int .i64 a, .int .i64 b, .int .i64 c, .int .i64 d, .int .i64 e, .int .i64 f])).run Try.prog w = .ok (.bool true) w := by
  rw [eql25]; simp

set_option maxRecDepth 100000 in
set_option maxHeartbeats 1000000 in
theorem plans_walk (b l d x q0 q1 q2 q3 q4 q5 er : Int) (w : World)
    (ho : ∀ w, Calls Try.prog 8 #[.agg #[.int .i64 b, .int .i64 l, .int .i64 d, .int .i64 x]] w fun r w' => r = .returned (.tuple #[.agg #[.int .i64 q0, .int .i64 q1, .int .i64 q2, .int .i64 q3, .int .i64 q4, .int .i64 q5], .int .i64 er]) ∧ Below w.heap.size w w')
    (hr : ∀ w, Calls Try.prog 9 #[.agg #[.int .i64 b, .int .i64 l, .int .i64 d, .int .i64 x]] w fun r w' => r = .returned (.tuple #[.agg #[.int .i64 q0, .int .i64 q1, .int .i64 q2, .int .i64 q3, .int .i64 q4, .int .i64 q5], .int .i64 er]) ∧ Below w.heap.size w w')
    (hc : ∀ w, Calls Try.prog 11 #[.agg #[.int .i64 b, .int .i64 l, .int .i64 d, .int .i64 x]] w fun r w' => r = .returned (.int .i64 er) ∧ Below w.heap.size w w')
    (hd : ∀ w, Calls Try.prog 12 #[.agg #[.int .i64 b, .int .i64 l, .int .i64 d, .int .i64 x]] w fun r w' => r = .returned (.int .i64 er) ∧ Below w.heap.size w w') :
    Calls Try.prog 3 #[.agg #[.int .i64 b, .int .i64 l, .int .i64 d, .int .i64 x]] w fun r w' => r = .returned (.bool true) ∧ Below w.heap.size w w' := by
  have hgu := fun op x y xs ys w => run_eqGuard_agg (P := Try.prog) w op 25 x y xs ys (by kernel_rfl)
  have hq := fun w => eql25_same q0 q1 q2 q3 q4 q5 w
  have hee : (er == er) = true := by simp
  have hG := GeoAt.new w b l d x
  go_enter Try.func3, Try.ntmps3
  go_wp2_with (go_at_call 8; refine (ho _).mono ?_; rintro r w1 ⟨rfl, hb1⟩; have hB1 : Below w.heap.size w w1 := ((Below.refl _ w).alloc (Nat.le_refl _) _).trans (hb1.mono (by simp)); have hG1 := (hG.mono hb1).alloc (.cells #[.int .i64 q0, .int .i64 q1, .int .i64 q2, .int .i64 q3, .int .i64 q4, .int .i64 q5] 25); have hP := PlanAt.new w1 q0 q1 q2 q3 q4 q5; have c0 := hG1.c0; have c1 := hG1.c1; have c2 := hG1.c2; have c3 := hG1.c3; clear hb1 hG)
  go_wp2_with (go_at_call 9; refine (hr _).mono ?_; rintro r w2 ⟨rfl, hb2⟩; have hB2 : Below w.heap.size w w2 := (hB1.alloc hB1.size _).trans (hb2.mono (by have := hB1.size; simp; omega)); have hG2 := (hG1.mono hb2).alloc (.cells #[.int .i64 q0, .int .i64 q1, .int .i64 q2, .int .i64 q3, .int .i64 q4, .int .i64 q5] 25); have hP2 := (hP.mono hb2).alloc (.cells #[.int .i64 q0, .int .i64 q1, .int .i64 q2, .int .i64 q3, .int .i64 q4, .int .i64 q5] 25); have hR2 := PlanAt.new w2 q0 q1 q2 q3 q4 q5; clear hb2 hG1 hP c0 c1 c2 c3)
  have hB3 : Below w.heap.size w (w2.alloc (.cells #[.int .i64 q0, .int .i64 q1, .int .i64 q2, .int .i64 q3, .int .i64 q4, .int .i64 q5] 25)).drew := (hB2.alloc hB2.size _).drew
  have bd : Below (w2.alloc (.cells #[.int .i64 q0, .int .i64 q1, .int .i64 q2, .int .i64 q3, .int .i64 q4, .int .i64 q5] 25)).heap.size (w2.alloc (.cells #[.int .i64 q0, .int .i64 q1, .int .i64 q2, .int .i64 q3, .int .i64 q4, .int .i64 q5] 25)) (w2.alloc (.cells #[.int .i64 q0, .int .i64 q1, .int .i64 q2, .int .i64 q3, .int .i64 q4, .int .i64 q5] 25)).drew := (Below.refl _ _).drew
  have gA := hG2.mono bd
  have pA := hP2.mono bd
  have rA := hR2.mono bd
  have SA := plans_held gA pA rA
  clear hG2 hP2 hR2 bd
  go_region_held3 (fun w' => w'.cell? ⟨w.heap.size, 0, none⟩ = some (.int .i64 b) ∧ w'.cell? ⟨w.heap.size, 1, none⟩ = some (.int .i64 l) ∧ w'.cell? ⟨w.heap.size, 2, none⟩ = some (.int .i64 d) ∧ w'.cell? ⟨w.heap.size, 3, none⟩ = some (.int .i64 x) ∧ w'.cell? ⟨w1.heap.size, 0, none⟩ = some (.int .i64 q0) ∧ w'.cell? ⟨w1.heap.size, 1, none⟩ = some (.int .i64 q1) ∧ w'.cell? ⟨w1.heap.size, 2, none⟩ = some (.int .i64 q2) ∧ w'.cell? ⟨w1.heap.size, 3, none⟩ = some (.int .i64 q3) ∧ w'.cell? ⟨w1.heap.size, 4, none⟩ = some (.int .i64 q4) ∧ w'.cell? ⟨w1.heap.size, 5, none⟩ = some (.int .i64 q5) ∧ w'.cell? ⟨w2.heap.size, 0, none⟩ = some (.int .i64 q0) ∧ w'.cell? ⟨w2.heap.size, 1, none⟩ = some (.int .i64 q1) ∧ w'.cell? ⟨w2.heap.size, 2, none⟩ = some (.int .i64 q2) ∧ w'.cell? ⟨w2.heap.size, 3, none⟩ = some (.int .i64 q3) ∧ w'.cell? ⟨w2.heap.size, 4, none⟩ = some (.int .i64 q4) ∧ w'.cell? ⟨w2.heap.size, 5, none⟩ = some (.int .i64 q5))
    (first | exact SA | exact SB | exact SC | exact SD)
    (first
      | (go_at_call 10; refine (begun_any _).mono ?_; rintro r w3 ⟨rfl, hb3⟩
         have hB4 := hB3.trans (hb3.mono hB3.size)
         have gB := gA.mono hb3
         have pB := pA.mono hb3
         have rB := rA.mono hb3
         have SB := plans_held gB pB rB
         skip)
      | (go_at_call 11; refine (hc _).mono ?_; rintro r w4 ⟨rfl, hb4⟩
         have hB5 := hB4.trans (hb4.mono hB4.size)
         have gC := gB.mono hb4
         have pC := pB.mono hb4
         have rC := rB.mono hb4
         have SC := plans_held gC pC rC
         skip)
      | (go_at_call 12; refine (hd _).mono ?_; rintro r w5 ⟨rfl, hb5⟩
         have hB6 := hB5.trans (hb5.mono hB5.size)
         have gD := gC.mono hb5
         have pD := pC.mono hb5
         have rD := rC.mono hb5
         have SD := plans_held gD pD rD
         skip))
  go_wp2
  go_ret
  exact ⟨rfl, hB6⟩

theorem plans_any (b l d x : Int) (w : World) (kb : -9223372036854775808 ≤ b ∧ b ≤ 9223372036854775807) :
    Calls Try.prog 3 #[.agg #[.int .i64 b, .int .i64 l, .int .i64 d, .int .i64 x]] w fun r w' => r = .returned (.bool true) ∧ Below w.heap.size w w' := by
  have hc := fun w => check_any b l d x w kb.1 kb.2
  have hd := fun w => refCheck_any b l d x w kb.1 kb.2
  by_cases h : okG b l d x
  · rw [show errG b l d x = 0 from if_pos h] at hc hd
    exact plans_walk b l d x _ _ _ _ _ _ 0 w (fun w => of_yes b l d x w h) (fun w => refOf_yes b l d x w h) hc hd
  · rw [show errG b l d x = 40 from if_neg h] at hc hd
    exact plans_walk b l d x _ _ _ _ _ _ 40 w (fun w => of_no b l d x w kb.1 kb.2 h) (fun w => refOf_no b l d x w kb.1 kb.2 h) hc hd

theorem geomPlans_lifted (os : Os) (started : os.Started) (H : Type) (enc : TypeId × Value → H) :
    ReturnsInHanded {} Try.checked os 3 .any (Rows.geomPlansSpec.pre6 enc Try.prog Try.f3 Rows.geomPlansRow.domain false) (Rows.geomPlansSpec.post enc Try.prog Try.f3 false true false false) := by
  refine law_frame (C := Try.checked) rfl Try.own started (by kernel_rfl) Try.func3
    (ChangeSpec.witness6 (enc := enc) (C := Try.checked) false ⟨#[], #[.agg #[.int .i64 0, .int .i64 0, .int .i64 0, .int .i64 0]], []⟩ 8 (by kernel_rfl) (by kernel_rfl) (by kernel_rfl) (by kernel_rfl))
    Try.laidOut ?_ 4 rfl Try.underlying4 ?_ ?_
  · rw [Try.params3]
    intro t ht
    simp at ht
    rcases ht with rfl <;> exact ⟨by kernel_rfl, of_decide_eq_true (by kernel_rfl)⟩
  · intro ds hn
    rw [Try.params3] at hn
    match ds, hn with
    | [d1], _ => rfl
  · intro W base args ds p hval0 hA hsz
    have hval : ∀ (j : Nat) t v, Try.f3.params[j]? = some t → args[j]? = some v → Value.okWide Try.prog W .any base t v := hval0
    rw [Try.params3] at hA hsz hval
    obtain ⟨v0, vs0, d0, ds0, p0, q0, hargs, rfl, rfl, h0, r0⟩ := trodAll_cons hA
    obtain ⟨rfl, rfl, rfl⟩ := trodAll_nil r0
    obtain rfl : args = #[v0] := by cases args; simp_all
    obtain ⟨b, l, d, x, rfl, kb, kl, kd, kx⟩ := came4 Try.underlying23 (by kernel_rfl) (by kernel_rfl) (by intro f hf; simp at hf; rcases hf with rfl | rfl | rfl | rfl <;> exact Try.underlying3) (hval 0 23 v0 rfl rfl) h0
    exact plans_any b l d x W kb

theorem geomPlans_holds : Rows.GeomPlansSaid :=
  OpenClaim.holds_of_wide 3 Try.f3 rfl rfl rfl rfl rfl rfl rfl ⟨rfl, rfl, rfl, rfl, rfl⟩ rfl rfl rfl rfl rfl (by kernel_rfl) Try.func3 (by kernel_rfl)
    (of_decide_eq_true (by kernel_rfl)) (by unfold Func.isWrapper; first | (rw [if_pos (by decide +kernel)]; kernel_rfl) | (rw [if_neg (by decide +kernel)]; exact ⟨rfl, rfl⟩))
    (fun os started H enc _ => geomPlans_lifted os started H enc)
#print axioms geomPlans_holds
end Go.Proofs.Ytecbcjdihnbdhaa
