/- GeomPlaces: by every plan, TableAt, MarksAt, Extent, SlotAt, Slots and SlotBytes answer as the document says (P4.2, P4.3). -/
import Derived.Test.YtecbcjdihnbdhaaC6
import Derived.Test.YtecbcjdihnbdhaaCame
set_option linter.unusedSimpArgs false
set_option linter.unusedVariables false
namespace Go.Proofs.Ytecbcjdihnbdhaa
open Go.RowKit Go.Attic Go.ChangeShapes Go.WideShapes Go.ChangeAt

theorem plan_held {w : World} {p : Nat} {a0 a1 a2 a3 a4 a5 : Int} (h1 : PlanAt w p a0 a1 a2 a3 a4 a5) : w.cell? ⟨p, 0, none⟩ = some (.int .i64 a0) ∧ w.cell? ⟨p, 1, none⟩ = some (.int .i64 a1) ∧ w.cell? ⟨p, 2, none⟩ = some (.int .i64 a2) ∧ w.cell? ⟨p, 3, none⟩ = some (.int .i64 a3) ∧ w.cell? ⟨p, 4, none⟩ = some (.int .i64 a4) ∧ w.cell? ⟨p, 5, none⟩ = some (.int .i64 a5) :=
  ⟨h1.c0, h1.c1, h1.c2, h1.c3, h1.c4, h1.c5⟩

set_option maxRecDepth 100000 in
set_option maxHeartbeats 1000000 in
theorem places_walk (a0 a1 a2 a3 a4 a5 e c s t0 t1 m0 m1 x0 s0 s1 n0 n1 : Int) (w : World)
    (h13 : (∀ w, Calls Try.prog 13 #[.agg #[.int .i64 a0, .int .i64 a1, .int .i64 a2, .int .i64 a3, .int .i64 a4, .int .i64 a5], .int .i64 e] w fun r w' => r = .returned (.tuple #[.int .i64 t0, .int .i64 t1]) ∧ Below w.heap.size w w'))
    (h14 : (∀ w, Calls Try.prog 14 #[.agg #[.int .i64 a0, .int .i64 a1, .int .i64 a2, .int .i64 a3, .int .i64 a4, .int .i64 a5], .int .i64 e] w fun r w' => r = .returned (.tuple #[.int .i64 t0, .int .i64 t1]) ∧ Below w.heap.size w w'))
    (h15 : (∀ w, Calls Try.prog 15 #[.agg #[.int .i64 a0, .int .i64 a1, .int .i64 a2, .int .i64 a3, .int .i64 a4, .int .i64 a5], .int .i64 e] w fun r w' => r = .returned (.tuple #[.int .i64 m0, .int .i64 m1]) ∧ Below w.heap.size w w'))
    (h16 : (∀ w, Calls Try.prog 16 #[.agg #[.int .i64 a0, .int .i64 a1, .int .i64 a2, .int .i64 a3, .int .i64 a4, .int .i64 a5], .int .i64 e] w fun r w' => r = .returned (.tuple #[.int .i64 m0, .int .i64 m1]) ∧ Below w.heap.size w w'))
    (h17 : (∀ w, Calls Try.prog 17 #[.agg #[.int .i64 a0, .int .i64 a1, .int .i64 a2, .int .i64 a3, .int .i64 a4, .int .i64 a5], .int .i64 e] w fun r w' => r = .returned (.int .i64 x0) ∧ Below w.heap.size w w'))
    (h18 : (∀ w, Calls Try.prog 18 #[.agg #[.int .i64 a0, .int .i64 a1, .int .i64 a2, .int .i64 a3, .int .i64 a4, .int .i64 a5], .int .i64 e] w fun r w' => r = .returned (.int .i64 x0) ∧ Below w.heap.size w w'))
    (h19 : (∀ w, Calls Try.prog 19 #[.agg #[.int .i64 a0, .int .i64 a1, .int .i64 a2, .int .i64 a3, .int .i64 a4, .int .i64 a5], .int .i64 e, .int .i64 c, .int .i64 s] w fun r w' => r = .returned (.tuple #[.int .i64 s0, .int .i64 s1]) ∧ Below w.heap.size w w'))
    (h20 : (∀ w, Calls Try.prog 20 #[.agg #[.int .i64 a0, .int .i64 a1, .int .i64 a2, .int .i64 a3, .int .i64 a4, .int .i64 a5], .int .i64 e, .int .i64 c, .int .i64 s] w fun r w' => r = .returned (.tuple #[.int .i64 s0, .int .i64 s1]) ∧ Below w.heap.size w w'))
    (h21 : (∀ w, Calls Try.prog 21 #[.int .i64 c] w fun r w' => r = .returned (.int .i64 n0) ∧ w = w'))
    (h22 : (∀ w, Calls Try.prog 22 #[.int .i64 c] w fun r w' => r = .returned (.int .i64 n0) ∧ w = w'))
    (h23 : (∀ w, Calls Try.prog 23 #[.int .i64 c] w fun r w' => r = .returned (.int .i64 n1) ∧ w = w'))
    (h24 : (∀ w, Calls Try.prog 24 #[.int .i64 c] w fun r w' => r = .returned (.int .i64 n1) ∧ w = w')) :
    Calls Try.prog 4 #[.agg #[.int .i64 a0, .int .i64 a1, .int .i64 a2, .int .i64 a3, .int .i64 a4, .int .i64 a5], .int .i64 e, .int .i64 c, .int .i64 s] w fun r w' => r = .returned (.bool true) ∧ Below w.heap.size w w' := by
  have e0 : (t0 != t0) = false := by simp
  have e1 : (t1 != t1) = false := by simp
  have e2 : (m0 != m0) = false := by simp
  have e3 : (m1 != m1) = false := by simp
  have e4 : (x0 != x0) = false := by simp
  have e5 : (s0 == s0) = true := by simp
  have e6 : (s1 == s1) = true := by simp
  have e7 : (n0 == n0) = true := by simp
  have e8 : (n1 == n1) = true := by simp
  have hP := PlanAt.new w a0 a1 a2 a3 a4 a5
  go_enter Try.func4, Try.ntmps4
  go_wp2_with (go_at_call 13; refine (h13 _).mono ?_; rintro r w1 ⟨rfl, hb1⟩; have hB1 : Below w.heap.size w w1 := ((Below.refl _ w).alloc (Nat.le_refl _) _).trans (hb1.mono (by simp)); have hP1 := hP.mono hb1; obtain ⟨c0, c1, c2, c3, c4, c5⟩ := plan_held hP1; clear hb1 hP)
  go_wp2_with (go_at_call 14; refine (h14 _).mono ?_; rintro r w2 ⟨rfl, hb2⟩; have hB2 := hB1.trans (hb2.mono hB1.size); have hP2 := hP1.mono hb2; clear c0 c1 c2 c3 c4 c5; obtain ⟨c0, c1, c2, c3, c4, c5⟩ := plan_held hP2; clear hb2 hP1)
  go_wp2_with (go_at_call 15; refine (h15 _).mono ?_; rintro r w3 ⟨rfl, hb3⟩; have hB3 := hB2.trans (hb3.mono hB2.size); have hP3 := hP2.mono hb3; clear c0 c1 c2 c3 c4 c5; obtain ⟨c0, c1, c2, c3, c4, c5⟩ := plan_held hP3; clear hb3 hP2)
  go_wp2_with (go_at_call 16; refine (h16 _).mono ?_; rintro r w4 ⟨rfl, hb4⟩; have hB4 := hB3.trans (hb4.mono hB3.size); have hP4 := hP3.mono hb4; clear c0 c1 c2 c3 c4 c5; clear hb4 hP3)
  have pA : PlanAt w4.drew w.heap.size a0 a1 a2 a3 a4 a5 := hP4.mono (Below.refl _ _).drew
  have hBA : Below w.heap.size w w4.drew := hB4.drew
  have SA := plan_held pA
  clear hP4
  go_region_held3 (fun w' => w'.cell? ⟨w.heap.size, 0, none⟩ = some (.int .i64 a0) ∧ w'.cell? ⟨w.heap.size, 1, none⟩ = some (.int .i64 a1) ∧ w'.cell? ⟨w.heap.size, 2, none⟩ = some (.int .i64 a2) ∧ w'.cell? ⟨w.heap.size, 3, none⟩ = some (.int .i64 a3) ∧ w'.cell? ⟨w.heap.size, 4, none⟩ = some (.int .i64 a4) ∧ w'.cell? ⟨w.heap.size, 5, none⟩ = some (.int .i64 a5))
    (first | exact SA | exact SB | exact SC | exact SD)
    (first
      | (go_at_call 10; refine (begun_any _).mono ?_; rintro r w5 ⟨rfl, hb5⟩
         have hB5 := hBA.trans (hb5.mono hBA.size)
         have pB := pA.mono hb5
         have SB := plan_held pB
         skip)
      | (go_at_call 17; refine (h17 _).mono ?_; rintro r w6 ⟨rfl, hb6⟩
         have hB6 := hB5.trans (hb6.mono hB5.size)
         have pC := pB.mono hb6
         have SC := plan_held pC
         skip)
      | (go_at_call 18; refine (h18 _).mono ?_; rintro r w7 ⟨rfl, hb7⟩
         have hB7 := hB6.trans (hb7.mono hB6.size)
         have pD := pC.mono hb7
         have SD := plan_held pD
         skip))
  obtain ⟨c0, c1, c2, c3, c4, c5⟩ := SD
  clear SA SB SC pA pB pC hB4 hB5 hB6 hBA h13 h14 h15 h16
  go_wp2_with (go_at_call 19; refine (h19 _).mono ?_; rintro r w8 ⟨rfl, hb8⟩; have hB8 := hB7.trans (hb8.mono hB7.size); have hP8 := pD.mono hb8; clear c0 c1 c2 c3 c4 c5; obtain ⟨c0, c1, c2, c3, c4, c5⟩ := plan_held hP8; clear hb8 pD)
  go_wp2_with (go_at_call 20; refine (h20 _).mono ?_; rintro r w9 ⟨rfl, hb9⟩; have hB9 := hB8.trans (hb9.mono hB8.size); clear c0 c1 c2 c3 c4 c5; clear hb9 hP8)
  go_wp2_with (first | (go_at_call 21; refine (h21 _).mono ?_; rintro r wa ⟨rfl, rfl⟩) | (go_at_call 22; refine (h22 _).mono ?_; rintro r wa ⟨rfl, rfl⟩) | (go_at_call 23; refine (h23 _).mono ?_; rintro r wa ⟨rfl, rfl⟩) | (go_at_call 24; refine (h24 _).mono ?_; rintro r wa ⟨rfl, rfl⟩))
  go_ret
  exact ⟨rfl, hB9⟩

theorem places_any (a0 a1 a2 a3 a4 a5 e c s : Int) (w : World) :
    Calls Try.prog 4 #[.agg #[.int .i64 a0, .int .i64 a1, .int .i64 a2, .int .i64 a3, .int .i64 a4, .int .i64 a5], .int .i64 e, .int .i64 c, .int .i64 s] w fun r w' => r = .returned (.bool true) ∧ Below w.heap.size w w' := by
  have P1 : ∃ t0 t1, (∀ w, Calls Try.prog 13 #[.agg #[.int .i64 a0, .int .i64 a1, .int .i64 a2, .int .i64 a3, .int .i64 a4, .int .i64 a5], .int .i64 e] w fun r w' => r = .returned (.tuple #[.int .i64 t0, .int .i64 t1]) ∧ Below w.heap.size w w') ∧ (∀ w, Calls Try.prog 14 #[.agg #[.int .i64 a0, .int .i64 a1, .int .i64 a2, .int .i64 a3, .int .i64 a4, .int .i64 a5], .int .i64 e] w fun r w' => r = .returned (.tuple #[.int .i64 t0, .int .i64 t1]) ∧ Below w.heap.size w w') := by
    by_cases h : okE a1 e
    · exact ⟨_, _, fun w => tableAt_yes a0 a1 a2 a3 a4 a5 e w h, fun w => refTableAt_yes a0 a1 a2 a3 a4 a5 e w h⟩
    · exact ⟨_, _, fun w => tableAt_no a0 a1 a2 a3 a4 a5 e w h, fun w => refTableAt_no a0 a1 a2 a3 a4 a5 e w h⟩
  have P2 : ∃ m0 m1, (∀ w, Calls Try.prog 15 #[.agg #[.int .i64 a0, .int .i64 a1, .int .i64 a2, .int .i64 a3, .int .i64 a4, .int .i64 a5], .int .i64 e] w fun r w' => r = .returned (.tuple #[.int .i64 m0, .int .i64 m1]) ∧ Below w.heap.size w w') ∧ (∀ w, Calls Try.prog 16 #[.agg #[.int .i64 a0, .int .i64 a1, .int .i64 a2, .int .i64 a3, .int .i64 a4, .int .i64 a5], .int .i64 e] w fun r w' => r = .returned (.tuple #[.int .i64 m0, .int .i64 m1]) ∧ Below w.heap.size w w') := by
    by_cases h : okE a2 e
    · exact ⟨_, _, fun w => marksAt_yes a0 a1 a2 a3 a4 a5 e w h, fun w => refMarksAt_yes a0 a1 a2 a3 a4 a5 e w h⟩
    · exact ⟨_, _, fun w => marksAt_no a0 a1 a2 a3 a4 a5 e w h, fun w => refMarksAt_no a0 a1 a2 a3 a4 a5 e w h⟩
  have P3 : ∃ x0, (∀ w, Calls Try.prog 17 #[.agg #[.int .i64 a0, .int .i64 a1, .int .i64 a2, .int .i64 a3, .int .i64 a4, .int .i64 a5], .int .i64 e] w fun r w' => r = .returned (.int .i64 x0) ∧ Below w.heap.size w w') ∧ (∀ w, Calls Try.prog 18 #[.agg #[.int .i64 a0, .int .i64 a1, .int .i64 a2, .int .i64 a3, .int .i64 a4, .int .i64 a5], .int .i64 e] w fun r w' => r = .returned (.int .i64 x0) ∧ Below w.heap.size w w') := by
    by_cases h : okE a4 e
    · exact ⟨_, fun w => extent_yes a0 a1 a2 a3 a4 a5 e w h, fun w => refExtent_yes a0 a1 a2 a3 a4 a5 e w h⟩
    · exact ⟨_, fun w => extent_no a0 a1 a2 a3 a4 a5 e w h, fun w => refExtent_no a0 a1 a2 a3 a4 a5 e w h⟩
  have P4 : ∃ s0 s1, (∀ w, Calls Try.prog 19 #[.agg #[.int .i64 a0, .int .i64 a1, .int .i64 a2, .int .i64 a3, .int .i64 a4, .int .i64 a5], .int .i64 e, .int .i64 c, .int .i64 s] w fun r w' => r = .returned (.tuple #[.int .i64 s0, .int .i64 s1]) ∧ Below w.heap.size w w') ∧ (∀ w, Calls Try.prog 20 #[.agg #[.int .i64 a0, .int .i64 a1, .int .i64 a2, .int .i64 a3, .int .i64 a4, .int .i64 a5], .int .i64 e, .int .i64 c, .int .i64 s] w fun r w' => r = .returned (.tuple #[.int .i64 s0, .int .i64 s1]) ∧ Below w.heap.size w w') := by
    by_cases h : okE a4 e ∧ 0 ≤ s ∧ s < sl c
    · exact ⟨_, _, fun w => slotAt_yes a0 a1 a2 a3 a4 a5 e c s w h.1 h.2.1 h.2.2, fun w => refSlotAt_yes a0 a1 a2 a3 a4 a5 e c s w h.1 h.2.1 h.2.2⟩
    · exact ⟨_, _, fun w => slotAt_no a0 a1 a2 a3 a4 a5 e c s w h, fun w => refSlotAt_no a0 a1 a2 a3 a4 a5 e c s w h⟩
  obtain ⟨t0, t1, h13, h14⟩ := P1
  obtain ⟨m0, m1, h15, h16⟩ := P2
  obtain ⟨x0, h17, h18⟩ := P3
  obtain ⟨s0, s1, h19, h20⟩ := P4
  exact places_walk a0 a1 a2 a3 a4 a5 e c s t0 t1 m0 m1 x0 s0 s1 (sl c) (sb c) w h13 h14 h15 h16 h17 h18 h19 h20 (fun w => slots_any c w) (fun w => refSlots_any c w) (fun w => slotBytes_any c w) (fun w => refSlotBytes_any c w)

theorem geomPlaces_lifted (os : Os) (started : os.Started) (H : Type) (enc : TypeId × Value → H) :
    ReturnsInHanded {} Try.checked os 4 .any (Rows.geomPlacesSpec.pre6 enc Try.prog Try.f4 Rows.geomPlacesRow.domain false) (Rows.geomPlacesSpec.post enc Try.prog Try.f4 false true false false) := by
  refine law_frame (C := Try.checked) rfl Try.own started (by kernel_rfl) Try.func4
    (ChangeSpec.witness6 (enc := enc) (C := Try.checked) false ⟨#[], #[.agg #[.int .i64 0, .int .i64 0, .int .i64 0, .int .i64 0, .int .i64 0, .int .i64 0], .int .i64 0, .int .i64 0, .int .i64 0], []⟩ 8 (by kernel_rfl) (by kernel_rfl) (by kernel_rfl) (by kernel_rfl))
    Try.laidOut ?_ 4 rfl Try.underlying4 ?_ ?_
  · rw [Try.params4]
    intro t ht
    simp at ht
    rcases ht with rfl | rfl <;> exact ⟨by kernel_rfl, of_decide_eq_true (by kernel_rfl)⟩
  · intro ds hn
    rw [Try.params4] at hn
    match ds, hn with
    | [d1, d2, d3, d4], _ => rfl
  · intro W base args ds p hval0 hA hsz
    have hval : ∀ (j : Nat) t v, Try.f4.params[j]? = some t → args[j]? = some v → Value.okWide Try.prog W .any base t v := hval0
    rw [Try.params4] at hA hsz hval
    obtain ⟨v0, vs0, d0, ds0, p0, q0, hargs, rfl, rfl, h0, r0⟩ := trodAll_cons hA
    obtain ⟨v1, vs1, d1, ds1, p1, q1, rfl, rfl, rfl, h1, r1⟩ := trodAll_cons r0
    obtain ⟨v2, vs2, d2, ds2, p2, q2, rfl, rfl, rfl, h2, r2⟩ := trodAll_cons r1
    obtain ⟨v3, vs3, d3, ds3, p3, q3, rfl, rfl, rfl, h3, r3⟩ := trodAll_cons r2
    obtain ⟨rfl, rfl, rfl⟩ := trodAll_nil r3
    obtain rfl : args = #[v0, v1, v2, v3] := by cases args; simp_all
    obtain ⟨z0, z1, z2, z3, z4, z5, rfl, k0, k1, k2, k3, k4, k5⟩ := came6 Try.underlying25 (by kernel_rfl) (by kernel_rfl) (by intro f hf; simp at hf; rcases hf with rfl | rfl | rfl | rfl | rfl | rfl <;> exact Try.underlying3) (hval 0 25 v0 rfl rfl) h0
    obtain ⟨a1, rfl, rfl, rfl, w1⟩ := open_int Try.underlying3 (hval 1 3 v1 rfl rfl) h1
    have hb1 := bounds_i64 w1
    obtain ⟨a2, rfl, rfl, rfl, w2⟩ := open_int Try.underlying3 (hval 2 3 v2 rfl rfl) h2
    have hb2 := bounds_i64 w2
    obtain ⟨a3, rfl, rfl, rfl, w3⟩ := open_int Try.underlying3 (hval 3 3 v3 rfl rfl) h3
    have hb3 := bounds_i64 w3
    exact places_any z0 z1 z2 z3 z4 z5 a1 a2 a3 W

theorem geomPlaces_holds : Rows.GeomPlacesSaid :=
  OpenClaim.holds_of_wide 4 Try.f4 rfl rfl rfl rfl rfl rfl rfl ⟨rfl, rfl, rfl, rfl, rfl⟩ rfl rfl rfl rfl rfl (by kernel_rfl) Try.func4 (by kernel_rfl)
    (of_decide_eq_true (by kernel_rfl)) (by unfold Func.isWrapper; first | (rw [if_pos (by decide +kernel)]; kernel_rfl) | (rw [if_neg (by decide +kernel)]; exact ⟨rfl, rfl⟩))
    (fun os started H enc _ => geomPlaces_lifted os started H enc)
#print axioms geomPlaces_holds
end Go.Proofs.Ytecbcjdihnbdhaa
