/- SuperMakes: for every super and every head, Check, First, Next and Slot answer as the document says (P5.1). -/
import Derived.Test.YtfjkmgfjlckmlaaS3
import Derived.Test.YtfjkmgfjlckmlaaCameS
set_option linter.unusedSimpArgs false
set_option linter.unusedVariables false
namespace Go.Proofs.Ytfjkmgfjlckmlaa
open Go.RowKit Go.Attic Go.ChangeShapes Go.WideShapes Go.ChangeAt

theorem makes_held {w' : World} {g p q r s : Nat} {ep b l d x h a0 a1 a2 a3 a4 a5 n0 n1 n2 n3 n4 n5 : Int} (H : SupAt w' g ep b l d x h) (H1 : SupAt w' p a0 a1 a2 a3 a4 a5) (H2 : SupAt w' q a0 a1 a2 a3 a4 a5) (H3 : SupAt w' r n0 n1 n2 n3 n4 n5) (H4 : SupAt w' s n0 n1 n2 n3 n4 n5) : w'.cell? ⟨g, 0, none⟩ = some (.int .i64 ep) ∧ w'.cell? ⟨g, 1, none⟩ = some (.int .i64 b) ∧ w'.cell? ⟨g, 2, none⟩ = some (.int .i64 l) ∧ w'.cell? ⟨g, 3, none⟩ = some (.int .i64 d) ∧ w'.cell? ⟨g, 4, none⟩ = some (.int .i64 x) ∧ w'.cell? ⟨g, 5, none⟩ = some (.int .i64 h) ∧ w'.cell? ⟨p, 0, none⟩ = some (.int .i64 a0) ∧ w'.cell? ⟨p, 1, none⟩ = some (.int .i64 a1) ∧ w'.cell? ⟨p, 2, none⟩ = some (.int .i64 a2) ∧ w'.cell? ⟨p, 3, none⟩ = some (.int .i64 a3) ∧ w'.cell? ⟨p, 4, none⟩ = some (.int .i64 a4) ∧ w'.cell? ⟨p, 5, none⟩ = some (.int .i64 a5) ∧ w'.cell? ⟨q, 0, none⟩ = some (.int .i64 a0) ∧ w'.cell? ⟨q, 1, none⟩ = some (.int .i64 a1) ∧ w'.cell? ⟨q, 2, none⟩ = some (.int .i64 a2) ∧ w'.cell? ⟨q, 3, none⟩ = some (.int .i64 a3) ∧ w'.cell? ⟨q, 4, none⟩ = some (.int .i64 a4) ∧ w'.cell? ⟨q, 5, none⟩ = some (.int .i64 a5) ∧ w'.cell? ⟨r, 0, none⟩ = some (.int .i64 n0) ∧ w'.cell? ⟨r, 1, none⟩ = some (.int .i64 n1) ∧ w'.cell? ⟨r, 2, none⟩ = some (.int .i64 n2) ∧ w'.cell? ⟨r, 3, none⟩ = some (.int .i64 n3) ∧ w'.cell? ⟨r, 4, none⟩ = some (.int .i64 n4) ∧ w'.cell? ⟨r, 5, none⟩ = some (.int .i64 n5) ∧ w'.cell? ⟨s, 0, none⟩ = some (.int .i64 n0) ∧ w'.cell? ⟨s, 1, none⟩ = some (.int .i64 n1) ∧ w'.cell? ⟨s, 2, none⟩ = some (.int .i64 n2) ∧ w'.cell? ⟨s, 3, none⟩ = some (.int .i64 n3) ∧ w'.cell? ⟨s, 4, none⟩ = some (.int .i64 n4) ∧ w'.cell? ⟨s, 5, none⟩ = some (.int .i64 n5) :=
  ⟨H.c0, H.c1, H.c2, H.c3, H.c4, H.c5, H1.c0, H1.c1, H1.c2, H1.c3, H1.c4, H1.c5, H2.c0, H2.c1, H2.c2, H2.c3, H2.c4, H2.c5, H3.c0, H3.c1, H3.c2, H3.c3, H3.c4, H3.c5, H4.c0, H4.c1, H4.c2, H4.c3, H4.c4, H4.c5⟩

set_option maxRecDepth 100000 in
set_option maxHeartbeats 2000000 in
theorem makes_walk (ep b l d x h head a0 a1 a2 a3 a4 a5 ea n0 n1 n2 n3 n4 n5 en er sl : Int) (w : World)
    (h8 : ∀ w, Calls Try.prog 8 #[.agg #[.int .i64 b, .int .i64 l, .int .i64 d, .int .i64 x]] w fun r w' => r = .returned (.tuple #[.agg #[.int .i64 a0, .int .i64 a1, .int .i64 a2, .int .i64 a3, .int .i64 a4, .int .i64 a5], .int .i64 ea]) ∧ Below w.heap.size w w')
    (h9 : ∀ w, Calls Try.prog 9 #[.agg #[.int .i64 b, .int .i64 l, .int .i64 d, .int .i64 x]] w fun r w' => r = .returned (.tuple #[.agg #[.int .i64 a0, .int .i64 a1, .int .i64 a2, .int .i64 a3, .int .i64 a4, .int .i64 a5], .int .i64 ea]) ∧ Below w.heap.size w w')
    (h10 : ∀ w, Calls Try.prog 10 #[.agg #[.int .i64 ep, .int .i64 b, .int .i64 l, .int .i64 d, .int .i64 x, .int .i64 h], .int .i64 head] w fun r w' => r = .returned (.tuple #[.agg #[.int .i64 n0, .int .i64 n1, .int .i64 n2, .int .i64 n3, .int .i64 n4, .int .i64 n5], .int .i64 en]) ∧ Below w.heap.size w w')
    (h11 : ∀ w, Calls Try.prog 11 #[.agg #[.int .i64 ep, .int .i64 b, .int .i64 l, .int .i64 d, .int .i64 x, .int .i64 h], .int .i64 head] w fun r w' => r = .returned (.tuple #[.agg #[.int .i64 n0, .int .i64 n1, .int .i64 n2, .int .i64 n3, .int .i64 n4, .int .i64 n5], .int .i64 en]) ∧ Below w.heap.size w w')
    (h13 : ∀ w, Calls Try.prog 13 #[.agg #[.int .i64 ep, .int .i64 b, .int .i64 l, .int .i64 d, .int .i64 x, .int .i64 h]] w fun r w' => r = .returned (.int .i64 er) ∧ Below w.heap.size w w')
    (h14 : ∀ w, Calls Try.prog 14 #[.agg #[.int .i64 ep, .int .i64 b, .int .i64 l, .int .i64 d, .int .i64 x, .int .i64 h]] w fun r w' => r = .returned (.int .i64 er) ∧ Below w.heap.size w w')
    (h15 : ∀ w, Calls Try.prog 15 #[.agg #[.int .i64 ep, .int .i64 b, .int .i64 l, .int .i64 d, .int .i64 x, .int .i64 h]] w fun r w' => r = .returned (.int .i64 sl) ∧ Below w.heap.size w w')
    (h16 : ∀ w, Calls Try.prog 16 #[.agg #[.int .i64 ep, .int .i64 b, .int .i64 l, .int .i64 d, .int .i64 x, .int .i64 h]] w fun r w' => r = .returned (.int .i64 sl) ∧ Below w.heap.size w w') :
    Calls Try.prog 3 #[.agg #[.int .i64 ep, .int .i64 b, .int .i64 l, .int .i64 d, .int .i64 x, .int .i64 h], .int .i64 head] w fun r w' => r = .returned (.bool true) ∧ Below w.heap.size w w' := by
  have hgu := fun op x y xs ys w => run_eqGuard_agg (P := Try.prog) w op 25 x y xs ys (by kernel_rfl)
  have hqa := fun w => eqlS_same a0 a1 a2 a3 a4 a5 w
  have hqn := fun w => eqlS_same n0 n1 n2 n3 n4 n5 w
  have he1 : (ea == ea) = true := by simp
  have he2 : (en == en) = true := by simp
  have he3 : (er == er) = true := by simp
  have he4 : (sl == sl) = true := by simp
  have hS := SupAt.new w ep b l d x h
  go_enter Try.func3, Try.ntmps3
  go_wp2_with (go_at_call 8; refine (h8 _).mono ?_; rintro r w1 ⟨rfl, hb1⟩; have hB1 : Below w.heap.size w w1 := ((Below.refl _ w).alloc (Nat.le_refl _) _).trans (hb1.mono (by simp)); have hS1 := (hS.mono hb1).alloc (.cells #[.int .i64 a0, .int .i64 a1, .int .i64 a2, .int .i64 a3, .int .i64 a4, .int .i64 a5] 25); have hA1 := SupAt.new w1 a0 a1 a2 a3 a4 a5; have c0 := hS1.c0; have c1 := hS1.c1; have c2 := hS1.c2; have c3 := hS1.c3; have c4 := hS1.c4; have c5 := hS1.c5; clear hb1 hS)
  go_wp2_with (go_at_call 9; refine (h9 _).mono ?_; rintro r w2 ⟨rfl, hb2⟩; have hB2 : Below w.heap.size w w2 := (hB1.alloc hB1.size _).trans (hb2.mono (by have := hB1.size; simp; omega)); have hS2 := (hS1.mono hb2).alloc (.cells #[.int .i64 a0, .int .i64 a1, .int .i64 a2, .int .i64 a3, .int .i64 a4, .int .i64 a5] 25); have hA2 := (hA1.mono hb2).alloc (.cells #[.int .i64 a0, .int .i64 a1, .int .i64 a2, .int .i64 a3, .int .i64 a4, .int .i64 a5] 25); have hR2 := SupAt.new w2 a0 a1 a2 a3 a4 a5; clear c0 c1 c2 c3 c4 c5; have c0 := hS2.c0; have c1 := hS2.c1; have c2 := hS2.c2; have c3 := hS2.c3; have c4 := hS2.c4; have c5 := hS2.c5; clear hb2 hS1 hA1 hB1)
  go_wp2_with (go_at_call 10; refine (h10 _).mono ?_; rintro r w3 ⟨rfl, hb3⟩; have hB3 : Below w.heap.size w w3 := (hB2.alloc hB2.size _).trans (hb3.mono (by have := hB2.size; simp; omega)); have hS3 := (hS2.mono hb3).alloc (.cells #[.int .i64 n0, .int .i64 n1, .int .i64 n2, .int .i64 n3, .int .i64 n4, .int .i64 n5] 25); have hA3 := (hA2.mono hb3).alloc (.cells #[.int .i64 n0, .int .i64 n1, .int .i64 n2, .int .i64 n3, .int .i64 n4, .int .i64 n5] 25); have hR3 := (hR2.mono hb3).alloc (.cells #[.int .i64 n0, .int .i64 n1, .int .i64 n2, .int .i64 n3, .int .i64 n4, .int .i64 n5] 25); have hN3 := SupAt.new w3 n0 n1 n2 n3 n4 n5; clear c0 c1 c2 c3 c4 c5; have c0 := hS3.c0; have c1 := hS3.c1; have c2 := hS3.c2; have c3 := hS3.c3; have c4 := hS3.c4; have c5 := hS3.c5; clear hb3 hS2 hA2 hR2 hB2)
  go_wp2_with (go_at_call 11; refine (h11 _).mono ?_; rintro r w4 ⟨rfl, hb4⟩; have hB4 : Below w.heap.size w w4 := (hB3.alloc hB3.size _).trans (hb4.mono (by have := hB3.size; simp; omega)); have hS4 := (hS3.mono hb4).alloc (.cells #[.int .i64 n0, .int .i64 n1, .int .i64 n2, .int .i64 n3, .int .i64 n4, .int .i64 n5] 25); have hA4 := (hA3.mono hb4).alloc (.cells #[.int .i64 n0, .int .i64 n1, .int .i64 n2, .int .i64 n3, .int .i64 n4, .int .i64 n5] 25); have hR4 := (hR3.mono hb4).alloc (.cells #[.int .i64 n0, .int .i64 n1, .int .i64 n2, .int .i64 n3, .int .i64 n4, .int .i64 n5] 25); have hN4 := (hN3.mono hb4).alloc (.cells #[.int .i64 n0, .int .i64 n1, .int .i64 n2, .int .i64 n3, .int .i64 n4, .int .i64 n5] 25); have hM4 := SupAt.new w4 n0 n1 n2 n3 n4 n5; clear c0 c1 c2 c3 c4 c5; clear hb4 hS3 hA3 hR3 hN3 hB3)
  have bd : Below (w4.alloc (.cells #[.int .i64 n0, .int .i64 n1, .int .i64 n2, .int .i64 n3, .int .i64 n4, .int .i64 n5] 25)).heap.size (w4.alloc (.cells #[.int .i64 n0, .int .i64 n1, .int .i64 n2, .int .i64 n3, .int .i64 n4, .int .i64 n5] 25)) (w4.alloc (.cells #[.int .i64 n0, .int .i64 n1, .int .i64 n2, .int .i64 n3, .int .i64 n4, .int .i64 n5] 25)).drew := (Below.refl _ _).drew
  have hB5 : Below w.heap.size w (w4.alloc (.cells #[.int .i64 n0, .int .i64 n1, .int .i64 n2, .int .i64 n3, .int .i64 n4, .int .i64 n5] 25)).drew := (hB4.alloc hB4.size _).drew
  have sA := hS4.mono bd
  have aA := hA4.mono bd
  have rA := hR4.mono bd
  have nA := hN4.mono bd
  have mA := hM4.mono bd
  have SA := makes_held sA aA rA nA mA
  clear hS4 hA4 hR4 hN4 hM4 bd hB4
  go_region_held3 (fun w' => w'.cell? ⟨w.heap.size, 0, none⟩ = some (.int .i64 ep) ∧ w'.cell? ⟨w.heap.size, 1, none⟩ = some (.int .i64 b) ∧ w'.cell? ⟨w.heap.size, 2, none⟩ = some (.int .i64 l) ∧ w'.cell? ⟨w.heap.size, 3, none⟩ = some (.int .i64 d) ∧ w'.cell? ⟨w.heap.size, 4, none⟩ = some (.int .i64 x) ∧ w'.cell? ⟨w.heap.size, 5, none⟩ = some (.int .i64 h) ∧ w'.cell? ⟨w1.heap.size, 0, none⟩ = some (.int .i64 a0) ∧ w'.cell? ⟨w1.heap.size, 1, none⟩ = some (.int .i64 a1) ∧ w'.cell? ⟨w1.heap.size, 2, none⟩ = some (.int .i64 a2) ∧ w'.cell? ⟨w1.heap.size, 3, none⟩ = some (.int .i64 a3) ∧ w'.cell? ⟨w1.heap.size, 4, none⟩ = some (.int .i64 a4) ∧ w'.cell? ⟨w1.heap.size, 5, none⟩ = some (.int .i64 a5) ∧ w'.cell? ⟨w2.heap.size, 0, none⟩ = some (.int .i64 a0) ∧ w'.cell? ⟨w2.heap.size, 1, none⟩ = some (.int .i64 a1) ∧ w'.cell? ⟨w2.heap.size, 2, none⟩ = some (.int .i64 a2) ∧ w'.cell? ⟨w2.heap.size, 3, none⟩ = some (.int .i64 a3) ∧ w'.cell? ⟨w2.heap.size, 4, none⟩ = some (.int .i64 a4) ∧ w'.cell? ⟨w2.heap.size, 5, none⟩ = some (.int .i64 a5) ∧ w'.cell? ⟨w3.heap.size, 0, none⟩ = some (.int .i64 n0) ∧ w'.cell? ⟨w3.heap.size, 1, none⟩ = some (.int .i64 n1) ∧ w'.cell? ⟨w3.heap.size, 2, none⟩ = some (.int .i64 n2) ∧ w'.cell? ⟨w3.heap.size, 3, none⟩ = some (.int .i64 n3) ∧ w'.cell? ⟨w3.heap.size, 4, none⟩ = some (.int .i64 n4) ∧ w'.cell? ⟨w3.heap.size, 5, none⟩ = some (.int .i64 n5) ∧ w'.cell? ⟨w4.heap.size, 0, none⟩ = some (.int .i64 n0) ∧ w'.cell? ⟨w4.heap.size, 1, none⟩ = some (.int .i64 n1) ∧ w'.cell? ⟨w4.heap.size, 2, none⟩ = some (.int .i64 n2) ∧ w'.cell? ⟨w4.heap.size, 3, none⟩ = some (.int .i64 n3) ∧ w'.cell? ⟨w4.heap.size, 4, none⟩ = some (.int .i64 n4) ∧ w'.cell? ⟨w4.heap.size, 5, none⟩ = some (.int .i64 n5))
    (first | exact SA | exact SB | exact SC | exact SD | exact SE | exact SF)
    (first
      | (go_at_call 12; refine (live_any _).mono ?_; rintro r uB ⟨rfl, hbB⟩
         have hBB := hB5.trans (hbB.mono hB5.size)
         have sB := sA.mono hbB
         have aB := aA.mono hbB
         have rB := rA.mono hbB
         have nB := nA.mono hbB
         have mB := mA.mono hbB
         have SB := makes_held sB aB rB nB mB
         skip)
      | (go_at_call 13; refine (h13 _).mono ?_; rintro r uC ⟨rfl, hbC⟩
         have hBC := hBB.trans (hbC.mono hBB.size)
         have sC := sB.mono hbC
         have aC := aB.mono hbC
         have rC := rB.mono hbC
         have nC := nB.mono hbC
         have mC := mB.mono hbC
         have SC := makes_held sC aC rC nC mC
         skip)
      | (go_at_call 14; refine (h14 _).mono ?_; rintro r uD ⟨rfl, hbD⟩
         have hBD := hBC.trans (hbD.mono hBC.size)
         have sD := sC.mono hbD
         have aD := aC.mono hbD
         have rD := rC.mono hbD
         have nD := nC.mono hbD
         have mD := mC.mono hbD
         have SD := makes_held sD aD rD nD mD
         skip)
      | (go_at_call 15; refine (h15 _).mono ?_; rintro r uE ⟨rfl, hbE⟩
         have hBE := hBD.trans (hbE.mono hBD.size)
         have sE := sD.mono hbE
         have aE := aD.mono hbE
         have rE := rD.mono hbE
         have nE := nD.mono hbE
         have mE := mD.mono hbE
         have SE := makes_held sE aE rE nE mE
         skip)
      | (go_at_call 16; refine (h16 _).mono ?_; rintro r uF ⟨rfl, hbF⟩
         have hBF := hBE.trans (hbF.mono hBE.size)
         have sF := sE.mono hbF
         have aF := aE.mono hbF
         have rF := rE.mono hbF
         have nF := nE.mono hbF
         have mF := mE.mono hbF
         have SF := makes_held sF aF rF nF mF
         skip))
  go_wp2
  go_ret
  exact ⟨rfl, hBF⟩

theorem makes_any (ep b l d x h head : Int) (w : World) (kb : -9223372036854775808 ≤ b ∧ b ≤ 9223372036854775807) :
    Calls Try.prog 3 #[.agg #[.int .i64 ep, .int .i64 b, .int .i64 l, .int .i64 d, .int .i64 x, .int .i64 h], .int .i64 head] w fun r w' => r = .returned (.bool true) ∧ Below w.heap.size w w' := by
  have h13 := fun w => check_sup ep b l d x h w kb
  have h14 := fun w => rcheck_sup ep b l d x h w kb
  have h15 := fun w => slot_any ep b l d x h w
  have h16 := fun w => rslot_any ep b l d x h w
  by_cases k : okG b l d x
  · by_cases k2 : nextE ep b l d x h head = 0
    · obtain ⟨k6, k7, k8, k9⟩ := nextE_zero k2
      exact makes_walk ep b l d x h head _ _ _ _ _ _ _ _ _ _ _ _ _ _ _ _ w (fun w => first_yes b l d x w kb k) (fun w => rfirst_yes b l d x w kb k)
        (fun w => next_yes ep b l d x h head w kb k6 k7 k8 k9) (fun w => rnext_yes ep b l d x h head w kb k6 k7 k8 k9) h13 h14 h15 h16
    · exact makes_walk ep b l d x h head _ _ _ _ _ _ _ _ _ _ _ _ _ _ _ _ w (fun w => first_yes b l d x w kb k) (fun w => rfirst_yes b l d x w kb k)
        (fun w => next_no ep b l d x h head w kb k2) (fun w => rnext_no ep b l d x h head w kb k2) h13 h14 h15 h16
  · have k2 : nextE ep b l d x h head ≠ 0 := by
      have e1 : chkS ep b l d x h = 40 := chkS_geo k
      have e : nextE ep b l d x h head = chkS ep b l d x h := if_neg (by rw [e1]; omega)
      rw [e, e1]; omega
    exact makes_walk ep b l d x h head _ _ _ _ _ _ _ _ _ _ _ _ _ _ _ _ w (fun w => first_no b l d x w kb k) (fun w => rfirst_no b l d x w kb k)
      (fun w => next_no ep b l d x h head w kb k2) (fun w => rnext_no ep b l d x h head w kb k2) h13 h14 h15 h16

theorem superMakes_lifted (os : Os) (started : os.Started) (H : Type) (enc : TypeId × Value → H) :
    ReturnsInHanded {} Try.checked os 3 .any (Rows.superMakesSpec.pre6 enc Try.prog Try.f3 Rows.superMakesRow.domain false) (Rows.superMakesSpec.post enc Try.prog Try.f3 false true false false) := by
  refine law_frame (C := Try.checked) rfl Try.own started (by kernel_rfl) Try.func3
    (ChangeSpec.witness6 (enc := enc) (C := Try.checked) false ⟨#[], #[.agg #[.int .i64 0, .int .i64 0, .int .i64 0, .int .i64 0, .int .i64 0, .int .i64 0], .int .i64 0], []⟩ 8 (by kernel_rfl) (by kernel_rfl) (by kernel_rfl) (by kernel_rfl))
    Try.laidOut ?_ 4 rfl Try.underlying4 ?_ ?_
  · rw [Try.params3]
    intro t ht
    simp at ht
    rcases ht with rfl | rfl <;> exact ⟨by kernel_rfl, of_decide_eq_true (by kernel_rfl)⟩
  · intro ds hn
    rw [Try.params3] at hn
    match ds, hn with
    | [d1, d2], _ => rfl
  · intro W base args ds p hval0 hA hsz
    have hval : ∀ (j : Nat) t v, Try.f3.params[j]? = some t → args[j]? = some v → Value.okWide Try.prog W .any base t v := hval0
    rw [Try.params3] at hA hsz hval
    obtain ⟨v0, vs0, d0, ds0, p0, q0, hargs, rfl, rfl, h0, r0⟩ := trodAll_cons hA
    obtain ⟨v1, vs1, d1, ds1, p1, q1, rfl, rfl, rfl, h1, r1⟩ := trodAll_cons r0
    obtain ⟨rfl, rfl, rfl⟩ := trodAll_nil r1
    obtain rfl : args = #[v0, v1] := by cases args; simp_all
    obtain ⟨ep, b, l, d, x, h, rfl, kep, kb, kl, kd, kx, kh⟩ := cameS (hval 0 25 v0 rfl rfl) h0
    obtain ⟨a1, rfl, rfl, rfl, w1⟩ := open_int Try.underlying2 (hval 1 2 v1 rfl rfl) h1
    have hb1 := bounds_i64 w1
    exact makes_any ep b l d x h a1 W kb

theorem superMakes_holds : Rows.SuperMakesSaid :=
  OpenClaim.holds_of_wide 3 Try.f3 rfl rfl rfl rfl rfl rfl rfl ⟨rfl, rfl, rfl, rfl, rfl⟩ rfl rfl rfl rfl rfl (by kernel_rfl) Try.func3 (by kernel_rfl)
    (of_decide_eq_true (by kernel_rfl)) (by unfold Func.isWrapper; first | (rw [if_pos (by decide +kernel)]; kernel_rfl) | (rw [if_neg (by decide +kernel)]; exact ⟨rfl, rfl⟩))
    (fun os started H enc _ => superMakes_lifted os started H enc)
#print axioms superMakes_holds
end Go.Proofs.Ytfjkmgfjlckmlaa
