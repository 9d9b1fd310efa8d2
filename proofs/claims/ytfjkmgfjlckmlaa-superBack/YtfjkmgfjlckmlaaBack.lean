/- SuperBack: for every super and any bytes, Parse of Bytes is the super, and Bytes of what Parse takes are the bytes (P5.4). -/
import Derived.Test.YtfjkmgfjlckmlaaS13
import Derived.Test.YtfjkmgfjlckmlaaCameS
set_option linter.unusedSimpArgs false
set_option linter.unusedVariables false
namespace Go.Proofs.Ytfjkmgfjlckmlaa
open Go.RowKit Go.Attic Go.ChangeShapes Go.WideShapes Go.ChangeAt

theorem neg_of {X : Result Bool} {B : Bool} {w : World} (h : (X.andThen fun b w' => Result.ok (Value.bool b) w') = Result.ok (Value.bool B) w) : (X.andThen fun b w' => Result.ok (Value.bool (!b)) w') = Result.ok (Value.bool (!B)) w := by
  cases X <;> simp_all [Result.andThen]
theorem neqS (a b c d e f a' b' c' d' e' f' : Int) (w : World) : (binOp .neq 25 (.agg #[.int .i64 a, .int .i64 b, .int .i64 c, .int .i64 d, .int .i64 e, .int .i64 f]) (.agg #[.int .i64 a', .int .i64 b', .int .i64 c', .int .i64 d', .int .i64 e', .int .i64 f'])).run Try.prog w = .ok (.bool (!(a == a' && b == b' && c == c' && d == d' && e == e' && f == f'))) w := by
  have h := eqlS a b c d e f a' b' c' d' e' f' w
  rw [run_eql_struct] at h
  rw [run_neq_struct]
  exact neg_of h
theorem neqS_same (a b c d e f : Int) (w : World) : (binOp .neq 25 (.agg #[.int .i64 a, .int .i64 b, .int .i64 c, .int .i64 d, .int .i64 e, .int .i64 f]) (.agg #[.int .i64 a, .int .i64 b, .int .i64 c, .int .i64 d, .int .i64 e, .int .i64 f])).run Try.prog w = .ok (.bool false) w := by
  rw [neqS]; simp

set_option maxRecDepth 100000 in
set_option maxHeartbeats 1000000 in
theorem back_yy (ep b l d x h : Int) (v : Value) (L : List Nat) (w : World) (hv : Bs w v L) (M : List Nat) (er q0 q1 q2 q3 q4 q5 eg : Int) (hMx : ∀ y ∈ M, y < 256)
    (h17 : ∀ w, Calls Try.prog 17 #[.agg #[.int .i64 ep, .int .i64 b, .int .i64 l, .int .i64 d, .int .i64 x, .int .i64 h]] w (NewBsE w M er)) (h13 : ∀ w, Calls Try.prog 13 #[.agg #[.int .i64 ep, .int .i64 b, .int .i64 l, .int .i64 d, .int .i64 x, .int .i64 h]] w fun r w' => r = .returned (.int .i64 er) ∧ Below w.heap.size w w')
    (h19 : ∀ w, Bs w v L → Calls Try.prog 19 #[v] w fun e w' => e = .returned (.tuple #[.agg #[.int .i64 q0, .int .i64 q1, .int .i64 q2, .int .i64 q3, .int .i64 q4, .int .i64 q5], .int .i64 eg]) ∧ Below w.heap.size w w')
    (hM : M.length = 256) (her : er = 0) (h19x : ∀ (v : Value) (w : World), Bs w v M → Calls Try.prog 19 #[v] w fun e w' => e = .returned (.tuple #[.agg #[.int .i64 ep, .int .i64 b, .int .i64 l, .int .i64 d, .int .i64 x, .int .i64 h], .int .i64 0]) ∧ Below w.heap.size w w') (heg : eg = 0) (h17q : ∀ w, Calls Try.prog 17 #[.agg #[.int .i64 q0, .int .i64 q1, .int .i64 q2, .int .i64 q3, .int .i64 q4, .int .i64 q5]] w (NewBsE w L 0)) (hLx : ∀ y ∈ L, y < 256) :
    Calls Try.prog 6 #[.agg #[.int .i64 ep, .int .i64 b, .int .i64 l, .int .i64 d, .int .i64 x, .int .i64 h], v] w fun r w' => r = .returned (.bool true) ∧ Below w.heap.size w w' := by
  subst her
  subst heg
  have hgu := fun op x y xs ys w => run_eqGuard_agg (P := Try.prog) w op 25 x y xs ys (by kernel_rfl)
  have hnq := fun w => neqS_same ep b l d x h w
  have hS := SupAt.new w ep b l d x h
  have hv0 := hv.alloc (.cells #[.int .i64 ep, .int .i64 b, .int .i64 l, .int .i64 d, .int .i64 x, .int .i64 h] 25)
  obtain ⟨ao, cap, rfl, -⟩ := id hv
  go_enter Try.func6, Try.ntmps6
  go_wp2_with fail
  refine (h17 _).mono ?_
  rintro r w1 ⟨v1, rfl, ho1, hb1⟩
  have hs1 := Bs.of_owns ho1 hMx
  rw [hM] at ho1
  clear hM
  obtain ⟨a1, p1, rfl, -, -⟩ := owns_form ho1
  have hS1 := hS.mono hb1
  have hv1 := hv0.mono hb1
  have hB1 : Below w.heap.size w w1 := ((Below.refl _ w).alloc (Nat.le_refl _) _).trans (hb1.mono (by simp))
  clear ho1 hb1 hS hv0 hv
  go_wp2_with fail
  refine (live_any _).mono ?_
  rintro r w2 ⟨rfl, hb2⟩
  have hs2 := hs1.mono hb2
  have hS2 := hS1.mono hb2
  have hv2 := hv1.mono hb2
  have hB2 := hB1.trans (hb2.mono hB1.size)
  obtain ⟨c0, c1, c2, c3, c4, c5, -, -, -, -, -, -, -⟩ := id hS2
  clear hb2 hS1 hv1 hB1 hs1
  go_wp2_with fail
  refine (h13 _).mono ?_
  rintro r w3 ⟨rfl, hb3⟩
  have hs3 := hs2.mono hb3
  have hS3 := hS2.mono hb3
  have hv3 := hv2.mono hb3
  have hB3 := hB2.trans (hb3.mono hB2.size)
  clear hb3 hS2 hv2 hB2 hs2 c0 c1 c2 c3 c4 c5
  go_wp2_with fail
  refine (h19x _ _ hs3).mono ?_
  rintro r w4 ⟨rfl, hb4⟩
  have hS4 := (hS3.mono hb4).alloc (.cells #[.int .i64 ep, .int .i64 b, .int .i64 l, .int .i64 d, .int .i64 x, .int .i64 h] 25)
  have hv4 := (hv3.mono hb4).alloc (.cells #[.int .i64 ep, .int .i64 b, .int .i64 l, .int .i64 d, .int .i64 x, .int .i64 h] 25)
  have hB4 := hB3.trans (hb4.mono hB3.size)
  have hB5 := hB4.alloc hB4.size (.cells #[.int .i64 ep, .int .i64 b, .int .i64 l, .int .i64 d, .int .i64 x, .int .i64 h] 25)
  clear hb4 hS3 hv3 hB3 hB4
  obtain ⟨c0, c1, c2, c3, c4, c5, -, -, -, -, -, -, -⟩ := id hS4
  go_wp2_with fail
  refine (h19 _ hv4).mono ?_
  rintro r w5 ⟨rfl, hb5⟩
  have hv5 := (hv4.mono hb5).alloc (.cells #[.int .i64 q0, .int .i64 q1, .int .i64 q2, .int .i64 q3, .int .i64 q4, .int .i64 q5] 25)
  have hB6 := hB5.trans (hb5.mono hB5.size)
  have hB7 := hB6.alloc hB6.size (.cells #[.int .i64 q0, .int .i64 q1, .int .i64 q2, .int .i64 q3, .int .i64 q4, .int .i64 q5] 25)
  clear hb5 hB5 hB6
  go_wp2_with fail
  refine (h17q _).mono ?_
  rintro r w6 ⟨v6, rfl, ho6, hb6⟩
  have hs6 := Bs.of_owns ho6 hLx
  obtain ⟨a6, p6, rfl, -, -⟩ := owns_form ho6
  have hv6 := hv5.mono hb6
  have hB8 := hB7.trans (hb6.mono hB7.size)
  clear hb6 ho6 hB7 hv5
  go_wp2_with fail
  refine (equal_any _ _ L L _ hs6 hv6).mono ?_
  rintro r w7 ⟨rfl, rfl⟩
  rw [show decide (L = L) = true from decide_eq_true rfl]
  go_wp2_with fail
  go_ret
  exact ⟨rfl, hB8⟩

set_option maxRecDepth 100000 in
set_option maxHeartbeats 1000000 in
theorem back_yn (ep b l d x h : Int) (v : Value) (L : List Nat) (w : World) (hv : Bs w v L) (M : List Nat) (er q0 q1 q2 q3 q4 q5 eg : Int) (hMx : ∀ y ∈ M, y < 256)
    (h17 : ∀ w, Calls Try.prog 17 #[.agg #[.int .i64 ep, .int .i64 b, .int .i64 l, .int .i64 d, .int .i64 x, .int .i64 h]] w (NewBsE w M er)) (h13 : ∀ w, Calls Try.prog 13 #[.agg #[.int .i64 ep, .int .i64 b, .int .i64 l, .int .i64 d, .int .i64 x, .int .i64 h]] w fun r w' => r = .returned (.int .i64 er) ∧ Below w.heap.size w w')
    (h19 : ∀ w, Bs w v L → Calls Try.prog 19 #[v] w fun e w' => e = .returned (.tuple #[.agg #[.int .i64 q0, .int .i64 q1, .int .i64 q2, .int .i64 q3, .int .i64 q4, .int .i64 q5], .int .i64 eg]) ∧ Below w.heap.size w w')
    (hM : M.length = 256) (her : er = 0) (h19x : ∀ (v : Value) (w : World), Bs w v M → Calls Try.prog 19 #[v] w fun e w' => e = .returned (.tuple #[.agg #[.int .i64 ep, .int .i64 b, .int .i64 l, .int .i64 d, .int .i64 x, .int .i64 h], .int .i64 0]) ∧ Below w.heap.size w w') (heg : (eg == 0) = false) :
    Calls Try.prog 6 #[.agg #[.int .i64 ep, .int .i64 b, .int .i64 l, .int .i64 d, .int .i64 x, .int .i64 h], v] w fun r w' => r = .returned (.bool true) ∧ Below w.heap.size w w' := by
  subst her
  have hgu := fun op x y xs ys w => run_eqGuard_agg (P := Try.prog) w op 25 x y xs ys (by kernel_rfl)
  have hnq := fun w => neqS_same ep b l d x h w
  have hS := SupAt.new w ep b l d x h
  have hv0 := hv.alloc (.cells #[.int .i64 ep, .int .i64 b, .int .i64 l, .int .i64 d, .int .i64 x, .int .i64 h] 25)
  obtain ⟨ao, cap, rfl, -⟩ := id hv
  go_enter Try.func6, Try.ntmps6
  go_wp2_with fail
  refine (h17 _).mono ?_
  rintro r w1 ⟨v1, rfl, ho1, hb1⟩
  have hs1 := Bs.of_owns ho1 hMx
  rw [hM] at ho1
  clear hM
  obtain ⟨a1, p1, rfl, -, -⟩ := owns_form ho1
  have hS1 := hS.mono hb1
  have hv1 := hv0.mono hb1
  have hB1 : Below w.heap.size w w1 := ((Below.refl _ w).alloc (Nat.le_refl _) _).trans (hb1.mono (by simp))
  clear ho1 hb1 hS hv0 hv
  go_wp2_with fail
  refine (live_any _).mono ?_
  rintro r w2 ⟨rfl, hb2⟩
  have hs2 := hs1.mono hb2
  have hS2 := hS1.mono hb2
  have hv2 := hv1.mono hb2
  have hB2 := hB1.trans (hb2.mono hB1.size)
  obtain ⟨c0, c1, c2, c3, c4, c5, -, -, -, -, -, -, -⟩ := id hS2
  clear hb2 hS1 hv1 hB1 hs1
  go_wp2_with fail
  refine (h13 _).mono ?_
  rintro r w3 ⟨rfl, hb3⟩
  have hs3 := hs2.mono hb3
  have hS3 := hS2.mono hb3
  have hv3 := hv2.mono hb3
  have hB3 := hB2.trans (hb3.mono hB2.size)
  clear hb3 hS2 hv2 hB2 hs2 c0 c1 c2 c3 c4 c5
  go_wp2_with fail
  refine (h19x _ _ hs3).mono ?_
  rintro r w4 ⟨rfl, hb4⟩
  have hS4 := (hS3.mono hb4).alloc (.cells #[.int .i64 ep, .int .i64 b, .int .i64 l, .int .i64 d, .int .i64 x, .int .i64 h] 25)
  have hv4 := (hv3.mono hb4).alloc (.cells #[.int .i64 ep, .int .i64 b, .int .i64 l, .int .i64 d, .int .i64 x, .int .i64 h] 25)
  have hB4 := hB3.trans (hb4.mono hB3.size)
  have hB5 := hB4.alloc hB4.size (.cells #[.int .i64 ep, .int .i64 b, .int .i64 l, .int .i64 d, .int .i64 x, .int .i64 h] 25)
  clear hb4 hS3 hv3 hB3 hB4
  obtain ⟨c0, c1, c2, c3, c4, c5, -, -, -, -, -, -, -⟩ := id hS4
  go_wp2_with fail
  refine (h19 _ hv4).mono ?_
  rintro r w5 ⟨rfl, hb5⟩
  have hv5 := (hv4.mono hb5).alloc (.cells #[.int .i64 q0, .int .i64 q1, .int .i64 q2, .int .i64 q3, .int .i64 q4, .int .i64 q5] 25)
  have hB6 := hB5.trans (hb5.mono hB5.size)
  have hB7 := hB6.alloc hB6.size (.cells #[.int .i64 q0, .int .i64 q1, .int .i64 q2, .int .i64 q3, .int .i64 q4, .int .i64 q5] 25)
  clear hb5 hB5 hB6
  have hB8 := hB7
  go_wp2_with fail
  go_ret
  exact ⟨rfl, hB8⟩

set_option maxRecDepth 100000 in
set_option maxHeartbeats 1000000 in
theorem back_ny (ep b l d x h : Int) (v : Value) (L : List Nat) (w : World) (hv : Bs w v L) (M : List Nat) (er q0 q1 q2 q3 q4 q5 eg : Int) (hMx : ∀ y ∈ M, y < 256)
    (h17 : ∀ w, Calls Try.prog 17 #[.agg #[.int .i64 ep, .int .i64 b, .int .i64 l, .int .i64 d, .int .i64 x, .int .i64 h]] w (NewBsE w M er)) (h13 : ∀ w, Calls Try.prog 13 #[.agg #[.int .i64 ep, .int .i64 b, .int .i64 l, .int .i64 d, .int .i64 x, .int .i64 h]] w fun r w' => r = .returned (.int .i64 er) ∧ Below w.heap.size w w')
    (h19 : ∀ w, Bs w v L → Calls Try.prog 19 #[v] w fun e w' => e = .returned (.tuple #[.agg #[.int .i64 q0, .int .i64 q1, .int .i64 q2, .int .i64 q3, .int .i64 q4, .int .i64 q5], .int .i64 eg]) ∧ Below w.heap.size w w')
    (her : (er == 0) = false) (heg : eg = 0) (h17q : ∀ w, Calls Try.prog 17 #[.agg #[.int .i64 q0, .int .i64 q1, .int .i64 q2, .int .i64 q3, .int .i64 q4, .int .i64 q5]] w (NewBsE w L 0)) (hLx : ∀ y ∈ L, y < 256) :
    Calls Try.prog 6 #[.agg #[.int .i64 ep, .int .i64 b, .int .i64 l, .int .i64 d, .int .i64 x, .int .i64 h], v] w fun r w' => r = .returned (.bool true) ∧ Below w.heap.size w w' := by
  subst heg
  have hgu := fun op x y xs ys w => run_eqGuard_agg (P := Try.prog) w op 25 x y xs ys (by kernel_rfl)
  have hnq := fun w => neqS_same ep b l d x h w
  have hS := SupAt.new w ep b l d x h
  have hv0 := hv.alloc (.cells #[.int .i64 ep, .int .i64 b, .int .i64 l, .int .i64 d, .int .i64 x, .int .i64 h] 25)
  obtain ⟨ao, cap, rfl, -⟩ := id hv
  go_enter Try.func6, Try.ntmps6
  go_wp2_with fail
  refine (h17 _).mono ?_
  rintro r w1 ⟨v1, rfl, ho1, hb1⟩
  have hs1 := Bs.of_owns ho1 hMx
  obtain ⟨a1, p1, rfl, -, -⟩ := owns_form ho1
  have hS1 := hS.mono hb1
  have hv1 := hv0.mono hb1
  have hB1 : Below w.heap.size w w1 := ((Below.refl _ w).alloc (Nat.le_refl _) _).trans (hb1.mono (by simp))
  clear ho1 hb1 hS hv0 hv
  go_wp2_with fail
  refine (live_any _).mono ?_
  rintro r w2 ⟨rfl, hb2⟩
  have hs2 := hs1.mono hb2
  have hS2 := hS1.mono hb2
  have hv2 := hv1.mono hb2
  have hB2 := hB1.trans (hb2.mono hB1.size)
  obtain ⟨c0, c1, c2, c3, c4, c5, -, -, -, -, -, -, -⟩ := id hS2
  clear hb2 hS1 hv1 hB1 hs1
  go_wp2_with fail
  refine (h13 _).mono ?_
  rintro r w3 ⟨rfl, hb3⟩
  have hs3 := hs2.mono hb3
  have hS3 := hS2.mono hb3
  have hv3 := hv2.mono hb3
  have hB3 := hB2.trans (hb3.mono hB2.size)
  clear hb3 hS2 hv2 hB2 hs2 c0 c1 c2 c3 c4 c5
  go_wp2_with fail
  have hv4 := hv3
  have hB5 := hB3
  refine (h19 _ hv4).mono ?_
  rintro r w5 ⟨rfl, hb5⟩
  have hv5 := (hv4.mono hb5).alloc (.cells #[.int .i64 q0, .int .i64 q1, .int .i64 q2, .int .i64 q3, .int .i64 q4, .int .i64 q5] 25)
  have hB6 := hB5.trans (hb5.mono hB5.size)
  have hB7 := hB6.alloc hB6.size (.cells #[.int .i64 q0, .int .i64 q1, .int .i64 q2, .int .i64 q3, .int .i64 q4, .int .i64 q5] 25)
  clear hb5 hB5 hB6
  go_wp2_with fail
  refine (h17q _).mono ?_
  rintro r w6 ⟨v6, rfl, ho6, hb6⟩
  have hs6 := Bs.of_owns ho6 hLx
  obtain ⟨a6, p6, rfl, -, -⟩ := owns_form ho6
  have hv6 := hv5.mono hb6
  have hB8 := hB7.trans (hb6.mono hB7.size)
  clear hb6 ho6 hB7 hv5
  go_wp2_with fail
  refine (equal_any _ _ L L _ hs6 hv6).mono ?_
  rintro r w7 ⟨rfl, rfl⟩
  rw [show decide (L = L) = true from decide_eq_true rfl]
  go_wp2_with fail
  go_ret
  exact ⟨rfl, hB8⟩

set_option maxRecDepth 100000 in
set_option maxHeartbeats 1000000 in
theorem back_nn (ep b l d x h : Int) (v : Value) (L : List Nat) (w : World) (hv : Bs w v L) (M : List Nat) (er q0 q1 q2 q3 q4 q5 eg : Int) (hMx : ∀ y ∈ M, y < 256)
    (h17 : ∀ w, Calls Try.prog 17 #[.agg #[.int .i64 ep, .int .i64 b, .int .i64 l, .int .i64 d, .int .i64 x, .int .i64 h]] w (NewBsE w M er)) (h13 : ∀ w, Calls Try.prog 13 #[.agg #[.int .i64 ep, .int .i64 b, .int .i64 l, .int .i64 d, .int .i64 x, .int .i64 h]] w fun r w' => r = .returned (.int .i64 er) ∧ Below w.heap.size w w')
    (h19 : ∀ w, Bs w v L → Calls Try.prog 19 #[v] w fun e w' => e = .returned (.tuple #[.agg #[.int .i64 q0, .int .i64 q1, .int .i64 q2, .int .i64 q3, .int .i64 q4, .int .i64 q5], .int .i64 eg]) ∧ Below w.heap.size w w')
    (her : (er == 0) = false) (heg : (eg == 0) = false) :
    Calls Try.prog 6 #[.agg #[.int .i64 ep, .int .i64 b, .int .i64 l, .int .i64 d, .int .i64 x, .int .i64 h], v] w fun r w' => r = .returned (.bool true) ∧ Below w.heap.size w w' := by
  have hgu := fun op x y xs ys w => run_eqGuard_agg (P := Try.prog) w op 25 x y xs ys (by kernel_rfl)
  have hnq := fun w => neqS_same ep b l d x h w
  have hS := SupAt.new w ep b l d x h
  have hv0 := hv.alloc (.cells #[.int .i64 ep, .int .i64 b, .int .i64 l, .int .i64 d, .int .i64 x, .int .i64 h] 25)
  obtain ⟨ao, cap, rfl, -⟩ := id hv
  go_enter Try.func6, Try.ntmps6
  go_wp2_with fail
  refine (h17 _).mono ?_
  rintro r w1 ⟨v1, rfl, ho1, hb1⟩
  have hs1 := Bs.of_owns ho1 hMx
  obtain ⟨a1, p1, rfl, -, -⟩ := owns_form ho1
  have hS1 := hS.mono hb1
  have hv1 := hv0.mono hb1
  have hB1 : Below w.heap.size w w1 := ((Below.refl _ w).alloc (Nat.le_refl _) _).trans (hb1.mono (by simp))
  clear ho1 hb1 hS hv0 hv
  go_wp2_with fail
  refine (live_any _).mono ?_
  rintro r w2 ⟨rfl, hb2⟩
  have hs2 := hs1.mono hb2
  have hS2 := hS1.mono hb2
  have hv2 := hv1.mono hb2
  have hB2 := hB1.trans (hb2.mono hB1.size)
  obtain ⟨c0, c1, c2, c3, c4, c5, -, -, -, -, -, -, -⟩ := id hS2
  clear hb2 hS1 hv1 hB1 hs1
  go_wp2_with fail
  refine (h13 _).mono ?_
  rintro r w3 ⟨rfl, hb3⟩
  have hs3 := hs2.mono hb3
  have hS3 := hS2.mono hb3
  have hv3 := hv2.mono hb3
  have hB3 := hB2.trans (hb3.mono hB2.size)
  clear hb3 hS2 hv2 hB2 hs2 c0 c1 c2 c3 c4 c5
  go_wp2_with fail
  have hv4 := hv3
  have hB5 := hB3
  refine (h19 _ hv4).mono ?_
  rintro r w5 ⟨rfl, hb5⟩
  have hv5 := (hv4.mono hb5).alloc (.cells #[.int .i64 q0, .int .i64 q1, .int .i64 q2, .int .i64 q3, .int .i64 q4, .int .i64 q5] 25)
  have hB6 := hB5.trans (hb5.mono hB5.size)
  have hB7 := hB6.alloc hB6.size (.cells #[.int .i64 q0, .int .i64 q1, .int .i64 q2, .int .i64 q3, .int .i64 q4, .int .i64 q5] 25)
  clear hb5 hB5 hB6
  have hB8 := hB7
  go_wp2_with fail
  go_ret
  exact ⟨rfl, hB8⟩

theorem back_any (ep b l d x h : Int) (v : Value) (L : List Nat) (w : World) (kb : -9223372036854775808 ≤ b ∧ b ≤ 9223372036854775807) (hv : Bs w v L) (hlen : L.length ≤ 140737488351232) :
    Calls Try.prog 6 #[.agg #[.int .i64 ep, .int .i64 b, .int .i64 l, .int .i64 d, .int .i64 x, .int .i64 h], v] w fun r w' => r = .returned (.bool true) ∧ Below w.heap.size w w' := by
  have hLx := hv.lt
  have h13 := fun w => check_sup ep b l d x h w kb
  have two : ∀ (q0 q1 q2 q3 q4 q5 eg : Int), Par L q0 q1 q2 q3 q4 q5 eg → eg = 0 → ∀ w, Calls Try.prog 17 #[.agg #[.int .i64 q0, .int .i64 q1, .int .i64 q2, .int .i64 q3, .int .i64 q4, .int .i64 q5]] w (NewBsE w L 0) := by
    intro q0 q1 q2 q3 q4 q5 eg kq e w
    rcases kq with ⟨ep, b, l, d, x, h, k, rfl, rfl, rfl, rfl, rfl, rfl, rfl⟩ | ⟨k, rfl, rfl, rfl, rfl, rfl, rfl, rfl⟩
    · have := bytes_yes ep b l d x h w k.1
      rw [← k.2] at this
      exact this
    · omega
  obtain ⟨q0, q1, q2, q3, q4, q5, eg, kq⟩ := par_ex L
  have h19 := fun w hv => parse_par kq v (by omega) w hv
  by_cases k : okS ep b l d x h
  · obtain ⟨ep', b', l', d', x', h', rfl, rfl, rfl, rfl, rfl, rfl⟩ := okS_nat k
    rw [chkS_ok k] at h13
    have hx : ∀ (v : Value) (w : World), Bs w v (blockL ep' b' l' d' x' h') → Calls Try.prog 19 #[v] w fun e w' => e = .returned (.tuple #[.agg #[.int .i64 (ep' : Nat), .int .i64 (b' : Nat), .int .i64 (l' : Nat), .int .i64 (d' : Nat), .int .i64 (x' : Nat), .int .i64 (h' : Nat)], .int .i64 0]) ∧ Below w.heap.size w w' := fun v w hv => parse_yes v _ w hv ep' b' l' d' x' h' ⟨k, rfl⟩
    by_cases ke : eg = 0
    · exact back_yy _ _ _ _ _ _ v L w hv (blockL ep' b' l' d' x' h') 0 q0 q1 q2 q3 q4 q5 eg (blockL_lt _ _ _ _ _ _) (fun w => bytes_yes _ _ _ _ _ _ w k) h13 h19 (blockL_length _ _ _ _ _ _) rfl hx ke (two _ _ _ _ _ _ _ kq ke) hLx
    · exact back_yn _ _ _ _ _ _ v L w hv (blockL ep' b' l' d' x' h') 0 q0 q1 q2 q3 q4 q5 eg (blockL_lt _ _ _ _ _ _) (fun w => bytes_yes _ _ _ _ _ _ w k) h13 h19 (blockL_length _ _ _ _ _ _) rfl hx (by simpa using ke)
  · have kc : chkS ep b l d x h ≠ 0 := fun e => k (chkS_zero e)
    by_cases ke : eg = 0
    · exact back_ny _ _ _ _ _ _ v L w hv [] _ q0 q1 q2 q3 q4 q5 eg (by simp) (fun w => bytes_no _ _ _ _ _ _ w kb kc) h13 h19 (by simpa using kc) ke (two _ _ _ _ _ _ _ kq ke) hLx
    · exact back_nn _ _ _ _ _ _ v L w hv [] _ q0 q1 q2 q3 q4 q5 eg (by simp) (fun w => bytes_no _ _ _ _ _ _ w kb kc) h13 h19 (by simpa using kc) (by simpa using ke)

theorem superBack_lifted (os : Os) (started : os.Started) (H : Type) (enc : TypeId × Value → H) :
    ReturnsInHanded {} Try.checked os 6 .any (Rows.superBackSpec.pre6 enc Try.prog Try.f6 Rows.superBackRow.domain false) (Rows.superBackSpec.post enc Try.prog Try.f6 false true false false) := by
  refine law_frame (C := Try.checked) rfl Try.own started (by kernel_rfl) Try.func6
    (ChangeSpec.witness6 (enc := enc) (C := Try.checked) false ⟨#[], #[.agg #[.int .i64 0, .int .i64 0, .int .i64 0, .int .i64 0, .int .i64 0, .int .i64 0], .slice none 0 0], []⟩ 8 (by kernel_rfl) (by kernel_rfl) (by kernel_rfl) (by kernel_rfl))
    Try.laidOut ?_ 4 rfl Try.underlying4 ?_ ?_
  · rw [Try.params6]
    intro t ht
    simp at ht
    rcases ht with rfl | rfl <;> exact ⟨by kernel_rfl, of_decide_eq_true (by kernel_rfl)⟩
  · intro ds hn
    rw [Try.params6] at hn
    match ds, hn with
    | [d1, d2], _ => rfl
  · intro W base args ds p hval0 hA hsz
    have hval : ∀ (j : Nat) t v, Try.f6.params[j]? = some t → args[j]? = some v → Value.okWide Try.prog W .any base t v := hval0
    rw [Try.params6] at hA hsz hval
    obtain ⟨v0, vs0, d0, ds0, p0, q0, hargs, rfl, rfl, h0, r0⟩ := trodAll_cons hA
    obtain ⟨v1, vs1, d1, ds1, p1, q1, rfl, rfl, rfl, h1, r1⟩ := trodAll_cons r0
    obtain ⟨rfl, rfl, rfl⟩ := trodAll_nil r1
    obtain rfl : args = #[v0, v1] := by cases args; simp_all
    obtain ⟨ep, b, l, d, x, h, rfl, kep, kb, kl, kd, kx, kh⟩ := cameS (hval 0 25 v0 rfl rfl) h0
    obtain ⟨l1, hbs1, hl1⟩ := Bs.came Try.underlying34 Try.underlying5 (by kernel_rfl) (hval 1 34 v1 rfl rfl) h1
    have hlen1 := came_len hsz (j := 1) (t := 34) rfl rfl Try.underlying34 (by kernel_rfl) hl1
    exact back_any ep b l d x h v1 l1 W kb hbs1 hlen1

theorem superBack_holds : Rows.SuperBackSaid :=
  OpenClaim.holds_of_wide 6 Try.f6 rfl rfl rfl rfl rfl rfl rfl ⟨rfl, rfl, rfl, rfl, rfl⟩ rfl rfl rfl rfl rfl (by kernel_rfl) Try.func6 (by kernel_rfl)
    (of_decide_eq_true (by kernel_rfl)) (by unfold Func.isWrapper; first | (rw [if_pos (by decide +kernel)]; kernel_rfl) | (rw [if_neg (by decide +kernel)]; exact ⟨rfl, rfl⟩))
    (fun os started H enc _ => superBack_lifted os started H enc)
#print axioms superBack_holds
end Go.Proofs.Ytfjkmgfjlckmlaa
