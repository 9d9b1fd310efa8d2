/- RecordApart: of any two records at any two places, whose Bytes answer without an error, the sectors are the same just if the places are and the records are (P6.6). -/
import Derived.Test.YtcfmadgehpmboaaCameR
set_option linter.unusedSimpArgs false
set_option linter.unusedVariables false
namespace Go.Proofs.Ytcfmadgehpmboaa
open Go.RowKit Go.Attic Go.ChangeShapes Go.WideShapes Go.ChangeAt

set_option maxRecDepth 100000 in
set_option maxHeartbeats 1000000 in
theorem apart_longA (p q k b o m k' b' o' m' : Int) (va vb : Value) (la lb : List Nat) (w : World) (ha : Bs w va la) (hb : Bs w vb lb) (ka : la.length ≤ 140737488355328) (kb : lb.length ≤ 140737488355328) (h1 : 5000 < la.length) :
    Calls Try.prog 6 #[.int .i64 p, .int .i64 q, .agg #[.int .i64 k, .int .i64 b, .int .i64 o, va, .int .i64 m], .agg #[.int .i64 k', .int .i64 b', .int .i64 o', vb, .int .i64 m']] w fun r w' => r = .returned (.bool true) ∧ Below w.heap.size w w' := by
  obtain ⟨aa, ca, rfl, -⟩ := id ha
  obtain ⟨ab, cb, rfl, -⟩ := id hb
  have hA := (RecAt.new w k b o (.slice aa la.length ca) m).alloc (.cells #[.int .i64 k', .int .i64 b', .int .i64 o', .slice ab lb.length cb, .int .i64 m'] 24)
  have hB := RecAt.new1 w (.cells #[.int .i64 k, .int .i64 b, .int .i64 o, .slice aa la.length ca, .int .i64 m] 24) k' b' o' (.slice ab lb.length cb) m'
  have B0 : Below w.heap.size w ((w.alloc (.cells #[.int .i64 k, .int .i64 b, .int .i64 o, .slice aa la.length ca, .int .i64 m] 24)).alloc (.cells #[.int .i64 k', .int .i64 b', .int .i64 o', .slice ab lb.length cb, .int .i64 m'] 24)) := ((Below.refl _ w).alloc (Nat.le_refl _) _).alloc (by simp) _
  have ha0 := (ha.alloc (.cells #[.int .i64 k, .int .i64 b, .int .i64 o, .slice aa la.length ca, .int .i64 m] 24)).alloc (.cells #[.int .i64 k', .int .i64 b', .int .i64 o', .slice ab lb.length cb, .int .i64 m'] 24)
  have hb0 := (hb.alloc (.cells #[.int .i64 k, .int .i64 b, .int .i64 o, .slice aa la.length ca, .int .i64 m] 24)).alloc (.cells #[.int .i64 k', .int .i64 b', .int .i64 o', .slice ab lb.length cb, .int .i64 m'] 24)
  go_enter Try.func6, Try.ntmps6
  go_wp2_with fail
  refine (begun_any _).mono ?_
  rintro r w1 ⟨rfl, hb1⟩
  have hA1 := hA.mono hb1
  have hB1 := hB.mono hb1
  have B1 := B0.trans (hb1.mono B0.size)
  have ha1 := ha0.mono hb1
  have hb1' := hb0.mono hb1
  clear hb1 hA hB B0 ha0 hb0 ha hb
  obtain ⟨c0, c1, c2, c3, c4, -, -, -, -, -, -⟩ := id hA1
  obtain ⟨d0, d1, d2, d3, d4, -, -, -, -, -, -⟩ := id hB1
  go_wp2_with fail
  refine (begun_any _).mono ?_
  rintro r w2 ⟨rfl, hb2⟩
  go_wp2_with fail
  go_ret
  exact ⟨rfl, B1.trans (hb2.mono B1.size)⟩

set_option maxRecDepth 100000 in
set_option maxHeartbeats 1000000 in
theorem apart_longB (p q k b o m k' b' o' m' : Int) (va vb : Value) (la lb : List Nat) (w : World) (ha : Bs w va la) (hb : Bs w vb lb) (ka : la.length ≤ 140737488355328) (kb : lb.length ≤ 140737488355328) (h1 : la.length ≤ 5000) (h2 : 5000 < lb.length) :
    Calls Try.prog 6 #[.int .i64 p, .int .i64 q, .agg #[.int .i64 k, .int .i64 b, .int .i64 o, va, .int .i64 m], .agg #[.int .i64 k', .int .i64 b', .int .i64 o', vb, .int .i64 m']] w fun r w' => r = .returned (.bool true) ∧ Below w.heap.size w w' := by
  obtain ⟨aa, ca, rfl, -⟩ := id ha
  obtain ⟨ab, cb, rfl, -⟩ := id hb
  have hA := (RecAt.new w k b o (.slice aa la.length ca) m).alloc (.cells #[.int .i64 k', .int .i64 b', .int .i64 o', .slice ab lb.length cb, .int .i64 m'] 24)
  have hB := RecAt.new1 w (.cells #[.int .i64 k, .int .i64 b, .int .i64 o, .slice aa la.length ca, .int .i64 m] 24) k' b' o' (.slice ab lb.length cb) m'
  have B0 : Below w.heap.size w ((w.alloc (.cells #[.int .i64 k, .int .i64 b, .int .i64 o, .slice aa la.length ca, .int .i64 m] 24)).alloc (.cells #[.int .i64 k', .int .i64 b', .int .i64 o', .slice ab lb.length cb, .int .i64 m'] 24)) := ((Below.refl _ w).alloc (Nat.le_refl _) _).alloc (by simp) _
  have ha0 := (ha.alloc (.cells #[.int .i64 k, .int .i64 b, .int .i64 o, .slice aa la.length ca, .int .i64 m] 24)).alloc (.cells #[.int .i64 k', .int .i64 b', .int .i64 o', .slice ab lb.length cb, .int .i64 m'] 24)
  have hb0 := (hb.alloc (.cells #[.int .i64 k, .int .i64 b, .int .i64 o, .slice aa la.length ca, .int .i64 m] 24)).alloc (.cells #[.int .i64 k', .int .i64 b', .int .i64 o', .slice ab lb.length cb, .int .i64 m'] 24)
  go_enter Try.func6, Try.ntmps6
  go_wp2_with fail
  refine (begun_any _).mono ?_
  rintro r w1 ⟨rfl, hb1⟩
  have hA1 := hA.mono hb1
  have hB1 := hB.mono hb1
  have B1 := B0.trans (hb1.mono B0.size)
  have ha1 := ha0.mono hb1
  have hb1' := hb0.mono hb1
  clear hb1 hA hB B0 ha0 hb0 ha hb
  obtain ⟨c0, c1, c2, c3, c4, -, -, -, -, -, -⟩ := id hA1
  obtain ⟨d0, d1, d2, d3, d4, -, -, -, -, -, -⟩ := id hB1
  go_wp2_with fail
  refine (begun_any _).mono ?_
  rintro r w2 ⟨rfl, hb2⟩
  go_wp2_with fail
  go_ret
  exact ⟨rfl, B1.trans (hb2.mono B1.size)⟩

set_option maxRecDepth 100000 in
set_option maxHeartbeats 1000000 in
theorem apart_e (p q k b o m k' b' o' m' : Int) (va vb : Value) (la lb : List Nat) (w : World) (ha : Bs w va la) (hb : Bs w vb lb) (ka : la.length ≤ 140737488355328) (kb : lb.length ≤ 140737488355328) (h1 : la.length ≤ 5000) (h2 : lb.length ≤ 5000) (M M' : List Nat) (er er' : Int) (hM : ∀ y ∈ M, y < 256) (hM' : ∀ y ∈ M', y < 256)
    (c9 : ∀ v w, Bs w v la → Calls Try.prog 9 #[.int .i64 p, .agg #[.int .i64 k, .int .i64 b, .int .i64 o, v, .int .i64 m]] w (NewBsE w M er)) (c9' : ∀ v w, Bs w v lb → Calls Try.prog 9 #[.int .i64 q, .agg #[.int .i64 k', .int .i64 b', .int .i64 o', v, .int .i64 m']] w (NewBsE w M' er')) (he : (er != 0) = true) :
    Calls Try.prog 6 #[.int .i64 p, .int .i64 q, .agg #[.int .i64 k, .int .i64 b, .int .i64 o, va, .int .i64 m], .agg #[.int .i64 k', .int .i64 b', .int .i64 o', vb, .int .i64 m']] w fun r w' => r = .returned (.bool true) ∧ Below w.heap.size w w' := by
  obtain ⟨aa, ca, rfl, -⟩ := id ha
  obtain ⟨ab, cb, rfl, -⟩ := id hb
  have hA := (RecAt.new w k b o (.slice aa la.length ca) m).alloc (.cells #[.int .i64 k', .int .i64 b', .int .i64 o', .slice ab lb.length cb, .int .i64 m'] 24)
  have hB := RecAt.new1 w (.cells #[.int .i64 k, .int .i64 b, .int .i64 o, .slice aa la.length ca, .int .i64 m] 24) k' b' o' (.slice ab lb.length cb) m'
  have B0 : Below w.heap.size w ((w.alloc (.cells #[.int .i64 k, .int .i64 b, .int .i64 o, .slice aa la.length ca, .int .i64 m] 24)).alloc (.cells #[.int .i64 k', .int .i64 b', .int .i64 o', .slice ab lb.length cb, .int .i64 m'] 24)) := ((Below.refl _ w).alloc (Nat.le_refl _) _).alloc (by simp) _
  have ha0 := (ha.alloc (.cells #[.int .i64 k, .int .i64 b, .int .i64 o, .slice aa la.length ca, .int .i64 m] 24)).alloc (.cells #[.int .i64 k', .int .i64 b', .int .i64 o', .slice ab lb.length cb, .int .i64 m'] 24)
  have hb0 := (hb.alloc (.cells #[.int .i64 k, .int .i64 b, .int .i64 o, .slice aa la.length ca, .int .i64 m] 24)).alloc (.cells #[.int .i64 k', .int .i64 b', .int .i64 o', .slice ab lb.length cb, .int .i64 m'] 24)
  go_enter Try.func6, Try.ntmps6
  go_wp2_with fail
  refine (begun_any _).mono ?_
  rintro r w1 ⟨rfl, hb1⟩
  have hA1 := hA.mono hb1
  have hB1 := hB.mono hb1
  have B1 := B0.trans (hb1.mono B0.size)
  have ha1 := ha0.mono hb1
  have hb1' := hb0.mono hb1
  clear hb1 hA hB B0 ha0 hb0 ha hb
  obtain ⟨c0, c1, c2, c3, c4, -, -, -, -, -, -⟩ := id hA1
  obtain ⟨d0, d1, d2, d3, d4, -, -, -, -, -, -⟩ := id hB1
  go_wp2_with fail
  refine (c9 _ _ ha1).mono ?_
  rintro r w2 ⟨v2, rfl, ho2, hb2⟩
  have hs2 := Bs.of_owns ho2 hM
  obtain ⟨a2, p2, rfl, -, -⟩ := owns_form ho2
  have hA2 := hA1.mono hb2
  have hB2 := hB1.mono hb2
  have B2 := B1.trans (hb2.mono B1.size)
  have ha2 := ha1.mono hb2
  have hb2' := hb1'.mono hb2
  clear ho2 hb2 hA1 hB1 B1 ha1 hb1' c0 c1 c2 c3 c4 d0 d1 d2 d3 d4 c9
  obtain ⟨c0, c1, c2, c3, c4, -, -, -, -, -, -⟩ := id hA2
  obtain ⟨d0, d1, d2, d3, d4, -, -, -, -, -, -⟩ := id hB2
  go_wp2_with fail
  refine (c9' _ _ hb2').mono ?_
  rintro r w3 ⟨v3, rfl, ho3, hb3⟩
  have hs3 := Bs.of_owns ho3 hM'
  obtain ⟨a3, p3, rfl, -, -⟩ := owns_form ho3
  have hs2' := hs2.mono hb3
  have hA3 := hA2.mono hb3
  have hB3 := hB2.mono hb3
  have B3 := B2.trans (hb3.mono B2.size)
  have ha3 := ha2.mono hb3
  have hb3' := hb2'.mono hb3
  clear ho3 hb3 hA2 hB2 B2 ha2 hb2' hs2 c0 c1 c2 c3 c4 d0 d1 d2 d3 d4 c9'
  obtain ⟨c0, c1, c2, c3, c4, -, -, -, -, -, -⟩ := id hA3
  obtain ⟨d0, d1, d2, d3, d4, -, -, -, -, -, -⟩ := id hB3
  go_wp2_with fail
  go_ret
  exact ⟨rfl, B3⟩

set_option maxRecDepth 100000 in
set_option maxHeartbeats 1000000 in
theorem apart_f (p q k b o m k' b' o' m' : Int) (va vb : Value) (la lb : List Nat) (w : World) (ha : Bs w va la) (hb : Bs w vb lb) (ka : la.length ≤ 140737488355328) (kb : lb.length ≤ 140737488355328) (h1 : la.length ≤ 5000) (h2 : lb.length ≤ 5000) (M M' : List Nat) (er er' : Int) (hM : ∀ y ∈ M, y < 256) (hM' : ∀ y ∈ M', y < 256)
    (c9 : ∀ v w, Bs w v la → Calls Try.prog 9 #[.int .i64 p, .agg #[.int .i64 k, .int .i64 b, .int .i64 o, v, .int .i64 m]] w (NewBsE w M er)) (c9' : ∀ v w, Bs w v lb → Calls Try.prog 9 #[.int .i64 q, .agg #[.int .i64 k', .int .i64 b', .int .i64 o', v, .int .i64 m']] w (NewBsE w M' er')) (he : er = 0) (hf : (er' != 0) = true) :
    Calls Try.prog 6 #[.int .i64 p, .int .i64 q, .agg #[.int .i64 k, .int .i64 b, .int .i64 o, va, .int .i64 m], .agg #[.int .i64 k', .int .i64 b', .int .i64 o', vb, .int .i64 m']] w fun r w' => r = .returned (.bool true) ∧ Below w.heap.size w w' := by
  subst he
  obtain ⟨aa, ca, rfl, -⟩ := id ha
  obtain ⟨ab, cb, rfl, -⟩ := id hb
  have hA := (RecAt.new w k b o (.slice aa la.length ca) m).alloc (.cells #[.int .i64 k', .int .i64 b', .int .i64 o', .slice ab lb.length cb, .int .i64 m'] 24)
  have hB := RecAt.new1 w (.cells #[.int .i64 k, .int .i64 b, .int .i64 o, .slice aa la.length ca, .int .i64 m] 24) k' b' o' (.slice ab lb.length cb) m'
  have B0 : Below w.heap.size w ((w.alloc (.cells #[.int .i64 k, .int .i64 b, .int .i64 o, .slice aa la.length ca, .int .i64 m] 24)).alloc (.cells #[.int .i64 k', .int .i64 b', .int .i64 o', .slice ab lb.length cb, .int .i64 m'] 24)) := ((Below.refl _ w).alloc (Nat.le_refl _) _).alloc (by simp) _
  have ha0 := (ha.alloc (.cells #[.int .i64 k, .int .i64 b, .int .i64 o, .slice aa la.length ca, .int .i64 m] 24)).alloc (.cells #[.int .i64 k', .int .i64 b', .int .i64 o', .slice ab lb.length cb, .int .i64 m'] 24)
  have hb0 := (hb.alloc (.cells #[.int .i64 k, .int .i64 b, .int .i64 o, .slice aa la.length ca, .int .i64 m] 24)).alloc (.cells #[.int .i64 k', .int .i64 b', .int .i64 o', .slice ab lb.length cb, .int .i64 m'] 24)
  go_enter Try.func6, Try.ntmps6
  go_wp2_with fail
  refine (begun_any _).mono ?_
  rintro r w1 ⟨rfl, hb1⟩
  have hA1 := hA.mono hb1
  have hB1 := hB.mono hb1
  have B1 := B0.trans (hb1.mono B0.size)
  have ha1 := ha0.mono hb1
  have hb1' := hb0.mono hb1
  clear hb1 hA hB B0 ha0 hb0 ha hb
  obtain ⟨c0, c1, c2, c3, c4, -, -, -, -, -, -⟩ := id hA1
  obtain ⟨d0, d1, d2, d3, d4, -, -, -, -, -, -⟩ := id hB1
  go_wp2_with fail
  refine (c9 _ _ ha1).mono ?_
  rintro r w2 ⟨v2, rfl, ho2, hb2⟩
  have hs2 := Bs.of_owns ho2 hM
  obtain ⟨a2, p2, rfl, -, -⟩ := owns_form ho2
  have hA2 := hA1.mono hb2
  have hB2 := hB1.mono hb2
  have B2 := B1.trans (hb2.mono B1.size)
  have ha2 := ha1.mono hb2
  have hb2' := hb1'.mono hb2
  clear ho2 hb2 hA1 hB1 B1 ha1 hb1' c0 c1 c2 c3 c4 d0 d1 d2 d3 d4 c9
  obtain ⟨c0, c1, c2, c3, c4, -, -, -, -, -, -⟩ := id hA2
  obtain ⟨d0, d1, d2, d3, d4, -, -, -, -, -, -⟩ := id hB2
  go_wp2_with fail
  refine (c9' _ _ hb2').mono ?_
  rintro r w3 ⟨v3, rfl, ho3, hb3⟩
  have hs3 := Bs.of_owns ho3 hM'
  obtain ⟨a3, p3, rfl, -, -⟩ := owns_form ho3
  have hs2' := hs2.mono hb3
  have hA3 := hA2.mono hb3
  have hB3 := hB2.mono hb3
  have B3 := B2.trans (hb3.mono B2.size)
  have ha3 := ha2.mono hb3
  have hb3' := hb2'.mono hb3
  clear ho3 hb3 hA2 hB2 B2 ha2 hb2' hs2 c0 c1 c2 c3 c4 d0 d1 d2 d3 d4 c9'
  obtain ⟨c0, c1, c2, c3, c4, -, -, -, -, -, -⟩ := id hA3
  obtain ⟨d0, d1, d2, d3, d4, -, -, -, -, -, -⟩ := id hB3
  go_wp2_with fail
  go_ret
  exact ⟨rfl, B3⟩

set_option maxRecDepth 100000 in
set_option maxHeartbeats 1000000 in
theorem apart_ne (p q k b o m k' b' o' m' : Int) (va vb : Value) (la lb : List Nat) (w : World) (ha : Bs w va la) (hb : Bs w vb lb) (ka : la.length ≤ 140737488355328) (kb : lb.length ≤ 140737488355328) (h1 : la.length ≤ 5000) (h2 : lb.length ≤ 5000) (M M' : List Nat) (er er' : Int) (hM : ∀ y ∈ M, y < 256) (hM' : ∀ y ∈ M', y < 256)
    (c9 : ∀ v w, Bs w v la → Calls Try.prog 9 #[.int .i64 p, .agg #[.int .i64 k, .int .i64 b, .int .i64 o, v, .int .i64 m]] w (NewBsE w M er)) (c9' : ∀ v w, Bs w v lb → Calls Try.prog 9 #[.int .i64 q, .agg #[.int .i64 k', .int .i64 b', .int .i64 o', v, .int .i64 m']] w (NewBsE w M' er')) (he : er = 0) (hf : er' = 0) (hpq : (p == q) = false) (hd : M ≠ M') :
    Calls Try.prog 6 #[.int .i64 p, .int .i64 q, .agg #[.int .i64 k, .int .i64 b, .int .i64 o, va, .int .i64 m], .agg #[.int .i64 k', .int .i64 b', .int .i64 o', vb, .int .i64 m']] w fun r w' => r = .returned (.bool true) ∧ Below w.heap.size w w' := by
  subst he hf
  obtain ⟨aa, ca, rfl, -⟩ := id ha
  obtain ⟨ab, cb, rfl, -⟩ := id hb
  have hA := (RecAt.new w k b o (.slice aa la.length ca) m).alloc (.cells #[.int .i64 k', .int .i64 b', .int .i64 o', .slice ab lb.length cb, .int .i64 m'] 24)
  have hB := RecAt.new1 w (.cells #[.int .i64 k, .int .i64 b, .int .i64 o, .slice aa la.length ca, .int .i64 m] 24) k' b' o' (.slice ab lb.length cb) m'
  have B0 : Below w.heap.size w ((w.alloc (.cells #[.int .i64 k, .int .i64 b, .int .i64 o, .slice aa la.length ca, .int .i64 m] 24)).alloc (.cells #[.int .i64 k', .int .i64 b', .int .i64 o', .slice ab lb.length cb, .int .i64 m'] 24)) := ((Below.refl _ w).alloc (Nat.le_refl _) _).alloc (by simp) _
  have ha0 := (ha.alloc (.cells #[.int .i64 k, .int .i64 b, .int .i64 o, .slice aa la.length ca, .int .i64 m] 24)).alloc (.cells #[.int .i64 k', .int .i64 b', .int .i64 o', .slice ab lb.length cb, .int .i64 m'] 24)
  have hb0 := (hb.alloc (.cells #[.int .i64 k, .int .i64 b, .int .i64 o, .slice aa la.length ca, .int .i64 m] 24)).alloc (.cells #[.int .i64 k', .int .i64 b', .int .i64 o', .slice ab lb.length cb, .int .i64 m'] 24)
  go_enter Try.func6, Try.ntmps6
  go_wp2_with fail
  refine (begun_any _).mono ?_
  rintro r w1 ⟨rfl, hb1⟩
  have hA1 := hA.mono hb1
  have hB1 := hB.mono hb1
  have B1 := B0.trans (hb1.mono B0.size)
  have ha1 := ha0.mono hb1
  have hb1' := hb0.mono hb1
  clear hb1 hA hB B0 ha0 hb0 ha hb
  obtain ⟨c0, c1, c2, c3, c4, -, -, -, -, -, -⟩ := id hA1
  obtain ⟨d0, d1, d2, d3, d4, -, -, -, -, -, -⟩ := id hB1
  go_wp2_with fail
  refine (c9 _ _ ha1).mono ?_
  rintro r w2 ⟨v2, rfl, ho2, hb2⟩
  have hs2 := Bs.of_owns ho2 hM
  obtain ⟨a2, p2, rfl, -, -⟩ := owns_form ho2
  have hA2 := hA1.mono hb2
  have hB2 := hB1.mono hb2
  have B2 := B1.trans (hb2.mono B1.size)
  have ha2 := ha1.mono hb2
  have hb2' := hb1'.mono hb2
  clear ho2 hb2 hA1 hB1 B1 ha1 hb1' c0 c1 c2 c3 c4 d0 d1 d2 d3 d4 c9
  obtain ⟨c0, c1, c2, c3, c4, -, -, -, -, -, -⟩ := id hA2
  obtain ⟨d0, d1, d2, d3, d4, -, -, -, -, -, -⟩ := id hB2
  go_wp2_with fail
  refine (c9' _ _ hb2').mono ?_
  rintro r w3 ⟨v3, rfl, ho3, hb3⟩
  have hs3 := Bs.of_owns ho3 hM'
  obtain ⟨a3, p3, rfl, -, -⟩ := owns_form ho3
  have hs2' := hs2.mono hb3
  have hA3 := hA2.mono hb3
  have hB3 := hB2.mono hb3
  have B3 := B2.trans (hb3.mono B2.size)
  have ha3 := ha2.mono hb3
  have hb3' := hb2'.mono hb3
  clear ho3 hb3 hA2 hB2 B2 ha2 hb2' hs2 c0 c1 c2 c3 c4 d0 d1 d2 d3 d4 c9'
  obtain ⟨c0, c1, c2, c3, c4, -, -, -, -, -, -⟩ := id hA3
  obtain ⟨d0, d1, d2, d3, d4, -, -, -, -, -, -⟩ := id hB3
  go_wp2_with fail
  refine (equal_any _ _ M M' _ hs2' hs3).mono ?_
  rintro r w4 ⟨rfl, rfl⟩
  rw [decide_eq_false hd]
  go_wp2_with fail
  go_ret
  exact ⟨rfl, B3⟩

set_option maxRecDepth 100000 in
set_option maxHeartbeats 1000000 in
theorem apart_eqT (p q k b o m k' b' o' m' : Int) (va vb : Value) (la lb : List Nat) (w : World) (ha : Bs w va la) (hb : Bs w vb lb) (ka : la.length ≤ 140737488355328) (kb : lb.length ≤ 140737488355328) (h1 : la.length ≤ 5000) (h2 : lb.length ≤ 5000) (M M' : List Nat) (er er' : Int) (hM : ∀ y ∈ M, y < 256) (hM' : ∀ y ∈ M', y < 256)
    (c9 : ∀ v w, Bs w v la → Calls Try.prog 9 #[.int .i64 p, .agg #[.int .i64 k, .int .i64 b, .int .i64 o, v, .int .i64 m]] w (NewBsE w M er)) (c9' : ∀ v w, Bs w v lb → Calls Try.prog 9 #[.int .i64 q, .agg #[.int .i64 k', .int .i64 b', .int .i64 o', v, .int .i64 m']] w (NewBsE w M' er')) (he : er = 0) (hf : er' = 0) (hpq : (p == q) = true) (hd : M = M') (hs : sameB k b o m la k' b' o' m' lb = true) :
    Calls Try.prog 6 #[.int .i64 p, .int .i64 q, .agg #[.int .i64 k, .int .i64 b, .int .i64 o, va, .int .i64 m], .agg #[.int .i64 k', .int .i64 b', .int .i64 o', vb, .int .i64 m']] w fun r w' => r = .returned (.bool true) ∧ Below w.heap.size w w' := by
  subst he hf
  have Hd := hide hd
  clear hd
  obtain ⟨aa, ca, rfl, -⟩ := id ha
  obtain ⟨ab, cb, rfl, -⟩ := id hb
  have hA := (RecAt.new w k b o (.slice aa la.length ca) m).alloc (.cells #[.int .i64 k', .int .i64 b', .int .i64 o', .slice ab lb.length cb, .int .i64 m'] 24)
  have hB := RecAt.new1 w (.cells #[.int .i64 k, .int .i64 b, .int .i64 o, .slice aa la.length ca, .int .i64 m] 24) k' b' o' (.slice ab lb.length cb) m'
  have B0 : Below w.heap.size w ((w.alloc (.cells #[.int .i64 k, .int .i64 b, .int .i64 o, .slice aa la.length ca, .int .i64 m] 24)).alloc (.cells #[.int .i64 k', .int .i64 b', .int .i64 o', .slice ab lb.length cb, .int .i64 m'] 24)) := ((Below.refl _ w).alloc (Nat.le_refl _) _).alloc (by simp) _
  have ha0 := (ha.alloc (.cells #[.int .i64 k, .int .i64 b, .int .i64 o, .slice aa la.length ca, .int .i64 m] 24)).alloc (.cells #[.int .i64 k', .int .i64 b', .int .i64 o', .slice ab lb.length cb, .int .i64 m'] 24)
  have hb0 := (hb.alloc (.cells #[.int .i64 k, .int .i64 b, .int .i64 o, .slice aa la.length ca, .int .i64 m] 24)).alloc (.cells #[.int .i64 k', .int .i64 b', .int .i64 o', .slice ab lb.length cb, .int .i64 m'] 24)
  go_enter Try.func6, Try.ntmps6
  go_wp2_with fail
  refine (begun_any _).mono ?_
  rintro r w1 ⟨rfl, hb1⟩
  have hA1 := hA.mono hb1
  have hB1 := hB.mono hb1
  have B1 := B0.trans (hb1.mono B0.size)
  have ha1 := ha0.mono hb1
  have hb1' := hb0.mono hb1
  clear hb1 hA hB B0 ha0 hb0 ha hb
  obtain ⟨c0, c1, c2, c3, c4, -, -, -, -, -, -⟩ := id hA1
  obtain ⟨d0, d1, d2, d3, d4, -, -, -, -, -, -⟩ := id hB1
  go_wp2_with fail
  refine (c9 _ _ ha1).mono ?_
  rintro r w2 ⟨v2, rfl, ho2, hb2⟩
  have hs2 := Bs.of_owns ho2 hM
  obtain ⟨a2, p2, rfl, -, -⟩ := owns_form ho2
  have hA2 := hA1.mono hb2
  have hB2 := hB1.mono hb2
  have B2 := B1.trans (hb2.mono B1.size)
  have ha2 := ha1.mono hb2
  have hb2' := hb1'.mono hb2
  clear ho2 hb2 hA1 hB1 B1 ha1 hb1' c0 c1 c2 c3 c4 d0 d1 d2 d3 d4 c9
  obtain ⟨c0, c1, c2, c3, c4, -, -, -, -, -, -⟩ := id hA2
  obtain ⟨d0, d1, d2, d3, d4, -, -, -, -, -, -⟩ := id hB2
  go_wp2_with fail
  refine (c9' _ _ hb2').mono ?_
  rintro r w3 ⟨v3, rfl, ho3, hb3⟩
  have hs3 := Bs.of_owns ho3 hM'
  obtain ⟨a3, p3, rfl, -, -⟩ := owns_form ho3
  have hs2' := hs2.mono hb3
  have hA3 := hA2.mono hb3
  have hB3 := hB2.mono hb3
  have B3 := B2.trans (hb3.mono B2.size)
  have ha3 := ha2.mono hb3
  have hb3' := hb2'.mono hb3
  clear ho3 hb3 hA2 hB2 B2 ha2 hb2' hs2 c0 c1 c2 c3 c4 d0 d1 d2 d3 d4 c9'
  obtain ⟨c0, c1, c2, c3, c4, -, -, -, -, -, -⟩ := id hA3
  obtain ⟨d0, d1, d2, d3, d4, -, -, -, -, -, -⟩ := id hB3
  go_wp2_with fail
  refine (equal_any _ _ M M' _ hs2' hs3).mono ?_
  rintro r w4 ⟨rfl, rfl⟩
  rw [decide_eq_true Hd.out]
  go_wp2_with fail
  refine (same_any k b o m k' b' o' m' _ _ la lb _ ha3 hb3').mono ?_
  rintro r w5 ⟨rfl, hb5⟩
  rw [hs]
  go_wp2_with fail
  go_ret
  exact ⟨rfl, B3.trans (hb5.mono B3.size)⟩

set_option maxRecDepth 100000 in
set_option maxHeartbeats 1000000 in
theorem apart_eqF (p q k b o m k' b' o' m' : Int) (va vb : Value) (la lb : List Nat) (w : World) (ha : Bs w va la) (hb : Bs w vb lb) (ka : la.length ≤ 140737488355328) (kb : lb.length ≤ 140737488355328) (h1 : la.length ≤ 5000) (h2 : lb.length ≤ 5000) (M M' : List Nat) (er er' : Int) (hM : ∀ y ∈ M, y < 256) (hM' : ∀ y ∈ M', y < 256)
    (c9 : ∀ v w, Bs w v la → Calls Try.prog 9 #[.int .i64 p, .agg #[.int .i64 k, .int .i64 b, .int .i64 o, v, .int .i64 m]] w (NewBsE w M er)) (c9' : ∀ v w, Bs w v lb → Calls Try.prog 9 #[.int .i64 q, .agg #[.int .i64 k', .int .i64 b', .int .i64 o', v, .int .i64 m']] w (NewBsE w M' er')) (he : er = 0) (hf : er' = 0) (hpq : (p == q) = true) (hd : M ≠ M') (hs : sameB k b o m la k' b' o' m' lb = false) :
    Calls Try.prog 6 #[.int .i64 p, .int .i64 q, .agg #[.int .i64 k, .int .i64 b, .int .i64 o, va, .int .i64 m], .agg #[.int .i64 k', .int .i64 b', .int .i64 o', vb, .int .i64 m']] w fun r w' => r = .returned (.bool true) ∧ Below w.heap.size w w' := by
  subst he hf
  have Hd := hide hd
  clear hd
  obtain ⟨aa, ca, rfl, -⟩ := id ha
  obtain ⟨ab, cb, rfl, -⟩ := id hb
  have hA := (RecAt.new w k b o (.slice aa la.length ca) m).alloc (.cells #[.int .i64 k', .int .i64 b', .int .i64 o', .slice ab lb.length cb, .int .i64 m'] 24)
  have hB := RecAt.new1 w (.cells #[.int .i64 k, .int .i64 b, .int .i64 o, .slice aa la.length ca, .int .i64 m] 24) k' b' o' (.slice ab lb.length cb) m'
  have B0 : Below w.heap.size w ((w.alloc (.cells #[.int .i64 k, .int .i64 b, .int .i64 o, .slice aa la.length ca, .int .i64 m] 24)).alloc (.cells #[.int .i64 k', .int .i64 b', .int .i64 o', .slice ab lb.length cb, .int .i64 m'] 24)) := ((Below.refl _ w).alloc (Nat.le_refl _) _).alloc (by simp) _
  have ha0 := (ha.alloc (.cells #[.int .i64 k, .int .i64 b, .int .i64 o, .slice aa la.length ca, .int .i64 m] 24)).alloc (.cells #[.int .i64 k', .int .i64 b', .int .i64 o', .slice ab lb.length cb, .int .i64 m'] 24)
  have hb0 := (hb.alloc (.cells #[.int .i64 k, .int .i64 b, .int .i64 o, .slice aa la.length ca, .int .i64 m] 24)).alloc (.cells #[.int .i64 k', .int .i64 b', .int .i64 o', .slice ab lb.length cb, .int .i64 m'] 24)
  go_enter Try.func6, Try.ntmps6
  go_wp2_with fail
  refine (begun_any _).mono ?_
  rintro r w1 ⟨rfl, hb1⟩
  have hA1 := hA.mono hb1
  have hB1 := hB.mono hb1
  have B1 := B0.trans (hb1.mono B0.size)
  have ha1 := ha0.mono hb1
  have hb1' := hb0.mono hb1
  clear hb1 hA hB B0 ha0 hb0 ha hb
  obtain ⟨c0, c1, c2, c3, c4, -, -, -, -, -, -⟩ := id hA1
  obtain ⟨d0, d1, d2, d3, d4, -, -, -, -, -, -⟩ := id hB1
  go_wp2_with fail
  refine (c9 _ _ ha1).mono ?_
  rintro r w2 ⟨v2, rfl, ho2, hb2⟩
  have hs2 := Bs.of_owns ho2 hM
  obtain ⟨a2, p2, rfl, -, -⟩ := owns_form ho2
  have hA2 := hA1.mono hb2
  have hB2 := hB1.mono hb2
  have B2 := B1.trans (hb2.mono B1.size)
  have ha2 := ha1.mono hb2
  have hb2' := hb1'.mono hb2
  clear ho2 hb2 hA1 hB1 B1 ha1 hb1' c0 c1 c2 c3 c4 d0 d1 d2 d3 d4 c9
  obtain ⟨c0, c1, c2, c3, c4, -, -, -, -, -, -⟩ := id hA2
  obtain ⟨d0, d1, d2, d3, d4, -, -, -, -, -, -⟩ := id hB2
  go_wp2_with fail
  refine (c9' _ _ hb2').mono ?_
  rintro r w3 ⟨v3, rfl, ho3, hb3⟩
  have hs3 := Bs.of_owns ho3 hM'
  obtain ⟨a3, p3, rfl, -, -⟩ := owns_form ho3
  have hs2' := hs2.mono hb3
  have hA3 := hA2.mono hb3
  have hB3 := hB2.mono hb3
  have B3 := B2.trans (hb3.mono B2.size)
  have ha3 := ha2.mono hb3
  have hb3' := hb2'.mono hb3
  clear ho3 hb3 hA2 hB2 B2 ha2 hb2' hs2 c0 c1 c2 c3 c4 d0 d1 d2 d3 d4 c9'
  obtain ⟨c0, c1, c2, c3, c4, -, -, -, -, -, -⟩ := id hA3
  obtain ⟨d0, d1, d2, d3, d4, -, -, -, -, -, -⟩ := id hB3
  go_wp2_with fail
  refine (equal_any _ _ M M' _ hs2' hs3).mono ?_
  rintro r w4 ⟨rfl, rfl⟩
  rw [decide_eq_false Hd.out]
  go_wp2_with fail
  refine (same_any k b o m k' b' o' m' _ _ la lb _ ha3 hb3').mono ?_
  rintro r w5 ⟨rfl, hb5⟩
  rw [hs]
  go_wp2_with fail
  go_ret
  exact ⟨rfl, B3.trans (hb5.mono B3.size)⟩

theorem apart_any (p q k b o m k' b' o' m' : Int) (va vb : Value) (la lb : List Nat) (w : World) (ha : Bs w va la) (hb : Bs w vb lb) (ka : la.length ≤ 140737488355328) (kb : lb.length ≤ 140737488355328) :
    Calls Try.prog 6 #[.int .i64 p, .int .i64 q, .agg #[.int .i64 k, .int .i64 b, .int .i64 o, va, .int .i64 m], .agg #[.int .i64 k', .int .i64 b', .int .i64 o', vb, .int .i64 m']] w fun r w' => r = .returned (.bool true) ∧ Below w.heap.size w w' := by
  by_cases h1 : la.length ≤ 5000
  · by_cases h2 : lb.length ≤ 5000
    · obtain ⟨M, er, hR, c9, -⟩ := bytes_both p k b o m la ha.lt ka
      obtain ⟨M', er', hR', c9', -⟩ := bytes_both q k' b' o' m' lb hb.lt kb
      have hM := hR.lt
      have hM' := hR'.lt
      rcases hR with ⟨he, p1, k1, b1, o1, m1, rfl, rfl, rfl, rfl, rfl, hi⟩ | ⟨he, -⟩
      · rcases hR' with ⟨hf, p2, k2, b2, o2, m2, rfl, rfl, rfl, rfl, rfl, hj⟩ | ⟨hf, -⟩
        · by_cases hpq : p1 = p2
          · by_cases hs : k1 = k2 ∧ b1 = b2 ∧ o1 = o2 ∧ m1 = m2 ∧ la = lb
            · obtain ⟨rfl, rfl, rfl, rfl, rfl⟩ := hs
              subst hpq
              exact apart_eqT _ _ _ _ _ _ _ _ _ _ va vb la la w ha hb ka kb h1 h2 M M' er er' hM hM' c9 c9' he hf (by simp) (by rw [hi.2.2.2, hj.2.2.2]) (decide_eq_true ⟨rfl, rfl, rfl, rfl, rfl⟩)
            · refine apart_eqF _ _ _ _ _ _ _ _ _ _ va vb la lb w ha hb ka kb h1 h2 M M' er er' hM hM' c9 c9' he hf (by simp [hpq]) (fun e => ?_) (decide_eq_false (fun hh => hs ?_))
              · subst e
                obtain ⟨_, q1, q2, q3, q4, q5⟩ := hi.one hj
                exact hs ⟨q1, q2, q3, q4, q5⟩
              · obtain ⟨q1, q2, q3, q4, q5⟩ := hh
                exact ⟨by omega, by omega, by omega, by omega, q5⟩
          · refine apart_ne _ _ _ _ _ _ _ _ _ _ va vb la lb w ha hb ka kb h1 h2 M M' er er' hM hM' c9 c9' he hf (by simp; omega) (fun e => ?_)
            subst e
            exact hpq (hi.one hj).1
        · exact apart_f _ _ _ _ _ _ _ _ _ _ va vb la lb w ha hb ka kb h1 h2 M M' er er' hM hM' c9 c9' he (by simp; omega)
      · exact apart_e _ _ _ _ _ _ _ _ _ _ va vb la lb w ha hb ka kb h1 h2 M M' er er' hM hM' c9 c9' (by simp; omega)
    · exact apart_longB _ _ _ _ _ _ _ _ _ _ va vb la lb w ha hb ka kb h1 (by omega)
  · exact apart_longA _ _ _ _ _ _ _ _ _ _ va vb la lb w ha hb ka kb (by omega)

theorem recordApart_lifted (os : Os) (started : os.Started) (H : Type) (enc : TypeId × Value → H) :
    ReturnsInHanded {} Try.checked os 6 .any (Rows.recordApartSpec.pre6 enc Try.prog Try.f6 Rows.recordApartRow.domain false) (Rows.recordApartSpec.post enc Try.prog Try.f6 false true false false) := by
  refine law_frame (C := Try.checked) rfl Try.own started (by kernel_rfl) Try.func6
    (ChangeSpec.witness6 (enc := enc) (C := Try.checked) false ⟨#[], #[.int .i64 0, .int .i64 0, .agg #[.int .i64 0, .int .i64 0, .int .i64 0, .slice none 0 0, .int .i64 0], .agg #[.int .i64 0, .int .i64 0, .int .i64 0, .slice none 0 0, .int .i64 0]], []⟩ 8 (by kernel_rfl) (by kernel_rfl) (by kernel_rfl) (by kernel_rfl))
    Try.laidOut ?_ 4 rfl Try.underlying4 ?_ ?_
  · rw [Try.params6]
    intro t ht
    simp at ht
    rcases ht with rfl | rfl <;> exact ⟨by kernel_rfl, of_decide_eq_true (by kernel_rfl)⟩
  · intro ds hn
    rw [Try.params6] at hn
    match ds, hn with
    | [d1, d2, d3, d4], _ => rfl
  · intro W base args ds p hval0 hA hsz
    have hval : ∀ (j : Nat) t v, Try.f6.params[j]? = some t → args[j]? = some v → Value.okWide Try.prog W .any base t v := hval0
    rw [Try.params6] at hA hsz hval
    obtain ⟨v0, vs0, d0, ds0, p0, q0, hargs, rfl, rfl, h0, r0⟩ := trodAll_cons hA
    obtain ⟨v1, vs1, d1, ds1, p1, q1, rfl, rfl, rfl, h1, r1⟩ := trodAll_cons r0
    obtain ⟨v2, vs2, d2, ds2, p2, q2, rfl, rfl, rfl, h2, r2⟩ := trodAll_cons r1
    obtain ⟨v3, vs3, d3, ds3, p3, q3, rfl, rfl, rfl, h3, r3⟩ := trodAll_cons r2
    obtain ⟨rfl, rfl, rfl⟩ := trodAll_nil r3
    obtain rfl : args = #[v0, v1, v2, v3] := by cases args; simp_all
    obtain ⟨a0, rfl, rfl, rfl, w0⟩ := open_int Try.underlying2 (hval 0 2 v0 rfl rfl) h0
    have hb0 := bounds_i64 w0
    obtain ⟨a1, rfl, rfl, rfl, w1⟩ := open_int Try.underlying2 (hval 1 2 v1 rfl rfl) h1
    have hb1 := bounds_i64 w1
    obtain ⟨k2, b2, o2, m2, u2, l2, rfl, hbs2, hl2⟩ := cameR (hval 2 24 v2 rfl rfl) h2 hsz (j := 2) rfl rfl
    obtain ⟨k3, b3, o3, m3, u3, l3, rfl, hbs3, hl3⟩ := cameR (hval 3 24 v3 rfl rfl) h3 hsz (j := 3) rfl rfl
    exact apart_any a0 a1 k2 b2 o2 m2 k3 b3 o3 m3 u2 u3 l2 l3 W hbs2 hbs3 hl2 hl3

theorem recordApart_holds : Rows.RecordApartSaid :=
  OpenClaim.holds_of_wide 6 Try.f6 rfl rfl rfl rfl rfl rfl rfl ⟨rfl, rfl, rfl, rfl, rfl⟩ rfl rfl rfl rfl rfl (by kernel_rfl) Try.func6 (by kernel_rfl)
    (of_decide_eq_true (by kernel_rfl)) (by unfold Func.isWrapper; first | (rw [if_pos (by decide +kernel)]; kernel_rfl) | (rw [if_neg (by decide +kernel)]; exact ⟨rfl, rfl⟩))
    (fun os started H enc _ => recordApart_lifted os started H enc)
#print axioms recordApart_holds
end Go.Proofs.Ytcfmadgehpmboaa
