/- RecordBack: for every record, any two places and any bytes: Take of Bytes at its place is the record, at another one it says an error, and Bytes of what is taken of any bytes at the place that Lsn says are these bytes (P6.4, P6.5). -/
import Derived.Test.YtcfmadgehpmboaaCameR
set_option linter.unusedSimpArgs false
set_option linter.unusedVariables false
namespace Go.Proofs.Ytcfmadgehpmboaa
open Go.RowKit Go.Attic Go.ChangeShapes Go.WideShapes Go.ChangeAt

set_option maxRecDepth 100000 in
set_option maxHeartbeats 1000000 in
theorem back_longA (p q k b o m : Int) (va vl : Value) (la L : List Nat) (w : World) (ha : Bs w va la) (hL : Bs w vl L) (ka : la.length ≤ 140737488355328) (kL : L.length ≤ 140737488355328) (h1 : 5000 < la.length) :
    Calls Try.prog 5 #[.int .i64 p, .int .i64 q, .agg #[.int .i64 k, .int .i64 b, .int .i64 o, va, .int .i64 m], vl] w fun r w' => r = .returned (.bool true) ∧ Below w.heap.size w w' := by
  obtain ⟨aa, ca, rfl, -⟩ := id ha
  obtain ⟨ab, cb, rfl, -⟩ := id hL
  have hA := RecAt.new w k b o (.slice aa la.length ca) m
  have B0 : Below w.heap.size w (w.alloc (.cells #[.int .i64 k, .int .i64 b, .int .i64 o, .slice aa la.length ca, .int .i64 m] 24)) := (Below.refl _ w).alloc (Nat.le_refl _) _
  have ha0 := ha.alloc (.cells #[.int .i64 k, .int .i64 b, .int .i64 o, .slice aa la.length ca, .int .i64 m] 24)
  have hl0 := hL.alloc (.cells #[.int .i64 k, .int .i64 b, .int .i64 o, .slice aa la.length ca, .int .i64 m] 24)
  go_enter Try.func5, Try.ntmps5
  go_wp2_with fail
  refine (begun_any _).mono ?_
  rintro r w1 ⟨rfl, hb1⟩
  have hA1 := hA.mono hb1
  have B1 := B0.trans (hb1.mono B0.size)
  have ha1 := ha0.mono hb1
  have hl1 := hl0.mono hb1
  clear hb1 hA B0 ha0 hl0 ha hL
  obtain ⟨c0, c1, c2, c3, c4, -, -, -, -, -, -⟩ := id hA1
  go_wp2_with fail
  refine (begun_any _).mono ?_
  rintro r w2 ⟨rfl, hb2⟩
  go_wp2_with fail
  go_ret
  exact ⟨rfl, B1.trans (hb2.mono B1.size)⟩

set_option maxRecDepth 100000 in
set_option maxHeartbeats 1000000 in
theorem back_longB (p q k b o m : Int) (va vl : Value) (la L : List Nat) (w : World) (ha : Bs w va la) (hL : Bs w vl L) (ka : la.length ≤ 140737488355328) (kL : L.length ≤ 140737488355328) (h1 : la.length ≤ 5000) (h2 : 5000 < L.length) :
    Calls Try.prog 5 #[.int .i64 p, .int .i64 q, .agg #[.int .i64 k, .int .i64 b, .int .i64 o, va, .int .i64 m], vl] w fun r w' => r = .returned (.bool true) ∧ Below w.heap.size w w' := by
  obtain ⟨aa, ca, rfl, -⟩ := id ha
  obtain ⟨ab, cb, rfl, -⟩ := id hL
  have hA := RecAt.new w k b o (.slice aa la.length ca) m
  have B0 : Below w.heap.size w (w.alloc (.cells #[.int .i64 k, .int .i64 b, .int .i64 o, .slice aa la.length ca, .int .i64 m] 24)) := (Below.refl _ w).alloc (Nat.le_refl _) _
  have ha0 := ha.alloc (.cells #[.int .i64 k, .int .i64 b, .int .i64 o, .slice aa la.length ca, .int .i64 m] 24)
  have hl0 := hL.alloc (.cells #[.int .i64 k, .int .i64 b, .int .i64 o, .slice aa la.length ca, .int .i64 m] 24)
  go_enter Try.func5, Try.ntmps5
  go_wp2_with fail
  refine (begun_any _).mono ?_
  rintro r w1 ⟨rfl, hb1⟩
  have hA1 := hA.mono hb1
  have B1 := B0.trans (hb1.mono B0.size)
  have ha1 := ha0.mono hb1
  have hl1 := hl0.mono hb1
  clear hb1 hA B0 ha0 hl0 ha hL
  obtain ⟨c0, c1, c2, c3, c4, -, -, -, -, -, -⟩ := id hA1
  go_wp2_with fail
  refine (begun_any _).mono ?_
  rintro r w2 ⟨rfl, hb2⟩
  go_wp2_with fail
  go_ret
  exact ⟨rfl, B1.trans (hb2.mono B1.size)⟩

set_option maxRecDepth 100000 in
set_option maxHeartbeats 1000000 in
theorem back_en (p q k b o m : Int) (va vl : Value) (la L : List Nat) (w : World) (ha : Bs w va la) (hL : Bs w vl L) (ka : la.length ≤ 140737488355328) (kL : L.length ≤ 140737488355328) (h1 : la.length ≤ 5000) (h2 : L.length ≤ 5000) (M : List Nat) (er : Int) (hM : ∀ y ∈ M, y < 256)
    (c9 : ∀ v w, Bs w v la → Calls Try.prog 9 #[.int .i64 p, .agg #[.int .i64 k, .int .i64 b, .int .i64 o, v, .int .i64 m]] w (NewBsE w M er))
    (n en : Int) (c20 : ∀ v w, Bs w v L → Calls Try.prog 20 #[v] w fun e w' => e = .returned (.tuple #[.int .i64 n, .int .i64 en]) ∧ Below w.heap.size w w') (he : (er == 0) = false) (hen : (en != 0) = true) :
    Calls Try.prog 5 #[.int .i64 p, .int .i64 q, .agg #[.int .i64 k, .int .i64 b, .int .i64 o, va, .int .i64 m], vl] w fun r w' => r = .returned (.bool true) ∧ Below w.heap.size w w' := by
  obtain ⟨aa, ca, rfl, -⟩ := id ha
  obtain ⟨ab, cb, rfl, -⟩ := id hL
  have hA := RecAt.new w k b o (.slice aa la.length ca) m
  have B0 : Below w.heap.size w (w.alloc (.cells #[.int .i64 k, .int .i64 b, .int .i64 o, .slice aa la.length ca, .int .i64 m] 24)) := (Below.refl _ w).alloc (Nat.le_refl _) _
  have ha0 := ha.alloc (.cells #[.int .i64 k, .int .i64 b, .int .i64 o, .slice aa la.length ca, .int .i64 m] 24)
  have hl0 := hL.alloc (.cells #[.int .i64 k, .int .i64 b, .int .i64 o, .slice aa la.length ca, .int .i64 m] 24)
  go_enter Try.func5, Try.ntmps5
  go_wp2_with fail
  refine (begun_any _).mono ?_
  rintro r w1 ⟨rfl, hb1⟩
  have hA1 := hA.mono hb1
  have B1 := B0.trans (hb1.mono B0.size)
  have ha1 := ha0.mono hb1
  have hl1 := hl0.mono hb1
  clear hb1 hA B0 ha0 hl0 ha hL
  obtain ⟨c0, c1, c2, c3, c4, -, -, -, -, -, -⟩ := id hA1
  go_wp2_with fail
  refine (c9 _ _ ha1).mono ?_
  rintro r w2 ⟨v2, rfl, ho2, hb2⟩
  have hs2 := Bs.of_owns ho2 hM
  obtain ⟨a2, p2, rfl, -, -⟩ := owns_form ho2
  have hA2 := hA1.mono hb2
  have B2 := B1.trans (hb2.mono B1.size)
  have ha2 := ha1.mono hb2
  have hl2' := hl1.mono hb2
  clear ho2 hb2 hA1 B1 ha1 hl1 c0 c1 c2 c3 c4 c9
  go_wp2_with fail
  refine (c20 _ _ hl2').mono ?_
  rintro r w7 ⟨rfl, hb7⟩
  have B7 := B2.trans (hb7.mono B2.size)
  have hl7 := hl2'.mono hb7
  clear hb7 B2 hl2' c20
  go_wp2_with fail
  go_ret
  exact ⟨rfl, B7⟩

set_option maxRecDepth 100000 in
set_option maxHeartbeats 1000000 in
theorem back_ez (p q k b o m : Int) (va vl : Value) (la L : List Nat) (w : World) (ha : Bs w va la) (hL : Bs w vl L) (ka : la.length ≤ 140737488355328) (kL : L.length ≤ 140737488355328) (h1 : la.length ≤ 5000) (h2 : L.length ≤ 5000) (M : List Nat) (er : Int) (hM : ∀ y ∈ M, y < 256)
    (c9 : ∀ v w, Bs w v la → Calls Try.prog 9 #[.int .i64 p, .agg #[.int .i64 k, .int .i64 b, .int .i64 o, v, .int .i64 m]] w (NewBsE w M er))
    (n en : Int) (c20 : ∀ v w, Bs w v L → Calls Try.prog 20 #[v] w fun e w' => e = .returned (.tuple #[.int .i64 n, .int .i64 en]) ∧ Below w.heap.size w w') (he : (er == 0) = false) (hen : en = 0) (k2 b2 o2 m2 : Int) (l2 : List Nat) (hl2 : ∀ y ∈ l2, y < 256) (c18L : ∀ v w, Bs w v L → Calls Try.prog 18 #[v, .int .i64 n] w (TakeE w k2 b2 o2 l2 m2 0))
    (hLx : ∀ y ∈ L, y < 256) (c9L : ∀ v w, Bs w v l2 → Calls Try.prog 9 #[.int .i64 n, .agg #[.int .i64 k2, .int .i64 b2, .int .i64 o2, v, .int .i64 m2]] w (NewBsE w L 0)) :
    Calls Try.prog 5 #[.int .i64 p, .int .i64 q, .agg #[.int .i64 k, .int .i64 b, .int .i64 o, va, .int .i64 m], vl] w fun r w' => r = .returned (.bool true) ∧ Below w.heap.size w w' := by
  subst hen
  obtain ⟨aa, ca, rfl, -⟩ := id ha
  obtain ⟨ab, cb, rfl, -⟩ := id hL
  have hA := RecAt.new w k b o (.slice aa la.length ca) m
  have B0 : Below w.heap.size w (w.alloc (.cells #[.int .i64 k, .int .i64 b, .int .i64 o, .slice aa la.length ca, .int .i64 m] 24)) := (Below.refl _ w).alloc (Nat.le_refl _) _
  have ha0 := ha.alloc (.cells #[.int .i64 k, .int .i64 b, .int .i64 o, .slice aa la.length ca, .int .i64 m] 24)
  have hl0 := hL.alloc (.cells #[.int .i64 k, .int .i64 b, .int .i64 o, .slice aa la.length ca, .int .i64 m] 24)
  go_enter Try.func5, Try.ntmps5
  go_wp2_with fail
  refine (begun_any _).mono ?_
  rintro r w1 ⟨rfl, hb1⟩
  have hA1 := hA.mono hb1
  have B1 := B0.trans (hb1.mono B0.size)
  have ha1 := ha0.mono hb1
  have hl1 := hl0.mono hb1
  clear hb1 hA B0 ha0 hl0 ha hL
  obtain ⟨c0, c1, c2, c3, c4, -, -, -, -, -, -⟩ := id hA1
  go_wp2_with fail
  refine (c9 _ _ ha1).mono ?_
  rintro r w2 ⟨v2, rfl, ho2, hb2⟩
  have hs2 := Bs.of_owns ho2 hM
  obtain ⟨a2, p2, rfl, -, -⟩ := owns_form ho2
  have hA2 := hA1.mono hb2
  have B2 := B1.trans (hb2.mono B1.size)
  have ha2 := ha1.mono hb2
  have hl2' := hl1.mono hb2
  clear ho2 hb2 hA1 B1 ha1 hl1 c0 c1 c2 c3 c4 c9
  go_wp2_with fail
  refine (c20 _ _ hl2').mono ?_
  rintro r w7 ⟨rfl, hb7⟩
  have B7 := B2.trans (hb7.mono B2.size)
  have hl7 := hl2'.mono hb7
  clear hb7 B2 hl2' c20
  go_wp2_with fail
  refine (c18L _ _ hl7).mono ?_
  rintro r w8 ⟨v8, rfl, ho8, hb8⟩
  have hs8 := Bs.of_owns ho8 hl2
  obtain ⟨a8, p8, rfl, -, -⟩ := owns_form ho8
  have hT8 := RecAt.new w8 k2 b2 o2 (.slice a8 l2.length p8) m2
  have hD8 := hs8.alloc (.cells #[.int .i64 k2, .int .i64 b2, .int .i64 o2, .slice a8 l2.length p8, .int .i64 m2] 24)
  have B8 := (B7.trans (hb8.mono B7.size)).alloc (B7.trans (hb8.mono B7.size)).size (.cells #[.int .i64 k2, .int .i64 b2, .int .i64 o2, .slice a8 l2.length p8, .int .i64 m2] 24)
  have hl8 := (hl7.mono hb8).alloc (.cells #[.int .i64 k2, .int .i64 b2, .int .i64 o2, .slice a8 l2.length p8, .int .i64 m2] 24)
  clear ho8 hb8 B7 hl7 hs8 c18L
  obtain ⟨d0, d1, d2, d3, d4, -, -, -, -, -, -⟩ := id hT8
  go_wp2_with fail
  refine (c9L _ _ hD8).mono ?_
  rintro r w9 ⟨v9, rfl, ho9, hb9⟩
  have hs9 := Bs.of_owns ho9 hLx
  obtain ⟨a9, p9, rfl, -, -⟩ := owns_form ho9
  have B9 := B8.trans (hb9.mono B8.size)
  have hl9 := hl8.mono hb9
  clear ho9 hb9 B8 hl8 hD8 hT8 d0 d1 d2 d3 d4 c9L
  go_wp2_with fail
  refine (equal_any _ _ L L _ hs9 hl9).mono ?_
  rintro r w10 ⟨rfl, rfl⟩
  rw [show decide (L = L) = true from decide_eq_true rfl]
  go_wp2_with fail
  go_ret
  exact ⟨rfl, B9⟩

set_option maxRecDepth 100000 in
set_option maxHeartbeats 1000000 in
theorem back_sn (p q k b o m : Int) (va vl : Value) (la L : List Nat) (w : World) (ha : Bs w va la) (hL : Bs w vl L) (ka : la.length ≤ 140737488355328) (kL : L.length ≤ 140737488355328) (h1 : la.length ≤ 5000) (h2 : L.length ≤ 5000) (M : List Nat) (er : Int) (hM : ∀ y ∈ M, y < 256)
    (c9 : ∀ v w, Bs w v la → Calls Try.prog 9 #[.int .i64 p, .agg #[.int .i64 k, .int .i64 b, .int .i64 o, v, .int .i64 m]] w (NewBsE w M er))
    (n en : Int) (c20 : ∀ v w, Bs w v L → Calls Try.prog 20 #[v] w fun e w' => e = .returned (.tuple #[.int .i64 n, .int .i64 en]) ∧ Below w.heap.size w w') (he : er = 0) (hlenM : M.length = 64)
    (c18 : ∀ v w, Bs w v M → Calls Try.prog 18 #[v, .int .i64 p] w (TakeE w k b o la m 0)) (c20M : ∀ v w, Bs w v M → Calls Try.prog 20 #[v] w fun e w' => e = .returned (.tuple #[.int .i64 p, .int .i64 0]) ∧ Below w.heap.size w w')
    (k1 b1 o1 m1 f : Int) (l1 : List Nat) (c18q : ∀ v w, Bs w v M → Calls Try.prog 18 #[v, .int .i64 q] w (TakeE w k1 b1 o1 l1 m1 f)) (hpq : (q != p) = false) (hen : (en != 0) = true) :
    Calls Try.prog 5 #[.int .i64 p, .int .i64 q, .agg #[.int .i64 k, .int .i64 b, .int .i64 o, va, .int .i64 m], vl] w fun r w' => r = .returned (.bool true) ∧ Below w.heap.size w w' := by
  subst he
  have HM := hide hlenM
  have hlax := ha.lt
  clear hlenM
  obtain ⟨aa, ca, rfl, -⟩ := id ha
  obtain ⟨ab, cb, rfl, -⟩ := id hL
  have hA := RecAt.new w k b o (.slice aa la.length ca) m
  have B0 : Below w.heap.size w (w.alloc (.cells #[.int .i64 k, .int .i64 b, .int .i64 o, .slice aa la.length ca, .int .i64 m] 24)) := (Below.refl _ w).alloc (Nat.le_refl _) _
  have ha0 := ha.alloc (.cells #[.int .i64 k, .int .i64 b, .int .i64 o, .slice aa la.length ca, .int .i64 m] 24)
  have hl0 := hL.alloc (.cells #[.int .i64 k, .int .i64 b, .int .i64 o, .slice aa la.length ca, .int .i64 m] 24)
  go_enter Try.func5, Try.ntmps5
  go_wp2_with fail
  refine (begun_any _).mono ?_
  rintro r w1 ⟨rfl, hb1⟩
  have hA1 := hA.mono hb1
  have B1 := B0.trans (hb1.mono B0.size)
  have ha1 := ha0.mono hb1
  have hl1 := hl0.mono hb1
  clear hb1 hA B0 ha0 hl0 ha hL
  obtain ⟨c0, c1, c2, c3, c4, -, -, -, -, -, -⟩ := id hA1
  go_wp2_with fail
  refine (c9 _ _ ha1).mono ?_
  rintro r w2 ⟨v2, rfl, ho2, hb2⟩
  have hs2 := Bs.of_owns ho2 hM
  obtain ⟨a2, p2, rfl, -, -⟩ := owns_form ho2
  have hA2 := hA1.mono hb2
  have B2 := B1.trans (hb2.mono B1.size)
  have ha2 := ha1.mono hb2
  have hl2' := hl1.mono hb2
  clear ho2 hb2 hA1 B1 ha1 hl1 c0 c1 c2 c3 c4 c9
  go_wp2_with fail
  refine (c18 _ _ hs2).mono ?_
  rintro r w3 ⟨v3, rfl, ho3, hb3⟩
  have hs3 := Bs.of_owns ho3 hlax
  obtain ⟨a3, p3, rfl, -, -⟩ := owns_form ho3
  have hT3 := RecAt.new w3 k b o (.slice a3 la.length p3) m
  have hD3 := hs3.alloc (.cells #[.int .i64 k, .int .i64 b, .int .i64 o, .slice a3 la.length p3, .int .i64 m] 24)
  have hA3 := (hA2.mono hb3).alloc (.cells #[.int .i64 k, .int .i64 b, .int .i64 o, .slice a3 la.length p3, .int .i64 m] 24)
  have B3 := (B2.trans (hb3.mono B2.size)).alloc (B2.trans (hb3.mono B2.size)).size (.cells #[.int .i64 k, .int .i64 b, .int .i64 o, .slice a3 la.length p3, .int .i64 m] 24)
  have ha3 := (ha2.mono hb3).alloc (.cells #[.int .i64 k, .int .i64 b, .int .i64 o, .slice a3 la.length p3, .int .i64 m] 24)
  have hl3 := (hl2'.mono hb3).alloc (.cells #[.int .i64 k, .int .i64 b, .int .i64 o, .slice a3 la.length p3, .int .i64 m] 24)
  have hM3 := (hs2.mono hb3).alloc (.cells #[.int .i64 k, .int .i64 b, .int .i64 o, .slice a3 la.length p3, .int .i64 m] 24)
  clear ho3 hb3 hA2 B2 ha2 hl2' hs2 hs3 c18
  go_wp2_with fail
  refine (c20M _ _ hM3).mono ?_
  rintro r w4 ⟨rfl, hb4⟩
  have hT4 := hT3.mono hb4
  have hD4 := hD3.mono hb4
  have hA4 := hA3.mono hb4
  have B4 := B3.trans (hb4.mono B3.size)
  have ha4 := ha3.mono hb4
  have hl4 := hl3.mono hb4
  have hM4 := hM3.mono hb4
  clear hb4 hT3 hD3 hA3 B3 ha3 hl3 hM3 c20M
  obtain ⟨c0, c1, c2, c3, c4, -, -, -, -, -, -⟩ := id hA4
  obtain ⟨d0, d1, d2, d3, d4, -, -, -, -, -, -⟩ := id hT4
  go_wp2_with fail
  refine (same_any k b o m k b o m _ _ la la _ hD4 ha4).mono ?_
  rintro r w5 ⟨rfl, hb5⟩
  rw [show sameB k b o m la k b o m la = true from decide_eq_true ⟨rfl, rfl, rfl, rfl, rfl⟩]
  have B5 := B4.trans (hb5.mono B4.size)
  have hl5 := hl4.mono hb5
  have hM5 := hM4.mono hb5
  clear hb5 hT4 hD4 hA4 B4 ha4 hl4 hM4 c0 c1 c2 c3 c4 d0 d1 d2 d3 d4
  rw [HM.out] at hM5 ⊢
  go_wp2_with fail
  refine (c18q _ _ hM5).mono ?_
  rintro r w6 ⟨v6, rfl, ho6, hb6⟩
  obtain ⟨a6, p6, rfl, -, -⟩ := owns_form ho6
  have B6 := (B5.trans (hb6.mono B5.size)).alloc (B5.trans (hb6.mono B5.size)).size (.cells #[.int .i64 k1, .int .i64 b1, .int .i64 o1, .slice a6 l1.length p6, .int .i64 m1] 24)
  have hl6 := (hl5.mono hb6).alloc (.cells #[.int .i64 k1, .int .i64 b1, .int .i64 o1, .slice a6 l1.length p6, .int .i64 m1] 24)
  clear ho6 hb6 B5 hl5 hM5 c18q
  go_wp2_with fail
  refine (c20 _ _ hl6).mono ?_
  rintro r w7 ⟨rfl, hb7⟩
  have B7 := B6.trans (hb7.mono B6.size)
  have hl7 := hl6.mono hb7
  clear hb7 B6 hl6 c20
  go_wp2_with fail
  go_ret
  exact ⟨rfl, B7⟩

set_option maxRecDepth 100000 in
set_option maxHeartbeats 1000000 in
theorem back_sz (p q k b o m : Int) (va vl : Value) (la L : List Nat) (w : World) (ha : Bs w va la) (hL : Bs w vl L) (ka : la.length ≤ 140737488355328) (kL : L.length ≤ 140737488355328) (h1 : la.length ≤ 5000) (h2 : L.length ≤ 5000) (M : List Nat) (er : Int) (hM : ∀ y ∈ M, y < 256)
    (c9 : ∀ v w, Bs w v la → Calls Try.prog 9 #[.int .i64 p, .agg #[.int .i64 k, .int .i64 b, .int .i64 o, v, .int .i64 m]] w (NewBsE w M er))
    (n en : Int) (c20 : ∀ v w, Bs w v L → Calls Try.prog 20 #[v] w fun e w' => e = .returned (.tuple #[.int .i64 n, .int .i64 en]) ∧ Below w.heap.size w w') (he : er = 0) (hlenM : M.length = 64)
    (c18 : ∀ v w, Bs w v M → Calls Try.prog 18 #[v, .int .i64 p] w (TakeE w k b o la m 0)) (c20M : ∀ v w, Bs w v M → Calls Try.prog 20 #[v] w fun e w' => e = .returned (.tuple #[.int .i64 p, .int .i64 0]) ∧ Below w.heap.size w w')
    (k1 b1 o1 m1 f : Int) (l1 : List Nat) (c18q : ∀ v w, Bs w v M → Calls Try.prog 18 #[v, .int .i64 q] w (TakeE w k1 b1 o1 l1 m1 f)) (hpq : (q != p) = false) (hen : en = 0) (k2 b2 o2 m2 : Int) (l2 : List Nat) (hl2 : ∀ y ∈ l2, y < 256) (c18L : ∀ v w, Bs w v L → Calls Try.prog 18 #[v, .int .i64 n] w (TakeE w k2 b2 o2 l2 m2 0))
    (hLx : ∀ y ∈ L, y < 256) (c9L : ∀ v w, Bs w v l2 → Calls Try.prog 9 #[.int .i64 n, .agg #[.int .i64 k2, .int .i64 b2, .int .i64 o2, v, .int .i64 m2]] w (NewBsE w L 0)) :
    Calls Try.prog 5 #[.int .i64 p, .int .i64 q, .agg #[.int .i64 k, .int .i64 b, .int .i64 o, va, .int .i64 m], vl] w fun r w' => r = .returned (.bool true) ∧ Below w.heap.size w w' := by
  subst he
  have HM := hide hlenM
  have hlax := ha.lt
  clear hlenM
  subst hen
  obtain ⟨aa, ca, rfl, -⟩ := id ha
  obtain ⟨ab, cb, rfl, -⟩ := id hL
  have hA := RecAt.new w k b o (.slice aa la.length ca) m
  have B0 : Below w.heap.size w (w.alloc (.cells #[.int .i64 k, .int .i64 b, .int .i64 o, .slice aa la.length ca, .int .i64 m] 24)) := (Below.refl _ w).alloc (Nat.le_refl _) _
  have ha0 := ha.alloc (.cells #[.int .i64 k, .int .i64 b, .int .i64 o, .slice aa la.length ca, .int .i64 m] 24)
  have hl0 := hL.alloc (.cells #[.int .i64 k, .int .i64 b, .int .i64 o, .slice aa la.length ca, .int .i64 m] 24)
  go_enter Try.func5, Try.ntmps5
  go_wp2_with fail
  refine (begun_any _).mono ?_
  rintro r w1 ⟨rfl, hb1⟩
  have hA1 := hA.mono hb1
  have B1 := B0.trans (hb1.mono B0.size)
  have ha1 := ha0.mono hb1
  have hl1 := hl0.mono hb1
  clear hb1 hA B0 ha0 hl0 ha hL
  obtain ⟨c0, c1, c2, c3, c4, -, -, -, -, -, -⟩ := id hA1
  go_wp2_with fail
  refine (c9 _ _ ha1).mono ?_
  rintro r w2 ⟨v2, rfl, ho2, hb2⟩
  have hs2 := Bs.of_owns ho2 hM
  obtain ⟨a2, p2, rfl, -, -⟩ := owns_form ho2
  have hA2 := hA1.mono hb2
  have B2 := B1.trans (hb2.mono B1.size)
  have ha2 := ha1.mono hb2
  have hl2' := hl1.mono hb2
  clear ho2 hb2 hA1 B1 ha1 hl1 c0 c1 c2 c3 c4 c9
  go_wp2_with fail
  refine (c18 _ _ hs2).mono ?_
  rintro r w3 ⟨v3, rfl, ho3, hb3⟩
  have hs3 := Bs.of_owns ho3 hlax
  obtain ⟨a3, p3, rfl, -, -⟩ := owns_form ho3
  have hT3 := RecAt.new w3 k b o (.slice a3 la.length p3) m
  have hD3 := hs3.alloc (.cells #[.int .i64 k, .int .i64 b, .int .i64 o, .slice a3 la.length p3, .int .i64 m] 24)
  have hA3 := (hA2.mono hb3).alloc (.cells #[.int .i64 k, .int .i64 b, .int .i64 o, .slice a3 la.length p3, .int .i64 m] 24)
  have B3 := (B2.trans (hb3.mono B2.size)).alloc (B2.trans (hb3.mono B2.size)).size (.cells #[.int .i64 k, .int .i64 b, .int .i64 o, .slice a3 la.length p3, .int .i64 m] 24)
  have ha3 := (ha2.mono hb3).alloc (.cells #[.int .i64 k, .int .i64 b, .int .i64 o, .slice a3 la.length p3, .int .i64 m] 24)
  have hl3 := (hl2'.mono hb3).alloc (.cells #[.int .i64 k, .int .i64 b, .int .i64 o, .slice a3 la.length p3, .int .i64 m] 24)
  have hM3 := (hs2.mono hb3).alloc (.cells #[.int .i64 k, .int .i64 b, .int .i64 o, .slice a3 la.length p3, .int .i64 m] 24)
  clear ho3 hb3 hA2 B2 ha2 hl2' hs2 hs3 c18
  go_wp2_with fail
  refine (c20M _ _ hM3).mono ?_
  rintro r w4 ⟨rfl, hb4⟩
  have hT4 := hT3.mono hb4
  have hD4 := hD3.mono hb4
  have hA4 := hA3.mono hb4
  have B4 := B3.trans (hb4.mono B3.size)
  have ha4 := ha3.mono hb4
  have hl4 := hl3.mono hb4
  have hM4 := hM3.mono hb4
  clear hb4 hT3 hD3 hA3 B3 ha3 hl3 hM3 c20M
  obtain ⟨c0, c1, c2, c3, c4, -, -, -, -, -, -⟩ := id hA4
  obtain ⟨d0, d1, d2, d3, d4, -, -, -, -, -, -⟩ := id hT4
  go_wp2_with fail
  refine (same_any k b o m k b o m _ _ la la _ hD4 ha4).mono ?_
  rintro r w5 ⟨rfl, hb5⟩
  rw [show sameB k b o m la k b o m la = true from decide_eq_true ⟨rfl, rfl, rfl, rfl, rfl⟩]
  have B5 := B4.trans (hb5.mono B4.size)
  have hl5 := hl4.mono hb5
  have hM5 := hM4.mono hb5
  clear hb5 hT4 hD4 hA4 B4 ha4 hl4 hM4 c0 c1 c2 c3 c4 d0 d1 d2 d3 d4
  rw [HM.out] at hM5 ⊢
  go_wp2_with fail
  refine (c18q _ _ hM5).mono ?_
  rintro r w6 ⟨v6, rfl, ho6, hb6⟩
  obtain ⟨a6, p6, rfl, -, -⟩ := owns_form ho6
  have B6 := (B5.trans (hb6.mono B5.size)).alloc (B5.trans (hb6.mono B5.size)).size (.cells #[.int .i64 k1, .int .i64 b1, .int .i64 o1, .slice a6 l1.length p6, .int .i64 m1] 24)
  have hl6 := (hl5.mono hb6).alloc (.cells #[.int .i64 k1, .int .i64 b1, .int .i64 o1, .slice a6 l1.length p6, .int .i64 m1] 24)
  clear ho6 hb6 B5 hl5 hM5 c18q
  go_wp2_with fail
  refine (c20 _ _ hl6).mono ?_
  rintro r w7 ⟨rfl, hb7⟩
  have B7 := B6.trans (hb7.mono B6.size)
  have hl7 := hl6.mono hb7
  clear hb7 B6 hl6 c20
  go_wp2_with fail
  refine (c18L _ _ hl7).mono ?_
  rintro r w8 ⟨v8, rfl, ho8, hb8⟩
  have hs8 := Bs.of_owns ho8 hl2
  obtain ⟨a8, p8, rfl, -, -⟩ := owns_form ho8
  have hT8 := RecAt.new w8 k2 b2 o2 (.slice a8 l2.length p8) m2
  have hD8 := hs8.alloc (.cells #[.int .i64 k2, .int .i64 b2, .int .i64 o2, .slice a8 l2.length p8, .int .i64 m2] 24)
  have B8 := (B7.trans (hb8.mono B7.size)).alloc (B7.trans (hb8.mono B7.size)).size (.cells #[.int .i64 k2, .int .i64 b2, .int .i64 o2, .slice a8 l2.length p8, .int .i64 m2] 24)
  have hl8 := (hl7.mono hb8).alloc (.cells #[.int .i64 k2, .int .i64 b2, .int .i64 o2, .slice a8 l2.length p8, .int .i64 m2] 24)
  clear ho8 hb8 B7 hl7 hs8 c18L
  obtain ⟨d0, d1, d2, d3, d4, -, -, -, -, -, -⟩ := id hT8
  go_wp2_with fail
  refine (c9L _ _ hD8).mono ?_
  rintro r w9 ⟨v9, rfl, ho9, hb9⟩
  have hs9 := Bs.of_owns ho9 hLx
  obtain ⟨a9, p9, rfl, -, -⟩ := owns_form ho9
  have B9 := B8.trans (hb9.mono B8.size)
  have hl9 := hl8.mono hb9
  clear ho9 hb9 B8 hl8 hD8 hT8 d0 d1 d2 d3 d4 c9L
  go_wp2_with fail
  refine (equal_any _ _ L L _ hs9 hl9).mono ?_
  rintro r w10 ⟨rfl, rfl⟩
  rw [show decide (L = L) = true from decide_eq_true rfl]
  go_wp2_with fail
  go_ret
  exact ⟨rfl, B9⟩

set_option maxRecDepth 100000 in
set_option maxHeartbeats 1000000 in
theorem back_dn (p q k b o m : Int) (va vl : Value) (la L : List Nat) (w : World) (ha : Bs w va la) (hL : Bs w vl L) (ka : la.length ≤ 140737488355328) (kL : L.length ≤ 140737488355328) (h1 : la.length ≤ 5000) (h2 : L.length ≤ 5000) (M : List Nat) (er : Int) (hM : ∀ y ∈ M, y < 256)
    (c9 : ∀ v w, Bs w v la → Calls Try.prog 9 #[.int .i64 p, .agg #[.int .i64 k, .int .i64 b, .int .i64 o, v, .int .i64 m]] w (NewBsE w M er))
    (n en : Int) (c20 : ∀ v w, Bs w v L → Calls Try.prog 20 #[v] w fun e w' => e = .returned (.tuple #[.int .i64 n, .int .i64 en]) ∧ Below w.heap.size w w') (he : er = 0) (hlenM : M.length = 64)
    (c18 : ∀ v w, Bs w v M → Calls Try.prog 18 #[v, .int .i64 p] w (TakeE w k b o la m 0)) (c20M : ∀ v w, Bs w v M → Calls Try.prog 20 #[v] w fun e w' => e = .returned (.tuple #[.int .i64 p, .int .i64 0]) ∧ Below w.heap.size w w')
    (k1 b1 o1 m1 f : Int) (l1 : List Nat) (c18q : ∀ v w, Bs w v M → Calls Try.prog 18 #[v, .int .i64 q] w (TakeE w k1 b1 o1 l1 m1 f)) (hpq : (q != p) = true) (hf : (f == 0) = false) (hen : (en != 0) = true) :
    Calls Try.prog 5 #[.int .i64 p, .int .i64 q, .agg #[.int .i64 k, .int .i64 b, .int .i64 o, va, .int .i64 m], vl] w fun r w' => r = .returned (.bool true) ∧ Below w.heap.size w w' := by
  subst he
  have HM := hide hlenM
  have hlax := ha.lt
  clear hlenM
  obtain ⟨aa, ca, rfl, -⟩ := id ha
  obtain ⟨ab, cb, rfl, -⟩ := id hL
  have hA := RecAt.new w k b o (.slice aa la.length ca) m
  have B0 : Below w.heap.size w (w.alloc (.cells #[.int .i64 k, .int .i64 b, .int .i64 o, .slice aa la.length ca, .int .i64 m] 24)) := (Below.refl _ w).alloc (Nat.le_refl _) _
  have ha0 := ha.alloc (.cells #[.int .i64 k, .int .i64 b, .int .i64 o, .slice aa la.length ca, .int .i64 m] 24)
  have hl0 := hL.alloc (.cells #[.int .i64 k, .int .i64 b, .int .i64 o, .slice aa la.length ca, .int .i64 m] 24)
  go_enter Try.func5, Try.ntmps5
  go_wp2_with fail
  refine (begun_any _).mono ?_
  rintro r w1 ⟨rfl, hb1⟩
  have hA1 := hA.mono hb1
  have B1 := B0.trans (hb1.mono B0.size)
  have ha1 := ha0.mono hb1
  have hl1 := hl0.mono hb1
  clear hb1 hA B0 ha0 hl0 ha hL
  obtain ⟨c0, c1, c2, c3, c4, -, -, -, -, -, -⟩ := id hA1
  go_wp2_with fail
  refine (c9 _ _ ha1).mono ?_
  rintro r w2 ⟨v2, rfl, ho2, hb2⟩
  have hs2 := Bs.of_owns ho2 hM
  obtain ⟨a2, p2, rfl, -, -⟩ := owns_form ho2
  have hA2 := hA1.mono hb2
  have B2 := B1.trans (hb2.mono B1.size)
  have ha2 := ha1.mono hb2
  have hl2' := hl1.mono hb2
  clear ho2 hb2 hA1 B1 ha1 hl1 c0 c1 c2 c3 c4 c9
  go_wp2_with fail
  refine (c18 _ _ hs2).mono ?_
  rintro r w3 ⟨v3, rfl, ho3, hb3⟩
  have hs3 := Bs.of_owns ho3 hlax
  obtain ⟨a3, p3, rfl, -, -⟩ := owns_form ho3
  have hT3 := RecAt.new w3 k b o (.slice a3 la.length p3) m
  have hD3 := hs3.alloc (.cells #[.int .i64 k, .int .i64 b, .int .i64 o, .slice a3 la.length p3, .int .i64 m] 24)
  have hA3 := (hA2.mono hb3).alloc (.cells #[.int .i64 k, .int .i64 b, .int .i64 o, .slice a3 la.length p3, .int .i64 m] 24)
  have B3 := (B2.trans (hb3.mono B2.size)).alloc (B2.trans (hb3.mono B2.size)).size (.cells #[.int .i64 k, .int .i64 b, .int .i64 o, .slice a3 la.length p3, .int .i64 m] 24)
  have ha3 := (ha2.mono hb3).alloc (.cells #[.int .i64 k, .int .i64 b, .int .i64 o, .slice a3 la.length p3, .int .i64 m] 24)
  have hl3 := (hl2'.mono hb3).alloc (.cells #[.int .i64 k, .int .i64 b, .int .i64 o, .slice a3 la.length p3, .int .i64 m] 24)
  have hM3 := (hs2.mono hb3).alloc (.cells #[.int .i64 k, .int .i64 b, .int .i64 o, .slice a3 la.length p3, .int .i64 m] 24)
  clear ho3 hb3 hA2 B2 ha2 hl2' hs2 hs3 c18
  go_wp2_with fail
  refine (c20M _ _ hM3).mono ?_
  rintro r w4 ⟨rfl, hb4⟩
  have hT4 := hT3.mono hb4
  have hD4 := hD3.mono hb4
  have hA4 := hA3.mono hb4
  have B4 := B3.trans (hb4.mono B3.size)
  have ha4 := ha3.mono hb4
  have hl4 := hl3.mono hb4
  have hM4 := hM3.mono hb4
  clear hb4 hT3 hD3 hA3 B3 ha3 hl3 hM3 c20M
  obtain ⟨c0, c1, c2, c3, c4, -, -, -, -, -, -⟩ := id hA4
  obtain ⟨d0, d1, d2, d3, d4, -, -, -, -, -, -⟩ := id hT4
  go_wp2_with fail
  refine (same_any k b o m k b o m _ _ la la _ hD4 ha4).mono ?_
  rintro r w5 ⟨rfl, hb5⟩
  rw [show sameB k b o m la k b o m la = true from decide_eq_true ⟨rfl, rfl, rfl, rfl, rfl⟩]
  have B5 := B4.trans (hb5.mono B4.size)
  have hl5 := hl4.mono hb5
  have hM5 := hM4.mono hb5
  clear hb5 hT4 hD4 hA4 B4 ha4 hl4 hM4 c0 c1 c2 c3 c4 d0 d1 d2 d3 d4
  rw [HM.out] at hM5 ⊢
  go_wp2_with fail
  refine (c18q _ _ hM5).mono ?_
  rintro r w6 ⟨v6, rfl, ho6, hb6⟩
  obtain ⟨a6, p6, rfl, -, -⟩ := owns_form ho6
  have B6 := (B5.trans (hb6.mono B5.size)).alloc (B5.trans (hb6.mono B5.size)).size (.cells #[.int .i64 k1, .int .i64 b1, .int .i64 o1, .slice a6 l1.length p6, .int .i64 m1] 24)
  have hl6 := (hl5.mono hb6).alloc (.cells #[.int .i64 k1, .int .i64 b1, .int .i64 o1, .slice a6 l1.length p6, .int .i64 m1] 24)
  clear ho6 hb6 B5 hl5 hM5 c18q
  go_wp2_with fail
  refine (c20 _ _ hl6).mono ?_
  rintro r w7 ⟨rfl, hb7⟩
  have B7 := B6.trans (hb7.mono B6.size)
  have hl7 := hl6.mono hb7
  clear hb7 B6 hl6 c20
  go_wp2_with fail
  go_ret
  exact ⟨rfl, B7⟩

set_option maxRecDepth 100000 in
set_option maxHeartbeats 1000000 in
theorem back_dz (p q k b o m : Int) (va vl : Value) (la L : List Nat) (w : World) (ha : Bs w va la) (hL : Bs w vl L) (ka : la.length ≤ 140737488355328) (kL : L.length ≤ 140737488355328) (h1 : la.length ≤ 5000) (h2 : L.length ≤ 5000) (M : List Nat) (er : Int) (hM : ∀ y ∈ M, y < 256)
    (c9 : ∀ v w, Bs w v la → Calls Try.prog 9 #[.int .i64 p, .agg #[.int .i64 k, .int .i64 b, .int .i64 o, v, .int .i64 m]] w (NewBsE w M er))
    (n en : Int) (c20 : ∀ v w, Bs w v L → Calls Try.prog 20 #[v] w fun e w' => e = .returned (.tuple #[.int .i64 n, .int .i64 en]) ∧ Below w.heap.size w w') (he : er = 0) (hlenM : M.length = 64)
    (c18 : ∀ v w, Bs w v M → Calls Try.prog 18 #[v, .int .i64 p] w (TakeE w k b o la m 0)) (c20M : ∀ v w, Bs w v M → Calls Try.prog 20 #[v] w fun e w' => e = .returned (.tuple #[.int .i64 p, .int .i64 0]) ∧ Below w.heap.size w w')
    (k1 b1 o1 m1 f : Int) (l1 : List Nat) (c18q : ∀ v w, Bs w v M → Calls Try.prog 18 #[v, .int .i64 q] w (TakeE w k1 b1 o1 l1 m1 f)) (hpq : (q != p) = true) (hf : (f == 0) = false) (hen : en = 0) (k2 b2 o2 m2 : Int) (l2 : List Nat) (hl2 : ∀ y ∈ l2, y < 256) (c18L : ∀ v w, Bs w v L → Calls Try.prog 18 #[v, .int .i64 n] w (TakeE w k2 b2 o2 l2 m2 0))
    (hLx : ∀ y ∈ L, y < 256) (c9L : ∀ v w, Bs w v l2 → Calls Try.prog 9 #[.int .i64 n, .agg #[.int .i64 k2, .int .i64 b2, .int .i64 o2, v, .int .i64 m2]] w (NewBsE w L 0)) :
    Calls Try.prog 5 #[.int .i64 p, .int .i64 q, .agg #[.int .i64 k, .int .i64 b, .int .i64 o, va, .int .i64 m], vl] w fun r w' => r = .returned (.bool true) ∧ Below w.heap.size w w' := by
  subst he
  have HM := hide hlenM
  have hlax := ha.lt
  clear hlenM
  subst hen
  obtain ⟨aa, ca, rfl, -⟩ := id ha
  obtain ⟨ab, cb, rfl, -⟩ := id hL
  have hA := RecAt.new w k b o (.slice aa la.length ca) m
  have B0 : Below w.heap.size w (w.alloc (.cells #[.int .i64 k, .int .i64 b, .int .i64 o, .slice aa la.length ca, .int .i64 m] 24)) := (Below.refl _ w).alloc (Nat.le_refl _) _
  have ha0 := ha.alloc (.cells #[.int .i64 k, .int .i64 b, .int .i64 o, .slice aa la.length ca, .int .i64 m] 24)
  have hl0 := hL.alloc (.cells #[.int .i64 k, .int .i64 b, .int .i64 o, .slice aa la.length ca, .int .i64 m] 24)
  go_enter Try.func5, Try.ntmps5
  go_wp2_with fail
  refine (begun_any _).mono ?_
  rintro r w1 ⟨rfl, hb1⟩
  have hA1 := hA.mono hb1
  have B1 := B0.trans (hb1.mono B0.size)
  have ha1 := ha0.mono hb1
  have hl1 := hl0.mono hb1
  clear hb1 hA B0 ha0 hl0 ha hL
  obtain ⟨c0, c1, c2, c3, c4, -, -, -, -, -, -⟩ := id hA1
  go_wp2_with fail
  refine (c9 _ _ ha1).mono ?_
  rintro r w2 ⟨v2, rfl, ho2, hb2⟩
  have hs2 := Bs.of_owns ho2 hM
  obtain ⟨a2, p2, rfl, -, -⟩ := owns_form ho2
  have hA2 := hA1.mono hb2
  have B2 := B1.trans (hb2.mono B1.size)
  have ha2 := ha1.mono hb2
  have hl2' := hl1.mono hb2
  clear ho2 hb2 hA1 B1 ha1 hl1 c0 c1 c2 c3 c4 c9
  go_wp2_with fail
  refine (c18 _ _ hs2).mono ?_
  rintro r w3 ⟨v3, rfl, ho3, hb3⟩
  have hs3 := Bs.of_owns ho3 hlax
  obtain ⟨a3, p3, rfl, -, -⟩ := owns_form ho3
  have hT3 := RecAt.new w3 k b o (.slice a3 la.length p3) m
  have hD3 := hs3.alloc (.cells #[.int .i64 k, .int .i64 b, .int .i64 o, .slice a3 la.length p3, .int .i64 m] 24)
  have hA3 := (hA2.mono hb3).alloc (.cells #[.int .i64 k, .int .i64 b, .int .i64 o, .slice a3 la.length p3, .int .i64 m] 24)
  have B3 := (B2.trans (hb3.mono B2.size)).alloc (B2.trans (hb3.mono B2.size)).size (.cells #[.int .i64 k, .int .i64 b, .int .i64 o, .slice a3 la.length p3, .int .i64 m] 24)
  have ha3 := (ha2.mono hb3).alloc (.cells #[.int .i64 k, .int .i64 b, .int .i64 o, .slice a3 la.length p3, .int .i64 m] 24)
  have hl3 := (hl2'.mono hb3).alloc (.cells #[.int .i64 k, .int .i64 b, .int .i64 o, .slice a3 la.length p3, .int .i64 m] 24)
  have hM3 := (hs2.mono hb3).alloc (.cells #[.int .i64 k, .int .i64 b, .int .i64 o, .slice a3 la.length p3, .int .i64 m] 24)
  clear ho3 hb3 hA2 B2 ha2 hl2' hs2 hs3 c18
  go_wp2_with fail
  refine (c20M _ _ hM3).mono ?_
  rintro r w4 ⟨rfl, hb4⟩
  have hT4 := hT3.mono hb4
  have hD4 := hD3.mono hb4
  have hA4 := hA3.mono hb4
  have B4 := B3.trans (hb4.mono B3.size)
  have ha4 := ha3.mono hb4
  have hl4 := hl3.mono hb4
  have hM4 := hM3.mono hb4
  clear hb4 hT3 hD3 hA3 B3 ha3 hl3 hM3 c20M
  obtain ⟨c0, c1, c2, c3, c4, -, -, -, -, -, -⟩ := id hA4
  obtain ⟨d0, d1, d2, d3, d4, -, -, -, -, -, -⟩ := id hT4
  go_wp2_with fail
  refine (same_any k b o m k b o m _ _ la la _ hD4 ha4).mono ?_
  rintro r w5 ⟨rfl, hb5⟩
  rw [show sameB k b o m la k b o m la = true from decide_eq_true ⟨rfl, rfl, rfl, rfl, rfl⟩]
  have B5 := B4.trans (hb5.mono B4.size)
  have hl5 := hl4.mono hb5
  have hM5 := hM4.mono hb5
  clear hb5 hT4 hD4 hA4 B4 ha4 hl4 hM4 c0 c1 c2 c3 c4 d0 d1 d2 d3 d4
  rw [HM.out] at hM5 ⊢
  go_wp2_with fail
  refine (c18q _ _ hM5).mono ?_
  rintro r w6 ⟨v6, rfl, ho6, hb6⟩
  obtain ⟨a6, p6, rfl, -, -⟩ := owns_form ho6
  have B6 := (B5.trans (hb6.mono B5.size)).alloc (B5.trans (hb6.mono B5.size)).size (.cells #[.int .i64 k1, .int .i64 b1, .int .i64 o1, .slice a6 l1.length p6, .int .i64 m1] 24)
  have hl6 := (hl5.mono hb6).alloc (.cells #[.int .i64 k1, .int .i64 b1, .int .i64 o1, .slice a6 l1.length p6, .int .i64 m1] 24)
  clear ho6 hb6 B5 hl5 hM5 c18q
  go_wp2_with fail
  refine (c20 _ _ hl6).mono ?_
  rintro r w7 ⟨rfl, hb7⟩
  have B7 := B6.trans (hb7.mono B6.size)
  have hl7 := hl6.mono hb7
  clear hb7 B6 hl6 c20
  go_wp2_with fail
  refine (c18L _ _ hl7).mono ?_
  rintro r w8 ⟨v8, rfl, ho8, hb8⟩
  have hs8 := Bs.of_owns ho8 hl2
  obtain ⟨a8, p8, rfl, -, -⟩ := owns_form ho8
  have hT8 := RecAt.new w8 k2 b2 o2 (.slice a8 l2.length p8) m2
  have hD8 := hs8.alloc (.cells #[.int .i64 k2, .int .i64 b2, .int .i64 o2, .slice a8 l2.length p8, .int .i64 m2] 24)
  have B8 := (B7.trans (hb8.mono B7.size)).alloc (B7.trans (hb8.mono B7.size)).size (.cells #[.int .i64 k2, .int .i64 b2, .int .i64 o2, .slice a8 l2.length p8, .int .i64 m2] 24)
  have hl8 := (hl7.mono hb8).alloc (.cells #[.int .i64 k2, .int .i64 b2, .int .i64 o2, .slice a8 l2.length p8, .int .i64 m2] 24)
  clear ho8 hb8 B7 hl7 hs8 c18L
  obtain ⟨d0, d1, d2, d3, d4, -, -, -, -, -, -⟩ := id hT8
  go_wp2_with fail
  refine (c9L _ _ hD8).mono ?_
  rintro r w9 ⟨v9, rfl, ho9, hb9⟩
  have hs9 := Bs.of_owns ho9 hLx
  obtain ⟨a9, p9, rfl, -, -⟩ := owns_form ho9
  have B9 := B8.trans (hb9.mono B8.size)
  have hl9 := hl8.mono hb9
  clear ho9 hb9 B8 hl8 hD8 hT8 d0 d1 d2 d3 d4 c9L
  go_wp2_with fail
  refine (equal_any _ _ L L _ hs9 hl9).mono ?_
  rintro r w10 ⟨rfl, rfl⟩
  rw [show decide (L = L) = true from decide_eq_true rfl]
  go_wp2_with fail
  go_ret
  exact ⟨rfl, B9⟩

end Go.Proofs.Ytcfmadgehpmboaa
