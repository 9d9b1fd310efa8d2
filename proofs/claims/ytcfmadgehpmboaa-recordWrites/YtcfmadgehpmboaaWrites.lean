/- RecordWrites: of any two records at any place, Check, Same, Clone and Bytes answer as the document says, and what was handed in stays as it was when their answers are written to (P6.1, P6.2, R3). -/
import Derived.Test.YtcfmadgehpmboaaLoop
import Derived.Deep.RegionHeld3
set_option linter.unusedSimpArgs false
set_option linter.unusedVariables false
namespace Go.Proofs.Ytcfmadgehpmboaa
open Go.RowKit Go.Attic Go.ChangeShapes Go.WideShapes Go.ChangeAt

/-- What stands while the answers are held against the document's. -/
structure Wt (w W : World) (ga gb gw gc : Nat) (k b o m k' b' o' m' : Int) (va vb vw vc vx vy : Value) (la lb M : List Nat) (zc zx : Nat) : Prop where
  ra : RecAt W ga k b o va m
  rb : RecAt W gb k' b' o' vb m'
  rx : RecAt W gw k b o vw m
  rc : RecAt W gc k b o vc m
  ba : Bs W va la
  bb : Bs W vb lb
  bw : Bs W vw la
  bc : Bs W vc la
  bx : Bs W vx M
  yy : Bs W vy M
  oc : W.ownsRow zc 5 1 vc la.length (cellsB la)
  ox : W.ownsRow zx 5 1 vx M.length (cellsB M)
  bel : Below w.heap.size w W
theorem Wt.mono {w W W' : World} {ga gb gw gc : Nat} {k b o m k' b' o' m' : Int} {va vb vw vc vx vy : Value} {la lb M : List Nat} {zc zx : Nat} (h : Wt w W ga gb gw gc k b o m k' b' o' m' va vb vw vc vx vy la lb M zc zx) (hb : Below W.heap.size W W') : Wt w W' ga gb gw gc k b o m k' b' o' m' va vb vw vc vx vy la lb M zc zx :=
  ⟨h.ra.mono hb, h.rb.mono hb, h.rx.mono hb, h.rc.mono hb, h.ba.mono hb, h.bb.mono hb, h.bw.mono hb, h.bc.mono hb, h.bx.mono hb, h.yy.mono hb, owns_below h.oc hb (Nat.le_refl _), owns_below h.ox hb (Nat.le_refl _), h.bel.trans (hb.mono h.bel.size)⟩
theorem Wt.drew {w W : World} {ga gb gw gc : Nat} {k b o m k' b' o' m' : Int} {va vb vw vc vx vy : Value} {la lb M : List Nat} {zc zx : Nat} (h : Wt w W ga gb gw gc k b o m k' b' o' m' va vb vw vc vx vy la lb M zc zx) : Wt w W.drew ga gb gw gc k b o m k' b' o' m' va vb vw vc vx vy la lb M zc zx := h.mono (Below.refl _ _).drew
theorem Wt.held {w W : World} {ga gb gw gc : Nat} {k b o m k' b' o' m' : Int} {va vb vw vc vx vy : Value} {la lb M : List Nat} {zc zx : Nat} (h : Wt w W ga gb gw gc k b o m k' b' o' m' va vb vw vc vx vy la lb M zc zx) :
    (W.cell? ⟨ga, 0, none⟩ = some (.int .i64 k) ∧ W.cell? ⟨ga, 1, none⟩ = some (.int .i64 b) ∧ W.cell? ⟨ga, 2, none⟩ = some (.int .i64 o) ∧ W.cell? ⟨ga, 3, none⟩ = some va ∧ W.cell? ⟨ga, 4, none⟩ = some (.int .i64 m)) ∧
    (W.cell? ⟨gb, 0, none⟩ = some (.int .i64 k') ∧ W.cell? ⟨gb, 1, none⟩ = some (.int .i64 b') ∧ W.cell? ⟨gb, 2, none⟩ = some (.int .i64 o') ∧ W.cell? ⟨gb, 3, none⟩ = some vb ∧ W.cell? ⟨gb, 4, none⟩ = some (.int .i64 m')) ∧
    (W.cell? ⟨gc, 0, none⟩ = some (.int .i64 k) ∧ W.cell? ⟨gc, 1, none⟩ = some (.int .i64 b) ∧ W.cell? ⟨gc, 2, none⟩ = some (.int .i64 o) ∧ W.cell? ⟨gc, 3, none⟩ = some vc ∧ W.cell? ⟨gc, 4, none⟩ = some (.int .i64 m)) := ⟨h.ra.held, h.rb.held, h.rc.held⟩

set_option maxRecDepth 100000 in
set_option maxHeartbeats 1000000 in
theorem writes_longA (p k b o m k' b' o' m' : Int) (va vb : Value) (la lb : List Nat) (w : World) (ha : Bs w va la) (hb : Bs w vb lb) (ka : la.length ≤ 140737488355328) (kb : lb.length ≤ 140737488355328) (h1 : 5000 < la.length) :
    Calls Try.prog 3 #[.int .i64 p, .agg #[.int .i64 k, .int .i64 b, .int .i64 o, va, .int .i64 m], .agg #[.int .i64 k', .int .i64 b', .int .i64 o', vb, .int .i64 m']] w fun r w' => r = .returned (.bool true) ∧ Below w.heap.size w w' := by
  obtain ⟨aa, ca, rfl, -⟩ := id ha
  obtain ⟨ab, cb, rfl, -⟩ := id hb
  have hA := (RecAt.new w k b o (.slice aa la.length ca) m).alloc (.cells #[.int .i64 k', .int .i64 b', .int .i64 o', .slice ab lb.length cb, .int .i64 m'] 24)
  have hB := RecAt.new1 w (.cells #[.int .i64 k, .int .i64 b, .int .i64 o, .slice aa la.length ca, .int .i64 m] 24) k' b' o' (.slice ab lb.length cb) m'
  have B0 : Below w.heap.size w ((w.alloc (.cells #[.int .i64 k, .int .i64 b, .int .i64 o, .slice aa la.length ca, .int .i64 m] 24)).alloc (.cells #[.int .i64 k', .int .i64 b', .int .i64 o', .slice ab lb.length cb, .int .i64 m'] 24)) := ((Below.refl _ w).alloc (Nat.le_refl _) _).alloc (by simp) _
  have ha0 := (ha.alloc (.cells #[.int .i64 k, .int .i64 b, .int .i64 o, .slice aa la.length ca, .int .i64 m] 24)).alloc (.cells #[.int .i64 k', .int .i64 b', .int .i64 o', .slice ab lb.length cb, .int .i64 m'] 24)
  have hb0 := (hb.alloc (.cells #[.int .i64 k, .int .i64 b, .int .i64 o, .slice aa la.length ca, .int .i64 m] 24)).alloc (.cells #[.int .i64 k', .int .i64 b', .int .i64 o', .slice ab lb.length cb, .int .i64 m'] 24)
  have z0 : w.heap.size + 2 ≤ ((w.alloc (.cells #[.int .i64 k, .int .i64 b, .int .i64 o, .slice aa la.length ca, .int .i64 m] 24)).alloc (.cells #[.int .i64 k', .int .i64 b', .int .i64 o', .slice ab lb.length cb, .int .i64 m'] 24)).heap.size := by simp
  go_enter Try.func3, Try.ntmps3
  go_wp2_with fail
  refine (begun_any _).mono ?_
  rintro r w1 ⟨rfl, hb1⟩
  have hA1 := hA.mono hb1
  have hB1 := hB.mono hb1
  have B1 := B0.trans (hb1.mono B0.size)
  have ha1 := ha0.mono hb1
  have hb1' := hb0.mono hb1
  have z1 := Nat.le_trans z0 hb1.size
  have HA0 := hide ha
  clear hb1 hA hB B0 ha0 hb0 ha hb z0
  obtain ⟨c0, c1, c2, c3, c4, -, -, -, -, -, -⟩ := id hA1
  obtain ⟨d0, d1, d2, d3, d4, -, -, -, -, -, -⟩ := id hB1
  go_wp2_with fail
  refine (begun_any _).mono ?_
  rintro r w2 ⟨rfl, hb2⟩
  go_wp2_with fail
  go_ret
  exact ⟨rfl, B1.trans (hb2.mono B1.size)⟩

set_option maxRecDepth 100000 in
set_option maxHeartbeats 1000000 in
theorem writes_longB (p k b o m k' b' o' m' : Int) (va vb : Value) (la lb : List Nat) (w : World) (ha : Bs w va la) (hb : Bs w vb lb) (ka : la.length ≤ 140737488355328) (kb : lb.length ≤ 140737488355328) (h1 : la.length ≤ 5000) (h2 : 5000 < lb.length) :
    Calls Try.prog 3 #[.int .i64 p, .agg #[.int .i64 k, .int .i64 b, .int .i64 o, va, .int .i64 m], .agg #[.int .i64 k', .int .i64 b', .int .i64 o', vb, .int .i64 m']] w fun r w' => r = .returned (.bool true) ∧ Below w.heap.size w w' := by
  obtain ⟨aa, ca, rfl, -⟩ := id ha
  obtain ⟨ab, cb, rfl, -⟩ := id hb
  have hA := (RecAt.new w k b o (.slice aa la.length ca) m).alloc (.cells #[.int .i64 k', .int .i64 b', .int .i64 o', .slice ab lb.length cb, .int .i64 m'] 24)
  have hB := RecAt.new1 w (.cells #[.int .i64 k, .int .i64 b, .int .i64 o, .slice aa la.length ca, .int .i64 m] 24) k' b' o' (.slice ab lb.length cb) m'
  have B0 : Below w.heap.size w ((w.alloc (.cells #[.int .i64 k, .int .i64 b, .int .i64 o, .slice aa la.length ca, .int .i64 m] 24)).alloc (.cells #[.int .i64 k', .int .i64 b', .int .i64 o', .slice ab lb.length cb, .int .i64 m'] 24)) := ((Below.refl _ w).alloc (Nat.le_refl _) _).alloc (by simp) _
  have ha0 := (ha.alloc (.cells #[.int .i64 k, .int .i64 b, .int .i64 o, .slice aa la.length ca, .int .i64 m] 24)).alloc (.cells #[.int .i64 k', .int .i64 b', .int .i64 o', .slice ab lb.length cb, .int .i64 m'] 24)
  have hb0 := (hb.alloc (.cells #[.int .i64 k, .int .i64 b, .int .i64 o, .slice aa la.length ca, .int .i64 m] 24)).alloc (.cells #[.int .i64 k', .int .i64 b', .int .i64 o', .slice ab lb.length cb, .int .i64 m'] 24)
  have z0 : w.heap.size + 2 ≤ ((w.alloc (.cells #[.int .i64 k, .int .i64 b, .int .i64 o, .slice aa la.length ca, .int .i64 m] 24)).alloc (.cells #[.int .i64 k', .int .i64 b', .int .i64 o', .slice ab lb.length cb, .int .i64 m'] 24)).heap.size := by simp
  go_enter Try.func3, Try.ntmps3
  go_wp2_with fail
  refine (begun_any _).mono ?_
  rintro r w1 ⟨rfl, hb1⟩
  have hA1 := hA.mono hb1
  have hB1 := hB.mono hb1
  have B1 := B0.trans (hb1.mono B0.size)
  have ha1 := ha0.mono hb1
  have hb1' := hb0.mono hb1
  have z1 := Nat.le_trans z0 hb1.size
  have HA0 := hide ha
  clear hb1 hA hB B0 ha0 hb0 ha hb z0
  obtain ⟨c0, c1, c2, c3, c4, -, -, -, -, -, -⟩ := id hA1
  obtain ⟨d0, d1, d2, d3, d4, -, -, -, -, -, -⟩ := id hB1
  go_wp2_with fail
  refine (begun_any _).mono ?_
  rintro r w2 ⟨rfl, hb2⟩
  go_wp2_with fail
  go_ret
  exact ⟨rfl, B1.trans (hb2.mono B1.size)⟩

set_option maxRecDepth 100000 in
set_option maxHeartbeats 1000000 in
theorem writes_walk (p k b o m k' b' o' m' : Int) (va vb : Value) (la lb : List Nat) (w : World) (ha : Bs w va la) (hb : Bs w vb lb) (ka : la.length ≤ 140737488355328) (kb : lb.length ≤ 140737488355328) (h1 : la.length ≤ 5000) (h2 : lb.length ≤ 5000) (M : List Nat) (er : Int) (hM : ∀ y ∈ M, y < 256) (hM64 : M.length ≤ 64)
    (c9 : ∀ v w, Bs w v la → Calls Try.prog 9 #[.int .i64 p, .agg #[.int .i64 k, .int .i64 b, .int .i64 o, v, .int .i64 m]] w (NewBsE w M er)) (c10 : ∀ v w, Bs w v la → Calls Try.prog 10 #[.int .i64 p, .agg #[.int .i64 k, .int .i64 b, .int .i64 o, v, .int .i64 m]] w (NewBsE w M er)) :
    Calls Try.prog 3 #[.int .i64 p, .agg #[.int .i64 k, .int .i64 b, .int .i64 o, va, .int .i64 m], .agg #[.int .i64 k', .int .i64 b', .int .i64 o', vb, .int .i64 m']] w fun r w' => r = .returned (.bool true) ∧ Below w.heap.size w w' := by
  obtain ⟨aa, ca, rfl, -⟩ := id ha
  obtain ⟨ab, cb, rfl, -⟩ := id hb
  have hA := (RecAt.new w k b o (.slice aa la.length ca) m).alloc (.cells #[.int .i64 k', .int .i64 b', .int .i64 o', .slice ab lb.length cb, .int .i64 m'] 24)
  have hB := RecAt.new1 w (.cells #[.int .i64 k, .int .i64 b, .int .i64 o, .slice aa la.length ca, .int .i64 m] 24) k' b' o' (.slice ab lb.length cb) m'
  have B0 : Below w.heap.size w ((w.alloc (.cells #[.int .i64 k, .int .i64 b, .int .i64 o, .slice aa la.length ca, .int .i64 m] 24)).alloc (.cells #[.int .i64 k', .int .i64 b', .int .i64 o', .slice ab lb.length cb, .int .i64 m'] 24)) := ((Below.refl _ w).alloc (Nat.le_refl _) _).alloc (by simp) _
  have ha0 := (ha.alloc (.cells #[.int .i64 k, .int .i64 b, .int .i64 o, .slice aa la.length ca, .int .i64 m] 24)).alloc (.cells #[.int .i64 k', .int .i64 b', .int .i64 o', .slice ab lb.length cb, .int .i64 m'] 24)
  have hb0 := (hb.alloc (.cells #[.int .i64 k, .int .i64 b, .int .i64 o, .slice aa la.length ca, .int .i64 m] 24)).alloc (.cells #[.int .i64 k', .int .i64 b', .int .i64 o', .slice ab lb.length cb, .int .i64 m'] 24)
  have z0 : w.heap.size + 2 ≤ ((w.alloc (.cells #[.int .i64 k, .int .i64 b, .int .i64 o, .slice aa la.length ca, .int .i64 m] 24)).alloc (.cells #[.int .i64 k', .int .i64 b', .int .i64 o', .slice ab lb.length cb, .int .i64 m'] 24)).heap.size := by simp
  go_enter Try.func3, Try.ntmps3
  go_wp2_with fail
  refine (begun_any _).mono ?_
  rintro r w1 ⟨rfl, hb1⟩
  have hA1 := hA.mono hb1
  have hB1 := hB.mono hb1
  have B1 := B0.trans (hb1.mono B0.size)
  have ha1 := ha0.mono hb1
  have hb1' := hb0.mono hb1
  have z1 := Nat.le_trans z0 hb1.size
  have HA0 := hide ha
  clear hb1 hA hB B0 ha0 hb0 ha hb z0
  obtain ⟨c0, c1, c2, c3, c4, -, -, -, -, -, -⟩ := id hA1
  obtain ⟨d0, d1, d2, d3, d4, -, -, -, -, -, -⟩ := id hB1
  have hlax := HA0.out.lt
  go_wp2_with fail
  refine (rclone_rec k b o m _ la _ ha1 ka).mono ?_
  rintro r w2 ⟨v2, rfl, ho2, hb2⟩
  have hs2 := Bs.of_owns ho2 hlax
  obtain ⟨a2, p2, rfl, -, -⟩ := owns_form ho2
  have Hs2 := hide hs2
  have hW2 := RecAt.new w2 k b o (.slice a2 la.length p2) m
  have hE2 := hs2.alloc (.cells #[.int .i64 k, .int .i64 b, .int .i64 o, .slice a2 la.length p2, .int .i64 m] 24)
  have hA2 := (hA1.mono hb2).alloc (.cells #[.int .i64 k, .int .i64 b, .int .i64 o, .slice a2 la.length p2, .int .i64 m] 24)
  have hB2 := (hB1.mono hb2).alloc (.cells #[.int .i64 k, .int .i64 b, .int .i64 o, .slice a2 la.length p2, .int .i64 m] 24)
  have B2 := (B1.trans (hb2.mono B1.size)).alloc (B1.trans (hb2.mono B1.size)).size (.cells #[.int .i64 k, .int .i64 b, .int .i64 o, .slice a2 la.length p2, .int .i64 m] 24)
  have ha2 := (ha1.mono hb2).alloc (.cells #[.int .i64 k, .int .i64 b, .int .i64 o, .slice a2 la.length p2, .int .i64 m] 24)
  have hb2' := (hb1'.mono hb2).alloc (.cells #[.int .i64 k, .int .i64 b, .int .i64 o, .slice a2 la.length p2, .int .i64 m] 24)
  have z2 := Nat.le_trans z1 hb2.size
  have y2 : w2.heap.size + 1 ≤ (w2.alloc (.cells #[.int .i64 k, .int .i64 b, .int .i64 o, .slice a2 la.length p2, .int .i64 m] 24)).heap.size := by simp
  clear ho2 hs2 hb2 hA1 hB1 B1 ha1 hb1' c0 c1 c2 c3 c4 d0 d1 d2 d3 d4
  obtain ⟨c0, c1, c2, c3, c4, -, -, -, -, -, -⟩ := id hA2
  go_wp2_with fail
  refine (c9 _ _ ha2).mono ?_
  rintro r w3 ⟨v3, rfl, ho3, hb3⟩
  have hs3 := Bs.of_owns ho3 hM
  have hx3 := owns_lt ho3
  have hx3' := owns_lt' ho3
  obtain ⟨a3, p3, rfl, -, hg3⟩ := owns_form ho3
  have hW3 := hW2.mono hb3
  have hE3 := hE2.mono hb3
  have hA3 := hA2.mono hb3
  have hB3 := hB2.mono hb3
  have B3 := B2.trans (hb3.mono B2.size)
  have ha3 := ha2.mono hb3
  have hb3' := hb2'.mono hb3
  have z3 := hb3.size
  clear hb3 hA2 hB2 B2 ha2 hb2' hW2 hE2 c9 c0 c1 c2 c3 c4
  obtain ⟨c0, c1, c2, c3, c4, -, -, -, -, -, -⟩ := id hA3
  go_wp2_with fail
  refine (c10 _ _ ha3).mono ?_
  rintro r w4 ⟨v4, rfl, ho4, hb4⟩
  have hs4 := Bs.of_owns ho4 hM
  obtain ⟨a4, p4, rfl, -, -⟩ := owns_form ho4
  have hW4 := hW3.mono hb4
  have hE4 := hE3.mono hb4
  have hA4 := hA3.mono hb4
  have hB4 := hB3.mono hb4
  have B4 := B3.trans (hb4.mono B3.size)
  have ha4 := ha3.mono hb4
  have hb4' := hb3'.mono hb4
  have hX4 := hs3.mono hb4
  have hOx4 := owns_below ho3 hb4 (Nat.le_refl _)
  have z4 := hb4.size
  clear hb4 ho3 ho4 hs3 hA3 hB3 B3 ha3 hb3' hW3 hE3 c10 c0 c1 c2 c3 c4
  obtain ⟨c0, c1, c2, c3, c4, -, -, -, -, -, -⟩ := id hA4
  go_wp2_with fail
  refine (clone_rec k b o m _ la _ ha4 ka).mono ?_
  rintro r w5 ⟨v5, rfl, ho5, hb5⟩
  have hs5 := Bs.of_owns ho5 hlax
  have hx5 := owns_lt ho5
  have hx5' := owns_lt' ho5
  obtain ⟨a5, p5, rfl, -, hg5⟩ := owns_form ho5
  have z5 := hb5.size
  have hV := hs4.mono hb5
  have hWt : Wt w (w5.alloc (.cells #[.int .i64 k, .int .i64 b, .int .i64 o, .slice a5 la.length p5, .int .i64 m] 24)) w.heap.size (w.heap.size + 1) w2.heap.size w5.heap.size k b o m k' b' o' m' (.slice aa la.length ca) (.slice ab lb.length cb) (.slice a2 la.length p2) (.slice a5 la.length p5) (.slice a3 M.length p3) (.slice a4 M.length p4) la lb M w4.heap.size (w2.alloc (.cells #[.int .i64 k, .int .i64 b, .int .i64 o, .slice a2 la.length p2, .int .i64 m] 24)).heap.size :=
    ⟨(hA4.mono hb5).alloc _, (hB4.mono hb5).alloc _, (hW4.mono hb5).alloc _, RecAt.new _ _ _ _ _ _, (ha4.mono hb5).alloc _, (hb4'.mono hb5).alloc _, (hE4.mono hb5).alloc _, hs5.alloc _, (hX4.mono hb5).alloc _, hV.alloc _, ho5.alloc _, (owns_below hOx4 hb5 (Nat.le_refl _)).alloc _, (B4.trans (hb5.mono B4.size)).alloc (B4.trans (hb5.mono B4.size)).size _⟩
  clear hb5 ho5 hs5 hs4 hA4 hB4 B4 ha4 hb4' hW4 hE4 hX4 hOx4 hV c0 c1 c2 c3 c4
  go_wp2_with fail
  have zX : w2.heap.size + 1 ≤ (w2.alloc (.cells #[.int .i64 k, .int .i64 b, .int .i64 o, .slice a2 la.length p2, .int .i64 m] 24)).heap.size := y2
  generalize hzx : (w2.alloc (.cells #[.int .i64 k, .int .i64 b, .int .i64 o, .slice a2 la.length p2, .int .i64 m] 24)).heap.size = zx at *
  generalize w5.alloc (.cells #[.int .i64 k, .int .i64 b, .int .i64 o, .slice a5 la.length p5, .int .i64 m] 24) = W at *
  have e1 : (er != er) = false := by simp
  have kc := fun w => check_any k b o m la.length ca aa w ka
  have kr := fun w => rcheck_any k b o m la.length ca aa w ka
  generalize chkR k b o m la.length = ch at kc kr
  have e2 : (ch != ch) = false := by simp
  have ks := fun w h h' => same_any k b o m k' b' o' m' (.slice aa la.length ca) (.slice ab lb.length cb) la lb w h h'
  have kt := fun w h h' => rsame_any k b o m k' b' o' m' (.slice aa la.length ca) (.slice ab lb.length cb) la lb w h h'
  generalize sameB k b o m la k' b' o' m' lb = sb at ks kt
  have e3 : (sb != sb) = false := by simp
  have ku := fun w h h' => same_any k b o m k b o m (.slice aa la.length ca) (.slice aa la.length ca) la la w h h'
  have kv := fun w h h' => rsame_any k b o m k b o m (.slice a5 la.length p5) (.slice aa la.length ca) la la w h h'
  rw [show sameB k b o m la k b o m la = true from decide_eq_true ⟨rfl, rfl, rfl, rfl, rfl⟩] at ku kv
  have kq := fun w h h' => equal_any (.slice a3 M.length p3) (.slice a4 M.length p4) M M w h h'
  rw [show decide (M = M) = true from decide_eq_true rfl] at kq
  have hWd := hWt.drew
  clear hWt
  go_region_held3 (fun w' => (w'.cell? ⟨w.heap.size, 0, none⟩ = some (.int .i64 k) ∧ w'.cell? ⟨w.heap.size, 1, none⟩ = some (.int .i64 b) ∧ w'.cell? ⟨w.heap.size, 2, none⟩ = some (.int .i64 o) ∧ w'.cell? ⟨w.heap.size, 3, none⟩ = some (.slice aa la.length ca) ∧ w'.cell? ⟨w.heap.size, 4, none⟩ = some (.int .i64 m)) ∧ (w'.cell? ⟨w.heap.size + 1, 0, none⟩ = some (.int .i64 k') ∧ w'.cell? ⟨w.heap.size + 1, 1, none⟩ = some (.int .i64 b') ∧ w'.cell? ⟨w.heap.size + 1, 2, none⟩ = some (.int .i64 o') ∧ w'.cell? ⟨w.heap.size + 1, 3, none⟩ = some (.slice ab lb.length cb) ∧ w'.cell? ⟨w.heap.size + 1, 4, none⟩ = some (.int .i64 m')) ∧ (w'.cell? ⟨w5.heap.size, 0, none⟩ = some (.int .i64 k) ∧ w'.cell? ⟨w5.heap.size, 1, none⟩ = some (.int .i64 b) ∧ w'.cell? ⟨w5.heap.size, 2, none⟩ = some (.int .i64 o) ∧ w'.cell? ⟨w5.heap.size, 3, none⟩ = some (.slice a5 la.length p5) ∧ w'.cell? ⟨w5.heap.size, 4, none⟩ = some (.int .i64 m)))
    (exact Wt.held (by assumption))
    (first
    | (go_at_call 12; refine (kq _ (Wt.bx (by assumption)) (Wt.yy (by assumption))).mono ?_; rintro r x1 ⟨rfl, rfl⟩)
    | (go_at_call 13; refine (kc _).mono ?_; rintro r x1 ⟨rfl, hy⟩; have hWn := Wt.mono (by assumption) hy; clear hy)
    | (go_at_call 14; refine (kr _).mono ?_; rintro r x1 ⟨rfl, hy⟩; have hWn := Wt.mono (by assumption) hy; clear hy)
    | (go_at_call 15; refine (ks _ (Wt.ba (by assumption)) (Wt.bb (by assumption))).mono ?_; rintro r x1 ⟨rfl, hy⟩; have hWn := Wt.mono (by assumption) hy; clear hy; clear ks)
    | (go_at_call 16; refine (kt _ (Wt.ba (by assumption)) (Wt.bb (by assumption))).mono ?_; rintro r x1 ⟨rfl, hy⟩; have hWn := Wt.mono (by assumption) hy; clear hy; clear kt)
    | (go_at_call 15; refine (ku _ (Wt.ba (by assumption)) (Wt.ba (by assumption))).mono ?_; rintro r x1 ⟨rfl, hy⟩; have hWn := Wt.mono (by assumption) hy; clear hy)
    | (go_at_call 16; refine (kv _ (Wt.bc (by assumption)) (Wt.ba (by assumption))).mono ?_; rintro r x1 ⟨rfl, hy⟩; have hWn := Wt.mono (by assumption) hy; clear hy))
  have g3 := hWn.rc.c3
  clear kc kr ku kv kq hWd
  go_wp2_with fail
  clear g3
  have HA0' := HA0
  have D5 : decide ((5000 : Int) < (la.length : Int)) = false := by simp; omega
  have D6 : decide ((5000 : Int) < (lb.length : Int)) = false := by simp; omega
  simp only [D5, D6]
  have hX : x1.ownsRow w4.heap.size 5 1 (.slice a5 la.length p5) la.length (cellsB la) ∧ U8s (cellsB la) := ⟨hWn.oc, U8s.of_cells la⟩
  have HW := hide hWn
  clear hWn D5 D6
  go_loopw [86] (fun i wr => ∃ (j : Nat) (xs : List Value), j ≤ la.length ∧ i = .int .i64 j ∧ wr.ownsRow w4.heap.size 5 1 (.slice a5 la.length p5) la.length xs ∧ U8s xs ∧ Keeps (fun x => (Value.slice a5 la.length p5).ownBlock = some x) x1 wr) (fun i _ => la.length - (intOf i).toNat)
  case atStart => exact ⟨0, cellsB la, Nat.zero_le _, rfl, hX.1, hX.2, Keeps.refl _ _⟩
  case round =>
    clear hX
    obtain ⟨j, xs, hj, rfl, ho, hu, hk⟩ := hrel
    by_cases hjl : j < la.length
    · have hT := HW.out.rc.keeps hk (fun hs => by have h9 := hx5' _ hs; omega)
      obtain ⟨g, rfl, hg⟩ := hg5 (by omega)
      have hxl : xs.length = la.length := by have := ho.1; simpa using this
      obtain ⟨y, hy⟩ := hu j (by omega)
      have hc : wr.cell? ⟨g, j, none⟩ = some (.int .u8 y) := by rw [ho.cellAt j (by omega)]; exact hy
      have hf := ho.frozenAt j
      have Hst := hide (ho.stored j (.int .u8 (bits .xor .u8 y 255))).1
      have Hk := hide (hk.set (g := g) (o := j) rfl (.int .u8 (bits .xor .u8 y 255)))
      have Hu := hide (hu.set j (bits .xor .u8 y 255))
      have t3 := hT.c3
      clear ho hk hu hT hy hxl
      go_wp2_with fail
      go_roundw
      case rel => exact ⟨j + 1, _, by omega, by go_num, Hst.out, Hu.out, Hk.out⟩
      case measure => simp [intOf]; omega
    · obtain rfl : j = la.length := by omega
      have hX2 : wr.ownsRow zx 5 1 (.slice a3 M.length p3) M.length (cellsB M) ∧ U8s (cellsB M) := ⟨hk.owns HW.out.ox (fun x hx hs => by have h8 := hx3' x hx; have h9 := hx5 x hs; omega), U8s.of_cells M⟩
      have HK := hide hk
      clear ho hu hk
      go_wp2_with fail
      go_loopw [99] (fun i wr2 => ∃ (j : Nat) (xs : List Value), j ≤ M.length ∧ i = .int .i64 j ∧ wr2.ownsRow zx 5 1 (.slice a3 M.length p3) M.length xs ∧ U8s xs ∧ Keeps (fun x => (Value.slice a3 M.length p3).ownBlock = some x) wr wr2) (fun i _ => M.length - (intOf i).toNat)
      case atStart => exact ⟨0, cellsB M, Nat.zero_le _, rfl, hX2.1, hX2.2, Keeps.refl _ _⟩
      case round =>
        clear hX2
        obtain ⟨i, xs, hi, rfl, ho, hu, hk⟩ := hrel
        by_cases hil : i < M.length
        · obtain ⟨g, rfl, hg⟩ := hg3 (by omega)
          have hxl : xs.length = M.length := by have := ho.1; simpa using this
          obtain ⟨y, hy⟩ := hu i (by omega)
          have hc := (ho.cellAt i (by omega)).trans hy
          have hf := ho.frozenAt i
          have Hst := hide (ho.stored i (.int .u8 (bits .xor .u8 y 255))).1
          have Hk := hide (hk.set (g := g) (o := i) rfl (.int .u8 (bits .xor .u8 y 255)))
          have Hu := hide (hu.set i (bits .xor .u8 y 255))
          clear ho hk hu hy hxl
          go_wp2_with fail
          go_roundw
          case rel => exact ⟨i + 1, _, by omega, by go_num, Hst.out, Hu.out, Hk.out⟩
          case measure => simp [intOf]; omega
        · obtain rfl : i = M.length := by omega
          have q1 := (HW.out.ra.keeps HK.out (fun hs => by have h9 := hx5 _ hs; omega)).keeps hk (fun hs => by have h9 := hx3 _ hs; omega)
          have q2 := (HW.out.rx.keeps HK.out (fun hs => by have h9 := hx5 _ hs; omega)).keeps hk (fun hs => by have h9 := hx3 _ hs; omega)
          have q3 := Bs.kept HA0.out (Bs.kept HA0.out HW.out.ba HK.out (fun x hs => by have h9 := hx5 _ hs; omega)) hk (fun x hs => by have h9 := hx3 _ hs; omega)
          have q4 := Bs.kept Hs2.out (Bs.kept Hs2.out HW.out.bw HK.out (fun x hs => by have h9 := hx5 _ hs; omega)) hk (fun x hs => by have h9 := hx3 _ hs; omega)
          have B7 := HW.out.bel.trans (HK.out.below (B := w.heap.size) (fun x hs => by have h9 := hx5 _ hs; omega) HW.out.bel.size)
          have B8 := B7.trans (hk.below (B := w.heap.size) (fun x hs => by have h9 := hx3 _ hs; omega) B7.size)
          obtain ⟨c0, c1, c2, c3, c4, -, -, -, -, -, -⟩ := q1
          obtain ⟨d0, d1, d2, d3, d4, -, -, -, -, -, -⟩ := q2
          clear ho hu hk
          go_wp2_with fail
          refine (rsame_any k b o m k b o m _ _ la la _ q3 q4).mono ?_
          rintro r w8 ⟨rfl, hb8⟩
          rw [show sameB k b o m la k b o m la = true from decide_eq_true ⟨rfl, rfl, rfl, rfl, rfl⟩]
          go_wp2_with fail
          go_ret
          exact ⟨rfl, B8.trans (hb8.mono B8.size)⟩

theorem writes_any (p k b o m k' b' o' m' : Int) (va vb : Value) (la lb : List Nat) (w : World) (ha : Bs w va la) (hb : Bs w vb lb) (ka : la.length ≤ 140737488355328) (kb : lb.length ≤ 140737488355328) :
    Calls Try.prog 3 #[.int .i64 p, .agg #[.int .i64 k, .int .i64 b, .int .i64 o, va, .int .i64 m], .agg #[.int .i64 k', .int .i64 b', .int .i64 o', vb, .int .i64 m']] w fun r w' => r = .returned (.bool true) ∧ Below w.heap.size w w' := by
  by_cases h1 : la.length ≤ 5000
  · by_cases h2 : lb.length ≤ 5000
    · obtain ⟨M, er, hR, c9, c10⟩ := bytes_both p k b o m la ha.lt ka
      have hM64 : M.length ≤ 64 := by
        rcases hR with ⟨_, p', k', b', o', m', _, _, _, _, _, h⟩ | ⟨_, rfl⟩
        · have := h.len; omega
        · simp
      exact writes_walk p k b o m k' b' o' m' va vb la lb w ha hb ka kb h1 h2 M er hR.lt hM64 c9 c10
    · exact writes_longB _ _ _ _ _ _ _ _ _ va vb la lb w ha hb ka kb h1 (by omega)
  · exact writes_longA _ _ _ _ _ _ _ _ _ va vb la lb w ha hb ka kb (by omega)

theorem recordWrites_lifted (os : Os) (started : os.Started) (H : Type) (enc : TypeId × Value → H) :
    ReturnsInHanded {} Try.checked os 3 .any (Rows.recordWritesSpec.pre6 enc Try.prog Try.f3 Rows.recordWritesRow.domain false) (Rows.recordWritesSpec.post enc Try.prog Try.f3 false true false false) := by
  refine law_frame (C := Try.checked) rfl Try.own started (by kernel_rfl) Try.func3
    (ChangeSpec.witness6 (enc := enc) (C := Try.checked) false ⟨#[], #[.int .i64 0, .agg #[.int .i64 0, .int .i64 0, .int .i64 0, .slice none 0 0, .int .i64 0], .agg #[.int .i64 0, .int .i64 0, .int .i64 0, .slice none 0 0, .int .i64 0]], []⟩ 8 (by kernel_rfl) (by kernel_rfl) (by kernel_rfl) (by kernel_rfl))
    Try.laidOut ?_ 4 rfl Try.underlying4 ?_ ?_
  · rw [Try.params3]
    intro t ht
    simp at ht
    rcases ht with rfl | rfl <;> exact ⟨by kernel_rfl, of_decide_eq_true (by kernel_rfl)⟩
  · intro ds hn
    rw [Try.params3] at hn
    match ds, hn with
    | [d1, d2, d3], _ => rfl
  · intro W base args ds p hval0 hA hsz
    have hval : ∀ (j : Nat) t v, Try.f3.params[j]? = some t → args[j]? = some v → Value.okWide Try.prog W .any base t v := hval0
    rw [Try.params3] at hA hsz hval
    obtain ⟨v0, vs0, d0, ds0, p0, q0, hargs, rfl, rfl, h0, r0⟩ := trodAll_cons hA
    obtain ⟨v1, vs1, d1, ds1, p1, q1, rfl, rfl, rfl, h1, r1⟩ := trodAll_cons r0
    obtain ⟨v2, vs2, d2, ds2, p2, q2, rfl, rfl, rfl, h2, r2⟩ := trodAll_cons r1
    obtain ⟨rfl, rfl, rfl⟩ := trodAll_nil r2
    obtain rfl : args = #[v0, v1, v2] := by cases args; simp_all
    obtain ⟨a0, rfl, rfl, rfl, w0⟩ := open_int Try.underlying2 (hval 0 2 v0 rfl rfl) h0
    have hb0 := bounds_i64 w0
    obtain ⟨k1, b1, o1, m1, u1, l1, rfl, hbs1, hl1⟩ := cameR (hval 1 24 v1 rfl rfl) h1 hsz (j := 1) rfl rfl
    obtain ⟨k2, b2, o2, m2, u2, l2, rfl, hbs2, hl2⟩ := cameR (hval 2 24 v2 rfl rfl) h2 hsz (j := 2) rfl rfl
    exact writes_any a0 k1 b1 o1 m1 k2 b2 o2 m2 u1 u2 l1 l2 W hbs1 hbs2 hl1 hl2

theorem recordWrites_holds : Rows.RecordWritesSaid :=
  OpenClaim.holds_of_wide 3 Try.f3 rfl rfl rfl rfl rfl rfl rfl ⟨rfl, rfl, rfl, rfl, rfl⟩ rfl rfl rfl rfl rfl (by kernel_rfl) Try.func3 (by kernel_rfl)
    (of_decide_eq_true (by kernel_rfl)) (by unfold Func.isWrapper; first | (rw [if_pos (by decide +kernel)]; kernel_rfl) | (rw [if_neg (by decide +kernel)]; exact ⟨rfl, rfl⟩))
    (fun os started H enc _ => recordWrites_lifted os started H enc)
#print axioms recordWrites_holds
end Go.Proofs.Ytcfmadgehpmboaa
