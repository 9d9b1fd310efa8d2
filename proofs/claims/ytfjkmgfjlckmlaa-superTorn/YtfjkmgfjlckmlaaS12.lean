/- Contracts: the document's Choose, whatever its Parse answers. -/
import Derived.Test.YtfjkmgfjlckmlaaS11
set_option linter.unusedSimpArgs false
set_option linter.unusedVariables false
namespace Go.Proofs.Ytfjkmgfjlckmlaa
open Go.RowKit Go.Attic

set_option maxRecDepth 100000 in
set_option maxHeartbeats 1000000 in
theorem rchoose_EE (v u : Value) (L M : List Nat) (w : World) (hv : Bs w v L) (hu : Bs w u M) (q0 q1 q2 q3 q4 q5 ex r0 r1 r2 r3 r4 r5 ey : Int)
    (hp : ∀ w, Bs w v L → Calls Try.prog 20 #[v] w fun e w' => e = .returned (.tuple #[.agg #[.int .i64 q0, .int .i64 q1, .int .i64 q2, .int .i64 q3, .int .i64 q4, .int .i64 q5], .int .i64 ex]) ∧ Below w.heap.size w w')
    (hq : ∀ w, Bs w u M → Calls Try.prog 20 #[u] w fun e w' => e = .returned (.tuple #[.agg #[.int .i64 r0, .int .i64 r1, .int .i64 r2, .int .i64 r3, .int .i64 r4, .int .i64 r5], .int .i64 ey]) ∧ Below w.heap.size w w') (hx0 : (ex == 0) = false) (hy0 : (ey == 0) = false) :
    Calls Try.prog 24 #[v, u] w fun e w' => e = .returned (.tuple #[.agg #[.int .i64 0, .int .i64 0, .int .i64 0, .int .i64 0, .int .i64 0, .int .i64 0], .int .i64 50]) ∧ Below w.heap.size w w' := by
  have hr := SupAt.new w 0 0 0 0 0 0
  have hv1 := hv.alloc (.cells #[.int .i64 0, .int .i64 0, .int .i64 0, .int .i64 0, .int .i64 0, .int .i64 0] 25)
  have hu1 := hu.alloc (.cells #[.int .i64 0, .int .i64 0, .int .i64 0, .int .i64 0, .int .i64 0, .int .i64 0] 25)
  obtain ⟨ao, cap, rfl, -⟩ := id hv
  obtain ⟨bo, cbp, rfl, -⟩ := id hu
  go_enter Try.func24, Try.ntmps24
  go_wp2_with fail
  refine (hp _ hv1).mono ?_
  rintro e w1 ⟨rfl, hb1⟩
  have hr1 := (hr.mono hb1).alloc (.cells #[.int .i64 q0, .int .i64 q1, .int .i64 q2, .int .i64 q3, .int .i64 q4, .int .i64 q5] 25)
  have hx1' := SupAt.new w1 q0 q1 q2 q3 q4 q5
  have hu2 := (hu1.mono hb1).alloc (.cells #[.int .i64 q0, .int .i64 q1, .int .i64 q2, .int .i64 q3, .int .i64 q4, .int .i64 q5] 25)
  have hB1 : Below w.heap.size w w1 := ((Below.refl _ w).alloc (Nat.le_refl _) _).trans (hb1.mono (by simp))
  have hne : w.heap.size < w1.heap.size := by have := hb1.size; simp at this; omega
  have hB2 := hB1.alloc hB1.size (.cells #[.int .i64 q0, .int .i64 q1, .int .i64 q2, .int .i64 q3, .int .i64 q4, .int .i64 q5] 25)
  have hz1 : w1.heap.size < (w1.alloc (.cells #[.int .i64 q0, .int .i64 q1, .int .i64 q2, .int .i64 q3, .int .i64 q4, .int .i64 q5] 25)).heap.size := by simp
  clear hb1 hr hv1 hB1 hv hp hu1 hu
  go_wp2_with fail
  refine (hq _ hu2).mono ?_
  rintro e w2 ⟨rfl, hb2⟩
  have hr3 := hr1.mono hb2
  have hr2 := hr3.alloc (.cells #[.int .i64 r0, .int .i64 r1, .int .i64 r2, .int .i64 r3, .int .i64 r4, .int .i64 r5] 25)
  have hx2 := (hx1'.mono hb2).alloc (.cells #[.int .i64 r0, .int .i64 r1, .int .i64 r2, .int .i64 r3, .int .i64 r4, .int .i64 r5] 25)
  have hy2 := SupAt.new w2 r0 r1 r2 r3 r4 r5
  have hB3 := hB2.trans (hb2.mono hB2.size)
  have hBU := hB3.alloc hB3.size (.cells #[.int .i64 r0, .int .i64 r1, .int .i64 r2, .int .i64 r3, .int .i64 r4, .int .i64 r5] 25)
  have hne2 : w1.heap.size < w2.heap.size := Nat.lt_of_lt_of_le hz1 hb2.size
  clear hb2 hr1 hx1' hu2 hB2 hq hz1
  obtain ⟨c0, c1, c2, c3, c4, c5, Fc0, Fc1, Fc2, Fc3, Fc4, Fc5, lc⟩ := id hr3
  obtain ⟨d0, d1, d2, d3, d4, d5, Fd0, Fd1, Fd2, Fd3, Fd4, Fd5, ld⟩ := id hx2
  obtain ⟨g0, g1, g2, g3, g4, g5, Fg0, Fg1, Fg2, Fg3, Fg4, Fg5, lg⟩ := id hy2
  go_wp2_with fail
  obtain ⟨k0, k1, k2, k3, k4, k5, -, -, -, -, -, -, -⟩ := (hr3.setAll 0 0 0 0 0 0).alloc (.cells #[.int .i64 r0, .int .i64 r1, .int .i64 r2, .int .i64 r3, .int .i64 r4, .int .i64 r5] 25)
  refine bodyPost_ret (v := .tuple #[.agg #[.int .i64 0, .int .i64 0, .int .i64 0, .int .i64 0, .int .i64 0, .int .i64 0], .int .i64 50]) (by simp [results, Try.results24, go_sem, k0, k1, k2, k3, k4, k5]) rfl ⟨rfl, ?_⟩
  exact (((((((hB3.setCell (Nat.le_refl _) _).setCell (Nat.le_refl _) _).setCell (Nat.le_refl _) _).setCell (Nat.le_refl _) _).setCell (Nat.le_refl _) _).setCell (Nat.le_refl _) _).alloc (by simpa using hB3.size) _)

set_option maxRecDepth 100000 in
set_option maxHeartbeats 1000000 in
theorem rchoose_EN (v u : Value) (L M : List Nat) (w : World) (hv : Bs w v L) (hu : Bs w u M) (q0 q1 q2 q3 q4 q5 ex r0 r1 r2 r3 r4 r5 ey : Int)
    (hp : ∀ w, Bs w v L → Calls Try.prog 20 #[v] w fun e w' => e = .returned (.tuple #[.agg #[.int .i64 q0, .int .i64 q1, .int .i64 q2, .int .i64 q3, .int .i64 q4, .int .i64 q5], .int .i64 ex]) ∧ Below w.heap.size w w')
    (hq : ∀ w, Bs w u M → Calls Try.prog 20 #[u] w fun e w' => e = .returned (.tuple #[.agg #[.int .i64 r0, .int .i64 r1, .int .i64 r2, .int .i64 r3, .int .i64 r4, .int .i64 r5], .int .i64 ey]) ∧ Below w.heap.size w w') (hx0 : (ex == 0) = false) (hy0 : ey = 0) (hy1 : (slotS r0 == 1) = false) :
    Calls Try.prog 24 #[v, u] w fun e w' => e = .returned (.tuple #[.agg #[.int .i64 0, .int .i64 0, .int .i64 0, .int .i64 0, .int .i64 0, .int .i64 0], .int .i64 50]) ∧ Below w.heap.size w w' := by
  subst hy0
  have hr := SupAt.new w 0 0 0 0 0 0
  have hv1 := hv.alloc (.cells #[.int .i64 0, .int .i64 0, .int .i64 0, .int .i64 0, .int .i64 0, .int .i64 0] 25)
  have hu1 := hu.alloc (.cells #[.int .i64 0, .int .i64 0, .int .i64 0, .int .i64 0, .int .i64 0, .int .i64 0] 25)
  obtain ⟨ao, cap, rfl, -⟩ := id hv
  obtain ⟨bo, cbp, rfl, -⟩ := id hu
  go_enter Try.func24, Try.ntmps24
  go_wp2_with fail
  refine (hp _ hv1).mono ?_
  rintro e w1 ⟨rfl, hb1⟩
  have hr1 := (hr.mono hb1).alloc (.cells #[.int .i64 q0, .int .i64 q1, .int .i64 q2, .int .i64 q3, .int .i64 q4, .int .i64 q5] 25)
  have hx1' := SupAt.new w1 q0 q1 q2 q3 q4 q5
  have hu2 := (hu1.mono hb1).alloc (.cells #[.int .i64 q0, .int .i64 q1, .int .i64 q2, .int .i64 q3, .int .i64 q4, .int .i64 q5] 25)
  have hB1 : Below w.heap.size w w1 := ((Below.refl _ w).alloc (Nat.le_refl _) _).trans (hb1.mono (by simp))
  have hne : w.heap.size < w1.heap.size := by have := hb1.size; simp at this; omega
  have hB2 := hB1.alloc hB1.size (.cells #[.int .i64 q0, .int .i64 q1, .int .i64 q2, .int .i64 q3, .int .i64 q4, .int .i64 q5] 25)
  have hz1 : w1.heap.size < (w1.alloc (.cells #[.int .i64 q0, .int .i64 q1, .int .i64 q2, .int .i64 q3, .int .i64 q4, .int .i64 q5] 25)).heap.size := by simp
  clear hb1 hr hv1 hB1 hv hp hu1 hu
  go_wp2_with fail
  refine (hq _ hu2).mono ?_
  rintro e w2 ⟨rfl, hb2⟩
  have hr3 := hr1.mono hb2
  have hr2 := hr3.alloc (.cells #[.int .i64 r0, .int .i64 r1, .int .i64 r2, .int .i64 r3, .int .i64 r4, .int .i64 r5] 25)
  have hx2 := (hx1'.mono hb2).alloc (.cells #[.int .i64 r0, .int .i64 r1, .int .i64 r2, .int .i64 r3, .int .i64 r4, .int .i64 r5] 25)
  have hy2 := SupAt.new w2 r0 r1 r2 r3 r4 r5
  have hB3 := hB2.trans (hb2.mono hB2.size)
  have hBU := hB3.alloc hB3.size (.cells #[.int .i64 r0, .int .i64 r1, .int .i64 r2, .int .i64 r3, .int .i64 r4, .int .i64 r5] 25)
  have hne2 : w1.heap.size < w2.heap.size := Nat.lt_of_lt_of_le hz1 hb2.size
  clear hb2 hr1 hx1' hu2 hB2 hq hz1
  obtain ⟨c0, c1, c2, c3, c4, c5, Fc0, Fc1, Fc2, Fc3, Fc4, Fc5, lc⟩ := id hr3
  obtain ⟨d0, d1, d2, d3, d4, d5, Fd0, Fd1, Fd2, Fd3, Fd4, Fd5, ld⟩ := id hx2
  obtain ⟨g0, g1, g2, g3, g4, g5, Fg0, Fg1, Fg2, Fg3, Fg4, Fg5, lg⟩ := id hy2
  go_wp2_with fail
  refine (rslot_any r0 r1 r2 r3 r4 r5 _).mono ?_
  rintro e w4 ⟨rfl, hb4⟩
  clear c0 c1 c2 c3 c4 c5 d0 d1 d2 d3 d4 d5 g0 g1 g2 g3 g4 g5
  replace hr2 := hr2.mono hb4
  replace hx2 := hx2.mono hb4
  replace hy2 := hy2.mono hb4
  replace hBU := hBU.trans (hb4.mono hBU.size)
  clear hb4
  obtain ⟨c0, c1, c2, c3, c4, c5, Fc0, Fc1, Fc2, Fc3, Fc4, Fc5, lc⟩ := id hr2
  obtain ⟨d0, d1, d2, d3, d4, d5, Fd0, Fd1, Fd2, Fd3, Fd4, Fd5, ld⟩ := id hx2
  obtain ⟨g0, g1, g2, g3, g4, g5, Fg0, Fg1, Fg2, Fg3, Fg4, Fg5, lg⟩ := id hy2
  generalize hSr : slotS r0 = sr at *
  clear hSr
  go_wp2_with fail
  refine bodyPost_ret (v := .tuple #[.agg #[.int .i64 0, .int .i64 0, .int .i64 0, .int .i64 0, .int .i64 0, .int .i64 0], .int .i64 50]) (by simp [results, Try.results24, go_sem, c0, c1, c2, c3, c4, c5]) rfl ⟨rfl, ?_⟩
  exact (((((hBU.setCell (by simp) _).setCell (by simp) _).setCell (by simp) _).setCell (by simp) _).setCell (by simp) _).setCell (by simp) _

set_option maxRecDepth 100000 in
set_option maxHeartbeats 1000000 in
theorem rchoose_EY (v u : Value) (L M : List Nat) (w : World) (hv : Bs w v L) (hu : Bs w u M) (q0 q1 q2 q3 q4 q5 ex r0 r1 r2 r3 r4 r5 ey : Int)
    (hp : ∀ w, Bs w v L → Calls Try.prog 20 #[v] w fun e w' => e = .returned (.tuple #[.agg #[.int .i64 q0, .int .i64 q1, .int .i64 q2, .int .i64 q3, .int .i64 q4, .int .i64 q5], .int .i64 ex]) ∧ Below w.heap.size w w')
    (hq : ∀ w, Bs w u M → Calls Try.prog 20 #[u] w fun e w' => e = .returned (.tuple #[.agg #[.int .i64 r0, .int .i64 r1, .int .i64 r2, .int .i64 r3, .int .i64 r4, .int .i64 r5], .int .i64 ey]) ∧ Below w.heap.size w w') (hx0 : (ex == 0) = false) (hy0 : ey = 0) (hy1 : (slotS r0 == 1) = true) :
    Calls Try.prog 24 #[v, u] w fun e w' => e = .returned (.tuple #[.agg #[.int .i64 r0, .int .i64 r1, .int .i64 r2, .int .i64 r3, .int .i64 r4, .int .i64 r5], .int .i64 0]) ∧ Below w.heap.size w w' := by
  subst hy0
  have hr := SupAt.new w 0 0 0 0 0 0
  have hv1 := hv.alloc (.cells #[.int .i64 0, .int .i64 0, .int .i64 0, .int .i64 0, .int .i64 0, .int .i64 0] 25)
  have hu1 := hu.alloc (.cells #[.int .i64 0, .int .i64 0, .int .i64 0, .int .i64 0, .int .i64 0, .int .i64 0] 25)
  obtain ⟨ao, cap, rfl, -⟩ := id hv
  obtain ⟨bo, cbp, rfl, -⟩ := id hu
  go_enter Try.func24, Try.ntmps24
  go_wp2_with fail
  refine (hp _ hv1).mono ?_
  rintro e w1 ⟨rfl, hb1⟩
  have hr1 := (hr.mono hb1).alloc (.cells #[.int .i64 q0, .int .i64 q1, .int .i64 q2, .int .i64 q3, .int .i64 q4, .int .i64 q5] 25)
  have hx1' := SupAt.new w1 q0 q1 q2 q3 q4 q5
  have hu2 := (hu1.mono hb1).alloc (.cells #[.int .i64 q0, .int .i64 q1, .int .i64 q2, .int .i64 q3, .int .i64 q4, .int .i64 q5] 25)
  have hB1 : Below w.heap.size w w1 := ((Below.refl _ w).alloc (Nat.le_refl _) _).trans (hb1.mono (by simp))
  have hne : w.heap.size < w1.heap.size := by have := hb1.size; simp at this; omega
  have hB2 := hB1.alloc hB1.size (.cells #[.int .i64 q0, .int .i64 q1, .int .i64 q2, .int .i64 q3, .int .i64 q4, .int .i64 q5] 25)
  have hz1 : w1.heap.size < (w1.alloc (.cells #[.int .i64 q0, .int .i64 q1, .int .i64 q2, .int .i64 q3, .int .i64 q4, .int .i64 q5] 25)).heap.size := by simp
  clear hb1 hr hv1 hB1 hv hp hu1 hu
  go_wp2_with fail
  refine (hq _ hu2).mono ?_
  rintro e w2 ⟨rfl, hb2⟩
  have hr3 := hr1.mono hb2
  have hr2 := hr3.alloc (.cells #[.int .i64 r0, .int .i64 r1, .int .i64 r2, .int .i64 r3, .int .i64 r4, .int .i64 r5] 25)
  have hx2 := (hx1'.mono hb2).alloc (.cells #[.int .i64 r0, .int .i64 r1, .int .i64 r2, .int .i64 r3, .int .i64 r4, .int .i64 r5] 25)
  have hy2 := SupAt.new w2 r0 r1 r2 r3 r4 r5
  have hB3 := hB2.trans (hb2.mono hB2.size)
  have hBU := hB3.alloc hB3.size (.cells #[.int .i64 r0, .int .i64 r1, .int .i64 r2, .int .i64 r3, .int .i64 r4, .int .i64 r5] 25)
  have hne2 : w1.heap.size < w2.heap.size := Nat.lt_of_lt_of_le hz1 hb2.size
  clear hb2 hr1 hx1' hu2 hB2 hq hz1
  obtain ⟨c0, c1, c2, c3, c4, c5, Fc0, Fc1, Fc2, Fc3, Fc4, Fc5, lc⟩ := id hr3
  obtain ⟨d0, d1, d2, d3, d4, d5, Fd0, Fd1, Fd2, Fd3, Fd4, Fd5, ld⟩ := id hx2
  obtain ⟨g0, g1, g2, g3, g4, g5, Fg0, Fg1, Fg2, Fg3, Fg4, Fg5, lg⟩ := id hy2
  go_wp2_with fail
  refine (rslot_any r0 r1 r2 r3 r4 r5 _).mono ?_
  rintro e w4 ⟨rfl, hb4⟩
  clear c0 c1 c2 c3 c4 c5 d0 d1 d2 d3 d4 d5 g0 g1 g2 g3 g4 g5
  replace hr2 := hr2.mono hb4
  replace hx2 := hx2.mono hb4
  replace hy2 := hy2.mono hb4
  replace hBU := hBU.trans (hb4.mono hBU.size)
  clear hb4
  obtain ⟨c0, c1, c2, c3, c4, c5, Fc0, Fc1, Fc2, Fc3, Fc4, Fc5, lc⟩ := id hr2
  obtain ⟨d0, d1, d2, d3, d4, d5, Fd0, Fd1, Fd2, Fd3, Fd4, Fd5, ld⟩ := id hx2
  obtain ⟨g0, g1, g2, g3, g4, g5, Fg0, Fg1, Fg2, Fg3, Fg4, Fg5, lg⟩ := id hy2
  generalize hSr : slotS r0 = sr at *
  clear hSr
  go_wp2_with fail
  refine bodyPost_ret (v := .tuple #[.agg #[.int .i64 r0, .int .i64 r1, .int .i64 r2, .int .i64 r3, .int .i64 r4, .int .i64 r5], .int .i64 0]) (by simp [results, Try.results24, go_sem, c0, c1, c2, c3, c4, c5]) rfl ⟨rfl, ?_⟩
  exact (((((hBU.setCell (by simp) _).setCell (by simp) _).setCell (by simp) _).setCell (by simp) _).setCell (by simp) _).setCell (by simp) _

set_option maxRecDepth 100000 in
set_option maxHeartbeats 1000000 in
theorem rchoose_NE (v u : Value) (L M : List Nat) (w : World) (hv : Bs w v L) (hu : Bs w u M) (q0 q1 q2 q3 q4 q5 ex r0 r1 r2 r3 r4 r5 ey : Int)
    (hp : ∀ w, Bs w v L → Calls Try.prog 20 #[v] w fun e w' => e = .returned (.tuple #[.agg #[.int .i64 q0, .int .i64 q1, .int .i64 q2, .int .i64 q3, .int .i64 q4, .int .i64 q5], .int .i64 ex]) ∧ Below w.heap.size w w')
    (hq : ∀ w, Bs w u M → Calls Try.prog 20 #[u] w fun e w' => e = .returned (.tuple #[.agg #[.int .i64 r0, .int .i64 r1, .int .i64 r2, .int .i64 r3, .int .i64 r4, .int .i64 r5], .int .i64 ey]) ∧ Below w.heap.size w w') (hx0 : ex = 0) (hx1 : (slotS q0 == 0) = false) (hy0 : (ey == 0) = false) :
    Calls Try.prog 24 #[v, u] w fun e w' => e = .returned (.tuple #[.agg #[.int .i64 0, .int .i64 0, .int .i64 0, .int .i64 0, .int .i64 0, .int .i64 0], .int .i64 50]) ∧ Below w.heap.size w w' := by
  subst hx0
  have hr := SupAt.new w 0 0 0 0 0 0
  have hv1 := hv.alloc (.cells #[.int .i64 0, .int .i64 0, .int .i64 0, .int .i64 0, .int .i64 0, .int .i64 0] 25)
  have hu1 := hu.alloc (.cells #[.int .i64 0, .int .i64 0, .int .i64 0, .int .i64 0, .int .i64 0, .int .i64 0] 25)
  obtain ⟨ao, cap, rfl, -⟩ := id hv
  obtain ⟨bo, cbp, rfl, -⟩ := id hu
  go_enter Try.func24, Try.ntmps24
  go_wp2_with fail
  refine (hp _ hv1).mono ?_
  rintro e w1 ⟨rfl, hb1⟩
  have hr1 := (hr.mono hb1).alloc (.cells #[.int .i64 q0, .int .i64 q1, .int .i64 q2, .int .i64 q3, .int .i64 q4, .int .i64 q5] 25)
  have hx1' := SupAt.new w1 q0 q1 q2 q3 q4 q5
  have hu2 := (hu1.mono hb1).alloc (.cells #[.int .i64 q0, .int .i64 q1, .int .i64 q2, .int .i64 q3, .int .i64 q4, .int .i64 q5] 25)
  have hB1 : Below w.heap.size w w1 := ((Below.refl _ w).alloc (Nat.le_refl _) _).trans (hb1.mono (by simp))
  have hne : w.heap.size < w1.heap.size := by have := hb1.size; simp at this; omega
  have hB2 := hB1.alloc hB1.size (.cells #[.int .i64 q0, .int .i64 q1, .int .i64 q2, .int .i64 q3, .int .i64 q4, .int .i64 q5] 25)
  have hz1 : w1.heap.size < (w1.alloc (.cells #[.int .i64 q0, .int .i64 q1, .int .i64 q2, .int .i64 q3, .int .i64 q4, .int .i64 q5] 25)).heap.size := by simp
  clear hb1 hr hv1 hB1 hv hp hu1 hu
  go_wp2_with fail
  refine (hq _ hu2).mono ?_
  rintro e w2 ⟨rfl, hb2⟩
  have hr3 := hr1.mono hb2
  have hr2 := hr3.alloc (.cells #[.int .i64 r0, .int .i64 r1, .int .i64 r2, .int .i64 r3, .int .i64 r4, .int .i64 r5] 25)
  have hx2 := (hx1'.mono hb2).alloc (.cells #[.int .i64 r0, .int .i64 r1, .int .i64 r2, .int .i64 r3, .int .i64 r4, .int .i64 r5] 25)
  have hy2 := SupAt.new w2 r0 r1 r2 r3 r4 r5
  have hB3 := hB2.trans (hb2.mono hB2.size)
  have hBU := hB3.alloc hB3.size (.cells #[.int .i64 r0, .int .i64 r1, .int .i64 r2, .int .i64 r3, .int .i64 r4, .int .i64 r5] 25)
  have hne2 : w1.heap.size < w2.heap.size := Nat.lt_of_lt_of_le hz1 hb2.size
  clear hb2 hr1 hx1' hu2 hB2 hq hz1
  obtain ⟨c0, c1, c2, c3, c4, c5, Fc0, Fc1, Fc2, Fc3, Fc4, Fc5, lc⟩ := id hr3
  obtain ⟨d0, d1, d2, d3, d4, d5, Fd0, Fd1, Fd2, Fd3, Fd4, Fd5, ld⟩ := id hx2
  obtain ⟨g0, g1, g2, g3, g4, g5, Fg0, Fg1, Fg2, Fg3, Fg4, Fg5, lg⟩ := id hy2
  go_wp2_with fail
  refine (rslot_any q0 q1 q2 q3 q4 q5 _).mono ?_
  rintro e w3 ⟨rfl, hb3⟩
  clear c0 c1 c2 c3 c4 c5 d0 d1 d2 d3 d4 d5 g0 g1 g2 g3 g4 g5
  replace hr2 := hr2.mono hb3
  replace hx2 := hx2.mono hb3
  replace hy2 := hy2.mono hb3
  replace hBU := hBU.trans (hb3.mono hBU.size)
  clear hb3
  obtain ⟨c0, c1, c2, c3, c4, c5, Fc0, Fc1, Fc2, Fc3, Fc4, Fc5, lc⟩ := id hr2
  obtain ⟨d0, d1, d2, d3, d4, d5, Fd0, Fd1, Fd2, Fd3, Fd4, Fd5, ld⟩ := id hx2
  obtain ⟨g0, g1, g2, g3, g4, g5, Fg0, Fg1, Fg2, Fg3, Fg4, Fg5, lg⟩ := id hy2
  generalize hSq : slotS q0 = sq at *
  clear hSq
  go_wp2_with fail
  refine bodyPost_ret (v := .tuple #[.agg #[.int .i64 0, .int .i64 0, .int .i64 0, .int .i64 0, .int .i64 0, .int .i64 0], .int .i64 50]) (by simp [results, Try.results24, go_sem, c0, c1, c2, c3, c4, c5]) rfl ⟨rfl, ?_⟩
  exact (((((hBU.setCell (by simp) _).setCell (by simp) _).setCell (by simp) _).setCell (by simp) _).setCell (by simp) _).setCell (by simp) _

set_option maxRecDepth 100000 in
set_option maxHeartbeats 1000000 in
theorem rchoose_NN (v u : Value) (L M : List Nat) (w : World) (hv : Bs w v L) (hu : Bs w u M) (q0 q1 q2 q3 q4 q5 ex r0 r1 r2 r3 r4 r5 ey : Int)
    (hp : ∀ w, Bs w v L → Calls Try.prog 20 #[v] w fun e w' => e = .returned (.tuple #[.agg #[.int .i64 q0, .int .i64 q1, .int .i64 q2, .int .i64 q3, .int .i64 q4, .int .i64 q5], .int .i64 ex]) ∧ Below w.heap.size w w')
    (hq : ∀ w, Bs w u M → Calls Try.prog 20 #[u] w fun e w' => e = .returned (.tuple #[.agg #[.int .i64 r0, .int .i64 r1, .int .i64 r2, .int .i64 r3, .int .i64 r4, .int .i64 r5], .int .i64 ey]) ∧ Below w.heap.size w w') (hx0 : ex = 0) (hx1 : (slotS q0 == 0) = false) (hy0 : ey = 0) (hy1 : (slotS r0 == 1) = false) :
    Calls Try.prog 24 #[v, u] w fun e w' => e = .returned (.tuple #[.agg #[.int .i64 0, .int .i64 0, .int .i64 0, .int .i64 0, .int .i64 0, .int .i64 0], .int .i64 50]) ∧ Below w.heap.size w w' := by
  subst hx0
  subst hy0
  have hr := SupAt.new w 0 0 0 0 0 0
  have hv1 := hv.alloc (.cells #[.int .i64 0, .int .i64 0, .int .i64 0, .int .i64 0, .int .i64 0, .int .i64 0] 25)
  have hu1 := hu.alloc (.cells #[.int .i64 0, .int .i64 0, .int .i64 0, .int .i64 0, .int .i64 0, .int .i64 0] 25)
  obtain ⟨ao, cap, rfl, -⟩ := id hv
  obtain ⟨bo, cbp, rfl, -⟩ := id hu
  go_enter Try.func24, Try.ntmps24
  go_wp2_with fail
  refine (hp _ hv1).mono ?_
  rintro e w1 ⟨rfl, hb1⟩
  have hr1 := (hr.mono hb1).alloc (.cells #[.int .i64 q0, .int .i64 q1, .int .i64 q2, .int .i64 q3, .int .i64 q4, .int .i64 q5] 25)
  have hx1' := SupAt.new w1 q0 q1 q2 q3 q4 q5
  have hu2 := (hu1.mono hb1).alloc (.cells #[.int .i64 q0, .int .i64 q1, .int .i64 q2, .int .i64 q3, .int .i64 q4, .int .i64 q5] 25)
  have hB1 : Below w.heap.size w w1 := ((Below.refl _ w).alloc (Nat.le_refl _) _).trans (hb1.mono (by simp))
  have hne : w.heap.size < w1.heap.size := by have := hb1.size; simp at this; omega
  have hB2 := hB1.alloc hB1.size (.cells #[.int .i64 q0, .int .i64 q1, .int .i64 q2, .int .i64 q3, .int .i64 q4, .int .i64 q5] 25)
  have hz1 : w1.heap.size < (w1.alloc (.cells #[.int .i64 q0, .int .i64 q1, .int .i64 q2, .int .i64 q3, .int .i64 q4, .int .i64 q5] 25)).heap.size := by simp
  clear hb1 hr hv1 hB1 hv hp hu1 hu
  go_wp2_with fail
  refine (hq _ hu2).mono ?_
  rintro e w2 ⟨rfl, hb2⟩
  have hr3 := hr1.mono hb2
  have hr2 := hr3.alloc (.cells #[.int .i64 r0, .int .i64 r1, .int .i64 r2, .int .i64 r3, .int .i64 r4, .int .i64 r5] 25)
  have hx2 := (hx1'.mono hb2).alloc (.cells #[.int .i64 r0, .int .i64 r1, .int .i64 r2, .int .i64 r3, .int .i64 r4, .int .i64 r5] 25)
  have hy2 := SupAt.new w2 r0 r1 r2 r3 r4 r5
  have hB3 := hB2.trans (hb2.mono hB2.size)
  have hBU := hB3.alloc hB3.size (.cells #[.int .i64 r0, .int .i64 r1, .int .i64 r2, .int .i64 r3, .int .i64 r4, .int .i64 r5] 25)
  have hne2 : w1.heap.size < w2.heap.size := Nat.lt_of_lt_of_le hz1 hb2.size
  clear hb2 hr1 hx1' hu2 hB2 hq hz1
  obtain ⟨c0, c1, c2, c3, c4, c5, Fc0, Fc1, Fc2, Fc3, Fc4, Fc5, lc⟩ := id hr3
  obtain ⟨d0, d1, d2, d3, d4, d5, Fd0, Fd1, Fd2, Fd3, Fd4, Fd5, ld⟩ := id hx2
  obtain ⟨g0, g1, g2, g3, g4, g5, Fg0, Fg1, Fg2, Fg3, Fg4, Fg5, lg⟩ := id hy2
  go_wp2_with fail
  refine (rslot_any q0 q1 q2 q3 q4 q5 _).mono ?_
  rintro e w3 ⟨rfl, hb3⟩
  clear c0 c1 c2 c3 c4 c5 d0 d1 d2 d3 d4 d5 g0 g1 g2 g3 g4 g5
  replace hr2 := hr2.mono hb3
  replace hx2 := hx2.mono hb3
  replace hy2 := hy2.mono hb3
  replace hBU := hBU.trans (hb3.mono hBU.size)
  clear hb3
  obtain ⟨c0, c1, c2, c3, c4, c5, Fc0, Fc1, Fc2, Fc3, Fc4, Fc5, lc⟩ := id hr2
  obtain ⟨d0, d1, d2, d3, d4, d5, Fd0, Fd1, Fd2, Fd3, Fd4, Fd5, ld⟩ := id hx2
  obtain ⟨g0, g1, g2, g3, g4, g5, Fg0, Fg1, Fg2, Fg3, Fg4, Fg5, lg⟩ := id hy2
  generalize hSq : slotS q0 = sq at *
  clear hSq
  go_wp2_with fail
  refine (rslot_any r0 r1 r2 r3 r4 r5 _).mono ?_
  rintro e w4 ⟨rfl, hb4⟩
  clear c0 c1 c2 c3 c4 c5 d0 d1 d2 d3 d4 d5 g0 g1 g2 g3 g4 g5
  replace hr2 := hr2.mono hb4
  replace hx2 := hx2.mono hb4
  replace hy2 := hy2.mono hb4
  replace hBU := hBU.trans (hb4.mono hBU.size)
  clear hb4
  obtain ⟨c0, c1, c2, c3, c4, c5, Fc0, Fc1, Fc2, Fc3, Fc4, Fc5, lc⟩ := id hr2
  obtain ⟨d0, d1, d2, d3, d4, d5, Fd0, Fd1, Fd2, Fd3, Fd4, Fd5, ld⟩ := id hx2
  obtain ⟨g0, g1, g2, g3, g4, g5, Fg0, Fg1, Fg2, Fg3, Fg4, Fg5, lg⟩ := id hy2
  generalize hSr : slotS r0 = sr at *
  clear hSr
  go_wp2_with fail
  refine bodyPost_ret (v := .tuple #[.agg #[.int .i64 0, .int .i64 0, .int .i64 0, .int .i64 0, .int .i64 0, .int .i64 0], .int .i64 50]) (by simp [results, Try.results24, go_sem, c0, c1, c2, c3, c4, c5]) rfl ⟨rfl, ?_⟩
  exact (((((hBU.setCell (by simp) _).setCell (by simp) _).setCell (by simp) _).setCell (by simp) _).setCell (by simp) _).setCell (by simp) _

set_option maxRecDepth 100000 in
set_option maxHeartbeats 1000000 in
theorem rchoose_NY (v u : Value) (L M : List Nat) (w : World) (hv : Bs w v L) (hu : Bs w u M) (q0 q1 q2 q3 q4 q5 ex r0 r1 r2 r3 r4 r5 ey : Int)
    (hp : ∀ w, Bs w v L → Calls Try.prog 20 #[v] w fun e w' => e = .returned (.tuple #[.agg #[.int .i64 q0, .int .i64 q1, .int .i64 q2, .int .i64 q3, .int .i64 q4, .int .i64 q5], .int .i64 ex]) ∧ Below w.heap.size w w')
    (hq : ∀ w, Bs w u M → Calls Try.prog 20 #[u] w fun e w' => e = .returned (.tuple #[.agg #[.int .i64 r0, .int .i64 r1, .int .i64 r2, .int .i64 r3, .int .i64 r4, .int .i64 r5], .int .i64 ey]) ∧ Below w.heap.size w w') (hx0 : ex = 0) (hx1 : (slotS q0 == 0) = false) (hy0 : ey = 0) (hy1 : (slotS r0 == 1) = true) :
    Calls Try.prog 24 #[v, u] w fun e w' => e = .returned (.tuple #[.agg #[.int .i64 r0, .int .i64 r1, .int .i64 r2, .int .i64 r3, .int .i64 r4, .int .i64 r5], .int .i64 0]) ∧ Below w.heap.size w w' := by
  subst hx0
  subst hy0
  have hr := SupAt.new w 0 0 0 0 0 0
  have hv1 := hv.alloc (.cells #[.int .i64 0, .int .i64 0, .int .i64 0, .int .i64 0, .int .i64 0, .int .i64 0] 25)
  have hu1 := hu.alloc (.cells #[.int .i64 0, .int .i64 0, .int .i64 0, .int .i64 0, .int .i64 0, .int .i64 0] 25)
  obtain ⟨ao, cap, rfl, -⟩ := id hv
  obtain ⟨bo, cbp, rfl, -⟩ := id hu
  go_enter Try.func24, Try.ntmps24
  go_wp2_with fail
  refine (hp _ hv1).mono ?_
  rintro e w1 ⟨rfl, hb1⟩
  have hr1 := (hr.mono hb1).alloc (.cells #[.int .i64 q0, .int .i64 q1, .int .i64 q2, .int .i64 q3, .int .i64 q4, .int .i64 q5] 25)
  have hx1' := SupAt.new w1 q0 q1 q2 q3 q4 q5
  have hu2 := (hu1.mono hb1).alloc (.cells #[.int .i64 q0, .int .i64 q1, .int .i64 q2, .int .i64 q3, .int .i64 q4, .int .i64 q5] 25)
  have hB1 : Below w.heap.size w w1 := ((Below.refl _ w).alloc (Nat.le_refl _) _).trans (hb1.mono (by simp))
  have hne : w.heap.size < w1.heap.size := by have := hb1.size; simp at this; omega
  have hB2 := hB1.alloc hB1.size (.cells #[.int .i64 q0, .int .i64 q1, .int .i64 q2, .int .i64 q3, .int .i64 q4, .int .i64 q5] 25)
  have hz1 : w1.heap.size < (w1.alloc (.cells #[.int .i64 q0, .int .i64 q1, .int .i64 q2, .int .i64 q3, .int .i64 q4, .int .i64 q5] 25)).heap.size := by simp
  clear hb1 hr hv1 hB1 hv hp hu1 hu
  go_wp2_with fail
  refine (hq _ hu2).mono ?_
  rintro e w2 ⟨rfl, hb2⟩
  have hr3 := hr1.mono hb2
  have hr2 := hr3.alloc (.cells #[.int .i64 r0, .int .i64 r1, .int .i64 r2, .int .i64 r3, .int .i64 r4, .int .i64 r5] 25)
  have hx2 := (hx1'.mono hb2).alloc (.cells #[.int .i64 r0, .int .i64 r1, .int .i64 r2, .int .i64 r3, .int .i64 r4, .int .i64 r5] 25)
  have hy2 := SupAt.new w2 r0 r1 r2 r3 r4 r5
  have hB3 := hB2.trans (hb2.mono hB2.size)
  have hBU := hB3.alloc hB3.size (.cells #[.int .i64 r0, .int .i64 r1, .int .i64 r2, .int .i64 r3, .int .i64 r4, .int .i64 r5] 25)
  have hne2 : w1.heap.size < w2.heap.size := Nat.lt_of_lt_of_le hz1 hb2.size
  clear hb2 hr1 hx1' hu2 hB2 hq hz1
  obtain ⟨c0, c1, c2, c3, c4, c5, Fc0, Fc1, Fc2, Fc3, Fc4, Fc5, lc⟩ := id hr3
  obtain ⟨d0, d1, d2, d3, d4, d5, Fd0, Fd1, Fd2, Fd3, Fd4, Fd5, ld⟩ := id hx2
  obtain ⟨g0, g1, g2, g3, g4, g5, Fg0, Fg1, Fg2, Fg3, Fg4, Fg5, lg⟩ := id hy2
  go_wp2_with fail
  refine (rslot_any q0 q1 q2 q3 q4 q5 _).mono ?_
  rintro e w3 ⟨rfl, hb3⟩
  clear c0 c1 c2 c3 c4 c5 d0 d1 d2 d3 d4 d5 g0 g1 g2 g3 g4 g5
  replace hr2 := hr2.mono hb3
  replace hx2 := hx2.mono hb3
  replace hy2 := hy2.mono hb3
  replace hBU := hBU.trans (hb3.mono hBU.size)
  clear hb3
  obtain ⟨c0, c1, c2, c3, c4, c5, Fc0, Fc1, Fc2, Fc3, Fc4, Fc5, lc⟩ := id hr2
  obtain ⟨d0, d1, d2, d3, d4, d5, Fd0, Fd1, Fd2, Fd3, Fd4, Fd5, ld⟩ := id hx2
  obtain ⟨g0, g1, g2, g3, g4, g5, Fg0, Fg1, Fg2, Fg3, Fg4, Fg5, lg⟩ := id hy2
  generalize hSq : slotS q0 = sq at *
  clear hSq
  go_wp2_with fail
  refine (rslot_any r0 r1 r2 r3 r4 r5 _).mono ?_
  rintro e w4 ⟨rfl, hb4⟩
  clear c0 c1 c2 c3 c4 c5 d0 d1 d2 d3 d4 d5 g0 g1 g2 g3 g4 g5
  replace hr2 := hr2.mono hb4
  replace hx2 := hx2.mono hb4
  replace hy2 := hy2.mono hb4
  replace hBU := hBU.trans (hb4.mono hBU.size)
  clear hb4
  obtain ⟨c0, c1, c2, c3, c4, c5, Fc0, Fc1, Fc2, Fc3, Fc4, Fc5, lc⟩ := id hr2
  obtain ⟨d0, d1, d2, d3, d4, d5, Fd0, Fd1, Fd2, Fd3, Fd4, Fd5, ld⟩ := id hx2
  obtain ⟨g0, g1, g2, g3, g4, g5, Fg0, Fg1, Fg2, Fg3, Fg4, Fg5, lg⟩ := id hy2
  generalize hSr : slotS r0 = sr at *
  clear hSr
  go_wp2_with fail
  refine bodyPost_ret (v := .tuple #[.agg #[.int .i64 r0, .int .i64 r1, .int .i64 r2, .int .i64 r3, .int .i64 r4, .int .i64 r5], .int .i64 0]) (by simp [results, Try.results24, go_sem, c0, c1, c2, c3, c4, c5]) rfl ⟨rfl, ?_⟩
  exact (((((hBU.setCell (by simp) _).setCell (by simp) _).setCell (by simp) _).setCell (by simp) _).setCell (by simp) _).setCell (by simp) _

set_option maxRecDepth 100000 in
set_option maxHeartbeats 1000000 in
theorem rchoose_YE (v u : Value) (L M : List Nat) (w : World) (hv : Bs w v L) (hu : Bs w u M) (q0 q1 q2 q3 q4 q5 ex r0 r1 r2 r3 r4 r5 ey : Int)
    (hp : ∀ w, Bs w v L → Calls Try.prog 20 #[v] w fun e w' => e = .returned (.tuple #[.agg #[.int .i64 q0, .int .i64 q1, .int .i64 q2, .int .i64 q3, .int .i64 q4, .int .i64 q5], .int .i64 ex]) ∧ Below w.heap.size w w')
    (hq : ∀ w, Bs w u M → Calls Try.prog 20 #[u] w fun e w' => e = .returned (.tuple #[.agg #[.int .i64 r0, .int .i64 r1, .int .i64 r2, .int .i64 r3, .int .i64 r4, .int .i64 r5], .int .i64 ey]) ∧ Below w.heap.size w w') (hx0 : ex = 0) (hx1 : (slotS q0 == 0) = true) (hy0 : (ey == 0) = false) :
    Calls Try.prog 24 #[v, u] w fun e w' => e = .returned (.tuple #[.agg #[.int .i64 q0, .int .i64 q1, .int .i64 q2, .int .i64 q3, .int .i64 q4, .int .i64 q5], .int .i64 0]) ∧ Below w.heap.size w w' := by
  subst hx0
  have hr := SupAt.new w 0 0 0 0 0 0
  have hv1 := hv.alloc (.cells #[.int .i64 0, .int .i64 0, .int .i64 0, .int .i64 0, .int .i64 0, .int .i64 0] 25)
  have hu1 := hu.alloc (.cells #[.int .i64 0, .int .i64 0, .int .i64 0, .int .i64 0, .int .i64 0, .int .i64 0] 25)
  obtain ⟨ao, cap, rfl, -⟩ := id hv
  obtain ⟨bo, cbp, rfl, -⟩ := id hu
  go_enter Try.func24, Try.ntmps24
  go_wp2_with fail
  refine (hp _ hv1).mono ?_
  rintro e w1 ⟨rfl, hb1⟩
  have hr1 := (hr.mono hb1).alloc (.cells #[.int .i64 q0, .int .i64 q1, .int .i64 q2, .int .i64 q3, .int .i64 q4, .int .i64 q5] 25)
  have hx1' := SupAt.new w1 q0 q1 q2 q3 q4 q5
  have hu2 := (hu1.mono hb1).alloc (.cells #[.int .i64 q0, .int .i64 q1, .int .i64 q2, .int .i64 q3, .int .i64 q4, .int .i64 q5] 25)
  have hB1 : Below w.heap.size w w1 := ((Below.refl _ w).alloc (Nat.le_refl _) _).trans (hb1.mono (by simp))
  have hne : w.heap.size < w1.heap.size := by have := hb1.size; simp at this; omega
  have hB2 := hB1.alloc hB1.size (.cells #[.int .i64 q0, .int .i64 q1, .int .i64 q2, .int .i64 q3, .int .i64 q4, .int .i64 q5] 25)
  have hz1 : w1.heap.size < (w1.alloc (.cells #[.int .i64 q0, .int .i64 q1, .int .i64 q2, .int .i64 q3, .int .i64 q4, .int .i64 q5] 25)).heap.size := by simp
  clear hb1 hr hv1 hB1 hv hp hu1 hu
  go_wp2_with fail
  refine (hq _ hu2).mono ?_
  rintro e w2 ⟨rfl, hb2⟩
  have hr3 := hr1.mono hb2
  have hr2 := hr3.alloc (.cells #[.int .i64 r0, .int .i64 r1, .int .i64 r2, .int .i64 r3, .int .i64 r4, .int .i64 r5] 25)
  have hx2 := (hx1'.mono hb2).alloc (.cells #[.int .i64 r0, .int .i64 r1, .int .i64 r2, .int .i64 r3, .int .i64 r4, .int .i64 r5] 25)
  have hy2 := SupAt.new w2 r0 r1 r2 r3 r4 r5
  have hB3 := hB2.trans (hb2.mono hB2.size)
  have hBU := hB3.alloc hB3.size (.cells #[.int .i64 r0, .int .i64 r1, .int .i64 r2, .int .i64 r3, .int .i64 r4, .int .i64 r5] 25)
  have hne2 : w1.heap.size < w2.heap.size := Nat.lt_of_lt_of_le hz1 hb2.size
  clear hb2 hr1 hx1' hu2 hB2 hq hz1
  obtain ⟨c0, c1, c2, c3, c4, c5, Fc0, Fc1, Fc2, Fc3, Fc4, Fc5, lc⟩ := id hr3
  obtain ⟨d0, d1, d2, d3, d4, d5, Fd0, Fd1, Fd2, Fd3, Fd4, Fd5, ld⟩ := id hx2
  obtain ⟨g0, g1, g2, g3, g4, g5, Fg0, Fg1, Fg2, Fg3, Fg4, Fg5, lg⟩ := id hy2
  go_wp2_with fail
  refine (rslot_any q0 q1 q2 q3 q4 q5 _).mono ?_
  rintro e w3 ⟨rfl, hb3⟩
  clear c0 c1 c2 c3 c4 c5 d0 d1 d2 d3 d4 d5 g0 g1 g2 g3 g4 g5
  replace hr2 := hr2.mono hb3
  replace hx2 := hx2.mono hb3
  replace hy2 := hy2.mono hb3
  replace hBU := hBU.trans (hb3.mono hBU.size)
  clear hb3
  obtain ⟨c0, c1, c2, c3, c4, c5, Fc0, Fc1, Fc2, Fc3, Fc4, Fc5, lc⟩ := id hr2
  obtain ⟨d0, d1, d2, d3, d4, d5, Fd0, Fd1, Fd2, Fd3, Fd4, Fd5, ld⟩ := id hx2
  obtain ⟨g0, g1, g2, g3, g4, g5, Fg0, Fg1, Fg2, Fg3, Fg4, Fg5, lg⟩ := id hy2
  generalize hSq : slotS q0 = sq at *
  clear hSq
  go_wp2_with fail
  refine bodyPost_ret (v := .tuple #[.agg #[.int .i64 q0, .int .i64 q1, .int .i64 q2, .int .i64 q3, .int .i64 q4, .int .i64 q5], .int .i64 0]) (by simp [results, Try.results24, go_sem, c0, c1, c2, c3, c4, c5]) rfl ⟨rfl, ?_⟩
  exact (((((hBU.setCell (by simp) _).setCell (by simp) _).setCell (by simp) _).setCell (by simp) _).setCell (by simp) _).setCell (by simp) _

set_option maxRecDepth 100000 in
set_option maxHeartbeats 1000000 in
theorem rchoose_YN (v u : Value) (L M : List Nat) (w : World) (hv : Bs w v L) (hu : Bs w u M) (q0 q1 q2 q3 q4 q5 ex r0 r1 r2 r3 r4 r5 ey : Int)
    (hp : ∀ w, Bs w v L → Calls Try.prog 20 #[v] w fun e w' => e = .returned (.tuple #[.agg #[.int .i64 q0, .int .i64 q1, .int .i64 q2, .int .i64 q3, .int .i64 q4, .int .i64 q5], .int .i64 ex]) ∧ Below w.heap.size w w')
    (hq : ∀ w, Bs w u M → Calls Try.prog 20 #[u] w fun e w' => e = .returned (.tuple #[.agg #[.int .i64 r0, .int .i64 r1, .int .i64 r2, .int .i64 r3, .int .i64 r4, .int .i64 r5], .int .i64 ey]) ∧ Below w.heap.size w w') (hx0 : ex = 0) (hx1 : (slotS q0 == 0) = true) (hy0 : ey = 0) (hy1 : (slotS r0 == 1) = false) :
    Calls Try.prog 24 #[v, u] w fun e w' => e = .returned (.tuple #[.agg #[.int .i64 q0, .int .i64 q1, .int .i64 q2, .int .i64 q3, .int .i64 q4, .int .i64 q5], .int .i64 0]) ∧ Below w.heap.size w w' := by
  subst hx0
  subst hy0
  have hr := SupAt.new w 0 0 0 0 0 0
  have hv1 := hv.alloc (.cells #[.int .i64 0, .int .i64 0, .int .i64 0, .int .i64 0, .int .i64 0, .int .i64 0] 25)
  have hu1 := hu.alloc (.cells #[.int .i64 0, .int .i64 0, .int .i64 0, .int .i64 0, .int .i64 0, .int .i64 0] 25)
  obtain ⟨ao, cap, rfl, -⟩ := id hv
  obtain ⟨bo, cbp, rfl, -⟩ := id hu
  go_enter Try.func24, Try.ntmps24
  go_wp2_with fail
  refine (hp _ hv1).mono ?_
  rintro e w1 ⟨rfl, hb1⟩
  have hr1 := (hr.mono hb1).alloc (.cells #[.int .i64 q0, .int .i64 q1, .int .i64 q2, .int .i64 q3, .int .i64 q4, .int .i64 q5] 25)
  have hx1' := SupAt.new w1 q0 q1 q2 q3 q4 q5
  have hu2 := (hu1.mono hb1).alloc (.cells #[.int .i64 q0, .int .i64 q1, .int .i64 q2, .int .i64 q3, .int .i64 q4, .int .i64 q5] 25)
  have hB1 : Below w.heap.size w w1 := ((Below.refl _ w).alloc (Nat.le_refl _) _).trans (hb1.mono (by simp))
  have hne : w.heap.size < w1.heap.size := by have := hb1.size; simp at this; omega
  have hB2 := hB1.alloc hB1.size (.cells #[.int .i64 q0, .int .i64 q1, .int .i64 q2, .int .i64 q3, .int .i64 q4, .int .i64 q5] 25)
  have hz1 : w1.heap.size < (w1.alloc (.cells #[.int .i64 q0, .int .i64 q1, .int .i64 q2, .int .i64 q3, .int .i64 q4, .int .i64 q5] 25)).heap.size := by simp
  clear hb1 hr hv1 hB1 hv hp hu1 hu
  go_wp2_with fail
  refine (hq _ hu2).mono ?_
  rintro e w2 ⟨rfl, hb2⟩
  have hr3 := hr1.mono hb2
  have hr2 := hr3.alloc (.cells #[.int .i64 r0, .int .i64 r1, .int .i64 r2, .int .i64 r3, .int .i64 r4, .int .i64 r5] 25)
  have hx2 := (hx1'.mono hb2).alloc (.cells #[.int .i64 r0, .int .i64 r1, .int .i64 r2, .int .i64 r3, .int .i64 r4, .int .i64 r5] 25)
  have hy2 := SupAt.new w2 r0 r1 r2 r3 r4 r5
  have hB3 := hB2.trans (hb2.mono hB2.size)
  have hBU := hB3.alloc hB3.size (.cells #[.int .i64 r0, .int .i64 r1, .int .i64 r2, .int .i64 r3, .int .i64 r4, .int .i64 r5] 25)
  have hne2 : w1.heap.size < w2.heap.size := Nat.lt_of_lt_of_le hz1 hb2.size
  clear hb2 hr1 hx1' hu2 hB2 hq hz1
  obtain ⟨c0, c1, c2, c3, c4, c5, Fc0, Fc1, Fc2, Fc3, Fc4, Fc5, lc⟩ := id hr3
  obtain ⟨d0, d1, d2, d3, d4, d5, Fd0, Fd1, Fd2, Fd3, Fd4, Fd5, ld⟩ := id hx2
  obtain ⟨g0, g1, g2, g3, g4, g5, Fg0, Fg1, Fg2, Fg3, Fg4, Fg5, lg⟩ := id hy2
  go_wp2_with fail
  refine (rslot_any q0 q1 q2 q3 q4 q5 _).mono ?_
  rintro e w3 ⟨rfl, hb3⟩
  clear c0 c1 c2 c3 c4 c5 d0 d1 d2 d3 d4 d5 g0 g1 g2 g3 g4 g5
  replace hr2 := hr2.mono hb3
  replace hx2 := hx2.mono hb3
  replace hy2 := hy2.mono hb3
  replace hBU := hBU.trans (hb3.mono hBU.size)
  clear hb3
  obtain ⟨c0, c1, c2, c3, c4, c5, Fc0, Fc1, Fc2, Fc3, Fc4, Fc5, lc⟩ := id hr2
  obtain ⟨d0, d1, d2, d3, d4, d5, Fd0, Fd1, Fd2, Fd3, Fd4, Fd5, ld⟩ := id hx2
  obtain ⟨g0, g1, g2, g3, g4, g5, Fg0, Fg1, Fg2, Fg3, Fg4, Fg5, lg⟩ := id hy2
  generalize hSq : slotS q0 = sq at *
  clear hSq
  go_wp2_with fail
  refine (rslot_any r0 r1 r2 r3 r4 r5 _).mono ?_
  rintro e w4 ⟨rfl, hb4⟩
  clear c0 c1 c2 c3 c4 c5 d0 d1 d2 d3 d4 d5 g0 g1 g2 g3 g4 g5
  replace hr2 := hr2.mono hb4
  replace hx2 := hx2.mono hb4
  replace hy2 := hy2.mono hb4
  replace hBU := hBU.trans (hb4.mono hBU.size)
  clear hb4
  obtain ⟨c0, c1, c2, c3, c4, c5, Fc0, Fc1, Fc2, Fc3, Fc4, Fc5, lc⟩ := id hr2
  obtain ⟨d0, d1, d2, d3, d4, d5, Fd0, Fd1, Fd2, Fd3, Fd4, Fd5, ld⟩ := id hx2
  obtain ⟨g0, g1, g2, g3, g4, g5, Fg0, Fg1, Fg2, Fg3, Fg4, Fg5, lg⟩ := id hy2
  generalize hSr : slotS r0 = sr at *
  clear hSr
  go_wp2_with fail
  refine bodyPost_ret (v := .tuple #[.agg #[.int .i64 q0, .int .i64 q1, .int .i64 q2, .int .i64 q3, .int .i64 q4, .int .i64 q5], .int .i64 0]) (by simp [results, Try.results24, go_sem, c0, c1, c2, c3, c4, c5]) rfl ⟨rfl, ?_⟩
  exact (((((hBU.setCell (by simp) _).setCell (by simp) _).setCell (by simp) _).setCell (by simp) _).setCell (by simp) _).setCell (by simp) _

set_option maxRecDepth 100000 in
set_option maxHeartbeats 1000000 in
theorem rchoose_YYq (v u : Value) (L M : List Nat) (w : World) (hv : Bs w v L) (hu : Bs w u M) (q0 q1 q2 q3 q4 q5 ex r0 r1 r2 r3 r4 r5 ey : Int)
    (hp : ∀ w, Bs w v L → Calls Try.prog 20 #[v] w fun e w' => e = .returned (.tuple #[.agg #[.int .i64 q0, .int .i64 q1, .int .i64 q2, .int .i64 q3, .int .i64 q4, .int .i64 q5], .int .i64 ex]) ∧ Below w.heap.size w w')
    (hq : ∀ w, Bs w u M → Calls Try.prog 20 #[u] w fun e w' => e = .returned (.tuple #[.agg #[.int .i64 r0, .int .i64 r1, .int .i64 r2, .int .i64 r3, .int .i64 r4, .int .i64 r5], .int .i64 ey]) ∧ Below w.heap.size w w') (hx0 : ex = 0) (hx1 : (slotS q0 == 0) = true) (hy0 : ey = 0) (hy1 : (slotS r0 == 1) = true) (hcmp : r0 < q0) :
    Calls Try.prog 24 #[v, u] w fun e w' => e = .returned (.tuple #[.agg #[.int .i64 q0, .int .i64 q1, .int .i64 q2, .int .i64 q3, .int .i64 q4, .int .i64 q5], .int .i64 0]) ∧ Below w.heap.size w w' := by
  subst hx0
  subst hy0
  have hr := SupAt.new w 0 0 0 0 0 0
  have hv1 := hv.alloc (.cells #[.int .i64 0, .int .i64 0, .int .i64 0, .int .i64 0, .int .i64 0, .int .i64 0] 25)
  have hu1 := hu.alloc (.cells #[.int .i64 0, .int .i64 0, .int .i64 0, .int .i64 0, .int .i64 0, .int .i64 0] 25)
  obtain ⟨ao, cap, rfl, -⟩ := id hv
  obtain ⟨bo, cbp, rfl, -⟩ := id hu
  go_enter Try.func24, Try.ntmps24
  go_wp2_with fail
  refine (hp _ hv1).mono ?_
  rintro e w1 ⟨rfl, hb1⟩
  have hr1 := (hr.mono hb1).alloc (.cells #[.int .i64 q0, .int .i64 q1, .int .i64 q2, .int .i64 q3, .int .i64 q4, .int .i64 q5] 25)
  have hx1' := SupAt.new w1 q0 q1 q2 q3 q4 q5
  have hu2 := (hu1.mono hb1).alloc (.cells #[.int .i64 q0, .int .i64 q1, .int .i64 q2, .int .i64 q3, .int .i64 q4, .int .i64 q5] 25)
  have hB1 : Below w.heap.size w w1 := ((Below.refl _ w).alloc (Nat.le_refl _) _).trans (hb1.mono (by simp))
  have hne : w.heap.size < w1.heap.size := by have := hb1.size; simp at this; omega
  have hB2 := hB1.alloc hB1.size (.cells #[.int .i64 q0, .int .i64 q1, .int .i64 q2, .int .i64 q3, .int .i64 q4, .int .i64 q5] 25)
  have hz1 : w1.heap.size < (w1.alloc (.cells #[.int .i64 q0, .int .i64 q1, .int .i64 q2, .int .i64 q3, .int .i64 q4, .int .i64 q5] 25)).heap.size := by simp
  clear hb1 hr hv1 hB1 hv hp hu1 hu
  go_wp2_with fail
  refine (hq _ hu2).mono ?_
  rintro e w2 ⟨rfl, hb2⟩
  have hr3 := hr1.mono hb2
  have hr2 := hr3.alloc (.cells #[.int .i64 r0, .int .i64 r1, .int .i64 r2, .int .i64 r3, .int .i64 r4, .int .i64 r5] 25)
  have hx2 := (hx1'.mono hb2).alloc (.cells #[.int .i64 r0, .int .i64 r1, .int .i64 r2, .int .i64 r3, .int .i64 r4, .int .i64 r5] 25)
  have hy2 := SupAt.new w2 r0 r1 r2 r3 r4 r5
  have hB3 := hB2.trans (hb2.mono hB2.size)
  have hBU := hB3.alloc hB3.size (.cells #[.int .i64 r0, .int .i64 r1, .int .i64 r2, .int .i64 r3, .int .i64 r4, .int .i64 r5] 25)
  have hne2 : w1.heap.size < w2.heap.size := Nat.lt_of_lt_of_le hz1 hb2.size
  clear hb2 hr1 hx1' hu2 hB2 hq hz1
  obtain ⟨c0, c1, c2, c3, c4, c5, Fc0, Fc1, Fc2, Fc3, Fc4, Fc5, lc⟩ := id hr3
  obtain ⟨d0, d1, d2, d3, d4, d5, Fd0, Fd1, Fd2, Fd3, Fd4, Fd5, ld⟩ := id hx2
  obtain ⟨g0, g1, g2, g3, g4, g5, Fg0, Fg1, Fg2, Fg3, Fg4, Fg5, lg⟩ := id hy2
  go_wp2_with fail
  refine (rslot_any q0 q1 q2 q3 q4 q5 _).mono ?_
  rintro e w3 ⟨rfl, hb3⟩
  clear c0 c1 c2 c3 c4 c5 d0 d1 d2 d3 d4 d5 g0 g1 g2 g3 g4 g5
  replace hr2 := hr2.mono hb3
  replace hx2 := hx2.mono hb3
  replace hy2 := hy2.mono hb3
  replace hBU := hBU.trans (hb3.mono hBU.size)
  clear hb3
  obtain ⟨c0, c1, c2, c3, c4, c5, Fc0, Fc1, Fc2, Fc3, Fc4, Fc5, lc⟩ := id hr2
  obtain ⟨d0, d1, d2, d3, d4, d5, Fd0, Fd1, Fd2, Fd3, Fd4, Fd5, ld⟩ := id hx2
  obtain ⟨g0, g1, g2, g3, g4, g5, Fg0, Fg1, Fg2, Fg3, Fg4, Fg5, lg⟩ := id hy2
  generalize hSq : slotS q0 = sq at *
  clear hSq
  go_wp2_with fail
  refine (rslot_any r0 r1 r2 r3 r4 r5 _).mono ?_
  rintro e w4 ⟨rfl, hb4⟩
  clear c0 c1 c2 c3 c4 c5 d0 d1 d2 d3 d4 d5 g0 g1 g2 g3 g4 g5
  replace hr2 := hr2.mono hb4
  replace hx2 := hx2.mono hb4
  replace hy2 := hy2.mono hb4
  replace hBU := hBU.trans (hb4.mono hBU.size)
  clear hb4
  obtain ⟨c0, c1, c2, c3, c4, c5, Fc0, Fc1, Fc2, Fc3, Fc4, Fc5, lc⟩ := id hr2
  obtain ⟨d0, d1, d2, d3, d4, d5, Fd0, Fd1, Fd2, Fd3, Fd4, Fd5, ld⟩ := id hx2
  obtain ⟨g0, g1, g2, g3, g4, g5, Fg0, Fg1, Fg2, Fg3, Fg4, Fg5, lg⟩ := id hy2
  generalize hSr : slotS r0 = sr at *
  clear hSr
  go_wp2_with fail
  refine bodyPost_ret (v := .tuple #[.agg #[.int .i64 q0, .int .i64 q1, .int .i64 q2, .int .i64 q3, .int .i64 q4, .int .i64 q5], .int .i64 0]) (by simp [results, Try.results24, go_sem, c0, c1, c2, c3, c4, c5]) rfl ⟨rfl, ?_⟩
  exact (((((hBU.setCell (by simp) _).setCell (by simp) _).setCell (by simp) _).setCell (by simp) _).setCell (by simp) _).setCell (by simp) _

set_option maxRecDepth 100000 in
set_option maxHeartbeats 1000000 in
theorem rchoose_YYr (v u : Value) (L M : List Nat) (w : World) (hv : Bs w v L) (hu : Bs w u M) (q0 q1 q2 q3 q4 q5 ex r0 r1 r2 r3 r4 r5 ey : Int)
    (hp : ∀ w, Bs w v L → Calls Try.prog 20 #[v] w fun e w' => e = .returned (.tuple #[.agg #[.int .i64 q0, .int .i64 q1, .int .i64 q2, .int .i64 q3, .int .i64 q4, .int .i64 q5], .int .i64 ex]) ∧ Below w.heap.size w w')
    (hq : ∀ w, Bs w u M → Calls Try.prog 20 #[u] w fun e w' => e = .returned (.tuple #[.agg #[.int .i64 r0, .int .i64 r1, .int .i64 r2, .int .i64 r3, .int .i64 r4, .int .i64 r5], .int .i64 ey]) ∧ Below w.heap.size w w') (hx0 : ex = 0) (hx1 : (slotS q0 == 0) = true) (hy0 : ey = 0) (hy1 : (slotS r0 == 1) = true) (hcmp : q0 ≤ r0) :
    Calls Try.prog 24 #[v, u] w fun e w' => e = .returned (.tuple #[.agg #[.int .i64 r0, .int .i64 r1, .int .i64 r2, .int .i64 r3, .int .i64 r4, .int .i64 r5], .int .i64 0]) ∧ Below w.heap.size w w' := by
  subst hx0
  subst hy0
  have hr := SupAt.new w 0 0 0 0 0 0
  have hv1 := hv.alloc (.cells #[.int .i64 0, .int .i64 0, .int .i64 0, .int .i64 0, .int .i64 0, .int .i64 0] 25)
  have hu1 := hu.alloc (.cells #[.int .i64 0, .int .i64 0, .int .i64 0, .int .i64 0, .int .i64 0, .int .i64 0] 25)
  obtain ⟨ao, cap, rfl, -⟩ := id hv
  obtain ⟨bo, cbp, rfl, -⟩ := id hu
  go_enter Try.func24, Try.ntmps24
  go_wp2_with fail
  refine (hp _ hv1).mono ?_
  rintro e w1 ⟨rfl, hb1⟩
  have hr1 := (hr.mono hb1).alloc (.cells #[.int .i64 q0, .int .i64 q1, .int .i64 q2, .int .i64 q3, .int .i64 q4, .int .i64 q5] 25)
  have hx1' := SupAt.new w1 q0 q1 q2 q3 q4 q5
  have hu2 := (hu1.mono hb1).alloc (.cells #[.int .i64 q0, .int .i64 q1, .int .i64 q2, .int .i64 q3, .int .i64 q4, .int .i64 q5] 25)
  have hB1 : Below w.heap.size w w1 := ((Below.refl _ w).alloc (Nat.le_refl _) _).trans (hb1.mono (by simp))
  have hne : w.heap.size < w1.heap.size := by have := hb1.size; simp at this; omega
  have hB2 := hB1.alloc hB1.size (.cells #[.int .i64 q0, .int .i64 q1, .int .i64 q2, .int .i64 q3, .int .i64 q4, .int .i64 q5] 25)
  have hz1 : w1.heap.size < (w1.alloc (.cells #[.int .i64 q0, .int .i64 q1, .int .i64 q2, .int .i64 q3, .int .i64 q4, .int .i64 q5] 25)).heap.size := by simp
  clear hb1 hr hv1 hB1 hv hp hu1 hu
  go_wp2_with fail
  refine (hq _ hu2).mono ?_
  rintro e w2 ⟨rfl, hb2⟩
  have hr3 := hr1.mono hb2
  have hr2 := hr3.alloc (.cells #[.int .i64 r0, .int .i64 r1, .int .i64 r2, .int .i64 r3, .int .i64 r4, .int .i64 r5] 25)
  have hx2 := (hx1'.mono hb2).alloc (.cells #[.int .i64 r0, .int .i64 r1, .int .i64 r2, .int .i64 r3, .int .i64 r4, .int .i64 r5] 25)
  have hy2 := SupAt.new w2 r0 r1 r2 r3 r4 r5
  have hB3 := hB2.trans (hb2.mono hB2.size)
  have hBU := hB3.alloc hB3.size (.cells #[.int .i64 r0, .int .i64 r1, .int .i64 r2, .int .i64 r3, .int .i64 r4, .int .i64 r5] 25)
  have hne2 : w1.heap.size < w2.heap.size := Nat.lt_of_lt_of_le hz1 hb2.size
  clear hb2 hr1 hx1' hu2 hB2 hq hz1
  obtain ⟨c0, c1, c2, c3, c4, c5, Fc0, Fc1, Fc2, Fc3, Fc4, Fc5, lc⟩ := id hr3
  obtain ⟨d0, d1, d2, d3, d4, d5, Fd0, Fd1, Fd2, Fd3, Fd4, Fd5, ld⟩ := id hx2
  obtain ⟨g0, g1, g2, g3, g4, g5, Fg0, Fg1, Fg2, Fg3, Fg4, Fg5, lg⟩ := id hy2
  go_wp2_with fail
  refine (rslot_any q0 q1 q2 q3 q4 q5 _).mono ?_
  rintro e w3 ⟨rfl, hb3⟩
  clear c0 c1 c2 c3 c4 c5 d0 d1 d2 d3 d4 d5 g0 g1 g2 g3 g4 g5
  replace hr2 := hr2.mono hb3
  replace hx2 := hx2.mono hb3
  replace hy2 := hy2.mono hb3
  replace hBU := hBU.trans (hb3.mono hBU.size)
  clear hb3
  obtain ⟨c0, c1, c2, c3, c4, c5, Fc0, Fc1, Fc2, Fc3, Fc4, Fc5, lc⟩ := id hr2
  obtain ⟨d0, d1, d2, d3, d4, d5, Fd0, Fd1, Fd2, Fd3, Fd4, Fd5, ld⟩ := id hx2
  obtain ⟨g0, g1, g2, g3, g4, g5, Fg0, Fg1, Fg2, Fg3, Fg4, Fg5, lg⟩ := id hy2
  generalize hSq : slotS q0 = sq at *
  clear hSq
  go_wp2_with fail
  refine (rslot_any r0 r1 r2 r3 r4 r5 _).mono ?_
  rintro e w4 ⟨rfl, hb4⟩
  clear c0 c1 c2 c3 c4 c5 d0 d1 d2 d3 d4 d5 g0 g1 g2 g3 g4 g5
  replace hr2 := hr2.mono hb4
  replace hx2 := hx2.mono hb4
  replace hy2 := hy2.mono hb4
  replace hBU := hBU.trans (hb4.mono hBU.size)
  clear hb4
  obtain ⟨c0, c1, c2, c3, c4, c5, Fc0, Fc1, Fc2, Fc3, Fc4, Fc5, lc⟩ := id hr2
  obtain ⟨d0, d1, d2, d3, d4, d5, Fd0, Fd1, Fd2, Fd3, Fd4, Fd5, ld⟩ := id hx2
  obtain ⟨g0, g1, g2, g3, g4, g5, Fg0, Fg1, Fg2, Fg3, Fg4, Fg5, lg⟩ := id hy2
  generalize hSr : slotS r0 = sr at *
  clear hSr
  go_wp2_with fail
  refine bodyPost_ret (v := .tuple #[.agg #[.int .i64 r0, .int .i64 r1, .int .i64 r2, .int .i64 r3, .int .i64 r4, .int .i64 r5], .int .i64 0]) (by simp [results, Try.results24, go_sem, c0, c1, c2, c3, c4, c5]) rfl ⟨rfl, ?_⟩
  exact (((((hBU.setCell (by simp) _).setCell (by simp) _).setCell (by simp) _).setCell (by simp) _).setCell (by simp) _).setCell (by simp) _

end Go.Proofs.Ytfjkmgfjlckmlaa
