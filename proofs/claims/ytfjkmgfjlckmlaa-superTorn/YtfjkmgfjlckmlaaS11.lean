/- Contracts: standing and Choose, whatever Parse answers. -/
import Derived.Test.YtfjkmgfjlckmlaaS3
import Derived.Test.YtfjkmgfjlckmlaaMark
set_option linter.unusedSimpArgs false
set_option linter.unusedVariables false
namespace Go.Proofs.Ytfjkmgfjlckmlaa
open Go.RowKit Go.Attic

theorem cell_set_o {w : World} {g o o' : Nat} {u v : Value} (h : w.cell? ⟨g, o', none⟩ = some v) (hne : o ≠ o') : (w.setCell ⟨g, o, none⟩ u).cell? ⟨g, o', none⟩ = some v := by
  rw [World.cell?_setCell_other _ _ _ _ (by intro e; injection e with e1 e2; omega)]
  exact h
theorem cell_set_s {w : World} {g o : Nat} {u v : Value} (h : w.cell? ⟨g, o, none⟩ = some v) : (w.setCell ⟨g, o, none⟩ u).cell? ⟨g, o, none⟩ = some u := by
  exact World.cell?_setCell_same _ _ _ h
theorem cell_set_b {w : World} {g g' o o' : Nat} {u v : Value} (h : w.cell? ⟨g, o', none⟩ = some v) (hne : g' ≠ g) : (w.setCell ⟨g', o, none⟩ u).cell? ⟨g, o', none⟩ = some v := by
  rw [World.cell?_setCell_other _ _ _ _ (by intro e; injection e with e1 e2; omega)]
  exact h
theorem SupAt.setOther {w : World} {g g' o : Nat} {u : Value} {a0 a1 a2 a3 a4 a5 : Int} (h : SupAt w g a0 a1 a2 a3 a4 a5) (hne : g' ≠ g) : SupAt (w.setCell ⟨g', o, none⟩ u) g a0 a1 a2 a3 a4 a5 :=
  ⟨cell_set_b h.c0 hne, cell_set_b h.c1 hne, cell_set_b h.c2 hne, cell_set_b h.c3 hne, cell_set_b h.c4 hne, cell_set_b h.c5 hne, by simpa using h.f0, by simpa using h.f1, by simpa using h.f2, by simpa using h.f3, by simpa using h.f4, by simpa using h.f5, by simpa using h.lt⟩
theorem SupAt.set0 {w : World} {g : Nat} {a0 a1 a2 a3 a4 a5 : Int} (h : SupAt w g a0 a1 a2 a3 a4 a5) (y : Int) : SupAt (w.setCell ⟨g, 0, none⟩ (.int .i64 y)) g y a1 a2 a3 a4 a5 :=
  ⟨cell_set_s h.c0, cell_set_o h.c1 (by omega), cell_set_o h.c2 (by omega), cell_set_o h.c3 (by omega), cell_set_o h.c4 (by omega), cell_set_o h.c5 (by omega), by simpa using h.f0, by simpa using h.f1, by simpa using h.f2, by simpa using h.f3, by simpa using h.f4, by simpa using h.f5, by simpa using h.lt⟩
theorem SupAt.set1 {w : World} {g : Nat} {a0 a1 a2 a3 a4 a5 : Int} (h : SupAt w g a0 a1 a2 a3 a4 a5) (y : Int) : SupAt (w.setCell ⟨g, 1, none⟩ (.int .i64 y)) g a0 y a2 a3 a4 a5 :=
  ⟨cell_set_o h.c0 (by omega), cell_set_s h.c1, cell_set_o h.c2 (by omega), cell_set_o h.c3 (by omega), cell_set_o h.c4 (by omega), cell_set_o h.c5 (by omega), by simpa using h.f0, by simpa using h.f1, by simpa using h.f2, by simpa using h.f3, by simpa using h.f4, by simpa using h.f5, by simpa using h.lt⟩
theorem SupAt.set2 {w : World} {g : Nat} {a0 a1 a2 a3 a4 a5 : Int} (h : SupAt w g a0 a1 a2 a3 a4 a5) (y : Int) : SupAt (w.setCell ⟨g, 2, none⟩ (.int .i64 y)) g a0 a1 y a3 a4 a5 :=
  ⟨cell_set_o h.c0 (by omega), cell_set_o h.c1 (by omega), cell_set_s h.c2, cell_set_o h.c3 (by omega), cell_set_o h.c4 (by omega), cell_set_o h.c5 (by omega), by simpa using h.f0, by simpa using h.f1, by simpa using h.f2, by simpa using h.f3, by simpa using h.f4, by simpa using h.f5, by simpa using h.lt⟩
theorem SupAt.set3 {w : World} {g : Nat} {a0 a1 a2 a3 a4 a5 : Int} (h : SupAt w g a0 a1 a2 a3 a4 a5) (y : Int) : SupAt (w.setCell ⟨g, 3, none⟩ (.int .i64 y)) g a0 a1 a2 y a4 a5 :=
  ⟨cell_set_o h.c0 (by omega), cell_set_o h.c1 (by omega), cell_set_o h.c2 (by omega), cell_set_s h.c3, cell_set_o h.c4 (by omega), cell_set_o h.c5 (by omega), by simpa using h.f0, by simpa using h.f1, by simpa using h.f2, by simpa using h.f3, by simpa using h.f4, by simpa using h.f5, by simpa using h.lt⟩
theorem SupAt.set4 {w : World} {g : Nat} {a0 a1 a2 a3 a4 a5 : Int} (h : SupAt w g a0 a1 a2 a3 a4 a5) (y : Int) : SupAt (w.setCell ⟨g, 4, none⟩ (.int .i64 y)) g a0 a1 a2 a3 y a5 :=
  ⟨cell_set_o h.c0 (by omega), cell_set_o h.c1 (by omega), cell_set_o h.c2 (by omega), cell_set_o h.c3 (by omega), cell_set_s h.c4, cell_set_o h.c5 (by omega), by simpa using h.f0, by simpa using h.f1, by simpa using h.f2, by simpa using h.f3, by simpa using h.f4, by simpa using h.f5, by simpa using h.lt⟩
theorem SupAt.set5 {w : World} {g : Nat} {a0 a1 a2 a3 a4 a5 : Int} (h : SupAt w g a0 a1 a2 a3 a4 a5) (y : Int) : SupAt (w.setCell ⟨g, 5, none⟩ (.int .i64 y)) g a0 a1 a2 a3 a4 y :=
  ⟨cell_set_o h.c0 (by omega), cell_set_o h.c1 (by omega), cell_set_o h.c2 (by omega), cell_set_o h.c3 (by omega), cell_set_o h.c4 (by omega), cell_set_s h.c5, by simpa using h.f0, by simpa using h.f1, by simpa using h.f2, by simpa using h.f3, by simpa using h.f4, by simpa using h.f5, by simpa using h.lt⟩
theorem SupAt.setAll {w : World} {g : Nat} {a0 a1 a2 a3 a4 a5 : Int} (h : SupAt w g a0 a1 a2 a3 a4 a5) (b0 b1 b2 b3 b4 b5 : Int) : SupAt (((((((w).setCell ⟨g, 0, none⟩ (.int .i64 b0)).setCell ⟨g, 1, none⟩ (.int .i64 b1)).setCell ⟨g, 2, none⟩ (.int .i64 b2)).setCell ⟨g, 3, none⟩ (.int .i64 b3)).setCell ⟨g, 4, none⟩ (.int .i64 b4)).setCell ⟨g, 5, none⟩ (.int .i64 b5)) g b0 b1 b2 b3 b4 b5 :=
  (((((h.set0 b0).set1 b1).set2 b2).set3 b3).set4 b4).set5 b5
theorem SupAt.setOthers {w : World} {g g' : Nat} {a0 a1 a2 a3 a4 a5 : Int} (h : SupAt w g a0 a1 a2 a3 a4 a5) (hne : g' ≠ g) (b0 b1 b2 b3 b4 b5 : Int) : SupAt (((((((w).setCell ⟨g', 0, none⟩ (.int .i64 b0)).setCell ⟨g', 1, none⟩ (.int .i64 b1)).setCell ⟨g', 2, none⟩ (.int .i64 b2)).setCell ⟨g', 3, none⟩ (.int .i64 b3)).setCell ⟨g', 4, none⟩ (.int .i64 b4)).setCell ⟨g', 5, none⟩ (.int .i64 b5)) g a0 a1 a2 a3 a4 a5 :=
  (((((h.setOther hne).setOther hne).setOther hne).setOther hne).setOther hne).setOther hne

set_option maxRecDepth 100000 in
set_option maxHeartbeats 1000000 in
theorem stand_err (v : Value) (L : List Nat) (sl : Int) (w : World) (hv : Bs w v L) (q0 q1 q2 q3 q4 q5 er : Int)
    (hp : ∀ w, Bs w v L → Calls Try.prog 19 #[v] w fun e w' => e = .returned (.tuple #[.agg #[.int .i64 q0, .int .i64 q1, .int .i64 q2, .int .i64 q3, .int .i64 q4, .int .i64 q5], .int .i64 er]) ∧ Below w.heap.size w w') (herr : (er != 0) = true) :
    Calls Try.prog 35 #[v, .int .i64 sl] w fun e w' => e = .returned (.agg #[.int .i64 0, .int .i64 0, .int .i64 0, .int .i64 0, .int .i64 0, .int .i64 0]) ∧ Below w.heap.size w w' := by
  have hr := SupAt.new w 0 0 0 0 0 0
  have hv1 := hv.alloc (.cells #[.int .i64 0, .int .i64 0, .int .i64 0, .int .i64 0, .int .i64 0, .int .i64 0] 25)
  obtain ⟨ao, cap, rfl, -⟩ := id hv
  go_enter Try.func35, Try.ntmps35
  go_wp2_with fail
  refine (hp _ hv1).mono ?_
  rintro e w1 ⟨rfl, hb1⟩
  have hr1 := (hr.mono hb1).alloc (.cells #[.int .i64 q0, .int .i64 q1, .int .i64 q2, .int .i64 q3, .int .i64 q4, .int .i64 q5] 25)
  have hs1 := SupAt.new w1 q0 q1 q2 q3 q4 q5
  have hB1 : Below w.heap.size w w1 := ((Below.refl _ w).alloc (Nat.le_refl _) _).trans (hb1.mono (by simp))
  have hne : w.heap.size < w1.heap.size := by have := hb1.size; simp at this; omega
  have hBU := hB1.alloc hB1.size (.cells #[.int .i64 q0, .int .i64 q1, .int .i64 q2, .int .i64 q3, .int .i64 q4, .int .i64 q5] 25)
  have hr0 := hr.mono hb1
  clear hb1 hr hv1 hv hp
  obtain ⟨c0, c1, c2, c3, c4, c5, fc0, fc1, fc2, fc3, fc4, fc5, lc⟩ := id hr0
  obtain ⟨d0, d1, d2, d3, d4, d5, fd0, fd1, fd2, fd3, fd4, fd5, ld⟩ := id hs1
  go_wp2_with fail
  obtain ⟨k0, k1, k2, k3, k4, k5, -, -, -, -, -, -, -⟩ := (hr0.setAll 0 0 0 0 0 0).alloc (.cells #[.int .i64 q0, .int .i64 q1, .int .i64 q2, .int .i64 q3, .int .i64 q4, .int .i64 q5] 25)
  refine bodyPost_ret (v := .agg #[.int .i64 0, .int .i64 0, .int .i64 0, .int .i64 0, .int .i64 0, .int .i64 0]) (by simp [results, Try.results35, go_sem, k0, k1, k2, k3, k4, k5]) rfl ⟨rfl, ?_⟩
  exact (((((((hB1.setCell (Nat.le_refl _) _).setCell (Nat.le_refl _) _).setCell (Nat.le_refl _) _).setCell (Nat.le_refl _) _).setCell (Nat.le_refl _) _).setCell (Nat.le_refl _) _).alloc (by simpa using hB1.size) _)

set_option maxRecDepth 100000 in
set_option maxHeartbeats 1000000 in
theorem stand_yes (v : Value) (L : List Nat) (sl : Int) (w : World) (hv : Bs w v L) (q0 q1 q2 q3 q4 q5 er : Int)
    (hp : ∀ w, Bs w v L → Calls Try.prog 19 #[v] w fun e w' => e = .returned (.tuple #[.agg #[.int .i64 q0, .int .i64 q1, .int .i64 q2, .int .i64 q3, .int .i64 q4, .int .i64 q5], .int .i64 er]) ∧ Below w.heap.size w w') (herr : er = 0) (hs : (slotS q0 != sl) = false) :
    Calls Try.prog 35 #[v, .int .i64 sl] w fun e w' => e = .returned (.agg #[.int .i64 q0, .int .i64 q1, .int .i64 q2, .int .i64 q3, .int .i64 q4, .int .i64 q5]) ∧ Below w.heap.size w w' := by
  subst herr
  have hr := SupAt.new w 0 0 0 0 0 0
  have hv1 := hv.alloc (.cells #[.int .i64 0, .int .i64 0, .int .i64 0, .int .i64 0, .int .i64 0, .int .i64 0] 25)
  obtain ⟨ao, cap, rfl, -⟩ := id hv
  go_enter Try.func35, Try.ntmps35
  go_wp2_with fail
  refine (hp _ hv1).mono ?_
  rintro e w1 ⟨rfl, hb1⟩
  have hr1 := (hr.mono hb1).alloc (.cells #[.int .i64 q0, .int .i64 q1, .int .i64 q2, .int .i64 q3, .int .i64 q4, .int .i64 q5] 25)
  have hs1 := SupAt.new w1 q0 q1 q2 q3 q4 q5
  have hB1 : Below w.heap.size w w1 := ((Below.refl _ w).alloc (Nat.le_refl _) _).trans (hb1.mono (by simp))
  have hne : w.heap.size < w1.heap.size := by have := hb1.size; simp at this; omega
  have hBU := hB1.alloc hB1.size (.cells #[.int .i64 q0, .int .i64 q1, .int .i64 q2, .int .i64 q3, .int .i64 q4, .int .i64 q5] 25)
  have hr0 := hr.mono hb1
  clear hb1 hr hv1 hv hp
  obtain ⟨c0, c1, c2, c3, c4, c5, fc0, fc1, fc2, fc3, fc4, fc5, lc⟩ := id hr0
  obtain ⟨d0, d1, d2, d3, d4, d5, fd0, fd1, fd2, fd3, fd4, fd5, ld⟩ := id hs1
  go_wp2_with fail
  refine (slot_any q0 q1 q2 q3 q4 q5 _).mono ?_
  rintro e w2 ⟨rfl, hb2⟩
  clear c0 c1 c2 c3 c4 c5 d0 d1 d2 d3 d4 d5
  replace hr1 := hr1.mono hb2
  replace hs1 := hs1.mono hb2
  replace hBU := hBU.trans (hb2.mono hBU.size)
  obtain ⟨c0, c1, c2, c3, c4, c5, Fc0, Fc1, Fc2, Fc3, Fc4, Fc5, lc⟩ := id hr1
  obtain ⟨d0, d1, d2, d3, d4, d5, Fd0, Fd1, Fd2, Fd3, Fd4, Fd5, ld⟩ := id hs1
  clear hb2
  generalize slotS q0 = sq at *
  go_wp2_with fail
  refine bodyPost_ret (v := .agg #[.int .i64 q0, .int .i64 q1, .int .i64 q2, .int .i64 q3, .int .i64 q4, .int .i64 q5]) (by simp [results, Try.results35, go_sem, c0, c1, c2, c3, c4, c5]) rfl ⟨rfl, ?_⟩
  exact (((((hBU.setCell (by simp) _).setCell (by simp) _).setCell (by simp) _).setCell (by simp) _).setCell (by simp) _).setCell (by simp) _

set_option maxRecDepth 100000 in
set_option maxHeartbeats 1000000 in
theorem stand_no (v : Value) (L : List Nat) (sl : Int) (w : World) (hv : Bs w v L) (q0 q1 q2 q3 q4 q5 er : Int)
    (hp : ∀ w, Bs w v L → Calls Try.prog 19 #[v] w fun e w' => e = .returned (.tuple #[.agg #[.int .i64 q0, .int .i64 q1, .int .i64 q2, .int .i64 q3, .int .i64 q4, .int .i64 q5], .int .i64 er]) ∧ Below w.heap.size w w') (herr : er = 0) (hs : (slotS q0 != sl) = true) :
    Calls Try.prog 35 #[v, .int .i64 sl] w fun e w' => e = .returned (.agg #[.int .i64 0, .int .i64 0, .int .i64 0, .int .i64 0, .int .i64 0, .int .i64 0]) ∧ Below w.heap.size w w' := by
  subst herr
  have hr := SupAt.new w 0 0 0 0 0 0
  have hv1 := hv.alloc (.cells #[.int .i64 0, .int .i64 0, .int .i64 0, .int .i64 0, .int .i64 0, .int .i64 0] 25)
  obtain ⟨ao, cap, rfl, -⟩ := id hv
  go_enter Try.func35, Try.ntmps35
  go_wp2_with fail
  refine (hp _ hv1).mono ?_
  rintro e w1 ⟨rfl, hb1⟩
  have hr1 := (hr.mono hb1).alloc (.cells #[.int .i64 q0, .int .i64 q1, .int .i64 q2, .int .i64 q3, .int .i64 q4, .int .i64 q5] 25)
  have hs1 := SupAt.new w1 q0 q1 q2 q3 q4 q5
  have hB1 : Below w.heap.size w w1 := ((Below.refl _ w).alloc (Nat.le_refl _) _).trans (hb1.mono (by simp))
  have hne : w.heap.size < w1.heap.size := by have := hb1.size; simp at this; omega
  have hBU := hB1.alloc hB1.size (.cells #[.int .i64 q0, .int .i64 q1, .int .i64 q2, .int .i64 q3, .int .i64 q4, .int .i64 q5] 25)
  have hr0 := hr.mono hb1
  clear hb1 hr hv1 hv hp
  obtain ⟨c0, c1, c2, c3, c4, c5, fc0, fc1, fc2, fc3, fc4, fc5, lc⟩ := id hr0
  obtain ⟨d0, d1, d2, d3, d4, d5, fd0, fd1, fd2, fd3, fd4, fd5, ld⟩ := id hs1
  go_wp2_with fail
  refine (slot_any q0 q1 q2 q3 q4 q5 _).mono ?_
  rintro e w2 ⟨rfl, hb2⟩
  clear c0 c1 c2 c3 c4 c5 d0 d1 d2 d3 d4 d5
  replace hr1 := hr1.mono hb2
  replace hs1 := hs1.mono hb2
  replace hBU := hBU.trans (hb2.mono hBU.size)
  obtain ⟨c0, c1, c2, c3, c4, c5, Fc0, Fc1, Fc2, Fc3, Fc4, Fc5, lc⟩ := id hr1
  obtain ⟨d0, d1, d2, d3, d4, d5, Fd0, Fd1, Fd2, Fd3, Fd4, Fd5, ld⟩ := id hs1
  clear hb2
  generalize slotS q0 = sq at *
  go_wp2_with fail
  refine bodyPost_ret (v := .agg #[.int .i64 0, .int .i64 0, .int .i64 0, .int .i64 0, .int .i64 0, .int .i64 0]) (by simp [results, Try.results35, go_sem, c0, c1, c2, c3, c4, c5]) rfl ⟨rfl, ?_⟩
  exact (((((hBU.setCell (by simp) _).setCell (by simp) _).setCell (by simp) _).setCell (by simp) _).setCell (by simp) _).setCell (by simp) _

set_option maxRecDepth 100000 in
set_option maxHeartbeats 1000000 in
theorem choose_a (v u : Value) (L M : List Nat) (w : World) (hv : Bs w v L) (hu : Bs w u M) (a0 a1 a2 a3 a4 a5 b0 b1 b2 b3 b4 b5 : Int)
    (hp : ∀ w, Bs w v L → Calls Try.prog 35 #[v, .int .i64 0] w fun e w' => e = .returned (.agg #[.int .i64 a0, .int .i64 a1, .int .i64 a2, .int .i64 a3, .int .i64 a4, .int .i64 a5]) ∧ Below w.heap.size w w')
    (hq : ∀ w, Bs w u M → Calls Try.prog 35 #[u, .int .i64 1] w fun e w' => e = .returned (.agg #[.int .i64 b0, .int .i64 b1, .int .i64 b2, .int .i64 b3, .int .i64 b4, .int .i64 b5]) ∧ Below w.heap.size w w') (hlt : b0 ≤ a0) (h0 : a0 ≠ 0) :
    Calls Try.prog 23 #[v, u] w fun e w' => e = .returned (.tuple #[.agg #[.int .i64 a0, .int .i64 a1, .int .i64 a2, .int .i64 a3, .int .i64 a4, .int .i64 a5], .int .i64 0]) ∧ Below w.heap.size w w' := by
  have hgu := fun op x y xs ys w => run_eqGuard_agg (P := Try.prog) w op 25 x y xs ys (by kernel_rfl)
  have heq : ∀ w, (binOp .eql 25 (.agg #[.int .i64 a0, .int .i64 a1, .int .i64 a2, .int .i64 a3, .int .i64 a4, .int .i64 a5]) (.agg #[.int .i64 0, .int .i64 0, .int .i64 0, .int .i64 0, .int .i64 0, .int .i64 0])).run Try.prog w = .ok (.bool false) w := fun w => by rw [eqlS]; simp [h0]
  clear h0
  have hr := SupAt.new w 0 0 0 0 0 0
  have hv1 := hv.alloc (.cells #[.int .i64 0, .int .i64 0, .int .i64 0, .int .i64 0, .int .i64 0, .int .i64 0] 25)
  have hu1 := hu.alloc (.cells #[.int .i64 0, .int .i64 0, .int .i64 0, .int .i64 0, .int .i64 0, .int .i64 0] 25)
  obtain ⟨ao, cap, rfl, -⟩ := id hv
  obtain ⟨bo, cbp, rfl, -⟩ := id hu
  go_enter Try.func23, Try.ntmps23
  go_wp2_with fail
  refine (hp _ hv1).mono ?_
  rintro e w1 ⟨rfl, hb1⟩
  have hr1 := (hr.mono hb1).alloc (.cells #[.int .i64 a0, .int .i64 a1, .int .i64 a2, .int .i64 a3, .int .i64 a4, .int .i64 a5] 25)
  have ha1 := SupAt.new w1 a0 a1 a2 a3 a4 a5
  have hu2 := (hu1.mono hb1).alloc (.cells #[.int .i64 a0, .int .i64 a1, .int .i64 a2, .int .i64 a3, .int .i64 a4, .int .i64 a5] 25)
  have hB1 : Below w.heap.size w w1 := ((Below.refl _ w).alloc (Nat.le_refl _) _).trans (hb1.mono (by simp))
  have hne : w.heap.size < w1.heap.size := by have := hb1.size; simp at this; omega
  have hB2 := hB1.alloc hB1.size (.cells #[.int .i64 a0, .int .i64 a1, .int .i64 a2, .int .i64 a3, .int .i64 a4, .int .i64 a5] 25)
  have hz1 : w1.heap.size < (w1.alloc (.cells #[.int .i64 a0, .int .i64 a1, .int .i64 a2, .int .i64 a3, .int .i64 a4, .int .i64 a5] 25)).heap.size := by simp
  clear hb1 hr hv1 hB1 hv hp hu1 hu
  go_wp2_with fail
  refine (hq _ hu2).mono ?_
  rintro e w2 ⟨rfl, hb2⟩
  have hr2 := (hr1.mono hb2).alloc (.cells #[.int .i64 b0, .int .i64 b1, .int .i64 b2, .int .i64 b3, .int .i64 b4, .int .i64 b5] 25)
  have ha2 := (ha1.mono hb2).alloc (.cells #[.int .i64 b0, .int .i64 b1, .int .i64 b2, .int .i64 b3, .int .i64 b4, .int .i64 b5] 25)
  have hb3 := SupAt.new w2 b0 b1 b2 b3 b4 b5
  have hB3 := hB2.trans (hb2.mono hB2.size)
  have hBU := hB3.alloc hB3.size (.cells #[.int .i64 b0, .int .i64 b1, .int .i64 b2, .int .i64 b3, .int .i64 b4, .int .i64 b5] 25)
  have hne2 : w1.heap.size < w2.heap.size := Nat.lt_of_lt_of_le hz1 hb2.size
  have hr3 := hr1.mono hb2
  have ha3 := ha1.mono hb2
  clear hb2 hr1 ha1 hu2 hB2 hq hz1
  obtain ⟨c0, c1, c2, c3, c4, c5, fc0, fc1, fc2, fc3, fc4, fc5, lc⟩ := id hr3
  obtain ⟨d0, d1, d2, d3, d4, d5, fd0, fd1, fd2, fd3, fd4, fd5, ld⟩ := id ha3
  obtain ⟨g0, g1, g2, g3, g4, g5, fg0, fg1, fg2, fg3, fg4, fg5, lg⟩ := id hb3
  go_wp2_with fail
  obtain ⟨k0, k1, k2, k3, k4, k5, -, -, -, -, -, -, -⟩ := (hr3.setAll a0 a1 a2 a3 a4 a5).alloc (.cells #[.int .i64 b0, .int .i64 b1, .int .i64 b2, .int .i64 b3, .int .i64 b4, .int .i64 b5] 25)
  refine bodyPost_ret (v := .tuple #[.agg #[.int .i64 a0, .int .i64 a1, .int .i64 a2, .int .i64 a3, .int .i64 a4, .int .i64 a5], .int .i64 0]) (by simp [results, Try.results23, go_sem, k0, k1, k2, k3, k4, k5]) rfl ⟨rfl, ?_⟩
  exact (((((((hB3.setCell (Nat.le_refl _) _).setCell (Nat.le_refl _) _).setCell (Nat.le_refl _) _).setCell (Nat.le_refl _) _).setCell (Nat.le_refl _) _).setCell (Nat.le_refl _) _).alloc (by simpa using hB3.size) _)

set_option maxRecDepth 100000 in
set_option maxHeartbeats 1000000 in
theorem choose_b (v u : Value) (L M : List Nat) (w : World) (hv : Bs w v L) (hu : Bs w u M) (a0 a1 a2 a3 a4 a5 b0 b1 b2 b3 b4 b5 : Int)
    (hp : ∀ w, Bs w v L → Calls Try.prog 35 #[v, .int .i64 0] w fun e w' => e = .returned (.agg #[.int .i64 a0, .int .i64 a1, .int .i64 a2, .int .i64 a3, .int .i64 a4, .int .i64 a5]) ∧ Below w.heap.size w w')
    (hq : ∀ w, Bs w u M → Calls Try.prog 35 #[u, .int .i64 1] w fun e w' => e = .returned (.agg #[.int .i64 b0, .int .i64 b1, .int .i64 b2, .int .i64 b3, .int .i64 b4, .int .i64 b5]) ∧ Below w.heap.size w w') (hlt : a0 < b0) (h0 : b0 ≠ 0) :
    Calls Try.prog 23 #[v, u] w fun e w' => e = .returned (.tuple #[.agg #[.int .i64 b0, .int .i64 b1, .int .i64 b2, .int .i64 b3, .int .i64 b4, .int .i64 b5], .int .i64 0]) ∧ Below w.heap.size w w' := by
  have hgu := fun op x y xs ys w => run_eqGuard_agg (P := Try.prog) w op 25 x y xs ys (by kernel_rfl)
  have heq : ∀ w, (binOp .eql 25 (.agg #[.int .i64 b0, .int .i64 b1, .int .i64 b2, .int .i64 b3, .int .i64 b4, .int .i64 b5]) (.agg #[.int .i64 0, .int .i64 0, .int .i64 0, .int .i64 0, .int .i64 0, .int .i64 0])).run Try.prog w = .ok (.bool false) w := fun w => by rw [eqlS]; simp [h0]
  clear h0
  have hr := SupAt.new w 0 0 0 0 0 0
  have hv1 := hv.alloc (.cells #[.int .i64 0, .int .i64 0, .int .i64 0, .int .i64 0, .int .i64 0, .int .i64 0] 25)
  have hu1 := hu.alloc (.cells #[.int .i64 0, .int .i64 0, .int .i64 0, .int .i64 0, .int .i64 0, .int .i64 0] 25)
  obtain ⟨ao, cap, rfl, -⟩ := id hv
  obtain ⟨bo, cbp, rfl, -⟩ := id hu
  go_enter Try.func23, Try.ntmps23
  go_wp2_with fail
  refine (hp _ hv1).mono ?_
  rintro e w1 ⟨rfl, hb1⟩
  have hr1 := (hr.mono hb1).alloc (.cells #[.int .i64 a0, .int .i64 a1, .int .i64 a2, .int .i64 a3, .int .i64 a4, .int .i64 a5] 25)
  have ha1 := SupAt.new w1 a0 a1 a2 a3 a4 a5
  have hu2 := (hu1.mono hb1).alloc (.cells #[.int .i64 a0, .int .i64 a1, .int .i64 a2, .int .i64 a3, .int .i64 a4, .int .i64 a5] 25)
  have hB1 : Below w.heap.size w w1 := ((Below.refl _ w).alloc (Nat.le_refl _) _).trans (hb1.mono (by simp))
  have hne : w.heap.size < w1.heap.size := by have := hb1.size; simp at this; omega
  have hB2 := hB1.alloc hB1.size (.cells #[.int .i64 a0, .int .i64 a1, .int .i64 a2, .int .i64 a3, .int .i64 a4, .int .i64 a5] 25)
  have hz1 : w1.heap.size < (w1.alloc (.cells #[.int .i64 a0, .int .i64 a1, .int .i64 a2, .int .i64 a3, .int .i64 a4, .int .i64 a5] 25)).heap.size := by simp
  clear hb1 hr hv1 hB1 hv hp hu1 hu
  go_wp2_with fail
  refine (hq _ hu2).mono ?_
  rintro e w2 ⟨rfl, hb2⟩
  have hr2 := (hr1.mono hb2).alloc (.cells #[.int .i64 b0, .int .i64 b1, .int .i64 b2, .int .i64 b3, .int .i64 b4, .int .i64 b5] 25)
  have ha2 := (ha1.mono hb2).alloc (.cells #[.int .i64 b0, .int .i64 b1, .int .i64 b2, .int .i64 b3, .int .i64 b4, .int .i64 b5] 25)
  have hb3 := SupAt.new w2 b0 b1 b2 b3 b4 b5
  have hB3 := hB2.trans (hb2.mono hB2.size)
  have hBU := hB3.alloc hB3.size (.cells #[.int .i64 b0, .int .i64 b1, .int .i64 b2, .int .i64 b3, .int .i64 b4, .int .i64 b5] 25)
  have hne2 : w1.heap.size < w2.heap.size := Nat.lt_of_lt_of_le hz1 hb2.size
  have hr3 := hr1.mono hb2
  have ha3 := ha1.mono hb2
  clear hb2 hr1 ha1 hu2 hB2 hq hz1
  obtain ⟨c0, c1, c2, c3, c4, c5, fc0, fc1, fc2, fc3, fc4, fc5, lc⟩ := id hr3
  obtain ⟨d0, d1, d2, d3, d4, d5, fd0, fd1, fd2, fd3, fd4, fd5, ld⟩ := id ha3
  obtain ⟨g0, g1, g2, g3, g4, g5, fg0, fg1, fg2, fg3, fg4, fg5, lg⟩ := id hb3
  go_wp2_with fail
  obtain ⟨k0, k1, k2, k3, k4, k5, -, -, -, -, -, -, -⟩ := ((hr3.setOthers (Nat.ne_of_gt hne) b0 b1 b2 b3 b4 b5).setAll b0 b1 b2 b3 b4 b5).alloc (.cells #[.int .i64 b0, .int .i64 b1, .int .i64 b2, .int .i64 b3, .int .i64 b4, .int .i64 b5] 25)
  refine bodyPost_ret (v := .tuple #[.agg #[.int .i64 b0, .int .i64 b1, .int .i64 b2, .int .i64 b3, .int .i64 b4, .int .i64 b5], .int .i64 0]) (by simp [results, Try.results23, go_sem, k0, k1, k2, k3, k4, k5]) rfl ⟨rfl, ?_⟩
  exact (((((((((((((hB3.setCell (Nat.le_of_lt hne) _).setCell (Nat.le_of_lt hne) _).setCell (Nat.le_of_lt hne) _).setCell (Nat.le_of_lt hne) _).setCell (Nat.le_of_lt hne) _).setCell (Nat.le_of_lt hne) _).setCell (Nat.le_refl _) _).setCell (Nat.le_refl _) _).setCell (Nat.le_refl _) _).setCell (Nat.le_refl _) _).setCell (Nat.le_refl _) _).setCell (Nat.le_refl _) _).alloc (by simpa using hB3.size) _)

set_option maxRecDepth 100000 in
set_option maxHeartbeats 1000000 in
theorem choose_none (v u : Value) (L M : List Nat) (w : World) (hv : Bs w v L) (hu : Bs w u M)
    (hp : ∀ w, Bs w v L → Calls Try.prog 35 #[v, .int .i64 0] w fun e w' => e = .returned (.agg #[.int .i64 0, .int .i64 0, .int .i64 0, .int .i64 0, .int .i64 0, .int .i64 0]) ∧ Below w.heap.size w w')
    (hq : ∀ w, Bs w u M → Calls Try.prog 35 #[u, .int .i64 1] w fun e w' => e = .returned (.agg #[.int .i64 0, .int .i64 0, .int .i64 0, .int .i64 0, .int .i64 0, .int .i64 0]) ∧ Below w.heap.size w w')  :
    Calls Try.prog 23 #[v, u] w fun e w' => e = .returned (.tuple #[.agg #[.int .i64 0, .int .i64 0, .int .i64 0, .int .i64 0, .int .i64 0, .int .i64 0], .int .i64 50]) ∧ Below w.heap.size w w' := by
  have hgu := fun op x y xs ys w => run_eqGuard_agg (P := Try.prog) w op 25 x y xs ys (by kernel_rfl)
  have heq : ∀ w, (binOp .eql 25 (.agg #[.int .i64 0, .int .i64 0, .int .i64 0, .int .i64 0, .int .i64 0, .int .i64 0]) (.agg #[.int .i64 0, .int .i64 0, .int .i64 0, .int .i64 0, .int .i64 0, .int .i64 0])).run Try.prog w = .ok (.bool true) w := fun w => eqlS_same 0 0 0 0 0 0 w
  have hr := SupAt.new w 0 0 0 0 0 0
  have hv1 := hv.alloc (.cells #[.int .i64 0, .int .i64 0, .int .i64 0, .int .i64 0, .int .i64 0, .int .i64 0] 25)
  have hu1 := hu.alloc (.cells #[.int .i64 0, .int .i64 0, .int .i64 0, .int .i64 0, .int .i64 0, .int .i64 0] 25)
  obtain ⟨ao, cap, rfl, -⟩ := id hv
  obtain ⟨bo, cbp, rfl, -⟩ := id hu
  go_enter Try.func23, Try.ntmps23
  go_wp2_with fail
  refine (hp _ hv1).mono ?_
  rintro e w1 ⟨rfl, hb1⟩
  have hr1 := (hr.mono hb1).alloc (.cells #[.int .i64 0, .int .i64 0, .int .i64 0, .int .i64 0, .int .i64 0, .int .i64 0] 25)
  have ha1 := SupAt.new w1 0 0 0 0 0 0
  have hu2 := (hu1.mono hb1).alloc (.cells #[.int .i64 0, .int .i64 0, .int .i64 0, .int .i64 0, .int .i64 0, .int .i64 0] 25)
  have hB1 : Below w.heap.size w w1 := ((Below.refl _ w).alloc (Nat.le_refl _) _).trans (hb1.mono (by simp))
  have hne : w.heap.size < w1.heap.size := by have := hb1.size; simp at this; omega
  have hB2 := hB1.alloc hB1.size (.cells #[.int .i64 0, .int .i64 0, .int .i64 0, .int .i64 0, .int .i64 0, .int .i64 0] 25)
  have hz1 : w1.heap.size < (w1.alloc (.cells #[.int .i64 0, .int .i64 0, .int .i64 0, .int .i64 0, .int .i64 0, .int .i64 0] 25)).heap.size := by simp
  clear hb1 hr hv1 hB1 hv hp hu1 hu
  go_wp2_with fail
  refine (hq _ hu2).mono ?_
  rintro e w2 ⟨rfl, hb2⟩
  have hr2 := (hr1.mono hb2).alloc (.cells #[.int .i64 0, .int .i64 0, .int .i64 0, .int .i64 0, .int .i64 0, .int .i64 0] 25)
  have ha2 := (ha1.mono hb2).alloc (.cells #[.int .i64 0, .int .i64 0, .int .i64 0, .int .i64 0, .int .i64 0, .int .i64 0] 25)
  have hb3 := SupAt.new w2 0 0 0 0 0 0
  have hB3 := hB2.trans (hb2.mono hB2.size)
  have hBU := hB3.alloc hB3.size (.cells #[.int .i64 0, .int .i64 0, .int .i64 0, .int .i64 0, .int .i64 0, .int .i64 0] 25)
  have hne2 : w1.heap.size < w2.heap.size := Nat.lt_of_lt_of_le hz1 hb2.size
  have hr3 := hr1.mono hb2
  have ha3 := ha1.mono hb2
  clear hb2 hr1 ha1 hu2 hB2 hq hz1
  obtain ⟨c0, c1, c2, c3, c4, c5, fc0, fc1, fc2, fc3, fc4, fc5, lc⟩ := id hr3
  obtain ⟨d0, d1, d2, d3, d4, d5, fd0, fd1, fd2, fd3, fd4, fd5, ld⟩ := id ha3
  obtain ⟨g0, g1, g2, g3, g4, g5, fg0, fg1, fg2, fg3, fg4, fg5, lg⟩ := id hb3
  go_wp2_with fail
  obtain ⟨k0, k1, k2, k3, k4, k5, -, -, -, -, -, -, -⟩ := (hr3.setAll 0 0 0 0 0 0).alloc (.cells #[.int .i64 0, .int .i64 0, .int .i64 0, .int .i64 0, .int .i64 0, .int .i64 0] 25)
  refine bodyPost_ret (v := .tuple #[.agg #[.int .i64 0, .int .i64 0, .int .i64 0, .int .i64 0, .int .i64 0, .int .i64 0], .int .i64 50]) (by simp [results, Try.results23, go_sem, k0, k1, k2, k3, k4, k5]) rfl ⟨rfl, ?_⟩
  exact (((((((hB3.setCell (Nat.le_refl _) _).setCell (Nat.le_refl _) _).setCell (Nat.le_refl _) _).setCell (Nat.le_refl _) _).setCell (Nat.le_refl _) _).setCell (Nat.le_refl _) _).alloc (by simpa using hB3.size) _)

end Go.Proofs.Ytfjkmgfjlckmlaa
