/- Contracts: Parse of a super, up to what Bytes answers; the document's Parse of any bytes. -/
import Derived.Test.YtfjkmgfjlckmlaaS8
set_option linter.unusedSimpArgs false
set_option linter.unusedVariables false
namespace Go.Proofs.Ytfjkmgfjlckmlaa
open Go.RowKit Go.Attic

set_option maxRecDepth 100000 in
set_option maxHeartbeats 1000000 in
theorem parse_err (v : Value) (L : List Nat) (w : World) (hv : Bs w v L) (p0 p1 p2 p3 p4 p5 : Int)
    (hf : ∀ w, Bs w v L → Calls Try.prog 32 #[v] w fun e w' => e = .returned (.agg #[.int .i64 p0, .int .i64 p1, .int .i64 p2, .int .i64 p3, .int .i64 p4, .int .i64 p5]) ∧ Below w.heap.size w w')
    (M : List Nat) (er : Int) (hby : ∀ w, Calls Try.prog 17 #[.agg #[.int .i64 p0, .int .i64 p1, .int .i64 p2, .int .i64 p3, .int .i64 p4, .int .i64 p5]] w (NewBsE w M er)) (hMx : ∀ y ∈ M, y < 256) (herr : (er != 0) = true) :
    Calls Try.prog 19 #[v] w fun e w' => e = .returned (.tuple #[.agg #[.int .i64 0, .int .i64 0, .int .i64 0, .int .i64 0, .int .i64 0, .int .i64 0], .int .i64 50]) ∧ Below w.heap.size w w' := by
  have hr := SupAt.new w 0 0 0 0 0 0
  have hv1 := hv.alloc (.cells #[.int .i64 0, .int .i64 0, .int .i64 0, .int .i64 0, .int .i64 0, .int .i64 0] 25)
  obtain ⟨ao, cap, rfl, -⟩ := id hv
  go_enter Try.func19, Try.ntmps19
  go_wp2_with fail
  refine (hf _ hv1).mono ?_
  rintro e w1 ⟨rfl, hb1⟩
  have hr1 := (hr.mono hb1).alloc (.cells #[.int .i64 p0, .int .i64 p1, .int .i64 p2, .int .i64 p3, .int .i64 p4, .int .i64 p5] 25)
  have hs1 := SupAt.new w1 p0 p1 p2 p3 p4 p5
  have hv2 := (hv1.mono hb1).alloc (.cells #[.int .i64 p0, .int .i64 p1, .int .i64 p2, .int .i64 p3, .int .i64 p4, .int .i64 p5] 25)
  have hB1 : Below w.heap.size w w1 := ((Below.refl _ w).alloc (Nat.le_refl _) _).trans (hb1.mono (by simp))
  have hne : w.heap.size < w1.heap.size := by have := hb1.size; simp at this; omega
  have hB2 := hB1.alloc hB1.size (.cells #[.int .i64 p0, .int .i64 p1, .int .i64 p2, .int .i64 p3, .int .i64 p4, .int .i64 p5] 25)
  clear hb1 hr hv1 hB1 hv hf
  go_wp2_with fail
  refine (hby _).mono ?_
  rintro e w2 ⟨vx, rfl, hox, hbx⟩
  have hbs := Bs.of_owns hox hMx
  obtain ⟨xo, xc, rfl, -, -⟩ := owns_form hox
  have hvU := hv2.mono hbx
  have hBU := hB2.trans (hbx.mono hB2.size)
  obtain ⟨c0, c1, c2, c3, c4, c5, f0, f1, f2, f3, f4, f5, lp⟩ := hr1.mono hbx
  obtain ⟨d0, d1, d2, d3, d4, d5, i0, i1, i2, i3, i4, i5, lq⟩ := hs1.mono hbx
  clear hox hbx hr1 hs1 hv2 hB2
  go_wp2_with fail
  refine bodyPost_ret (v := .tuple #[.agg #[.int .i64 0, .int .i64 0, .int .i64 0, .int .i64 0, .int .i64 0, .int .i64 0], .int .i64 50]) (by simp [results, Try.results19, go_sem, c0, c1, c2, c3, c4, c5]) rfl ⟨rfl, ?_⟩
  exact (((((hBU.setCell (by simp) _).setCell (by simp) _).setCell (by simp) _).setCell (by simp) _).setCell (by simp) _).setCell (by simp) _

set_option maxRecDepth 100000 in
set_option maxHeartbeats 1000000 in
theorem parse_eq (v : Value) (L : List Nat) (w : World) (hv : Bs w v L) (p0 p1 p2 p3 p4 p5 : Int)
    (hf : ∀ w, Bs w v L → Calls Try.prog 32 #[v] w fun e w' => e = .returned (.agg #[.int .i64 p0, .int .i64 p1, .int .i64 p2, .int .i64 p3, .int .i64 p4, .int .i64 p5]) ∧ Below w.heap.size w w')
    (M : List Nat) (er : Int) (hby : ∀ w, Calls Try.prog 17 #[.agg #[.int .i64 p0, .int .i64 p1, .int .i64 p2, .int .i64 p3, .int .i64 p4, .int .i64 p5]] w (NewBsE w M er)) (hMx : ∀ y ∈ M, y < 256) (herr : er = 0) (hd : decide (L = M) = true) :
    Calls Try.prog 19 #[v] w fun e w' => e = .returned (.tuple #[.agg #[.int .i64 p0, .int .i64 p1, .int .i64 p2, .int .i64 p3, .int .i64 p4, .int .i64 p5], .int .i64 0]) ∧ Below w.heap.size w w' := by
  subst herr
  have hr := SupAt.new w 0 0 0 0 0 0
  have hv1 := hv.alloc (.cells #[.int .i64 0, .int .i64 0, .int .i64 0, .int .i64 0, .int .i64 0, .int .i64 0] 25)
  obtain ⟨ao, cap, rfl, -⟩ := id hv
  go_enter Try.func19, Try.ntmps19
  go_wp2_with fail
  refine (hf _ hv1).mono ?_
  rintro e w1 ⟨rfl, hb1⟩
  have hr1 := (hr.mono hb1).alloc (.cells #[.int .i64 p0, .int .i64 p1, .int .i64 p2, .int .i64 p3, .int .i64 p4, .int .i64 p5] 25)
  have hs1 := SupAt.new w1 p0 p1 p2 p3 p4 p5
  have hv2 := (hv1.mono hb1).alloc (.cells #[.int .i64 p0, .int .i64 p1, .int .i64 p2, .int .i64 p3, .int .i64 p4, .int .i64 p5] 25)
  have hB1 : Below w.heap.size w w1 := ((Below.refl _ w).alloc (Nat.le_refl _) _).trans (hb1.mono (by simp))
  have hne : w.heap.size < w1.heap.size := by have := hb1.size; simp at this; omega
  have hB2 := hB1.alloc hB1.size (.cells #[.int .i64 p0, .int .i64 p1, .int .i64 p2, .int .i64 p3, .int .i64 p4, .int .i64 p5] 25)
  clear hb1 hr hv1 hB1 hv hf
  go_wp2_with fail
  refine (hby _).mono ?_
  rintro e w2 ⟨vx, rfl, hox, hbx⟩
  have hbs := Bs.of_owns hox hMx
  obtain ⟨xo, xc, rfl, -, -⟩ := owns_form hox
  have hvU := hv2.mono hbx
  have hBU := hB2.trans (hbx.mono hB2.size)
  obtain ⟨c0, c1, c2, c3, c4, c5, f0, f1, f2, f3, f4, f5, lp⟩ := hr1.mono hbx
  obtain ⟨d0, d1, d2, d3, d4, d5, i0, i1, i2, i3, i4, i5, lq⟩ := hs1.mono hbx
  clear hox hbx hr1 hs1 hv2 hB2
  go_wp2_with fail
  refine (equal_any _ _ L M _ hvU hbs).mono ?_
  rintro e w3 ⟨rfl, rfl⟩
  rw [hd]
  go_wp2_with fail
  refine bodyPost_ret (v := .tuple #[.agg #[.int .i64 p0, .int .i64 p1, .int .i64 p2, .int .i64 p3, .int .i64 p4, .int .i64 p5], .int .i64 0]) (by simp [results, Try.results19, go_sem, c0, c1, c2, c3, c4, c5]) rfl ⟨rfl, ?_⟩
  exact (((((hBU.setCell (by simp) _).setCell (by simp) _).setCell (by simp) _).setCell (by simp) _).setCell (by simp) _).setCell (by simp) _

set_option maxRecDepth 100000 in
set_option maxHeartbeats 1000000 in
theorem parse_ne (v : Value) (L : List Nat) (w : World) (hv : Bs w v L) (p0 p1 p2 p3 p4 p5 : Int)
    (hf : ∀ w, Bs w v L → Calls Try.prog 32 #[v] w fun e w' => e = .returned (.agg #[.int .i64 p0, .int .i64 p1, .int .i64 p2, .int .i64 p3, .int .i64 p4, .int .i64 p5]) ∧ Below w.heap.size w w')
    (M : List Nat) (er : Int) (hby : ∀ w, Calls Try.prog 17 #[.agg #[.int .i64 p0, .int .i64 p1, .int .i64 p2, .int .i64 p3, .int .i64 p4, .int .i64 p5]] w (NewBsE w M er)) (hMx : ∀ y ∈ M, y < 256) (herr : er = 0) (hd : decide (L = M) = false) :
    Calls Try.prog 19 #[v] w fun e w' => e = .returned (.tuple #[.agg #[.int .i64 0, .int .i64 0, .int .i64 0, .int .i64 0, .int .i64 0, .int .i64 0], .int .i64 50]) ∧ Below w.heap.size w w' := by
  subst herr
  have hr := SupAt.new w 0 0 0 0 0 0
  have hv1 := hv.alloc (.cells #[.int .i64 0, .int .i64 0, .int .i64 0, .int .i64 0, .int .i64 0, .int .i64 0] 25)
  obtain ⟨ao, cap, rfl, -⟩ := id hv
  go_enter Try.func19, Try.ntmps19
  go_wp2_with fail
  refine (hf _ hv1).mono ?_
  rintro e w1 ⟨rfl, hb1⟩
  have hr1 := (hr.mono hb1).alloc (.cells #[.int .i64 p0, .int .i64 p1, .int .i64 p2, .int .i64 p3, .int .i64 p4, .int .i64 p5] 25)
  have hs1 := SupAt.new w1 p0 p1 p2 p3 p4 p5
  have hv2 := (hv1.mono hb1).alloc (.cells #[.int .i64 p0, .int .i64 p1, .int .i64 p2, .int .i64 p3, .int .i64 p4, .int .i64 p5] 25)
  have hB1 : Below w.heap.size w w1 := ((Below.refl _ w).alloc (Nat.le_refl _) _).trans (hb1.mono (by simp))
  have hne : w.heap.size < w1.heap.size := by have := hb1.size; simp at this; omega
  have hB2 := hB1.alloc hB1.size (.cells #[.int .i64 p0, .int .i64 p1, .int .i64 p2, .int .i64 p3, .int .i64 p4, .int .i64 p5] 25)
  clear hb1 hr hv1 hB1 hv hf
  go_wp2_with fail
  refine (hby _).mono ?_
  rintro e w2 ⟨vx, rfl, hox, hbx⟩
  have hbs := Bs.of_owns hox hMx
  obtain ⟨xo, xc, rfl, -, -⟩ := owns_form hox
  have hvU := hv2.mono hbx
  have hBU := hB2.trans (hbx.mono hB2.size)
  obtain ⟨c0, c1, c2, c3, c4, c5, f0, f1, f2, f3, f4, f5, lp⟩ := hr1.mono hbx
  obtain ⟨d0, d1, d2, d3, d4, d5, i0, i1, i2, i3, i4, i5, lq⟩ := hs1.mono hbx
  clear hox hbx hr1 hs1 hv2 hB2
  go_wp2_with fail
  refine (equal_any _ _ L M _ hvU hbs).mono ?_
  rintro e w3 ⟨rfl, rfl⟩
  rw [hd]
  go_wp2_with fail
  refine bodyPost_ret (v := .tuple #[.agg #[.int .i64 0, .int .i64 0, .int .i64 0, .int .i64 0, .int .i64 0, .int .i64 0], .int .i64 50]) (by simp [results, Try.results19, go_sem, c0, c1, c2, c3, c4, c5]) rfl ⟨rfl, ?_⟩
  exact (((((hBU.setCell (by simp) _).setCell (by simp) _).setCell (by simp) _).setCell (by simp) _).setCell (by simp) _).setCell (by simp) _

theorem rparse_yes (v : Value) (L : List Nat) (w : World) (hv : Bs w v L) (ep b l d x h : Nat) (k : IsS L ep b l d x h) :
    Calls Try.prog 20 #[v] w fun e w' => e = .returned (.tuple #[.agg #[.int .i64 (ep : Nat), .int .i64 (b : Nat), .int .i64 (l : Nat), .int .i64 (d : Nat), .int .i64 (x : Nat), .int .i64 (h : Nat)], .int .i64 0]) ∧ Below w.heap.size w w' := by
  have hl := k.len
  obtain ⟨n0, n1, n2, n3, n4, n5⟩ := k.nums
  have r := okS_range k.1
  have g0 := getV_get L 8 8 (by omega) (by omega) (by omega)
  have g1 := getV_get L 16 4 (by omega) (by omega) (by omega)
  have g2 := getV_get L 20 4 (by omega) (by omega) (by omega)
  have g3 := getV_get L 24 4 (by omega) (by omega) (by omega)
  have g4 := getV_get L 28 4 (by omega) (by omega) (by omega)
  have g5 := getV_get L 32 8 (by omega) (by omega) (by omega)
  rw [n0] at g0
  rw [n1] at g1
  rw [n2] at g2
  rw [n3] at g3
  rw [n4] at g4
  rw [n5] at g5
  exact rparse_eq v L w hv hl ep b l d x h ((congrArg (fun z : Nat => wrap64 (z : Int)) g0).trans (wrap64_id (by omega))) ((congrArg (fun z : Nat => wrap64 (z : Int)) g1).trans (wrap64_id (by omega))) ((congrArg (fun z : Nat => wrap64 (z : Int)) g2).trans (wrap64_id (by omega))) ((congrArg (fun z : Nat => wrap64 (z : Int)) g3).trans (wrap64_id (by omega))) ((congrArg (fun z : Nat => wrap64 (z : Int)) g4).trans (wrap64_id (by omega))) ((congrArg (fun z : Nat => wrap64 (z : Int)) g5).trans (wrap64_id (by omega)))
    (blockL ep b l d x h) 0 (fun w => rbytes_yes ep b l d x h w k.1) (by rw [blockL_length]; omega) (blockL_lt ep b l d x h) rfl (decide_eq_true k.2.symm)

theorem rparse_no (v : Value) (L : List Nat) (w : World) (hv : Bs w v L) (hlen : L.length ≤ 140737488355328) (k : NoS L) :
    Calls Try.prog 20 #[v] w fun e w' => e = .returned (.tuple #[.agg #[.int .i64 0, .int .i64 0, .int .i64 0, .int .i64 0, .int .i64 0, .int .i64 0], .int .i64 50]) ∧ Below w.heap.size w w' := by
  by_cases hl : L.length = 256
  · obtain ⟨p0, e0⟩ : ∃ p, wrap64 (getV L 8 8 : Nat) = p := ⟨_, rfl⟩
    obtain ⟨p1, e1⟩ : ∃ p, wrap64 (getV L 16 4 : Nat) = p := ⟨_, rfl⟩
    obtain ⟨p2, e2⟩ : ∃ p, wrap64 (getV L 20 4 : Nat) = p := ⟨_, rfl⟩
    obtain ⟨p3, e3⟩ : ∃ p, wrap64 (getV L 24 4 : Nat) = p := ⟨_, rfl⟩
    obtain ⟨p4, e4⟩ : ∃ p, wrap64 (getV L 28 4 : Nat) = p := ⟨_, rfl⟩
    obtain ⟨p5, e5⟩ : ∃ p, wrap64 (getV L 32 8 : Nat) = p := ⟨_, rfl⟩
    by_cases ko : okS p0 p1 p2 p3 p4 p5
    · obtain ⟨ep, b, l, d, x, h, rfl, rfl, rfl, rfl, rfl, rfl⟩ := okS_nat ko
      exact rparse_ne v L w hv hl ep b l d x h e0 e1 e2 e3 e4 e5 (blockL ep b l d x h) 0 (fun w => rbytes_yes ep b l d x h w ko) (by rw [blockL_length]; omega) (blockL_lt ep b l d x h) rfl (decide_eq_false (fun e => k ep b l d x h ⟨ko, e.symm⟩))
    · have kc : chkS p0 p1 p2 p3 p4 p5 ≠ 0 := fun e => ko (chkS_zero e)
      have kb := wrap64_range (getV L 16 4 : Nat)
      rw [e1] at kb
      exact rparse_err v L w hv hl p0 p1 p2 p3 p4 p5 e0 e1 e2 e3 e4 e5 [] _ (fun w => rbytes_no p0 p1 p2 p3 p4 p5 w kb kc) (by simp) (by simp) (by simpa using kc)
  · exact rparse_short v L w hv hlen hl

end Go.Proofs.Ytfjkmgfjlckmlaa
