/- Contracts: the document's Parse of a super. -/
import Derived.Test.YtfjkmgfjlckmlaaS7
import Derived.Test.YtfjkmgfjlckmlaaS2
import Derived.Deep.RegionHeld3
set_option linter.unusedSimpArgs false
set_option linter.unusedVariables false
namespace Go.Proofs.Ytfjkmgfjlckmlaa
open Go.RowKit Go.Attic

set_option maxRecDepth 100000 in
set_option maxHeartbeats 400000 in
theorem rparse_short (v : Value) (L : List Nat) (w : World) (hv : Bs w v L) (hlen : L.length ≤ 140737488355328) (hn : L.length ≠ 256) :
    Calls Try.prog 20 #[v] w fun e w' => e = .returned (.tuple #[.agg #[.int .i64 0, .int .i64 0, .int .i64 0, .int .i64 0, .int .i64 0, .int .i64 0], .int .i64 50]) ∧ Below w.heap.size w w' := by
  have hr := SupAt.new w 0 0 0 0 0 0
  obtain ⟨c0, c1, c2, c3, c4, c5, f0, f1, f2, f3, f4, f5, lp⟩ := hr
  obtain ⟨ao, cap, rfl, -⟩ := hv
  have hnb : ((L.length : Int) != 256) = true := by simp; omega
  clear hn
  go_enter Try.func20, Try.ntmps20
  go_wp2_with fail
  refine bodyPost_ret (v := .tuple #[.agg #[.int .i64 0, .int .i64 0, .int .i64 0, .int .i64 0, .int .i64 0, .int .i64 0], .int .i64 50]) (by simp [results, Try.results20, go_sem, c0, c1, c2, c3, c4, c5]) rfl ⟨rfl, ?_⟩
  exact (Below.refl _ w).alloc (Nat.le_refl _) _

theorem geo_held {w' : World} {g : Nat} {p1 p2 p3 p4 : Int} (h : GeoAt w' g p1 p2 p3 p4) : w'.cell? ⟨g, 0, none⟩ = some (.int .i64 p1) ∧ w'.cell? ⟨g, 1, none⟩ = some (.int .i64 p2) ∧ w'.cell? ⟨g, 2, none⟩ = some (.int .i64 p3) ∧ w'.cell? ⟨g, 3, none⟩ = some (.int .i64 p4) := ⟨h.c0, h.c1, h.c2, h.c3⟩

set_option maxRecDepth 100000 in
set_option maxHeartbeats 1000000 in
/-- The walk up to the document's Bytes, whatever these answer. -/
theorem rparse_err (v : Value) (L : List Nat) (w : World) (hv : Bs w v L) (hn : L.length = 256) (p0 p1 p2 p3 p4 p5 : Int)
    (e0 : wrap64 (getV L 8 8 : Nat) = p0) (e1 : wrap64 (getV L 16 4 : Nat) = p1) (e2 : wrap64 (getV L 20 4 : Nat) = p2) (e3 : wrap64 (getV L 24 4 : Nat) = p3) (e4 : wrap64 (getV L 28 4 : Nat) = p4) (e5 : wrap64 (getV L 32 8 : Nat) = p5)
    (M : List Nat) (er : Int) (hby : ∀ w, Calls Try.prog 18 #[.agg #[.int .i64 p0, .int .i64 p1, .int .i64 p2, .int .i64 p3, .int .i64 p4, .int .i64 p5]] w (NewBsE w M er)) (hM : M.length ≤ 256) (hMx : ∀ y ∈ M, y < 256) (herr : (er != 0) = true) :
    Calls Try.prog 20 #[v] w fun e w' => e = .returned (.tuple #[.agg #[.int .i64 0, .int .i64 0, .int .i64 0, .int .i64 0, .int .i64 0, .int .i64 0], .int .i64 50]) ∧ Below w.heap.size w w' := by
  have h1 := fun w hv => rfield_any v L 16 4 w hv (by omega)
  have h2 := fun w hv => rfield_any v L 20 4 w hv (by omega)
  have h3 := fun w hv => rfield_any v L 24 4 w hv (by omega)
  have h4 := fun w hv => rfield_any v L 28 4 w hv (by omega)
  rw [e1] at h1
  rw [e2] at h2
  rw [e3] at h3
  rw [e4] at h4
  obtain ⟨φ, hφ⟩ : ∃ φ : Int → Int → Int, ∀ p n, wrap64 (getV L p n : Nat) = φ p n := ⟨_, fun _ _ => rfl⟩
  have hf : ∀ (p n : Int) (w : World), Bs w v L → Calls Try.prog 33 #[v, .int .i64 p, .int .i64 n] w fun e w' => e = .returned (.int .i64 (φ p n)) ∧ w = w' := fun p n w hv => by
    have := rfield_any v L p n w hv (by omega)
    rw [hφ] at this
    exact this
  rw [hφ] at e0 e5
  have E0 := hide e0
  have E5 := hide e5
  clear hφ
  clear e0 e1 e2 e3 e4 e5
  have hr := SupAt.new w 0 0 0 0 0 0
  have hv1 := hv.alloc (.cells #[.int .i64 0, .int .i64 0, .int .i64 0, .int .i64 0, .int .i64 0, .int .i64 0] 25)
  have hz : (w.alloc (.cells #[.int .i64 0, .int .i64 0, .int .i64 0, .int .i64 0, .int .i64 0, .int .i64 0] 25)).heap.size = w.heap.size + 1 := by simp
  have Hn := hide hn
  obtain ⟨ao, cap, rfl, -⟩ := id hv
  rw [hn] at hv hv1 h1 h2 h3 h4 hf ⊢
  have hlen : L.length ≤ 140737488355328 := by omega
  clear hn
  go_enter Try.func20, Try.ntmps20
  go_wp2_with fail
  refine (h1 _ hv1).mono ?_
  rintro e w1 ⟨rfl, rfl⟩
  go_wp2_with fail
  refine (h2 _ hv1).mono ?_
  rintro e w1 ⟨rfl, rfl⟩
  go_wp2_with fail
  refine (h3 _ hv1).mono ?_
  rintro e w1 ⟨rfl, rfl⟩
  go_wp2_with fail
  refine (h4 _ hv1).mono ?_
  rintro e w1 ⟨rfl, rfl⟩
  go_wp2_with fail
  have hv2 := hv1.alloc (.cells #[.int .i64 p1, .int .i64 p2, .int .i64 p3, .int .i64 p4] 23)
  have hr2 := hr.alloc (.cells #[.int .i64 p1, .int .i64 p2, .int .i64 p3, .int .i64 p4] 23)
  have hg2 := GeoAt.new (w.alloc (.cells #[.int .i64 0, .int .i64 0, .int .i64 0, .int .i64 0, .int .i64 0, .int .i64 0] 25)) p1 p2 p3 p4
  have hB2 : Below w.heap.size w ((w.alloc (.cells #[.int .i64 0, .int .i64 0, .int .i64 0, .int .i64 0, .int .i64 0, .int .i64 0] 25)).alloc (.cells #[.int .i64 p1, .int .i64 p2, .int .i64 p3, .int .i64 p4] 23)) := ((Below.refl _ w).alloc (Nat.le_refl _) _).alloc (by simp) _
  rw [hz] at hg2
  have hz2 : w.heap.size + 2 ≤ ((w.alloc (.cells #[.int .i64 0, .int .i64 0, .int .i64 0, .int .i64 0, .int .i64 0, .int .i64 0] 25)).alloc (.cells #[.int .i64 p1, .int .i64 p2, .int .i64 p3, .int .i64 p4] 23)).heap.size := by simp
  clear h1 h2 h3 h4 hv1 hr hz hv
  generalize ((w.alloc (.cells #[.int .i64 0, .int .i64 0, .int .i64 0, .int .i64 0, .int .i64 0, .int .i64 0] 25)).alloc (.cells #[.int .i64 p1, .int .i64 p2, .int .i64 p3, .int .i64 p4] 23)) = W at *
  have hv3 := hv2.drew
  have hv4 := (hv2.alloc (.cells #[.int .i64 0, .int .i64 0, .int .i64 0, .int .i64 0, .int .i64 0, .int .i64 0] 25)).drew
  have hS0 := geo_held (hg2.mono (Below.refl _ _).drew)
  have hS1 := fun o => geo_held ((hg2.alloc o).mono (Below.refl _ _).drew)
  go_region_held3 (fun w' => w'.cell? ⟨w.heap.size + 1, 0, none⟩ = some (.int .i64 p1) ∧ w'.cell? ⟨w.heap.size + 1, 1, none⟩ = some (.int .i64 p2) ∧ w'.cell? ⟨w.heap.size + 1, 2, none⟩ = some (.int .i64 p3) ∧ w'.cell? ⟨w.heap.size + 1, 3, none⟩ = some (.int .i64 p4))
    (first | exact hS0 | exact hS1 _)
    (first | (go_at_call 33; refine (hf _ _ _ (by first | exact hv3 | exact hv4)).mono ?_; rintro e w' ⟨rfl, rfl⟩; skip))
  all_goals rw [E0.out, E5.out]
  all_goals clear hv4 hv3 hS0 hS1
  all_goals go_wp2_with fail
  all_goals refine (hby _).mono ?_
  all_goals rintro e w1 ⟨vx, rfl, hox, hbx⟩
  all_goals have hbs := Bs.of_owns hox hMx
  all_goals have hrU := ((hr2.alloc (.cells #[.int .i64 p0, .int .i64 p1, .int .i64 p2, .int .i64 p3, .int .i64 p4, .int .i64 p5] 25)).mono (Below.refl _ _).drew).mono hbx
  all_goals have hsU := ((SupAt.new W p0 p1 p2 p3 p4 p5).mono (Below.refl _ _).drew).mono hbx
  all_goals have hvU := ((hv2.alloc (.cells #[.int .i64 p0, .int .i64 p1, .int .i64 p2, .int .i64 p3, .int .i64 p4, .int .i64 p5] 25)).drew).mono hbx
  all_goals have hBU : Below w.heap.size w w1 := (hB2.alloc hB2.size _).drew.trans (hbx.mono (by have := hB2.size; simp; omega))
  all_goals obtain ⟨xo, xc, rfl, -, -⟩ := owns_form hox
  all_goals clear hox hbx hr2 hg2 hB2 hv2 hf
  all_goals obtain ⟨c0, c1, c2, c3, c4, c5, f0, f1, f2, f3, f4, f5, lp⟩ := hrU
  all_goals obtain ⟨d0, d1, d2, d3, d4, d5, i0, i1, i2, i3, i4, i5, lq⟩ := hsU
  all_goals have hne : w.heap.size < W.heap.size := by omega
  all_goals go_wp2_with fail
  all_goals refine bodyPost_ret (v := .tuple #[.agg #[.int .i64 0, .int .i64 0, .int .i64 0, .int .i64 0, .int .i64 0, .int .i64 0], .int .i64 50]) (by simp [results, Try.results20, go_sem, c0, c1, c2, c3, c4, c5]) rfl ⟨rfl, ?_⟩
  all_goals exact (((((hBU.setCell (by simp) _).setCell (by simp) _).setCell (by simp) _).setCell (by simp) _).setCell (by simp) _).setCell (by simp) _


set_option maxRecDepth 100000 in
set_option maxHeartbeats 1000000 in
/-- The walk up to the document's Bytes, whatever these answer. -/
theorem rparse_eq (v : Value) (L : List Nat) (w : World) (hv : Bs w v L) (hn : L.length = 256) (p0 p1 p2 p3 p4 p5 : Int)
    (e0 : wrap64 (getV L 8 8 : Nat) = p0) (e1 : wrap64 (getV L 16 4 : Nat) = p1) (e2 : wrap64 (getV L 20 4 : Nat) = p2) (e3 : wrap64 (getV L 24 4 : Nat) = p3) (e4 : wrap64 (getV L 28 4 : Nat) = p4) (e5 : wrap64 (getV L 32 8 : Nat) = p5)
    (M : List Nat) (er : Int) (hby : ∀ w, Calls Try.prog 18 #[.agg #[.int .i64 p0, .int .i64 p1, .int .i64 p2, .int .i64 p3, .int .i64 p4, .int .i64 p5]] w (NewBsE w M er)) (hM : M.length ≤ 256) (hMx : ∀ y ∈ M, y < 256) (herr : er = 0) (hd : decide (M = L) = true) :
    Calls Try.prog 20 #[v] w fun e w' => e = .returned (.tuple #[.agg #[.int .i64 p0, .int .i64 p1, .int .i64 p2, .int .i64 p3, .int .i64 p4, .int .i64 p5], .int .i64 0]) ∧ Below w.heap.size w w' := by
  have h1 := fun w hv => rfield_any v L 16 4 w hv (by omega)
  have h2 := fun w hv => rfield_any v L 20 4 w hv (by omega)
  have h3 := fun w hv => rfield_any v L 24 4 w hv (by omega)
  have h4 := fun w hv => rfield_any v L 28 4 w hv (by omega)
  rw [e1] at h1
  rw [e2] at h2
  rw [e3] at h3
  rw [e4] at h4
  obtain ⟨φ, hφ⟩ : ∃ φ : Int → Int → Int, ∀ p n, wrap64 (getV L p n : Nat) = φ p n := ⟨_, fun _ _ => rfl⟩
  have hf : ∀ (p n : Int) (w : World), Bs w v L → Calls Try.prog 33 #[v, .int .i64 p, .int .i64 n] w fun e w' => e = .returned (.int .i64 (φ p n)) ∧ w = w' := fun p n w hv => by
    have := rfield_any v L p n w hv (by omega)
    rw [hφ] at this
    exact this
  rw [hφ] at e0 e5
  subst herr
  have E0 := hide e0
  have E5 := hide e5
  clear hφ
  clear e0 e1 e2 e3 e4 e5
  have hr := SupAt.new w 0 0 0 0 0 0
  have hv1 := hv.alloc (.cells #[.int .i64 0, .int .i64 0, .int .i64 0, .int .i64 0, .int .i64 0, .int .i64 0] 25)
  have hz : (w.alloc (.cells #[.int .i64 0, .int .i64 0, .int .i64 0, .int .i64 0, .int .i64 0, .int .i64 0] 25)).heap.size = w.heap.size + 1 := by simp
  have Hn := hide hn
  obtain ⟨ao, cap, rfl, -⟩ := id hv
  rw [hn] at hv hv1 h1 h2 h3 h4 hf ⊢
  have hlen : L.length ≤ 140737488355328 := by omega
  clear hn
  go_enter Try.func20, Try.ntmps20
  go_wp2_with fail
  refine (h1 _ hv1).mono ?_
  rintro e w1 ⟨rfl, rfl⟩
  go_wp2_with fail
  refine (h2 _ hv1).mono ?_
  rintro e w1 ⟨rfl, rfl⟩
  go_wp2_with fail
  refine (h3 _ hv1).mono ?_
  rintro e w1 ⟨rfl, rfl⟩
  go_wp2_with fail
  refine (h4 _ hv1).mono ?_
  rintro e w1 ⟨rfl, rfl⟩
  go_wp2_with fail
  have hv2 := hv1.alloc (.cells #[.int .i64 p1, .int .i64 p2, .int .i64 p3, .int .i64 p4] 23)
  have hr2 := hr.alloc (.cells #[.int .i64 p1, .int .i64 p2, .int .i64 p3, .int .i64 p4] 23)
  have hg2 := GeoAt.new (w.alloc (.cells #[.int .i64 0, .int .i64 0, .int .i64 0, .int .i64 0, .int .i64 0, .int .i64 0] 25)) p1 p2 p3 p4
  have hB2 : Below w.heap.size w ((w.alloc (.cells #[.int .i64 0, .int .i64 0, .int .i64 0, .int .i64 0, .int .i64 0, .int .i64 0] 25)).alloc (.cells #[.int .i64 p1, .int .i64 p2, .int .i64 p3, .int .i64 p4] 23)) := ((Below.refl _ w).alloc (Nat.le_refl _) _).alloc (by simp) _
  rw [hz] at hg2
  have hz2 : w.heap.size + 2 ≤ ((w.alloc (.cells #[.int .i64 0, .int .i64 0, .int .i64 0, .int .i64 0, .int .i64 0, .int .i64 0] 25)).alloc (.cells #[.int .i64 p1, .int .i64 p2, .int .i64 p3, .int .i64 p4] 23)).heap.size := by simp
  clear h1 h2 h3 h4 hv1 hr hz hv
  generalize ((w.alloc (.cells #[.int .i64 0, .int .i64 0, .int .i64 0, .int .i64 0, .int .i64 0, .int .i64 0] 25)).alloc (.cells #[.int .i64 p1, .int .i64 p2, .int .i64 p3, .int .i64 p4] 23)) = W at *
  have hv3 := hv2.drew
  have hv4 := (hv2.alloc (.cells #[.int .i64 0, .int .i64 0, .int .i64 0, .int .i64 0, .int .i64 0, .int .i64 0] 25)).drew
  have hS0 := geo_held (hg2.mono (Below.refl _ _).drew)
  have hS1 := fun o => geo_held ((hg2.alloc o).mono (Below.refl _ _).drew)
  go_region_held3 (fun w' => w'.cell? ⟨w.heap.size + 1, 0, none⟩ = some (.int .i64 p1) ∧ w'.cell? ⟨w.heap.size + 1, 1, none⟩ = some (.int .i64 p2) ∧ w'.cell? ⟨w.heap.size + 1, 2, none⟩ = some (.int .i64 p3) ∧ w'.cell? ⟨w.heap.size + 1, 3, none⟩ = some (.int .i64 p4))
    (first | exact hS0 | exact hS1 _)
    (first | (go_at_call 33; refine (hf _ _ _ (by first | exact hv3 | exact hv4)).mono ?_; rintro e w' ⟨rfl, rfl⟩; skip))
  all_goals rw [E0.out, E5.out]
  all_goals clear hv4 hv3 hS0 hS1
  all_goals go_wp2_with fail
  all_goals refine (hby _).mono ?_
  all_goals rintro e w1 ⟨vx, rfl, hox, hbx⟩
  all_goals have hbs := Bs.of_owns hox hMx
  all_goals have hrU := ((hr2.alloc (.cells #[.int .i64 p0, .int .i64 p1, .int .i64 p2, .int .i64 p3, .int .i64 p4, .int .i64 p5] 25)).mono (Below.refl _ _).drew).mono hbx
  all_goals have hsU := ((SupAt.new W p0 p1 p2 p3 p4 p5).mono (Below.refl _ _).drew).mono hbx
  all_goals have hvU := ((hv2.alloc (.cells #[.int .i64 p0, .int .i64 p1, .int .i64 p2, .int .i64 p3, .int .i64 p4, .int .i64 p5] 25)).drew).mono hbx
  all_goals have hBU : Below w.heap.size w w1 := (hB2.alloc hB2.size _).drew.trans (hbx.mono (by have := hB2.size; simp; omega))
  all_goals obtain ⟨xo, xc, rfl, -, -⟩ := owns_form hox
  all_goals clear hox hbx hr2 hg2 hB2 hv2 hf
  all_goals go_wp2_with fail
  all_goals refine (same_any _ _ M L _ hbs hvU (by omega) hlen).mono ?_
  all_goals rintro e w2 ⟨rfl, hb2⟩
  all_goals rw [hd]
  all_goals replace hrU := hrU.mono hb2
  all_goals replace hsU := hsU.mono hb2
  all_goals replace hBU := hBU.trans (hb2.mono hBU.size)
  all_goals clear hvU hbs hb2
  all_goals obtain ⟨c0, c1, c2, c3, c4, c5, f0, f1, f2, f3, f4, f5, lp⟩ := hrU
  all_goals obtain ⟨d0, d1, d2, d3, d4, d5, i0, i1, i2, i3, i4, i5, lq⟩ := hsU
  all_goals have hne : w.heap.size < W.heap.size := by omega
  all_goals go_wp2_with fail
  all_goals refine bodyPost_ret (v := .tuple #[.agg #[.int .i64 p0, .int .i64 p1, .int .i64 p2, .int .i64 p3, .int .i64 p4, .int .i64 p5], .int .i64 0]) (by simp [results, Try.results20, go_sem, c0, c1, c2, c3, c4, c5]) rfl ⟨rfl, ?_⟩
  all_goals exact (((((hBU.setCell (by simp) _).setCell (by simp) _).setCell (by simp) _).setCell (by simp) _).setCell (by simp) _).setCell (by simp) _


set_option maxRecDepth 100000 in
set_option maxHeartbeats 1000000 in
/-- The walk up to the document's Bytes, whatever these answer. -/
theorem rparse_ne (v : Value) (L : List Nat) (w : World) (hv : Bs w v L) (hn : L.length = 256) (p0 p1 p2 p3 p4 p5 : Int)
    (e0 : wrap64 (getV L 8 8 : Nat) = p0) (e1 : wrap64 (getV L 16 4 : Nat) = p1) (e2 : wrap64 (getV L 20 4 : Nat) = p2) (e3 : wrap64 (getV L 24 4 : Nat) = p3) (e4 : wrap64 (getV L 28 4 : Nat) = p4) (e5 : wrap64 (getV L 32 8 : Nat) = p5)
    (M : List Nat) (er : Int) (hby : ∀ w, Calls Try.prog 18 #[.agg #[.int .i64 p0, .int .i64 p1, .int .i64 p2, .int .i64 p3, .int .i64 p4, .int .i64 p5]] w (NewBsE w M er)) (hM : M.length ≤ 256) (hMx : ∀ y ∈ M, y < 256) (herr : er = 0) (hd : decide (M = L) = false) :
    Calls Try.prog 20 #[v] w fun e w' => e = .returned (.tuple #[.agg #[.int .i64 0, .int .i64 0, .int .i64 0, .int .i64 0, .int .i64 0, .int .i64 0], .int .i64 50]) ∧ Below w.heap.size w w' := by
  have h1 := fun w hv => rfield_any v L 16 4 w hv (by omega)
  have h2 := fun w hv => rfield_any v L 20 4 w hv (by omega)
  have h3 := fun w hv => rfield_any v L 24 4 w hv (by omega)
  have h4 := fun w hv => rfield_any v L 28 4 w hv (by omega)
  rw [e1] at h1
  rw [e2] at h2
  rw [e3] at h3
  rw [e4] at h4
  obtain ⟨φ, hφ⟩ : ∃ φ : Int → Int → Int, ∀ p n, wrap64 (getV L p n : Nat) = φ p n := ⟨_, fun _ _ => rfl⟩
  have hf : ∀ (p n : Int) (w : World), Bs w v L → Calls Try.prog 33 #[v, .int .i64 p, .int .i64 n] w fun e w' => e = .returned (.int .i64 (φ p n)) ∧ w = w' := fun p n w hv => by
    have := rfield_any v L p n w hv (by omega)
    rw [hφ] at this
    exact this
  rw [hφ] at e0 e5
  subst herr
  have E0 := hide e0
  have E5 := hide e5
  clear hφ
  clear e0 e1 e2 e3 e4 e5
  have hr := SupAt.new w 0 0 0 0 0 0
  have hv1 := hv.alloc (.cells #[.int .i64 0, .int .i64 0, .int .i64 0, .int .i64 0, .int .i64 0, .int .i64 0] 25)
  have hz : (w.alloc (.cells #[.int .i64 0, .int .i64 0, .int .i64 0, .int .i64 0, .int .i64 0, .int .i64 0] 25)).heap.size = w.heap.size + 1 := by simp
  have Hn := hide hn
  obtain ⟨ao, cap, rfl, -⟩ := id hv
  rw [hn] at hv hv1 h1 h2 h3 h4 hf ⊢
  have hlen : L.length ≤ 140737488355328 := by omega
  clear hn
  go_enter Try.func20, Try.ntmps20
  go_wp2_with fail
  refine (h1 _ hv1).mono ?_
  rintro e w1 ⟨rfl, rfl⟩
  go_wp2_with fail
  refine (h2 _ hv1).mono ?_
  rintro e w1 ⟨rfl, rfl⟩
  go_wp2_with fail
  refine (h3 _ hv1).mono ?_
  rintro e w1 ⟨rfl, rfl⟩
  go_wp2_with fail
  refine (h4 _ hv1).mono ?_
  rintro e w1 ⟨rfl, rfl⟩
  go_wp2_with fail
  have hv2 := hv1.alloc (.cells #[.int .i64 p1, .int .i64 p2, .int .i64 p3, .int .i64 p4] 23)
  have hr2 := hr.alloc (.cells #[.int .i64 p1, .int .i64 p2, .int .i64 p3, .int .i64 p4] 23)
  have hg2 := GeoAt.new (w.alloc (.cells #[.int .i64 0, .int .i64 0, .int .i64 0, .int .i64 0, .int .i64 0, .int .i64 0] 25)) p1 p2 p3 p4
  have hB2 : Below w.heap.size w ((w.alloc (.cells #[.int .i64 0, .int .i64 0, .int .i64 0, .int .i64 0, .int .i64 0, .int .i64 0] 25)).alloc (.cells #[.int .i64 p1, .int .i64 p2, .int .i64 p3, .int .i64 p4] 23)) := ((Below.refl _ w).alloc (Nat.le_refl _) _).alloc (by simp) _
  rw [hz] at hg2
  have hz2 : w.heap.size + 2 ≤ ((w.alloc (.cells #[.int .i64 0, .int .i64 0, .int .i64 0, .int .i64 0, .int .i64 0, .int .i64 0] 25)).alloc (.cells #[.int .i64 p1, .int .i64 p2, .int .i64 p3, .int .i64 p4] 23)).heap.size := by simp
  clear h1 h2 h3 h4 hv1 hr hz hv
  generalize ((w.alloc (.cells #[.int .i64 0, .int .i64 0, .int .i64 0, .int .i64 0, .int .i64 0, .int .i64 0] 25)).alloc (.cells #[.int .i64 p1, .int .i64 p2, .int .i64 p3, .int .i64 p4] 23)) = W at *
  have hv3 := hv2.drew
  have hv4 := (hv2.alloc (.cells #[.int .i64 0, .int .i64 0, .int .i64 0, .int .i64 0, .int .i64 0, .int .i64 0] 25)).drew
  have hS0 := geo_held (hg2.mono (Below.refl _ _).drew)
  have hS1 := fun o => geo_held ((hg2.alloc o).mono (Below.refl _ _).drew)
  go_region_held3 (fun w' => w'.cell? ⟨w.heap.size + 1, 0, none⟩ = some (.int .i64 p1) ∧ w'.cell? ⟨w.heap.size + 1, 1, none⟩ = some (.int .i64 p2) ∧ w'.cell? ⟨w.heap.size + 1, 2, none⟩ = some (.int .i64 p3) ∧ w'.cell? ⟨w.heap.size + 1, 3, none⟩ = some (.int .i64 p4))
    (first | exact hS0 | exact hS1 _)
    (first | (go_at_call 33; refine (hf _ _ _ (by first | exact hv3 | exact hv4)).mono ?_; rintro e w' ⟨rfl, rfl⟩; skip))
  all_goals rw [E0.out, E5.out]
  all_goals clear hv4 hv3 hS0 hS1
  all_goals go_wp2_with fail
  all_goals refine (hby _).mono ?_
  all_goals rintro e w1 ⟨vx, rfl, hox, hbx⟩
  all_goals have hbs := Bs.of_owns hox hMx
  all_goals have hrU := ((hr2.alloc (.cells #[.int .i64 p0, .int .i64 p1, .int .i64 p2, .int .i64 p3, .int .i64 p4, .int .i64 p5] 25)).mono (Below.refl _ _).drew).mono hbx
  all_goals have hsU := ((SupAt.new W p0 p1 p2 p3 p4 p5).mono (Below.refl _ _).drew).mono hbx
  all_goals have hvU := ((hv2.alloc (.cells #[.int .i64 p0, .int .i64 p1, .int .i64 p2, .int .i64 p3, .int .i64 p4, .int .i64 p5] 25)).drew).mono hbx
  all_goals have hBU : Below w.heap.size w w1 := (hB2.alloc hB2.size _).drew.trans (hbx.mono (by have := hB2.size; simp; omega))
  all_goals obtain ⟨xo, xc, rfl, -, -⟩ := owns_form hox
  all_goals clear hox hbx hr2 hg2 hB2 hv2 hf
  all_goals go_wp2_with fail
  all_goals refine (same_any _ _ M L _ hbs hvU (by omega) hlen).mono ?_
  all_goals rintro e w2 ⟨rfl, hb2⟩
  all_goals rw [hd]
  all_goals replace hrU := hrU.mono hb2
  all_goals replace hsU := hsU.mono hb2
  all_goals replace hBU := hBU.trans (hb2.mono hBU.size)
  all_goals clear hvU hbs hb2
  all_goals obtain ⟨c0, c1, c2, c3, c4, c5, f0, f1, f2, f3, f4, f5, lp⟩ := hrU
  all_goals obtain ⟨d0, d1, d2, d3, d4, d5, i0, i1, i2, i3, i4, i5, lq⟩ := hsU
  all_goals have hne : w.heap.size < W.heap.size := by omega
  all_goals go_wp2_with fail
  all_goals refine bodyPost_ret (v := .tuple #[.agg #[.int .i64 0, .int .i64 0, .int .i64 0, .int .i64 0, .int .i64 0, .int .i64 0], .int .i64 50]) (by simp [results, Try.results20, go_sem, c0, c1, c2, c3, c4, c5]) rfl ⟨rfl, ?_⟩
  all_goals exact (((((hBU.setCell (by simp) _).setCell (by simp) _).setCell (by simp) _).setCell (by simp) _).setCell (by simp) _).setCell (by simp) _


end Go.Proofs.Ytfjkmgfjlckmlaa
