/- Contracts: parse of a sector, whatever fields and Bytes answer. -/
import Derived.Test.YtjhbljkoapbkfaaRA
import Derived.Test.YtjhbljkoapbkfaaRP
import Derived.Deep.RegionHeld3
set_option linter.unusedSimpArgs false
set_option linter.unusedVariables false
namespace Go.Proofs.Ytjhbljkoapbkfaa
open Go.RowKit Go.Attic

set_option maxRecDepth 100000 in
set_option maxHeartbeats 400000 in
theorem parse_short (v : Value) (L : List Nat) (w : World) (hv : Bs w v L) (hlen : L.length ≤ 140737488355328) (hn : L.length ≠ 64) :
    Calls Try.prog 61 #[v] w fun e w' => e = .returned (.tuple #[.int .i64 0, .agg #[.int .i64 0, .int .i64 0, .int .i64 0, .slice none 0 0, .int .i64 0], .int .i64 61]) ∧ Below w.heap.size w w' := by
  obtain ⟨c0, c1, c2, c3, c4, f0, f1, f2, f3, f4, lp⟩ := RecAt.new w 0 0 0 (.slice none 0 0) 0
  obtain ⟨ao, cap, rfl, -⟩ := hv
  have hnb : ((L.length : Int) != 64) = true := by simp; omega
  clear hn
  go_enter Try.func61, Try.ntmps61
  go_wp2_with fail
  refine bodyPost_ret (v := .tuple #[.int .i64 0, .agg #[.int .i64 0, .int .i64 0, .int .i64 0, .slice none 0 0, .int .i64 0], .int .i64 61]) (by simp [results, Try.results61, go_sem, c0, c1, c2, c3, c4]) rfl ⟨rfl, ?_⟩
  exact (Below.refl _ w).alloc (Nat.le_refl _) _

set_option maxRecDepth 100000 in
set_option maxHeartbeats 400000 in
theorem parse_big (v : Value) (L : List Nat) (w : World) (hv : Bs w v L) (hn : L.length = 64) (h1 : 44 < L.getD 1 0) :
    Calls Try.prog 61 #[v] w fun e w' => e = .returned (.tuple #[.int .i64 0, .agg #[.int .i64 0, .int .i64 0, .int .i64 0, .slice none 0 0, .int .i64 0], .int .i64 61]) ∧ Below w.heap.size w w' := by
  obtain ⟨c0, c1, c2, c3, c4, f0, f1, f2, f3, f4, lp⟩ := RecAt.new w 0 0 0 (.slice none 0 0) 0
  have hv1 := hv.alloc (.cells #[.int .i64 0, .int .i64 0, .int .i64 0, .slice none 0 0, .int .i64 0] 62)
  obtain ⟨ao, cap, rfl, -, -, -, -⟩ := id hv
  obtain ⟨ao', cap', e, -, -, -, hc⟩ := hv1
  injection e with e1 e2 e3
  subst e1 e3
  obtain ⟨vb, off, rfl, hcell⟩ := hc (by omega)
  have d1 := hcell 1 (by omega)
  rw [hn]
  generalize L.getD 1 0 = n at *
  clear hc hcell hv
  go_enter Try.func61, Try.ntmps61
  go_wp2_with fail
  refine bodyPost_ret (v := .tuple #[.int .i64 0, .agg #[.int .i64 0, .int .i64 0, .int .i64 0, .slice none 0 0, .int .i64 0], .int .i64 61]) (by simp [results, Try.results61, go_sem, c0, c1, c2, c3, c4]) rfl ⟨rfl, ?_⟩
  exact (Below.refl _ w).alloc (Nat.le_refl _) _

set_option maxRecDepth 100000 in
set_option maxHeartbeats 400000 in
theorem parse_err (v : Value) (L : List Nat) (w : World) (hv : Bs w v L) (hn : L.length = 64) (h1 : L.getD 1 0 ≤ 44) (pi k b o m : Int) (l : List Nat) (vr : Value) (hvr : ∀ w, Bs w v L → Bs w vr l)
    (hf : ∀ w, Bs w v L → Calls Try.prog 67 #[v] w fun e w' => e = .returned (.tuple #[.int .i64 pi, .agg #[.int .i64 k, .int .i64 b, .int .i64 o, vr, .int .i64 m]]) ∧ Below w.heap.size w w')
    (M : List Nat) (er : Int) (hby : ∀ w, Bs w vr l → Calls Try.prog 50 #[.int .i64 pi, .agg #[.int .i64 k, .int .i64 b, .int .i64 o, vr, .int .i64 m]] w (NewBsE w M er)) (hMx : ∀ y ∈ M, y < 256) (herr : (er != 0) = true) :
    Calls Try.prog 61 #[v] w fun e w' => e = .returned (.tuple #[.int .i64 0, .agg #[.int .i64 0, .int .i64 0, .int .i64 0, .slice none 0 0, .int .i64 0], .int .i64 61]) ∧ Below w.heap.size w w' := by
  have hr := RecAt.new w 0 0 0 (.slice none 0 0) 0
  have hv1 := hv.alloc (.cells #[.int .i64 0, .int .i64 0, .int .i64 0, .slice none 0 0, .int .i64 0] 62)
  have hbr := hvr _ hv1
  obtain ⟨rao, rcap, rfl, -, -, -, -⟩ := id hbr
  clear hvr
  obtain ⟨ao, cap, rfl, -, -, -, -⟩ := id hv
  obtain ⟨ao', cap', e, -, -, -, hc⟩ := id hv1
  injection e with e1 e2 e3
  subst e1 e3
  obtain ⟨vb, off, rfl, hcell⟩ := hc (by omega)
  have d1 := hcell 1 (by omega)
  have Hn := hide hn
  rw [hn] at hv hv1 hf ⊢
  generalize L.getD 1 0 = n at *
  clear hc hcell hn hv
  go_enter Try.func61, Try.ntmps61
  go_wp2_with fail
  refine (hf _ hv1).mono ?_
  rintro e w1 ⟨rfl, hb1⟩
  have hr1 := (hr.mono hb1).alloc (.cells #[.int .i64 k, .int .i64 b, .int .i64 o, .slice rao l.length rcap, .int .i64 m] 62)
  have hs1 := RecAt.new w1 k b o (.slice rao l.length rcap) m
  have hbr1 := (hbr.mono hb1).alloc (.cells #[.int .i64 k, .int .i64 b, .int .i64 o, .slice rao l.length rcap, .int .i64 m] 62)
  have hv2 := (hv1.mono hb1).alloc (.cells #[.int .i64 k, .int .i64 b, .int .i64 o, .slice rao l.length rcap, .int .i64 m] 62)
  have hB1 : Below w.heap.size w w1 := ((Below.refl _ w).alloc (Nat.le_refl _) _).trans (hb1.mono (by simp))
  have hne : w.heap.size < w1.heap.size := by have := hb1.size; simp at this; omega
  have hB2 := hB1.alloc hB1.size (.cells #[.int .i64 k, .int .i64 b, .int .i64 o, .slice rao l.length rcap, .int .i64 m] 62)
  clear hb1 hr hv1 hB1 hf d1
  go_wp2_with fail
  refine (hby _ hbr1).mono ?_
  rintro e w2 ⟨vx, rfl, hox, hbx⟩
  have hbs := Bs.of_owns hox hMx
  obtain ⟨xo, xc, rfl, -, -⟩ := owns_form hox
  have hvU := hv2.mono hbx
  have hBU := hB2.trans (hbx.mono hB2.size)
  have hR := hr1.mono hbx
  have hS := hs1.mono hbx
  obtain ⟨c0, c1, c2, c3, c4, f0, f1, f2, f3, f4, lp⟩ := id hR
  clear hox hbx hr1 hs1 hv2 hB2 hbr1
  go_wp2_with fail
  refine bodyPost_ret (v := .tuple #[.int .i64 0, .agg #[.int .i64 0, .int .i64 0, .int .i64 0, .slice none 0 0, .int .i64 0], .int .i64 61]) (by simp [results, Try.results61, go_sem, c0, c1, c2, c3, c4]) rfl ⟨rfl, ?_⟩
  exact ((((hBU.setCell (by simp) _).setCell (by simp) _).setCell (by simp) _).setCell (by simp) _).setCell (by simp) _

set_option maxRecDepth 100000 in
set_option maxHeartbeats 400000 in
theorem parse_ne (v : Value) (L : List Nat) (w : World) (hv : Bs w v L) (hn : L.length = 64) (h1 : L.getD 1 0 ≤ 44) (pi k b o m : Int) (l : List Nat) (vr : Value) (hvr : ∀ w, Bs w v L → Bs w vr l)
    (hf : ∀ w, Bs w v L → Calls Try.prog 67 #[v] w fun e w' => e = .returned (.tuple #[.int .i64 pi, .agg #[.int .i64 k, .int .i64 b, .int .i64 o, vr, .int .i64 m]]) ∧ Below w.heap.size w w')
    (M : List Nat) (er : Int) (hby : ∀ w, Bs w vr l → Calls Try.prog 50 #[.int .i64 pi, .agg #[.int .i64 k, .int .i64 b, .int .i64 o, vr, .int .i64 m]] w (NewBsE w M er)) (hMx : ∀ y ∈ M, y < 256) (herr : er = 0) (hd : decide (L = M) = false) :
    Calls Try.prog 61 #[v] w fun e w' => e = .returned (.tuple #[.int .i64 0, .agg #[.int .i64 0, .int .i64 0, .int .i64 0, .slice none 0 0, .int .i64 0], .int .i64 61]) ∧ Below w.heap.size w w' := by
  subst herr
  have hr := RecAt.new w 0 0 0 (.slice none 0 0) 0
  have hv1 := hv.alloc (.cells #[.int .i64 0, .int .i64 0, .int .i64 0, .slice none 0 0, .int .i64 0] 62)
  have hbr := hvr _ hv1
  obtain ⟨rao, rcap, rfl, -, -, -, -⟩ := id hbr
  clear hvr
  obtain ⟨ao, cap, rfl, -, -, -, -⟩ := id hv
  obtain ⟨ao', cap', e, -, -, -, hc⟩ := id hv1
  injection e with e1 e2 e3
  subst e1 e3
  obtain ⟨vb, off, rfl, hcell⟩ := hc (by omega)
  have d1 := hcell 1 (by omega)
  have Hn := hide hn
  rw [hn] at hv hv1 hf ⊢
  generalize L.getD 1 0 = n at *
  clear hc hcell hn hv
  go_enter Try.func61, Try.ntmps61
  go_wp2_with fail
  refine (hf _ hv1).mono ?_
  rintro e w1 ⟨rfl, hb1⟩
  have hr1 := (hr.mono hb1).alloc (.cells #[.int .i64 k, .int .i64 b, .int .i64 o, .slice rao l.length rcap, .int .i64 m] 62)
  have hs1 := RecAt.new w1 k b o (.slice rao l.length rcap) m
  have hbr1 := (hbr.mono hb1).alloc (.cells #[.int .i64 k, .int .i64 b, .int .i64 o, .slice rao l.length rcap, .int .i64 m] 62)
  have hv2 := (hv1.mono hb1).alloc (.cells #[.int .i64 k, .int .i64 b, .int .i64 o, .slice rao l.length rcap, .int .i64 m] 62)
  have hB1 : Below w.heap.size w w1 := ((Below.refl _ w).alloc (Nat.le_refl _) _).trans (hb1.mono (by simp))
  have hne : w.heap.size < w1.heap.size := by have := hb1.size; simp at this; omega
  have hB2 := hB1.alloc hB1.size (.cells #[.int .i64 k, .int .i64 b, .int .i64 o, .slice rao l.length rcap, .int .i64 m] 62)
  clear hb1 hr hv1 hB1 hf d1
  go_wp2_with fail
  refine (hby _ hbr1).mono ?_
  rintro e w2 ⟨vx, rfl, hox, hbx⟩
  have hbs := Bs.of_owns hox hMx
  obtain ⟨xo, xc, rfl, -, -⟩ := owns_form hox
  have hvU := hv2.mono hbx
  have hBU := hB2.trans (hbx.mono hB2.size)
  have hR := hr1.mono hbx
  have hS := hs1.mono hbx
  obtain ⟨c0, c1, c2, c3, c4, f0, f1, f2, f3, f4, lp⟩ := id hR
  clear hox hbx hr1 hs1 hv2 hB2 hbr1
  go_wp2_with fail
  refine (equal_any _ _ L M _ hvU hbs).mono ?_
  rintro e w3 ⟨rfl, rfl⟩
  rw [hd]
  go_wp2_with fail
  refine bodyPost_ret (v := .tuple #[.int .i64 0, .agg #[.int .i64 0, .int .i64 0, .int .i64 0, .slice none 0 0, .int .i64 0], .int .i64 61]) (by simp [results, Try.results61, go_sem, c0, c1, c2, c3, c4]) rfl ⟨rfl, ?_⟩
  exact ((((hBU.setCell (by simp) _).setCell (by simp) _).setCell (by simp) _).setCell (by simp) _).setCell (by simp) _

set_option maxRecDepth 100000 in
set_option maxHeartbeats 400000 in
theorem parse_eq (v : Value) (L : List Nat) (w : World) (hv : Bs w v L) (hn : L.length = 64) (h1 : L.getD 1 0 ≤ 44) (pi k b o m : Int) (l : List Nat) (vr : Value) (hvr : ∀ w, Bs w v L → Bs w vr l)
    (hf : ∀ w, Bs w v L → Calls Try.prog 67 #[v] w fun e w' => e = .returned (.tuple #[.int .i64 pi, .agg #[.int .i64 k, .int .i64 b, .int .i64 o, vr, .int .i64 m]]) ∧ Below w.heap.size w w')
    (M : List Nat) (er : Int) (hby : ∀ w, Bs w vr l → Calls Try.prog 50 #[.int .i64 pi, .agg #[.int .i64 k, .int .i64 b, .int .i64 o, vr, .int .i64 m]] w (NewBsE w M er)) (hMx : ∀ y ∈ M, y < 256) (herr : er = 0) (hd : decide (L = M) = true) :
    Calls Try.prog 61 #[v] w fun e w' => e = .returned (.tuple #[.int .i64 pi, .agg #[.int .i64 k, .int .i64 b, .int .i64 o, vr, .int .i64 m], .int .i64 0]) ∧ Below w.heap.size w w' := by
  subst herr
  have hr := RecAt.new w 0 0 0 (.slice none 0 0) 0
  have hv1 := hv.alloc (.cells #[.int .i64 0, .int .i64 0, .int .i64 0, .slice none 0 0, .int .i64 0] 62)
  have hbr := hvr _ hv1
  obtain ⟨rao, rcap, rfl, -, -, -, -⟩ := id hbr
  clear hvr
  obtain ⟨ao, cap, rfl, -, -, -, -⟩ := id hv
  obtain ⟨ao', cap', e, -, -, -, hc⟩ := id hv1
  injection e with e1 e2 e3
  subst e1 e3
  obtain ⟨vb, off, rfl, hcell⟩ := hc (by omega)
  have d1 := hcell 1 (by omega)
  have Hn := hide hn
  rw [hn] at hv hv1 hf ⊢
  generalize L.getD 1 0 = n at *
  clear hc hcell hn hv
  go_enter Try.func61, Try.ntmps61
  go_wp2_with fail
  refine (hf _ hv1).mono ?_
  rintro e w1 ⟨rfl, hb1⟩
  have hr1 := (hr.mono hb1).alloc (.cells #[.int .i64 k, .int .i64 b, .int .i64 o, .slice rao l.length rcap, .int .i64 m] 62)
  have hs1 := RecAt.new w1 k b o (.slice rao l.length rcap) m
  have hbr1 := (hbr.mono hb1).alloc (.cells #[.int .i64 k, .int .i64 b, .int .i64 o, .slice rao l.length rcap, .int .i64 m] 62)
  have hv2 := (hv1.mono hb1).alloc (.cells #[.int .i64 k, .int .i64 b, .int .i64 o, .slice rao l.length rcap, .int .i64 m] 62)
  have hB1 : Below w.heap.size w w1 := ((Below.refl _ w).alloc (Nat.le_refl _) _).trans (hb1.mono (by simp))
  have hne : w.heap.size < w1.heap.size := by have := hb1.size; simp at this; omega
  have hB2 := hB1.alloc hB1.size (.cells #[.int .i64 k, .int .i64 b, .int .i64 o, .slice rao l.length rcap, .int .i64 m] 62)
  clear hb1 hr hv1 hB1 hf d1
  go_wp2_with fail
  refine (hby _ hbr1).mono ?_
  rintro e w2 ⟨vx, rfl, hox, hbx⟩
  have hbs := Bs.of_owns hox hMx
  obtain ⟨xo, xc, rfl, -, -⟩ := owns_form hox
  have hvU := hv2.mono hbx
  have hBU := hB2.trans (hbx.mono hB2.size)
  have hR := hr1.mono hbx
  have hS := hs1.mono hbx
  obtain ⟨c0, c1, c2, c3, c4, f0, f1, f2, f3, f4, lp⟩ := id hR
  clear hox hbx hr1 hs1 hv2 hB2 hbr1
  go_wp2_with fail
  refine (equal_any _ _ L M _ hvU hbs).mono ?_
  rintro e w3 ⟨rfl, rfl⟩
  rw [hd]
  go_wp2_with fail
  clear c0 c1 c2 c3 c4 f0 f1 f2 f3 f4 lp
  refine wp_region_noPanic ?_
  refine wp_region_held_drew (S := (fun w' => w'.cell? ⟨w1.heap.size, 0, none⟩ = some (.int .i64 k) ∧ w'.cell? ⟨w1.heap.size, 1, none⟩ = some (.int .i64 b) ∧ w'.cell? ⟨w1.heap.size, 2, none⟩ = some (.int .i64 o) ∧ w'.cell? ⟨w1.heap.size, 3, none⟩ = some (.slice rao l.length rcap) ∧ w'.cell? ⟨w1.heap.size, 4, none⟩ = some (.int .i64 m))) (by kernel_rfl) hS.drew.held (fun hHeld => ?_)
  refine wpAnyH_take (i := 0) (oi := { dst := some 39, op := Op.move (Operand.tmp 5), type := 2, pos := _, after := #[], guard := none }) (v := .int .i64 pi) rfl (by kernel_rfl) (by kernel_rfl) (by kernel_rfl) (fun _ _ _ h => h) (Or.inl ⟨by rfl, fun w' hw => by go_simp⟩) hHeld ?_
  simp only [Act.put, List.setIfInBounds_toArray, List.set_cons_zero, List.set_cons_succ]
  refine wpAnyH_take (i := 1) (oi := { dst := some 40, op := Op.load 62 (Operand.tmp 6), type := 62, pos := _, after := #[{ on := 2, ground := Ground.gcOnly Departure.lateStores }], guard := none }) (v := .agg #[.int .i64 k, .int .i64 b, .int .i64 o, .slice rao l.length rcap, .int .i64 m]) rfl (by kernel_rfl) (by kernel_rfl) (by kernel_rfl) (fun _ _ _ h => h) (Or.inl ⟨by rfl, fun w' hw => by obtain ⟨k0, k1, k2, k3, k4⟩ := hw; go_simp⟩) hHeld ?_
  simp only [Act.put, List.setIfInBounds_toArray, List.set_cons_zero, List.set_cons_succ]
  refine wpAnyH_take (i := 2) (oi := { dst := some 2, op := Op.assign (Operand.tmp 39), type := 2, pos := _, after := #[{ on := 0, ground := Ground.data }, { on := 0, ground := Ground.phase }, { on := 1, ground := Ground.textOnly Departure.lateStores }], guard := none }) (v := .int .i64 pi) rfl (by kernel_rfl) (by kernel_rfl) (by kernel_rfl) (fun _ _ _ h => h) (Or.inl ⟨by rfl, fun w' hw => by go_simp⟩) hHeld ?_
  simp only [Act.put, List.setIfInBounds_toArray, List.set_cons_zero, List.set_cons_succ]
  refine wpAnyH_ready (rs := [3]) (by kernel_rfl) (by simp) ?_
  refine AllReadyH.cons (o := { dst := none, op := Op.store 62 (Operand.tmp 3) (Operand.tmp 40), type := 0, pos := _, after := #[{ on := 1, ground := Ground.data }, { on := 2, ground := Ground.chain }, { on := 0, ground := Ground.phase }, { on := 1, ground := Ground.phase }, { on := 2, ground := Ground.phase }], guard := none }) rfl (fun K hK => ?_) AllReadyH.nil
  refine step_store_rec rfl (.tmp 3) (.tmp 40) rfl w.heap.size k b o rao l.length rcap m rfl rfl hR.drew ?_
  have hH2 := (hS.drew.setOthers (Nat.ne_of_lt hne) k b o (.slice rao l.length rcap) m).held
  refine hK.out _ _ hH2 (fun _ => ?_)
  clear hK K
  simp only [Act.put]
  refine wpAnyH_take (i := 4) (oi := { dst := some 4, op := Op.assign (Operand.const (Value.int IntKind.i64 0)), type := 25, pos := _, after := #[{ on := 3, ground := Ground.chain }, { on := 0, ground := Ground.phase }, { on := 1, ground := Ground.phase }, { on := 2, ground := Ground.phase }, { on := 3, ground := Ground.phase }], guard := none }) (v := .int .i64 0) rfl (by kernel_rfl) (by kernel_rfl) (by kernel_rfl) (fun _ _ _ h => h) (Or.inl ⟨by rfl, fun w' hw => by go_simp⟩) hH2 ?_
  simp only [Act.put, List.setIfInBounds_toArray, List.set_cons_zero, List.set_cons_succ]
  refine wpAnyH_done (by kernel_rfl) ?_ _
  refine NoPanic.normal ?_
  have hcU := hR.drew.setAll k b o (.slice rao l.length rcap) m
  have hbU : Below w.heap.size w (((((w2.drew.setCell ⟨w.heap.size, 0, none⟩ (.int .i64 k)).setCell ⟨w.heap.size, 1, none⟩ (.int .i64 b)).setCell ⟨w.heap.size, 2, none⟩ (.int .i64 o)).setCell ⟨w.heap.size, 3, none⟩ (.slice rao l.length rcap)).setCell ⟨w.heap.size, 4, none⟩ (.int .i64 m)) := ((((hBU.drew.setCell (Nat.le_refl _) _).setCell (Nat.le_refl _) _).setCell (Nat.le_refl _) _).setCell (Nat.le_refl _) _).setCell (Nat.le_refl _) _
  clear hH2
  generalize (((((w2.drew.setCell ⟨w.heap.size, 0, none⟩ (.int .i64 k)).setCell ⟨w.heap.size, 1, none⟩ (.int .i64 b)).setCell ⟨w.heap.size, 2, none⟩ (.int .i64 o)).setCell ⟨w.heap.size, 3, none⟩ (.slice rao l.length rcap)).setCell ⟨w.heap.size, 4, none⟩ (.int .i64 m)) = U at hcU hbU ⊢
  obtain ⟨c0, c1, c2, c3, c4, -, -, -, -, -, -⟩ := hcU
  clear hR hS hHeld
  go_wp2_with fail
  refine bodyPost_ret (v := .tuple #[.int .i64 pi, .agg #[.int .i64 k, .int .i64 b, .int .i64 o, .slice rao l.length rcap, .int .i64 m], .int .i64 0]) (by simp [results, Try.results61, go_sem, c0, c1, c2, c3, c4]) rfl ⟨rfl, hbU⟩


end Go.Proofs.Ytjhbljkoapbkfaa
