/- Contracts: Of, and the document's. -/
import Derived.Test.YtecbcjdihnbdhaaC2
set_option linter.unusedSimpArgs false
set_option linter.unusedVariables false
namespace Go.Proofs.Ytecbcjdihnbdhaa
open Go.RowKit Go.Attic

structure GeoAt (w : World) (g : Nat) (b l d x : Int) : Prop where
  c0 : (w.cell? ⟨g, 0, none⟩ = some (.int .i64 b))
  c1 : (w.cell? ⟨g, 1, none⟩ = some (.int .i64 l))
  c2 : (w.cell? ⟨g, 2, none⟩ = some (.int .i64 d))
  c3 : (w.cell? ⟨g, 3, none⟩ = some (.int .i64 x))
  f0 : (w.frozen? ⟨g, 0, none⟩ = false)
  f1 : (w.frozen? ⟨g, 1, none⟩ = false)
  f2 : (w.frozen? ⟨g, 2, none⟩ = false)
  f3 : (w.frozen? ⟨g, 3, none⟩ = false)
  lt : g < w.heap.size

theorem GeoAt.new (w : World) (b l d x : Int) : GeoAt (w.alloc (.cells #[.int .i64 b, .int .i64 l, .int .i64 d, .int .i64 x] 23)) w.heap.size b l d x := by
  constructor <;> simp

theorem GeoAt.below {w w' : World} {g B : Nat} {b l d x : Int} (h : GeoAt w g b l d x) (hb : Below B w w') (hB : g < B) : GeoAt w' g b l d x := by
  refine ⟨?_, ?_, ?_, ?_, ?_, ?_, ?_, ?_, Nat.lt_of_lt_of_le h.lt hb.size⟩
  · rw [hb.cell (p := ⟨g, 0, none⟩) hB]; exact h.c0
  · rw [hb.cell (p := ⟨g, 1, none⟩) hB]; exact h.c1
  · rw [hb.cell (p := ⟨g, 2, none⟩) hB]; exact h.c2
  · rw [hb.cell (p := ⟨g, 3, none⟩) hB]; exact h.c3
  · rw [hb.frozen (p := ⟨g, 0, none⟩) hB]; exact h.f0
  · rw [hb.frozen (p := ⟨g, 1, none⟩) hB]; exact h.f1
  · rw [hb.frozen (p := ⟨g, 2, none⟩) hB]; exact h.f2
  · rw [hb.frozen (p := ⟨g, 3, none⟩) hB]; exact h.f3

theorem GeoAt.mono {w w' : World} {g : Nat} {b l d x : Int} (h : GeoAt w g b l d x) (hb : Below w.heap.size w w') : GeoAt w' g b l d x := h.below hb h.lt

theorem GeoAt.alloc {w : World} {g : Nat} {b l d x : Int} (h : GeoAt w g b l d x) (o : Obj) : GeoAt (w.alloc o) g b l d x := h.mono ((Below.refl _ _).alloc (Nat.le_refl _) o)

structure PlanAt (w : World) (g : Nat) (a0 a1 a2 a3 a4 a5 : Int) : Prop where
  c0 : (w.cell? ⟨g, 0, none⟩ = some (.int .i64 a0))
  c1 : (w.cell? ⟨g, 1, none⟩ = some (.int .i64 a1))
  c2 : (w.cell? ⟨g, 2, none⟩ = some (.int .i64 a2))
  c3 : (w.cell? ⟨g, 3, none⟩ = some (.int .i64 a3))
  c4 : (w.cell? ⟨g, 4, none⟩ = some (.int .i64 a4))
  c5 : (w.cell? ⟨g, 5, none⟩ = some (.int .i64 a5))
  f0 : (w.frozen? ⟨g, 0, none⟩ = false)
  f1 : (w.frozen? ⟨g, 1, none⟩ = false)
  f2 : (w.frozen? ⟨g, 2, none⟩ = false)
  f3 : (w.frozen? ⟨g, 3, none⟩ = false)
  f4 : (w.frozen? ⟨g, 4, none⟩ = false)
  f5 : (w.frozen? ⟨g, 5, none⟩ = false)
  lt : g < w.heap.size

theorem PlanAt.new (w : World) (a0 a1 a2 a3 a4 a5 : Int) : PlanAt (w.alloc (.cells #[.int .i64 a0, .int .i64 a1, .int .i64 a2, .int .i64 a3, .int .i64 a4, .int .i64 a5] 25)) w.heap.size a0 a1 a2 a3 a4 a5 := by
  constructor <;> simp

theorem PlanAt.below {w w' : World} {g B : Nat} {a0 a1 a2 a3 a4 a5 : Int} (h : PlanAt w g a0 a1 a2 a3 a4 a5) (hb : Below B w w') (hB : g < B) : PlanAt w' g a0 a1 a2 a3 a4 a5 := by
  refine ⟨?_, ?_, ?_, ?_, ?_, ?_, ?_, ?_, ?_, ?_, ?_, ?_, Nat.lt_of_lt_of_le h.lt hb.size⟩
  · rw [hb.cell (p := ⟨g, 0, none⟩) hB]; exact h.c0
  · rw [hb.cell (p := ⟨g, 1, none⟩) hB]; exact h.c1
  · rw [hb.cell (p := ⟨g, 2, none⟩) hB]; exact h.c2
  · rw [hb.cell (p := ⟨g, 3, none⟩) hB]; exact h.c3
  · rw [hb.cell (p := ⟨g, 4, none⟩) hB]; exact h.c4
  · rw [hb.cell (p := ⟨g, 5, none⟩) hB]; exact h.c5
  · rw [hb.frozen (p := ⟨g, 0, none⟩) hB]; exact h.f0
  · rw [hb.frozen (p := ⟨g, 1, none⟩) hB]; exact h.f1
  · rw [hb.frozen (p := ⟨g, 2, none⟩) hB]; exact h.f2
  · rw [hb.frozen (p := ⟨g, 3, none⟩) hB]; exact h.f3
  · rw [hb.frozen (p := ⟨g, 4, none⟩) hB]; exact h.f4
  · rw [hb.frozen (p := ⟨g, 5, none⟩) hB]; exact h.f5

theorem PlanAt.mono {w w' : World} {g : Nat} {a0 a1 a2 a3 a4 a5 : Int} (h : PlanAt w g a0 a1 a2 a3 a4 a5) (hb : Below w.heap.size w w') : PlanAt w' g a0 a1 a2 a3 a4 a5 := h.below hb h.lt

theorem PlanAt.alloc {w : World} {g : Nat} {a0 a1 a2 a3 a4 a5 : Int} (h : PlanAt w g a0 a1 a2 a3 a4 a5) (o : Obj) : PlanAt (w.alloc o) g a0 a1 a2 a3 a4 a5 := h.mono ((Below.refl _ _).alloc (Nat.le_refl _) o)

set_option maxRecDepth 100000 in
set_option maxHeartbeats 400000 in
theorem of_no (b l d x : Int) (w : World) (hb : -9223372036854775808 ≤ b) (hb2 : b ≤ 9223372036854775807) (h : ¬ okG b l d x) :
    Calls Try.prog 8 #[.agg #[.int .i64 b, .int .i64 l, .int .i64 d, .int .i64 x]] w fun e w' => e = .returned (.tuple #[.agg #[.int .i64 0, .int .i64 0, .int .i64 0, .int .i64 0, .int .i64 0, .int .i64 0], .int .i64 40]) ∧ Below w.heap.size w w' := by
  have hc := fun w => check_any b l d x w hb hb2
  rw [show errG b l d x = 40 from if_neg h] at hc
  have Hg := ((GeoAt.new w b l d x).alloc (.cells #[.int .i64 0, .int .i64 0, .int .i64 0, .int .i64 0, .int .i64 0, .int .i64 0] 25))
  have Hp := PlanAt.new (w.alloc (.cells #[.int .i64 b, .int .i64 l, .int .i64 d, .int .i64 x] 23)) 0 0 0 0 0 0
  rw [World.size_alloc] at Hp
  clear h
  go_enter Try.func8, Try.ntmps8
  go_wp2_with (go_at_call 11; refine (hc _).mono ?_; rintro e w1 ⟨rfl, hb1⟩; have hB1 : Below w.heap.size w w1 := (((Below.refl _ w).alloc (Nat.le_refl _) _).alloc (by simp) _).trans (hb1.mono (by simp; omega)); obtain ⟨c0, c1, c2, c3, c4, c5, f0, f1, f2, f3, f4, f5, lp⟩ := Hp.mono hb1; clear Hp Hg; skip)
  refine bodyPost_ret (v := .tuple #[.agg #[.int .i64 0, .int .i64 0, .int .i64 0, .int .i64 0, .int .i64 0, .int .i64 0], .int .i64 40]) (by simp [results, Try.results8, go_sem, c0, c1, c2, c3, c4, c5]) rfl ⟨rfl, ?_⟩
  exact (((((hB1.setCell (by simp) _).setCell (by simp) _).setCell (by simp) _).setCell (by simp) _).setCell (by simp) _).setCell (by simp) _

set_option maxRecDepth 100000 in
set_option maxHeartbeats 400000 in
theorem of_yes (b l d x : Int) (w : World) (h : okG b l d x) :
    Calls Try.prog 8 #[.agg #[.int .i64 b, .int .i64 l, .int .i64 d, .int .i64 x]] w fun e w' => e = .returned (.tuple #[.agg #[.int .i64 3, .int .i64 (3 + l), .int .i64 (3 + l + (x + 31) / 32), .int .i64 (3 + l + (x + 31) / 32 + (x + 63) / 64), .int .i64 (3 + l + (x + 31) / 32 + (x + 63) / 64 + d), .int .i64 (3 + l + (x + 31) / 32 + (x + 63) / 64 + d + 4 * x)], .int .i64 0]) ∧ Below w.heap.size w w' := by
  have hc : ∀ w, Calls Try.prog 11 #[.agg #[.int .i64 b, .int .i64 l, .int .i64 d, .int .i64 x]] w fun e w' => e = .returned (.int .i64 0) ∧ Below w.heap.size w w' := by
    intro w
    have := check_any b l d x w (by unfold okG planB at h; omega) (by unfold okG planB at h; omega)
    rw [show errG b l d x = 0 from if_pos h] at this
    exact this
  have hp : ∀ w, Calls Try.prog 28 #[.agg #[.int .i64 b, .int .i64 l, .int .i64 d, .int .i64 x]] w fun e w' => e = .returned (.agg #[.int .i64 3, .int .i64 (3 + l), .int .i64 (3 + l + (x + 31) / 32), .int .i64 (3 + l + (x + 31) / 32 + (x + 63) / 64), .int .i64 (3 + l + (x + 31) / 32 + (x + 63) / 64 + d), .int .i64 (3 + l + (x + 31) / 32 + (x + 63) / 64 + d + 4 * x)]) ∧ Below w.heap.size w w' := by
    intro w
    unfold okG planB at h
    exact layOut_any b l d x w (by omega) (by omega) (by omega) (by omega) (by omega) (by omega)
  have Hg := ((GeoAt.new w b l d x).alloc (.cells #[.int .i64 0, .int .i64 0, .int .i64 0, .int .i64 0, .int .i64 0, .int .i64 0] 25))
  have Hp := PlanAt.new (w.alloc (.cells #[.int .i64 b, .int .i64 l, .int .i64 d, .int .i64 x] 23)) 0 0 0 0 0 0
  rw [World.size_alloc] at Hp
  clear h
  go_enter Try.func8, Try.ntmps8
  go_wp2_with (go_at_call 11; refine (hc _).mono ?_; rintro e w1 ⟨rfl, hb1⟩; have hB1 : Below w.heap.size w w1 := (((Below.refl _ w).alloc (Nat.le_refl _) _).alloc (by simp) _).trans (hb1.mono (by simp; omega)); have Hp1 := Hp.mono hb1; obtain ⟨g0, g1, g2, g3, e0, e1, e2, e3, lg⟩ := Hg.mono hb1; clear Hp Hg; skip)
  go_wp2_with (go_at_call 28; refine (hp _).mono ?_; rintro e w2 ⟨rfl, hb2⟩; have hB2 : Below w.heap.size w w2 := hB1.trans (hb2.mono (by omega)); obtain ⟨c0, c1, c2, c3, c4, c5, f0, f1, f2, f3, f4, f5, lp⟩ := Hp1.mono hb2; clear Hp1; skip)
  refine bodyPost_ret (v := .tuple #[.agg #[.int .i64 3, .int .i64 (3 + l), .int .i64 (3 + l + (x + 31) / 32), .int .i64 (3 + l + (x + 31) / 32 + (x + 63) / 64), .int .i64 (3 + l + (x + 31) / 32 + (x + 63) / 64 + d), .int .i64 (3 + l + (x + 31) / 32 + (x + 63) / 64 + d + 4 * x)], .int .i64 0]) (by simp [results, Try.results8, go_sem, c0, c1, c2, c3, c4, c5]) rfl ⟨rfl, ?_⟩
  exact (((((hB2.setCell (by simp) _).setCell (by simp) _).setCell (by simp) _).setCell (by simp) _).setCell (by simp) _).setCell (by simp) _

set_option maxRecDepth 100000 in
set_option maxHeartbeats 400000 in
theorem refOf_no (b l d x : Int) (w : World) (hb : -9223372036854775808 ≤ b) (hb2 : b ≤ 9223372036854775807) (h : ¬ okG b l d x) :
    Calls Try.prog 9 #[.agg #[.int .i64 b, .int .i64 l, .int .i64 d, .int .i64 x]] w fun e w' => e = .returned (.tuple #[.agg #[.int .i64 0, .int .i64 0, .int .i64 0, .int .i64 0, .int .i64 0, .int .i64 0], .int .i64 40]) ∧ Below w.heap.size w w' := by
  have hc := fun w => refCheck_any b l d x w hb hb2
  rw [show errG b l d x = 40 from if_neg h] at hc
  have Hg := ((GeoAt.new w b l d x).alloc (.cells #[.int .i64 0, .int .i64 0, .int .i64 0, .int .i64 0, .int .i64 0, .int .i64 0] 25))
  have Hp := PlanAt.new (w.alloc (.cells #[.int .i64 b, .int .i64 l, .int .i64 d, .int .i64 x] 23)) 0 0 0 0 0 0
  rw [World.size_alloc] at Hp
  clear h
  go_enter Try.func9, Try.ntmps9
  go_wp2_with (go_at_call 12; refine (hc _).mono ?_; rintro e w1 ⟨rfl, hb1⟩; have hB1 : Below w.heap.size w w1 := (((Below.refl _ w).alloc (Nat.le_refl _) _).alloc (by simp) _).trans (hb1.mono (by simp; omega)); obtain ⟨c0, c1, c2, c3, c4, c5, f0, f1, f2, f3, f4, f5, lp⟩ := Hp.mono hb1; clear Hp Hg; skip)
  refine bodyPost_ret (v := .tuple #[.agg #[.int .i64 0, .int .i64 0, .int .i64 0, .int .i64 0, .int .i64 0, .int .i64 0], .int .i64 40]) (by simp [results, Try.results9, go_sem, c0, c1, c2, c3, c4, c5]) rfl ⟨rfl, ?_⟩
  exact (((((hB1.setCell (by simp) _).setCell (by simp) _).setCell (by simp) _).setCell (by simp) _).setCell (by simp) _).setCell (by simp) _

set_option maxRecDepth 100000 in
set_option maxHeartbeats 400000 in
theorem refOf_yes (b l d x : Int) (w : World) (h : okG b l d x) :
    Calls Try.prog 9 #[.agg #[.int .i64 b, .int .i64 l, .int .i64 d, .int .i64 x]] w fun e w' => e = .returned (.tuple #[.agg #[.int .i64 3, .int .i64 (3 + l), .int .i64 (3 + l + (x + 31) / 32), .int .i64 (3 + l + (x + 31) / 32 + (x + 63) / 64), .int .i64 (3 + l + (x + 31) / 32 + (x + 63) / 64 + d), .int .i64 (3 + l + (x + 31) / 32 + (x + 63) / 64 + d + 4 * x)], .int .i64 0]) ∧ Below w.heap.size w w' := by
  have hc : ∀ w, Calls Try.prog 12 #[.agg #[.int .i64 b, .int .i64 l, .int .i64 d, .int .i64 x]] w fun e w' => e = .returned (.int .i64 0) ∧ Below w.heap.size w w' := by
    intro w
    have := refCheck_any b l d x w (by unfold okG planB at h; omega) (by unfold okG planB at h; omega)
    rw [show errG b l d x = 0 from if_pos h] at this
    exact this
  have hp : ∀ w, Calls Try.prog 29 #[.agg #[.int .i64 b, .int .i64 l, .int .i64 d, .int .i64 x]] w fun e w' => e = .returned (.agg #[.int .i64 3, .int .i64 (3 + l), .int .i64 (3 + l + (x + 31) / 32), .int .i64 (3 + l + (x + 31) / 32 + (x + 63) / 64), .int .i64 (3 + l + (x + 31) / 32 + (x + 63) / 64 + d), .int .i64 (3 + l + (x + 31) / 32 + (x + 63) / 64 + d + 4 * x)]) ∧ Below w.heap.size w w' := by
    intro w
    unfold okG planB at h
    exact refPlan_any b l d x w (by omega) (by omega) (by omega) (by omega) (by omega) (by omega)
  have Hg := ((GeoAt.new w b l d x).alloc (.cells #[.int .i64 0, .int .i64 0, .int .i64 0, .int .i64 0, .int .i64 0, .int .i64 0] 25))
  have Hp := PlanAt.new (w.alloc (.cells #[.int .i64 b, .int .i64 l, .int .i64 d, .int .i64 x] 23)) 0 0 0 0 0 0
  rw [World.size_alloc] at Hp
  clear h
  go_enter Try.func9, Try.ntmps9
  go_wp2_with (go_at_call 12; refine (hc _).mono ?_; rintro e w1 ⟨rfl, hb1⟩; have hB1 : Below w.heap.size w w1 := (((Below.refl _ w).alloc (Nat.le_refl _) _).alloc (by simp) _).trans (hb1.mono (by simp; omega)); have Hp1 := Hp.mono hb1; obtain ⟨g0, g1, g2, g3, e0, e1, e2, e3, lg⟩ := Hg.mono hb1; clear Hp Hg; skip)
  go_wp2_with (go_at_call 29; refine (hp _).mono ?_; rintro e w2 ⟨rfl, hb2⟩; have hB2 : Below w.heap.size w w2 := hB1.trans (hb2.mono (by omega)); obtain ⟨c0, c1, c2, c3, c4, c5, f0, f1, f2, f3, f4, f5, lp⟩ := Hp1.mono hb2; clear Hp1; skip)
  refine bodyPost_ret (v := .tuple #[.agg #[.int .i64 3, .int .i64 (3 + l), .int .i64 (3 + l + (x + 31) / 32), .int .i64 (3 + l + (x + 31) / 32 + (x + 63) / 64), .int .i64 (3 + l + (x + 31) / 32 + (x + 63) / 64 + d), .int .i64 (3 + l + (x + 31) / 32 + (x + 63) / 64 + d + 4 * x)], .int .i64 0]) (by simp [results, Try.results9, go_sem, c0, c1, c2, c3, c4, c5]) rfl ⟨rfl, ?_⟩
  exact (((((hB2.setCell (by simp) _).setCell (by simp) _).setCell (by simp) _).setCell (by simp) _).setCell (by simp) _).setCell (by simp) _

end Go.Proofs.Ytecbcjdihnbdhaa
