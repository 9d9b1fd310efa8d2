/- Contracts: First, Next of a super, and the document's. -/
import Derived.Test.YtfjkmgfjlckmlaaS1
set_option linter.unusedSimpArgs false
set_option linter.unusedVariables false
namespace Go.Proofs.Ytfjkmgfjlckmlaa
open Go.RowKit Go.Attic


structure GeoAt (w : World) (g : Nat) (b l d x : Int) : Prop where
  c0 : (w.cell? ⟨g, 0, none⟩ = some (.int .i64 b))
  c1 : (w.cell? ⟨g, 1, none⟩ = some (.int .i64 l))
  c2 : (w.cell? ⟨g, 2, none⟩ = some (.int .i64 d))
  c3 : (w.cell? ⟨g, 3, none⟩ = some (.int .i64 x))
  f0 : (w.frozen? ⟨g, 0, none⟩ = false)
  f1 : (w.frozen? ⟨g, 1, none⟩ = false)
  f2 : (w.frozen? ⟨g, 2, none⟩ = false)
  f3 : (w.frozen? ⟨g, 3, none⟩ = false)
  lt : g < w.heap.size

theorem GeoAt.new (w : World) (b l d x : Int) : GeoAt (w.alloc (.cells #[.int .i64 b, .int .i64 l, .int .i64 d, .int .i64 x] 23)) w.heap.size b l d x := by
  constructor <;> simp

theorem GeoAt.below {w w' : World} {g B : Nat} {b l d x : Int} (h : GeoAt w g b l d x) (hb : Below B w w') (hB : g < B) : GeoAt w' g b l d x := by
  refine ⟨?_, ?_, ?_, ?_, ?_, ?_, ?_, ?_, Nat.lt_of_lt_of_le h.lt hb.size⟩
  · rw [hb.cell (p := ⟨g, 0, none⟩) hB]; exact h.c0
  · rw [hb.cell (p := ⟨g, 1, none⟩) hB]; exact h.c1
  · rw [hb.cell (p := ⟨g, 2, none⟩) hB]; exact h.c2
  · rw [hb.cell (p := ⟨g, 3, none⟩) hB]; exact h.c3
  · rw [hb.frozen (p := ⟨g, 0, none⟩) hB]; exact h.f0
  · rw [hb.frozen (p := ⟨g, 1, none⟩) hB]; exact h.f1
  · rw [hb.frozen (p := ⟨g, 2, none⟩) hB]; exact h.f2
  · rw [hb.frozen (p := ⟨g, 3, none⟩) hB]; exact h.f3

theorem GeoAt.mono {w w' : World} {g : Nat} {b l d x : Int} (h : GeoAt w g b l d x) (hb : Below w.heap.size w w') : GeoAt w' g b l d x := h.below hb h.lt

theorem GeoAt.alloc {w : World} {g : Nat} {b l d x : Int} (h : GeoAt w g b l d x) (o : Obj) : GeoAt (w.alloc o) g b l d x := h.mono ((Below.refl _ _).alloc (Nat.le_refl _) o)


def nextE (ep b l d x h head : Int) : Int := if chkS ep b l d x h = 0 then (if head < h ∨ 1152921504606846976 < head then 1 else if ep = 1152921504606846976 then 6 else 0) else chkS ep b l d x h

set_option maxRecDepth 100000 in
set_option maxHeartbeats 400000 in
theorem first_no (b l d x : Int) (w : World) (kb : -9223372036854775808 ≤ b ∧ b ≤ 9223372036854775807) (k : ¬ okG b l d x) :
    Calls Try.prog 8 #[.agg #[.int .i64 b, .int .i64 l, .int .i64 d, .int .i64 x]] w fun e w' => e = .returned (.tuple #[.agg #[.int .i64 0, .int .i64 0, .int .i64 0, .int .i64 0, .int .i64 0, .int .i64 0], .int .i64 40]) ∧ Below w.heap.size w w' := by
  have hc := fun w => check_any b l d x w kb.1 kb.2
  rw [errG_no k] at hc
  have Hg := ((GeoAt.new w b l d x).alloc (.cells #[.int .i64 0, .int .i64 0, .int .i64 0, .int .i64 0, .int .i64 0, .int .i64 0] 25))
  have Hp := SupAt.new (w.alloc (.cells #[.int .i64 b, .int .i64 l, .int .i64 d, .int .i64 x] 23)) 0 0 0 0 0 0
  rw [World.size_alloc] at Hp
  clear k kb
  go_enter Try.func8, Try.ntmps8
  go_wp2_with (go_at_call 25; refine (hc _).mono ?_; rintro e w1 ⟨rfl, hb1⟩; have hB1 : Below w.heap.size w w1 := (((Below.refl _ w).alloc (Nat.le_refl _) _).alloc (by simp) _).trans (hb1.mono (by simp; omega)); obtain ⟨c0, c1, c2, c3, c4, c5, f0, f1, f2, f3, f4, f5, lp⟩ := Hp.mono hb1; obtain ⟨g0, g1, g2, g3, e0, e1, e2, e3, lg⟩ := Hg.mono hb1; clear Hp Hg hb1; skip)
  refine bodyPost_ret (v := .tuple #[.agg #[.int .i64 0, .int .i64 0, .int .i64 0, .int .i64 0, .int .i64 0, .int .i64 0], .int .i64 40]) (by simp [results, Try.results8, go_sem, c0, c1, c2, c3, c4, c5]) rfl ⟨rfl, ?_⟩
  exact (((((hB1.setCell (by simp) _).setCell (by simp) _).setCell (by simp) _).setCell (by simp) _).setCell (by simp) _).setCell (by simp) _

set_option maxRecDepth 100000 in
set_option maxHeartbeats 400000 in
theorem first_yes (b l d x : Int) (w : World) (kb : -9223372036854775808 ≤ b ∧ b ≤ 9223372036854775807) (k : okG b l d x) :
    Calls Try.prog 8 #[.agg #[.int .i64 b, .int .i64 l, .int .i64 d, .int .i64 x]] w fun e w' => e = .returned (.tuple #[.agg #[.int .i64 2, .int .i64 b, .int .i64 l, .int .i64 d, .int .i64 x, .int .i64 (4 * l)], .int .i64 0]) ∧ Below w.heap.size w w' := by
  have hc := fun w => check_any b l d x w kb.1 kb.2
  rw [errG_ok k] at hc
  have Hg := ((GeoAt.new w b l d x).alloc (.cells #[.int .i64 0, .int .i64 0, .int .i64 0, .int .i64 0, .int .i64 0, .int .i64 0] 25))
  have Hp := SupAt.new (w.alloc (.cells #[.int .i64 b, .int .i64 l, .int .i64 d, .int .i64 x] 23)) 0 0 0 0 0 0
  rw [World.size_alloc] at Hp
  obtain ⟨k1, k2, _⟩ := k
  go_enter Try.func8, Try.ntmps8
  go_wp2_with (go_at_call 25; refine (hc _).mono ?_; rintro e w1 ⟨rfl, hb1⟩; have hB1 : Below w.heap.size w w1 := (((Below.refl _ w).alloc (Nat.le_refl _) _).alloc (by simp) _).trans (hb1.mono (by simp; omega)); obtain ⟨c0, c1, c2, c3, c4, c5, f0, f1, f2, f3, f4, f5, lp⟩ := Hp.mono hb1; obtain ⟨g0, g1, g2, g3, e0, e1, e2, e3, lg⟩ := Hg.mono hb1; clear Hp Hg hb1; skip)
  refine bodyPost_ret (v := .tuple #[.agg #[.int .i64 2, .int .i64 b, .int .i64 l, .int .i64 d, .int .i64 x, .int .i64 (4 * l)], .int .i64 0]) (by simp [results, Try.results8, go_sem, c0, c1, c2, c3, c4, c5]) rfl ⟨rfl, ?_⟩
  exact (((((hB1.setCell (by simp) _).setCell (by simp) _).setCell (by simp) _).setCell (by simp) _).setCell (by simp) _).setCell (by simp) _

set_option maxRecDepth 100000 in
set_option maxHeartbeats 400000 in
theorem rfirst_no (b l d x : Int) (w : World) (kb : -9223372036854775808 ≤ b ∧ b ≤ 9223372036854775807) (k : ¬ okG b l d x) :
    Calls Try.prog 9 #[.agg #[.int .i64 b, .int .i64 l, .int .i64 d, .int .i64 x]] w fun e w' => e = .returned (.tuple #[.agg #[.int .i64 0, .int .i64 0, .int .i64 0, .int .i64 0, .int .i64 0, .int .i64 0], .int .i64 40]) ∧ Below w.heap.size w w' := by
  have hc := fun w => refCheck_any b l d x w kb.1 kb.2
  rw [errG_no k] at hc
  have Hg := ((GeoAt.new w b l d x).alloc (.cells #[.int .i64 0, .int .i64 0, .int .i64 0, .int .i64 0, .int .i64 0, .int .i64 0] 25))
  have Hp := SupAt.new (w.alloc (.cells #[.int .i64 b, .int .i64 l, .int .i64 d, .int .i64 x] 23)) 0 0 0 0 0 0
  rw [World.size_alloc] at Hp
  clear k kb
  go_enter Try.func9, Try.ntmps9
  go_wp2_with (go_at_call 26; refine (hc _).mono ?_; rintro e w1 ⟨rfl, hb1⟩; have hB1 : Below w.heap.size w w1 := (((Below.refl _ w).alloc (Nat.le_refl _) _).alloc (by simp) _).trans (hb1.mono (by simp; omega)); obtain ⟨c0, c1, c2, c3, c4, c5, f0, f1, f2, f3, f4, f5, lp⟩ := Hp.mono hb1; obtain ⟨g0, g1, g2, g3, e0, e1, e2, e3, lg⟩ := Hg.mono hb1; clear Hp Hg hb1; skip)
  refine bodyPost_ret (v := .tuple #[.agg #[.int .i64 0, .int .i64 0, .int .i64 0, .int .i64 0, .int .i64 0, .int .i64 0], .int .i64 40]) (by simp [results, Try.results9, go_sem, c0, c1, c2, c3, c4, c5]) rfl ⟨rfl, ?_⟩
  exact (((((hB1.setCell (by simp) _).setCell (by simp) _).setCell (by simp) _).setCell (by simp) _).setCell (by simp) _).setCell (by simp) _

set_option maxRecDepth 100000 in
set_option maxHeartbeats 400000 in
theorem rfirst_yes (b l d x : Int) (w : World) (kb : -9223372036854775808 ≤ b ∧ b ≤ 9223372036854775807) (k : okG b l d x) :
    Calls Try.prog 9 #[.agg #[.int .i64 b, .int .i64 l, .int .i64 d, .int .i64 x]] w fun e w' => e = .returned (.tuple #[.agg #[.int .i64 2, .int .i64 b, .int .i64 l, .int .i64 d, .int .i64 x, .int .i64 (4 * l)], .int .i64 0]) ∧ Below w.heap.size w w' := by
  have hc := fun w => refCheck_any b l d x w kb.1 kb.2
  rw [errG_ok k] at hc
  have Hg := ((GeoAt.new w b l d x).alloc (.cells #[.int .i64 0, .int .i64 0, .int .i64 0, .int .i64 0, .int .i64 0, .int .i64 0] 25))
  have Hp := SupAt.new (w.alloc (.cells #[.int .i64 b, .int .i64 l, .int .i64 d, .int .i64 x] 23)) 0 0 0 0 0 0
  rw [World.size_alloc] at Hp
  obtain ⟨k1, k2, _⟩ := k
  go_enter Try.func9, Try.ntmps9
  go_wp2_with (go_at_call 26; refine (hc _).mono ?_; rintro e w1 ⟨rfl, hb1⟩; have hB1 : Below w.heap.size w w1 := (((Below.refl _ w).alloc (Nat.le_refl _) _).alloc (by simp) _).trans (hb1.mono (by simp; omega)); obtain ⟨c0, c1, c2, c3, c4, c5, f0, f1, f2, f3, f4, f5, lp⟩ := Hp.mono hb1; obtain ⟨g0, g1, g2, g3, e0, e1, e2, e3, lg⟩ := Hg.mono hb1; clear Hp Hg hb1; skip)
  refine bodyPost_ret (v := .tuple #[.agg #[.int .i64 2, .int .i64 b, .int .i64 l, .int .i64 d, .int .i64 x, .int .i64 (4 * l)], .int .i64 0]) (by simp [results, Try.results9, go_sem, c0, c1, c2, c3, c4, c5]) rfl ⟨rfl, ?_⟩
  exact (((((hB1.setCell (by simp) _).setCell (by simp) _).setCell (by simp) _).setCell (by simp) _).setCell (by simp) _).setCell (by simp) _

set_option maxRecDepth 100000 in
set_option maxHeartbeats 400000 in
theorem next_no (ep b l d x h head : Int) (w : World) (kb : -9223372036854775808 ≤ b ∧ b ≤ 9223372036854775807) (k : nextE ep b l d x h head ≠ 0) :
    Calls Try.prog 10 #[.agg #[.int .i64 ep, .int .i64 b, .int .i64 l, .int .i64 d, .int .i64 x, .int .i64 h], .int .i64 head] w fun e w' => e = .returned (.tuple #[.agg #[.int .i64 0, .int .i64 0, .int .i64 0, .int .i64 0, .int .i64 0, .int .i64 0], .int .i64 (nextE ep b l d x h head)]) ∧ Below w.heap.size w w' := by
  have hc := fun w => check_sup ep b l d x h w kb
  have Hs := ((SupAt.new w ep b l d x h).alloc (.cells #[.int .i64 0, .int .i64 0, .int .i64 0, .int .i64 0, .int .i64 0, .int .i64 0] 25))
  have Hp := SupAt.new (w.alloc (.cells #[.int .i64 ep, .int .i64 b, .int .i64 l, .int .i64 d, .int .i64 x, .int .i64 h] 25)) 0 0 0 0 0 0
  rw [World.size_alloc] at Hp
  by_cases k1 : chkS ep b l d x h = 0
  · rw [k1] at hc
    by_cases k2 : head < h
    · rw [show nextE ep b l d x h head = 1 from (if_pos k1).trans (if_pos (.inl k2))]
      clear k k1 kb
      go_enter Try.func10, Try.ntmps10
      go_wp2_with (go_at_call 13; refine (hc _).mono ?_; rintro e w1 ⟨rfl, hb1⟩; have hB1 : Below w.heap.size w w1 := (((Below.refl _ w).alloc (Nat.le_refl _) _).alloc (by simp) _).trans (hb1.mono (by simp; omega)); obtain ⟨c0, c1, c2, c3, c4, c5, f0, f1, f2, f3, f4, f5, lp⟩ := Hp.mono hb1; obtain ⟨g0, g1, g2, g3, g4, g5, e0, e1, e2, e3, e4, e5, lg⟩ := Hs.mono hb1; clear Hp Hs hb1; skip)
      refine bodyPost_ret (v := .tuple #[.agg #[.int .i64 0, .int .i64 0, .int .i64 0, .int .i64 0, .int .i64 0, .int .i64 0], .int .i64 1]) (by simp [results, Try.results10, go_sem, c0, c1, c2, c3, c4, c5]) rfl ⟨rfl, ?_⟩
      exact (((((hB1.setCell (by simp) _).setCell (by simp) _).setCell (by simp) _).setCell (by simp) _).setCell (by simp) _).setCell (by simp) _
    by_cases k3 : 1152921504606846976 < head
    · rw [show nextE ep b l d x h head = 1 from (if_pos k1).trans (if_pos (.inr k3))]
      clear k k1 kb
      go_enter Try.func10, Try.ntmps10
      go_wp2_with (go_at_call 13; refine (hc _).mono ?_; rintro e w1 ⟨rfl, hb1⟩; have hB1 : Below w.heap.size w w1 := (((Below.refl _ w).alloc (Nat.le_refl _) _).alloc (by simp) _).trans (hb1.mono (by simp; omega)); obtain ⟨c0, c1, c2, c3, c4, c5, f0, f1, f2, f3, f4, f5, lp⟩ := Hp.mono hb1; obtain ⟨g0, g1, g2, g3, g4, g5, e0, e1, e2, e3, e4, e5, lg⟩ := Hs.mono hb1; clear Hp Hs hb1; skip)
      refine bodyPost_ret (v := .tuple #[.agg #[.int .i64 0, .int .i64 0, .int .i64 0, .int .i64 0, .int .i64 0, .int .i64 0], .int .i64 1]) (by simp [results, Try.results10, go_sem, c0, c1, c2, c3, c4, c5]) rfl ⟨rfl, ?_⟩
      exact (((((hB1.setCell (by simp) _).setCell (by simp) _).setCell (by simp) _).setCell (by simp) _).setCell (by simp) _).setCell (by simp) _
    by_cases k4 : ep = 1152921504606846976
    · rw [show nextE ep b l d x h head = 6 from (if_pos k1).trans ((if_neg (by omega)).trans (if_pos k4))]
      clear k k1 kb
      subst k4
      go_enter Try.func10, Try.ntmps10
      go_wp2_with (go_at_call 13; refine (hc _).mono ?_; rintro e w1 ⟨rfl, hb1⟩; have hB1 : Below w.heap.size w w1 := (((Below.refl _ w).alloc (Nat.le_refl _) _).alloc (by simp) _).trans (hb1.mono (by simp; omega)); obtain ⟨c0, c1, c2, c3, c4, c5, f0, f1, f2, f3, f4, f5, lp⟩ := Hp.mono hb1; obtain ⟨g0, g1, g2, g3, g4, g5, e0, e1, e2, e3, e4, e5, lg⟩ := Hs.mono hb1; clear Hp Hs hb1; skip)
      refine bodyPost_ret (v := .tuple #[.agg #[.int .i64 0, .int .i64 0, .int .i64 0, .int .i64 0, .int .i64 0, .int .i64 0], .int .i64 6]) (by simp [results, Try.results10, go_sem, c0, c1, c2, c3, c4, c5]) rfl ⟨rfl, ?_⟩
      exact (((((hB1.setCell (by simp) _).setCell (by simp) _).setCell (by simp) _).setCell (by simp) _).setCell (by simp) _).setCell (by simp) _
    exact absurd ((if_pos k1).trans ((if_neg (by omega)).trans (if_neg k4))) k
  · rw [show nextE ep b l d x h head = chkS ep b l d x h from if_neg k1]
    generalize chkS ep b l d x h = q at *
    have hq : (q != 0) = true := by simp [k1]
    clear k k1 kb
    go_enter Try.func10, Try.ntmps10
    go_wp2_with (go_at_call 13; refine (hc _).mono ?_; rintro e w1 ⟨rfl, hb1⟩; have hB1 : Below w.heap.size w w1 := (((Below.refl _ w).alloc (Nat.le_refl _) _).alloc (by simp) _).trans (hb1.mono (by simp; omega)); obtain ⟨c0, c1, c2, c3, c4, c5, f0, f1, f2, f3, f4, f5, lp⟩ := Hp.mono hb1; obtain ⟨g0, g1, g2, g3, g4, g5, e0, e1, e2, e3, e4, e5, lg⟩ := Hs.mono hb1; clear Hp Hs hb1; skip)
    refine bodyPost_ret (v := .tuple #[.agg #[.int .i64 0, .int .i64 0, .int .i64 0, .int .i64 0, .int .i64 0, .int .i64 0], .int .i64 q]) (by simp [results, Try.results10, go_sem, c0, c1, c2, c3, c4, c5]) rfl ⟨rfl, ?_⟩
    exact (((((hB1.setCell (by simp) _).setCell (by simp) _).setCell (by simp) _).setCell (by simp) _).setCell (by simp) _).setCell (by simp) _

set_option maxRecDepth 100000 in
set_option maxHeartbeats 400000 in
theorem next_yes (ep b l d x h head : Int) (w : World) (kb : -9223372036854775808 ≤ b ∧ b ≤ 9223372036854775807) (k : okS ep b l d x h) (k2 : h ≤ head) (k3 : head ≤ 1152921504606846976) (k4 : ep < 1152921504606846976) :
    Calls Try.prog 10 #[.agg #[.int .i64 ep, .int .i64 b, .int .i64 l, .int .i64 d, .int .i64 x, .int .i64 h], .int .i64 head] w fun e w' => e = .returned (.tuple #[.agg #[.int .i64 (ep + 1), .int .i64 b, .int .i64 l, .int .i64 d, .int .i64 x, .int .i64 head], .int .i64 0]) ∧ Below w.heap.size w w' := by
  have hc := fun w => check_sup ep b l d x h w kb
  rw [chkS_ok k] at hc
  have Hs := ((SupAt.new w ep b l d x h).alloc (.cells #[.int .i64 0, .int .i64 0, .int .i64 0, .int .i64 0, .int .i64 0, .int .i64 0] 25))
  have Hp := SupAt.new (w.alloc (.cells #[.int .i64 ep, .int .i64 b, .int .i64 l, .int .i64 d, .int .i64 x, .int .i64 h] 25)) 0 0 0 0 0 0
  rw [World.size_alloc] at Hp
  obtain ⟨_, k5, _⟩ := k
  clear kb
  have k6 : (ep == 1152921504606846976) = false := by simp; omega
  go_enter Try.func10, Try.ntmps10
  go_wp2_with (go_at_call 13; refine (hc _).mono ?_; rintro e w1 ⟨rfl, hb1⟩; have hB1 : Below w.heap.size w w1 := (((Below.refl _ w).alloc (Nat.le_refl _) _).alloc (by simp) _).trans (hb1.mono (by simp; omega)); obtain ⟨c0, c1, c2, c3, c4, c5, f0, f1, f2, f3, f4, f5, lp⟩ := Hp.mono hb1; obtain ⟨g0, g1, g2, g3, g4, g5, e0, e1, e2, e3, e4, e5, lg⟩ := Hs.mono hb1; clear Hp Hs hb1; skip)
  refine bodyPost_ret (v := .tuple #[.agg #[.int .i64 (ep + 1), .int .i64 b, .int .i64 l, .int .i64 d, .int .i64 x, .int .i64 head], .int .i64 0]) (by simp [results, Try.results10, go_sem, c0, c1, c2, c3, c4, c5]) rfl ⟨rfl, ?_⟩
  exact ((((((((hB1.setCell (by simp) _).setCell (by simp) _).setCell (by simp) _).setCell (by simp) _).setCell (by simp) _).setCell (by simp) _).setCell (by simp) _).setCell (by simp) _)

set_option maxRecDepth 100000 in
set_option maxHeartbeats 400000 in
theorem rnext_no (ep b l d x h head : Int) (w : World) (kb : -9223372036854775808 ≤ b ∧ b ≤ 9223372036854775807) (k : nextE ep b l d x h head ≠ 0) :
    Calls Try.prog 11 #[.agg #[.int .i64 ep, .int .i64 b, .int .i64 l, .int .i64 d, .int .i64 x, .int .i64 h], .int .i64 head] w fun e w' => e = .returned (.tuple #[.agg #[.int .i64 0, .int .i64 0, .int .i64 0, .int .i64 0, .int .i64 0, .int .i64 0], .int .i64 (nextE ep b l d x h head)]) ∧ Below w.heap.size w w' := by
  have hc := fun w => rcheck_sup ep b l d x h w kb
  have Hs := ((SupAt.new w ep b l d x h).alloc (.cells #[.int .i64 0, .int .i64 0, .int .i64 0, .int .i64 0, .int .i64 0, .int .i64 0] 25))
  have Hp := SupAt.new (w.alloc (.cells #[.int .i64 ep, .int .i64 b, .int .i64 l, .int .i64 d, .int .i64 x, .int .i64 h] 25)) 0 0 0 0 0 0
  rw [World.size_alloc] at Hp
  by_cases k1 : chkS ep b l d x h = 0
  · rw [k1] at hc
    by_cases k2 : head < h
    · rw [show nextE ep b l d x h head = 1 from (if_pos k1).trans (if_pos (.inl k2))]
      clear k k1 kb
      go_enter Try.func11, Try.ntmps11
      go_wp2_with (go_at_call 14; refine (hc _).mono ?_; rintro e w1 ⟨rfl, hb1⟩; have hB1 : Below w.heap.size w w1 := (((Below.refl _ w).alloc (Nat.le_refl _) _).alloc (by simp) _).trans (hb1.mono (by simp; omega)); obtain ⟨c0, c1, c2, c3, c4, c5, f0, f1, f2, f3, f4, f5, lp⟩ := Hp.mono hb1; obtain ⟨g0, g1, g2, g3, g4, g5, e0, e1, e2, e3, e4, e5, lg⟩ := Hs.mono hb1; clear Hp Hs hb1; skip)
      refine bodyPost_ret (v := .tuple #[.agg #[.int .i64 0, .int .i64 0, .int .i64 0, .int .i64 0, .int .i64 0, .int .i64 0], .int .i64 1]) (by simp [results, Try.results11, go_sem, c0, c1, c2, c3, c4, c5]) rfl ⟨rfl, ?_⟩
      exact (((((hB1.setCell (by simp) _).setCell (by simp) _).setCell (by simp) _).setCell (by simp) _).setCell (by simp) _).setCell (by simp) _
    by_cases k3 : 1152921504606846976 < head
    · rw [show nextE ep b l d x h head = 1 from (if_pos k1).trans (if_pos (.inr k3))]
      clear k k1 kb
      go_enter Try.func11, Try.ntmps11
      go_wp2_with (go_at_call 14; refine (hc _).mono ?_; rintro e w1 ⟨rfl, hb1⟩; have hB1 : Below w.heap.size w w1 := (((Below.refl _ w).alloc (Nat.le_refl _) _).alloc (by simp) _).trans (hb1.mono (by simp; omega)); obtain ⟨c0, c1, c2, c3, c4, c5, f0, f1, f2, f3, f4, f5, lp⟩ := Hp.mono hb1; obtain ⟨g0, g1, g2, g3, g4, g5, e0, e1, e2, e3, e4, e5, lg⟩ := Hs.mono hb1; clear Hp Hs hb1; skip)
      refine bodyPost_ret (v := .tuple #[.agg #[.int .i64 0, .int .i64 0, .int .i64 0, .int .i64 0, .int .i64 0, .int .i64 0], .int .i64 1]) (by simp [results, Try.results11, go_sem, c0, c1, c2, c3, c4, c5]) rfl ⟨rfl, ?_⟩
      exact (((((hB1.setCell (by simp) _).setCell (by simp) _).setCell (by simp) _).setCell (by simp) _).setCell (by simp) _).setCell (by simp) _
    by_cases k4 : ep = 1152921504606846976
    · rw [show nextE ep b l d x h head = 6 from (if_pos k1).trans ((if_neg (by omega)).trans (if_pos k4))]
      clear k k1 kb
      subst k4
      go_enter Try.func11, Try.ntmps11
      go_wp2_with (go_at_call 14; refine (hc _).mono ?_; rintro e w1 ⟨rfl, hb1⟩; have hB1 : Below w.heap.size w w1 := (((Below.refl _ w).alloc (Nat.le_refl _) _).alloc (by simp) _).trans (hb1.mono (by simp; omega)); obtain ⟨c0, c1, c2, c3, c4, c5, f0, f1, f2, f3, f4, f5, lp⟩ := Hp.mono hb1; obtain ⟨g0, g1, g2, g3, g4, g5, e0, e1, e2, e3, e4, e5, lg⟩ := Hs.mono hb1; clear Hp Hs hb1; skip)
      refine bodyPost_ret (v := .tuple #[.agg #[.int .i64 0, .int .i64 0, .int .i64 0, .int .i64 0, .int .i64 0, .int .i64 0], .int .i64 6]) (by simp [results, Try.results11, go_sem, c0, c1, c2, c3, c4, c5]) rfl ⟨rfl, ?_⟩
      exact (((((hB1.setCell (by simp) _).setCell (by simp) _).setCell (by simp) _).setCell (by simp) _).setCell (by simp) _).setCell (by simp) _
    exact absurd ((if_pos k1).trans ((if_neg (by omega)).trans (if_neg k4))) k
  · rw [show nextE ep b l d x h head = chkS ep b l d x h from if_neg k1]
    generalize chkS ep b l d x h = q at *
    have hq : (q != 0) = true := by simp [k1]
    clear k k1 kb
    go_enter Try.func11, Try.ntmps11
    go_wp2_with (go_at_call 14; refine (hc _).mono ?_; rintro e w1 ⟨rfl, hb1⟩; have hB1 : Below w.heap.size w w1 := (((Below.refl _ w).alloc (Nat.le_refl _) _).alloc (by simp) _).trans (hb1.mono (by simp; omega)); obtain ⟨c0, c1, c2, c3, c4, c5, f0, f1, f2, f3, f4, f5, lp⟩ := Hp.mono hb1; obtain ⟨g0, g1, g2, g3, g4, g5, e0, e1, e2, e3, e4, e5, lg⟩ := Hs.mono hb1; clear Hp Hs hb1; skip)
    refine bodyPost_ret (v := .tuple #[.agg #[.int .i64 0, .int .i64 0, .int .i64 0, .int .i64 0, .int .i64 0, .int .i64 0], .int .i64 q]) (by simp [results, Try.results11, go_sem, c0, c1, c2, c3, c4, c5]) rfl ⟨rfl, ?_⟩
    exact (((((hB1.setCell (by simp) _).setCell (by simp) _).setCell (by simp) _).setCell (by simp) _).setCell (by simp) _).setCell (by simp) _

set_option maxRecDepth 100000 in
set_option maxHeartbeats 400000 in
theorem rnext_yes (ep b l d x h head : Int) (w : World) (kb : -9223372036854775808 ≤ b ∧ b ≤ 9223372036854775807) (k : okS ep b l d x h) (k2 : h ≤ head) (k3 : head ≤ 1152921504606846976) (k4 : ep < 1152921504606846976) :
    Calls Try.prog 11 #[.agg #[.int .i64 ep, .int .i64 b, .int .i64 l, .int .i64 d, .int .i64 x, .int .i64 h], .int .i64 head] w fun e w' => e = .returned (.tuple #[.agg #[.int .i64 (ep + 1), .int .i64 b, .int .i64 l, .int .i64 d, .int .i64 x, .int .i64 head], .int .i64 0]) ∧ Below w.heap.size w w' := by
  have hc := fun w => rcheck_sup ep b l d x h w kb
  rw [chkS_ok k] at hc
  have Hs := ((SupAt.new w ep b l d x h).alloc (.cells #[.int .i64 0, .int .i64 0, .int .i64 0, .int .i64 0, .int .i64 0, .int .i64 0] 25))
  have Hp := SupAt.new (w.alloc (.cells #[.int .i64 ep, .int .i64 b, .int .i64 l, .int .i64 d, .int .i64 x, .int .i64 h] 25)) 0 0 0 0 0 0
  rw [World.size_alloc] at Hp
  obtain ⟨_, k5, _⟩ := k
  clear kb
  have k6 : (ep == 1152921504606846976) = false := by simp; omega
  go_enter Try.func11, Try.ntmps11
  go_wp2_with (go_at_call 14; refine (hc _).mono ?_; rintro e w1 ⟨rfl, hb1⟩; have hB1 : Below w.heap.size w w1 := (((Below.refl _ w).alloc (Nat.le_refl _) _).alloc (by simp) _).trans (hb1.mono (by simp; omega)); obtain ⟨c0, c1, c2, c3, c4, c5, f0, f1, f2, f3, f4, f5, lp⟩ := Hp.mono hb1; obtain ⟨g0, g1, g2, g3, g4, g5, e0, e1, e2, e3, e4, e5, lg⟩ := Hs.mono hb1; clear Hp Hs hb1; skip)
  refine bodyPost_ret (v := .tuple #[.agg #[.int .i64 (ep + 1), .int .i64 b, .int .i64 l, .int .i64 d, .int .i64 x, .int .i64 head], .int .i64 0]) (by simp [results, Try.results11, go_sem, c0, c1, c2, c3, c4, c5]) rfl ⟨rfl, ?_⟩
  exact ((((((((hB1.setCell (by simp) _).setCell (by simp) _).setCell (by simp) _).setCell (by simp) _).setCell (by simp) _).setCell (by simp) _).setCell (by simp) _).setCell (by simp) _)

end Go.Proofs.Ytfjkmgfjlckmlaa
