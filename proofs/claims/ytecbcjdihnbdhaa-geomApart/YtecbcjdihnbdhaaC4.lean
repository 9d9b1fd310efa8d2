/- Contracts: where a piece stands: byteAt, pieceAt, Extent, TableAt, MarksAt, and the document's. -/
import Derived.Test.YtecbcjdihnbdhaaC3
set_option linter.unusedSimpArgs false
set_option linter.unusedVariables false
namespace Go.Proofs.Ytecbcjdihnbdhaa
open Go.RowKit Go.Attic

def okE (a e : Int) : Prop := 0 ≤ a ∧ a ≤ 2048 ∧ 0 ≤ e ∧ e < 256

theorem ret_pair {a b c d : Int} (h : a = c) (k : b = d) : Ending.returned (.tuple #[.int .i64 a, .int .i64 b]) = .returned (.tuple #[.int .i64 c, .int .i64 d]) := by rw [h, k]

set_option maxHeartbeats 400000 in
theorem byteAt_any (a n : Int) (w : World) (h0 : -1 ≤ a) (h1 : a ≤ 65536) (h2 : 0 ≤ n) (h3 : n ≤ 1048576) : Calls Try.prog 34 #[.int .i64 a, .int .i64 n] w fun e w' => e = .returned (.tuple #[.int .i64 (a + n / 256), .int .i64 (n % 256)]) ∧ w = w' := by
  have hw : IntKind.i64.wrap (a + n / 256) = a + n / 256 := by rw [IntKind.wrap_i64]; omega
  go_enter Try.func34, Try.ntmps34
  go_wp2
  go_ret2
  exact ⟨rfl, rfl⟩

set_option maxRecDepth 100000 in
set_option maxHeartbeats 400000 in
theorem pieceAt_yes (a e s : Int) (w : World) (h : okE a e) (h2 : 0 ≤ s) (h3 : s ≤ 1024) (hm : e * s ≤ 1048576) (hm2 : 0 ≤ e * s) : Calls Try.prog 31 #[.int .i64 a, .int .i64 e, .int .i64 s] w fun r w' => r = .returned (.tuple #[.int .i64 (a + e * s / 256), .int .i64 (e * s % 256)]) ∧ w = w' := by
  obtain ⟨a0, a1, e0, e1⟩ := h
  have hb := fun w => byteAt_any a (e * s) w (by omega) (by omega) hm2 hm
  have hw : IntKind.i64.wrap (e * s) = e * s := by rw [IntKind.wrap_i64]; omega
  clear hm hm2 h2 h3
  go_enter Try.func31, Try.ntmps31
  go_wp2_with (go_at_call 34; refine (hb _).mono ?_; rintro r w' ⟨rfl, rfl⟩)
  go_ret2
  exact ⟨rfl, rfl⟩

set_option maxRecDepth 100000 in
set_option maxHeartbeats 400000 in
theorem pieceAt_no (a e s : Int) (w : World) (h : ¬ okE a e) : Calls Try.prog 31 #[.int .i64 a, .int .i64 e, .int .i64 s] w fun r w' => r = .returned (.tuple #[.int .i64 (-1), .int .i64 0]) ∧ w = w' := by
  by_cases h1 : a < 0
  · clear h
    go_enter Try.func31, Try.ntmps31
    go_wp2
    go_ret2
    exact ⟨rfl, rfl⟩
  by_cases h2 : 2048 < a
  · clear h
    go_enter Try.func31, Try.ntmps31
    go_wp2
    go_ret2
    exact ⟨rfl, rfl⟩
  by_cases h3 : e < 0
  · clear h
    go_enter Try.func31, Try.ntmps31
    go_wp2
    go_ret2
    exact ⟨rfl, rfl⟩
  have h4 : 256 ≤ e := by unfold okE at h; omega
  clear h
  go_enter Try.func31, Try.ntmps31
  go_wp2
  go_ret2
  exact ⟨rfl, rfl⟩

theorem dm1024 (e : Int) : e * 1024 / 256 = 4 * e := by omega
theorem dm8 (e : Int) : e * 8 / 256 = e / 32 ∧ e * 8 % 256 = 8 * (e % 32) := by omega
theorem dm4 (e : Int) : e * 4 / 256 = e / 64 ∧ e * 4 % 256 = 4 * (e % 64) := by omega

set_option maxRecDepth 100000 in
set_option maxHeartbeats 400000 in
theorem extent_yes (a0 a1 a2 a3 a4 a5 e : Int) (w : World) (h : okE a4 e) : Calls Try.prog 17 #[.agg #[.int .i64 a0, .int .i64 a1, .int .i64 a2, .int .i64 a3, .int .i64 a4, .int .i64 a5], .int .i64 e] w fun r w' => r = .returned (.int .i64 (a4 + 4 * e)) ∧ Below w.heap.size w w' := by
  have hp := fun w => pieceAt_yes a4 e 1024 w h (by omega) (by omega) (by unfold okE at h; omega) (by unfold okE at h; omega)
  go_enter Try.func17, Try.ntmps17
  go_wp2_with (go_at_call 31; refine (hp _).mono ?_; rintro r w' ⟨rfl, rfl⟩)
  go_ret
  exact ⟨ret_int (by rw [dm1024]), (Below.refl _ w).alloc (Nat.le_refl _) _⟩

set_option maxRecDepth 100000 in
set_option maxHeartbeats 400000 in
theorem extent_no (a0 a1 a2 a3 a4 a5 e : Int) (w : World) (h : ¬ okE a4 e) : Calls Try.prog 17 #[.agg #[.int .i64 a0, .int .i64 a1, .int .i64 a2, .int .i64 a3, .int .i64 a4, .int .i64 a5], .int .i64 e] w fun r w' => r = .returned (.int .i64 (-1)) ∧ Below w.heap.size w w' := by
  have hp := fun w => pieceAt_no a4 e 1024 w h
  go_enter Try.func17, Try.ntmps17
  go_wp2_with (go_at_call 31; refine (hp _).mono ?_; rintro r w' ⟨rfl, rfl⟩)
  go_ret
  exact ⟨rfl, (Below.refl _ w).alloc (Nat.le_refl _) _⟩

set_option maxRecDepth 100000 in
set_option maxHeartbeats 400000 in
theorem tableAt_yes (a0 a1 a2 a3 a4 a5 e : Int) (w : World) (h : okE a1 e) : Calls Try.prog 13 #[.agg #[.int .i64 a0, .int .i64 a1, .int .i64 a2, .int .i64 a3, .int .i64 a4, .int .i64 a5], .int .i64 e] w fun r w' => r = .returned (.tuple #[.int .i64 (a1 + e / 32), .int .i64 (8 * (e % 32))]) ∧ Below w.heap.size w w' := by
  have hp := fun w => pieceAt_yes a1 e 8 w h (by omega) (by omega) (by unfold okE at h; omega) (by unfold okE at h; omega)
  go_enter Try.func13, Try.ntmps13
  go_wp2_with (go_at_call 31; refine (hp _).mono ?_; rintro r w' ⟨rfl, rfl⟩)
  go_ret2
  exact ⟨ret_pair (by rw [(dm8 e).1]) (dm8 e).2, (Below.refl _ w).alloc (Nat.le_refl _) _⟩

set_option maxRecDepth 100000 in
set_option maxHeartbeats 400000 in
theorem tableAt_no (a0 a1 a2 a3 a4 a5 e : Int) (w : World) (h : ¬ okE a1 e) : Calls Try.prog 13 #[.agg #[.int .i64 a0, .int .i64 a1, .int .i64 a2, .int .i64 a3, .int .i64 a4, .int .i64 a5], .int .i64 e] w fun r w' => r = .returned (.tuple #[.int .i64 (-1), .int .i64 0]) ∧ Below w.heap.size w w' := by
  have hp := fun w => pieceAt_no a1 e 8 w h
  go_enter Try.func13, Try.ntmps13
  go_wp2_with (go_at_call 31; refine (hp _).mono ?_; rintro r w' ⟨rfl, rfl⟩)
  go_ret2
  exact ⟨rfl, (Below.refl _ w).alloc (Nat.le_refl _) _⟩

set_option maxRecDepth 100000 in
set_option maxHeartbeats 400000 in
theorem marksAt_yes (a0 a1 a2 a3 a4 a5 e : Int) (w : World) (h : okE a2 e) : Calls Try.prog 15 #[.agg #[.int .i64 a0, .int .i64 a1, .int .i64 a2, .int .i64 a3, .int .i64 a4, .int .i64 a5], .int .i64 e] w fun r w' => r = .returned (.tuple #[.int .i64 (a2 + e / 64), .int .i64 (4 * (e % 64))]) ∧ Below w.heap.size w w' := by
  have hp := fun w => pieceAt_yes a2 e 4 w h (by omega) (by omega) (by unfold okE at h; omega) (by unfold okE at h; omega)
  go_enter Try.func15, Try.ntmps15
  go_wp2_with (go_at_call 31; refine (hp _).mono ?_; rintro r w' ⟨rfl, rfl⟩)
  go_ret2
  exact ⟨ret_pair (by rw [(dm4 e).1]) (dm4 e).2, (Below.refl _ w).alloc (Nat.le_refl _) _⟩

set_option maxRecDepth 100000 in
set_option maxHeartbeats 400000 in
theorem marksAt_no (a0 a1 a2 a3 a4 a5 e : Int) (w : World) (h : ¬ okE a2 e) : Calls Try.prog 15 #[.agg #[.int .i64 a0, .int .i64 a1, .int .i64 a2, .int .i64 a3, .int .i64 a4, .int .i64 a5], .int .i64 e] w fun r w' => r = .returned (.tuple #[.int .i64 (-1), .int .i64 0]) ∧ Below w.heap.size w w' := by
  have hp := fun w => pieceAt_no a2 e 4 w h
  go_enter Try.func15, Try.ntmps15
  go_wp2_with (go_at_call 31; refine (hp _).mono ?_; rintro r w' ⟨rfl, rfl⟩)
  go_ret2
  exact ⟨rfl, (Below.refl _ w).alloc (Nat.le_refl _) _⟩

set_option maxHeartbeats 400000 in
theorem isClass_any (n : Int) (w : World) : Calls Try.prog 35 #[.int .i64 n] w fun r w' => r = .returned (.bool (decide (0 ≤ n ∧ n < 6))) ∧ w = w' := by
  by_cases h1 : 0 ≤ n
  · by_cases h2 : n < 6
    · rw [decide_eq_true (p := 0 ≤ n ∧ n < 6) ⟨h1, h2⟩]
      go_enter Try.func35, Try.ntmps35
      go_wp2
      go_ret
      exact ⟨rfl, rfl⟩
    · rw [decide_eq_false (p := 0 ≤ n ∧ n < 6) (fun h => h2 h.2)]
      go_enter Try.func35, Try.ntmps35
      go_wp2
      go_ret
      exact ⟨rfl, rfl⟩
  · rw [decide_eq_false (p := 0 ≤ n ∧ n < 6) (fun h => h1 h.1)]
    go_enter Try.func35, Try.ntmps35
    go_wp2
    go_ret
    exact ⟨rfl, rfl⟩

set_option maxHeartbeats 400000 in
theorem rextent_any (n : Int) (w : World) : Calls Try.prog 32 #[.int .i64 n] w fun r w' => r = .returned (.bool (decide (0 ≤ n ∧ n < 256))) ∧ w = w' := by
  by_cases h1 : 0 ≤ n
  · by_cases h2 : n < 256
    · rw [decide_eq_true (p := 0 ≤ n ∧ n < 256) ⟨h1, h2⟩]
      go_enter Try.func32, Try.ntmps32
      go_wp2
      go_ret
      exact ⟨rfl, rfl⟩
    · rw [decide_eq_false (p := 0 ≤ n ∧ n < 256) (fun h => h2 h.2)]
      go_enter Try.func32, Try.ntmps32
      go_wp2
      go_ret
      exact ⟨rfl, rfl⟩
  · rw [decide_eq_false (p := 0 ≤ n ∧ n < 256) (fun h => h1 h.1)]
    go_enter Try.func32, Try.ntmps32
    go_wp2
    go_ret
    exact ⟨rfl, rfl⟩

set_option maxHeartbeats 400000 in
theorem rbegins_any (n : Int) (w : World) : Calls Try.prog 33 #[.int .i64 n] w fun r w' => r = .returned (.bool (decide (0 ≤ n ∧ n ≤ 2048))) ∧ w = w' := by
  by_cases h1 : 0 ≤ n
  · by_cases h2 : n ≤ 2048
    · rw [decide_eq_true (p := 0 ≤ n ∧ n ≤ 2048) ⟨h1, h2⟩]
      go_enter Try.func33, Try.ntmps33
      go_wp2
      go_ret
      exact ⟨rfl, rfl⟩
    · rw [decide_eq_false (p := 0 ≤ n ∧ n ≤ 2048) (fun h => h2 h.2)]
      go_enter Try.func33, Try.ntmps33
      go_wp2
      go_ret
      exact ⟨rfl, rfl⟩
  · rw [decide_eq_false (p := 0 ≤ n ∧ n ≤ 2048) (fun h => h1 h.1)]
    go_enter Try.func33, Try.ntmps33
    go_wp2
    go_ret
    exact ⟨rfl, rfl⟩

set_option maxRecDepth 100000 in
set_option maxHeartbeats 400000 in
theorem refExtent_yes (a0 a1 a2 a3 a4 a5 e : Int) (w : World) (h : okE a4 e) : Calls Try.prog 18 #[.agg #[.int .i64 a0, .int .i64 a1, .int .i64 a2, .int .i64 a3, .int .i64 a4, .int .i64 a5], .int .i64 e] w fun r w' => r = .returned (.int .i64 (a4 + 4 * e)) ∧ Below w.heap.size w w' := by
  obtain ⟨k0, k1, k2, k3⟩ := h
  have h1 := fun w => rextent_any e w
  rw [decide_eq_true (p := 0 ≤ e ∧ e < 256) ⟨k2, k3⟩] at h1
  have h2 := fun w => rbegins_any a4 w
  rw [decide_eq_true (p := 0 ≤ a4 ∧ a4 ≤ 2048) ⟨k0, k1⟩] at h2
  go_enter Try.func18, Try.ntmps18
  go_wp2_with (go_at_call 32; refine (h1 _).mono ?_; rintro r w' ⟨rfl, rfl⟩)
  go_wp2_with (go_at_call 33; refine (h2 _).mono ?_; rintro r w' ⟨rfl, rfl⟩)
  go_ret
  exact ⟨rfl, (Below.refl _ w).alloc (Nat.le_refl _) _⟩

set_option maxRecDepth 100000 in
set_option maxHeartbeats 400000 in
theorem refExtent_no (a0 a1 a2 a3 a4 a5 e : Int) (w : World) (h : ¬ okE a4 e) : Calls Try.prog 18 #[.agg #[.int .i64 a0, .int .i64 a1, .int .i64 a2, .int .i64 a3, .int .i64 a4, .int .i64 a5], .int .i64 e] w fun r w' => r = .returned (.int .i64 (-1)) ∧ Below w.heap.size w w' := by
  have h1 := fun w => rextent_any e w
  have h2 := fun w => rbegins_any a4 w
  by_cases k1 : 0 ≤ e ∧ e < 256
  · rw [decide_eq_true (p := 0 ≤ e ∧ e < 256) k1] at h1
    rw [decide_eq_false (p := 0 ≤ a4 ∧ a4 ≤ 2048) (by unfold okE at h; omega)] at h2
    clear h
    go_enter Try.func18, Try.ntmps18
    go_wp2_with (go_at_call 32; refine (h1 _).mono ?_; rintro r w' ⟨rfl, rfl⟩)
    go_wp2_with (go_at_call 33; refine (h2 _).mono ?_; rintro r w' ⟨rfl, rfl⟩)
    go_ret
    exact ⟨rfl, (Below.refl _ w).alloc (Nat.le_refl _) _⟩
  · rw [decide_eq_false (p := 0 ≤ e ∧ e < 256) k1] at h1
    clear h
    go_enter Try.func18, Try.ntmps18
    go_wp2_with (go_at_call 32; refine (h1 _).mono ?_; rintro r w' ⟨rfl, rfl⟩)
    go_ret
    exact ⟨rfl, (Below.refl _ w).alloc (Nat.le_refl _) _⟩

set_option maxRecDepth 100000 in
set_option maxHeartbeats 400000 in
theorem refTableAt_yes (a0 a1 a2 a3 a4 a5 e : Int) (w : World) (h : okE a1 e) : Calls Try.prog 14 #[.agg #[.int .i64 a0, .int .i64 a1, .int .i64 a2, .int .i64 a3, .int .i64 a4, .int .i64 a5], .int .i64 e] w fun r w' => r = .returned (.tuple #[.int .i64 (a1 + e / 32), .int .i64 (8 * (e % 32))]) ∧ Below w.heap.size w w' := by
  obtain ⟨k0, k1, k2, k3⟩ := h
  have h1 := fun w => rextent_any e w
  rw [decide_eq_true (p := 0 ≤ e ∧ e < 256) ⟨k2, k3⟩] at h1
  have h2 := fun w => rbegins_any a1 w
  rw [decide_eq_true (p := 0 ≤ a1 ∧ a1 ≤ 2048) ⟨k0, k1⟩] at h2
  go_enter Try.func14, Try.ntmps14
  go_wp2_with (go_at_call 32; refine (h1 _).mono ?_; rintro r w' ⟨rfl, rfl⟩)
  go_wp2_with (go_at_call 33; refine (h2 _).mono ?_; rintro r w' ⟨rfl, rfl⟩)
  go_ret2
  exact ⟨rfl, (Below.refl _ w).alloc (Nat.le_refl _) _⟩

set_option maxRecDepth 100000 in
set_option maxHeartbeats 400000 in
theorem refTableAt_no (a0 a1 a2 a3 a4 a5 e : Int) (w : World) (h : ¬ okE a1 e) : Calls Try.prog 14 #[.agg #[.int .i64 a0, .int .i64 a1, .int .i64 a2, .int .i64 a3, .int .i64 a4, .int .i64 a5], .int .i64 e] w fun r w' => r = .returned (.tuple #[.int .i64 (-1), .int .i64 0]) ∧ Below w.heap.size w w' := by
  have h1 := fun w => rextent_any e w
  have h2 := fun w => rbegins_any a1 w
  by_cases k1 : 0 ≤ e ∧ e < 256
  · rw [decide_eq_true (p := 0 ≤ e ∧ e < 256) k1] at h1
    rw [decide_eq_false (p := 0 ≤ a1 ∧ a1 ≤ 2048) (by unfold okE at h; omega)] at h2
    clear h
    go_enter Try.func14, Try.ntmps14
    go_wp2_with (go_at_call 32; refine (h1 _).mono ?_; rintro r w' ⟨rfl, rfl⟩)
    go_wp2_with (go_at_call 33; refine (h2 _).mono ?_; rintro r w' ⟨rfl, rfl⟩)
    go_ret2
    exact ⟨rfl, (Below.refl _ w).alloc (Nat.le_refl _) _⟩
  · rw [decide_eq_false (p := 0 ≤ e ∧ e < 256) k1] at h1
    clear h
    go_enter Try.func14, Try.ntmps14
    go_wp2_with (go_at_call 32; refine (h1 _).mono ?_; rintro r w' ⟨rfl, rfl⟩)
    go_ret2
    exact ⟨rfl, (Below.refl _ w).alloc (Nat.le_refl _) _⟩

set_option maxRecDepth 100000 in
set_option maxHeartbeats 400000 in
theorem refMarksAt_yes (a0 a1 a2 a3 a4 a5 e : Int) (w : World) (h : okE a2 e) : Calls Try.prog 16 #[.agg #[.int .i64 a0, .int .i64 a1, .int .i64 a2, .int .i64 a3, .int .i64 a4, .int .i64 a5], .int .i64 e] w fun r w' => r = .returned (.tuple #[.int .i64 (a2 + e / 64), .int .i64 (4 * (e % 64))]) ∧ Below w.heap.size w w' := by
  obtain ⟨k0, k1, k2, k3⟩ := h
  have h1 := fun w => rextent_any e w
  rw [decide_eq_true (p := 0 ≤ e ∧ e < 256) ⟨k2, k3⟩] at h1
  have h2 := fun w => rbegins_any a2 w
  rw [decide_eq_true (p := 0 ≤ a2 ∧ a2 ≤ 2048) ⟨k0, k1⟩] at h2
  go_enter Try.func16, Try.ntmps16
  go_wp2_with (go_at_call 32; refine (h1 _).mono ?_; rintro r w' ⟨rfl, rfl⟩)
  go_wp2_with (go_at_call 33; refine (h2 _).mono ?_; rintro r w' ⟨rfl, rfl⟩)
  go_ret2
  exact ⟨rfl, (Below.refl _ w).alloc (Nat.le_refl _) _⟩

set_option maxRecDepth 100000 in
set_option maxHeartbeats 400000 in
theorem refMarksAt_no (a0 a1 a2 a3 a4 a5 e : Int) (w : World) (h : ¬ okE a2 e) : Calls Try.prog 16 #[.agg #[.int .i64 a0, .int .i64 a1, .int .i64 a2, .int .i64 a3, .int .i64 a4, .int .i64 a5], .int .i64 e] w fun r w' => r = .returned (.tuple #[.int .i64 (-1), .int .i64 0]) ∧ Below w.heap.size w w' := by
  have h1 := fun w => rextent_any e w
  have h2 := fun w => rbegins_any a2 w
  by_cases k1 : 0 ≤ e ∧ e < 256
  · rw [decide_eq_true (p := 0 ≤ e ∧ e < 256) k1] at h1
    rw [decide_eq_false (p := 0 ≤ a2 ∧ a2 ≤ 2048) (by unfold okE at h; omega)] at h2
    clear h
    go_enter Try.func16, Try.ntmps16
    go_wp2_with (go_at_call 32; refine (h1 _).mono ?_; rintro r w' ⟨rfl, rfl⟩)
    go_wp2_with (go_at_call 33; refine (h2 _).mono ?_; rintro r w' ⟨rfl, rfl⟩)
    go_ret2
    exact ⟨rfl, (Below.refl _ w).alloc (Nat.le_refl _) _⟩
  · rw [decide_eq_false (p := 0 ≤ e ∧ e < 256) k1] at h1
    clear h
    go_enter Try.func16, Try.ntmps16
    go_wp2_with (go_at_call 32; refine (h1 _).mono ?_; rintro r w' ⟨rfl, rfl⟩)
    go_ret2
    exact ⟨rfl, (Below.refl _ w).alloc (Nat.le_refl _) _⟩

end Go.Proofs.Ytecbcjdihnbdhaa
