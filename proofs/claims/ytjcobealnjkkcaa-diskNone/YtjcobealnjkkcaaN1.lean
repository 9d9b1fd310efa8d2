/- Contracts of a disk that no call made: nil, or a zero one. -/
import Derived.Test.YtjcobealnjkkcaaH2
set_option linter.unusedSimpArgs false
set_option linter.unusedVariables false
namespace Go.Proofs.Ytjcobealnjkkcaa
open Go.RowKit Go.Attic Go.Shelf
attribute [local go_sem] Oper.semAt_some

/-- A disk that no call made. -/
def NoDk (w : World) (dv : Value) : Prop := dv = .pointer none ∨ ∃ z, dv = .pointer (some ⟨z, 0, none⟩) ∧ w.cell? ⟨z, 0, none⟩ = some (.slice none 0 0)

theorem NoDk.mono {w w' : World} {dv : Value} (h : NoDk w dv) (hb : Below w.heap.size w w') : NoDk w' dv := by
  rcases h with h | ⟨z, h1, h2⟩
  · exact .inl h
  · exact .inr ⟨z, h1, (Keeps.of_below (S := fun _ => False) hb).cell h2 id⟩

set_option maxRecDepth 100000 in
set_option maxHeartbeats 400000 in
theorem isMade_no {w : World} {dv : Value} (h : NoDk w dv) : Calls Try.prog 41 #[dv] w fun e w' => e = .returned (.bool false) ∧ w = w' := by
  rcases h with rfl | ⟨z, rfl, c0⟩
  · go_enter Try.func41, Try.ntmps41
    go_wp2
    go_ret
    exact ⟨by simp, rfl⟩
  · go_enter Try.func41, Try.ntmps41
    go_wp2
    go_ret
    exact ⟨by simp, rfl⟩

set_option maxRecDepth 100000 in
set_option maxHeartbeats 400000 in
theorem powered_no {w : World} {dv : Value} (h : NoDk w dv) : Calls Try.prog 46 #[dv] w fun e w' => e = .returned (.int .i64 2) ∧ w = w' := by
  go_enter Try.func46, Try.ntmps46
  go_wp2_with fail
  refine (isMade_no h).mono ?_
  rintro e w' ⟨rfl, rfl⟩
  go_wp2
  go_ret
  exact ⟨by simp, rfl⟩

set_option maxRecDepth 100000 in
set_option maxHeartbeats 400000 in
theorem findable_no {w : World} {dv : Value} (i : Int) (h : NoDk w dv) : Calls Try.prog 44 #[dv, .int .i64 i] w fun e w' => e = .returned (.int .i64 2) ∧ w = w' := by
  go_enter Try.func44, Try.ntmps44
  go_wp2_with fail
  refine (powered_no h).mono ?_
  rintro e w' ⟨rfl, rfl⟩
  go_wp2
  go_ret
  exact ⟨by simp, rfl⟩

set_option maxRecDepth 100000 in
set_option maxHeartbeats 400000 in
theorem write_no {w : World} {dv : Value} (i : Int) (vb : Value) (h : NoDk w dv) : Calls Try.prog 15 #[dv, .int .i64 i, vb] w fun e w' => e = .returned (.int .i64 2) ∧ w = w' := by
  go_enter Try.func15, Try.ntmps15
  go_wp2_with fail
  refine (findable_no i h).mono ?_
  rintro e w' ⟨rfl, rfl⟩
  go_wp2
  go_ret
  exact ⟨by simp, rfl⟩

set_option maxRecDepth 100000 in
set_option maxHeartbeats 400000 in
theorem flush_no {w : World} {dv : Value} (h : NoDk w dv) : Calls Try.prog 18 #[dv] w fun e w' => e = .returned (.int .i64 2) ∧ w = w' := by
  go_enter Try.func18, Try.ntmps18
  go_wp2_with fail
  refine (powered_no h).mono ?_
  rintro e w' ⟨rfl, rfl⟩
  go_wp2
  go_ret
  exact ⟨by simp, rfl⟩

set_option maxRecDepth 100000 in
set_option maxHeartbeats 400000 in
theorem arm_no {w : World} {dv : Value} (i : Int) (vb : Value) (h : NoDk w dv) : Calls Try.prog 17 #[dv, .int .i64 i, vb] w fun e w' => e = .returned (.int .i64 2) ∧ w = w' := by
  go_enter Try.func17, Try.ntmps17
  go_wp2_with fail
  refine (powered_no h).mono ?_
  rintro e w' ⟨rfl, rfl⟩
  go_wp2
  go_ret
  exact ⟨by simp, rfl⟩

set_option maxRecDepth 100000 in
set_option maxHeartbeats 400000 in
theorem crash_no {w : World} {dv : Value} (vb : Value) (h : NoDk w dv) : Calls Try.prog 27 #[dv, vb] w fun e w' => e = .returned (.int .i64 2) ∧ w = w' := by
  go_enter Try.func27, Try.ntmps27
  go_wp2_with fail
  refine (powered_no h).mono ?_
  rintro e w' ⟨rfl, rfl⟩
  go_wp2
  go_ret
  exact ⟨by simp, rfl⟩

set_option maxRecDepth 100000 in
set_option maxHeartbeats 400000 in
theorem restart_no {w : World} {dv : Value} (h : NoDk w dv) : Calls Try.prog 30 #[dv] w fun e w' => e = .returned (.int .i64 2) ∧ w = w' := by
  go_enter Try.func30, Try.ntmps30
  go_wp2_with fail
  refine (isMade_no h).mono ?_
  rintro e w' ⟨rfl, rfl⟩
  go_wp2
  go_ret
  exact ⟨by simp, rfl⟩

set_option maxRecDepth 100000 in
set_option maxHeartbeats 400000 in
theorem on_no {w : World} {dv : Value} (h : NoDk w dv) : Calls Try.prog 31 #[dv] w fun e w' => e = .returned (.bool false) ∧ w = w' := by
  go_enter Try.func31, Try.ntmps31
  go_wp2_with fail
  refine (isMade_no h).mono ?_
  rintro e w' ⟨rfl, rfl⟩
  go_wp2
  go_ret
  exact ⟨by simp, rfl⟩

set_option maxRecDepth 100000 in
set_option maxHeartbeats 400000 in
theorem len_no {w : World} {dv : Value} (h : NoDk w dv) : Calls Try.prog 32 #[dv] w fun e w' => e = .returned (.int .i64 0) ∧ w = w' := by
  go_enter Try.func32, Try.ntmps32
  go_wp2_with fail
  refine (isMade_no h).mono ?_
  rintro e w' ⟨rfl, rfl⟩
  go_wp2
  go_ret
  exact ⟨by simp, rfl⟩

set_option maxRecDepth 100000 in
set_option maxHeartbeats 400000 in
theorem image_no {w : World} {dv : Value} (h : NoDk w dv) : Calls Try.prog 25 #[dv] w fun e w' => e = .returned (.slice none 0 0) ∧ w = w' := by
  go_enter Try.func25, Try.ntmps25
  go_wp2_with fail
  refine (isMade_no h).mono ?_
  rintro e w' ⟨rfl, rfl⟩
  go_wp2
  go_ret
  exact ⟨by simp, rfl⟩

set_option maxRecDepth 100000 in
set_option maxHeartbeats 400000 in
theorem ops_no {w : World} {dv : Value} (h : NoDk w dv) : Calls Try.prog 33 #[dv] w fun e w' => e = .returned (.int .i64 0) ∧ w = w' := by
  go_enter Try.func33, Try.ntmps33
  go_wp2_with fail
  refine (isMade_no h).mono ?_
  rintro e w' ⟨rfl, rfl⟩
  go_wp2
  go_ret
  exact ⟨by simp, rfl⟩

set_option maxRecDepth 100000 in
set_option maxHeartbeats 400000 in
theorem clone_no {w : World} {dv : Value} (h : NoDk w dv) : Calls Try.prog 14 #[dv] w fun e w' => e = .returned (.pointer none) ∧ w = w' := by
  refine (callsIn_wide (n := 3)).1 ?_
  refine callsIn_of_wp_marks Try.func14 rfl trivial ?_ rfl
  simp only [Try.ntmps14, List.size_toArray, List.length_cons, List.length_nil, Nat.reduceAdd, Nat.reduceSub, Array.replicate_succ, Array.replicate_zero, List.push_toArray, List.append_toArray, List.nil_append, List.cons_append]
  gi_wp2
  refine ⟨trivial, (callsIn_wide.2 (isMade_no h)).mono ?_⟩
  rintro e w' ⟨rfl, rfl⟩
  gi_wp2
  exact ⟨_, results_tmp rfl _ _ _, rfl, rfl⟩

set_option maxRecDepth 100000 in
set_option maxHeartbeats 400000 in
theorem read_no {w : World} {dv : Value} (i : Int) (h : NoDk w dv) : Calls Try.prog 21 #[dv, .int .i64 i] w fun e w' => e = .returned (.tuple #[.slice none 0 0, .int .i64 2]) ∧ Below w.heap.size w w' := by
  obtain ⟨w1, hw1⟩ : ∃ w1, ((w.alloc (.cells #[.int .i64 i] 3)).alloc (.cells #[.slice none 0 0] 31)).alloc (.cells #[.int .i64 0] 24) = w1 := ⟨_, rfl⟩
  have hb1 : Below w.heap.size w w1 := by rw [← hw1]; exact (((Below.refl _ w).alloc (Nat.le_refl _) _).alloc (by simp) _).alloc (by simp; omega) _
  have b0 : Boxed w1 w.heap.size 3 (.int .i64 i) := by rw [← hw1]; exact ((Boxed.new w 3 _).alloc _).alloc _
  have b1 : Boxed w1 (w.heap.size + 1) 31 (.slice none 0 0) := by
    rw [← hw1]
    have := (Boxed.new (w.alloc (.cells #[.int .i64 i] 3)) 31 (.slice none 0 0)).alloc (.cells #[.int .i64 0] 24)
    simpa using this
  have b2 : Boxed w1 (w.heap.size + 1 + 1) 24 (.int .i64 0) := by
    rw [← hw1]
    have := Boxed.new ((w.alloc (.cells #[.int .i64 i] 3)).alloc (.cells #[.slice none 0 0] 31)) 24 (.int .i64 0)
    simpa using this
  have hf := findable_no i (h.mono hb1)
  have c0 := b0.cell
  have c1 := b1.cell
  have f1 := b1.frozen
  have c2 := b2.cell
  have f2 := b2.frozen
  refine (callsIn_wide (n := 3)).1 ?_
  refine callsIn_of_wp_marks Try.func21 rfl trivial ?_ rfl
  simp only [Try.ntmps21, List.size_toArray, List.length_cons, List.length_nil, Nat.reduceAdd, Nat.reduceSub, Array.replicate_succ, Array.replicate_zero, List.push_toArray, List.append_toArray, List.nil_append, List.cons_append]
  gi_wp2
  refine ⟨trivial, (callsIn_wide.2 hf).mono ?_⟩
  rintro e w' ⟨rfl, rfl⟩
  gi_wp2
  refine ⟨_, results_cell2 rfl _ _ _ _ _ _ rfl rfl (isAgg31 _) (isAgg24 _) ((b1.set _).other (by omega) _).cell ((b2.other (by omega) _).set _).cell, rfl, (hb1.setCell (p := ⟨w.heap.size + 1, 0, none⟩) (by simp) _).setCell (p := ⟨w.heap.size + 1 + 1, 0, none⟩) (by simp; omega) _⟩

set_option maxRecDepth 100000 in
set_option maxHeartbeats 400000 in
theorem pending_no {w : World} {dv : Value} (h : NoDk w dv) : Calls Try.prog 43 #[dv] w fun e w' => ∃ f, e = .returned f ∧ PendIt (fun _ => False) w w' [] f ∧ Below w.heap.size w w' := by
  have h1 := h.mono ((Below.refl _ w).alloc (Nat.le_refl _) (.cells #[.slice none 0 0] 59))
  go_enter Try.func43, Try.ntmps43
  go_wp2_with fail
  refine (isMade_no h1).mono ?_
  rintro e w' ⟨rfl, rfl⟩
  go_wp2
  go_ret
  exact ⟨_, rfl, ⟨w.heap.size, _, [], rfl, Nat.le_refl _, Boxed.new w 59 _, by simpa [cellsW] using World.ownsRow_nil _ _ _ _, rfl, by simp⟩, (Below.refl _ w).alloc (Nat.le_refl _) _⟩

theorem pendL_no {w : World} {dv : Value} (h : NoDk w dv) (most : Nat) (hmost : most ≤ 4611686018427387904) : Calls Try.prog 26 #[dv, .int .i64 (most : Int)] w (TellsP w []) := by
  have := pendL_any (fun _ => False) dv [] most w (fun w1 hb => pending_no (h.mono hb)) (fun _ h => h.elim) (by simp) (by simp) hmost
  simpa using this

end Go.Proofs.Ytjcobealnjkkcaa
