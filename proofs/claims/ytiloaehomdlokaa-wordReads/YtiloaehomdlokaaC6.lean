/- The contract of live: the chapter's examples hold. -/
import Derived.Test.YtiloaehomdlokaaC5
import Derived.Lib.SlBytesConst
set_option linter.unusedSimpArgs false
set_option linter.unusedVariables false
namespace Go.Proofs.Ytiloaehomdlokaa
open Go.RowKit Go.Attic

theorem NewBs.bs {w w' : World} {v : Value} {l : List Nat} (h : w'.ownsRow w.heap.size 5 1 v l.length (cellsB l)) (hx : ∀ x ∈ l, x < 256) : Bs w' v l := Bs.of_owns h hx

theorem uvar300 : uvarN 300 = [172, 2] := by decide +kernel
theorem num300 : numL 2 300 = [44, 1] := by decide +kernel
theorem sum9 : sumN [49, 50, 51, 52, 53, 54, 55, 56, 57] = 3808858755 := by decide +kernel

/-- A slice that is laid as it is written. -/
theorem Bs.lit (w : World) (e : TypeId) (l : List Nat) (cs : Array Value) (hcs : cs.toList = cellsB l) (hx : ∀ x ∈ l, x < 256) (m : Nat × Nat := (0, 0)) :
    Bs (w.alloc (.cells cs e m)) (.slice (some ⟨w.heap.size, 0, none⟩) l.length l.length) l := by
  refine ⟨_, _, rfl, Nat.le_refl _, by simp, hx, fun _ => ⟨w.heap.size, 0, rfl, fun i hi => ?_⟩⟩
  have h2 : cs[i]? = some (.int .u8 ((l.getD i 0 : Nat) : Int)) := by
    rw [← Array.getElem?_toList, hcs]
    simp [cellsB, List.getD, hi]
  rw [Nat.zero_add]
  simp only [World.cell?, World.alloc, Array.getElem?_push, if_true]
  exact h2

/-- The same, one block further on, as the walk spells it. -/
theorem Bs.lit2 (w : World) (o : Obj) (e : TypeId) (l : List Nat) (cs : Array Value) (n : Nat) (hn : n = l.length) (hcs : cs.toList = cellsB l) (hx : ∀ x ∈ l, x < 256) (m : Nat × Nat) :
    Bs ((w.alloc o).alloc (.cells cs e m)) (.slice (some ⟨w.heap.size + 1, 0, none⟩) n n) l := by
  have := Bs.lit (w.alloc o) e l cs hcs hx m
  subst hn
  simpa using this

set_option maxRecDepth 100000 in
set_option maxHeartbeats 400000 in
theorem live_any (w : World) : Calls Try.prog 13 #[] w fun e w' => e = .returned (.bool true) ∧ Below w.heap.size w w' := by
  have kc : ∀ (w : World) (o : Obj) (C : Array Value) (n c : Nat), (convert 22 22 (.slice (some ⟨w.heap.size + 1, 0, none⟩) n c)).run Try.prog ((w.alloc o).alloc (.cells C 5)) =
      .ok (.slice (some ⟨w.heap.size + 1, 0, none⟩) n c) ((w.alloc o).alloc (.cells C 5 (C.size, C.size + 1))) := by
    intro w o C n c
    have := Lib.run_convert_bytes_const (P := Try.prog) (w.alloc o) 22 5 C n c Try.underlying22 Try.underlying5
    simpa using this
  go_enter Try.func13, Try.ntmps13
  go_wp2_with fail
  have h1 := num_any 2 300 w (by omega)
  rw [num300] at h1
  refine h1.mono ?_
  rintro e w1 ⟨v1, rfl, hown1, hb1⟩
  have hbs1 := Bs.of_owns hown1 (by simp)
  clear hown1 h1
  go_wp2_with fail
  refine (equal_any _ _ [44, 1] [44, 1] _ (hbs1.alloc _) (Bs.lit w1 5 [44, 1] _ rfl (by simp))).mono ?_
  rintro e w2 ⟨rfl, rfl⟩
  go_wp2_with fail
  have h2 := fun w => uvar_any 300 w (by omega)
  rw [uvar300] at h2
  refine (h2 _).mono ?_
  rintro e w2 ⟨v2, rfl, hown2, hb2⟩
  have hbs2 := Bs.of_owns hown2 (by simp)
  clear hown2 h2
  go_wp2_with fail
  refine (equal_any _ _ [172, 2] [172, 2] _ (hbs2.alloc _) (Bs.lit w2 5 [172, 2] _ rfl (by simp))).mono ?_
  rintro e w3 ⟨rfl, rfl⟩
  go_wp2_with fail
  refine (sum_any _ [49, 50, 51, 52, 53, 54, 55, 56, 57] _ (Bs.lit2 w2 _ 5 _ _ 9 rfl rfl (by simp) _) (by simp)).mono ?_
  rintro e w3 ⟨rfl, rfl⟩
  rw [sum9]
  go_wp2
  go_ret
  refine ⟨rfl, ?_⟩
  have h0 := hb1.size
  have h1 := hb2.size
  simp at h1
  exact ((((hb1.alloc h0 _).trans (hb2.mono (by simp; omega)))).alloc (by omega) _).alloc (by simp; omega) _
end Go.Proofs.Ytiloaehomdlokaa
