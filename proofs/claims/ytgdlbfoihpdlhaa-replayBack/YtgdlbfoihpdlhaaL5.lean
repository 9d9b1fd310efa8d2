/- Rows of bytes that a loop turns; what it leaves alone. -/
import Derived.Test.YtgdlbfoihpdlhaaL3
set_option linter.unusedSimpArgs false
set_option linter.unusedVariables false
namespace Go.Proofs.Ytgdlbfoihpdlhaa
open Go.RowKit Go.Attic

/-- Cells that are bytes, whatever they are. -/
def U8s (xs : List Value) : Prop := ∀ i, i < xs.length → ∃ y, xs[i]? = some (.int .u8 y)
theorem U8s.of_cells (l : List Nat) : U8s (cellsB l) := fun i hi => ⟨(l.getD i 0 : Nat), by
  rw [cellsB_length] at hi
  simp [cellsB, List.getD, hi]⟩
theorem U8s.set {xs : List Value} (h : U8s xs) (i : Nat) (y : Int) : U8s (xs.set i (.int .u8 y)) := fun j hj => by
  rw [List.length_set] at hj
  by_cases e : i = j
  · subst e
    exact ⟨y, by rw [List.getElem?_set_self hj]⟩
  · rw [List.getElem?_set_ne e]
    exact h j hj
/-- Bytes that stood in an older world are left alone by what turns only newer blocks. -/
theorem Bs.kept {S : Nat → Prop} {w0 w1 w2 : World} {v : Value} {l : List Nat} (h0 : Bs w0 v l) (h1 : Bs w1 v l) (hk : Keeps S w1 w2) (hS : ∀ j, S j → w0.heap.size ≤ j) : Bs w2 v l := by
  obtain ⟨ao, cap, rfl, h2, h3, h4, h5⟩ := h1
  refine ⟨ao, cap, rfl, h2, h3, h4, fun hp => ?_⟩
  obtain ⟨b, off, rfl, hc⟩ := h5 hp
  refine ⟨b, off, rfl, fun i hi => hk.cell (hc i hi) (fun hs => ?_)⟩
  obtain ⟨ao', cap', e, -, -, -, h6⟩ := h0
  injection e with e1 e2 e3
  obtain ⟨b', off', e4, hc'⟩ := h6 hp
  rw [← e1] at e4
  injection e4 with e4
  injection e4 with e5 e6
  have h7 := World.block_lt_of_cell? w0 _ (hc' 0 hp)
  have h8 := hS b hs
  rw [← e5] at h7
  simp at h7
  omega


end Go.Proofs.Ytgdlbfoihpdlhaa
