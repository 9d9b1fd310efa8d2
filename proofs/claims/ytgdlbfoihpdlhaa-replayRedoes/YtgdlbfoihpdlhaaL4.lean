/- Rows of records, cloned and made longer. -/
import Derived.Test.YtgdlbfoihpdlhaaL3
set_option linter.unusedSimpArgs false
set_option linter.unusedVariables false
namespace Go.Proofs.Ytgdlbfoihpdlhaa
open Go.RowKit Go.Attic

theorem Rw.cloned {B : Nat} {w w6 : World} {p : Option Nat} {v v6 : Value} {rs : List Rc} {vs : List Value} (h : Rw w p (fun k => B ≤ k) v rs vs) (hB : B ≤ w.heap.size) (ho : w6.ownsRow w.heap.size 48 5 v6 rs.length (cellsR rs vs)) (hb : Below w.heap.size w w6) :
    Rw w6 v6.ownBlock (fun k => B ≤ k) v6 rs vs := by
  refine ⟨owns_base ho (Nat.zero_le _), rfl, h.len, fun b hb' => by have := owns_lt ho b hb'; omega, fun i hi hv => ?_⟩
  obtain ⟨h1, h2⟩ := h.bs i hi hv
  refine ⟨h1.mono hb, fun hp b hb' => ⟨(h2 hp b hb').1, fun e => ?_⟩⟩
  have := owns_lt ho b e
  have := bs_lt2 h1 hp b hb'
  omega

theorem Rw.tail0 {B : Nat} {w w2 : World} {p : Option Nat} {v v' : Value} {rs : List Rc} {vs : List Value} {r : Rc} {o : Obj} (h : Rw w p (fun k => B ≤ k) v rs vs) (hB : B ≤ w.heap.size) (hl : r.l = [])
    (ho : w2.ownsRow 0 48 5 v' (rs.length + 1) (cellsR rs vs ++ r.cells (.slice none 0 0))) (hg : (w.alloc o).grownBy w2 v.ownBlock) (hkin : v'.ownBlock = v.ownBlock ∨ v'.ownBlock = some (w.heap.size + 1)) :
    Rw w2 v'.ownBlock (fun k => B ≤ k) v' (rs ++ [r]) (vs ++ [.slice none 0 0]) := by
  have hA : Below w.heap.size w (w.alloc o) := (Below.refl _ _).alloc (Nat.le_refl _) o
  have hN := (h.mono hA).narrow
  have hkp : Keeps (fun k => p = some k) (w.alloc o) w2 := Keeps.of_grown hg (fun k e => by rw [← h.own]; exact e)
  refine (Rw.snoc hN (fun k hk => hk.2) hkp ho ?_ (by rw [hl]; exact Bs.nil _) (by rw [hl]; intro h; simp at h)).widen ?_
  · intro k hk
    rcases hkin with e | e
    · exact .inl (by rw [← h.own, ← e]; exact hk)
    · rw [e] at hk; injection hk with hk; exact .inr (by simp; omega)
  · intro k hk
    rcases hk with hk | hk | hk
    · exact hk.1
    · rcases hkin with e2 | e2
      · exact h.pF k (by rw [← h.own, ← e2]; exact hk)
      · rw [e2] at hk; injection hk with hk; omega
    · cases hk

/-- The first of them, and the cells that stand there. -/
theorem Rs.first {F : Nat → Prop} {w : World} {v : Value} {r : Rc} {rs : List Rc} (h : Rs w F v (r :: rs)) : ∃ b off cap u, v = .slice (some ⟨b, off, none⟩) (rs.length + 1) cap ∧ RcAt w b off r u ∧ Bs w u r.l := by
  obtain ⟨ao, cap, e, _⟩ := h.slice
  subst e
  obtain ⟨_, b, off, u, rfl, _, h1, h2, _⟩ := h.at 0 (by simp)
  exact ⟨b, off, cap, u, rfl, by simpa using h1, h2⟩

end Go.Proofs.Ytgdlbfoihpdlhaa
