/- Rows of records, cloned and made longer. -/
import Derived.Test.YtgdlbfoihpdlhaaL3
set_option linter.unusedSimpArgs false
set_option linter.unusedVariables false
namespace Go.Proofs.Ytgdlbfoihpdlhaa
open Go.RowKit Go.Attic

theorem Rw.cloned {B : Nat} {w w6 : World} {p : Option Nat} {v v6 : Value} {rs : List Rc} {vs : List Value} (h : Rw w p (fun k => B ≤ k) v rs vs) (hB : B ≤ w.heap.size) (ho : w6.ownsRow w.heap.size 48 5 v6 rs.length (cellsR rs vs)) (hb : Below w.heap.size w w6) :
    Rw w6 v6.ownBlock (fun k => B ≤ k) v6 rs vs := by
  refine ⟨owns_base ho (Nat.zero_le _), rfl, h.len, fun b hb' => by have := owns_lt ho b hb'; omega, fun i hi hv => ?_⟩
  obtain ⟨h1, h2⟩ := h.bs i hi hv
  refine ⟨h1.mono hb, fun hp b hb' => ⟨(h2 hp b hb').1, fun e => ?_⟩⟩
  have := owns_lt ho b e
  have := bs_lt2 h1 hp b hb'
  omega

theorem Rw.tail0 {B : Nat} {w w2 : World} {p : Option Nat} {v v' : Value} {rs : List Rc} {vs : List Value} {r : Rc} {o : Obj} (h : Rw w p (fun k => B ≤ k) v rs vs) (hB : B ≤ w.heap.size) (hl : r.l = [])
    (ho : w2.ownsRow 0 48 5 v' (rs.length + 1) (cellsR rs vs ++ r.cells (.slice none 0 0))) (hg : (w.alloc o).grownBy w2 v.ownBlock) (hkin : v'.ownBlock = v.ownBlock ∨ v'.ownBlock = some (w.heap.size + 1)) :
    Rw w2 v'.ownBlock (fun k => B ≤ k) v' (rs ++ [r]) (vs ++ [.slice none 0 0]) := by
  have hA : Below w.heap.size w (w.alloc o) := (Below.refl _ _).alloc (Nat.le_refl _) o
  have hN := (h.mono hA).narrow
  have hkp : Keeps (fun k => p = some k) (w.alloc o) w2 := Keeps.of_grown hg (fun k e => by rw [← h.own]; exact e)
  refine (Rw.snoc hN (fun k hk => hk.2) hkp ho ?_ (by rw [hl]; exact Bs.nil _) (by rw [hl]; intro h; simp at h)).widen ?_
  · intro k hk
    rcases hkin with e | e
    · exact .inl (by rw [← h.own, ← e]; exact hk)
    · rw [e] at hk; injection hk with hk; exact .inr (by simp; omega)
  · intro k hk
    rcases hk with hk | hk | hk
    · exact hk.1
    · rcases hkin with e2 | e2
      · exact h.pF k (by rw [← h.own, ← e2]; exact hk)
      · rw [e2] at hk; injection hk with hk; omega
    · cases hk

/-- Each record's bytes are a block of the call's own, and no two share one. -/
structure Ow (w : World) (B : Nat) (rs : List Rc) (vs : List Value) : Prop where
  len : vs.length = rs.length
  own : ∀ i (hi : i < rs.length) (hv : i < vs.length), 0 < (rs[i]).l.length ∧ w.ownsRow B 5 1 vs[i] (rs[i]).l.length (cellsB (rs[i]).l)
  far : ∀ i j (hi : i < vs.length) (hj : j < vs.length), i ≠ j → (vs[i]).ownBlock ≠ (vs[j]).ownBlock
theorem Ow.nil (w : World) (B : Nat) : Ow w B [] [] := ⟨rfl, fun i hi => by simp at hi, fun i j hi => by simp at hi⟩
theorem Ow.mono {w w' : World} {B : Nat} {rs : List Rc} {vs : List Value} (h : Ow w B rs vs) (hb : Below w.heap.size w w') : Ow w' B rs vs :=
  ⟨h.len, fun i hi hv => ⟨(h.own i hi hv).1, owns_below (h.own i hi hv).2 hb (Nat.le_refl _)⟩, h.far⟩
theorem owns_block {w : World} {base : Nat} {e : TypeId} {size : Nat} {v : Value} {n : Nat} {xs : List Value} (h : w.ownsRow base e size v n xs) (hn : 0 < n) : ∃ g cap, v = .slice (some ⟨g, 0, none⟩) n cap ∧ base ≤ g ∧ g < w.heap.size := by
  obtain ⟨ao, cap, rfl, _, hg⟩ := owns_form h
  obtain ⟨g, rfl, hb⟩ := hg hn
  exact ⟨g, cap, rfl, hb, owns_lt' h g rfl⟩
theorem Ow.push {B : Nat} {w w1 w2 : World} {p : Option Nat} {v u : Value} {rs : List Rc} {vs : List Value} {r : Rc} {o : Obj} (h : Ow w B rs vs) (hr : Rw w p (fun k => B ≤ k) v rs vs) (hB : B ≤ w.heap.size) (hb : Below w.heap.size w w1)
    (hl : 0 < r.l.length) (hu : w1.ownsRow w.heap.size 5 1 u r.l.length (cellsB r.l)) (hg : (w1.alloc o).grownBy w2 v.ownBlock) : Ow w2 B (rs ++ [r]) (vs ++ [u]) := by
  have hz := hb.size
  have hA : Below w.heap.size w (w1.alloc o) := hb.alloc (by omega) o
  have hkp : Keeps (fun k => p = some k) (w1.alloc o) w2 := Keeps.of_grown hg (fun k e => by rw [← hr.own]; exact e)
  have hp : ∀ k, p = some k → k < w.heap.size := fun k hk => owns_lt' hr.row k (hr.own.trans hk)
  obtain ⟨gu, cu, rfl, hgu, hgu2⟩ := owns_block hu hl
  have hlow : ∀ i (hv : i < vs.length), ∃ g, (vs[i]).ownBlock = some g ∧ g < w.heap.size := by
    intro i hv
    have hi : i < rs.length := by have := h.len; omega
    obtain ⟨g, c, e, _, h2⟩ := owns_block (h.own i hi hv).2 (h.own i hi hv).1
    exact ⟨g, by rw [e]; rfl, h2⟩
  refine ⟨by simp [h.len], fun i hi hv => ?_, fun i j hi hj hne => ?_⟩
  · simp at hi hv
    by_cases hil : i < rs.length
    · have h1 : i < vs.length := by have := h.len; omega
      simp only [List.getElem_append_left hil, List.getElem_append_left h1]
      obtain ⟨q1, q2⟩ := h.own i hil h1
      refine ⟨q1, hkp.owns (owns_below q2 hA (Nat.le_refl _)) (fun b hb' e => ?_)⟩
      exact ((hr.bs i hil h1).2 q1 b hb').2 e
    · have e1 : i = rs.length := by omega
      subst e1
      have e2 : rs.length = vs.length := h.len.symm
      have g1 : (rs ++ [r])[rs.length]'(by simp) = r := by simp
      have g2 : (vs ++ [Value.slice (some ⟨gu, 0, none⟩) r.l.length cu])[rs.length]'(by simp [e2]) = .slice (some ⟨gu, 0, none⟩) r.l.length cu := by simp [e2]
      rw [g1, g2]
      refine ⟨hl, hkp.owns (owns_base (owns_below hu ((Below.refl _ w1).alloc (Nat.le_refl _) o) (Nat.le_refl _)) hB) (fun b hb' e => ?_)⟩
      have e3 : gu = b := by injection hb'
      have := hp b e
      omega
  · simp at hi hj
    have key : ∀ i (hi : i < vs.length + 1), i < vs.length ∨ i = vs.length := fun i hi => by omega
    rcases key i hi with h1 | h1
    · rcases key j hj with h2 | h2
      · simp only [List.getElem_append_left h1, List.getElem_append_left h2]
        exact h.far i j h1 h2 hne
      · subst h2
        obtain ⟨g, e, hg⟩ := hlow i h1
        simp only [List.getElem_append_left h1]
        rw [e]
        simp [Value.ownBlock]
        omega
    · subst h1
      rcases key j hj with h2 | h2
      · obtain ⟨g, e, hg⟩ := hlow j h2
        simp only [List.getElem_append_left h2]
        rw [e]
        simp [Value.ownBlock]
        omega
      · omega

/-- The first of them, and the cells that stand there. -/
theorem Rs.first {F : Nat → Prop} {w : World} {v : Value} {r : Rc} {rs : List Rc} (h : Rs w F v (r :: rs)) : ∃ b off cap u, v = .slice (some ⟨b, off, none⟩) (rs.length + 1) cap ∧ RcAt w b off r u ∧ Bs w u r.l := by
  obtain ⟨ao, cap, e, _⟩ := h.slice
  subst e
  obtain ⟨_, b, off, u, rfl, _, h1, h2, _⟩ := h.at 0 (by simp)
  exact ⟨b, off, cap, u, rfl, by simpa using h1, h2⟩

end Go.Proofs.Ytgdlbfoihpdlhaa
