/- A disk that grows by one pending write, what it reads held narrowly; a disk that stands while an iterator goes on. -/
import Derived.Test.YtjcobealnjkkcaaT0
set_option linter.unusedSimpArgs false
set_option linter.unusedVariables false
namespace Go.Proofs.Ytjcobealnjkkcaa
open Go.RowKit Go.Attic Go.Shelf

/-- A block of cells. -/
def IsC (w : World) (k : Nat) : Prop := ∃ (cs : Array Value) (t : TypeId) (fz : Nat × Nat), w.heap[k]? = some (.cells cs t fz)

theorem IsC.lt {w : World} {k : Nat} (h : IsC w k) : k < w.heap.size := by
  obtain ⟨cs, t, fz, h⟩ := h
  exact (Array.getElem?_eq_some_iff.1 h).1

theorem IsC.same {w w' : World} {k : Nat} (h : IsC w k) (e : w'.heap[k]? = w.heap[k]?) : IsC w' k := by
  obtain ⟨cs, t, fz, h⟩ := h
  exact ⟨cs, t, fz, e.trans h⟩

theorem owns_isC {w : World} {base : Nat} {e : TypeId} {size : Nat} {v : Value} {n : Nat} {xs : List Value} (h : w.ownsRow base e size v n xs) : ∀ k, v.ownBlock = some k → IsC w k := by
  intro k hk
  rcases h.2 with ⟨rfl, _⟩ | ⟨g, cap, cur, rfl, _, hg, _⟩
  · simp [Value.ownBlock] at hk
  · simp [Value.ownBlock] at hk
    subst hk
    exact ⟨_, _, _, hg⟩

theorem Dk.pushed2 {w w2 : World} {g m : Nat} {p : Option Nat} {F : Nat → Prop} {n : Nat} {s : St} (h : Dk w g m p F n s) {v : Value} {vs : List Value} (c1 : w.cell? ⟨g, 1, none⟩ = some v) (hW : Ws 78 w p F v s.pend vs)
    (k2 : Keeps (fun k => p = some k) w w2) {v' vb : Value} {i : Nat} {b : List Nat} (ho : w2.ownsRow 0 78 2 v' (s.pend.length + 1) (cellsW s.pend vs ++ [.int .i64 (i : Int), vb])) (hkin : ∀ k, v'.ownBlock = some k → (p = some k ∨ w.heap.size ≤ k) ∧ vb.ownBlock ≠ some k ∧ k < w2.heap.size)
    (hb : Bs w2 vb b) (hbk : ∀ k, vb.ownBlock = some k → k ≠ g ∧ k ≠ m ∧ k < w2.heap.size) (hi : i < n) (hl : b.length = 256) :
    Dk (w2.setCell ⟨g, 1, none⟩ v') g m v'.ownBlock (fun k => (F k ∧ p ≠ some k) ∨ vb.ownBlock = some k ∨ v'.ownBlock = some k) n { s with pend := s.pend ++ [(i, b)] } := by
  obtain ⟨cap, a1, a2⟩ := h.c0
  obtain ⟨v3, d1, d2, d3⟩ := h.c3
  have hgl := h.gl
  have hml := h.ml
  have hpg : ¬ (fun k => p = some k) g := fun e => h.Fg (hW.pF g e)
  have hpm : ¬ (fun k => p = some k) m := fun e => h.Fm (hW.pF m e)
  have hk : Keeps (fun k => k = g) w2 (w2.setCell ⟨g, 1, none⟩ v') := Keeps.setCell (S := fun k => k = g) w2 rfl _
  have hm : ¬ (fun k => k = g) m := fun e => h.ne (by have e' : m = g := e; exact e'.symm)
  have hS : ∀ k, F k → ¬ (fun k => k = g) k := fun k hk e => h.Fg (by have e' : k = g := e; exact e' ▸ hk)
  have hbS : ∀ k, vb.ownBlock = some k → ¬ (fun k => k = g) k := fun k hk' e => by have e' : k = g := e; exact (hbk k hk').1 e'
  have hvS : ∀ k, v'.ownBlock = some k → ¬ (fun k => k = g) k := fun k hk' e => by
    have e' : k = g := e
    rcases (hkin k hk').1 with h1 | h1
    · exact hpg (by rw [← e']; exact h1)
    · omega
  have hsz := k2.size
  refine ⟨⟨cap, cell_set_other (k2.cell a1 hpg) (by omega), hk.owns (k2.owns a2 (fun b hb => by cases hb; exact hpm)) (fun b hb => by cases hb; exact hm)⟩,
    ⟨v', vs ++ [vb], cell_set_same (k2.cell c1 hpg), ⟨?_, rfl, by simp [hW.len], fun b hb => .inr (.inr hb), ?_⟩⟩,
    cell_set_other (k2.cell h.c2 hpg) (by omega),
    ⟨v3, cell_set_other (k2.cell d1 hpg) (by omega), hk.bs (k2.bs d2 (fun b hb => (d3 b hb).2)) (fun b hb => hS b (d3 b hb).1), fun b hb => ⟨.inl (d3 b hb), fun e => ?_⟩⟩,
    cell_set_other (k2.cell h.c4 hpg) (by omega), cell_set_other (k2.cell h.c5 hpg) (by omega), ?_, ?_, ?_, ?_, ?_, ?_,
    h.ne, ?_, ?_, ?_, ⟨h.ok.len, h.ok.n1, h.ok.n2, h.ok.lt, ?_, h.ok.left, h.ok.picks⟩⟩
  · have e : cellsW (s.pend ++ [(i, b)]) (vs ++ [vb]) = cellsW s.pend vs ++ [.int .i64 (i : Int), vb] := by
      simp [cellsW, List.zip_append hW.len.symm]
    dsimp only
    rw [e]
    simpa using hk.owns ho hvS
  · intro j hj hv
    simp at hj hv
    by_cases hjl : j < s.pend.length
    · have h1 : j < vs.length := by have := hW.len; omega
      obtain ⟨q1, q2⟩ := hW.bs j hjl h1
      simp only [List.getElem_append_left hjl, List.getElem_append_left h1]
      refine ⟨hk.bs (k2.bs q1 (fun b hb => (q2 b hb).2)) (fun b hb => hS b (q2 b hb).1), fun b hb => ⟨.inl (q2 b hb), fun e => ?_⟩⟩
      rcases (hkin b e).1 with h1 | h1
      · exact (q2 b hb).2 h1
      · have := h.Fl b (q2 b hb).1; omega
    · have e1 : j = s.pend.length := by omega
      subst e1
      have e2 : s.pend.length = vs.length := hW.len.symm
      have g1 : (s.pend ++ [(i, b)])[s.pend.length]'(by simp) = (i, b) := by simp
      have g2 : (vs ++ [vb])[s.pend.length]'(by simp [e2]) = vb := by simp [e2]
      dsimp only
      rw [g1, g2]
      exact ⟨hk.bs hb hbS, fun k hk' => ⟨.inr (.inl hk'), fun e => (hkin k e).2.1 hk'⟩⟩
  · rcases (hkin b e).1 with h1 | h1
    · exact (d3 b hb).2 h1
    · have := h.Fl b (d3 b hb).1; omega
  · simpa [k2.frozen (a := ⟨g, 0, none⟩) hgl hpg] using h.f0
  · simpa [k2.frozen (a := ⟨g, 1, none⟩) hgl hpg] using h.f1
  · simpa [k2.frozen (a := ⟨g, 2, none⟩) hgl hpg] using h.f2
  · simpa [k2.frozen (a := ⟨g, 3, none⟩) hgl hpg] using h.f3
  · simpa [k2.frozen (a := ⟨g, 4, none⟩) hgl hpg] using h.f4
  · simpa [k2.frozen (a := ⟨g, 5, none⟩) hgl hpg] using h.f5
  · rintro (e | e | e)
    · exact h.Fg e.1
    · exact (hbk g e).1 rfl
    · exact hvS g e rfl
  · rintro (e | e | e)
    · exact h.Fm e.1
    · exact (hbk m e).2.1 rfl
    · rcases (hkin m e).1 with h1 | h1
      · exact hpm h1
      · omega
  · rintro k (e | e | e)
    · have := h.Fl k e.1; simp; omega
    · have := (hbk k e).2.2; simpa using this
    · have := (hkin k e).2.2; simpa using this
  · intro x hx
    simp only [List.mem_append, List.mem_singleton] at hx
    rcases hx with hx | rfl
    · exact h.ok.pend x hx
    · exact ⟨hi, hl, hb.lt⟩

/-- The twin in the midst of a range: its blocks are new, and no iterator's. -/
def TwinAt (B N0 E D m n : Nat) (s : St) (ps : List (Nat × List Nat)) (U : World) : Prop :=
  ∃ p F, Dk U D m p F n { s with pend := ps } ∧ ∀ k, F k → B ≤ k ∧ (k < N0 ∨ (E ≤ k ∧ IsC U k))

theorem stands_twin {B N0 D0 E D m n : Nat} {s : St} (f : List PX → List (Nat × List Nat)) (hN : N0 ≤ D0) (hD : D < D0) (hm : m < D0) : Stands D0 E (fun pre U => TwinAt B N0 E D m n s (f pre) U) := by
  rintro pre A A' row ⟨p, F, hk, hF⟩ hg hm'
  have key : ∀ k, k < D0 ∨ (E ≤ k ∧ IsC A k) → row ≠ some k := by
    intro k h e
    rcases h with h | ⟨h, cs, t, fz, hc⟩
    · have := (hm' k e).1; omega
    · exact mine_ne hm' hc (.inr h) e.symm
  have wide : ∀ k, k < N0 ∨ (E ≤ k ∧ IsC A k) → k < D0 ∨ (E ≤ k ∧ IsC A k) := fun k h => h.imp (fun h => by omega) id
  refine ⟨p, F, hk.keeps (Keeps.of_grown (S := fun k => row = some k) hg (fun k e => e)) (key _ (.inl hD)) (key _ (.inl hm)) (fun k hk => key k (wide k (hF k hk).2)), fun k hk => ⟨(hF k hk).1, ?_⟩⟩
  rcases (hF k hk).2 with h | ⟨h, hc⟩
  · exact .inl h
  · exact .inr ⟨h, hc.same (hg.block k hc.lt (fun e => key k (.inr ⟨h, hc⟩) e.symm))⟩

/-- Rows of unlike elements lie apart. -/
theorem rows_apart {w : World} {b1 b2 e1 e2 s1 s2 n1 n2 : Nat} {v1 v2 : Value} {x1 x2 : List Value} (h1 : w.ownsRow b1 e1 s1 v1 n1 x1) (h2 : w.ownsRow b2 e2 s2 v2 n2 x2) (hne : e1 ≠ e2) : ∀ k, v1.ownBlock = some k → v2.ownBlock ≠ some k := by
  intro k h3 h4
  rcases h1.2 with ⟨rfl, _⟩ | ⟨g1, c1, cur1, rfl, _, hg1, _⟩
  · simp [Value.ownBlock] at h3
  · rcases h2.2 with ⟨rfl, _⟩ | ⟨g2, c2, cur2, rfl, _, hg2, _⟩
    · simp [Value.ownBlock] at h4
    · simp [Value.ownBlock] at h3 h4
      subst h3
      subst h4
      rw [hg1] at hg2
      simp at hg2
      exact hne hg2.2

theorem twin_round {w W w2 : World} {N0 D0 E V D m n : Nat} {p : Option Nat} {F : Nat → Prop} {s : St} {ps : List (Nat × List Nat)} {pv v2 xv : Value} {pvs : List Value} {xi : Nat} {xl : List Nat} {o : Obj}
    (hDk : Dk W D m p F n { s with pend := ps }) (hF : ∀ k, F k → w.heap.size ≤ k ∧ (k < N0 ∨ (E ≤ k ∧ IsC W k)))
    (hN : N0 ≤ D0) (hDE : D0 ≤ E) (hzW : E ≤ W.heap.size) (hD0 : D < N0) (hm0 : m < N0) (hDw : w.heap.size ≤ D) (hmw : w.heap.size ≤ m) (hVD : V ≠ D) (hwD : w.heap.size ≤ D0)
    (bV : Boxed W V 23 (.pointer (some ⟨D, 0, none⟩))) (hBw : Below w.heap.size w W)
    (c1 : W.cell? ⟨D, 1, none⟩ = some pv) (hWs : Ws 78 W p F pv ps pvs)
    (hX : W.ownsRow E 5 1 xv xl.length (cellsB xl)) (hxl : ∀ y ∈ xl, y < 256) (hx256 : xl.length = 256) (hxi : xi < n)
    (ho2 : w2.ownsRow 0 78 2 v2 (ps.length + 1) (cellsW ps pvs ++ [.int .i64 (xi : Int), xv])) (hg2 : (W.drew.alloc o).grownBy w2 pv.ownBlock) (hkin : Kin (W.drew.alloc o) pv v2) :
    Still D0 E W (w2.setCell ⟨D, 1, none⟩ v2) ∧ KeepS (fun k => k < D0 ∧ ¬ (w.heap.size ≤ k ∧ k < N0)) W (w2.setCell ⟨D, 1, none⟩ v2) ∧ Boxed (w2.setCell ⟨D, 1, none⟩ v2) V 23 (.pointer (some ⟨D, 0, none⟩)) ∧ TwinAt w.heap.size N0 E D m n s (ps ++ [(xi, xl)]) (w2.setCell ⟨D, 1, none⟩ v2) ∧ Below w.heap.size w (w2.setCell ⟨D, 1, none⟩ v2) := by
  have z2 := hg2.size
  have hsz : (W.drew.alloc o).heap.size = W.heap.size + 1 := by simp
  have hpo : ∀ k, pv.ownBlock = some k → p = some k := fun k hk => by rw [hWs.own] at hk; exact hk
  have hpF : ∀ k, p = some k → w.heap.size ≤ k ∧ (k < N0 ∨ (E ≤ k ∧ IsC W k)) := fun k hk => hF k (hWs.pF k hk)
  have hK : Keeps (fun k => p = some k) W w2 := ((Keeps.drew W).trans (Keeps.alloc W.drew _)).trans (Keeps.of_grown hg2 hpo)
  have hxlt := hX.lt
  have hxp : ∀ k, xv.ownBlock = some k → p ≠ some k := fun k hk e => rows_apart hX hWs.row (by decide) k hk (by rw [hWs.own]; exact e)
  have hpD : p ≠ some D := fun e => hDk.Fg (hWs.pF D e)
  have hko : ∀ k, v2.ownBlock = some k → (p = some k ∨ W.heap.size ≤ k) ∧ xv.ownBlock ≠ some k ∧ k < w2.heap.size := by
    intro k hk
    have hk2 := owns_lt' ho2 k hk
    rcases hkin with e | e
    · rw [e, hWs.own] at hk
      exact ⟨.inl hk, fun e2 => hxp k e2 hk, hk2⟩
    · rw [e] at hk
      simp at hk
      exact ⟨.inr (by omega), fun e2 => by have := (hxlt k e2).2; omega, hk2⟩
  have hBs : Bs w2 xv xl := hK.bs (Bs.of_owns hX hxl) hxp
  have hD := hDk.pushed2 c1 hWs hK (v' := v2) (vb := xv) (i := xi) (b := xl) ho2 hko hBs (fun k hk => by have := hxlt k hk; exact ⟨by omega, by omega, by omega⟩) hxi hx256
  have hKD : Keeps (fun k => p = some k ∨ k = D) W (w2.setCell ⟨D, 1, none⟩ v2) := (hK.mono (fun k hk => .inl hk)).trans (Keeps.setCell w2 (.inr rfl) _)
  have hsame : ∀ k, k < W.heap.size → p ≠ some k → k ≠ D → (w2.setCell ⟨D, 1, none⟩ v2).heap[k]? = W.heap[k]? := fun k hk h1 h2 => hKD.block k hk (fun e => e.elim h1 h2)
  have hkS : Keeps (fun k => k = D) w2 (w2.setCell ⟨D, 1, none⟩ v2) := Keeps.setCell (S := fun k => k = D) w2 rfl _
  refine ⟨⟨hKD.size, fun k h1 h2 => hsame k (by omega) (fun e => ?_) (by omega)⟩, ⟨hKD.size, fun k hk => hsame k (by have := hk.1; omega) (fun e => ?_) (fun e => hk.2 ⟨by omega, by omega⟩)⟩, ?_, ⟨_, _, hD, ?_⟩, ?_⟩
  · have := hpF k e
    rcases this.2 with h | h <;> omega
  · have := hpF k e
    rcases this.2 with h | ⟨h, _⟩
    · exact hk.2 ⟨this.1, h⟩
    · have := hk.1; omega
  · have hVl := bV.lt
    exact (hsame V hVl (fun e => bV.not_row (by decide) hWs.row (by rw [hWs.own]; exact e.symm)) hVD).trans bV
  · rintro k (⟨h1, h2⟩ | h1 | h1)
    · refine ⟨(hF k h1).1, ?_⟩
      rcases (hF k h1).2 with h | ⟨h, hc⟩
      · exact .inl h
      · exact .inr ⟨h, hc.same (hsame k hc.lt h2 (by omega))⟩
    · have hl := hxlt k h1
      exact ⟨by omega, .inr ⟨hl.1, (owns_isC hX k h1).same (hsame k hl.2 (hxp k h1) (by omega))⟩⟩
    · have hc : k ≠ D → IsC (w2.setCell ⟨D, 1, none⟩ v2) k := fun hne => (owns_isC ho2 k h1).same (hkS.block k (owns_lt' ho2 k h1) hne)
      rcases (hko k h1).1 with e | e
      · refine ⟨(hpF k e).1, ?_⟩
        rcases (hpF k e).2 with h | ⟨h, _⟩
        · exact .inl h
        · exact .inr ⟨h, hc (by omega)⟩
      · exact ⟨by omega, .inr ⟨by omega, hc (by omega)⟩⟩
  · refine ((hBw.drew.alloc hBw.size o).grown hg2 (by have := hBw.size; omega) (fun k hk => (hpF k (hpo k hk)).1)).setCell (p := ⟨D, 1, none⟩) hDw _

end Go.Proofs.Ytjcobealnjkkcaa
