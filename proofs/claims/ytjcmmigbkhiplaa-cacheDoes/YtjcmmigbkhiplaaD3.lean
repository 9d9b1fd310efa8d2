/- Stores into a disk's cells; contracts: settle, powerOff, Crash, operate, Arm, Restart. -/
import Derived.Test.YtjcmmigbkhiplaaD2
set_option linter.unusedSimpArgs false
set_option linter.unusedVariables false
namespace Go.Proofs.Ytjcmmigbkhiplaa
open Go.RowKit Go.Attic

theorem cell_set_other {w : World} {g o o' : Nat} {u v : Value} (h : w.cell? ⟨g, o', none⟩ = some v) (hne : o ≠ o') : (w.setCell ⟨g, o, none⟩ u).cell? ⟨g, o', none⟩ = some v := by
  rw [World.cell?_setCell_other _ _ _ _ (by intro e; injection e with e1 e2; omega)]
  exact h
theorem cell_set_same {w : World} {g o : Nat} {u v : Value} (h : w.cell? ⟨g, o, none⟩ = some v) : (w.setCell ⟨g, o, none⟩ u).cell? ⟨g, o, none⟩ = some u := by
  exact World.cell?_setCell_same _ _ _ h

theorem Ws.widen {e : TypeId} {w : World} {p : Option Nat} {F F' : Nat → Prop} {v : Value} {ps : List (Nat × List Nat)} {vs : List Value} (h : Ws e w p F v ps vs) (hF : ∀ k, F k → F' k) : Ws e w p F' v ps vs :=
  ⟨h.row, h.own, h.len, fun b hb => hF b (h.pF b hb), fun i hi hv => ⟨(h.bs i hi hv).1, fun b hb => ⟨hF b ((h.bs i hi hv).2 b hb).1, ((h.bs i hi hv).2 b hb).2⟩⟩⟩

theorem Dk.widen {w : World} {g m : Nat} {p : Option Nat} {F F' : Nat → Prop} {n : Nat} {s : St} (h : Dk w g m p F n s) (hF : ∀ k, F k → F' k) (hg : ¬ F' g) (hm : ¬ F' m) (hl : ∀ k, F' k → k < w.heap.size) : Dk w g m p F' n s := by
  obtain ⟨v, vs, b1, b2⟩ := h.c1
  obtain ⟨v3, d1, d2, d3⟩ := h.c3
  exact ⟨h.c0, ⟨v, vs, b1, b2.widen hF⟩, h.c2, ⟨v3, d1, d2, fun b hb => ⟨hF b (d3 b hb).1, (d3 b hb).2⟩⟩, h.c4, h.c5, h.f0, h.f1, h.f2, h.f3, h.f4, h.f5, h.ne, hg, hm, hl, h.ok⟩

theorem Dk.store2 {w : World} {g m : Nat} {p : Option Nat} {F : Nat → Prop} {n : Nat} {s : St} {l : Nat} (h : Dk w g m p F n s) (hl : l ≤ 9223372036854775807) : Dk (w.setCell ⟨g, 2, none⟩ (.int .i64 (l : Int))) g m p F n { s with left := l } := by
  obtain ⟨cap, a1, a2⟩ := h.c0
  obtain ⟨v, vs, b1, b2⟩ := h.c1
  obtain ⟨v3, d1, d2, d3⟩ := h.c3
  have hk : Keeps (fun k => k = g) w (w.setCell ⟨g, 2, none⟩ (.int .i64 (l : Int))) := Keeps.setCell (S := fun k => k = g) w rfl _
  have hm : ¬ (fun k => k = g) m := fun e => h.ne (by have e' : m = g := e; exact e'.symm)
  have hS : ∀ k, F k → ¬ (fun k => k = g) k := fun k hk e => h.Fg (by have e' : k = g := e; exact e' ▸ hk)
  exact ⟨⟨cap, cell_set_other a1 (by omega), hk.owns a2 (fun b hb => by cases hb; exact hm)⟩, ⟨v, vs, cell_set_other b1 (by omega), b2.keeps hk hS⟩, cell_set_same h.c2, ⟨v3, cell_set_other d1 (by omega), hk.bs d2 (fun b hb => hS b (d3 b hb).1), d3⟩, cell_set_other h.c4 (by omega), cell_set_other h.c5 (by omega),
    by simpa using h.f0, by simpa using h.f1, by simpa using h.f2, by simpa using h.f3, by simpa using h.f4, by simpa using h.f5,
    h.ne, h.Fg, h.Fm, fun k hk' => Nat.lt_of_lt_of_le (h.Fl k hk') hk.size, ⟨h.ok.len, h.ok.n1, h.ok.n2, h.ok.lt, h.ok.pend, hl, h.ok.picks⟩⟩

theorem Dk.store3 {w : World} {g m : Nat} {p : Option Nat} {F : Nat → Prop} {n : Nat} {s : St} {u : Value} {l : List Nat} (h : Dk w g m p F n s) (hu : Bs w u l) (hl : l.length ≤ 140737488355328) (hb : ∀ b, u.ownBlock = some b → F b ∧ p ≠ some b) : Dk (w.setCell ⟨g, 3, none⟩ u) g m p F n { s with picks := l } := by
  obtain ⟨cap, a1, a2⟩ := h.c0
  obtain ⟨v, vs, b1, b2⟩ := h.c1
  obtain ⟨v3, d1, d2, d3⟩ := h.c3
  have hk : Keeps (fun k => k = g) w (w.setCell ⟨g, 3, none⟩ u) := Keeps.setCell (S := fun k => k = g) w rfl _
  have hm : ¬ (fun k => k = g) m := fun e => h.ne (by have e' : m = g := e; exact e'.symm)
  have hS : ∀ k, F k → ¬ (fun k => k = g) k := fun k hk e => h.Fg (by have e' : k = g := e; exact e' ▸ hk)
  exact ⟨⟨cap, cell_set_other a1 (by omega), hk.owns a2 (fun b hb => by cases hb; exact hm)⟩, ⟨v, vs, cell_set_other b1 (by omega), b2.keeps hk hS⟩, cell_set_other h.c2 (by omega), ⟨u, cell_set_same d1, hk.bs hu (fun b hb' => hS b (hb b hb').1), hb⟩, cell_set_other h.c4 (by omega), cell_set_other h.c5 (by omega),
    by simpa using h.f0, by simpa using h.f1, by simpa using h.f2, by simpa using h.f3, by simpa using h.f4, by simpa using h.f5,
    h.ne, h.Fg, h.Fm, fun k hk' => Nat.lt_of_lt_of_le (h.Fl k hk') hk.size, ⟨h.ok.len, h.ok.n1, h.ok.n2, h.ok.lt, h.ok.pend, h.ok.left, hl⟩⟩

theorem Dk.store4 {w : World} {g m : Nat} {p : Option Nat} {F : Nat → Prop} {n : Nat} {s : St} {l : Nat} (h : Dk w g m p F n s)  : Dk (w.setCell ⟨g, 4, none⟩ (.int .i64 (l : Int))) g m p F n { s with ops := l } := by
  obtain ⟨cap, a1, a2⟩ := h.c0
  obtain ⟨v, vs, b1, b2⟩ := h.c1
  obtain ⟨v3, d1, d2, d3⟩ := h.c3
  have hk : Keeps (fun k => k = g) w (w.setCell ⟨g, 4, none⟩ (.int .i64 (l : Int))) := Keeps.setCell (S := fun k => k = g) w rfl _
  have hm : ¬ (fun k => k = g) m := fun e => h.ne (by have e' : m = g := e; exact e'.symm)
  have hS : ∀ k, F k → ¬ (fun k => k = g) k := fun k hk e => h.Fg (by have e' : k = g := e; exact e' ▸ hk)
  exact ⟨⟨cap, cell_set_other a1 (by omega), hk.owns a2 (fun b hb => by cases hb; exact hm)⟩, ⟨v, vs, cell_set_other b1 (by omega), b2.keeps hk hS⟩, cell_set_other h.c2 (by omega), ⟨v3, cell_set_other d1 (by omega), hk.bs d2 (fun b hb => hS b (d3 b hb).1), d3⟩, cell_set_same h.c4, cell_set_other h.c5 (by omega),
    by simpa using h.f0, by simpa using h.f1, by simpa using h.f2, by simpa using h.f3, by simpa using h.f4, by simpa using h.f5,
    h.ne, h.Fg, h.Fm, fun k hk' => Nat.lt_of_lt_of_le (h.Fl k hk') hk.size, ⟨h.ok.len, h.ok.n1, h.ok.n2, h.ok.lt, h.ok.pend, h.ok.left, h.ok.picks⟩⟩

theorem Dk.store5 {w : World} {g m : Nat} {p : Option Nat} {F : Nat → Prop} {n : Nat} {s : St} {b : Bool} (h : Dk w g m p F n s)  : Dk (w.setCell ⟨g, 5, none⟩ (.bool b)) g m p F n { s with on := b } := by
  obtain ⟨cap, a1, a2⟩ := h.c0
  obtain ⟨v, vs, b1, b2⟩ := h.c1
  obtain ⟨v3, d1, d2, d3⟩ := h.c3
  have hk : Keeps (fun k => k = g) w (w.setCell ⟨g, 5, none⟩ (.bool b)) := Keeps.setCell (S := fun k => k = g) w rfl _
  have hm : ¬ (fun k => k = g) m := fun e => h.ne (by have e' : m = g := e; exact e'.symm)
  have hS : ∀ k, F k → ¬ (fun k => k = g) k := fun k hk e => h.Fg (by have e' : k = g := e; exact e' ▸ hk)
  exact ⟨⟨cap, cell_set_other a1 (by omega), hk.owns a2 (fun b hb => by cases hb; exact hm)⟩, ⟨v, vs, cell_set_other b1 (by omega), b2.keeps hk hS⟩, cell_set_other h.c2 (by omega), ⟨v3, cell_set_other d1 (by omega), hk.bs d2 (fun b hb => hS b (d3 b hb).1), d3⟩, cell_set_other h.c4 (by omega), cell_set_same h.c5,
    by simpa using h.f0, by simpa using h.f1, by simpa using h.f2, by simpa using h.f3, by simpa using h.f4, by simpa using h.f5,
    h.ne, h.Fg, h.Fm, fun k hk' => Nat.lt_of_lt_of_le (h.Fl k hk') hk.size, ⟨h.ok.len, h.ok.n1, h.ok.n2, h.ok.lt, h.ok.pend, h.ok.left, h.ok.picks⟩⟩

/-- Nothing is pending any more. -/
theorem Dk.store1 {w : World} {g m : Nat} {p : Option Nat} {F : Nat → Prop} {n : Nat} {s : St} (h : Dk w g m p F n s) : Dk (w.setCell ⟨g, 1, none⟩ (.slice none 0 0)) g m none F n { s with pend := [] } := by
  obtain ⟨cap, a1, a2⟩ := h.c0
  obtain ⟨v, vs, b1, b2⟩ := h.c1
  obtain ⟨v3, d1, d2, d3⟩ := h.c3
  have hk : Keeps (fun k => k = g) w (w.setCell ⟨g, 1, none⟩ (.slice none 0 0)) := Keeps.setCell (S := fun k => k = g) w rfl _
  have hm : ¬ (fun k => k = g) m := fun e => h.ne (by have e' : m = g := e; exact e'.symm)
  have hS : ∀ k, F k → ¬ (fun k => k = g) k := fun k hk e => h.Fg (by have e' : k = g := e; exact e' ▸ hk)
  exact ⟨⟨cap, cell_set_other a1 (by omega), hk.owns a2 (fun b hb => by cases hb; exact hm)⟩, ⟨_, [], cell_set_same b1, ⟨World.ownsRow_nil _ _ _ _, rfl, rfl, by simp, by simp⟩⟩, cell_set_other h.c2 (by omega), ⟨v3, cell_set_other d1 (by omega), hk.bs d2 (fun b hb => hS b (d3 b hb).1), fun b hb => ⟨(d3 b hb).1, by simp⟩⟩, cell_set_other h.c4 (by omega), cell_set_other h.c5 (by omega),
    by simpa using h.f0, by simpa using h.f1, by simpa using h.f2, by simpa using h.f3, by simpa using h.f4, by simpa using h.f5,
    h.ne, h.Fg, h.Fm, fun k hk' => Nat.lt_of_lt_of_le (h.Fl k hk') hk.size, ⟨h.ok.len, h.ok.n1, h.ok.n2, h.ok.lt, by simp, h.ok.left, h.ok.picks⟩⟩

theorem cellsW_at {ps : List (Nat × List Nat)} {vs : List Value} (hl : vs.length = ps.length) (i : Nat) (hi : i < ps.length) :
    (cellsW ps vs)[i * 2]? = some (Value.int .i64 ((ps[i]).1 : Int)) ∧ (cellsW ps vs)[i * 2 + 1]? = some (vs[i]'(by omega)) := by
  induction ps generalizing vs i with
  | nil => simp at hi
  | cons x ps ih =>
    cases vs with
    | nil => simp at hl
    | cons v vs =>
      cases i with
      | zero => simp [cellsW]
      | succ i =>
        have := ih (vs := vs) (by simpa using hl) i (by simpa using hi)
        simp only [cellsW, List.zip_cons_cons, List.flatMap_cons, List.cons_append, List.nil_append, List.getElem_cons_succ] at this ⊢
        rw [show (i + 1) * 2 = i * 2 + 1 + 1 by omega]
        simpa using this

/-- The cells of a pending write. -/
theorem Ws.cells {e : TypeId} {w : World} {p : Option Nat} {F : Nat → Prop} {v : Value} {ps : List (Nat × List Nat)} {vs : List Value} (h : Ws e w p F v ps vs) (i : Nat) (hi : i < ps.length) :
    ∃ b cap, v = .slice (some ⟨b, 0, none⟩) ps.length cap ∧ p = some b ∧ w.cell? ⟨b, i * 2, none⟩ = some (.int .i64 ((ps[i]).1 : Int)) ∧ w.cell? ⟨b, i * 2 + 1, none⟩ = some (vs[i]'(by have := h.len; omega)) := by
  obtain ⟨ao, cap, rfl, _, hg⟩ := owns_form h.row
  obtain ⟨b, rfl, _⟩ := hg (by omega)
  obtain ⟨c1, c2⟩ := cellsW_at h.len i hi
  have e1 := h.row.cells (g := b) rfl _ _ c1
  have e2 := h.row.cells (g := b) rfl _ _ c2
  rw [Addr.add_lit, Nat.zero_add] at e1 e2
  exact ⟨b, cap, rfl, h.own.symm, e1, e2⟩


end Go.Proofs.Ytjcmmigbkhiplaa
