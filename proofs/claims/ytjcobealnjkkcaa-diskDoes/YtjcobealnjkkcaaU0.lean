/- What a script makes of a disk, and how little of it is pending; a disk that turns beside the other two. -/
import Derived.Test.YtjcobealnjkkcaaS4
set_option linter.unusedSimpArgs false
set_option linter.unusedVariables false
namespace Go.Proofs.Ytjcobealnjkkcaa
open Go.RowKit Go.Attic

/-- Little is pending, and little was done. -/
structure Lite (s : St) (k : Nat) : Prop where
  pend : s.pend.length ≤ k
  ops : s.ops ≤ k

theorem Lite.up {s : St} {k j : Nat} (h : Lite s k) (hj : k ≤ j) : Lite s j := ⟨Nat.le_trans h.pend hj, Nat.le_trans h.ops hj⟩

theorem lite_oper {s : St} {k : Nat} (hp : s.pend.length ≤ k + 1) (ho : s.ops ≤ k) : Lite (operS s).1 (k + 1) := by
  unfold operS
  split
  · exact ⟨hp, by simp; omega⟩
  · split
    · exact ⟨by simp [crashed], by simp [crashed]; omega⟩
    · exact ⟨hp, by simp; omega⟩

theorem Lite.write {s : St} {k : Nat} (h : Lite s k) (n : Nat) (i : Int) (b : List Nat) : Lite (writeS s n i b).1 (k + 1) := by
  simp only [writeS]
  split
  · exact h.up (by omega)
  · split
    · exact h.up (by omega)
    · split
      · exact h.up (by omega)
      · exact lite_oper (by have := h.pend; simp; omega) h.ops

theorem Lite.flush {s : St} {k : Nat} (h : Lite s k) : Lite (flushS s).1 (k + 1) := by
  have hq := lite_oper (s := s) (k := k) (by have := h.pend; omega) h.ops
  simp only [flushS]
  split
  · exact h.up (by omega)
  · split
    · exact hq
    · exact ⟨by simp, hq.ops⟩

theorem Lite.arm {s : St} {k : Nat} (h : Lite s k) (i : Int) (b : List Nat) : Lite (armS s i b).1 k := by
  simp only [armS]
  split
  · exact h
  · split
    · exact h
    · split
      · exact ⟨h.pend, h.ops⟩
      · exact ⟨h.pend, h.ops⟩

theorem Lite.does {s : St} {k : Nat} (h : Lite s k) (n : Nat) (x : OpX) : Lite (doesS s n x) (k + 1) := by
  simp only [doesS]
  split
  · exact h.write _ _ _
  · split
    · exact h.flush
    · split
      · exact (h.arm _ _).up (by omega)
      · split
        · simp only [crashS]
          split
          · exact h.up (by omega)
          · exact ⟨by simp [crashed], by have := h.ops; simp [crashed]; omega⟩
        · split
          · simp only [restartS]
            split
            · exact h.up (by omega)
            · exact ⟨by have := h.pend; simp; omega, by have := h.ops; simp; omega⟩
          · exact h.up (by omega)

def doK (l : List OpX) (n k : Nat) : St := (l.take k).foldl (fun s x => doesS s n x) (newS n)

theorem doK_zero (l : List OpX) (n : Nat) : doK l n 0 = newS n := by simp [doK]
theorem doK_succ (l : List OpX) (n k : Nat) (hk : k < l.length) : doK l n (k + 1) = doesS (doK l n k) n l[k] := by
  simp only [doK]
  rw [List.take_add_one, List.foldl_append, List.getElem?_eq_getElem hk]
  rfl
theorem doK_lite (l : List OpX) (n k : Nat) (hk : k ≤ l.length) : Lite (doK l n k) k := by
  induction k with
  | zero => rw [doK_zero]; exact ⟨Nat.le_refl _, Nat.le_refl _⟩
  | succ k ih => rw [doK_succ l n k (by omega)]; exact (ih (by omega)).does _ _

/-- Both disks, whatever came before. -/
def Pair (W : World) (n : Nat) (s : St) (g m gr : Nat) (w : World) : Prop := ∃ Z S0, Both Z S0 W n s g m gr w

theorem Two.re {Z W w : World} {S0 : Nat → Prop} {n : Nat} {sd sr : St} {g m gr : Nat} {p q pr : Option Nat} {F Fr : Nat → Prop} (h : Two Z S0 W w n sd sr g m gr p q pr F Fr) : Two w (fun k => Own g m F k ∨ OwnR gr Fr k) W w n sd sr g m gr p q pr F Fr :=
  ⟨h.d, h.r, h.dW, h.rW, h.ap, h.bel, h.bel.size, Keeps.refl _ _, fun k e => .inl (.inl e), fun k e => .inl (.inr e)⟩

theorem Two.pair {Z W w : World} {S0 : Nat → Prop} {n : Nat} {s : St} {g m gr : Nat} {p q pr : Option Nat} {F Fr : Nat → Prop} (h : Two Z S0 W w n s s g m gr p q pr F Fr) : Pair W n s g m gr w := ⟨_, _, _, _, _, _, _, h⟩

/-- A third disk beside them. -/
structure Third (W w : World) (n : Nat) (so : St) (g m : Nat) (p : Option Nat) (F : Nat → Prop) (g' m' gr : Nat) (F' Fr : Nat → Prop) : Prop where
  d : Dk w g m p F n so
  ap : ∀ k, Own g m F k → W.heap.size ≤ k ∧ ¬ Own g' m' F' k ∧ ¬ OwnR gr Fr k

/-- A twin has come. -/
theorem Two.cloned {Z W w w1 : World} {S0 : Nat → Prop} {n : Nat} {s : St} {g m gr g' m' : Nat} {p q pr p' : Option Nat} {F Fr F' : Nat → Prop} (h : Two Z S0 W w n s s g m gr p q pr F Fr)
    (hd : Dk w1 g' m' p' F' n s) (hn : ∀ k, Own g' m' F' k → w.heap.size ≤ k) (hb : Below w.heap.size w w1) :
    Two w1 (fun k => Own g' m' F' k ∨ OwnR gr Fr k) W w1 n s s g' m' gr p' q pr F' Fr ∧ Third W w1 n s g m p F g' m' gr F' Fr := by
  have hz := h.bel.size
  have hdl := h.d.ownLt
  have hrl := h.r.ownLt
  refine ⟨⟨hd, h.r.mono hb, fun k e => by have := hn k e; omega, h.rW, fun k e e' => by have := hn k e; have := hrl k e'; omega, h.bel.trans (hb.mono hz), by have := hb.size; omega, Keeps.refl _ _, fun k e => .inl (.inl e), fun k e => .inl (.inr e)⟩, h.d.mono hb, fun k e => ⟨h.dW k e, fun e' => by have := hn k e'; have := hdl k e; omega, h.ap k e⟩⟩

/-- The third one turns. -/
theorem Third.turn {Z W w w' : World} {S0 : Nat → Prop} {n : Nat} {s so so' : St} {g m gr g' m' : Nat} {p q pr p' : Option Nat} {F Fr F' : Nat → Prop} (h3 : Third W w n so g m p F g' m' gr F' Fr) (h : Two Z S0 W w n s s g' m' gr p' q pr F' Fr) (ht : Turn w g m F n so' w') :
    ∃ p1 F1, Third W w' n so' g m p1 F1 g' m' gr F' Fr ∧ Two w' (fun k => Own g' m' F' k ∨ OwnR gr Fr k) W w' n s s g' m' gr p' q pr F' Fr := by
  obtain ⟨p1, F1, d1, k1, f1⟩ := ht
  have hz := h.bel.size
  have hdl := h.d.ownLt
  have hrl := h.r.ownLt
  have hr := h.r.keeps k1 (fun e => (h3.ap _ e).2.2 (.inl rfl)) (fun k hk e => (h3.ap _ e).2.2 (.inr hk))
  have hd := h.d.keeps k1 (fun e => (h3.ap _ e).2.1 (.inl rfl)) (fun e => (h3.ap _ e).2.1 (.inr (.inl rfl))) (fun k hk e => (h3.ap _ e).2.1 (.inr (.inr hk)))
  have hb := h.bel.trans (k1.below (fun k e => (h3.ap k e).1) hz)
  refine ⟨p1, F1, ⟨d1, ?_⟩, ⟨hd, hr, h.dW, h.rW, h.ap, hb, hb.size, Keeps.refl _ _, fun k e => .inl (.inl e), fun k e => .inl (.inr e)⟩⟩
  rintro k (e | e | e)
  · exact h3.ap k (.inl e)
  · exact h3.ap k (.inr (.inl e))
  · rcases f1 k e with e | e
    · exact h3.ap k (.inr (.inr e))
    · exact ⟨by omega, fun e' => by have := hdl k e'; omega, fun e' => by have := hrl k e'; omega⟩

theorem Third.mono {W w w' : World} {n : Nat} {so : St} {g m gr g' m' : Nat} {p : Option Nat} {F Fr F' : Nat → Prop} (h : Third W w n so g m p F g' m' gr F' Fr) (hb : Below w.heap.size w w') : Third W w' n so g m p F g' m' gr F' Fr := ⟨h.d.mono hb, h.ap⟩

theorem Bs.one (w : World) (e : TypeId) (x : Nat) (hx : x < 256) : Bs (w.alloc (.cells #[.int .u8 (x : Int)] e)) (.slice (some ⟨w.heap.size, 0, none⟩) 1 1) [x] := by
  refine ⟨some ⟨w.heap.size, 0, Option.none⟩, 1, rfl, by simp, by simp, by simp [hx], fun _ => ⟨w.heap.size, 0, rfl, fun i hi => ?_⟩⟩
  match i, hi with
  | 0, _ => simp

end Go.Proofs.Ytjcobealnjkkcaa
