/- Nine rows of bytes that a law keeps (Wants). -/
import Derived.Test.YtjcmmigbkhiplaaCi
set_option linter.unusedSimpArgs false
set_option linter.unusedVariables false
namespace Go.Proofs.Ytjcmmigbkhiplaa
open Go.RowKit Go.Attic

theorem owns_set {w : World} {base : Nat} {n cap g : Nat} {l : List Nat} (h : w.ownsRow base 5 1 (.slice (some ⟨g, 0, none⟩) n cap) n (cellsB l)) (i x : Nat) :
    (w.setCell ⟨g, i, none⟩ (.int .u8 (x : Int))).ownsRow base 5 1 (.slice (some ⟨g, 0, none⟩) n cap) n (cellsB (l.set i x)) := by
  have := (h.stored i (.int .u8 (x : Int))).1
  rw [show cellsB (l.set i x) = (cellsB l).set i (.int .u8 (x : Int)) by simp only [cellsB, List.map_set]]
  exact this

/-- The first n of nine rows of bytes, which the block T names. -/
structure Wants (w : World) (T : Nat) (R : Nat → Nat) (W : Nat → List Nat) (n : Nat) : Prop where
  c : ∀ j, j < n → w.cell? ⟨T, j, none⟩ = some (.slice (some ⟨R j, 0, none⟩) 256 256)
  row : ∀ j, j < n → w.ownsRow 0 5 1 (.slice (some ⟨R j, 0, none⟩) 256 256) 256 (cellsB (W j))
  len : ∀ j, j < n → (W j).length = 256 ∧ ∀ y ∈ W j, y < 256
  ne : ∀ j, j < n → R j ≠ T ∧ ∀ i, i < n → i ≠ j → R i ≠ R j

theorem Wants.lt {w : World} {T : Nat} {R : Nat → Nat} {W : Nat → List Nat} {n : Nat} (h : Wants w T R W n) (j : Nat) (hj : j < n) : R j < w.heap.size := owns_lt' (h.row j hj) _ rfl
theorem Wants.keeps {S : Nat → Prop} {w w' : World} {T : Nat} {R : Nat → Nat} {W : Nat → List Nat} {n : Nat} (h : Wants w T R W n) (hk : Keeps S w w') (hT : ¬ S T) (hR : ∀ j, j < n → ¬ S (R j)) : Wants w' T R W n :=
  ⟨fun j hj => hk.cell (h.c j hj) hT, fun j hj => hk.owns (h.row j hj) (fun b hb => by cases hb; exact hR j hj), h.len, h.ne⟩
theorem Wants.bs {w : World} {T : Nat} {R : Nat → Nat} {W : Nat → List Nat} {n : Nat} (h : Wants w T R W n) (j : Nat) (hj : j < n) : Bs w (.slice (some ⟨R j, 0, none⟩) 256 256) (W j) :=
  Bs.of_owns (h.row j hj) (h.len j hj).2

/-- One more. -/
theorem Wants.more {w w' : World} {T r i : Nat} {R : Nat → Nat} {V : Nat → List Nat} (h : Wants w T R V i) (hk : Keeps (fun k => k = T) w w') (hRw : ∀ j, j < i → R j < w.heap.size) (hr : w.heap.size ≤ r) (hT : T < w.heap.size) (hold : ∀ j, j < i → w'.cell? ⟨T, j, none⟩ = w.cell? ⟨T, j, none⟩)
    (hc : w'.cell? ⟨T, i, none⟩ = some (.slice (some ⟨r, 0, none⟩) 256 256)) (ho : w'.ownsRow 0 5 1 (.slice (some ⟨r, 0, none⟩) 256 256) 256 (cellsB (V i))) (hl : (V i).length = 256 ∧ ∀ y ∈ V i, y < 256) : Wants w' T (fun j => if j = i then r else R j) V (i + 1) := by
  refine ⟨fun j hj => ?_, fun j hj => ?_, fun j hj => ?_, fun j hj => ⟨?_, fun u hu hne => ?_⟩⟩
  · by_cases e : j = i
    · subst e; simp only [if_pos rfl]; exact hc
    · simp only [if_neg e]
      rw [hold j (by omega)]; exact h.c j (by omega)
  · by_cases e : j = i
    · subst e; simp only [if_pos rfl]; exact ho
    · simp only [if_neg e]
      exact hk.owns (h.row j (by omega)) (fun b hb => by cases hb; exact fun e2 => (h.ne j (by omega)).1 e2)
  · by_cases e : j = i
    · subst e; exact hl
    · exact h.len j (by omega)
  · by_cases e : j = i
    · simp only [if_pos e]; omega
    · simp only [if_neg e]; exact (h.ne j (by omega)).1
  · by_cases e : j = i
    · simp only [if_pos e]
      rw [if_neg (by omega)]
      have := hRw u (by omega); omega
    · simp only [if_neg e]
      by_cases e2 : u = i
      · rw [if_pos e2]; have := hRw j (by omega); omega
      · rw [if_neg e2]; exact (h.ne j (by omega)).2 u (by omega) hne

/-- Bytes are copied into one. -/
theorem Wants.copied {w w' : World} {T i off : Nat} {R : Nat → Nat} {W : Nat → List Nat} {b : List Nat} (h : Wants w T R W 9) (hi : i < 9) (hf : off + b.length ≤ 256) (hb : ∀ y ∈ b, y < 256) (hk : Keeps (fun k => k = R i) w w')
    (ho : w'.ownsRow 0 5 1 (.slice (some ⟨R i, 0, none⟩) 256 256) 256 (splice (cellsB (W i)) off (cellsB b))) : Wants w' T R (upW W i off b) 9 := by
  rw [cellsB_splice] at ho
  refine ⟨fun j hj => hk.cell (h.c j hj) (fun e => (h.ne i hi).1 (by have e' : T = R i := e; exact e'.symm)), fun j hj => ?_, fun j hj => ?_, h.ne⟩
  · unfold upW
    by_cases e : j = i
    · subst e; rw [if_pos rfl]; exact ho
    · rw [if_neg e]
      exact hk.owns (h.row j hj) (fun b hb => by cases hb; exact (h.ne i hi).2 j hj e)
  · unfold upW
    by_cases e : j = i
    · subst e
      rw [if_pos rfl]
      exact ⟨by rw [length_splice _ _ _ (by rw [(h.len j hj).1]; exact hf)]; exact (h.len j hj).1, splice_lt (h.len j hj).2 hb⟩
    · rw [if_neg e]; exact h.len j hj

def vI (i : Nat) : List Nat := (List.replicate 256 0).set 0 i
theorem vI_ok (i : Nat) (hi : i < 256) : (vI i).length = 256 ∧ ∀ y ∈ vI i, y < 256 := by
  refine ⟨by unfold vI; rw [List.length_set, List.length_replicate], fun y hy => ?_⟩
  unfold vI at hy
  rcases List.mem_or_eq_of_mem_set hy with h | h
  · rw [List.eq_of_mem_replicate h]; omega
  · omega

/-- What stands while the nine blocks are written. -/
def I1 (w wr : World) (g T i : Nat) : Prop :=
  ∃ m p F s R, Dk wr g m p F 9 s ∧ Calm s i ∧ (∀ j, j < i → readL s j = vI j) ∧ Wants wr T R vI i ∧ (∀ k, Own g m F k → w.heap.size ≤ k ∧ k ≠ T ∧ ∀ j, j < i → k ≠ R j) ∧ (∀ j, j < 9 → wr.frozen? ⟨T, j, none⟩ = false ∧ ∃ u, wr.cell? ⟨T, j, none⟩ = some u) ∧
    T < wr.heap.size ∧ w.heap.size ≤ T ∧ (∀ j, j < i → w.heap.size ≤ R j) ∧ Below w.heap.size w wr

/-- What stands between two operations. -/
def IsI (w wr : World) (c g T room k : Nat) : Prop :=
  ∃ S A s W R, CD wr c g S room 9 k s A ∧ Calm s (300 * (k + 1)) ∧ Inv s A W ∧ Wants wr T R W 9 ∧ (¬ S T ∧ ∀ j, j < 9 → ¬ S (R j)) ∧ T < wr.heap.size ∧ (∀ b, S b → w.heap.size ≤ b) ∧ w.heap.size ≤ T ∧ (∀ j, j < 9 → w.heap.size ≤ R j) ∧ Below w.heap.size w wr

theorem IsI.mono {w wr w' : World} {c g T room k : Nat} (h : IsI w wr c g T room k) (hb : Below wr.heap.size wr w') : IsI w w' c g T room k := by
  obtain ⟨S, A, s, W, R, h1, h2, h3, h4, h5, h6, h7, h8, h9, h10⟩ := h
  exact ⟨S, A, s, W, R, h1.mono hb, h2, h3, h4.keeps (S := fun _ => False) (Keeps.of_below hb) id (fun _ _ => id), h5, Nat.lt_of_lt_of_le h6 hb.size, h7, h8, h9, h10.trans (hb.mono h10.size)⟩

/-- What a call of the cache leaves between two operations: the world behind it. -/
theorem IsI.turn {w wr wb w' : World} {c g T room k : Nat} {S S' : Nat → Prop} {A' : List En} {s' : St} {W : Nat → List Nat} {R : Nat → Nat} (kb : Below wr.heap.size wr wb) (hB : Below w.heap.size w wr) (hSw : ∀ b, S b → w.heap.size ≤ b)
    (hTS : ¬ S T ∧ ∀ j, j < 9 → ¬ S (R j)) (hTl : T < wr.heap.size) (hRl : ∀ j, j < 9 → R j < wr.heap.size) (hwT : w.heap.size ≤ T) (hwR : ∀ j, j < 9 → w.heap.size ≤ R j)
    (hM : Wants wb T R W 9) (hT : CT wb c g S room 9 (k + 1) s' A' w' S') (hc : Calm s' (300 * (k + 1 + 1))) (hI : Inv s' A' W) : IsI w w' c g T room (k + 1) := by
  obtain ⟨h1, h2, h3⟩ := hT
  have hz := kb.size
  have hzw := hB.size
  have hno : ∀ x, x < wr.heap.size → ¬ S x → ¬ S' x := fun x hx hn h => by rcases h3 x h with h | h; exact hn h; omega
  refine ⟨S', A', s', W, R, h1, hc, hI, hM.keeps h2 hTS.1 hTS.2, ⟨hno T hTl hTS.1, fun j hj => hno _ (hRl j hj) (hTS.2 j hj)⟩, by have := h2.size; omega, fun b hb => ?_, hwT, hwR, ?_⟩
  · rcases h3 b hb with h | h
    · exact hSw b h
    · omega
  · exact (hB.trans (kb.mono hzw)).trans (h2.below hSw (by omega))

theorem Calm.more {s : St} {k k' : Nat} (h : Calm s k) (hk : k ≤ k') : Calm s k' := ⟨h.on, h.left, Nat.le_trans h.pend hk, Nat.le_trans h.ops hk⟩

end Go.Proofs.Ytjcmmigbkhiplaa
