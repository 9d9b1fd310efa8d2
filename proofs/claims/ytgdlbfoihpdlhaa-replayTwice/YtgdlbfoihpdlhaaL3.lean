/- Contracts: slices.Clone of records, All. -/
import Derived.Test.YtgdlbfoihpdlhaaL1
import Derived.Maps.AppendAt
import Derived.Maps.OwnIn
set_option linter.unusedSimpArgs false
set_option linter.unusedVariables false
namespace Go.Proofs.Ytgdlbfoihpdlhaa
open Go.RowKit Go.Attic Go.Shelf
theorem bs_lt2 {w : World} {v : Value} {l : List Nat} (h : Bs w v l) (hl : 0 < l.length) : ∀ b, v.ownBlock = some b → b < w.heap.size := by
  obtain ⟨ao, cap, rfl, _, _, _, hc⟩ := h
  obtain ⟨b, off, rfl, hcell⟩ := hc hl
  intro b' e
  have := World.block_lt_of_cell? w _ (hcell 0 hl)
  simp [Value.ownBlock] at e
  simp at this
  omega
theorem keepS_bs {K : Nat → Prop} {A B : World} (h : KeepS K A B) {v : Value} {l : List Nat} (hb : Bs A v l) (hv : 0 < l.length → ∀ b, v.ownBlock = some b → K b) : Bs B v l := by
  obtain ⟨ao, cap, rfl, h1, h2, h3, h4⟩ := hb
  refine ⟨ao, cap, rfl, h1, h2, h3, fun hp => ?_⟩
  obtain ⟨b, off, rfl, hc⟩ := h4 hp
  exact ⟨b, off, rfl, fun i hi => (World.cell?_of_block (h.same b (hv hp b rfl))).trans (hc i hi)⟩


theorem isAgg22 (w : World) : (isAgg 22).run Try.prog w = .ok false w := by
  simp [isAgg, run_underlying Try.underlying22]

theorem stands_keeps {β : Type} {D E : Nat} (S : Nat → Prop) (V : World) (hD : V.heap.size ≤ D) : Stands D E (fun (_ : β) U => Keeps S V U) :=
  fun s A B row hs hg hm => ⟨hg.os.trans hs.os, hg.tape.trans hs.tape, hg.output.trans hs.output, Nat.le_trans hs.size hg.size, fun k hk hn =>
    (hg.block k (by have := hs.size; omega) (fun e => by have := (hm k e.symm).1; omega)).trans (hs.block k hk hn)⟩
theorem keeps_grown {A B : World} {row : Option Nat} (h : A.grownBy B row) : Keeps (fun k => row = some k) A B := Keeps.of_grown h (fun k e => e)

theorem below_drew' (w : World) : Below w.heap.size w w.drew := ⟨rfl, rfl, rfl, Nat.le_refl _, fun _ _ => rfl⟩

theorem cell_five_at (w : World) (o : Obj) (x0 x1 x2 x3 x4 : Value) (t : TypeId) : ∀ j u, [x0, x1, x2, x3, x4][j]? = some u → ((w.alloc o).alloc (.cells #[x0, x1, x2, x3, x4] t)).cell? ((⟨w.heap.size + 1, 0, none⟩ : Addr).add j) = some u := by
  have := cell_five_new (w.alloc o) x0 x1 x2 x3 x4 t
  simpa using this

theorem keeps_put (w : World) (g : Nat) (o : Obj) : Keeps (fun k => k = g) w (w.putObj g o) := Keeps.of_grown (grownBy_putObj' w g o) (fun k e => by injection e with e; exact e.symm)

theorem Rw.narrow {w : World} {p : Option Nat} {F : Nat → Prop} {v : Value} {rs : List Rc} {vs : List Value} (h : Rw w p F v rs vs) : Rw w p (fun k => F k ∧ k < w.heap.size) v rs vs := by
  refine ⟨h.row, h.own, h.len, fun b hb => ⟨h.pF b hb, owns_lt' h.row b (h.own.trans hb)⟩, fun i hi hv => ⟨(h.bs i hi hv).1, fun hp b hb => ⟨⟨((h.bs i hi hv).2 hp b hb).1, ?_⟩, ((h.bs i hi hv).2 hp b hb).2⟩⟩⟩
  obtain ⟨ao, cap, e, _, _, _, hc⟩ := (h.bs i hi hv).1
  obtain ⟨b', off, rfl, hc0⟩ := hc hp
  rw [e] at hb
  injection hb with hb
  have := World.block_lt_of_cell? w _ (hc0 0 hp)
  rw [← hb]
  exact this

theorem owns_slice {w : World} {base : Nat} {e : TypeId} {size : Nat} {v : Value} {n : Nat} {xs : List Value} (h : w.ownsRow base e size v n xs) : ∃ ao cap, v = .slice ao n cap := by
  rcases h.2 with ⟨rfl, rfl⟩ | ⟨g, cap, cur, rfl, _⟩
  · exact ⟨_, _, rfl⟩
  · exact ⟨_, _, rfl⟩

theorem take_grow {α : Type} {p : List α} {m : Nat} (x : α) (h : p.length < m) : (p ++ [x]).take m = p.take m ++ [x] := by
  rw [List.take_of_length_le (by simp; omega), List.take_of_length_le (by omega)]
theorem take_same {α : Type} {p : List α} {m : Nat} (x : α) (h : m ≤ p.length) : (p ++ [x]).take m = p.take m := by
  rw [List.take_append_of_le_length h]
theorem take_pre {α : Type} {p q : List α} {m : Nat} (h : p <+: q) (hm : m < p.length) : p.take m = q.take m := by
  obtain ⟨t, rfl⟩ := h
  rw [List.take_append_of_le_length (by omega)]

theorem run_eql_func_nil {P : Program} (w : World) {t : TypeId} {ps rs : Array TypeId} {vr : Bool} (f : Fn) (first cap : Array Value) (ht : P.underlying t = some (.func ps rs vr)) :
    (binOp .eql t (.func f first cap) .nilFunc).run P w = .ok (.bool false) w := by
  have h : ∀ d : Nat, (Op.equalIn (d + 1) t (.func f first cap) .nilFunc).run P w = .ok false w := fun d => by
    simp [Op.equalIn, run_underlying ht]
  simp only [binOp]
  simp [Op.equal, Op.maxDepth, h 9999]

/-- A record more, cloned: behind the clone, the literal of one and the append. -/
theorem Rw.push {B : Nat} {w w1 w2 : World} {p : Option Nat} {v v' u : Value} {rs : List Rc} {vs : List Value} {r : Rc} {o : Obj} (h : Rw w p (fun k => B ≤ k) v rs vs) (hB : B ≤ w.heap.size) (hb : Below w.heap.size w w1) (hx : ∀ x ∈ r.l, x < 256)
    (hu : w1.ownsRow w.heap.size 5 1 u r.l.length (cellsB r.l)) (ho : w2.ownsRow 0 48 5 v' (rs.length + 1) (cellsR rs vs ++ r.cells u)) (hg : (w1.alloc o).grownBy w2 v.ownBlock) (hkin : v'.ownBlock = v.ownBlock ∨ v'.ownBlock = some (w1.heap.size + 1)) :
    Rw w2 v'.ownBlock (fun k => B ≤ k) v' (rs ++ [r]) (vs ++ [u]) := by
  have hz := hb.size
  have hA : Below w.heap.size w (w1.alloc o) := hb.alloc (by omega) o
  have hzA : (w1.alloc o).heap.size = w1.heap.size + 1 := by simp
  have hp : ∀ k, p = some k → k < w.heap.size := fun k hk => owns_lt' h.row k (h.own.trans hk)
  have hN := (h.mono hA).narrow
  have hkp : Keeps (fun k => p = some k) (w1.alloc o) w2 := Keeps.of_grown hg (fun k e => by rw [← h.own]; exact e)
  have hub := Bs.of_owns hu hx
  refine (Rw.snoc hN (fun k hk => hk.2) hkp ho ?_ (keeps_bs hkp (hub.alloc o) ?_) ?_).widen ?_
  · intro k hk
    rcases hkin with e | e
    · exact .inl (by rw [← h.own, ← e]; exact hk)
    · rw [e] at hk; injection hk with hk; exact .inr (by omega)
  · intro _ k hk e
    have := hp k e
    have := owns_lt hu k hk
    omega
  · intro _ k hk e
    have h1 := owns_lt hu k hk
    have h2 := owns_lt' hu k hk
    rcases hkin with e2 | e2
    · have := hp k (by rw [← h.own, ← e2]; exact e); omega
    · rw [e2] at e; injection e with e; omega
  · intro k hk
    rcases hk with hk | hk | hk
    · exact hk.1
    · rcases hkin with e2 | e2
      · exact h.pF k (by rw [← h.own, ← e2]; exact hk)
      · rw [e2] at hk; injection hk with hk; omega
    · have := owns_lt hu k hk; omega


end Go.Proofs.Ytgdlbfoihpdlhaa
