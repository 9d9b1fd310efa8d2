/- Bytes of a constant string: the mark behind their row, and the append to a row that is full. Nothing here speaks of one program. -/
import Derived.Test.YtfjkmgfjlckmlaaBase
import Derived.Lib.SlBytesConst
import Derived.Laws.IdiomStrings
set_option linter.unusedVariables false
namespace Go.Attic
open Go.RowKit

theorem heap_freeze_other (w : World) (a : Addr) (n k : Nat) (h : k ≠ a.block) : (w.freeze a n).heap[k]? = w.heap[k]? := by
  unfold World.freeze
  split
  · rfl
  · simp [Array.getElem?_modify, Ne.symm h]

theorem heap_freeze_size (w : World) (a : Addr) (n : Nat) : (w.freeze a n).heap.size = w.heap.size := by
  unfold World.freeze
  split
  · rfl
  · simp

theorem cell_freeze (w : World) (a : Addr) (n : Nat) (p : Addr) : (w.freeze a n).cell? p = w.cell? p := by
  by_cases h : p.block = a.block
  · unfold World.freeze
    split
    · rfl
    · unfold World.cell?
      simp only [Array.getElem?_modify, h]
      cases hx : w.heap[a.block]? with
      | none => simp
      | some o => cases o <;> simp
  · exact World.cell?_of_block (heap_freeze_other w a n p.block h)

theorem Keeps.freeze (w : World) (a : Addr) (n : Nat) : Keeps (fun k => k = a.block) w (w.freeze a n) := by
  refine ⟨?_, ?_, ?_, by rw [heap_freeze_size]; exact Nat.le_refl _, fun k _ h => heap_freeze_other w a n k h⟩
  all_goals (unfold World.freeze; split <;> rfl)

theorem Bs.freeze {w : World} {v : Value} {l : List Nat} (h : Bs w v l) (a : Addr) (n : Nat) : Bs (w.freeze a n) v l := by
  obtain ⟨ao, cap, hv, hl, hnn, hx, hc⟩ := h
  refine ⟨ao, cap, hv, hl, hnn, hx, fun hp => ?_⟩
  obtain ⟨b, off, ha, hcc⟩ := hc hp
  exact ⟨b, off, ha, fun i hi => by rw [cell_freeze]; exact hcc i hi⟩

/-- The mark that '[]byte' of a constant gets, wherever its row lies. -/
theorem run_convert_mark {P : Program} {W : World} {g : Nat} {C : Array Value} (t e : TypeId) (n c : Nat) (ht : P.underlying t = some (.slice e)) (he : P.underlying e = some (.int .u8)) (h : W.heap[g]? = some (.cells C e (0, 0))) :
    (convert t t (.slice (some ⟨g, 0, none⟩) n c)).run P W = .ok (.slice (some ⟨g, 0, none⟩) n c) (W.freeze ⟨g, C.size, none⟩ 1) := by
  have hsh : W.shape? g = some (e, C.size) := by
    unfold World.shape?
    rw [h]
  simp [convert, run_underlying ht, run_underlying he, markStringish, hsh]

/-- A row of bytes, unmarked, as it was laid. -/
def RowAt (W : World) (g : Nat) (e : TypeId) (C : Array Value) : Prop := W.heap[g]? = some (.cells C e (0, 0))
theorem RowAt.new (w : World) (e : TypeId) (C : Array Value) : RowAt (w.alloc (.cells C e)) w.heap.size e C := by
  show (w.heap.push (.cells C e))[w.heap.size]? = _
  simp
theorem RowAt.mono {w w' : World} {g : Nat} {e : TypeId} {C : Array Value} (h : RowAt w g e C) (hb : Below w.heap.size w w') : RowAt w' g e C := by
  unfold RowAt at *
  rw [hb.block g (Array.getElem?_eq_some_iff.1 h).1]
  exact h
theorem RowAt.bs {w : World} {g : Nat} {e : TypeId} {C : Array Value} {l : List Nat} {n : Nat} (h : RowAt w g e C) (hn : n = l.length) (hC : C.toList = cellsB l) (hx : ∀ x ∈ l, x < 256) : Bs w (.slice (some ⟨g, 0, none⟩) n n) l := by
  subst hn
  refine ⟨_, _, rfl, Nat.le_refl _, by simp, hx, fun _ => ⟨g, 0, rfl, fun i hi => ?_⟩⟩
  have h2 : C[i]? = some (.int .u8 ((l.getD i 0 : Nat) : Int)) := by
    rw [← Array.getElem?_toList, hC]
    simp [cellsB, List.getD, hi]
  rw [Nat.zero_add]
  unfold RowAt at h
  simp only [World.cell?, h]
  exact h2

/-- append to bytes that fill their row: a new row, nothing else turns. -/
theorem wpList_append_full {P : Program} (w : World) {ops : Array Oper} {rest : List Oper} {o : Oper} {a : Act} {Q : Exit → Act → World → Prop}
    (hg : o.guard = Option.none) (s x : Operand) (t : TypeId) (hop : o.op = Op.call { callee := Callee.builtin Builtin.append, args := #[s, x], argTypes := #[t, t] })
    (base : Nat) (e : TypeId) (i : TypeInfo) (z : Value) (h1 : P.underlying t = some (.slice e)) (h2 : P.info? e = some i) (h3 : i.zero = some z) (h4 : i.size = 1) (h5 : i.bytes = 1) (h6 : z.cells.size = 1)
    (ad : Addr) (n : Nat) (xs : List Nat) (hs : a.eval s = .slice (some ad) n n) (hown : Bs w (.slice (some ad) n n) xs) (vx : Value) (l : List Nat) (hx : a.eval x = vx) (hb : Bs w vx l) (h0 : 0 < l.length)
    (b1 : n + l.length ≤ 140737488355328) (b2 : base ≤ w.heap.size)
    (hK : ∀ v' w', w'.ownsRow base e 1 v' (n + l.length) (cellsB (xs ++ l)) → Below w.heap.size w w' → wpList P ops Q rest (a.put o.dst v') w') :
    wpList P ops Q (o :: rest) a w := by
  have hb' := hb
  have hnx := hown.len
  have hcx := hown.cells ad rfl
  obtain ⟨ao, cap, rfl, hl, hn, hlt, hc⟩ := hb
  obtain ⟨b, off, rfl, _⟩ := hc h0
  have hcl := hb'.cells ⟨b, off, Option.none⟩ rfl
  have hr := run_append_grow (P := P) w t o.type e i z h1 h2 h3 ad n n (cellsB xs) (by rw [cellsB_length, h4]; omega) hcx ⟨b, off, Option.none⟩ l.length cap (cellsB l) (by rw [cellsB_length, h4]; omega) hcl (by omega) (by omega) (growslice_fits (by omega) (by rw [h5]; omega))
  refine wpList_plain hg fun _ hK' => ?_
  unfold Oper.wp execOp
  simp only [hop, resolve, invoke, builtin, Sem.run_bind, Sem.run_pure, Result.andThen_ok, List.map_toArray, List.map_cons, List.map_nil, hs, hx, hr]
  refine hK' _ _ (hK _ _ ?_ ?_)
  · have hge := grownCap_ge w (n + l.length) n e
    have hlen : (cellsB (xs ++ l)).length = (n + l.length) * 1 := by rw [cellsB_length, List.length_append]; omega
    refine ⟨hlen, .inr ⟨w.heap.size, _, _, rfl, b2, heap_alloc_new w.drew _, hge, grownCap_le_maxLen w (n + l.length) n e (by unfold maxLen; omega), ?_, ?_⟩⟩
    · simp only [Array.size_append, List.size_toArray, size_zeroCells, h6, cellsB_length]
      omega
    · simp only [Array.toList_append, List.append_assoc]
      rw [← List.append_assoc, ← hlen, ← cellsB_append]
      exact List.take_left
  · exact ⟨rfl, rfl, rfl, by simp, fun k hk => heap_alloc_old w.drew _ hk⟩

theorem owns_raise {w : World} {e : TypeId} {size g n cap b' base : Nat} {xs : List Value} (h : w.ownsRow base e size (.slice (some ⟨g, 0, none⟩) n cap) n xs) (hb : b' ≤ g) : w.ownsRow b' e size (.slice (some ⟨g, 0, none⟩) n cap) n xs := by
  refine ⟨h.1, ?_⟩
  rcases h.2 with ⟨hv, _⟩ | ⟨g', cap', cur, hv, hb', rest⟩
  · cases hv
  · injection hv with e1 e2 e3
    injection e1 with e1
    injection e1 with e1
    subst e1
    exact .inr ⟨_, _, cur, by rw [e3], hb, rest⟩

end Go.Attic
