/- Contracts: the document's own New and Of. -/
import Derived.Test.YtjcmmigbkhiplaaQ2
set_option linter.unusedSimpArgs false
set_option linter.unusedVariables false
namespace Go.Proofs.Ytjcmmigbkhiplaa
open Go.RowKit Go.Attic

/-- A new disk of the document, its blocks L. -/
structure Mc (w w' : World) (n : Nat) (L : Nat → List Nat) (v : Value) (vs : List Value) : Prop where
  cells : w'.heap[w.heap.size]? = some (.cells #[v, .slice none 0 0, .bool false, .int .i64 0, .int .i64 0, .slice none 0 0] 74 (0, 0))
  row : w'.ownsRow (w.heap.size + 1) 37 1 v n vs
  own : ∀ i (hv : i < vs.length), ∃ c, vs[i] = .slice (some ⟨c, 0, none⟩) 256 256 ∧ w'.ownsRow (w.heap.size + 1) 5 1 vs[i] 256 (cellsB (L i))
  apart : ∀ i j (hi : i < vs.length) (hj : j < vs.length), vs[i].ownBlock = vs[j].ownBlock → i = j
  bel : Below w.heap.size w w'

theorem Mk.mc {w w' : World} {n : Nat} {v : Value} {vs : List Value} (h : Mk w w' n v vs) : Mc w w' n (fun _ => List.replicate 256 0) v vs := ⟨h.cells, h.row, h.own, h.apart, h.bel⟩

theorem Mc.dr {w w' : World} {n : Nat} {L : Nat → List Nat} {v : Value} {vs : List Value} {l : List Nat} (h : Mc w w' n L v vs) (hL : ∀ i, i < n → L i = blockL l i) (hok : (ofS l).Ok n) :
    Dr w' w.heap.size v.ownBlock none (fun k => w.heap.size + 1 ≤ k ∧ k < w'.heap.size) n (ofS l) := by
  have hgl : w.heap.size < w'.heap.size := (Array.getElem?_eq_some_iff.1 h.cells).1
  have hvl : vs.length = n := by have := h.row.1; omega
  have fr : ∀ i, w'.frozen? ⟨w.heap.size, i, none⟩ = false := fun i => by simp [World.frozen?, h.cells]
  refine ⟨⟨v, vs, by simp [World.cell?, h.cells], ⟨owns_base h.row (Nat.zero_le _), rfl, fun i hv => ?_⟩⟩, ⟨.slice none 0 0, [], by simp [World.cell?, h.cells], ⟨World.ownsRow_nil _ _ _ _, rfl, rfl, by simp, by simp [ofS]⟩, by simp⟩, by simp [World.cell?, h.cells, ofS], by simp [World.cell?, h.cells, ofS], by simp [World.cell?, h.cells, ofS],
    ⟨.slice none 0 0, [], by simp [World.cell?, h.cells], Bs.nil _, by simp [ofS], by simp, by simp [Value.ownBlock]⟩, fr 0, fr 1, fr 2, fr 3, fr 4, fr 5, fun b hb => ⟨⟨(h.row.lt b hb).1, (h.row.lt b hb).2⟩, by simp⟩, by omega, fun k hk => hk.2, hok⟩
  obtain ⟨c, e1, e2⟩ := h.own i hv
  have hlt := hok.lt
  rw [hL i (by omega)] at e2
  refine ⟨Bs.of_owns e2 (blockL_lt hlt i), fun b hb => ⟨⟨(e2.lt b hb).1, (e2.lt b hb).2⟩, by simp, fun e => ?_⟩⟩
  rcases owns_ne e2 h.row (by decide) with hh | hh
  · rw [hh] at hb; cases hb
  · exact hh (hb.trans e.symm)

/-- What a call that makes the document's disk leaves. -/
def NewDr (w : World) (n : Nat) (s : St) (e : Ending) (w' : World) : Prop :=
  ∃ g q F, e = .returned (.tuple #[.pointer (some ⟨g, 0, none⟩), .int .i64 0]) ∧ Dr w' g q none F n s ∧ Below w.heap.size w w' ∧ w.heap.size ≤ g ∧ ∀ k, F k → w.heap.size ≤ k

theorem rnew_yes (n : Nat) (w : World) (h1 : 1 ≤ n) (h2 : n ≤ 2048) : Calls Try.prog 8 #[.int .i64 (n : Int)] w (NewDr w n (newS n)) := by
  refine (rnew_mk n w h1 h2).mono ?_
  rintro e w' ⟨rfl, v, vs, hM⟩
  refine ⟨_, _, _, rfl, hM.mc.dr (l := List.replicate (n * 256) 0) (fun i hi => ?_) (ofS_ok (by rw [List.length_replicate]; omega) h1 h2 (fun x hx => by rw [List.eq_of_mem_replicate hx]; omega)), hM.bel, Nat.le_refl _, fun k hk => by have := hk.1; omega⟩
  refine ext_getD ?_ fun j hj => ?_
  · rw [List.length_replicate, blockL_len _ _ n hi (by rw [List.length_replicate]; omega)]
  · rw [List.length_replicate] at hj
    simp only [blockL, List.getD_eq_getElem?_getD, List.getElem?_replicate, List.getElem?_take, List.getElem?_drop, hj, if_true]
    rw [if_pos (by omega)]


end Go.Proofs.Ytjcmmigbkhiplaa
