/- Contract: the document's own New. -/
import Derived.Test.YtjcmmigbkhiplaaQ1
set_option linter.unusedSimpArgs false
set_option linter.unusedVariables false
namespace Go.Proofs.Ytjcmmigbkhiplaa
open Go.RowKit Go.Attic

theorem Try.info37 : (Try.prog.info? 37).map (fun i => (i.zero, i.size, i.bytes)) = some (some (.slice none 0 0), 1, 24) := by kernel_rfl

set_option maxRecDepth 100000 in
set_option maxHeartbeats 1000000 in
theorem rnew_no (n : Int) (w : World) (h : ¬ (1 ≤ n ∧ n ≤ 2048)) : Calls Try.prog 8 #[.int .i64 n] w fun e w' => e = .returned (.tuple #[.pointer none, .int .i64 1]) ∧ w = w' := by
  by_cases h1 : n < 1
  · go_enter Try.func8, Try.ntmps8
    go_wp2
    go_ret2
    exact ⟨by simp, rfl⟩
  · have h2 : 2048 < n := by omega
    clear h
    go_enter Try.func8, Try.ntmps8
    go_wp2
    go_ret2
    exact ⟨by simp, rfl⟩

/-- What New has made when k blocks are there. -/
structure Mk (w w' : World) (k : Nat) (v : Value) (vs : List Value) : Prop where
  cells : w'.heap[w.heap.size]? = some (.cells #[v, .slice none 0 0, .bool false, .int .i64 0, .int .i64 0, .slice none 0 0] 74 (0, 0))
  row : w'.ownsRow (w.heap.size + 1) 37 1 v k vs
  own : ∀ i (hv : i < vs.length), ∃ c, vs[i] = .slice (some ⟨c, 0, none⟩) 256 256 ∧ w'.ownsRow (w.heap.size + 1) 5 1 vs[i] 256 (cellsB (List.replicate 256 0))
  apart : ∀ i j (hi : i < vs.length) (hj : j < vs.length), vs[i].ownBlock = vs[j].ownBlock → i = j
  bel : Below w.heap.size w w'

/-- Bytes are not where slices stand. -/
theorem owns_ne {w : World} {B B' : Nat} {e e' : TypeId} {sz sz' n n' : Nat} {v v' : Value} {xs xs' : List Value} (h : w.ownsRow B e sz v n xs) (h' : w.ownsRow B' e' sz' v' n' xs') (he : e ≠ e') : v.ownBlock = none ∨ v.ownBlock ≠ v'.ownBlock := by
  rcases h.2 with ⟨rfl, _⟩ | ⟨g, cap, cur, rfl, _, hg, _⟩
  · exact .inl rfl
  · refine .inr ?_
    rcases h'.2 with ⟨rfl, _⟩ | ⟨g', cap', cur', rfl, _, hg', _⟩
    · simp [Value.ownBlock]
    · intro hh
      have e4 : g = g' := by simpa [Value.ownBlock] using hh
      rw [e4, hg'] at hg
      simp at hg
      exact he hg.2.symm

theorem Mk.step {w wr w2 : World} {k cap2 g2 : Nat} {v : Value} {vs : List Value} {Z : Array Value} (hM : Mk w wr k v vs) (hZ : Z.toList = cellsB (List.replicate 256 0))
    (ho2 : w2.ownsRow (w.heap.size + 1) 37 1 (.slice (some ⟨g2, 0, none⟩) (k + 1) cap2) (k + 1) (vs ++ [.slice (some ⟨wr.heap.size, 0, none⟩) 256 256]))
    (hg2 : (((wr.alloc (.cells Z 5)).alloc (.cells #[.slice (some ⟨wr.heap.size, 0, none⟩) 256 256] 37)).drew).grownBy w2 v.ownBlock)
    (hcl2 : w2.heap[w.heap.size]? = some (.cells #[v, .slice none 0 0, .bool false, .int .i64 0, .int .i64 0, .slice none 0 0] 74 (0, 0))) :
    Mk w (w2.setCell ⟨w.heap.size, 0, none⟩ (.slice (some ⟨g2, 0, none⟩) (k + 1) cap2)) (k + 1) (.slice (some ⟨g2, 0, none⟩) (k + 1) cap2) (vs ++ [.slice (some ⟨wr.heap.size, 0, none⟩) 256 256]) := by
  have hgl : w.heap.size < wr.heap.size := (Array.getElem?_eq_some_iff.1 hM.cells).1
  have hZs : Z.size = 256 := by have := congrArg List.length hZ; rw [cellsB_length, List.length_replicate] at this; simpa using this
  have hnew : (wr.alloc (.cells Z 5)).ownsRow (w.heap.size + 1) 5 1 (.slice (some ⟨wr.heap.size, 0, none⟩) 256 256) 256 (cellsB (List.replicate 256 0)) :=
    ⟨by rw [cellsB_length, List.length_replicate], .inr ⟨wr.heap.size, 256, Z, rfl, by omega, World.alloc_heap_new wr _, Nat.le_refl _, by unfold maxLen; omega, by rw [hZs], by rw [hZ]; exact List.take_of_length_le (by rw [cellsB_length, List.length_replicate]; omega)⟩⟩
  have hset := keeps_set w2 w.heap.size 0 (.slice (some ⟨g2, 0, none⟩) (k + 1) cap2)
  have hrow2 : (((wr.alloc (.cells Z 5)).alloc (.cells #[.slice (some ⟨wr.heap.size, 0, none⟩) 256 256] 37)).drew).ownsRow (w.heap.size + 1) 37 1 v k vs := World.ownsRow.drew ((hM.row.alloc _).alloc _)
  have key : ∀ u, (((wr.alloc (.cells Z 5)).alloc (.cells #[.slice (some ⟨wr.heap.size, 0, none⟩) 256 256] 37)).drew).ownsRow (w.heap.size + 1) 5 1 u 256 (cellsB (List.replicate 256 0)) →
      (w2.setCell ⟨w.heap.size, 0, none⟩ (.slice (some ⟨g2, 0, none⟩) (k + 1) cap2)).ownsRow (w.heap.size + 1) 5 1 u 256 (cellsB (List.replicate 256 0)) := fun u hu =>
    hset.owns (hu.kept hg2 (owns_ne hu hrow2 (by decide))) (fun b hb e => by have := (hu.lt b hb).1; have e' : b = w.heap.size := e; omega)
  have hvl : vs.length = k := by have := hM.row.1; omega
  have hzg := hg2.size
  simp at hzg
  refine ⟨?_, hset.owns ho2 (fun b hb e => by have := (ho2.lt b hb).1; have e' : b = w.heap.size := e; omega), fun i hv => ?_, fun i j hi hj e => ?_, ?_⟩
  · simp [World.setCell, Array.getElem?_modify, hcl2]
  · by_cases hi : i < vs.length
    · obtain ⟨c, e1, e2⟩ := hM.own i hi
      rw [List.getElem_append_left hi]
      exact ⟨c, e1, key _ (World.ownsRow.drew ((e2.alloc _).alloc _))⟩
    · have hi2 : i = vs.length := by simp at hv; omega
      subst hi2
      simp only [List.getElem_concat_length]
      exact ⟨_, rfl, key _ (World.ownsRow.drew (hnew.alloc _))⟩
  · have old : ∀ i (hi : i < vs.length), (vs[i]).ownBlock ≠ some wr.heap.size := fun i hi e => by
      have := ((hM.own i hi).choose_spec.2.lt _ e).2
      omega
    by_cases h1 : i < vs.length
    · by_cases h2 : j < vs.length
      · rw [List.getElem_append_left h1, List.getElem_append_left h2] at e
        exact hM.apart i j h1 h2 e
      · have h3 : j = vs.length := by simp at hj; omega
        subst h3
        rw [List.getElem_append_left h1] at e
        simp only [List.getElem_concat_length] at e
        exact (old i h1 e).elim
    · have h3 : i = vs.length := by simp at hi; omega
      subst h3
      by_cases h2 : j < vs.length
      · rw [List.getElem_append_left h2] at e
        simp only [List.getElem_concat_length] at e
        exact (old j h2 e.symm).elim
      · simp at hj; omega
  · have hb : Below w.heap.size w w2 := (((hM.bel.alloc (by omega) _).alloc (by simp; omega) _).drew).grown hg2 (by simp; omega) (fun b hb => by have := (hM.row.lt b hb).1; omega)
    exact hb.setCell (p := ⟨w.heap.size, 0, none⟩) (Nat.le_refl _) _

set_option maxRecDepth 100000 in
set_option maxHeartbeats 2000000 in
theorem rnew_mk (n : Nat) (w : World) (h1 : 1 ≤ n) (h2 : n ≤ 2048) : Calls Try.prog 8 #[.int .i64 (n : Int)] w fun e w' => e = .returned (.tuple #[.pointer (some ⟨w.heap.size, 0, none⟩), .int .i64 0]) ∧ ∃ v vs, Mk w w' n v vs := by
  obtain ⟨i0, hi, hz0, hz1, hz2⟩ := info_parts Try.info37
  obtain ⟨j0, hj, hj0, hj1, hj2⟩ := info_parts Try.info5
  go_enter Try.func8, Try.ntmps8
  go_wp2_with fail
  have hst : Mk w (w.alloc (.cells #[.slice none 0 0, .slice none 0 0, .bool false, .int .i64 0, .int .i64 0, .slice none 0 0] 74)) 0 (.slice none 0 0) [] :=
    ⟨World.alloc_heap_new w _, World.ownsRow_nil _ _ _ _, by simp, by simp, (Below.refl _ _).alloc (Nat.le_refl _) _⟩
  have d1 : decide ((n : Int) < 1) = false := by simp; omega
  have d2 : decide ((2048 : Int) < (n : Int)) = false := by simp; omega
  try simp only [d1, d2, Bool.or_false, Bool.or_self]
  clear d1 d2
  go_loopw [5] (fun i wr => ∃ k : Nat, k ≤ n ∧ i = .int .i64 k ∧ ∃ v vs, Mk w wr k v vs) (fun i _ => n - (intOf i).toNat)
  case atStart => exact ⟨0, by omega, rfl, _, _, hst⟩
  case round =>
    obtain ⟨k, hk, rfl, v, vs, hM⟩ := hrel
    clear hst
    by_cases hkn : k < n
    · obtain ⟨ao, cap, rfl⟩ := owns_slice hM.row
      have c0 : wr.cell? ⟨w.heap.size, 0, none⟩ = some (.slice ao k cap) := by simp [World.cell?, hM.cells]
      have f0 : wr.frozen? ⟨w.heap.size, 0, none⟩ = false := by simp [World.frozen?, hM.cells]
      have hzr := hM.bel.size
      have hgl : w.heap.size < wr.heap.size := (Array.getElem?_eq_some_iff.1 hM.cells).1
      have HM := hide hM
      clear hM
      obtain ⟨Z, hZ⟩ : ∃ Z, madeCells (Value.int .u8 0).cells (256 * 1) = Z := ⟨_, rfl⟩
      have hZl : Z.toList = cellsB (List.replicate 256 0) := by rw [← hZ]; exact made_zeros 256
      have hmk : ∀ W : World, (Instr.makeSlice 37 (.int .i64 256) (.int .i64 256)).run Try.prog W = .ok (.slice (some ⟨W.heap.size, 0, none⟩) 256 256) (W.alloc (.cells Z 5)) := fun W => by rw [← hZ]; kernel_rfl
      have HZl := hide hZl
      have c0a := fun o => (Keeps.alloc (S := fun _ => False) wr o).cell c0 id
      have c0b := fun o o' => (Keeps.alloc (S := fun _ => False) (wr.alloc o) o').cell (c0a o) id
      clear hZ hZl
      go_wp2_with fail
      go_region_law (first
        | (refine step_append_at rfl (.tmp 23) (.tmp 25) 71 rfl (w.heap.size + 1) 37 i0 (.slice none 0 0) 1 24 Try.underlying71 hi hz0 hz1 hz2 rfl (by decide) (.slice ao k cap) k vs rfl (show (((wr.alloc (.cells Z 5)).alloc (.cells #[.slice (some ⟨wr.heap.size, 0, none⟩) 256 256] 37)).drew).ownsRow (w.heap.size + 1) 37 1 (.slice ao k cap) k vs from World.ownsRow.drew ((HM.out.row.alloc _).alloc _)) ⟨wr.heap.size + 1, 0, none⟩ 1 1 [.slice (some ⟨wr.heap.size, 0, none⟩) 256 256] rfl rfl (by intro j u hj; match j, hj with | 0, hj => simp at hj; subst hj; simp [Addr.add]) (by simp [Value.oneCell']) (by unfold maxLen; omega) (by omega) (by simp; omega) ?_
           intro v2 w2 ho2 hg2 hkin2
           obtain ⟨g2, cap2, rfl⟩ := owns_succ ho2
           have hne : some w.heap.size ≠ (Value.slice ao k cap).ownBlock := (fun e => by have := (HM.out.row.lt _ e.symm).1; omega)
           have hcl2 := (hg2.block w.heap.size (by simp; omega) hne).trans (show (((wr.alloc (.cells Z 5)).alloc (.cells #[.slice (some ⟨wr.heap.size, 0, none⟩) 256 256] 37)).drew).heap[w.heap.size]? = _ from ((Below.heap_alloc _ _ _ (by simp; omega)).trans (Below.heap_alloc _ _ _ hgl)).trans HM.out.cells)
           have c2 : w2.cell? ⟨w.heap.size, 0, none⟩ = some (.slice ao k cap) := (by simp [World.cell?, hcl2])
           have f2 : w2.frozen? ⟨w.heap.size, 0, none⟩ = false := (by simp [World.frozen?, hcl2])
           skip)
        | fail)
      all_goals
        have hS := HM.out.step HZl.out ho2 hg2 hcl2
        have HS := hide hS
        clear hS ho2 hg2 hkin2 hcl2 c2 f2
        go_wp2_with fail
        go_roundw
        case rel => exact ⟨k + 1, by omega, by go_num, _, _, HS.out⟩
        case measure => simp [intOf]; omega
    · obtain rfl : k = n := by omega
      go_wp2_with fail
      go_ret2
      exact ⟨by simp, v, vs, hM⟩


end Go.Proofs.Ytjcmmigbkhiplaa
