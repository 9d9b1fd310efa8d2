/- Contract: the document's own New. Contracts: the document's own New and Of. Stores into the document's disk; contracts: goes, Restart, Arm. -/
import Derived.Test.YtjhbljkoapbkfaaGreatM12
set_option linter.unusedSimpArgs false
set_option linter.unusedVariables false

namespace Go.Proofs.YtjhbljkoapbkfaaGreat
open Go.RowKit Go.Attic

theorem Tryz.info30 : (Tryz.prog.info? 30).map (fun i => (i.zero, i.size, i.bytes)) = some (some (.slice none 0 0), 1, 24) := by kernel_rfl

set_option maxRecDepth 100000 in
set_option maxHeartbeats 1000000 in
theorem rnew_no (n : Int) (w : World) (h : ¬ (1 ≤ n ∧ n ≤ 2048)) : Calls Tryz.prog 11 #[.int .i64 n] w fun e w' => e = .returned (.tuple #[.pointer none, .int .i64 1]) ∧ w = w' := by
  by_cases h1 : n < 1
  · go_enter Tryz.func11, Tryz.ntmps11
    go_wp2
    go_ret2
    exact ⟨by simp, rfl⟩
  · have h2 : 2048 < n := by omega
    clear h
    go_enter Tryz.func11, Tryz.ntmps11
    go_wp2
    go_ret2
    exact ⟨by simp, rfl⟩

/-- What New has made when k blocks are there. -/
structure Mk (w w' : World) (k : Nat) (v : Value) (vs : List Value) : Prop where
  cells : w'.heap[w.heap.size]? = some (.cells #[v, .slice none 0 0, .bool false, .int .i64 0, .int .i64 0, .slice none 0 0] 81 (0, 0))
  row : w'.ownsRow (w.heap.size + 1) 30 1 v k vs
  own : ∀ i (hv : i < vs.length), ∃ c, vs[i] = .slice (some ⟨c, 0, none⟩) 256 256 ∧ w'.ownsRow (w.heap.size + 1) 5 1 vs[i] 256 (cellsB (List.replicate 256 0))
  apart : ∀ i j (hi : i < vs.length) (hj : j < vs.length), vs[i].ownBlock = vs[j].ownBlock → i = j
  bel : Below w.heap.size w w'

/-- Bytes are not where slices stand. -/
theorem owns_ne {w : World} {B B' : Nat} {e e' : TypeId} {sz sz' n n' : Nat} {v v' : Value} {xs xs' : List Value} (h : w.ownsRow B e sz v n xs) (h' : w.ownsRow B' e' sz' v' n' xs') (he : e ≠ e') : v.ownBlock = none ∨ v.ownBlock ≠ v'.ownBlock := by
  rcases h.2 with ⟨rfl, _⟩ | ⟨g, cap, cur, rfl, _, hg, _⟩
  · exact .inl rfl
  · refine .inr ?_
    rcases h'.2 with ⟨rfl, _⟩ | ⟨g', cap', cur', rfl, _, hg', _⟩
    · simp [Value.ownBlock]
    · intro hh
      have e4 : g = g' := by simpa [Value.ownBlock] using hh
      rw [e4, hg'] at hg
      simp at hg
      exact he hg.2.symm

theorem Mk.step {w wr w2 : World} {k cap2 g2 : Nat} {v : Value} {vs : List Value} {Z : Array Value} (hM : Mk w wr k v vs) (hZ : Z.toList = cellsB (List.replicate 256 0))
    (ho2 : w2.ownsRow (w.heap.size + 1) 30 1 (.slice (some ⟨g2, 0, none⟩) (k + 1) cap2) (k + 1) (vs ++ [.slice (some ⟨wr.heap.size, 0, none⟩) 256 256]))
    (hg2 : (((wr.alloc (.cells Z 5)).alloc (.cells #[.slice (some ⟨wr.heap.size, 0, none⟩) 256 256] 30)).drew).grownBy w2 v.ownBlock)
    (hcl2 : w2.heap[w.heap.size]? = some (.cells #[v, .slice none 0 0, .bool false, .int .i64 0, .int .i64 0, .slice none 0 0] 81 (0, 0))) :
    Mk w (w2.setCell ⟨w.heap.size, 0, none⟩ (.slice (some ⟨g2, 0, none⟩) (k + 1) cap2)) (k + 1) (.slice (some ⟨g2, 0, none⟩) (k + 1) cap2) (vs ++ [.slice (some ⟨wr.heap.size, 0, none⟩) 256 256]) := by
  have hgl : w.heap.size < wr.heap.size := (Array.getElem?_eq_some_iff.1 hM.cells).1
  have hZs : Z.size = 256 := by have := congrArg List.length hZ; rw [cellsB_length, List.length_replicate] at this; simpa using this
  have hnew : (wr.alloc (.cells Z 5)).ownsRow (w.heap.size + 1) 5 1 (.slice (some ⟨wr.heap.size, 0, none⟩) 256 256) 256 (cellsB (List.replicate 256 0)) :=
    ⟨by rw [cellsB_length, List.length_replicate], .inr ⟨wr.heap.size, 256, Z, rfl, by omega, World.alloc_heap_new wr _, Nat.le_refl _, by unfold maxLen; omega, by rw [hZs], by rw [hZ]; exact List.take_of_length_le (by rw [cellsB_length, List.length_replicate]; omega)⟩⟩
  have hset := keeps_set w2 w.heap.size 0 (.slice (some ⟨g2, 0, none⟩) (k + 1) cap2)
  have hrow2 : (((wr.alloc (.cells Z 5)).alloc (.cells #[.slice (some ⟨wr.heap.size, 0, none⟩) 256 256] 30)).drew).ownsRow (w.heap.size + 1) 30 1 v k vs := World.ownsRow.drew ((hM.row.alloc _).alloc _)
  have key : ∀ u, (((wr.alloc (.cells Z 5)).alloc (.cells #[.slice (some ⟨wr.heap.size, 0, none⟩) 256 256] 30)).drew).ownsRow (w.heap.size + 1) 5 1 u 256 (cellsB (List.replicate 256 0)) →
      (w2.setCell ⟨w.heap.size, 0, none⟩ (.slice (some ⟨g2, 0, none⟩) (k + 1) cap2)).ownsRow (w.heap.size + 1) 5 1 u 256 (cellsB (List.replicate 256 0)) := fun u hu =>
    hset.owns (hu.kept hg2 (owns_ne hu hrow2 (by decide))) (fun b hb e => by have := (hu.lt b hb).1; have e' : b = w.heap.size := e; omega)
  have hvl : vs.length = k := by have := hM.row.1; omega
  have hzg := hg2.size
  simp at hzg
  refine ⟨?_, hset.owns ho2 (fun b hb e => by have := (ho2.lt b hb).1; have e' : b = w.heap.size := e; omega), fun i hv => ?_, fun i j hi hj e => ?_, ?_⟩
  · simp [World.setCell, Array.getElem?_modify, hcl2]
  · by_cases hi : i < vs.length
    · obtain ⟨c, e1, e2⟩ := hM.own i hi
      rw [List.getElem_append_left hi]
      exact ⟨c, e1, key _ (World.ownsRow.drew ((e2.alloc _).alloc _))⟩
    · have hi2 : i = vs.length := by simp at hv; omega
      subst hi2
      simp only [List.getElem_concat_length]
      exact ⟨_, rfl, key _ (World.ownsRow.drew (hnew.alloc _))⟩
  · have old : ∀ i (hi : i < vs.length), (vs[i]).ownBlock ≠ some wr.heap.size := fun i hi e => by
      have := ((hM.own i hi).choose_spec.2.lt _ e).2
      omega
    by_cases h1 : i < vs.length
    · by_cases h2 : j < vs.length
      · rw [List.getElem_append_left h1, List.getElem_append_left h2] at e
        exact hM.apart i j h1 h2 e
      · have h3 : j = vs.length := by simp at hj; omega
        subst h3
        rw [List.getElem_append_left h1] at e
        simp only [List.getElem_concat_length] at e
        exact (old i h1 e).elim
    · have h3 : i = vs.length := by simp at hi; omega
      subst h3
      by_cases h2 : j < vs.length
      · rw [List.getElem_append_left h2] at e
        simp only [List.getElem_concat_length] at e
        exact (old j h2 e.symm).elim
      · simp at hj; omega
  · have hb : Below w.heap.size w w2 := (((hM.bel.alloc (by omega) _).alloc (by simp; omega) _).drew).grown hg2 (by simp; omega) (fun b hb => by have := (hM.row.lt b hb).1; omega)
    exact hb.setCell (p := ⟨w.heap.size, 0, none⟩) (Nat.le_refl _) _

set_option maxRecDepth 100000 in
set_option maxHeartbeats 2000000 in
theorem rnew_mk (n : Nat) (w : World) (h1 : 1 ≤ n) (h2 : n ≤ 2048) : Calls Tryz.prog 11 #[.int .i64 (n : Int)] w fun e w' => e = .returned (.tuple #[.pointer (some ⟨w.heap.size, 0, none⟩), .int .i64 0]) ∧ ∃ v vs, Mk w w' n v vs := by
  obtain ⟨i0, hi, hz0, hz1, hz2⟩ := info_parts Tryz.info30
  obtain ⟨j0, hj, hj0, hj1, hj2⟩ := info_parts Tryz.info5
  go_enter Tryz.func11, Tryz.ntmps11
  go_wp2_with fail
  have hst : Mk w (w.alloc (.cells #[.slice none 0 0, .slice none 0 0, .bool false, .int .i64 0, .int .i64 0, .slice none 0 0] 81)) 0 (.slice none 0 0) [] :=
    ⟨World.alloc_heap_new w _, World.ownsRow_nil _ _ _ _, by simp, by simp, (Below.refl _ _).alloc (Nat.le_refl _) _⟩
  have d1 : decide ((n : Int) < 1) = false := by simp; omega
  have d2 : decide ((2048 : Int) < (n : Int)) = false := by simp; omega
  try simp only [d1, d2, Bool.or_false, Bool.or_self]
  clear d1 d2
  go_loopw [5] (fun i wr => ∃ k : Nat, k ≤ n ∧ i = .int .i64 k ∧ ∃ v vs, Mk w wr k v vs) (fun i _ => n - (intOf i).toNat)
  case atStart => exact ⟨0, by omega, rfl, _, _, hst⟩
  case round =>
    obtain ⟨k, hk, rfl, v, vs, hM⟩ := hrel
    clear hst
    by_cases hkn : k < n
    · obtain ⟨ao, cap, rfl⟩ := owns_slice hM.row
      have c0 : wr.cell? ⟨w.heap.size, 0, none⟩ = some (.slice ao k cap) := by simp [World.cell?, hM.cells]
      have f0 : wr.frozen? ⟨w.heap.size, 0, none⟩ = false := by simp [World.frozen?, hM.cells]
      have hzr := hM.bel.size
      have hgl : w.heap.size < wr.heap.size := (Array.getElem?_eq_some_iff.1 hM.cells).1
      have HM := hide hM
      clear hM
      obtain ⟨Z, hZ⟩ : ∃ Z, madeCells (Value.int .u8 0).cells (256 * 1) = Z := ⟨_, rfl⟩
      have hZl : Z.toList = cellsB (List.replicate 256 0) := by rw [← hZ]; exact made_zeros 256
      have hmk : ∀ W : World, (Instr.makeSlice 30 (.int .i64 256) (.int .i64 256)).run Tryz.prog W = .ok (.slice (some ⟨W.heap.size, 0, none⟩) 256 256) (W.alloc (.cells Z 5)) := fun W => by rw [← hZ]; kernel_rfl
      have HZl := hide hZl
      have c0a := fun o => (Keeps.alloc (S := fun _ => False) wr o).cell c0 id
      have c0b := fun o o' => (Keeps.alloc (S := fun _ => False) (wr.alloc o) o').cell (c0a o) id
      clear hZ hZl
      go_wp2_with fail
      go_region_law (first
        | (refine step_append_at rfl (.tmp 23) (.tmp 25) 78 rfl (w.heap.size + 1) 30 i0 (.slice none 0 0) 1 24 Tryz.underlying78 hi hz0 hz1 hz2 rfl (by decide) (.slice ao k cap) k vs rfl (show (((wr.alloc (.cells Z 5)).alloc (.cells #[.slice (some ⟨wr.heap.size, 0, none⟩) 256 256] 30)).drew).ownsRow (w.heap.size + 1) 30 1 (.slice ao k cap) k vs from World.ownsRow.drew ((HM.out.row.alloc _).alloc _)) ⟨wr.heap.size + 1, 0, none⟩ 1 1 [.slice (some ⟨wr.heap.size, 0, none⟩) 256 256] rfl rfl (by intro j u hj; match j, hj with | 0, hj => simp at hj; subst hj; simp [Addr.add]) (by simp [Value.oneCell']) (by unfold maxLen; omega) (by omega) (by simp; omega) ?_
           intro v2 w2 ho2 hg2 hkin2
           obtain ⟨g2, cap2, rfl⟩ := owns_succ ho2
           have hne : some w.heap.size ≠ (Value.slice ao k cap).ownBlock := (fun e => by have := (HM.out.row.lt _ e.symm).1; omega)
           have hcl2 := (hg2.block w.heap.size (by simp; omega) hne).trans (show (((wr.alloc (.cells Z 5)).alloc (.cells #[.slice (some ⟨wr.heap.size, 0, none⟩) 256 256] 30)).drew).heap[w.heap.size]? = _ from ((Below.heap_alloc _ _ _ (by simp; omega)).trans (Below.heap_alloc _ _ _ hgl)).trans HM.out.cells)
           have c2 : w2.cell? ⟨w.heap.size, 0, none⟩ = some (.slice ao k cap) := (by simp [World.cell?, hcl2])
           have f2 : w2.frozen? ⟨w.heap.size, 0, none⟩ = false := (by simp [World.frozen?, hcl2])
           skip)
        | fail)
      all_goals
        have hS := HM.out.step HZl.out ho2 hg2 hcl2
        have HS := hide hS
        clear hS ho2 hg2 hkin2 hcl2 c2 f2
        go_wp2_with fail
        go_roundw
        case rel => exact ⟨k + 1, by omega, by go_num, _, _, HS.out⟩
        case measure => simp [intOf]; omega
    · obtain rfl : k = n := by omega
      go_wp2_with fail
      go_ret2
      exact ⟨by simp, v, vs, hM⟩


end Go.Proofs.YtjhbljkoapbkfaaGreat

namespace Go.Proofs.YtjhbljkoapbkfaaGreat
open Go.RowKit Go.Attic

/-- A new disk of the document, its blocks L. -/
structure Mc (w w' : World) (n : Nat) (L : Nat → List Nat) (v : Value) (vs : List Value) : Prop where
  cells : w'.heap[w.heap.size]? = some (.cells #[v, .slice none 0 0, .bool false, .int .i64 0, .int .i64 0, .slice none 0 0] 81 (0, 0))
  row : w'.ownsRow (w.heap.size + 1) 30 1 v n vs
  own : ∀ i (hv : i < vs.length), ∃ c, vs[i] = .slice (some ⟨c, 0, none⟩) 256 256 ∧ w'.ownsRow (w.heap.size + 1) 5 1 vs[i] 256 (cellsB (L i))
  apart : ∀ i j (hi : i < vs.length) (hj : j < vs.length), vs[i].ownBlock = vs[j].ownBlock → i = j
  bel : Below w.heap.size w w'

theorem Mk.mc {w w' : World} {n : Nat} {v : Value} {vs : List Value} (h : Mk w w' n v vs) : Mc w w' n (fun _ => List.replicate 256 0) v vs := ⟨h.cells, h.row, h.own, h.apart, h.bel⟩

theorem Mc.dr {w w' : World} {n : Nat} {L : Nat → List Nat} {v : Value} {vs : List Value} {l : List Nat} (h : Mc w w' n L v vs) (hL : ∀ i, i < n → L i = blockL l i) (hok : (ofS l).Ok n) :
    Dr w' w.heap.size v.ownBlock none (fun k => w.heap.size + 1 ≤ k ∧ k < w'.heap.size) n (ofS l) := by
  have hgl : w.heap.size < w'.heap.size := (Array.getElem?_eq_some_iff.1 h.cells).1
  have hvl : vs.length = n := by have := h.row.1; omega
  have fr : ∀ i, w'.frozen? ⟨w.heap.size, i, none⟩ = false := fun i => by simp [World.frozen?, h.cells]
  refine ⟨⟨v, vs, by simp [World.cell?, h.cells], ⟨owns_base h.row (Nat.zero_le _), rfl, fun i hv => ?_⟩⟩, ⟨.slice none 0 0, [], by simp [World.cell?, h.cells], ⟨World.ownsRow_nil _ _ _ _, rfl, rfl, by simp, by simp [ofS]⟩, by simp⟩, by simp [World.cell?, h.cells, ofS], by simp [World.cell?, h.cells, ofS], by simp [World.cell?, h.cells, ofS],
    ⟨.slice none 0 0, [], by simp [World.cell?, h.cells], Bs.nil _, by simp [ofS], by simp, by simp [Value.ownBlock]⟩, fr 0, fr 1, fr 2, fr 3, fr 4, fr 5, fun b hb => ⟨⟨(h.row.lt b hb).1, (h.row.lt b hb).2⟩, by simp⟩, by omega, fun k hk => hk.2, hok⟩
  obtain ⟨c, e1, e2⟩ := h.own i hv
  have hlt := hok.lt
  rw [hL i (by omega)] at e2
  refine ⟨Bs.of_owns e2 (blockL_lt hlt i), fun b hb => ⟨⟨(e2.lt b hb).1, (e2.lt b hb).2⟩, by simp, fun e => ?_⟩⟩
  rcases owns_ne e2 h.row (by decide) with hh | hh
  · rw [hh] at hb; cases hb
  · exact hh (hb.trans e.symm)

/-- What a call that makes the document's disk leaves. -/
def NewDr (w : World) (n : Nat) (s : St) (e : Ending) (w' : World) : Prop :=
  ∃ g q F, e = .returned (.tuple #[.pointer (some ⟨g, 0, none⟩), .int .i64 0]) ∧ Dr w' g q none F n s ∧ Below w.heap.size w w' ∧ w.heap.size ≤ g ∧ ∀ k, F k → w.heap.size ≤ k

theorem rnew_yes (n : Nat) (w : World) (h1 : 1 ≤ n) (h2 : n ≤ 2048) : Calls Tryz.prog 11 #[.int .i64 (n : Int)] w (NewDr w n (newS n)) := by
  refine (rnew_mk n w h1 h2).mono ?_
  rintro e w' ⟨rfl, v, vs, hM⟩
  refine ⟨_, _, _, rfl, hM.mc.dr (l := List.replicate (n * 256) 0) (fun i hi => ?_) (ofS_ok (by rw [List.length_replicate]; omega) h1 h2 (fun x hx => by rw [List.eq_of_mem_replicate hx]; omega)), hM.bel, Nat.le_refl _, fun k hk => by have := hk.1; omega⟩
  refine ext_getD ?_ fun j hj => ?_
  · rw [List.length_replicate, blockL_len _ _ n hi (by rw [List.length_replicate]; omega)]
  · rw [List.length_replicate] at hj
    simp only [blockL, List.getD_eq_getElem?_getD, List.getElem?_replicate, List.getElem?_take, List.getElem?_drop, hj, if_true]
    rw [if_pos (by omega)]


end Go.Proofs.YtjhbljkoapbkfaaGreat

namespace Go.Proofs.YtjhbljkoapbkfaaGreat
open Go.RowKit Go.Attic

/-- All blocks of a disk of the document. -/
def OwnX (g : Nat) (F : Nat → Prop) (k : Nat) : Prop := k = g ∨ F k

/-- What becomes of the document's disk in block g. -/
def TurnX (w : World) (g : Nat) (F : Nat → Prop) (n : Nat) (s : St) (w' : World) : Prop :=
  ∃ q' p' F', Dr w' g q' p' F' n s ∧ Keeps (OwnX g F) w w' ∧ ∀ k, F' k → F k ∨ w.heap.size ≤ k

theorem Dr.ownLt {w : World} {g : Nat} {q p : Option Nat} {F : Nat → Prop} {n : Nat} {s : St} (h : Dr w g q p F n s) : ∀ k, OwnX g F k → k < w.heap.size := by
  rintro k (e | e)
  · subst e; exact h.gl
  · exact h.Fl k e

theorem BRows.widen {w : World} {q p : Option Nat} {F F' : Nat → Prop} {v : Value} {n : Nat} {med : List Nat} {vs : List Value} (h : BRows w q p F v n med vs) (hF : ∀ k, F k → F' k) : BRows w q p F' v n med vs :=
  ⟨h.row, h.own, fun i hv => ⟨(h.bs i hv).1, fun b hb => ⟨hF b ((h.bs i hv).2 b hb).1, ((h.bs i hv).2 b hb).2⟩⟩⟩

theorem Dr.widen {w : World} {g : Nat} {q p : Option Nat} {F F' : Nat → Prop} {n : Nat} {s : St} (h : Dr w g q p F n s) (hF : ∀ k, F k → F' k) (hg : ¬ F' g) (hl : ∀ k, F' k → k < w.heap.size) : Dr w g q p F' n s := by
  obtain ⟨v, vs, a1, a2⟩ := h.c0
  obtain ⟨v1, vs1, b1, b2, b3⟩ := h.c1
  obtain ⟨v5, pk, d1, d2, d3, d4, d5⟩ := h.c5
  exact ⟨⟨v, vs, a1, a2.widen hF⟩, ⟨v1, vs1, b1, b2.widen hF, b3⟩, h.c2, h.c3, h.c4, ⟨v5, pk, d1, d2, d3, d4, fun b hb => ⟨hF b (d5 b hb).1, (d5 b hb).2⟩⟩, h.f0, h.f1, h.f2, h.f3, h.f4, h.f5, fun b hb => ⟨hF b (h.qF b hb).1, (h.qF b hb).2⟩, hg, hl, h.ok⟩

theorem Dr.store2 {w : World} {g : Nat} {q p : Option Nat} {F : Nat → Prop} {n : Nat} {s : St} {b : Bool} (h : Dr w g q p F n s)  : Dr (w.setCell ⟨g, 2, none⟩ (.bool (!b))) g q p F n { s with on := b } := by
  obtain ⟨v, vs, a1, a2⟩ := h.c0
  obtain ⟨v1, vs1, b1, b2, b3⟩ := h.c1
  obtain ⟨v5, pk, d1, d2, d3, d4, d5⟩ := h.c5
  have hk : Keeps (fun k => k = g) w (w.setCell ⟨g, 2, none⟩ (.bool (!b))) := keeps_set w g 2 _
  have hS : ∀ k, F k → ¬ (fun k => k = g) k := fun k hk e => h.Fg (by have e' : k = g := e; exact e' ▸ hk)
  exact ⟨⟨v, vs, cell_set_other a1 (by omega), a2.keeps hk (fun b hb => hS b (h.qF b hb).1) hS⟩, ⟨v1, vs1, cell_set_other b1 (by omega), b2.keeps hk hS, b3⟩, cell_set_same h.c2, cell_set_other h.c3 (by omega), cell_set_other h.c4 (by omega), ⟨v5, pk, cell_set_other d1 (by omega), hk.bs d2 (fun b hb => hS b (d5 b hb).1), d3, d4, d5⟩,
    by simpa using h.f0, by simpa using h.f1, by simpa using h.f2, by simpa using h.f3, by simpa using h.f4, by simpa using h.f5,
    h.qF, h.Fg, fun k hk' => Nat.lt_of_lt_of_le (h.Fl k hk') hk.size, ⟨h.ok.len, h.ok.n1, h.ok.n2, h.ok.lt, h.ok.pend, h.ok.left, h.ok.picks⟩⟩

theorem Dr.store3 {w : World} {g : Nat} {q p : Option Nat} {F : Nat → Prop} {n : Nat} {s : St} {l : Nat} (h : Dr w g q p F n s)  : Dr (w.setCell ⟨g, 3, none⟩ (.int .i64 (l : Int))) g q p F n { s with ops := l } := by
  obtain ⟨v, vs, a1, a2⟩ := h.c0
  obtain ⟨v1, vs1, b1, b2, b3⟩ := h.c1
  obtain ⟨v5, pk, d1, d2, d3, d4, d5⟩ := h.c5
  have hk : Keeps (fun k => k = g) w (w.setCell ⟨g, 3, none⟩ (.int .i64 (l : Int))) := keeps_set w g 3 _
  have hS : ∀ k, F k → ¬ (fun k => k = g) k := fun k hk e => h.Fg (by have e' : k = g := e; exact e' ▸ hk)
  exact ⟨⟨v, vs, cell_set_other a1 (by omega), a2.keeps hk (fun b hb => hS b (h.qF b hb).1) hS⟩, ⟨v1, vs1, cell_set_other b1 (by omega), b2.keeps hk hS, b3⟩, cell_set_other h.c2 (by omega), cell_set_same h.c3, cell_set_other h.c4 (by omega), ⟨v5, pk, cell_set_other d1 (by omega), hk.bs d2 (fun b hb => hS b (d5 b hb).1), d3, d4, d5⟩,
    by simpa using h.f0, by simpa using h.f1, by simpa using h.f2, by simpa using h.f3, by simpa using h.f4, by simpa using h.f5,
    h.qF, h.Fg, fun k hk' => Nat.lt_of_lt_of_le (h.Fl k hk') hk.size, ⟨h.ok.len, h.ok.n1, h.ok.n2, h.ok.lt, h.ok.pend, h.ok.left, h.ok.picks⟩⟩

theorem Dr.store4 {w : World} {g : Nat} {q p : Option Nat} {F : Nat → Prop} {n : Nat} {s : St} {l : Nat} (h : Dr w g q p F n s) (hl : l ≤ 9223372036854775807) : ∃ pk, Dr (w.setCell ⟨g, 4, none⟩ (.int .i64 (l : Int))) g q p F n { s with left := l, picks := pk } ∧ (0 < s.left → pk = s.picks) := by
  obtain ⟨v, vs, a1, a2⟩ := h.c0
  obtain ⟨v1, vs1, b1, b2, b3⟩ := h.c1
  obtain ⟨v5, pk, d1, d2, d3, d4, d5⟩ := h.c5
  have hk : Keeps (fun k => k = g) w (w.setCell ⟨g, 4, none⟩ (.int .i64 (l : Int))) := keeps_set w g 4 _
  have hS : ∀ k, F k → ¬ (fun k => k = g) k := fun k hk e => h.Fg (by have e' : k = g := e; exact e' ▸ hk)
  exact ⟨pk, ⟨⟨v, vs, cell_set_other a1 (by omega), a2.keeps hk (fun b hb => hS b (h.qF b hb).1) hS⟩, ⟨v1, vs1, cell_set_other b1 (by omega), b2.keeps hk hS, b3⟩, cell_set_other h.c2 (by omega), cell_set_other h.c3 (by omega), cell_set_same h.c4, ⟨v5, pk, cell_set_other d1 (by omega), hk.bs d2 (fun b hb => hS b (d5 b hb).1), fun _ => rfl, d4, d5⟩,
    by simpa using h.f0, by simpa using h.f1, by simpa using h.f2, by simpa using h.f3, by simpa using h.f4, by simpa using h.f5,
    h.qF, h.Fg, fun k hk' => Nat.lt_of_lt_of_le (h.Fl k hk') hk.size, ⟨h.ok.len, h.ok.n1, h.ok.n2, h.ok.lt, h.ok.pend, hl, d4⟩⟩, d3⟩

theorem Dr.store5 {w : World} {g : Nat} {q p : Option Nat} {F : Nat → Prop} {n : Nat} {s : St} {u : Value} {l : List Nat} (h : Dr w g q p F n s) (hu : Bs w u l) (hl : l.length ≤ 140737488355328) (hb : ∀ b, u.ownBlock = some b → F b ∧ p ≠ some b ∧ q ≠ some b) : Dr (w.setCell ⟨g, 5, none⟩ u) g q p F n { s with picks := l } := by
  obtain ⟨v, vs, a1, a2⟩ := h.c0
  obtain ⟨v1, vs1, b1, b2, b3⟩ := h.c1
  obtain ⟨v5, pk, d1, d2, d3, d4, d5⟩ := h.c5
  have hk : Keeps (fun k => k = g) w (w.setCell ⟨g, 5, none⟩ u) := keeps_set w g 5 _
  have hS : ∀ k, F k → ¬ (fun k => k = g) k := fun k hk e => h.Fg (by have e' : k = g := e; exact e' ▸ hk)
  exact ⟨⟨v, vs, cell_set_other a1 (by omega), a2.keeps hk (fun b hb => hS b (h.qF b hb).1) hS⟩, ⟨v1, vs1, cell_set_other b1 (by omega), b2.keeps hk hS, b3⟩, cell_set_other h.c2 (by omega), cell_set_other h.c3 (by omega), cell_set_other h.c4 (by omega), ⟨u, l, cell_set_same d1, hk.bs hu (fun b hb' => hS b (hb b hb').1), fun _ => rfl, hl, hb⟩,
    by simpa using h.f0, by simpa using h.f1, by simpa using h.f2, by simpa using h.f3, by simpa using h.f4, by simpa using h.f5,
    h.qF, h.Fg, fun k hk' => Nat.lt_of_lt_of_le (h.Fl k hk') hk.size, ⟨h.ok.len, h.ok.n1, h.ok.n2, h.ok.lt, h.ok.pend, h.ok.left, hl⟩⟩

theorem Dr.store1 {w : World} {g : Nat} {q p : Option Nat} {F : Nat → Prop} {n : Nat} {s : St} (h : Dr w g q p F n s) : Dr (w.setCell ⟨g, 1, none⟩ (.slice none 0 0)) g q none F n { s with pend := [] } := by
  obtain ⟨v, vs, a1, a2⟩ := h.c0
  obtain ⟨v1, vs1, b1, b2, b3⟩ := h.c1
  obtain ⟨v5, pk, d1, d2, d3, d4, d5⟩ := h.c5
  have hk : Keeps (fun k => k = g) w (w.setCell ⟨g, 1, none⟩ (.slice none 0 0)) := keeps_set w g 1 _
  have hS : ∀ k, F k → ¬ (fun k => k = g) k := fun k hk e => h.Fg (by have e' : k = g := e; exact e' ▸ hk)
  have a3 := a2.keeps hk (fun b hb => hS b (h.qF b hb).1) hS
  exact ⟨⟨v, vs, cell_set_other a1 (by omega), ⟨a3.row, a3.own, fun i hv => ⟨(a3.bs i hv).1, fun b hb => ⟨((a3.bs i hv).2 b hb).1, by simp, ((a3.bs i hv).2 b hb).2.2⟩⟩⟩⟩, ⟨_, [], cell_set_same b1, ⟨World.ownsRow_nil _ _ _ _, rfl, rfl, by simp, by simp⟩, by simp⟩, cell_set_other h.c2 (by omega), cell_set_other h.c3 (by omega), cell_set_other h.c4 (by omega), ⟨v5, pk, cell_set_other d1 (by omega), hk.bs d2 (fun b hb => hS b (d5 b hb).1), d3, d4, fun b hb => ⟨(d5 b hb).1, by simp, (d5 b hb).2.2⟩⟩,
    by simpa using h.f0, by simpa using h.f1, by simpa using h.f2, by simpa using h.f3, by simpa using h.f4, by simpa using h.f5,
    fun b hb => ⟨(h.qF b hb).1, by simp⟩, h.Fg, fun k hk' => Nat.lt_of_lt_of_le (h.Fl k hk') hk.size, ⟨h.ok.len, h.ok.n1, h.ok.n2, h.ok.lt, by simp, h.ok.left, h.ok.picks⟩⟩

theorem Dr.picks {w : World} {g : Nat} {q p : Option Nat} {F : Nat → Prop} {n : Nat} {s : St} (h : Dr w g q p F n s) (l : List Nat) (hl : s.left = 0) (hp : l.length ≤ 140737488355328) : Dr w g q p F n { s with picks := l } := by
  obtain ⟨v5, pk, d1, d2, d3, d4, d5⟩ := h.c5
  exact ⟨h.c0, h.c1, h.c2, h.c3, h.c4, ⟨v5, pk, d1, d2, fun h' => by dsimp only at h'; omega, d4, d5⟩, h.f0, h.f1, h.f2, h.f3, h.f4, h.f5, h.qF, h.Fg, h.Fl, ⟨h.ok.len, h.ok.n1, h.ok.n2, h.ok.lt, h.ok.pend, h.ok.left, hp⟩⟩

set_option maxRecDepth 100000 in
set_option maxHeartbeats 400000 in
theorem rrestart_yes {w : World} {g : Nat} {q p : Option Nat} {F : Nat → Prop} {n : Nat} {s : St} (h : Dr w g q p F n s) :
    Calls Tryz.prog 29 #[.pointer (some ⟨g, 0, none⟩)] w fun e w' => e = .returned (.int .i64 (restartS s).2) ∧ TurnX w g F n (restartS s).1 w' := by
  have c2 := h.c2
  have f2 := h.f2
  cases hon : s.on with
  | true =>
    have e : restartS s = (s, 7) := by simp [restartS, hon]
    rw [e]; clear e
    rw [hon] at c2
    clear hon
    go_enter Tryz.func29, Tryz.ntmps29
    go_wp2
    go_ret
    exact ⟨rfl, q, p, F, h, Keeps.refl _ _, fun _ h => .inl h⟩
  | false =>
    have e : restartS s = ({ s with on := true }, 0) := by simp [restartS, hon]
    rw [e]; clear e
    rw [hon] at c2
    clear hon
    have H2 := hide (h.store2 (b := true))
    go_enter Tryz.func29, Tryz.ntmps29
    go_wp2
    go_ret
    exact ⟨rfl, q, p, F, H2.out, (keeps_set _ _ _ _).mono (fun _ h => .inl h), fun _ h => .inl h⟩

/-- Whether the power goes in an operation's midst, and what is left. -/
def goesS (s : St) : St × Bool := if s.left = 0 then ({ s with ops := s.ops + 1 }, false) else ({ s with ops := s.ops + 1, left := s.left - 1 }, decide (s.left = 1))

/-- The picks that are armed stand in their cell. -/
def PkAt (w : World) (g : Nat) (q p : Option Nat) (F : Nat → Prop) (s : St) : Prop :=
  ∃ v, w.cell? ⟨g, 5, none⟩ = some v ∧ (0 < s.left → Bs w v s.picks) ∧ ∀ b, v.ownBlock = some b → F b ∧ p ≠ some b ∧ q ≠ some b

set_option maxRecDepth 100000 in
set_option maxHeartbeats 400000 in
theorem goes_yes {w : World} {g : Nat} {q p : Option Nat} {F : Nat → Prop} {n : Nat} {s : St} (h : Dr w g q p F n s) (ho : s.ops ≤ 1000000) :
    Calls Tryz.prog 56 #[.pointer (some ⟨g, 0, none⟩)] w fun e w' => e = .returned (.bool (goesS s).2) ∧ Dr w' g q p F n (goesS s).1 ∧ Keeps (fun k => k = g) w w' ∧ PkAt w' g q p F s := by
  obtain ⟨v5, pk5, d1, d2, d3, d4, d5⟩ := h.c5
  have hp3 : ∀ u, PkAt (w.setCell ⟨g, 3, none⟩ u) g q p F s := fun u => ⟨v5, cell_set_other d1 (by omega), fun h' => by rw [← d3 h']; exact (keeps_set w g 3 u).bs d2 (fun b hb e => h.Fg ((show b = g from e) ▸ (d5 b hb).1)), d5⟩
  have hp34 : ∀ u u', PkAt ((w.setCell ⟨g, 3, none⟩ u).setCell ⟨g, 4, none⟩ u') g q p F s := fun u u' => ⟨v5, cell_set_other (cell_set_other d1 (by omega)) (by omega), fun h' => by rw [← d3 h']; exact ((keeps_set w g 3 u).trans (keeps_set _ g 4 u')).bs d2 (fun b hb e => h.Fg ((show b = g from e) ▸ (d5 b hb).1)), d5⟩
  clear d1 d2 d3 d4 d5
  have Hp3 := hide hp3
  have Hp34 := hide hp34
  clear hp3 hp34
  have c3 := h.c3
  have c4 := h.c4
  have f3 := h.f3
  have f4 := h.f4
  have hleft := h.ok.left
  have h3 := h.store3 (l := s.ops + 1)
  have e3 : ((s.ops + 1 : Nat) : Int) = (s.ops : Int) + 1 := by omega
  rw [e3] at h3
  have H3 := hide h3
  clear h3 e3
  by_cases h0 : s.left = 0
  · have e : goesS s = ({ s with ops := s.ops + 1 }, false) := by simp [goesS, h0]
    rw [e]; clear e
    rw [h0] at c4
    clear h0
    go_enter Tryz.func56, Tryz.ntmps56
    go_wp2
    go_ret
    exact ⟨rfl, H3.out, keeps_set _ _ _ _, Hp3.out _⟩
  · have e : goesS s = ({ s with ops := s.ops + 1, left := s.left - 1 }, decide (s.left = 1)) := by simp [goesS, h0]
    obtain ⟨pk, h4, hpk⟩ := H3.out.store4 (l := s.left - 1) (by omega)
    have e5 : ((s.left - 1 : Nat) : Int) = (s.left : Int) - 1 := by omega
    rw [e5] at h4
    dsimp only at h4 hpk
    rw [hpk (by omega)] at h4
    have H4 := hide h4
    have h1 : ((s.left : Int) == 0) = false := by simp; omega
    rw [e]; clear e h4 e5 hpk
    by_cases h2 : s.left = 1
    · have d : decide (s.left = 1) = true := by simp [h2]
      rw [d]; clear d
      have h5 : ((s.left : Int) - 1 == 0) = true := by simp; omega
      clear h0 h2
      go_enter Tryz.func56, Tryz.ntmps56
      go_wp2
      go_ret
      exact ⟨by simp [h5], H4.out, (keeps_set _ _ _ _).trans (keeps_set _ _ _ _), Hp34.out _ _⟩
    · have d : decide (s.left = 1) = false := by simp [h2]
      rw [d]; clear d
      have h5 : ((s.left : Int) - 1 == 0) = false := by simp; omega
      clear h0 h2
      go_enter Tryz.func56, Tryz.ntmps56
      go_wp2
      go_ret
      exact ⟨by simp [h5], H4.out, (keeps_set _ _ _ _).trans (keeps_set _ _ _ _), Hp34.out _ _⟩

set_option maxRecDepth 100000 in
set_option maxHeartbeats 1000000 in
theorem rarm_yes {w : World} {g : Nat} {q p : Option Nat} {F : Nat → Prop} {n : Nat} {s : St} (h : Dr w g q p F n s) (i : Int) (vp : Value) (picks : List Nat) (hv : Bs w vp picks) (hvg : ∀ b, vp.ownBlock = some b → b ≠ g) (hpk : picks.length ≤ 140737488355328) (hi' : i ≤ 9223372036854775807) :
    Calls Tryz.prog 23 #[.pointer (some ⟨g, 0, none⟩), .int .i64 i, vp] w fun e w' => e = .returned (.int .i64 (armS s i picks).2) ∧ TurnX w g F n (armS s i picks).1 w' := by
  obtain ⟨i0, hi, hz0, hz1, hz2⟩ := info_parts Tryz.info5
  have c2 := h.c2
  cases hon : s.on with
  | false =>
    have e : armS s i picks = (s, 5) := by simp [armS, hon]
    rw [e]; clear e
    rw [hon] at c2
    clear hon
    go_enter Tryz.func23, Tryz.ntmps23
    go_wp2
    go_ret
    exact ⟨rfl, q, p, F, h, Keeps.refl _ _, fun _ h => .inl h⟩
  | true =>
    rw [hon] at c2
    by_cases h0 : i < 0
    · have e : armS s i picks = (s, 1) := by simp [armS, hon, h0]
      rw [e]; clear e
      clear hon
      go_enter Tryz.func23, Tryz.ntmps23
      go_wp2
      go_ret
      exact ⟨rfl, q, p, F, h, Keeps.refl _ _, fun _ h => .inl h⟩
    · obtain ⟨k, rfl⟩ := Int.eq_ofNat_of_zero_le (show 0 ≤ i by omega)
      obtain ⟨st, hst⟩ : ∃ st, (armS s (k : Int) picks).1 = st := ⟨_, rfl⟩
      have he : (armS s (k : Int) picks).2 = 0 := by
        have h3 : ¬ ((k : Int) < 0) := by omega
        by_cases hk : k = 0
        · simp [armS, hon, hk]
        · simp [armS, hon, hk, h3]
      have c4 := h.c4
      have f4 := h.f4
      have f5 := h.f5
      obtain ⟨pk, h4, _⟩ := h.store4 (l := k) (by omega)
      have k4 := keeps_set w g 4 (.int .i64 ((k : Nat) : Int))
      have hv4 := k4.bs hv hvg
      have hgl := h.gl
      obtain ⟨v5, pk5, c5, _⟩ := h4.c5
      have f54 := h4.f5
      have H4 := hide h4
      have Hst := hide hst
      have Hon := hide hon
      rw [hst, he]
      clear hst he h4 hon
      have hz4 : (w.setCell ⟨g, 4, none⟩ (.int .i64 ((k : Nat) : Int))).heap.size = w.heap.size := by simp
      obtain ⟨w4, hw4⟩ : ∃ w4, w.setCell ⟨g, 4, none⟩ (.int .i64 ((k : Nat) : Int)) = w4 := ⟨_, rfl⟩
      rw [hw4] at hv4 c5 f54 H4 k4 hz4
      have hfz : w4.frozen? ⟨g, 5, none⟩ = false := f54
      have hgl4 : g < w4.heap.size := by omega
      go_enter Tryz.func23, Tryz.ntmps23
      go_wp2_with (at_builtin; refine wpList_append_bs _ rfl (.const (.slice none 0 0)) (.tmp 18) 30 rfl w.heap.size 5 i0 (.int .u8 0) Tryz.underlying30 hi hz0 hz1 hz2 rfl _ 0 [] rfl (World.ownsRow_nil _ _ _ _) _ picks rfl hv4 (by omega) (by omega) ?_; intro v1 w1 hown hgrow; have hb1 := (show Below w4.heap.size w4 w1 from (Below.refl _ _).grown hgrow (Nat.le_refl _) (by intro k hk; cases hk)); have c51 := (Keeps.of_below (S := fun _ => False) hb1).cell c5 id; have f51 := (show w1.frozen? ⟨g, 5, none⟩ = false by rw [hb1.frozen (p := ⟨g, 5, none⟩) hgl4]; exact f54); rw [Nat.zero_add, List.nil_append] at hown; obtain ⟨ao1, cap1, rfl⟩ := owns_slice hown)
      have hlt1 := hown.lt
      have h1 := H4.out.mono hb1
      have hs1 := hb1.size
      have h2 := h1.widen (F' := fun k => F k ∨ (Value.slice ao1 picks.length cap1).ownBlock = some k) (fun _ h => .inl h) (by rintro (e | e); exact h.Fg e; have := hlt1 _ e; omega) (by rintro k (e | e); exact h1.Fl k e; exact (hlt1 _ e).2)
      obtain ⟨v1', vs1', _, hW1, _⟩ := h.c1
      have h3 := h2.store5 (u := .slice ao1 picks.length cap1) (l := picks) (Bs.of_owns hown hv.lt) hpk (fun b hb => ⟨.inr hb, fun e => by have := h.Fl b (hW1.pF b e); have := hlt1 _ hb; omega, fun e => by have := h.Fl b (h.qF b e).1; have := hlt1 _ hb; omega⟩)
      have hfin : Dr (w1.setCell ⟨g, 5, none⟩ (.slice ao1 picks.length cap1)) g q p (fun k => F k ∨ (Value.slice ao1 picks.length cap1).ownBlock = some k) n st := by
        rw [← Hst.out]
        by_cases hk : k = 0
        · subst hk
          have e : (armS s ((0 : Nat) : Int) picks).1 = { s with left := 0, picks := [] } := by simp [armS, Hon.out]
          rw [e]
          exact h3.picks [] rfl (by simp)
        · have h9 : ¬ ((k : Int) < 0) := by omega
          have e : (armS s ((k : Nat) : Int) picks).1 = { s with left := k, picks := picks } := by simp [armS, Hon.out, hk, h9]
          rw [e]
          exact h3
      have kf : Keeps (OwnX g F) w (w1.setCell ⟨g, 5, none⟩ (.slice ao1 picks.length cap1)) := ((k4.trans (Keeps.of_below hb1)).trans (keeps_set w1 g 5 _)).mono (fun _ h => .inl h)
      have Hfin := hide hfin
      have Kf := hide kf
      clear hfin kf h3 h2 h1 hown hgrow
      go_wp2
      go_ret
      exact ⟨rfl, q, p, _, Hfin.out, Kf.out, fun k hk => hk.imp id (fun h => by have := (hlt1 _ h).1; omega)⟩


end Go.Proofs.YtjhbljkoapbkfaaGreat
