/- A row of records that one law keeps: appended to, cut ahead; and what a ring on a disk that nothing crashed holds. -/
import Derived.Test.YtjhbljkoapbkfaaGreatM26
import Derived.ArgAppend
set_option linter.unusedSimpArgs false
set_option linter.unusedVariables false

namespace Go.Proofs.YtjhbljkoapbkfaaGreat
open Go.RowKit Go.Attic Go.ChangeShapes Go.WideShapes Go.Shelf

theorem keeps_setCells (b : Nat) : ∀ (vs : List Value) (o : Nat) (w : World), Keeps (fun k => k = b) w (w.setCells b o vs)
  | [], _, w => Keeps.refl _ w
  | v :: r, o, w => (keeps_set w b o v).trans (keeps_setCells b r (o + 1) _)

/-- A row of records in block wb, some way in, with room behind. -/
structure Wt (w : World) (wb : Nat) (F : Nat → Prop) (ao : Option Addr) (cap : Nat) (rs : List Rc) (vs : List Value) : Prop where
  le : rs.length ≤ cap
  len : vs.length = rs.length
  spot : 0 < cap → ∃ off, ao = some ⟨wb, off, none⟩ ∧ wb < w.heap.size ∧ (∀ j u, (cellsR rs vs)[j]? = some u → w.cell? ⟨wb, off + j, none⟩ = some u) ∧ ∀ j, j < cap * 5 → (w.cell? ⟨wb, off + j, none⟩).isSome = true ∧ w.frozen? ⟨wb, off + j, none⟩ = false
  bs : ∀ i (hi : i < rs.length) (hv : i < vs.length), Bs w vs[i] (rs[i]).l ∧ (0 < (rs[i]).l.length → ∀ k, vs[i].ownBlock = some k → F k)

theorem Wt.nil (w : World) (F : Nat → Prop) : Wt w 0 F none 0 [] [] := ⟨Nat.le_refl _, rfl, fun h => by omega, by simp⟩

theorem frozen_of_block {w w' : World} {a : Addr} (h : w'.heap[a.block]? = w.heap[a.block]?) : w'.frozen? a = w.frozen? a := by simp [World.frozen?, h]

theorem Wt.keeps {w w' : World} {wb : Nat} {F S : Nat → Prop} {ao : Option Addr} {cap : Nat} {rs : List Rc} {vs : List Value} (h : Wt w wb F ao cap rs vs) (hk : Keeps S w w') (hw : 0 < cap → ¬ S wb) (hF : ∀ k, F k → ¬ S k) : Wt w' wb F ao cap rs vs := by
  refine ⟨h.le, h.len, fun hc => ?_, fun i hi hv => ⟨keeps_bs hk (h.bs i hi hv).1 (fun hp b hb => hF b ((h.bs i hi hv).2 hp b hb)), (h.bs i hi hv).2⟩⟩
  obtain ⟨off, e, hl, h1, h2⟩ := h.spot hc
  have hbk := hk.block wb hl (hw hc)
  refine ⟨off, e, by have := hk.size; omega, fun j u hj => (World.cell?_of_block (a := ⟨wb, off + j, none⟩) hbk).trans (h1 j u hj), fun j hj => ?_⟩
  rw [World.cell?_of_block (a := ⟨wb, off + j, none⟩) hbk, frozen_of_block (a := ⟨wb, off + j, none⟩) hbk]
  exact h2 j hj

theorem rcAt_of {w : World} {b off : Nat} {rs : List Rc} {vs : List Value} (hl : vs.length = rs.length) (h1 : ∀ j u, (cellsR rs vs)[j]? = some u → w.cell? ⟨b, off + j, none⟩ = some u) (i : Nat) (hi : i < rs.length) (hv : i < vs.length) : RcAt w b (off + i * 5) rs[i] vs[i] := by
  have key : ∀ j, j < 5 → ∀ u, (rs[i].cells vs[i])[j]? = some u → w.cell? ⟨b, off + i * 5 + j, none⟩ = some u := fun j hj u hu => by
    rw [Nat.add_assoc]
    exact h1 _ u (by rw [cellsR_at hl i hi j hj]; exact hu)
  exact ⟨key 0 (by omega) _ rfl, key 1 (by omega) _ rfl, key 2 (by omega) _ rfl, key 3 (by omega) _ rfl, key 4 (by omega) _ rfl⟩

theorem Wt.rs {w : World} {wb : Nat} {F : Nat → Prop} {ao : Option Addr} {cap : Nat} {rs : List Rc} {vs : List Value} (h : Wt w wb F ao cap rs vs) : Rs w (fun k => F k ∨ k = wb) (.slice ao rs.length cap) rs := by
  refine ⟨ao, cap, vs, rfl, h.le, h.len, fun hp => ?_, fun i hi hv => ⟨(h.bs i hi hv).1, fun hp k hk => .inl ((h.bs i hi hv).2 hp k hk)⟩⟩
  obtain ⟨off, e, hl, h1, h2⟩ := h.spot (by have := h.le; omega)
  exact ⟨wb, off, e, .inr rfl, fun i hi hv => rcAt_of h.len h1 i hi hv⟩

/-- want[k:] -/
theorem Wt.cut {w : World} {wb : Nat} {F : Nat → Prop} {ao : Option Addr} {cap : Nat} {rs : List Rc} {vs : List Value} (h : Wt w wb F ao cap rs vs) (k : Nat) (hk : k ≤ rs.length) : Wt w wb F (if cap = k then ao else ao.map (·.add (k * 5))) (cap - k) (rs.drop k) (vs.drop k) := by
  have hle := h.le
  refine ⟨by simp; omega, by simp [h.len], fun hc => ?_, fun i hi hv => ?_⟩
  · obtain ⟨off, e, hl, h1, h2⟩ := h.spot (by omega)
    rw [if_neg (by omega), e]
    refine ⟨off + k * 5, by simp [Addr.add_lit], hl, fun j u hj => ?_, fun j hj => ?_⟩
    · rw [cellsR_drop rs vs k h.len hk, List.getElem?_drop] at hj
      rw [Nat.add_assoc]
      exact h1 _ u hj
    · rw [Nat.add_assoc]
      exact h2 _ (by omega)
  · simp only [List.getElem_drop]
    exact h.bs _ _ _

theorem rs_cells {w : World} {F : Nat → Prop} {ad : Addr} {cap : Nat} {rs : List Rc} {vs : List Value} (h2 : vs.length = rs.length) (h3 : 0 < rs.length → ∃ b off, some ad = some (⟨b, off, none⟩ : Addr) ∧ F b ∧ ∀ i (hi : i < rs.length) (hv : i < vs.length), RcAt w b (off + i * 5) rs[i] vs[i]) : ∀ j u, (cellsR rs vs)[j]? = some u → w.cell? (ad.add j) = some u := by
  intro j u hj
  have hjl : j < rs.length * 5 := by rw [← cellsR_length rs vs h2]; exact (List.getElem?_eq_some_iff.1 hj).1
  obtain ⟨b, off, e, hF, hc⟩ := h3 (by omega)
  injection e with e
  subst e
  have hat := hc (j / 5) (by omega) (by omega)
  have hj2 := cellsR_at h2 (j / 5) (by omega) (j % 5) (by omega)
  rw [show j / 5 * 5 + j % 5 = j by omega, hj] at hj2
  rw [Addr.add_lit, show off + j = off + j / 5 * 5 + j % 5 by omega]
  have h5 : j % 5 = 0 ∨ j % 5 = 1 ∨ j % 5 = 2 ∨ j % 5 = 3 ∨ j % 5 = 4 := by omega
  rcases h5 with h5 | h5 | h5 | h5 | h5
  all_goals
    rw [h5] at hj2 ⊢
    simp only [Rc.cells, List.getElem?_cons_zero, List.getElem?_cons_succ] at hj2
    injection hj2 with hj2
    subst hj2
  · exact hat.c0
  · exact hat.c1
  · exact hat.c2
  · exact hat.c3
  · exact hat.c4

theorem run_append_nothing {P : Program} (w : World) (t ty e : TypeId) (i : TypeInfo) (ht : P.underlying t = some (.slice e)) (hi : P.info? e = some i) (ao ax : Option Addr) (n cap c : Nat) (hn : n ≤ cap) :
    (Builtin.append_ #[t, t] ty #[.slice ao n cap, .slice ax 0 c]).run P w = .ok (.slice ao n cap) w := by
  cases ao <;> cases ax <;> simp [Builtin.append_, run_underlying ht, sizeOf, typeInfo, hi, Builtin.lenOf, Builtin.firstCells, hn, storeCells, loadCells, loadCellsFrom]

set_option maxRecDepth 100000 in
theorem wpList_append_want {ops : Array Oper} {rest : List Oper} {o : Oper} {a : Act} {Q : Exit → Act → World → Prop} (w : World) (hgd : o.guard = none) (s x : Operand) (ho : o.op = .call { callee := .builtin .append, args := #[s, x], argTypes := #[29, 29] })
    {wb : Nat} {F : Nat → Prop} {ao : Option Addr} {cap : Nat} {rs0 : List Rc} {vs0 : List Value} (hs : a.eval s = .slice ao rs0.length cap) (hW : Wt w wb F ao cap rs0 vs0) (hFw : 0 < cap → ¬ F wb) (hFl : ∀ k, F k → k < w.heap.size) (hnn : ao = none → cap = 0) (vx : Value) (rs : List Rc) (hx : a.eval x = vx) (hr : Rs w F vx rs) (hb : rs0.length + rs.length ≤ 4096)
    (h : ∀ ao' cap' wb' vs' w', Wt w' wb' F ao' cap' (rs0 ++ rs) vs' → Keeps (fun k => 0 < cap ∧ k = wb) w w' → (ao' = none → cap' = 0) → (0 < cap' → (0 < cap ∧ wb' = wb) ∨ w.heap.size ≤ wb') → wpList Tryz.prog ops Q rest (a.put o.dst (.slice ao' (rs0.length + rs.length) cap')) w') : wpList Tryz.prog ops Q (o :: rest) a w := by
  obtain ⟨i0, hi, hz0, hz1, hz2⟩ := info_parts Tryz.info52
  obtain ⟨ax, cx, vs, rfl, h1, h2, h3, h4⟩ := hr
  have hl0 := hW.len
  have hcl : cellsR (rs0 ++ rs) (vs0 ++ vs) = cellsR rs0 vs0 ++ cellsR rs vs := cellsR_app _ _ _ _ hl0
  have hsl : ∀ u ∈ vs, ∃ ao n c, u = .slice ao n c := fun u hu => by
    obtain ⟨i, hi, rfl⟩ := List.getElem_of_mem hu
    obtain ⟨ao, cap, e, _⟩ := (h4 i (by omega) hi).1
    exact ⟨ao, _, cap, e⟩
  have hbs : ∀ w', Keeps (fun k => 0 < cap ∧ k = wb) w w' → ∀ i (hi : i < (rs0 ++ rs).length) (hv : i < (vs0 ++ vs).length), Bs w' (vs0 ++ vs)[i] ((rs0 ++ rs)[i]).l ∧ (0 < ((rs0 ++ rs)[i]).l.length → ∀ k, (vs0 ++ vs)[i].ownBlock = some k → F k) := fun w' hk i hi hv => by
    by_cases hii : i < rs0.length
    · simp only [List.getElem_append_left hii, List.getElem_append_left (show i < vs0.length by omega)]
      have := hW.bs i hii (by omega)
      exact ⟨keeps_bs hk this.1 (fun hp b hb e => hFw e.1 (e.2 ▸ this.2 hp b hb)), this.2⟩
    · simp only [List.getElem_append_right (show rs0.length ≤ i by omega), List.getElem_append_right (show vs0.length ≤ i by omega)]
      simp only [List.length_append] at hi hv
      simp only [hl0]
      have := h4 (i - rs0.length) (by omega) (by omega)
      exact ⟨keeps_bs hk this.1 (fun hp b hb e => hFw e.1 (e.2 ▸ this.2 hp b hb)), this.2⟩
  by_cases hm : rs.length = 0
  · have h0 : rs = [] := List.eq_nil_of_length_eq_zero hm
    subst h0
    have hv0 : vs = [] := List.eq_nil_of_length_eq_zero (by simpa using h2)
    subst hv0
    have hrun := run_append_nothing (P := Tryz.prog) w 29 o.type 52 i0 Tryz.underlying29 hi ao ax rs0.length cap cx hW.le
    refine wpList_plain hgd fun K hK => ?_
    unfold Oper.wp
    simp [execOp, ho, resolve, invoke, builtin, hs, hx, hrun, Result.andThen]
    exact hK _ _ (h ao cap wb vs0 w (by simpa using hW) (Keeps.refl _ _) hnn (fun hc => .inl ⟨hc, rfl⟩))
  · obtain ⟨bx, ox, e, hFb, hat⟩ := h3 (by omega)
    subst e
    have hcells := rs_cells (w := w) (F := F) (cap := cx) (ad := ⟨bx, ox, none⟩) h2 (fun _ => ⟨bx, ox, rfl, hFb, hat⟩)
    have hcl2 := cellsR_length rs vs h2
    have hcl0 := cellsR_length rs0 vs0 hl0
    by_cases hroom : rs0.length + rs.length ≤ cap
    · obtain ⟨off, e, hwl, hc1, hc2⟩ := hW.spot (by omega)
      subst e
      obtain ⟨hi1, hi2⟩ : i0.size = 5 ∧ True := ⟨hz1, trivial⟩
      have hrun := run_append_room_cells (P := Tryz.prog) w 29 o.type 52 i0 Tryz.underlying29 hi wb off rs0.length cap ⟨bx, ox, none⟩ rs.length cx (cellsR rs vs) (by rw [hi1]; exact hcl2) hcells (cellsR_one _ _ hsl) hroom (fun j hj => by rw [hi1, Nat.add_assoc]; exact (hc2 _ (by omega)).1) (fun j hj => by rw [hi1, Nat.add_assoc]; exact (hc2 _ (by omega)).2)
      rw [hi1] at hrun
      have hk : Keeps (fun k => 0 < cap ∧ k = wb) w (w.setCells wb (off + rs0.length * 5) (cellsR rs vs)) := (keeps_setCells wb _ _ w).mono (fun k hk => ⟨by omega, hk⟩)
      refine wpList_plain hgd fun K hK => ?_
      unfold Oper.wp
      simp [execOp, ho, resolve, invoke, builtin, hs, hx, hrun, Result.andThen]
      refine hK _ _ (h (some ⟨wb, off, none⟩) cap wb (vs0 ++ vs) _ ⟨by simp; omega, by simp [hl0, h2], fun _ => ⟨off, rfl, Nat.lt_of_lt_of_le hwl hk.size, fun j u hj => ?_, fun j hj => ?_⟩, hbs _ hk⟩ hk (fun e => by cases e) (fun hc => .inl ⟨hc, rfl⟩))
      · rw [hcl] at hj
        by_cases hjj : j < rs0.length * 5
        · rw [List.getElem?_append_left (by omega)] at hj
          rw [World.cell?_setCells_out _ _ _ _ _ (fun _ _ => .inl (by show off + j < _; omega))]
          exact hc1 j u hj
        · rw [List.getElem?_append_right (by omega)] at hj
          have hjl : j - (cellsR rs0 vs0).length < (cellsR rs vs).length := (List.getElem?_eq_some_iff.1 hj).1
          have := World.cell?_setCells_in wb (cellsR rs vs) (off + rs0.length * 5) w (fun j hj => by rw [Nat.add_assoc]; exact (hc2 _ (by omega)).1) (j - (cellsR rs0 vs0).length) hjl
          rw [show off + j = off + rs0.length * 5 + (j - (cellsR rs0 vs0).length) by omega, this, ← hj, List.getElem?_eq_getElem hjl]
      · rw [World.frozen?_setCells]
        refine ⟨?_, (hc2 j hj).2⟩
        by_cases hjj : rs0.length * 5 ≤ j ∧ j < rs0.length * 5 + (cellsR rs vs).length
        · have hjl : j - rs0.length * 5 < (cellsR rs vs).length := by omega
          have := World.cell?_setCells_in wb (cellsR rs vs) (off + rs0.length * 5) w (fun j hj => by rw [Nat.add_assoc]; exact (hc2 _ (by omega)).1) (j - rs0.length * 5) hjl
          rw [show off + j = off + rs0.length * 5 + (j - rs0.length * 5) by omega, this]
          rfl
        · rw [World.cell?_setCells_out _ _ _ _ _ (fun _ _ => by show off + j < _ ∨ _ ≤ off + j; omega)]
          exact (hc2 j hj).1
    · refine wpList_append_grows w hgd s x 29 ho 52 i0 (.agg #[.int .i64 0, .int .i64 0, .int .i64 0, .slice none 0 0, .int .i64 0]) 5 56 Tryz.underlying29 hi hz0 hz1 hz2 rfl (by decide) ao rs0.length cap (cellsR rs0 vs0) hs (fun e => ⟨by have := hnn e; have := hW.le; omega, hnn e⟩) hcl0 (fun b e j u hj => ?_) ⟨bx, ox, none⟩ rs.length cx (cellsR rs vs) hx hcl2 hcells (cellsR_one _ _ hsl) (by omega) (by unfold maxLen; omega) (by omega) ?_
      · have hjl : j < rs0.length * 5 := by rw [← hcl0]; exact (List.getElem?_eq_some_iff.1 hj).1
        obtain ⟨off, e', hwl, hc1, hc2⟩ := hW.spot (by have := hW.le; omega)
        rw [e] at e'
        injection e' with e'
        subst e'
        rw [Addr.add_lit]
        exact hc1 j u hj
      · intro v' w' hown hg
        have hk : Keeps (fun k => 0 < cap ∧ k = wb) w w' := (keeps_grown hg).mono (fun k hk => by cases hk)
        rw [← hcl] at hown
        rcases hown.2 with ⟨_, e0⟩ | ⟨gb, cp, cur, rfl, hge, hheap, hle, hmax, hsz, htk⟩
        · omega
        · have hgl : gb < w'.heap.size := by
            rcases Nat.lt_or_ge gb w'.heap.size with h | h
            · exact h
            · rw [Array.getElem?_eq_none h] at hheap; cases hheap
          have hcur : ∀ j, j < cp * 5 → w'.cell? ⟨gb, 0 + j, none⟩ = cur[j]? := fun j hj => by
            simp [World.cell?, hheap]
          refine h (some ⟨gb, 0, none⟩) cp gb (vs0 ++ vs) w' ⟨by simp; omega, by simp [hl0, h2], fun _ => ⟨0, rfl, hgl, fun j u hj => ?_, fun j hj => ?_⟩, hbs _ hk⟩ hk (fun e => by cases e) (fun _ => .inr hge)
          · have hjl : j < (rs0 ++ rs).length * 5 := by rw [← cellsR_length (rs0 ++ rs) (vs0 ++ vs) (by simp [hl0, h2])]; exact (List.getElem?_eq_some_iff.1 hj).1
            simp only [List.length_append] at hjl
            rw [hcur j (by omega), ← hj, ← htk, List.getElem?_take_of_lt hjl, Array.getElem?_toList]
          · rw [hcur j hj]
            refine ⟨by simp; omega, by simp [World.frozen?, hheap]⟩


end Go.Proofs.YtjhbljkoapbkfaaGreat
