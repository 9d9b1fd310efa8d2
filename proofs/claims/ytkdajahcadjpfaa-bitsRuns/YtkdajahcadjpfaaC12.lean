/- Contracts: atticref02.Runs, and slices.Equal over runs. -/
import Derived.Test.YtkdajahcadjpfaaC11
import Derived.Deep.QuietTactic
import Derived.Laws.StructEq
set_option linter.unusedSimpArgs false
set_option linter.unusedVariables false
namespace Go.Proofs.Ytkdajahcadjpfaa
open Go.RowKit Go.Attic

theorem stR_pos : ∀ p : List Nat, p ≠ [] → 0 < (stR p).2.2 := by
  refine snoc_ind (fun h => absurd rfl h) ?_
  intro p i _ _
  rw [stR_snoc]
  unfold stepR
  split
  · simp only; omega
  · split <;> simp

theorem runs_zero {l : List Nat} {k : Nat} (hb : bitB l k = false) : runsN l (k + 1) = runsN l k := by
  unfold runsN
  rw [onesN_succ, hb]
  simp
theorem runs_first {l : List Nat} {k : Nat} (hb : bitB l k = true) (h : runsN l k = []) : runsN l (k + 1) = [(k, 1)] := by
  have hp : onesN l k = [] := by
    refine Classical.byContradiction fun hn => ?_
    have := stR_pos _ hn
    unfold runsN finR at h
    rw [if_pos this] at h
    simp at h
  unfold runsN
  rw [onesN_succ, hb, hp]
  rfl
theorem runs_last {l : List Nat} {k a m : Nat} {r0 : List (Nat × Nat)} (h : runsN l k = r0 ++ [(a, m)]) : stR (onesN l k) = (r0, a, m) ∧ 0 < m := by
  have hp : onesN l k ≠ [] := by
    intro hn
    unfold runsN at h
    rw [hn] at h
    simp [stR_nil, finR] at h
  have hm := stR_pos _ hp
  unfold runsN finR at h
  rw [if_pos hm] at h
  generalize stR (onesN l k) = s at *
  obtain ⟨d, a', m'⟩ := s
  obtain ⟨h1, h2⟩ := List.append_inj' h rfl
  simp only [List.cons.injEq, Prod.mk.injEq, and_true] at h2
  simp only at hm h1
  obtain ⟨rfl, rfl⟩ := h2
  subst h1
  exact ⟨rfl, hm⟩
theorem runs_more {l : List Nat} {k a m : Nat} {r0 : List (Nat × Nat)} (hb : bitB l k = true) (h : runsN l k = r0 ++ [(a, m)]) (he : a + m = k) : runsN l (k + 1) = r0 ++ [(a, m + 1)] := by
  obtain ⟨h1, h2⟩ := runs_last h
  unfold runsN
  rw [onesN_succ, hb]
  simp only [if_true]
  rw [stR_snoc, h1]
  simp [stepR, finR, h2, he]
theorem runs_next {l : List Nat} {k a m : Nat} {r0 : List (Nat × Nat)} (hb : bitB l k = true) (h : runsN l k = r0 ++ [(a, m)]) (he : a + m ≠ k) : runsN l (k + 1) = r0 ++ [(a, m)] ++ [(k, 1)] := by
  obtain ⟨h1, h2⟩ := runs_last h
  unfold runsN
  rw [onesN_succ, hb]
  simp only [if_true]
  rw [stR_snoc, h1]
  have he' : ¬ k = a + m := fun e => he e.symm
  simp [stepR, finR, h2, he']
theorem runs_len (l : List Nat) (k : Nat) : (runsN l k).length ≤ k := by
  induction k with
  | zero => simp [runsN, onesN, stR, finR]
  | succ k ih =>
    cases hb : bitB l k with
    | false => rw [runs_zero hb]; omega
    | true =>
      rcases List.eq_nil_or_concat (runsN l k) with h | ⟨r0, ⟨a, m⟩, h⟩
      · rw [runs_first hb h]; simp
      · rw [List.concat_eq_append] at h
        rw [h] at ih
        simp at ih
        by_cases he : a + m = k
        · rw [runs_more hb h he]; simp; omega
        · rw [runs_next hb h he]; simp; omega
theorem runs_lt {l : List Nat} {k a m : Nat} {r0 : List (Nat × Nat)} (h : runsN l k = r0 ++ [(a, m)]) : a + m ≤ k := by
  have h1 := (runs_last h).1
  have := stR_le (n := k) (onesN l k) (fun j hj => onesN_lt hj)
  rw [h1] at this
  exact this

theorem cellsR_at (r0 : List (Nat × Nat)) (a m : Nat) : (cellsR (r0 ++ [(a, m)]))[r0.length * 2]? = some (.int .i64 (a : Int)) ∧ (cellsR (r0 ++ [(a, m)]))[r0.length * 2 + 1]? = some (.int .i64 (m : Int)) := by
  have h := cellsR_length r0
  rw [cellsR_append]
  constructor
  · rw [List.getElem?_append_right (by omega), h, Nat.sub_self]; rfl
  · rw [List.getElem?_append_right (by omega), h, Nat.add_sub_cancel_left]; rfl
theorem cellsR_set (r0 : List (Nat × Nat)) (a m m' : Nat) : (cellsR (r0 ++ [(a, m)])).set (r0.length * 2 + 1) (.int .i64 (m' : Int)) = cellsR (r0 ++ [(a, m')]) := by
  have h := cellsR_length r0
  rw [cellsR_append, cellsR_append, List.set_append_right _ _ (by omega), h, Nat.add_sub_cancel_left]
  rfl

theorem below_drewN {B : Nat} {w w' : World} (h : Below B w w') (n : Nat) : Below B w (w'.drewN n) := ⟨h.os, h.tape, h.output, h.size, h.block⟩
theorem owns_form2 {w : World} {base : Nat} {e : TypeId} {size : Nat} {ao : Option Addr} {n cap : Nat} {xs : List Value} (h : w.ownsRow base e size (.slice ao (n + 1) cap) (n + 1) xs) : ∃ g, ao = some ⟨g, 0, none⟩ ∧ base ≤ g := by
  rcases h.2 with ⟨h', _⟩ | ⟨g, cap', cur, h', hb, _⟩
  · simp at h'
  · simp only [Value.slice.injEq] at h'
    exact ⟨g, h'.1, hb⟩

set_option maxRecDepth 100000 in
set_option maxHeartbeats 1000000 in
theorem rruns_any (v : Value) (l : List Nat) (n : Int) (w : World) (h : Bs w v l) (hlen : l.length ≤ 1000000) :
    Calls Try.prog 26 #[v, .int .i64 n] w fun e w' => ∃ u, e = .returned u ∧ w'.ownsRow w.heap.size 42 2 u (runsN l (endN l n)).length (cellsR (runsN l (endN l n))) ∧ Below w.heap.size w w' := by
  obtain ⟨i0, hi, hz0, hz1, hz2⟩ := info_parts Try.info42
  have h' := h
  obtain ⟨ao, cap, rfl, hl, hnn, hx, hc⟩ := h
  clear hc
  have hN := endN_le l n
  have hN2 : ∀ k : Nat, k < endN l n ↔ ((k : Int) < n ∧ (k : Int) < 8 * l.length) := by intro k; unfold endN; omega
  obtain ⟨N, hNe⟩ : ∃ N, endN l n = N := ⟨_, rfl⟩
  rw [hNe] at hN hN2 ⊢
  clear hNe
  go_enter Try.func26, Try.ntmps26
  go_wp2_with fail
  go_loopw [5, 6] (fun u i wr => ∃ k : Nat, k ≤ N ∧ i = .int .i64 k ∧ wr.ownsRow w.heap.size 42 2 u (runsN l k).length (cellsR (runsN l k)) ∧ Below w.heap.size w wr) (fun _ i _ => N - (intOf i).toNat)
  case atStart => exact ⟨0, Nat.zero_le _, rfl, World.ownsRow_nil _ _ _ _, Below.refl _ _⟩
  case round =>
    obtain ⟨k, hk, rfl, hown, hb⟩ := hrel
    by_cases hkN : k < N
    · have hc2 := (hN2 k).1 hkN
      obtain ⟨hc3, hc4⟩ := hc2
      have hg := rget_any _ l k wr (h'.below hb (Nat.le_refl _)) (by omega) (by omega)
      rw [getI_nat] at hg
      have hrl := runs_len l k
      have hz := hb.size
      clear hN2
      cases hbit : bitB l k with
      | false =>
        rw [hbit] at hg
        have Hr := hide (runs_zero hbit)
        go_wp2_with (go_at_call 23; refine hg.mono ?_; rintro e w' ⟨rfl, rfl⟩)
        go_roundw
        case rel => exact ⟨k + 1, by omega, by go_num, by rw [Hr.out]; exact hown, hb⟩
        case measure => simp [intOf]; omega
      | true =>
        rw [hbit] at hg
        rcases List.eq_nil_or_concat (runsN l k) with he | ⟨r0, ⟨a, m⟩, he⟩
        · have Hr := hide (runs_first hbit he)
          rw [he] at hown
          obtain ⟨aou, capu, rfl⟩ := owns_slice hown
          clear he hrl
          simp only [List.length_nil]
          go_wp2_with (go_at_call 23; refine hg.mono ?_; rintro e w' ⟨rfl, rfl⟩)
          go_quiet (fail)
          go_wp2_with (at_builtin; refine wpList_append_own _ rfl _ _ 37 rfl w.heap.size 42 i0 (.agg #[.int .i64 0, .int .i64 0]) 2 16 Try.underlying37 hi hz0 hz1 hz2 rfl (by decide) _ _ _ rfl (hown.drew.alloc _) ⟨wr.heap.size, 0, none⟩ 1 1 [.int .i64 (k : Int), .int .i64 1] rfl rfl (cell_two_new _ _ _ _) (by simp [Value.oneCell']) (by unfold maxLen; simp) (by simp) (by simp; omega) ?_; intro v' w1 hown' hgrow _)
          have hb1 : Below w.heap.size w w1 := (((below_drewN hb nq).alloc hb.size _)).grown hgrow (by simp; omega) (owns_lt hown)
          exact ⟨⟨k + 1, by omega, by go_num, by rw [Hr.out]; exact hown', hb1⟩, by simp [intOf]; omega⟩
        · rw [List.concat_eq_append] at he
          have hlt := runs_lt he
          have Hmore := hide (runs_more hbit he)
          have Hnext := hide (runs_next hbit he)
          rw [he] at hown hrl
          have hll : (r0 ++ [(a, m)]).length = r0.length + 1 := by simp
          rw [hll] at hown hrl
          obtain ⟨aou, capu, rfl⟩ := owns_slice hown
          have Hf := hide (owns_form2 hown)
          obtain ⟨g, rfl, hgb⟩ := owns_form2 hown
          have hca := (hown.cellAt (r0.length * 2) (by omega)).trans (cellsR_at r0 a m).1
          have hcm := (hown.cellAt (r0.length * 2 + 1) (by omega)).trans (cellsR_at r0 a m).2
          have hfm := hown.frozenAt (r0.length * 2 + 1)
          clear he hll Hf
          by_cases hem : a + m = k
          · have hd : ((a : Int) + m == (k : Int)) = true := by simp; omega
            have Hr := hide (Hmore.out hem)
            clear Hmore Hnext hem
            go_wp2_with (go_at_call 23; refine hg.mono ?_; rintro e w' ⟨rfl, rfl⟩)
            go_quiet (fail)
            go_wp2_with fail
            have hown2 : (wr.drewN nq).ownsRow w.heap.size 42 2 (.slice (some ⟨g, 0, none⟩) (r0.length + 1) capu) (r0.length + 1) (cellsR (r0 ++ [(a, m)])) := hown
            have hst := (hown2.stored (r0.length * 2 + 1) (.int .i64 ((m + 1 : Nat) : Int))).1
            rw [cellsR_set] at hst
            refine ⟨⟨k + 1, by omega, by go_num, ?_, (below_drewN hb nq).setCell (p := ⟨g, r0.length * 2 + 1, none⟩) hgb _⟩, by simp [intOf]; omega⟩
            rw [Hr.out]
            simp only [List.length_append, List.length_cons, List.length_nil, Nat.zero_add]
            exact hst
          · have hd : ((a : Int) + m == (k : Int)) = false := by simp; omega
            have Hr := hide (Hnext.out hem)
            clear Hmore Hnext hem
            go_wp2_with (go_at_call 23; refine hg.mono ?_; rintro e w' ⟨rfl, rfl⟩)
            go_quiet (fail)
            go_wp2_with (at_builtin; refine wpList_append_own _ rfl _ _ 37 rfl w.heap.size 42 i0 (.agg #[.int .i64 0, .int .i64 0]) 2 16 Try.underlying37 hi hz0 hz1 hz2 rfl (by decide) _ _ _ rfl (hown.drew.alloc _) ⟨wr.heap.size, 0, none⟩ 1 1 [.int .i64 (k : Int), .int .i64 1] rfl rfl (cell_two_new _ _ _ _) (by simp [Value.oneCell']) (by unfold maxLen; omega) (by omega) (by simp; omega) ?_; intro v' w1 hown' hgrow _)
            have hb1 : Below w.heap.size w w1 := (((below_drewN hb nq).alloc hb.size _)).grown hgrow (by simp; omega) (owns_lt hown)
            refine ⟨⟨k + 1, by omega, by go_num, ?_, hb1⟩, by simp [intOf]; omega⟩
            rw [Hr.out, List.length_append, cellsR_append]
            simp only [List.length_append, List.length_cons, List.length_nil, Nat.zero_add]
            exact hown'
    · obtain rfl : k = N := by omega
      have hc2 : ¬ ((k : Int) < n ∧ (k : Int) < 8 * l.length) := fun h => by have := (hN2 k).2 h; omega
      obtain ⟨aou, capu, rfl⟩ := owns_slice hown
      clear hN2
      by_cases hkn : (k : Int) < n
      · have hkl : 8 * (l.length : Int) ≤ k := by omega
        clear hc2
        go_wp2_with fail
        go_ret
        exact ⟨_, rfl, hown, hb⟩
      · clear hc2
        go_wp2_with fail
        go_ret
        exact ⟨_, rfl, hown, hb⟩

/-- A slice of runs. -/
def Rs (w : World) (v : Value) (rs : List (Nat × Nat)) : Prop :=
  ∃ ao cap, v = .slice ao rs.length cap ∧ rs.length ≤ cap ∧ (0 < rs.length → ∃ b, ao = some ⟨b, 0, none⟩ ∧ ∀ i, i < rs.length → w.cell? ⟨b, i * 2, none⟩ = some (.int .i64 ((rs.getD i (0, 0)).1 : Int)) ∧ w.cell? ⟨b, i * 2 + 1, none⟩ = some (.int .i64 ((rs.getD i (0, 0)).2 : Int)))

theorem cellsR_get (rs : List (Nat × Nat)) (i : Nat) (hi : i < rs.length) : (cellsR rs)[i * 2]? = some (.int .i64 ((rs.getD i (0, 0)).1 : Int)) ∧ (cellsR rs)[i * 2 + 1]? = some (.int .i64 ((rs.getD i (0, 0)).2 : Int)) := by
  have hsp : rs = rs.take i ++ ([rs[i]] ++ rs.drop (i + 1)) := by simp
  have hl : (cellsR (rs.take i)).length = i * 2 := by rw [cellsR_length]; simp; omega
  have hg : rs.getD i (0, 0) = rs[i] := by simp [List.getD, hi]
  rw [hg]
  constructor
  · conv => lhs; rw [hsp, cellsR_append, cellsR_append]
    rw [List.getElem?_append_right (by omega), hl, Nat.sub_self]; rfl
  · conv => lhs; rw [hsp, cellsR_append, cellsR_append]
    rw [List.getElem?_append_right (by omega), hl, Nat.add_sub_cancel_left]; rfl

theorem Rs.of_owns {w : World} {base : Nat} {v : Value} {rs : List (Nat × Nat)} (h : w.ownsRow base 42 2 v rs.length (cellsR rs)) : Rs w v rs := by
  rcases h.2 with ⟨e, h0⟩ | ⟨g, cap, cur, e, hb, hg, hnc, _⟩
  · subst e
    exact ⟨none, 0, by rw [h0], by omega, fun hp => by omega⟩
  · subst e
    refine ⟨_, cap, rfl, hnc, fun _ => ⟨g, rfl, fun i hi => ?_⟩⟩
    rw [h.cellAt _ (by omega), h.cellAt _ (by omega)]
    exact cellsR_get rs i hi

theorem Rs.mono {w w' : World} {v : Value} {rs : List (Nat × Nat)} (h : Rs w v rs) (hb : Below w.heap.size w w') : Rs w' v rs := by
  obtain ⟨ao, cap, rfl, hc, h1⟩ := h
  refine ⟨ao, cap, rfl, hc, fun hp => ?_⟩
  obtain ⟨b, rfl, hcell⟩ := h1 hp
  refine ⟨b, rfl, fun i hi => ?_⟩
  obtain ⟨h2, h3⟩ := hcell i hi
  have hlt := World.block_lt_of_cell? w _ h2
  exact ⟨(hb.cell (p := ⟨b, i * 2, none⟩) hlt).trans h2, (hb.cell (p := ⟨b, i * 2 + 1, none⟩) hlt).trans h3⟩

theorem Rs.take {w : World} {ao : Option Addr} {n cap h : Nat} {rs : List (Nat × Nat)} (hb : Rs w (.slice ao n cap) rs) (hh : h ≤ rs.length) : Rs w (.slice ao h cap) (rs.take h) := by
  obtain ⟨ao', cap', e, hc, h1⟩ := hb
  simp only [Value.slice.injEq] at e
  obtain ⟨rfl, rfl, rfl⟩ := e
  have hl : (rs.take h).length = h := by simp; omega
  refine ⟨ao, cap, by rw [hl], by omega, fun hp => ?_⟩
  rw [hl] at hp ⊢
  obtain ⟨b, e2, hcell⟩ := h1 (by omega)
  refine ⟨b, e2, fun i hi => ?_⟩
  have := hcell i (by omega)
  have e3 : (rs.take h).getD i (0, 0) = rs.getD i (0, 0) := by simp [List.getD, hi]
  rw [e3]
  exact this

theorem neq42 (a b c d : Int) (w : World) : (binOp .neq 42 (.agg #[.int .i64 a, .int .i64 b]) (.agg #[.int .i64 c, .int .i64 d])).run Try.prog w = .ok (.bool (!(a == c && b == d))) w := by
  have u3 := Try.underlying3
  have a3 := Try.isAgg3
  have z3 := Try.sizeOf3
  have hS : Try.prog.underlying 42 = some (.struct (Try.prog.fieldsOf 42)) := by kernel_rfl
  have hp : Try.prog.stoodInHeld 42 = false := by kernel_rfl
  rw [run_neq_struct, show (10000 : Nat) = 9999 + 1 from rfl, run_equalIn_agg w 9999 42 _ _ hS hp]
  simp only [Program.fieldsOf, Try.underlying42]
  go_simp
  by_cases h1 : a = c <;> by_cases h2 : b = d <;> simp [h1, h2]

set_option maxRecDepth 100000 in
set_option maxHeartbeats 1000000 in
theorem eqruns_any (v1 v2 : Value) (a b : List (Nat × Nat)) (w : World) (h1 : Rs w v1 a) (h2 : Rs w v2 b) (la : a.length ≤ 1000000) (lb : b.length ≤ 1000000) :
    Calls Try.prog 29 #[v1, v2] w fun e w' => e = .returned (.bool (decide (a = b))) ∧ ∃ n, w' = w.drewN n := by
  obtain ⟨ao1, cap1, rfl, hc1, hcell1⟩ := h1
  obtain ⟨ao2, cap2, rfl, hc2, hcell2⟩ := h2
  have H1 := hide hcell1
  have H2 := hide hcell2
  clear hcell1 hcell2
  by_cases hl : a.length = b.length
  · obtain ⟨n, hn⟩ : ∃ n, b.length = n := ⟨_, rfl⟩
    rw [hn] at hl lb hc2 H2 ⊢
    rw [hl] at la hc1 H1 ⊢
    have Hn := hide hn
    have Hl := hide hl
    clear hn hl
    have hne : ((n : Int) != (n : Int)) = false := by simp
    go_enter Try.func29, Try.ntmps29
    go_wp2_with fail
    go_loopw [13, 5] (fun i _ wr => ∃ k : Nat, k ≤ n ∧ i = .int .i64 k ∧ (∀ j, j < k → a.getD j (0, 0) = b.getD j (0, 0)) ∧ ∃ q, wr = w.drewN q) (fun i _ _ => n - (intOf i).toNat)
    case atStart => exact ⟨0, Nat.zero_le _, rfl, by simp, 0, rfl⟩
    case round =>
      obtain ⟨k, hk, rfl, hall, q, rfl⟩ := hrel
      have Hall := hide hall
      clear hall
      by_cases hkn : k < n
      · obtain ⟨b1, rfl, hcell1⟩ := H1.out (by omega)
        obtain ⟨b2, rfl, hcell2⟩ := H2.out (by omega)
        obtain ⟨c1, c2⟩ := hcell1 k hkn
        obtain ⟨c3, c4⟩ := hcell2 k hkn
        clear hcell1 hcell2
        generalize hx : a.getD k (0, 0) = x at *
        generalize hy : b.getD k (0, 0) = y at *
        obtain ⟨x1, x2⟩ := x
        obtain ⟨y1, y2⟩ := y
        have Hx := hide hx
        have Hy := hide hy
        clear hx hy H1 H2
        simp only at c1 c2 c3 c4
        have hgu := fun op x y xs ys w => run_eqGuard_agg (P := Try.prog) w op 42 x y xs ys (by kernel_rfl)
        have hnq := neq42 x1 x2 y1 y2
        by_cases hxy : x1 = y1 ∧ x2 = y2
        · obtain ⟨rfl, rfl⟩ := hxy
          simp only [beq_self_eq_true, Bool.and_self, Bool.not_true] at hnq
          go_wp2_with fail
          go_quiet (fail)
          go_wp2_with fail
          refine ⟨⟨k + 1, by omega, by go_num, ?_, _, rfl⟩, by simp [intOf]; omega⟩
          intro j hj
          by_cases ej : j = k
          · rw [ej, Hx.out, Hy.out]
          · exact Hall.out j (by omega)
        · have e : (!((x1 : Int) == y1 && (x2 : Int) == y2)) = true := by
            cases h : ((x1 : Int) == y1 && (x2 : Int) == y2)
            · rfl
            · simp at h; exact absurd (by omega) hxy
          rw [e] at hnq
          clear e
          go_wp2_with fail
          go_quiet (fail)
          go_wp2_with fail
          go_ret
          refine ⟨ret_bool ?_, _, World.drewN_drewN _ _ _⟩
          have : a ≠ b := by
            intro hab
            rw [hab, Hy.out] at Hx
            have := Hx.out
            simp only [Prod.mk.injEq] at this
            exact hxy ⟨this.1.symm, this.2.symm⟩
          simp [this]
      · obtain rfl : k = n := by omega
        have hab : a = b := by
          apply List.ext_getElem (by rw [Hl.out, Hn.out])
          intro i h1 h2
          have := Hall.out i (by rw [← Hl.out]; exact h1)
          simpa [List.getD, h1, h2] using this
        clear H1 H2 Hall
        go_wp2_with fail
        go_ret
        exact ⟨ret_bool (by simp [hab]), _, rfl⟩
  · have hne : ((a.length : Int) != (b.length : Int)) = true := by simp; omega
    have hab : a ≠ b := fun e => hl (by rw [e])
    clear hl H1 H2
    go_enter Try.func29, Try.ntmps29
    go_wp2_with fail
    go_ret
    exact ⟨ret_bool (by simp [hab]), 0, rfl⟩

end Go.Proofs.Ytkdajahcadjpfaa
