/- Contract: an operation of a script is done with both rings: Trim, a crash, and to be opened again. -/
import Derived.Test.YtjhbljkoapbkfaaGreatM41
set_option linter.unusedSimpArgs false
set_option linter.unusedVariables false

namespace Go.Proofs.YtjhbljkoapbkfaaGreat
open Go.RowKit Go.Attic Go.Shelf

set_option maxRecDepth 100000 in
set_option maxHeartbeats 1000000 in
theorem does_trim1 {W w : World} {tb g m gx n base blocks c : Nat} {head0 : Int} (h : Lv W w tb g m gx n base blocks head0 c) (hc : c ≤ 500000) (op : OpX) (lv pv : Value) (ho : OpV W w op lv pv) (hd0 : op.d = 2) (h0 : 0 ≤ op.n) (h1 : op.n ≤ 2000) :
    Calls Tryz.prog 6 #[.pointer (some ⟨tb, 0, none⟩), .agg #[.int .i64 op.d, lv, .int .i64 op.n, pv]] w (DoesE W tb g m gx n base blocks head0 (c + 1024)) := by
  obtain ⟨r, x, A, B, C, hd, s, rs, hT, hall, hbd, hp, hops⟩ := h
  have hM : Max = 1152921504606846976 := rfl
  rw [hM] at hbd
  obtain ⟨lao, lcap, rfl, -⟩ := ho.rs.slice
  obtain ⟨pao, pcap, rfl, -⟩ := id ho.bs
  obtain ⟨wb, hwb⟩ : ∃ wb, w.alloc (.cells #[.int .i64 op.d, .slice lao op.L.length lcap, .int .i64 op.n, .slice pao op.picks.length pcap] 32) = wb := ⟨_, rfl⟩
  have kb : Below w.heap.size w wb := by rw [← hwb]; exact (Below.refl _ _).alloc (Nat.le_refl _) _
  have y0 : wb.cell? ⟨w.heap.size, 0, none⟩ = some (.int .i64 op.d) := by rw [← hwb]; simp
  have y2 : wb.cell? ⟨w.heap.size, 2, none⟩ = some (.int .i64 op.n) := by rw [← hwb]; simp
  have hTb0 := hT.still kb
  have hTb := hT.still (kb.trans ((below_drew' wb).mono kb.size))
  obtain ⟨pa, Fa, Fr, a1, a2⟩ := hTb.a
  obtain ⟨er, hd', rs', g1, gP, gD⟩ := trim_two n base blocks hd s rs ((hd : Int) + op.n) a1.rk.ln a1.rk.b2 (by rw [hM]; exact hbd)
  have hP := gP _ r g m pa Fa Fr a1
  have t5 := hTb0.t.t5
  have t7 := hTb0.t.t7
  obtain ⟨qb0, pb0, Fb0, Fx0, b10, -, -⟩ := hTb0.b
  have x3 := b10.rk.c3
  have HTb := hide hTb
  have Hall := hide hall
  rw [hd0] at y0 hwb ⊢
  clear hT hTb hTb0 ho a1 b10 hM hall
  go_enter Tryz.func6, Tryz.ntmps6
  go_wp2_with fail
  go_region_held3 (fun V => V.cell? ⟨tb, 5, none⟩ = some (.pointer (some ⟨r, 0, none⟩)) ∧ V.cell? ⟨tb, 7, none⟩ = some (.pointer (some ⟨x, 0, none⟩)))
    (first | exact ⟨t5, t7⟩ | exact hk1 | exact hk2)
    (first
    | (go_at_call 24; refine hP.mono ?_; rintro e z1 ⟨rfl, ht1⟩
       obtain ⟨kA, A', hT1⟩ := HTb.out.turnA a2 ht1
       have hk1 := And.intro hT1.t.t5 hT1.t.t7
       obtain ⟨qb, pb, Fb, Fx, b1, b2, b3⟩ := hT1.b
       have hD := gD _ x gx qb pb Fb Fx (fun k => k < W.heap.size) b1
       skip)
    | (go_at_call 25; refine hD.mono ?_; rintro e z2 ⟨rfl, ht2⟩
       obtain ⟨kB, B', C', hT2⟩ := hT1.turnB b2 b3 (fun k hk => hk) ht2
       have hk2 := And.intro hT2.t.t5 hT2.t.t7
       skip))
  rename_i hH
  clear hH hP hD
  go_wp2_with fail
  go_ret
  exact ⟨by simp, .inl ⟨r, x, A', B', C', hd', s, rs', hT2, Hall.out, g1, by omega, by omega⟩⟩

set_option maxRecDepth 100000 in
set_option maxHeartbeats 1000000 in
theorem does_trim2 {W w : World} {tb g m gx n base blocks c : Nat} {head0 : Int} (h : Lv W w tb g m gx n base blocks head0 c) (hc : c ≤ 500000) (op : OpX) (lv pv : Value) (ho : OpV W w op lv pv) (hd0 : op.d = 2) (h0 : op.n < 0) :
    Calls Tryz.prog 6 #[.pointer (some ⟨tb, 0, none⟩), .agg #[.int .i64 op.d, lv, .int .i64 op.n, pv]] w (DoesE W tb g m gx n base blocks head0 (c + 1024)) := by
  obtain ⟨r, x, A, B, C, hd, s, rs, hT, hall, hbd, hp, hops⟩ := h
  have hM : Max = 1152921504606846976 := rfl
  rw [hM] at hbd
  obtain ⟨lao, lcap, rfl, -⟩ := ho.rs.slice
  obtain ⟨pao, pcap, rfl, -⟩ := id ho.bs
  obtain ⟨wb, hwb⟩ : ∃ wb, w.alloc (.cells #[.int .i64 op.d, .slice lao op.L.length lcap, .int .i64 op.n, .slice pao op.picks.length pcap] 32) = wb := ⟨_, rfl⟩
  have kb : Below w.heap.size w wb := by rw [← hwb]; exact (Below.refl _ _).alloc (Nat.le_refl _) _
  have y0 : wb.cell? ⟨w.heap.size, 0, none⟩ = some (.int .i64 op.d) := by rw [← hwb]; simp
  have y2 : wb.cell? ⟨w.heap.size, 2, none⟩ = some (.int .i64 op.n) := by rw [← hwb]; simp
  have hTb0 := hT.still kb
  have hTb := hT.still (kb.trans ((below_drew' wb).mono kb.size))
  obtain ⟨pa, Fa, Fr, a1, a2⟩ := hTb.a
  obtain ⟨er, hd', rs', g1, gP, gD⟩ := trim_two n base blocks hd s rs ((hd : Int)) a1.rk.ln a1.rk.b2 (by rw [hM]; exact hbd)
  have hP := gP _ r g m pa Fa Fr a1
  have t5 := hTb0.t.t5
  have t7 := hTb0.t.t7
  obtain ⟨qb0, pb0, Fb0, Fx0, b10, -, -⟩ := hTb0.b
  have x3 := b10.rk.c3
  have HTb := hide hTb
  have Hall := hide hall
  rw [hd0] at y0 hwb ⊢
  clear hT hTb hTb0 ho a1 b10 hM hall
  go_enter Tryz.func6, Tryz.ntmps6
  go_wp2_with fail
  go_region_held3 (fun V => V.cell? ⟨tb, 5, none⟩ = some (.pointer (some ⟨r, 0, none⟩)) ∧ V.cell? ⟨tb, 7, none⟩ = some (.pointer (some ⟨x, 0, none⟩)))
    (first | exact ⟨t5, t7⟩ | exact hk1 | exact hk2)
    (first
    | (go_at_call 24; refine hP.mono ?_; rintro e z1 ⟨rfl, ht1⟩
       obtain ⟨kA, A', hT1⟩ := HTb.out.turnA a2 ht1
       have hk1 := And.intro hT1.t.t5 hT1.t.t7
       obtain ⟨qb, pb, Fb, Fx, b1, b2, b3⟩ := hT1.b
       have hD := gD _ x gx qb pb Fb Fx (fun k => k < W.heap.size) b1
       skip)
    | (go_at_call 25; refine hD.mono ?_; rintro e z2 ⟨rfl, ht2⟩
       obtain ⟨kB, B', C', hT2⟩ := hT1.turnB b2 b3 (fun k hk => hk) ht2
       have hk2 := And.intro hT2.t.t5 hT2.t.t7
       skip))
  rename_i hH
  clear hH hP hD
  go_wp2_with fail
  go_ret
  exact ⟨by simp, .inl ⟨r, x, A', B', C', hd', s, rs', hT2, Hall.out, g1, by omega, by omega⟩⟩

set_option maxRecDepth 100000 in
set_option maxHeartbeats 1000000 in
theorem does_trim3 {W w : World} {tb g m gx n base blocks c : Nat} {head0 : Int} (h : Lv W w tb g m gx n base blocks head0 c) (hc : c ≤ 500000) (op : OpX) (lv pv : Value) (ho : OpV W w op lv pv) (hd0 : op.d = 2) (h0 : 0 ≤ op.n) (h1 : 2000 < op.n) :
    Calls Tryz.prog 6 #[.pointer (some ⟨tb, 0, none⟩), .agg #[.int .i64 op.d, lv, .int .i64 op.n, pv]] w (DoesE W tb g m gx n base blocks head0 (c + 1024)) := by
  obtain ⟨r, x, A, B, C, hd, s, rs, hT, hall, hbd, hp, hops⟩ := h
  have hM : Max = 1152921504606846976 := rfl
  rw [hM] at hbd
  obtain ⟨lao, lcap, rfl, -⟩ := ho.rs.slice
  obtain ⟨pao, pcap, rfl, -⟩ := id ho.bs
  obtain ⟨wb, hwb⟩ : ∃ wb, w.alloc (.cells #[.int .i64 op.d, .slice lao op.L.length lcap, .int .i64 op.n, .slice pao op.picks.length pcap] 32) = wb := ⟨_, rfl⟩
  have kb : Below w.heap.size w wb := by rw [← hwb]; exact (Below.refl _ _).alloc (Nat.le_refl _) _
  have y0 : wb.cell? ⟨w.heap.size, 0, none⟩ = some (.int .i64 op.d) := by rw [← hwb]; simp
  have y2 : wb.cell? ⟨w.heap.size, 2, none⟩ = some (.int .i64 op.n) := by rw [← hwb]; simp
  have hTb0 := hT.still kb
  have hTb := hT.still (kb.trans ((below_drew' wb).mono kb.size))
  obtain ⟨pa, Fa, Fr, a1, a2⟩ := hTb.a
  obtain ⟨er, hd', rs', g1, gP, gD⟩ := trim_two n base blocks hd s rs ((hd : Int)) a1.rk.ln a1.rk.b2 (by rw [hM]; exact hbd)
  have hP := gP _ r g m pa Fa Fr a1
  have t5 := hTb0.t.t5
  have t7 := hTb0.t.t7
  obtain ⟨qb0, pb0, Fb0, Fx0, b10, -, -⟩ := hTb0.b
  have x3 := b10.rk.c3
  have HTb := hide hTb
  have Hall := hide hall
  rw [hd0] at y0 hwb ⊢
  clear hT hTb hTb0 ho a1 b10 hM hall
  go_enter Tryz.func6, Tryz.ntmps6
  go_wp2_with fail
  go_region_held3 (fun V => V.cell? ⟨tb, 5, none⟩ = some (.pointer (some ⟨r, 0, none⟩)) ∧ V.cell? ⟨tb, 7, none⟩ = some (.pointer (some ⟨x, 0, none⟩)))
    (first | exact ⟨t5, t7⟩ | exact hk1 | exact hk2)
    (first
    | (go_at_call 24; refine hP.mono ?_; rintro e z1 ⟨rfl, ht1⟩
       obtain ⟨kA, A', hT1⟩ := HTb.out.turnA a2 ht1
       have hk1 := And.intro hT1.t.t5 hT1.t.t7
       obtain ⟨qb, pb, Fb, Fx, b1, b2, b3⟩ := hT1.b
       have hD := gD _ x gx qb pb Fb Fx (fun k => k < W.heap.size) b1
       skip)
    | (go_at_call 25; refine hD.mono ?_; rintro e z2 ⟨rfl, ht2⟩
       obtain ⟨kB, B', C', hT2⟩ := hT1.turnB b2 b3 (fun k hk => hk) ht2
       have hk2 := And.intro hT2.t.t5 hT2.t.t7
       skip))
  rename_i hH
  clear hH hP hD
  go_wp2_with fail
  go_ret
  exact ⟨by simp, .inl ⟨r, x, A', B', C', hd', s, rs', hT2, Hall.out, g1, by omega, by omega⟩⟩

end Go.Proofs.YtjhbljkoapbkfaaGreat
