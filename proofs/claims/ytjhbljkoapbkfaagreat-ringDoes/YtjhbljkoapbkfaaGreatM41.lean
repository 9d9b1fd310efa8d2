/- Contract: an operation of a script is done with both rings: Append, Sync, Trim, Arm. -/
import Derived.Test.YtjhbljkoapbkfaaGreatM40
set_option linter.unusedSimpArgs false
set_option linter.unusedVariables false

namespace Go.Proofs.YtjhbljkoapbkfaaGreat
open Go.RowKit Go.Attic Go.Shelf

/-- What stands between two operations. -/
def Lv (W w : World) (tb g m gx n base blocks : Nat) (head0 : Int) (c : Nat) : Prop :=
  ∃ (r x : Nat) (A B C : Nat → Prop) (hd : Nat) (s : St) (rs : List Rc), Tw W w tb A B C r g m x gx n base blocks head0 hd s rs hd s rs ∧ AllSec n (Low Max) s ∧ hd + rs.length ≤ Max ∧ s.pend.length ≤ c ∧ s.ops ≤ c

def DoesE (W : World) (tb g m gx n base blocks : Nat) (head0 : Int) (c : Nat) (e : Ending) (w' : World) : Prop :=
  e = .returned (.bool true) ∧ (Lv W w' tb g m gx n base blocks head0 c ∨ (TAt w' tb n (base : Int) (blocks : Int) head0 g gx (.pointer none) (.pointer none) ∧ Below W.heap.size W w'))

/-- An operation that came in. -/
structure OpV (W w : World) (op : OpX) (lv pv : Value) : Prop where
  rs : Rs w (fun k => k < W.heap.size) lv op.L
  bs : Bs w pv op.picks
  bF : 0 < op.picks.length → ∀ k, pv.ownBlock = some k → k < W.heap.size
  ll : op.L.length ≤ 140737488355328
  ls : ∀ r ∈ op.L, r.l.length ≤ 140737488355328
  n0 : -9223372036854775808 ≤ op.n
  n1 : op.n ≤ 9223372036854775807
  pl : op.picks.length ≤ 140737488355328

theorem OpV.keeps {W w w' : World} {op : OpX} {lv pv : Value} {S : Nat → Prop} (h : OpV W w op lv pv) (hk : Keeps S w w') (hS : ∀ k, k < W.heap.size → ¬ S k) : OpV W w' op lv pv :=
  ⟨h.rs.keeps hk hS, keeps_bs hk h.bs (fun hp b hb => hS b (h.bF hp b hb)), h.bF, h.ll, h.ls, h.n0, h.n1, h.pl⟩

theorem flushS_grows (s : St) : (flushS s).1.pend.length ≤ s.pend.length ∧ (flushS s).1.ops ≤ s.ops + 1 := by
  unfold flushS
  split
  · simp
  · split
    · unfold operS
      split
      · simp
      · split
        · simp [crashed]
        · simp
    · refine ⟨by simp, ?_⟩
      unfold operS
      split
      · simp
      · split
        · simp [crashed]
        · simp

theorem armS_grows (s : St) (i : Int) (picks : List Nat) : (armS s i picks).1.pend.length = s.pend.length ∧ (armS s i picks).1.ops = s.ops := by
  unfold armS
  split
  · simp
  · split
    · simp
    · split <;> simp

set_option maxRecDepth 100000 in
set_option maxHeartbeats 1000000 in
theorem does_append {W w : World} {tb g m gx n base blocks c : Nat} {head0 : Int} (h : Lv W w tb g m gx n base blocks head0 c) (hc : c ≤ 500000) (op : OpX) (lv pv : Value) (ho : OpV W w op lv pv) (hd0 : op.d = 0) :
    Calls Tryz.prog 6 #[.pointer (some ⟨tb, 0, none⟩), .agg #[.int .i64 op.d, lv, .int .i64 op.n, pv]] w (DoesE W tb g m gx n base blocks head0 (c + 1024)) := by
  obtain ⟨r, x, A, B, C, hd, s, rs, hT, hall, hbd, hp, hops⟩ := h
  obtain ⟨lao, lcap, rfl, -⟩ := ho.rs.slice
  obtain ⟨pao, pcap, rfl, -⟩ := id ho.bs
  obtain ⟨wb, hwb⟩ : ∃ wb, w.alloc (.cells #[.int .i64 op.d, .slice lao op.L.length lcap, .int .i64 op.n, .slice pao op.picks.length pcap] 32) = wb := ⟨_, rfl⟩
  have kb : Below w.heap.size w wb := by rw [← hwb]; exact (Below.refl _ _).alloc (Nat.le_refl _) _
  have y0 : wb.cell? ⟨w.heap.size, 0, none⟩ = some (.int .i64 op.d) := by rw [← hwb]; simp
  have y1 : wb.cell? ⟨w.heap.size, 1, none⟩ = some (.slice lao op.L.length lcap) := by rw [← hwb]; simp
  have hTb := hT.still (kb.trans ((below_drew' wb).mono kb.size))
  have hob := (ho.keeps (Keeps.of_below (S := fun _ => False) kb) (fun _ _ => id)).keeps (Keeps.of_below (S := fun _ => False) (below_drew' wb)) (fun _ _ => id)
  obtain ⟨pa, Fa, Fr, a1, a2⟩ := hTb.a
  obtain ⟨er, s', rs', g1, g2, g3, g4, gP, gD⟩ := app_two n base blocks hd s rs op.L ho.ll ho.ls a1.rk.ln a1.rk.b2 (by omega) (by omega) a1.rk.b1 a1.fit a1.dk.ok hall hbd ho.rs.lt
  have hAW := hTb.ap.AW
  have hP := gP _ r g m pa Fa Fr _ _ a1 hob.rs (fun k hk => ⟨by have := hTb.ap.bel.size; omega, fun h => by have := hAW k (a2 k h); omega⟩)
  have t5 := (hT.still kb).t.t5
  have t7 := (hT.still kb).t.t7
  have hwbz : ¬ A w.heap.size := fun h => by have := (hT.ap.AW _ h).2; omega
  have hnA := hT.ap.tA
  have hwbB : ¬ B w.heap.size := fun h => by have := (hT.ap.BW _ h).2; omega
  have HTb := hide hTb
  have Hob := hide hob
  rw [hd0] at y0 hwb ⊢
  clear hT hTb ho hob a1
  go_enter Tryz.func6, Tryz.ntmps6
  go_wp2_with fail
  go_region_held3 (fun V => V.cell? ⟨tb, 5, none⟩ = some (.pointer (some ⟨r, 0, none⟩)) ∧ V.cell? ⟨tb, 7, none⟩ = some (.pointer (some ⟨x, 0, none⟩)) ∧ V.cell? ⟨w.heap.size, 1, none⟩ = some (.slice lao op.L.length lcap))
    (first | exact ⟨t5, t7, y1⟩ | exact hk1 | exact hk2)
    (first
    | (go_at_call 14; refine hP.mono ?_; rintro e z1 ⟨rfl, ht1⟩
       obtain ⟨kA, A', hT1⟩ := HTb.out.turnA a2 ht1
       have hk1 := And.intro hT1.t.t5 (And.intro hT1.t.t7 (kA.cell (show wb.drew.cell? ⟨w.heap.size, 1, none⟩ = _ from y1) hwbz))
       have ho1 := Hob.out.keeps kA (fun k hk h => by have := hAW k h; omega)
       obtain ⟨qb, pb, Fb, Fx, b1, b2, b3⟩ := hT1.b
       have hD := gD _ x gx qb pb Fb Fx _ _ b1 ho1.rs (fun k hk => ⟨by have := hT1.ap.bel.size; omega, fun h => by have := hT1.ap.BW k (b2 k (.inl h)); omega, fun h => by have := hT1.ap.BW k (b2 k (.inr h)); omega⟩)
       skip)
    | (go_at_call 19; refine hD.mono ?_; rintro e z2 ⟨rfl, ht2⟩
       obtain ⟨kB, B', C', hT2⟩ := hT1.turnB b2 b3 (fun k hk => hk) ht2
       have hk2 := And.intro hT2.t.t5 (And.intro hT2.t.t7 (kB.cell hk1.2.2 hwbB))
       skip))
  rename_i hH
  clear hH hP hD
  go_wp2_with fail
  go_ret
  exact ⟨by simp, .inl ⟨r, x, A', B', C', hd, s', rs', hT2, g1, g2, by omega, by omega⟩⟩

set_option maxRecDepth 100000 in
set_option maxHeartbeats 1000000 in
theorem does_sync {W w : World} {tb g m gx n base blocks c : Nat} {head0 : Int} (h : Lv W w tb g m gx n base blocks head0 c) (hc : c ≤ 500000) (op : OpX) (lv pv : Value) (ho : OpV W w op lv pv) (hd0 : op.d = 1) :
    Calls Tryz.prog 6 #[.pointer (some ⟨tb, 0, none⟩), .agg #[.int .i64 op.d, lv, .int .i64 op.n, pv]] w (DoesE W tb g m gx n base blocks head0 (c + 1024)) := by
  obtain ⟨r, x, A, B, C, hd, s, rs, hT, hall, hbd, hp, hops⟩ := h
  obtain ⟨lao, lcap, rfl, -⟩ := ho.rs.slice
  obtain ⟨pao, pcap, rfl, -⟩ := id ho.bs
  obtain ⟨wb, hwb⟩ : ∃ wb, w.alloc (.cells #[.int .i64 op.d, .slice lao op.L.length lcap, .int .i64 op.n, .slice pao op.picks.length pcap] 32) = wb := ⟨_, rfl⟩
  have kb : Below w.heap.size w wb := by rw [← hwb]; exact (Below.refl _ _).alloc (Nat.le_refl _) _
  have y0 : wb.cell? ⟨w.heap.size, 0, none⟩ = some (.int .i64 op.d) := by rw [← hwb]; simp
  have y2 : wb.cell? ⟨w.heap.size, 2, none⟩ = some (.int .i64 op.n) := by rw [← hwb]; simp
  have y3 : wb.cell? ⟨w.heap.size, 3, none⟩ = some (.slice pao op.picks.length pcap) := by rw [← hwb]; simp
  have hTb := hT.still (kb.trans ((below_drew' wb).mono kb.size))
  have hob := (ho.keeps (Keeps.of_below (S := fun _ => False) kb) (fun _ _ => id)).keeps (Keeps.of_below (S := fun _ => False) (below_drew' wb)) (fun _ _ => id)
  obtain ⟨pa, Fa, Fr, a1, a2⟩ := hTb.a
  have hAW := hTb.ap.AW
  have hP := sync_yes a1 (by omega) (by omega)
  have HA := hide (flushS_all hall a1.dk.ok)
  have hG := flushS_grows s
  have hDD := fun (V : World) (q p : Option Nat) (F : Nat → Prop) (hV : Dr V gx q p F n s) => rflush_yes hV (by omega) (by omega)
  generalize flushS s = X at *
  have t4 := (hT.still kb).t.t4
  have t5 := (hT.still kb).t.t5
  have t6 := (hT.still kb).t.t6
  have t7 := (hT.still kb).t.t7
  have hwbz : ¬ A w.heap.size := fun h => by have := (hT.ap.AW _ h).2; omega
  have hwbB : ¬ B w.heap.size := fun h => by have := (hT.ap.BW _ h).2; omega
  have HTb := hide hTb
  have Hob := hide hob
  rw [hd0] at y0 hwb ⊢
  clear hT hTb ho hob a1
  go_enter Tryz.func6, Tryz.ntmps6
  go_wp2_with fail
  go_region_held3 (fun V => V.cell? ⟨tb, 5, none⟩ = some (.pointer (some ⟨r, 0, none⟩)) ∧ V.cell? ⟨tb, 6, none⟩ = some (.pointer (some ⟨gx, 0, none⟩)))
    (first | exact ⟨t5, t6⟩ | exact hk1 | exact hk2)
    (first
    | (go_at_call 20; refine hP.mono ?_; rintro e z1 ⟨rfl, ht1⟩
       obtain ⟨kA, A', hT1⟩ := HTb.out.turnA a2 (ht1)
       have hk1 := And.intro hT1.t.t5 hT1.t.t6
       have ho1 := Hob.out.keeps kA (fun k hk h => by have := hAW k h; omega)
       obtain ⟨qb, pb, Fb, Fx, b1, b2, b3⟩ := hT1.b
       have hD := hDD _ qb pb Fb b1.dk
       skip)
    | (go_at_call 21; refine hD.mono ?_; rintro e z2 ⟨rfl, ht2⟩
       obtain ⟨kB, B', C', hT2⟩ := hT1.turnB b2 b3 (Fl := fun k => k < W.heap.size) (fun k hk => hk) (b1.turn ht2)
       have hk2 := And.intro hT2.t.t5 hT2.t.t6
       skip))
  rename_i hH
  clear hH hP hD
  go_wp2_with fail
  go_ret
  exact ⟨by simp, .inl ⟨r, x, A', B', C', hd, X.1, rs, hT2, HA.out, hbd, by omega, by omega⟩⟩

set_option maxRecDepth 100000 in
set_option maxHeartbeats 1000000 in
theorem does_arm {W w : World} {tb g m gx n base blocks c : Nat} {head0 : Int} (h : Lv W w tb g m gx n base blocks head0 c) (hc : c ≤ 500000) (op : OpX) (lv pv : Value) (ho : OpV W w op lv pv) (hd0 : op.d = 4) :
    Calls Tryz.prog 6 #[.pointer (some ⟨tb, 0, none⟩), .agg #[.int .i64 op.d, lv, .int .i64 op.n, pv]] w (DoesE W tb g m gx n base blocks head0 (c + 1024)) := by
  obtain ⟨r, x, A, B, C, hd, s, rs, hT, hall, hbd, hp, hops⟩ := h
  obtain ⟨lao, lcap, rfl, -⟩ := ho.rs.slice
  obtain ⟨pao, pcap, rfl, -⟩ := id ho.bs
  obtain ⟨wb, hwb⟩ : ∃ wb, w.alloc (.cells #[.int .i64 op.d, .slice lao op.L.length lcap, .int .i64 op.n, .slice pao op.picks.length pcap] 32) = wb := ⟨_, rfl⟩
  have kb : Below w.heap.size w wb := by rw [← hwb]; exact (Below.refl _ _).alloc (Nat.le_refl _) _
  have y0 : wb.cell? ⟨w.heap.size, 0, none⟩ = some (.int .i64 op.d) := by rw [← hwb]; simp
  have y2 : wb.cell? ⟨w.heap.size, 2, none⟩ = some (.int .i64 op.n) := by rw [← hwb]; simp
  have y3 : wb.cell? ⟨w.heap.size, 3, none⟩ = some (.slice pao op.picks.length pcap) := by rw [← hwb]; simp
  have hTb := hT.still (kb.trans ((below_drew' wb).mono kb.size))
  have hob := (ho.keeps (Keeps.of_below (S := fun _ => False) kb) (fun _ _ => id)).keeps (Keeps.of_below (S := fun _ => False) (below_drew' wb)) (fun _ _ => id)
  obtain ⟨pa, Fa, Fr, a1, a2⟩ := hTb.a
  have hAW := hTb.ap.AW
  have htm : op.n.tmod 50 < 50 := Int.tmod_lt_of_pos _ (by omega)
  have hn0 := ho.n0
  have hn1 := ho.n1
  have hP := arm0_yes a1.dk (op.n.tmod 50) _ op.picks hob.bs (fun hp b hb e => by have := hob.bF hp b hb; have := hAW g (a2 g (.inl (.inl rfl))); omega) hob.pl (by omega)
  have HA := hide (armS_all hall (op.n.tmod 50) op.picks)
  have hG := armS_grows s (op.n.tmod 50) op.picks
  have hDD := fun (V : World) (q p : Option Nat) (F : Nat → Prop) (hV : Dr V gx q p F n s) (hb : OpV W V op (.slice lao op.L.length lcap) (.slice pao op.picks.length pcap)) (hg : W.heap.size ≤ gx) => rarm0_yes hV (op.n.tmod 50) _ op.picks hb.bs (fun hp b h e => by have := hb.bF hp b h; omega) hb.pl (by omega)
  generalize armS s (op.n.tmod 50) op.picks = X at *
  have t4 := (hT.still kb).t.t4
  have t5 := (hT.still kb).t.t5
  have t6 := (hT.still kb).t.t6
  have t7 := (hT.still kb).t.t7
  have hwbz : ¬ A w.heap.size := fun h => by have := (hT.ap.AW _ h).2; omega
  have hwbB : ¬ B w.heap.size := fun h => by have := (hT.ap.BW _ h).2; omega
  have a1k := a1
  have HTb := hide hTb
  have Hob := hide hob
  rw [hd0] at y0 hwb ⊢
  clear hT hTb ho hob a1
  go_enter Tryz.func6, Tryz.ntmps6
  go_wp2_with fail
  go_region_held3 (fun V => V.cell? ⟨tb, 4, none⟩ = some (.pointer (some ⟨g, 0, none⟩)) ∧ V.cell? ⟨tb, 6, none⟩ = some (.pointer (some ⟨gx, 0, none⟩)) ∧ V.cell? ⟨w.heap.size, 2, none⟩ = some (.int .i64 op.n) ∧ V.cell? ⟨w.heap.size, 3, none⟩ = some (.slice pao op.picks.length pcap))
    (first | exact ⟨t4, t6, y2, y3⟩ | exact hk1 | exact hk2)
    (first
    | (go_at_call 22; refine hP.mono ?_; rintro e z1 ⟨rfl, ht1⟩
       obtain ⟨kA, A', hT1⟩ := HTb.out.turnA a2 (a1k.turn ht1)
       have hk1 := And.intro hT1.t.t4 (And.intro hT1.t.t6 (And.intro (kA.cell (show wb.drew.cell? ⟨w.heap.size, 2, none⟩ = _ from y2) hwbz) (kA.cell (show wb.drew.cell? ⟨w.heap.size, 3, none⟩ = _ from y3) hwbz)))
       have ho1 := Hob.out.keeps kA (fun k hk h => by have := hAW k h; omega)
       obtain ⟨qb, pb, Fb, Fx, b1, b2, b3⟩ := hT1.b
       have hD := hDD _ qb pb Fb b1.dk ho1 (hT1.ap.BW gx (b2 gx (.inl (.inl rfl)))).1
       skip)
    | (go_at_call 23; refine hD.mono ?_; rintro e z2 ⟨rfl, ht2⟩
       obtain ⟨kB, B', C', hT2⟩ := hT1.turnB b2 b3 (Fl := fun k => k < W.heap.size) (fun k hk => hk) (b1.turn ht2)
       have hk2 := And.intro hT2.t.t4 (And.intro hT2.t.t6 (And.intro (kB.cell hk1.2.2.1 hwbB) (kB.cell hk1.2.2.2 hwbB)))
       skip))
  rename_i hH
  clear hH hP hD
  go_wp2_with fail
  go_ret
  exact ⟨by simp, .inl ⟨r, x, A', B', C', hd, X.1, rs, hT2, HA.out, hbd, by omega, by omega⟩⟩

end Go.Proofs.YtjhbljkoapbkfaaGreat
