/- Contract: an operation of a script is done with both rings: a crash, and to be opened again. Contract: any operation of a script is done with both rings. A geometry and a plan that came in by value: their integers, and that they fit. -/
import Derived.Test.YtjhbljkoapbkfaaGreatM41
import Derived.Test.YtjhbljkoapbkfaaGreatM42
import Derived.Test.YtjhbljkoapbkfaaGreatM39
set_option linter.unusedSimpArgs false
set_option linter.unusedVariables false

namespace Go.Proofs.YtjhbljkoapbkfaaGreat
open Go.RowKit Go.Attic Go.Shelf

theorem Tw.ds {W w : World} {tb : Nat} {A B C : Nat → Prop} {r g m x gx n base blocks : Nat} {head0 : Int} {h1 : Nat} {s : St} {rs1 : List Rc} {h2 : Nat} {rs2 : List Rc} (h : Tw W w tb A B C r g m x gx n base blocks head0 h1 s rs1 h2 s rs2) : Ds W w tb A B C g m gx n (base : Int) (blocks : Int) head0 (.pointer (some ⟨r, 0, none⟩)) (.pointer (some ⟨x, 0, none⟩)) s := by
  obtain ⟨p, F, Fr, a1, a2⟩ := h.a
  obtain ⟨q, p', F', Fx, b1, b2, b3⟩ := h.b
  exact ⟨⟨p, F, a1.dk, fun k hk => a2 k (.inl hk)⟩, ⟨q, p', F', b1.dk, fun k hk => b2 k (.inl hk)⟩, h.ap, h.t⟩

theorem opens_does {W w' : World} {tb g m gx n base blocks c : Nat} {head0 head : Int} {s : St} {e : Ending} (h : OpensE W tb g m gx n (base : Int) (blocks : Int) head0 head s e w') (hall : AllSec n (Low Max) s) (hp : s.pend.length ≤ c) (ho : s.ops ≤ c) : DoesE W tb g m gx n base blocks head0 c e w' := by
  refine ⟨h.1, h.2.imp (fun hh => ?_) id⟩
  obtain ⟨r, x, base', blocks', hd, rs, A, B, C, e1, e2, e3, hT, hsc⟩ := hh
  obtain rfl : base = base' := by omega
  obtain rfl : blocks = blocks' := by omega
  obtain ⟨p, F, Fr, a1, a2⟩ := hT.a
  exact ⟨r, x, A, B, C, hd, s, rs, hT, hall, scanned_max hall a1.rk.hd a1.rk.b1 a1.fit hsc, hp, ho⟩

theorem crashS_grows (s : St) (picks : List Nat) : (crashS s picks).1.pend.length ≤ s.pend.length ∧ (crashS s picks).1.ops = s.ops := by
  unfold crashS
  split
  · exact ⟨Nat.le_refl _, rfl⟩
  · exact ⟨by simp [crashed], rfl⟩
theorem restartS_grows (s : St) : (restartS s).1.pend = s.pend ∧ (restartS s).1.ops = s.ops := by
  unfold restartS
  split <;> exact ⟨rfl, rfl⟩

set_option maxRecDepth 100000 in
set_option maxHeartbeats 2000000 in
theorem does_crash {W w : World} {tb g m gx n base blocks c : Nat} {head0 : Int} (h : Lv W w tb g m gx n base blocks head0 c) (hc : c ≤ 500000) (op : OpX) (lv pv : Value) (ho : OpV W w op lv pv) (hd0 : op.d = 3) :
    Calls Tryz.prog 6 #[.pointer (some ⟨tb, 0, none⟩), .agg #[.int .i64 op.d, lv, .int .i64 op.n, pv]] w (DoesE W tb g m gx n base blocks head0 (c + 1024)) := by
  obtain ⟨r, x, A, B, C, hd, s, rs, hT, hall, hbd, hp, hops⟩ := h
  obtain ⟨lao, lcap, rfl, -⟩ := ho.rs.slice
  obtain ⟨pao, pcap, rfl, -⟩ := id ho.bs
  obtain ⟨wb, hwb⟩ : ∃ wb, w.alloc (.cells #[.int .i64 op.d, .slice lao op.L.length lcap, .int .i64 op.n, .slice pao op.picks.length pcap] 32) = wb := ⟨_, rfl⟩
  have kb : Below w.heap.size w wb := by rw [← hwb]; exact (Below.refl _ _).alloc (Nat.le_refl _) _
  have y0 : wb.cell? ⟨w.heap.size, 0, none⟩ = some (.int .i64 op.d) := by rw [← hwb]; simp
  have y3 : wb.cell? ⟨w.heap.size, 3, none⟩ = some (.slice pao op.picks.length pcap) := by rw [← hwb]; simp
  have hTb := hT.still (kb.trans ((below_drew' wb).mono kb.size))
  have hob := (ho.keeps (Keeps.of_below (S := fun _ => False) kb) (fun _ _ => id)).keeps (Keeps.of_below (S := fun _ => False) (below_drew' wb)) (fun _ _ => id)
  obtain ⟨pa, Fa, Fr, a1, a2⟩ := hTb.a
  have hAW := hTb.ap.AW
  have hP := crash_yes a1.dk _ op.picks hob.bs (fun hp b hb e => by have := hob.bF hp b hb; have := hAW m (a2 m (.inl (.inr (.inl rfl)))); omega) (by omega) hob.pl
  have HA := hide (crashS_all hall a1.dk.ok op.picks)
  have hG := crashS_grows s op.picks
  have hDD := fun (V : World) (q p : Option Nat) (F : Nat → Prop) (hV : Dr V gx q p F n s) (hb : OpV W V op (.slice lao op.L.length lcap) (.slice pao op.picks.length pcap)) (hq : ∀ b, q = some b → W.heap.size ≤ b) => rcrash_yes hV _ op.picks hb.bs (fun hp b h e => by have := hb.bF hp b h; have := hq b e; omega) (by omega) hb.pl
  generalize crashS s op.picks = X at *
  have HR := hide (restartS_all HA.out)
  have hG2 := restartS_grows X.1
  have a1k := hide a1
  have t4 := (hT.still kb).t.t4
  have hwbz : ¬ A w.heap.size := fun h => by have := (hT.ap.AW _ h).2; omega
  have hwbB : ¬ B w.heap.size := fun h => by have := (hT.ap.BW _ h).2; omega
  have HTb := hide hTb
  have Hob := hide hob
  rw [hd0] at y0 hwb ⊢
  clear hT hTb ho hob a1 hall
  go_enter Tryz.func6, Tryz.ntmps6
  go_wp2_with fail
  go_region_held3 (fun V => V.cell? ⟨tb, 4, none⟩ = some (.pointer (some ⟨g, 0, none⟩)) ∧ V.cell? ⟨w.heap.size, 3, none⟩ = some (.slice pao op.picks.length pcap))
    (first | exact ⟨t4, y3⟩ | exact hk1)
    (first
    | (go_at_call 26; refine hP.mono ?_; rintro e z1 ⟨rfl, ht1⟩
       obtain ⟨kA, A', hT1⟩ := HTb.out.turnA a2 (a1k.out.turn ht1)
       have y31 := kA.cell (show wb.drew.cell? ⟨w.heap.size, 3, none⟩ = _ from y3) hwbz
       have hk1 := And.intro hT1.t.t4 y31
       skip))
  rename_i hH
  clear hH hP
  have Ho1 := hide (Hob.out.keeps kA (fun k hk h => by have := hAW k h; omega))
  have hT1d := hT1.still (below_drew' z1)
  obtain ⟨qb, pb, Fb, Fx, b1, b2, b3⟩ := hT1d.b
  have hBW1 := hT1d.ap.BW
  have hD := hDD _ qb pb Fb b1.dk (Ho1.out.keeps (Keeps.of_below (S := fun _ => False) (below_drew' z1)) (fun _ _ => id)) (fun b hb => (hBW1 b (b2 b (.inl (.inr (b1.dk.qF b hb).1)))).1)
  have t61 := hT1.t.t6
  have HT1d := hide hT1d
  have Hb1 := hide b1
  clear hT1d b1 hDD hT1
  go_wp2_with fail
  go_region_held3 (fun V => V.cell? ⟨tb, 6, none⟩ = some (.pointer (some ⟨gx, 0, none⟩)) ∧ V.cell? ⟨w.heap.size, 3, none⟩ = some (.slice pao op.picks.length pcap))
    (first | exact ⟨t61, y31⟩ | exact hk2)
    (first
    | (go_at_call 27; refine hD.mono ?_; rintro e z2 ⟨rfl, ht2⟩
       obtain ⟨kB, B', C', hT2⟩ := HT1d.out.turnB b2 b3 (Fl := fun k => k < W.heap.size) (fun k hk => hk) (Hb1.out.turn ht2)
       have hk2 := And.intro hT2.t.t6 (kB.cell (show z1.drew.cell? ⟨w.heap.size, 3, none⟩ = _ from y31) hwbB)
       skip))
  rename_i hH
  clear hH hD
  obtain ⟨pa2, Fa2, Fr2, a12, a22⟩ := hT2.a
  have hR1 := restart_yes a12.dk
  have t42 := hT2.t.t4
  have HT2 := hide hT2
  have Ha12 := hide a12
  clear hT2 a12
  go_wp2_with fail
  refine hR1.mono ?_
  rintro e z3 ⟨rfl, ht3⟩
  obtain ⟨kA3, A3, hT3⟩ := HT2.out.turnA a22 (Ha12.out.turn ht3)
  obtain ⟨qb3, pb3, Fb3, Fx3, b13, b23, b33⟩ := hT3.b
  have hR2 := rrestart_yes b13.dk
  have t63 := hT3.t.t6
  have HT3 := hide hT3
  have Hb13 := hide b13
  clear hT3 b13 hR1
  go_wp2_with fail
  refine hR2.mono ?_
  rintro e z4 ⟨rfl, ht4⟩
  obtain ⟨kB4, B4, C4, hT4⟩ := HT3.out.turnB b23 b33 (Fl := fun k => k < W.heap.size) (fun k hk => hk) (Hb13.out.turn ht4)
  obtain ⟨qb4, pb4, Fb4, Fx4, b14, -, -⟩ := hT4.b
  have t74 := hT4.t.t7
  have x34 := b14.rk.c3
  have hop := opens_any hT4.ds (by rw [hG2.1]; omega) (hd : Int)
  clear hT4 b14 hR2
  go_wp2_with fail
  refine hop.mono ?_
  rintro e z5 hE
  have hE2 := opens_does (c := c + 1024) hE HR.out (by rw [hG2.1]; omega) (by rw [hG2.2]; omega)
  obtain ⟨rfl, hE3⟩ := hE2
  clear hE hop
  go_wp2_with fail
  go_ret
  exact ⟨by simp, hE3⟩

end Go.Proofs.YtjhbljkoapbkfaaGreat

namespace Go.Proofs.YtjhbljkoapbkfaaGreat
open Go.RowKit Go.Attic Go.Shelf

set_option maxRecDepth 100000 in
set_option maxHeartbeats 2000000 in
theorem does_open {W w : World} {tb g m gx n base blocks c : Nat} {head0 : Int} (h : Lv W w tb g m gx n base blocks head0 c) (hc : c ≤ 500000) (op : OpX) (lv pv : Value) (ho : OpV W w op lv pv) (hd0 : op.d ≠ 0) (hd1 : op.d ≠ 1) (hd2 : op.d ≠ 2) (hd3 : op.d ≠ 3) (hd4 : op.d ≠ 4) :
    Calls Tryz.prog 6 #[.pointer (some ⟨tb, 0, none⟩), .agg #[.int .i64 op.d, lv, .int .i64 op.n, pv]] w (DoesE W tb g m gx n base blocks head0 (c + 1024)) := by
  obtain ⟨r, x, A, B, C, hd, s, rs, hT, hall, hbd, hp, hops⟩ := h
  obtain ⟨lao, lcap, rfl, -⟩ := ho.rs.slice
  obtain ⟨pao, pcap, rfl, -⟩ := id ho.bs
  obtain ⟨wb, hwb⟩ : ∃ wb, w.alloc (.cells #[.int .i64 op.d, .slice lao op.L.length lcap, .int .i64 op.n, .slice pao op.picks.length pcap] 32) = wb := ⟨_, rfl⟩
  have kb : Below w.heap.size w wb := by rw [← hwb]; exact (Below.refl _ _).alloc (Nat.le_refl _) _
  have y0 : wb.cell? ⟨w.heap.size, 0, none⟩ = some (.int .i64 op.d) := by rw [← hwb]; simp
  have y2 : wb.cell? ⟨w.heap.size, 2, none⟩ = some (.int .i64 op.n) := by rw [← hwb]; simp
  have hTb := hT.still kb
  have b0 : (op.d == 0) = false := by simp [hd0]
  have b1 : (op.d == 1) = false := by simp [hd1]
  have b2 : (op.d == 2) = false := by simp [hd2]
  have b3 : (op.d == 3) = false := by simp [hd3]
  have b4 : (op.d == 4) = false := by simp [hd4]
  clear hd0 hd1 hd2 hd3 hd4
  by_cases hn : op.n < 0
  · obtain ⟨q, p, F, Fx, w1, -, -⟩ := hTb.b
    have htl : ∀ j, Calls Tryz.prog 30 #[.pointer (some ⟨x, 0, none⟩)] (wb.drewN j) fun e w' => e = .returned (.int .i64 ((hd + rs.length : Nat) : Int)) ∧ ∃ i, w' = (wb.drewN j).drewN i := fun j => (rtail_yes (w1.mono (below_drewN (Below.refl _ _) j)).rk).mono (fun e w' ⟨u1, n1, u2⟩ => ⟨u1, n1, u2.symm⟩)
    obtain ⟨H, hH⟩ : ∃ H, lapS ((hd + rs.length : Nat) : Int) (blocks : Int) = H := ⟨_, rfl⟩
    have hlp : ∀ V, Calls Tryz.prog 9 #[.int .i64 ((hd + rs.length : Nat) : Int), .int .i64 (blocks : Int)] V fun e w' => e = .returned (.int .i64 H) ∧ w' = V := fun V => (rlap_any _ _ V).mono (fun e w' ⟨u1, u2⟩ => ⟨by rw [u1, hH], u2.symm⟩)
    generalize hd + rs.length = tl at *
    have t2 := hTb.t.t2
    have t7 := hTb.t.t7
    have hop := fun j => opens_any (hTb.ds.still (below_drewN (Below.refl _ _) j)) (by omega) H
    have HTb := hide hTb
    clear hT hTb ho w1 hH
    go_enter Tryz.func6, Tryz.ntmps6
    go_wp2_with fail
    go_quiet (first | (go_at_call 30; refine Calls.quiet_of (htl _)) | (go_at_call 9; refine Calls.quiet_of_same (hlp _)))
    go_wp2_with fail
    refine (hop nq).mono ?_
    rintro e z5 hE
    have hE2 := opens_does (c := c + 1024) hE hall (by omega) (by omega)
    obtain ⟨rfl, hE3⟩ := hE2
    clear hE hop
    go_wp2_with fail
    go_ret
    exact ⟨by simp, hE3⟩
  · have hop := opens_any hTb.ds (by omega) op.n
    clear hT hTb ho
    go_enter Tryz.func6, Tryz.ntmps6
    go_wp2_with fail
    refine hop.mono ?_
    rintro e z5 hE
    have hE2 := opens_does (c := c + 1024) hE hall (by omega) (by omega)
    obtain ⟨rfl, hE3⟩ := hE2
    clear hE hop
    go_wp2_with fail
    go_ret
    exact ⟨by simp, hE3⟩

theorem does_any {W w : World} {tb g m gx n base blocks c : Nat} {head0 : Int} (h : Lv W w tb g m gx n base blocks head0 c) (hc : c ≤ 500000) (op : OpX) (lv pv : Value) (ho : OpV W w op lv pv) :
    Calls Tryz.prog 6 #[.pointer (some ⟨tb, 0, none⟩), .agg #[.int .i64 op.d, lv, .int .i64 op.n, pv]] w (DoesE W tb g m gx n base blocks head0 (c + 1024)) := by
  by_cases h0 : op.d = 0
  · exact does_append h hc op lv pv ho h0
  by_cases h1 : op.d = 1
  · exact does_sync h hc op lv pv ho h1
  by_cases h2 : op.d = 2
  · by_cases hn : op.n < 0
    · exact does_trim2 h hc op lv pv ho h2 hn
    · by_cases hn2 : op.n ≤ 2000
      · exact does_trim1 h hc op lv pv ho h2 (by omega) hn2
      · exact does_trim3 h hc op lv pv ho h2 (by omega) (by omega)
  by_cases h3 : op.d = 3
  · exact does_crash h hc op lv pv ho h3
  by_cases h4 : op.d = 4
  · exact does_arm h hc op lv pv ho h4
  exact does_open h hc op lv pv ho h0 h1 h2 h3 h4

end Go.Proofs.YtjhbljkoapbkfaaGreat

namespace Go.Attic
open Go.ChangeShapes Go.WideShapes Go.ChangeAt Go.RowKit Go.Joins Go.Deep

theorem int_cell {H : Type} {enc : TypeId × Value → H} {P : Program} {w : World} {base : Nat} {spare : Nat → Bool} {held : Bool} {n : Nat} {t : TypeId} {v : Value} {y : DataW H × List MemPlace}
    (hu : P.underlying t = some (.int .i64)) (h : DataW.trod enc P w base spare held n t [v] = some y) : ∃ a : Int, v = .int .i64 a ∧ -9223372036854775808 ≤ a ∧ a ≤ 9223372036854775807 := by
  obtain ⟨a, e0, rfl, wa⟩ := DataW.trod_int hu h
  simp at e0
  subst e0
  have := bounds_i64 wa
  exact ⟨a, rfl, by omega, by omega⟩

theorem array4' {α : Type} {cs : Array α} (h : cs.size = 4) : ∃ c0 c1 c2 c3, cs = #[c0, c1, c2, c3] := by
  obtain ⟨l⟩ := cs
  match l, h with
  | [c0, c1, c2, c3], _ => exact ⟨c0, c1, c2, c3, rfl⟩

theorem came4 {H : Type} {enc : TypeId × Value → H} {P : Program} {w : World} {base : Nat} {spare : Nat → Bool} {held : Bool} {r : Reach} {b0 : Nat} {t : TypeId} {f0 f1 f2 f3 : Field} {v : Value} {d : DataW H} {p : List MemPlace}
    (hs : P.underlying t = some (.struct #[f0, f1, f2, f3])) (hone : oneCellFields P #[f0, f1, f2, f3] = true) (hC : P.cellsOf t = 4)
    (hi : ∀ f ∈ [f0, f1, f2, f3], P.underlying f.type = some (.int .i64))
    (hv : Value.okWide P w r b0 t v) (h : DataW.Trod enc P w base spare held t v d p) :
    ∃ a0 a1 a2 a3 : Int, v = .agg #[.int .i64 a0, .int .i64 a1, .int .i64 a2, .int .i64 a3] ∧ (-9223372036854775808 ≤ a0 ∧ a0 ≤ 9223372036854775807) ∧ (-9223372036854775808 ≤ a1 ∧ a1 ≤ 9223372036854775807) ∧ (-9223372036854775808 ≤ a2 ∧ a2 ≤ 9223372036854775807) ∧ (-9223372036854775808 ≤ a3 ∧ a3 ≤ 9223372036854775807) := by
  obtain ⟨cs, rfl, hsz⟩ := okWide_struct hs hv
  obtain ⟨c0, c1, c2, c3, rfl⟩ := array4' (hsz.trans hC)
  obtain ⟨fuel, hf⟩ := h
  obtain ⟨xs, n, _, hxx, hl, hlen, hq⟩ := DataW.trod_struct hs hf
  match xs, hlen with
  | [y0, y1, y2, y3], _ =>
    obtain ⟨o0, k0⟩ := hone_of hone 0 f0 rfl
    obtain ⟨o1, k1⟩ := hone_of hone 1 f1 rfl
    obtain ⟨o2, k2⟩ := hone_of hone 2 f2 rfl
    obtain ⟨o3, k3⟩ := hone_of hone 3 f3 rfl
    have t0 : DataW.trod enc P w base spare held n f0.type [c0] = some y0 := by simpa [Value.cells, o0, k0] using hq 0 f0 rfl
    have t1 : DataW.trod enc P w base spare held n f1.type [c1] = some y1 := by simpa [Value.cells, o1, k1] using hq 1 f1 rfl
    have t2 : DataW.trod enc P w base spare held n f2.type [c2] = some y2 := by simpa [Value.cells, o2, k2] using hq 2 f2 rfl
    have t3 : DataW.trod enc P w base spare held n f3.type [c3] = some y3 := by simpa [Value.cells, o3, k3] using hq 3 f3 rfl
    obtain ⟨a0, rfl, b0⟩ := int_cell (hi f0 (by simp)) t0
    obtain ⟨a1, rfl, b1⟩ := int_cell (hi f1 (by simp)) t1
    obtain ⟨a2, rfl, b2⟩ := int_cell (hi f2 (by simp)) t2
    obtain ⟨a3, rfl, b3⟩ := int_cell (hi f3 (by simp)) t3
    exact ⟨a0, a1, a2, a3, rfl, b0, b1, b2, b3⟩

theorem array6' {α : Type} {cs : Array α} (h : cs.size = 6) : ∃ c0 c1 c2 c3 c4 c5, cs = #[c0, c1, c2, c3, c4, c5] := by
  obtain ⟨l⟩ := cs
  match l, h with
  | [c0, c1, c2, c3, c4, c5], _ => exact ⟨c0, c1, c2, c3, c4, c5, rfl⟩

theorem came6 {H : Type} {enc : TypeId × Value → H} {P : Program} {w : World} {base : Nat} {spare : Nat → Bool} {held : Bool} {r : Reach} {b0 : Nat} {t : TypeId} {f0 f1 f2 f3 f4 f5 : Field} {v : Value} {d : DataW H} {p : List MemPlace}
    (hs : P.underlying t = some (.struct #[f0, f1, f2, f3, f4, f5])) (hone : oneCellFields P #[f0, f1, f2, f3, f4, f5] = true) (hC : P.cellsOf t = 6)
    (hi : ∀ f ∈ [f0, f1, f2, f3, f4, f5], P.underlying f.type = some (.int .i64))
    (hv : Value.okWide P w r b0 t v) (h : DataW.Trod enc P w base spare held t v d p) :
    ∃ a0 a1 a2 a3 a4 a5 : Int, v = .agg #[.int .i64 a0, .int .i64 a1, .int .i64 a2, .int .i64 a3, .int .i64 a4, .int .i64 a5] ∧ (-9223372036854775808 ≤ a0 ∧ a0 ≤ 9223372036854775807) ∧ (-9223372036854775808 ≤ a1 ∧ a1 ≤ 9223372036854775807) ∧ (-9223372036854775808 ≤ a2 ∧ a2 ≤ 9223372036854775807) ∧ (-9223372036854775808 ≤ a3 ∧ a3 ≤ 9223372036854775807) ∧ (-9223372036854775808 ≤ a4 ∧ a4 ≤ 9223372036854775807) ∧ (-9223372036854775808 ≤ a5 ∧ a5 ≤ 9223372036854775807) := by
  obtain ⟨cs, rfl, hsz⟩ := okWide_struct hs hv
  obtain ⟨c0, c1, c2, c3, c4, c5, rfl⟩ := array6' (hsz.trans hC)
  obtain ⟨fuel, hf⟩ := h
  obtain ⟨xs, n, _, hxx, hl, hlen, hq⟩ := DataW.trod_struct hs hf
  match xs, hlen with
  | [y0, y1, y2, y3, y4, y5], _ =>
    obtain ⟨o0, k0⟩ := hone_of hone 0 f0 rfl
    obtain ⟨o1, k1⟩ := hone_of hone 1 f1 rfl
    obtain ⟨o2, k2⟩ := hone_of hone 2 f2 rfl
    obtain ⟨o3, k3⟩ := hone_of hone 3 f3 rfl
    obtain ⟨o4, k4⟩ := hone_of hone 4 f4 rfl
    obtain ⟨o5, k5⟩ := hone_of hone 5 f5 rfl
    have t0 : DataW.trod enc P w base spare held n f0.type [c0] = some y0 := by simpa [Value.cells, o0, k0] using hq 0 f0 rfl
    have t1 : DataW.trod enc P w base spare held n f1.type [c1] = some y1 := by simpa [Value.cells, o1, k1] using hq 1 f1 rfl
    have t2 : DataW.trod enc P w base spare held n f2.type [c2] = some y2 := by simpa [Value.cells, o2, k2] using hq 2 f2 rfl
    have t3 : DataW.trod enc P w base spare held n f3.type [c3] = some y3 := by simpa [Value.cells, o3, k3] using hq 3 f3 rfl
    have t4 : DataW.trod enc P w base spare held n f4.type [c4] = some y4 := by simpa [Value.cells, o4, k4] using hq 4 f4 rfl
    have t5 : DataW.trod enc P w base spare held n f5.type [c5] = some y5 := by simpa [Value.cells, o5, k5] using hq 5 f5 rfl
    obtain ⟨a0, rfl, b0⟩ := int_cell (hi f0 (by simp)) t0
    obtain ⟨a1, rfl, b1⟩ := int_cell (hi f1 (by simp)) t1
    obtain ⟨a2, rfl, b2⟩ := int_cell (hi f2 (by simp)) t2
    obtain ⟨a3, rfl, b3⟩ := int_cell (hi f3 (by simp)) t3
    obtain ⟨a4, rfl, b4⟩ := int_cell (hi f4 (by simp)) t4
    obtain ⟨a5, rfl, b5⟩ := int_cell (hi f5 (by simp)) t5
    exact ⟨a0, a1, a2, a3, a4, a5, rfl, b0, b1, b2, b3, b4, b5⟩

end Go.Attic
