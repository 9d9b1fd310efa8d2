/- Contracts: the document's parse of a sector. -/
import Derived.Test.YtjhbljkoapbkfaaGreatM4
import Derived.Test.YtjhbljkoapbkfaaGreatM12
import Derived.Deep.RegionHeld3
import Derived.Deep.RegionHeldLaw
set_option linter.unusedSimpArgs false
set_option linter.unusedVariables false

namespace Go.Proofs.YtjhbljkoapbkfaaGreat
open Go.RowKit Go.Attic

theorem Bs.cut {w : World} {vb off cap : Nat} {L : List Nat} {n0 : Nat} (hv : Bs w (.slice (some ⟨vb, off, none⟩) n0 cap) L) (lo n : Nat) (h : lo + n ≤ L.length) : Bs w (.slice (some ⟨vb, off + lo, none⟩) n (cap - lo)) ((L.drop lo).take n) := by
  have hcap := hv.cap
  obtain ⟨ao, cap', e, _, _, hx, hc⟩ := hv
  injection e with e1 e2 e3
  have hl : ((L.drop lo).take n).length = n := by simp; omega
  refine ⟨some ⟨vb, off + lo, none⟩, cap - lo, by rw [hl], by omega, by simp, fun x hx' => hx x (List.mem_of_mem_drop (List.mem_of_mem_take hx')), fun hp => ⟨vb, off + lo, rfl, fun i hi => ?_⟩⟩
  rw [hl] at hi
  obtain ⟨b, o, hao, hcell⟩ := hc (by omega)
  rw [← e1] at hao
  injection hao with hao
  injection hao with h1 h2
  subst h1 h2
  rw [Nat.add_assoc, hcell (lo + i) (by omega)]
  simp [List.getD, hi]
theorem number_at {w : World} {vb off cap : Nat} {L : List Nat} {n0 : Nat} (hv : Bs w (.slice (some ⟨vb, off, none⟩) n0 cap) L) (lo n : Nat) (h : lo + n ≤ L.length) (h8 : n ≤ 8) :
    Calls Tryz.prog 92 #[.slice (some ⟨vb, off + lo, none⟩) n (cap - lo)] w fun e w' => e = .returned (.int .u64 (getN L lo n : Nat)) ∧ w = w' := by
  have hl : ((L.drop lo).take n).length = n := by simp; omega
  have := number_any _ _ _ (Bs.cut hv lo n h) (by omega)
  rw [hl, getN_take] at this
  exact this

set_option maxRecDepth 100000 in
set_option maxHeartbeats 400000 in
theorem rparse_short (v : Value) (L : List Nat) (w : World) (hv : Bs w v L) (hlen : L.length ≤ 140737488355328) (hn : L.length ≠ 64) :
    Calls Tryz.prog 81 #[v] w fun e w' => e = .returned (.tuple #[.agg #[.int .i64 0, .int .i64 0, .int .i64 0, .slice none 0 0, .int .i64 0], .int .i64 0, .bool false]) ∧ Below w.heap.size w w' := by
  obtain ⟨c0, c1, c2, c3, c4, f0, f1, f2, f3, f4, lp⟩ := RecAt.new w 0 0 0 (.slice none 0 0) 0
  obtain ⟨ao, cap, rfl, -⟩ := hv
  have hnb : ((L.length : Int) != 64) = true := by simp; omega
  clear hn
  go_enter Tryz.func81, Tryz.ntmps81
  go_wp2_with fail
  refine bodyPost_ret (v := .tuple #[.agg #[.int .i64 0, .int .i64 0, .int .i64 0, .slice none 0 0, .int .i64 0], .int .i64 0, .bool false]) (by simp [results, Tryz.results81, go_sem, c0, c1, c2, c3, c4]) rfl ⟨rfl, ?_⟩
  exact (Below.refl _ w).alloc (Nat.le_refl _) _

set_option maxRecDepth 100000 in
set_option maxHeartbeats 400000 in
theorem rparse_big (v : Value) (L : List Nat) (w : World) (hv : Bs w v L) (hn : L.length = 64) (h1 : 44 < L.getD 1 0) :
    Calls Tryz.prog 81 #[v] w fun e w' => e = .returned (.tuple #[.agg #[.int .i64 0, .int .i64 0, .int .i64 0, .slice none 0 0, .int .i64 0], .int .i64 0, .bool false]) ∧ Below w.heap.size w w' := by
  obtain ⟨c0, c1, c2, c3, c4, f0, f1, f2, f3, f4, lp⟩ := RecAt.new w 0 0 0 (.slice none 0 0) 0
  have hv1 := hv.alloc (.cells #[.int .i64 0, .int .i64 0, .int .i64 0, .slice none 0 0, .int .i64 0] 52)
  obtain ⟨ao, cap, rfl, -, -, -, -⟩ := id hv
  obtain ⟨ao', cap', e, -, -, -, hc⟩ := hv1
  injection e with e1 e2 e3
  subst e1 e3
  obtain ⟨vb, off, rfl, hcell⟩ := hc (by omega)
  have d1 := hcell 1 (by omega)
  rw [hn]
  generalize L.getD 1 0 = n at *
  clear hc hcell hv
  go_enter Tryz.func81, Tryz.ntmps81
  go_wp2_with fail
  refine bodyPost_ret (v := .tuple #[.agg #[.int .i64 0, .int .i64 0, .int .i64 0, .slice none 0 0, .int .i64 0], .int .i64 0, .bool false]) (by simp [results, Tryz.results81, go_sem, c0, c1, c2, c3, c4]) rfl ⟨rfl, ?_⟩
  exact (Below.refl _ w).alloc (Nat.le_refl _) _

set_option maxRecDepth 100000 in
set_option maxHeartbeats 400000 in
theorem rparse_far (v : Value) (L : List Nat) (w : World) (hv : Bs w v L) (hn : L.length = 64) (h1 : L.getD 1 0 ≤ 44) (h2 : 2305843009213693952 < getN L 2 8) :
    Calls Tryz.prog 81 #[v] w fun e w' => e = .returned (.tuple #[.agg #[.int .i64 0, .int .i64 0, .int .i64 0, .slice none 0 0, .int .i64 0], .int .i64 0, .bool false]) ∧ Below w.heap.size w w' := by
  have hv1 := hv.alloc (.cells #[.int .i64 0, .int .i64 0, .int .i64 0, .slice none 0 0, .int .i64 0] 52)
  obtain ⟨ao, cap, rfl, -, -, -, -⟩ := id hv
  have hcap := hv.cap
  obtain ⟨ao', cap', e, -, -, -, hc⟩ := id hv1
  injection e with e1 e2 e3
  subst e1 e3
  obtain ⟨vb, off, rfl, hcell⟩ := hc (by omega)
  have hvl : vb < w.heap.size := by
    obtain ⟨ao2, cap2, e4, -, -, -, hc2⟩ := id hv
    injection e4 with e5 e6 e7
    obtain ⟨vb2, off2, e8, hcell2⟩ := hc2 (by omega)
    rw [← e5] at e8
    injection e8 with e8
    injection e8 with e9 e10
    have := World.block_lt_of_cell? w _ (hcell2 0 (by omega))
    rw [← e9] at this
    simpa using this
  have d0 := hcell 0 (by omega)
  rw [Nat.add_zero] at d0
  have d1 := hcell 1 (by omega)
  have d14 := hcell 14 (by omega)
  have hlt := hv.lt
  have kb0 := getD_lt hlt 0
  have kb14 := getD_lt hlt 14
  have hq : getN L 10 4 < 4294967296 := getN_lt hlt 10 4
  have n2 : ∀ w, Bs w (.slice (some ⟨vb, off, none⟩) L.length cap) L → Calls Tryz.prog 92 #[.slice (some ⟨vb, off + 2, none⟩) 8 (cap - 2)] w fun e w' => e = .returned (.int .u64 (getN L 2 8 : Nat)) ∧ w = w' := fun w hv => number_at hv 2 8 (by omega) (by omega)
  have n10 : ∀ w, Bs w (.slice (some ⟨vb, off, none⟩) L.length cap) L → Calls Tryz.prog 92 #[.slice (some ⟨vb, off + 10, none⟩) 4 (cap - 10)] w fun e w' => e = .returned (.int .u64 (getN L 10 4 : Nat)) ∧ w = w' := fun w hv => number_at hv 10 4 (by omega) (by omega)
  clear hc hcell hlt
  rw [hn] at hv hv1 n2 n10 hcap ⊢
  obtain ⟨c0, c1, c2, c3, c4, f0, f1, f2, f3, f4, lp⟩ := RecAt.new w 0 0 0 (.slice none 0 0) 0
  have h2i : (2305843009213693952 : Int) < ((getN L 2 8 : Nat) : Int) := by omega
  clear h2
  generalize L.getD 1 0 = n at *
  generalize ((getN L 2 8 : Nat) : Int) = P at *
  clear d0 d14 n10 hq kb0 kb14 hn
  go_enter Tryz.func81, Tryz.ntmps81
  go_wp2_with fail
  refine (n2 _ hv1).mono ?_
  rintro e w1 ⟨rfl, rfl⟩
  go_wp2_with fail
  refine bodyPost_ret (v := .tuple #[.agg #[.int .i64 0, .int .i64 0, .int .i64 0, .slice none 0 0, .int .i64 0], .int .i64 0, .bool false]) (by simp [results, Tryz.results81, go_sem, c0, c1, c2, c3, c4]) rfl ⟨rfl, ?_⟩
  exact (Below.refl _ w).alloc (Nat.le_refl _) _

set_option maxRecDepth 100000 in
set_option maxHeartbeats 400000 in
theorem rparse_P_eq (v : Value) (L : List Nat) (w : World) (hv : Bs w v L) (hn : L.length = 64) (h1 : L.getD 1 0 ≤ 44) (h2 : getN L 2 8 ≤ 2305843009213693952) (h0 : L.getD 0 0 = 1)
    (M : List Nat) (er : Int) (hby : ∀ v' w, Bs w v' ((L.drop 16).take (L.getD 1 0)) → Calls Tryz.prog 53 #[.int .i64 (getN L 2 8 : Nat), .agg #[.int .i64 1, .int .i64 (getN L 10 4 : Nat), .int .i64 (L.getD 14 0 : Nat), v', .int .i64 0]] w (NewBsE w M er)) (hMx : ∀ y ∈ M, y < 256) (herr : er = 0) (hd : M = L) :
    Calls Tryz.prog 81 #[v] w fun e w' => ∃ v', e = .returned (.tuple #[.agg #[.int .i64 1, .int .i64 (getN L 10 4 : Nat), .int .i64 (L.getD 14 0 : Nat), v', .int .i64 0], .int .i64 (getN L 2 8 : Nat), .bool true]) ∧ Bs w' v' ((L.drop 16).take (L.getD 1 0)) ∧ (∀ j, v'.ownBlock = some j → w.heap.size ≤ j) ∧ Below w.heap.size w w' := by
  subst herr
  have hbq := strB_beq hMx hv.lt
  rw [decide_eq_true hd] at hbq
  clear hd
  have hv1 := hv.alloc (.cells #[.int .i64 0, .int .i64 0, .int .i64 0, .slice none 0 0, .int .i64 0] 52)
  obtain ⟨ao, cap, rfl, -, -, -, -⟩ := id hv
  have hcap := hv.cap
  obtain ⟨ao', cap', e, -, -, -, hc⟩ := id hv1
  injection e with e1 e2 e3
  subst e1 e3
  obtain ⟨vb, off, rfl, hcell⟩ := hc (by omega)
  have hvl : vb < w.heap.size := by
    obtain ⟨ao2, cap2, e4, -, -, -, hc2⟩ := id hv
    injection e4 with e5 e6 e7
    obtain ⟨vb2, off2, e8, hcell2⟩ := hc2 (by omega)
    rw [← e5] at e8
    injection e8 with e8
    injection e8 with e9 e10
    have := World.block_lt_of_cell? w _ (hcell2 0 (by omega))
    rw [← e9] at this
    simpa using this
  have d0 := hcell 0 (by omega)
  rw [Nat.add_zero] at d0
  have d1 := hcell 1 (by omega)
  have d14 := hcell 14 (by omega)
  have hlt := hv.lt
  have kb0 := getD_lt hlt 0
  have kb14 := getD_lt hlt 14
  have hq : getN L 10 4 < 4294967296 := getN_lt hlt 10 4
  have n2 : ∀ w, Bs w (.slice (some ⟨vb, off, none⟩) L.length cap) L → Calls Tryz.prog 92 #[.slice (some ⟨vb, off + 2, none⟩) 8 (cap - 2)] w fun e w' => e = .returned (.int .u64 (getN L 2 8 : Nat)) ∧ w = w' := fun w hv => number_at hv 2 8 (by omega) (by omega)
  have n10 : ∀ w, Bs w (.slice (some ⟨vb, off, none⟩) L.length cap) L → Calls Tryz.prog 92 #[.slice (some ⟨vb, off + 10, none⟩) 4 (cap - 10)] w fun e w' => e = .returned (.int .u64 (getN L 10 4 : Nat)) ∧ w = w' := fun w hv => number_at hv 10 4 (by omega) (by omega)
  clear hc hcell hlt
  rw [hn] at hv hv1 n2 n10 hcap ⊢
  have hr := RecAt.new w 0 0 0 (.slice none 0 0) 0
  have h2i : ((getN L 2 8 : Nat) : Int) ≤ 2305843009213693952 := by omega
  have h2j : 0 ≤ ((getN L 2 8 : Nat) : Int) := by omega
  have hwP : IntKind.i64.wrap ((getN L 2 8 : Nat) : Int) = ((getN L 2 8 : Nat) : Int) := by rw [IntKind.wrap_i64]; omega
  clear h2
  have hcut := fun (w : World) (hv : Bs w (.slice (some ⟨vb, off, none⟩) 64 cap) L) => Bs.cut hv 16 (L.getD 1 0) (by omega)
  rw [h0] at d0
  clear h0 kb0
  generalize hl : (L.drop 16).take (L.getD 1 0) = l at *
  have hll : l.length = L.getD 1 0 := by rw [← hl, List.length_take, List.length_drop, hn]; omega
  have Hll := hide hll
  have hlx : ∀ x ∈ l, x < 256 := by rw [← hl]; exact fun x hx' => hv.lt x (List.mem_of_mem_drop (List.mem_of_mem_take hx'))
  clear hl hll
  generalize L.getD 14 0 = o at *
  generalize L.getD 1 0 = n at *
  generalize ((getN L 2 8 : Nat) : Int) = P at *
  generalize getN L 10 4 = Q at *
  have Hn := hide hn
  clear hn
  have hvl1 : vb < (w.alloc (.cells #[.int .i64 0, .int .i64 0, .int .i64 0, .slice none 0 0, .int .i64 0] 52)).heap.size := by simp; omega
  go_enter Tryz.func81, Tryz.ntmps81
  go_wp2_with fail
  refine (n2 _ hv1).mono ?_
  rintro e w1 ⟨rfl, rfl⟩
  go_wp2_with fail
  have hv2 := hv1.alloc (.cells #[.int .i64 1, .int .i64 0, .int .i64 0, .slice none 0 0, .int .i64 0] 52)
  refine (n10 _ hv2).mono ?_
  rintro e w1 ⟨rfl, rfl⟩
  have hA2 : RecAt ((w.alloc (.cells #[.int .i64 0, .int .i64 0, .int .i64 0, .slice none 0 0, .int .i64 0] 52)).alloc (.cells #[.int .i64 1, .int .i64 0, .int .i64 0, .slice none 0 0, .int .i64 0] 52)) w.heap.size 0 0 0 (.slice none 0 0) 0 := hr.alloc _
  have hN2 : RecAt ((w.alloc (.cells #[.int .i64 0, .int .i64 0, .int .i64 0, .slice none 0 0, .int .i64 0] 52)).alloc (.cells #[.int .i64 1, .int .i64 0, .int .i64 0, .slice none 0 0, .int .i64 0] 52)) (w.heap.size + 1) 1 0 0 (.slice none 0 0) 0 := RecAt.new1 _ _ _ _ _ _ _
  have hB2 : Below w.heap.size w ((w.alloc (.cells #[.int .i64 0, .int .i64 0, .int .i64 0, .slice none 0 0, .int .i64 0] 52)).alloc (.cells #[.int .i64 1, .int .i64 0, .int .i64 0, .slice none 0 0, .int .i64 0] 52)) := ((Below.refl _ w).alloc (Nat.le_refl _) _).alloc (by simp) _
  have hBz := (Below.refl (w.alloc (.cells #[.int .i64 0, .int .i64 0, .int .i64 0, .slice none 0 0, .int .i64 0] 52)).heap.size (w.alloc (.cells #[.int .i64 0, .int .i64 0, .int .i64 0, .slice none 0 0, .int .i64 0] 52))).alloc (Nat.le_refl _) (.cells #[.int .i64 1, .int .i64 0, .int .i64 0, .slice none 0 0, .int .i64 0] 52)
  clear hr hv1 n10
  generalize ((w.alloc (.cells #[.int .i64 0, .int .i64 0, .int .i64 0, .slice none 0 0, .int .i64 0] 52)).alloc (.cells #[.int .i64 1, .int .i64 0, .int .i64 0, .slice none 0 0, .int .i64 0] 52)) = W at *
  have hz2 := hN2.lt
  have hne : w.heap.size ≠ w.heap.size + 1 := by omega
  have hne2 : vb ≠ w.heap.size + 1 := by omega
  obtain ⟨m0, m1, m2, m3, m4, e0, e1, e2, e3, e4, lq⟩ := id hN2
  have d1W : W.cell? ⟨vb, off + 1, none⟩ = some (.int .u8 (n : Nat)) := by rw [hBz.cell (p := ⟨vb, off + 1, none⟩) hvl1]; exact d1
  have d14W : W.cell? ⟨vb, off + 14, none⟩ = some (.int .u8 (o : Nat)) := by rw [hBz.cell (p := ⟨vb, off + 14, none⟩) hvl1]; exact d14
  have hN3 := (hN2.set1 (Q : Nat)).set2 (o : Nat)
  have hA3 : RecAt ((W.setCell ⟨w.heap.size + 1, 1, none⟩ (.int .i64 (Q : Nat))).setCell ⟨w.heap.size + 1, 2, none⟩ (.int .i64 (o : Nat))) w.heap.size 0 0 0 (.slice none 0 0) 0 := (hA2.setOther (Ne.symm hne)).setOther (Ne.symm hne)
  have hB3 : Below w.heap.size w ((W.setCell ⟨w.heap.size + 1, 1, none⟩ (.int .i64 (Q : Nat))).setCell ⟨w.heap.size + 1, 2, none⟩ (.int .i64 (o : Nat))) := (hB2.setCell (by simp) _).setCell (by simp) _
  have hv3 : Bs ((W.setCell ⟨w.heap.size + 1, 1, none⟩ (.int .i64 (Q : Nat))).setCell ⟨w.heap.size + 1, 2, none⟩ (.int .i64 (o : Nat))) (.slice (some ⟨vb, off, none⟩) 64 cap) L := (((Keeps.refl (fun j => j = w.heap.size + 1) W).set rfl _).set rfl _).bs hv2 (fun b hb e => hne2 ((Option.some.inj (show some vb = some b from hb)).trans e))
  have hc3 : Bs ((W.setCell ⟨w.heap.size + 1, 1, none⟩ (.int .i64 (Q : Nat))).setCell ⟨w.heap.size + 1, 2, none⟩ (.int .i64 (o : Nat))) (.slice (some ⟨vb, off + 16, none⟩) (16 + n - 16) (cap - 16)) l := by rw [Nat.add_sub_cancel_left]; exact hcut _ hv3
  have hz3 : w.heap.size + 2 ≤ ((W.setCell ⟨w.heap.size + 1, 1, none⟩ (.int .i64 (Q : Nat))).setCell ⟨w.heap.size + 1, 2, none⟩ (.int .i64 (o : Nat))).heap.size := by simp; omega
  obtain ⟨i0, hi, hi0, hi1, hi2⟩ := info_parts Tryz.info5
  have hq4 : 0 + l.length ≤ 140737488355328 := by rw [Hll.out]; omega
  clear hA2 hB2 hv2 hcut d0 d1 d14 hBz hvl1
  go_wp2_with (at_builtin; refine wpList_append_bs _ rfl (.const (.slice none 0 0)) (.tmp 49) 30 rfl (w.heap.size + 2) 5 i0 (.int .u8 0) Tryz.underlying30 hi hi0 hi1 hi2 rfl _ 0 [] rfl (World.ownsRow_nil _ _ _ _) _ l rfl hc3 hq4 hz3 ?_; intro v4 w4 ho4 hg4; rw [Nat.zero_add, List.nil_append] at ho4; obtain ⟨ao4, cap4, rfl, -, -⟩ := owns_form ho4; have hb4 := (Below.refl ((W.setCell ⟨w.heap.size + 1, 1, none⟩ (.int .i64 (Q : Nat))).setCell ⟨w.heap.size + 1, 2, none⟩ (.int .i64 (o : Nat))).heap.size _).grown hg4 (Nat.le_refl _) (by intro k hk; cases hk); have hN4 := hN3.mono hb4; have hA4 := hA3.mono hb4; have hB4 := hB3.trans (hb4.mono hB3.size); have hv4 := hv3.mono hb4; obtain ⟨m0, m1, m2, m3, m4, e0, e1, e2, e3, e4, lq⟩ := id hN4; have O4 := hide ho4; clear hg4 hb4 ho4)
  have hN5 := hN4.set3 (.slice ao4 l.length cap4)
  have hA5 : RecAt (w4.setCell ⟨w.heap.size + 1, 3, none⟩ (.slice ao4 l.length cap4)) w.heap.size 0 0 0 (.slice none 0 0) 0 := hA4.setOther (Ne.symm hne)
  have hB5 : Below w.heap.size w (w4.setCell ⟨w.heap.size + 1, 3, none⟩ (.slice ao4 l.length cap4)) := hB4.setCell (by simp) _
  have hv5 : Bs (w4.setCell ⟨w.heap.size + 1, 3, none⟩ (.slice ao4 l.length cap4)) (.slice (some ⟨vb, off, none⟩) 64 cap) L := ((Keeps.refl (fun j => j = w.heap.size + 1) w4).set rfl _).bs hv4 (fun b hb e => hne2 ((Option.some.inj (show some vb = some b from hb)).trans e))
  have hO5 : (w4.setCell ⟨w.heap.size + 1, 3, none⟩ (.slice ao4 l.length cap4)).ownsRow (w.heap.size + 2) 5 1 (.slice ao4 l.length cap4) l.length (cellsB l) := ((Keeps.refl (fun j => j = w.heap.size + 1) w4).set rfl _).owns O4.out (fun b hb e => by have h1 := owns_lt O4.out b hb; have e' : b = w.heap.size + 1 := e; omega)
  have hdlt := owns_lt hO5
  have hD5 : Bs (w4.setCell ⟨w.heap.size + 1, 3, none⟩ (.slice ao4 l.length cap4)) (.slice ao4 l.length cap4) l := Bs.of_owns hO5 hlx
  clear hN3 hA3 hB3 hv3 hc3 hz3 hq4 hN4 hA4 hB4 hv4 O4 hO5 d1W d14W m0 m1 m2 m3 m4 e0 e1 e2 e3 e4 lq hN2
  generalize (w4.setCell ⟨w.heap.size + 1, 3, none⟩ (.slice ao4 l.length cap4)) = W7 at *
  refine (n2 _ hv5).mono ?_
  rintro e w1 ⟨rfl, rfl⟩
  obtain ⟨m0, m1, m2, m3, m4, e0, e1, e2, e3, e4, lq⟩ := id hN5
  go_wp2_with fail
  clear m0 m1 m2 m3 m4 e0 e1 e2 e3 e4 lq n2
  refine (hby _ _ hD5).mono ?_
  rintro e w6 ⟨vx, rfl, hox, hbx⟩
  have hbs := Bs.of_owns hox hMx
  obtain ⟨xo, xc, rfl, -, -⟩ := owns_form hox
  have hxlt := owns_lt hox
  have hN6 := hN5.mono hbx
  have hA6 := hA5.mono hbx
  have hB6 := hB5.trans (hbx.mono hB5.size)
  have hv6 := hv5.mono hbx
  have hD6 := hD5.mono hbx
  have hz7 := hN5.lt
  clear hox hbx hN5 hA5 hB5 hv5 hD5 hby
  go_wp2_with fail
  refine wp_region_noPanic ?_
  refine wp_region_held_drew (S := (fun w' => (w'.cell? ⟨w.heap.size + 1, 0, none⟩ = some (.int .i64 1) ∧ w'.cell? ⟨w.heap.size + 1, 1, none⟩ = some (.int .i64 (Q : Nat)) ∧ w'.cell? ⟨w.heap.size + 1, 2, none⟩ = some (.int .i64 (o : Nat)) ∧ w'.cell? ⟨w.heap.size + 1, 3, none⟩ = some (.slice ao4 l.length cap4) ∧ w'.cell? ⟨w.heap.size + 1, 4, none⟩ = some (.int .i64 0)) ∧ Bs w' (.slice xo M.length xc) M ∧ Bs w' (.slice (some ⟨vb, off, none⟩) 64 cap) L)) (by kernel_rfl) ⟨hN6.drew.held, hbs.drew, hv6.drew⟩ (fun hHeld => ?_)
  refine wpAnyH_take (i := 0) (oi := { dst := some 67, op := Op.load 52 (Operand.tmp 5), type := 52, pos := _, after := #[], guard := none }) (v := .agg #[.int .i64 1, .int .i64 (Q : Nat), .int .i64 (o : Nat), .slice ao4 l.length cap4, .int .i64 0]) rfl (by kernel_rfl) (by kernel_rfl) (by kernel_rfl) (fun _ _ _ h => h) (Or.inl ⟨by rfl, fun w' hw => by obtain ⟨⟨k0, k1, k2, k3, k4⟩, -, -⟩ := hw; go_simp⟩) hHeld ?_
  simp only [Act.put, List.setIfInBounds_toArray, List.set_cons_zero, List.set_cons_succ]
  refine wpAnyH_take (i := 1) (oi := { dst := some 68, op := Op.move (Operand.tmp 6), type := 2, pos := _, after := #[{ on := 11, ground := Ground.gcOnly Departure.lateStores }], guard := none }) (v := .int .i64 P) rfl (by kernel_rfl) (by kernel_rfl) (by kernel_rfl) (fun _ _ _ h => h) (Or.inl ⟨by rfl, fun w' hw => by go_simp⟩) hHeld ?_
  simp only [Act.put, List.setIfInBounds_toArray, List.set_cons_zero, List.set_cons_succ]
  refine wpAnyH_take (i := 2) (oi := { dst := some 69, op := Op.move (Operand.tmp 8), type := 42, pos := _, after := #[], guard := none }) (v := .int .i64 0) rfl (by kernel_rfl) (by kernel_rfl) (by kernel_rfl) (fun _ _ _ h => h) (Or.inl ⟨by rfl, fun w' hw => by go_simp⟩) hHeld ?_
  simp only [Act.put, List.setIfInBounds_toArray, List.set_cons_zero, List.set_cons_succ]
  refine wpAnyH_take (i := 3) (oi := { dst := some 70, op := Op.binOp BinOp.eql 42 (Operand.tmp 69) (Operand.const (Value.int IntKind.i64 0)) 42, type := 4, pos := _, after := #[{ on := 2, ground := Ground.data }], guard := none }) (v := .bool true) rfl (by kernel_rfl) (by kernel_rfl) (by kernel_rfl) (fun _ _ _ h => h) (Or.inl ⟨by rfl, fun w' hw => by go_simp⟩) hHeld ?_
  simp only [Act.put, List.setIfInBounds_toArray, List.set_cons_zero, List.set_cons_succ]
  refine wpAnyH_take (i := 4) (oi := { dst := some 71, op := Op.move (Operand.tmp 70), type := 4, pos := _, after := #[{ on := 3, ground := Ground.data }], guard := none }) (v := .bool true) rfl (by kernel_rfl) (by kernel_rfl) (by kernel_rfl) (fun _ _ _ h => h) (Or.inl ⟨by rfl, fun w' hw => by go_simp⟩) hHeld ?_
  simp only [Act.put, List.setIfInBounds_toArray, List.set_cons_zero, List.set_cons_succ]
  refine wpAnyH_take (i := 5) (oi := { dst := some 72, op := Op.move (Operand.tmp 7), type := 30, pos := _, after := #[{ on := 4, ground := Ground.guard }, { on := 12, ground := Ground.gcOnly Departure.lateStores }], guard := some (4, true) }) (v := .slice xo M.length xc) rfl (by kernel_rfl) (by kernel_rfl) (by kernel_rfl) (fun _ _ _ h => h) (Or.inl ⟨by rfl, fun w' hw => by go_simp⟩) hHeld ?_
  simp only [Act.put, List.setIfInBounds_toArray, List.set_cons_zero, List.set_cons_succ]
  refine wpAnyH_take (i := 6) (oi := { dst := some 73, op := Op.convert 30 9 (Operand.tmp 72), type := 9, pos := _, after := #[{ on := 5, ground := Ground.data }, { on := 4, ground := Ground.guard }, { on := 12, ground := Ground.gcOnly Departure.lateStores }], guard := some (4, true) }) (v := .string (strB M)) rfl (by kernel_rfl) (by kernel_rfl) (by kernel_rfl) (fun _ _ _ h => h) (Or.inl ⟨by rfl, fun w' hw => by obtain ⟨-, hb1, hb2⟩ := hw; have c := hb1.convert (P := Tryz.prog) 30 5 9 Tryz.underlying30 Tryz.underlying5 Tryz.underlying9; clear hb1 hb2; go_simp⟩) hHeld ?_
  simp only [Act.put, List.setIfInBounds_toArray, List.set_cons_zero, List.set_cons_succ]
  refine wpAnyH_take (i := 7) (oi := { dst := some 74, op := Op.move (Operand.tmp 0), type := 30, pos := _, after := #[{ on := 4, ground := Ground.guard }, { on := 12, ground := Ground.gcOnly Departure.lateStores }], guard := some (4, true) }) (v := .slice (some ⟨vb, off, none⟩) 64 cap) rfl (by kernel_rfl) (by kernel_rfl) (by kernel_rfl) (fun _ _ _ h => h) (Or.inl ⟨by rfl, fun w' hw => by go_simp⟩) hHeld ?_
  simp only [Act.put, List.setIfInBounds_toArray, List.set_cons_zero, List.set_cons_succ]
  refine wpAnyH_take (i := 8) (oi := { dst := some 75, op := Op.convert 30 9 (Operand.tmp 74), type := 9, pos := _, after := #[{ on := 7, ground := Ground.data }, { on := 4, ground := Ground.guard }, { on := 12, ground := Ground.gcOnly Departure.lateStores }], guard := some (4, true) }) (v := .string (strB L)) rfl (by kernel_rfl) (by kernel_rfl) (by kernel_rfl) (fun _ _ _ h => h) (Or.inl ⟨by rfl, fun w' hw => by obtain ⟨-, hb1, hb2⟩ := hw; have c := hb2.convert (P := Tryz.prog) 30 5 9 Tryz.underlying30 Tryz.underlying5 Tryz.underlying9; clear hb1 hb2; go_simp⟩) hHeld ?_
  simp only [Act.put, List.setIfInBounds_toArray, List.set_cons_zero, List.set_cons_succ]
  refine wpAnyH_take (i := 9) (oi := { dst := some 76, op := Op.binOp BinOp.eql 9 (Operand.tmp 73) (Operand.tmp 75) 9, type := 4, pos := _, after := #[{ on := 6, ground := Ground.data }, { on := 8, ground := Ground.data }, { on := 4, ground := Ground.guard }, { on := 12, ground := Ground.gcOnly Departure.lateStores }], guard := some (4, true) }) (v := .bool true) rfl (by kernel_rfl) (by kernel_rfl) (by kernel_rfl) (fun _ _ _ h => h) (Or.inl ⟨by rfl, fun w' hw => by go_simp⟩) hHeld ?_
  simp only [Act.put, List.setIfInBounds_toArray, List.set_cons_zero, List.set_cons_succ]
  refine wpAnyH_take (i := 10) (oi := { dst := some 77, op := Op.pick (Operand.tmp 71) (Operand.tmp 76) (Operand.const (Value.bool false)), type := 4, pos := _, after := #[{ on := 4, ground := Ground.data }, { on := 9, ground := Ground.data }, { on := 12, ground := Ground.gcOnly Departure.lateStores }], guard := none }) (v := .bool true) rfl (by kernel_rfl) (by kernel_rfl) (by kernel_rfl) (fun _ _ _ h => h) (Or.inl ⟨by rfl, fun w' hw => by go_simp⟩) hHeld ?_
  simp only [Act.put, List.setIfInBounds_toArray, List.set_cons_zero, List.set_cons_succ]
  refine wpAnyH_ready (rs := [11]) (by kernel_rfl) (by simp) ?_
  refine AllReadyH.cons (o := { dst := none, op := Op.store 52 (Operand.tmp 2) (Operand.tmp 67), type := 0, pos := _, after := #[{ on := 0, ground := Ground.data }, { on := 4, ground := Ground.chain }, { on := 0, ground := Ground.phase }, { on := 1, ground := Ground.textOnly Departure.lateStores }, { on := 2, ground := Ground.textOnly Departure.lateStores }, { on := 3, ground := Ground.textOnly Departure.lateStores }, { on := 4, ground := Ground.textOnly Departure.lateStores }, { on := 5, ground := Ground.textOnly Departure.lateStores }, { on := 6, ground := Ground.textOnly Departure.lateStores }, { on := 7, ground := Ground.textOnly Departure.lateStores }, { on := 8, ground := Ground.textOnly Departure.lateStores }, { on := 9, ground := Ground.textOnly Departure.lateStores }, { on := 10, ground := Ground.textOnly Departure.lateStores }], guard := none }) rfl (fun K hK => ?_) AllReadyH.nil
  refine step_store_rec rfl (.tmp 2) (.tmp 67) rfl w.heap.size 1 (Q : Nat) (o : Nat) ao4 l.length cap4 0 rfl rfl hA6.drew ?_
  have hH2 : (fun w' => (w'.cell? ⟨w.heap.size + 1, 0, none⟩ = some (.int .i64 1) ∧ w'.cell? ⟨w.heap.size + 1, 1, none⟩ = some (.int .i64 (Q : Nat)) ∧ w'.cell? ⟨w.heap.size + 1, 2, none⟩ = some (.int .i64 (o : Nat)) ∧ w'.cell? ⟨w.heap.size + 1, 3, none⟩ = some (.slice ao4 l.length cap4) ∧ w'.cell? ⟨w.heap.size + 1, 4, none⟩ = some (.int .i64 0)) ∧ Bs w' (.slice xo M.length xc) M ∧ Bs w' (.slice (some ⟨vb, off, none⟩) 64 cap) L) (((((w6.drew.setCell ⟨w.heap.size, 0, none⟩ (.int .i64 1)).setCell ⟨w.heap.size, 1, none⟩ (.int .i64 (Q : Nat))).setCell ⟨w.heap.size, 2, none⟩ (.int .i64 (o : Nat))).setCell ⟨w.heap.size, 3, none⟩ (.slice ao4 l.length cap4)).setCell ⟨w.heap.size, 4, none⟩ (.int .i64 0)) := ⟨(hN6.drew.setOthers hne 1 (Q : Nat) (o : Nat) (.slice ao4 l.length cap4) 0).held, (keeps_all w6.drew w.heap.size 1 (Q : Nat) (o : Nat) (.slice ao4 l.length cap4) 0).bs hbs.drew (fun j hj e => by have h1 := hxlt j hj; have e2 : j = w.heap.size := e; omega), (keeps_all w6.drew w.heap.size 1 (Q : Nat) (o : Nat) (.slice ao4 l.length cap4) 0).bs hv6.drew (fun j hj e => by have e2 : j = w.heap.size := e; have e3 : vb = j := Option.some.inj (show some vb = some j from hj); omega)⟩
  refine hK.out _ _ hH2 (fun _ => ?_)
  clear hK K
  simp only [Act.put]
  refine wpAnyH_take (i := 12) (oi := { dst := some 3, op := Op.assign (Operand.tmp 68), type := 2, pos := _, after := #[{ on := 1, ground := Ground.data }, { on := 11, ground := Ground.chain }, { on := 0, ground := Ground.phase }, { on := 1, ground := Ground.phase }, { on := 2, ground := Ground.textOnly Departure.lateStores }, { on := 3, ground := Ground.textOnly Departure.lateStores }, { on := 4, ground := Ground.textOnly Departure.lateStores }, { on := 5, ground := Ground.textOnly Departure.lateStores }, { on := 6, ground := Ground.textOnly Departure.lateStores }, { on := 7, ground := Ground.textOnly Departure.lateStores }, { on := 8, ground := Ground.textOnly Departure.lateStores }, { on := 9, ground := Ground.textOnly Departure.lateStores }, { on := 10, ground := Ground.textOnly Departure.lateStores }, { on := 11, ground := Ground.phase }], guard := none }) (v := .int .i64 P) rfl (by kernel_rfl) (by kernel_rfl) (by kernel_rfl) (fun _ _ _ h => h) (Or.inl ⟨by rfl, fun w' hw => by go_simp⟩) hH2 ?_
  simp only [Act.put, List.setIfInBounds_toArray, List.set_cons_zero, List.set_cons_succ]
  refine wpAnyH_take (i := 13) (oi := { dst := some 4, op := Op.assign (Operand.tmp 77), type := 4, pos := _, after := #[{ on := 10, ground := Ground.data }, { on := 12, ground := Ground.chain }, { on := 0, ground := Ground.phase }, { on := 1, ground := Ground.phase }, { on := 2, ground := Ground.phase }, { on := 3, ground := Ground.phase }, { on := 4, ground := Ground.phase }, { on := 5, ground := Ground.phase }, { on := 6, ground := Ground.phase }, { on := 7, ground := Ground.phase }, { on := 8, ground := Ground.phase }, { on := 9, ground := Ground.phase }, { on := 10, ground := Ground.phase }, { on := 11, ground := Ground.phase }, { on := 12, ground := Ground.phase }], guard := none }) (v := .bool true) rfl (by kernel_rfl) (by kernel_rfl) (by kernel_rfl) (fun _ _ _ h => h) (Or.inl ⟨by rfl, fun w' hw => by go_simp⟩) hH2 ?_
  simp only [Act.put, List.setIfInBounds_toArray, List.set_cons_zero, List.set_cons_succ]
  refine wpAnyH_done (by kernel_rfl) ?_ _
  refine NoPanic.normal ?_
  have hcU := hA6.drew.setAll 1 (Q : Nat) (o : Nat) (.slice ao4 l.length cap4) 0
  have hbU : Below w.heap.size w (((((w6.drew.setCell ⟨w.heap.size, 0, none⟩ (.int .i64 1)).setCell ⟨w.heap.size, 1, none⟩ (.int .i64 (Q : Nat))).setCell ⟨w.heap.size, 2, none⟩ (.int .i64 (o : Nat))).setCell ⟨w.heap.size, 3, none⟩ (.slice ao4 l.length cap4)).setCell ⟨w.heap.size, 4, none⟩ (.int .i64 0)) := ((((hB6.drew.setCell (Nat.le_refl _) _).setCell (Nat.le_refl _) _).setCell (Nat.le_refl _) _).setCell (Nat.le_refl _) _).setCell (Nat.le_refl _) _
  have hDU : Bs (((((w6.drew.setCell ⟨w.heap.size, 0, none⟩ (.int .i64 1)).setCell ⟨w.heap.size, 1, none⟩ (.int .i64 (Q : Nat))).setCell ⟨w.heap.size, 2, none⟩ (.int .i64 (o : Nat))).setCell ⟨w.heap.size, 3, none⟩ (.slice ao4 l.length cap4)).setCell ⟨w.heap.size, 4, none⟩ (.int .i64 0)) (.slice ao4 l.length cap4) l := (keeps_all w6.drew w.heap.size 1 (Q : Nat) (o : Nat) (.slice ao4 l.length cap4) 0).bs hD6.drew (fun j hj e => by have h1 := hdlt j hj; have e2 : j = w.heap.size := e; omega)
  clear hH2
  generalize (((((w6.drew.setCell ⟨w.heap.size, 0, none⟩ (.int .i64 1)).setCell ⟨w.heap.size, 1, none⟩ (.int .i64 (Q : Nat))).setCell ⟨w.heap.size, 2, none⟩ (.int .i64 (o : Nat))).setCell ⟨w.heap.size, 3, none⟩ (.slice ao4 l.length cap4)).setCell ⟨w.heap.size, 4, none⟩ (.int .i64 0)) = U at hcU hbU hDU ⊢
  obtain ⟨c0, c1, c2, c3, c4, -, -, -, -, -, -⟩ := hcU
  clear hA6 hN6 hB6 hHeld hbs hv6 hD6
  go_wp2_with fail
  refine bodyPost_ret (v := .tuple #[.agg #[.int .i64 1, .int .i64 (Q : Nat), .int .i64 (o : Nat), .slice ao4 l.length cap4, .int .i64 0], .int .i64 P, .bool true]) (by simp [results, Tryz.results81, go_sem, c0, c1, c2, c3, c4]) rfl ⟨_, rfl, hDU, (fun j hj => by have := hdlt j hj; omega), hbU⟩

set_option maxRecDepth 100000 in
set_option maxHeartbeats 400000 in
theorem rparse_P_ne (v : Value) (L : List Nat) (w : World) (hv : Bs w v L) (hn : L.length = 64) (h1 : L.getD 1 0 ≤ 44) (h2 : getN L 2 8 ≤ 2305843009213693952) (h0 : L.getD 0 0 = 1)
    (M : List Nat) (er : Int) (hby : ∀ v' w, Bs w v' ((L.drop 16).take (L.getD 1 0)) → Calls Tryz.prog 53 #[.int .i64 (getN L 2 8 : Nat), .agg #[.int .i64 1, .int .i64 (getN L 10 4 : Nat), .int .i64 (L.getD 14 0 : Nat), v', .int .i64 0]] w (NewBsE w M er)) (hMx : ∀ y ∈ M, y < 256) (herr : er = 0) (hd : M ≠ L) :
    Calls Tryz.prog 81 #[v] w fun e w' => ∃ v', e = .returned (.tuple #[.agg #[.int .i64 1, .int .i64 (getN L 10 4 : Nat), .int .i64 (L.getD 14 0 : Nat), v', .int .i64 0], .int .i64 (getN L 2 8 : Nat), .bool false]) ∧ Bs w' v' ((L.drop 16).take (L.getD 1 0)) ∧ (∀ j, v'.ownBlock = some j → w.heap.size ≤ j) ∧ Below w.heap.size w w' := by
  subst herr
  have hbq := strB_beq hMx hv.lt
  rw [decide_eq_false hd] at hbq
  clear hd
  have hv1 := hv.alloc (.cells #[.int .i64 0, .int .i64 0, .int .i64 0, .slice none 0 0, .int .i64 0] 52)
  obtain ⟨ao, cap, rfl, -, -, -, -⟩ := id hv
  have hcap := hv.cap
  obtain ⟨ao', cap', e, -, -, -, hc⟩ := id hv1
  injection e with e1 e2 e3
  subst e1 e3
  obtain ⟨vb, off, rfl, hcell⟩ := hc (by omega)
  have hvl : vb < w.heap.size := by
    obtain ⟨ao2, cap2, e4, -, -, -, hc2⟩ := id hv
    injection e4 with e5 e6 e7
    obtain ⟨vb2, off2, e8, hcell2⟩ := hc2 (by omega)
    rw [← e5] at e8
    injection e8 with e8
    injection e8 with e9 e10
    have := World.block_lt_of_cell? w _ (hcell2 0 (by omega))
    rw [← e9] at this
    simpa using this
  have d0 := hcell 0 (by omega)
  rw [Nat.add_zero] at d0
  have d1 := hcell 1 (by omega)
  have d14 := hcell 14 (by omega)
  have hlt := hv.lt
  have kb0 := getD_lt hlt 0
  have kb14 := getD_lt hlt 14
  have hq : getN L 10 4 < 4294967296 := getN_lt hlt 10 4
  have n2 : ∀ w, Bs w (.slice (some ⟨vb, off, none⟩) L.length cap) L → Calls Tryz.prog 92 #[.slice (some ⟨vb, off + 2, none⟩) 8 (cap - 2)] w fun e w' => e = .returned (.int .u64 (getN L 2 8 : Nat)) ∧ w = w' := fun w hv => number_at hv 2 8 (by omega) (by omega)
  have n10 : ∀ w, Bs w (.slice (some ⟨vb, off, none⟩) L.length cap) L → Calls Tryz.prog 92 #[.slice (some ⟨vb, off + 10, none⟩) 4 (cap - 10)] w fun e w' => e = .returned (.int .u64 (getN L 10 4 : Nat)) ∧ w = w' := fun w hv => number_at hv 10 4 (by omega) (by omega)
  clear hc hcell hlt
  rw [hn] at hv hv1 n2 n10 hcap ⊢
  have hr := RecAt.new w 0 0 0 (.slice none 0 0) 0
  have h2i : ((getN L 2 8 : Nat) : Int) ≤ 2305843009213693952 := by omega
  have h2j : 0 ≤ ((getN L 2 8 : Nat) : Int) := by omega
  have hwP : IntKind.i64.wrap ((getN L 2 8 : Nat) : Int) = ((getN L 2 8 : Nat) : Int) := by rw [IntKind.wrap_i64]; omega
  clear h2
  have hcut := fun (w : World) (hv : Bs w (.slice (some ⟨vb, off, none⟩) 64 cap) L) => Bs.cut hv 16 (L.getD 1 0) (by omega)
  rw [h0] at d0
  clear h0 kb0
  generalize hl : (L.drop 16).take (L.getD 1 0) = l at *
  have hll : l.length = L.getD 1 0 := by rw [← hl, List.length_take, List.length_drop, hn]; omega
  have Hll := hide hll
  have hlx : ∀ x ∈ l, x < 256 := by rw [← hl]; exact fun x hx' => hv.lt x (List.mem_of_mem_drop (List.mem_of_mem_take hx'))
  clear hl hll
  generalize L.getD 14 0 = o at *
  generalize L.getD 1 0 = n at *
  generalize ((getN L 2 8 : Nat) : Int) = P at *
  generalize getN L 10 4 = Q at *
  have Hn := hide hn
  clear hn
  have hvl1 : vb < (w.alloc (.cells #[.int .i64 0, .int .i64 0, .int .i64 0, .slice none 0 0, .int .i64 0] 52)).heap.size := by simp; omega
  go_enter Tryz.func81, Tryz.ntmps81
  go_wp2_with fail
  refine (n2 _ hv1).mono ?_
  rintro e w1 ⟨rfl, rfl⟩
  go_wp2_with fail
  have hv2 := hv1.alloc (.cells #[.int .i64 1, .int .i64 0, .int .i64 0, .slice none 0 0, .int .i64 0] 52)
  refine (n10 _ hv2).mono ?_
  rintro e w1 ⟨rfl, rfl⟩
  have hA2 : RecAt ((w.alloc (.cells #[.int .i64 0, .int .i64 0, .int .i64 0, .slice none 0 0, .int .i64 0] 52)).alloc (.cells #[.int .i64 1, .int .i64 0, .int .i64 0, .slice none 0 0, .int .i64 0] 52)) w.heap.size 0 0 0 (.slice none 0 0) 0 := hr.alloc _
  have hN2 : RecAt ((w.alloc (.cells #[.int .i64 0, .int .i64 0, .int .i64 0, .slice none 0 0, .int .i64 0] 52)).alloc (.cells #[.int .i64 1, .int .i64 0, .int .i64 0, .slice none 0 0, .int .i64 0] 52)) (w.heap.size + 1) 1 0 0 (.slice none 0 0) 0 := RecAt.new1 _ _ _ _ _ _ _
  have hB2 : Below w.heap.size w ((w.alloc (.cells #[.int .i64 0, .int .i64 0, .int .i64 0, .slice none 0 0, .int .i64 0] 52)).alloc (.cells #[.int .i64 1, .int .i64 0, .int .i64 0, .slice none 0 0, .int .i64 0] 52)) := ((Below.refl _ w).alloc (Nat.le_refl _) _).alloc (by simp) _
  have hBz := (Below.refl (w.alloc (.cells #[.int .i64 0, .int .i64 0, .int .i64 0, .slice none 0 0, .int .i64 0] 52)).heap.size (w.alloc (.cells #[.int .i64 0, .int .i64 0, .int .i64 0, .slice none 0 0, .int .i64 0] 52))).alloc (Nat.le_refl _) (.cells #[.int .i64 1, .int .i64 0, .int .i64 0, .slice none 0 0, .int .i64 0] 52)
  clear hr hv1 n10
  generalize ((w.alloc (.cells #[.int .i64 0, .int .i64 0, .int .i64 0, .slice none 0 0, .int .i64 0] 52)).alloc (.cells #[.int .i64 1, .int .i64 0, .int .i64 0, .slice none 0 0, .int .i64 0] 52)) = W at *
  have hz2 := hN2.lt
  have hne : w.heap.size ≠ w.heap.size + 1 := by omega
  have hne2 : vb ≠ w.heap.size + 1 := by omega
  obtain ⟨m0, m1, m2, m3, m4, e0, e1, e2, e3, e4, lq⟩ := id hN2
  have d1W : W.cell? ⟨vb, off + 1, none⟩ = some (.int .u8 (n : Nat)) := by rw [hBz.cell (p := ⟨vb, off + 1, none⟩) hvl1]; exact d1
  have d14W : W.cell? ⟨vb, off + 14, none⟩ = some (.int .u8 (o : Nat)) := by rw [hBz.cell (p := ⟨vb, off + 14, none⟩) hvl1]; exact d14
  have hN3 := (hN2.set1 (Q : Nat)).set2 (o : Nat)
  have hA3 : RecAt ((W.setCell ⟨w.heap.size + 1, 1, none⟩ (.int .i64 (Q : Nat))).setCell ⟨w.heap.size + 1, 2, none⟩ (.int .i64 (o : Nat))) w.heap.size 0 0 0 (.slice none 0 0) 0 := (hA2.setOther (Ne.symm hne)).setOther (Ne.symm hne)
  have hB3 : Below w.heap.size w ((W.setCell ⟨w.heap.size + 1, 1, none⟩ (.int .i64 (Q : Nat))).setCell ⟨w.heap.size + 1, 2, none⟩ (.int .i64 (o : Nat))) := (hB2.setCell (by simp) _).setCell (by simp) _
  have hv3 : Bs ((W.setCell ⟨w.heap.size + 1, 1, none⟩ (.int .i64 (Q : Nat))).setCell ⟨w.heap.size + 1, 2, none⟩ (.int .i64 (o : Nat))) (.slice (some ⟨vb, off, none⟩) 64 cap) L := (((Keeps.refl (fun j => j = w.heap.size + 1) W).set rfl _).set rfl _).bs hv2 (fun b hb e => hne2 ((Option.some.inj (show some vb = some b from hb)).trans e))
  have hc3 : Bs ((W.setCell ⟨w.heap.size + 1, 1, none⟩ (.int .i64 (Q : Nat))).setCell ⟨w.heap.size + 1, 2, none⟩ (.int .i64 (o : Nat))) (.slice (some ⟨vb, off + 16, none⟩) (16 + n - 16) (cap - 16)) l := by rw [Nat.add_sub_cancel_left]; exact hcut _ hv3
  have hz3 : w.heap.size + 2 ≤ ((W.setCell ⟨w.heap.size + 1, 1, none⟩ (.int .i64 (Q : Nat))).setCell ⟨w.heap.size + 1, 2, none⟩ (.int .i64 (o : Nat))).heap.size := by simp; omega
  obtain ⟨i0, hi, hi0, hi1, hi2⟩ := info_parts Tryz.info5
  have hq4 : 0 + l.length ≤ 140737488355328 := by rw [Hll.out]; omega
  clear hA2 hB2 hv2 hcut d0 d1 d14 hBz hvl1
  go_wp2_with (at_builtin; refine wpList_append_bs _ rfl (.const (.slice none 0 0)) (.tmp 49) 30 rfl (w.heap.size + 2) 5 i0 (.int .u8 0) Tryz.underlying30 hi hi0 hi1 hi2 rfl _ 0 [] rfl (World.ownsRow_nil _ _ _ _) _ l rfl hc3 hq4 hz3 ?_; intro v4 w4 ho4 hg4; rw [Nat.zero_add, List.nil_append] at ho4; obtain ⟨ao4, cap4, rfl, -, -⟩ := owns_form ho4; have hb4 := (Below.refl ((W.setCell ⟨w.heap.size + 1, 1, none⟩ (.int .i64 (Q : Nat))).setCell ⟨w.heap.size + 1, 2, none⟩ (.int .i64 (o : Nat))).heap.size _).grown hg4 (Nat.le_refl _) (by intro k hk; cases hk); have hN4 := hN3.mono hb4; have hA4 := hA3.mono hb4; have hB4 := hB3.trans (hb4.mono hB3.size); have hv4 := hv3.mono hb4; obtain ⟨m0, m1, m2, m3, m4, e0, e1, e2, e3, e4, lq⟩ := id hN4; have O4 := hide ho4; clear hg4 hb4 ho4)
  have hN5 := hN4.set3 (.slice ao4 l.length cap4)
  have hA5 : RecAt (w4.setCell ⟨w.heap.size + 1, 3, none⟩ (.slice ao4 l.length cap4)) w.heap.size 0 0 0 (.slice none 0 0) 0 := hA4.setOther (Ne.symm hne)
  have hB5 : Below w.heap.size w (w4.setCell ⟨w.heap.size + 1, 3, none⟩ (.slice ao4 l.length cap4)) := hB4.setCell (by simp) _
  have hv5 : Bs (w4.setCell ⟨w.heap.size + 1, 3, none⟩ (.slice ao4 l.length cap4)) (.slice (some ⟨vb, off, none⟩) 64 cap) L := ((Keeps.refl (fun j => j = w.heap.size + 1) w4).set rfl _).bs hv4 (fun b hb e => hne2 ((Option.some.inj (show some vb = some b from hb)).trans e))
  have hO5 : (w4.setCell ⟨w.heap.size + 1, 3, none⟩ (.slice ao4 l.length cap4)).ownsRow (w.heap.size + 2) 5 1 (.slice ao4 l.length cap4) l.length (cellsB l) := ((Keeps.refl (fun j => j = w.heap.size + 1) w4).set rfl _).owns O4.out (fun b hb e => by have h1 := owns_lt O4.out b hb; have e' : b = w.heap.size + 1 := e; omega)
  have hdlt := owns_lt hO5
  have hD5 : Bs (w4.setCell ⟨w.heap.size + 1, 3, none⟩ (.slice ao4 l.length cap4)) (.slice ao4 l.length cap4) l := Bs.of_owns hO5 hlx
  clear hN3 hA3 hB3 hv3 hc3 hz3 hq4 hN4 hA4 hB4 hv4 O4 hO5 d1W d14W m0 m1 m2 m3 m4 e0 e1 e2 e3 e4 lq hN2
  generalize (w4.setCell ⟨w.heap.size + 1, 3, none⟩ (.slice ao4 l.length cap4)) = W7 at *
  refine (n2 _ hv5).mono ?_
  rintro e w1 ⟨rfl, rfl⟩
  obtain ⟨m0, m1, m2, m3, m4, e0, e1, e2, e3, e4, lq⟩ := id hN5
  go_wp2_with fail
  clear m0 m1 m2 m3 m4 e0 e1 e2 e3 e4 lq n2
  refine (hby _ _ hD5).mono ?_
  rintro e w6 ⟨vx, rfl, hox, hbx⟩
  have hbs := Bs.of_owns hox hMx
  obtain ⟨xo, xc, rfl, -, -⟩ := owns_form hox
  have hxlt := owns_lt hox
  have hN6 := hN5.mono hbx
  have hA6 := hA5.mono hbx
  have hB6 := hB5.trans (hbx.mono hB5.size)
  have hv6 := hv5.mono hbx
  have hD6 := hD5.mono hbx
  have hz7 := hN5.lt
  clear hox hbx hN5 hA5 hB5 hv5 hD5 hby
  go_wp2_with fail
  refine wp_region_noPanic ?_
  refine wp_region_held_drew (S := (fun w' => (w'.cell? ⟨w.heap.size + 1, 0, none⟩ = some (.int .i64 1) ∧ w'.cell? ⟨w.heap.size + 1, 1, none⟩ = some (.int .i64 (Q : Nat)) ∧ w'.cell? ⟨w.heap.size + 1, 2, none⟩ = some (.int .i64 (o : Nat)) ∧ w'.cell? ⟨w.heap.size + 1, 3, none⟩ = some (.slice ao4 l.length cap4) ∧ w'.cell? ⟨w.heap.size + 1, 4, none⟩ = some (.int .i64 0)) ∧ Bs w' (.slice xo M.length xc) M ∧ Bs w' (.slice (some ⟨vb, off, none⟩) 64 cap) L)) (by kernel_rfl) ⟨hN6.drew.held, hbs.drew, hv6.drew⟩ (fun hHeld => ?_)
  refine wpAnyH_take (i := 0) (oi := { dst := some 67, op := Op.load 52 (Operand.tmp 5), type := 52, pos := _, after := #[], guard := none }) (v := .agg #[.int .i64 1, .int .i64 (Q : Nat), .int .i64 (o : Nat), .slice ao4 l.length cap4, .int .i64 0]) rfl (by kernel_rfl) (by kernel_rfl) (by kernel_rfl) (fun _ _ _ h => h) (Or.inl ⟨by rfl, fun w' hw => by obtain ⟨⟨k0, k1, k2, k3, k4⟩, -, -⟩ := hw; go_simp⟩) hHeld ?_
  simp only [Act.put, List.setIfInBounds_toArray, List.set_cons_zero, List.set_cons_succ]
  refine wpAnyH_take (i := 1) (oi := { dst := some 68, op := Op.move (Operand.tmp 6), type := 2, pos := _, after := #[{ on := 11, ground := Ground.gcOnly Departure.lateStores }], guard := none }) (v := .int .i64 P) rfl (by kernel_rfl) (by kernel_rfl) (by kernel_rfl) (fun _ _ _ h => h) (Or.inl ⟨by rfl, fun w' hw => by go_simp⟩) hHeld ?_
  simp only [Act.put, List.setIfInBounds_toArray, List.set_cons_zero, List.set_cons_succ]
  refine wpAnyH_take (i := 2) (oi := { dst := some 69, op := Op.move (Operand.tmp 8), type := 42, pos := _, after := #[], guard := none }) (v := .int .i64 0) rfl (by kernel_rfl) (by kernel_rfl) (by kernel_rfl) (fun _ _ _ h => h) (Or.inl ⟨by rfl, fun w' hw => by go_simp⟩) hHeld ?_
  simp only [Act.put, List.setIfInBounds_toArray, List.set_cons_zero, List.set_cons_succ]
  refine wpAnyH_take (i := 3) (oi := { dst := some 70, op := Op.binOp BinOp.eql 42 (Operand.tmp 69) (Operand.const (Value.int IntKind.i64 0)) 42, type := 4, pos := _, after := #[{ on := 2, ground := Ground.data }], guard := none }) (v := .bool true) rfl (by kernel_rfl) (by kernel_rfl) (by kernel_rfl) (fun _ _ _ h => h) (Or.inl ⟨by rfl, fun w' hw => by go_simp⟩) hHeld ?_
  simp only [Act.put, List.setIfInBounds_toArray, List.set_cons_zero, List.set_cons_succ]
  refine wpAnyH_take (i := 4) (oi := { dst := some 71, op := Op.move (Operand.tmp 70), type := 4, pos := _, after := #[{ on := 3, ground := Ground.data }], guard := none }) (v := .bool true) rfl (by kernel_rfl) (by kernel_rfl) (by kernel_rfl) (fun _ _ _ h => h) (Or.inl ⟨by rfl, fun w' hw => by go_simp⟩) hHeld ?_
  simp only [Act.put, List.setIfInBounds_toArray, List.set_cons_zero, List.set_cons_succ]
  refine wpAnyH_take (i := 5) (oi := { dst := some 72, op := Op.move (Operand.tmp 7), type := 30, pos := _, after := #[{ on := 4, ground := Ground.guard }, { on := 12, ground := Ground.gcOnly Departure.lateStores }], guard := some (4, true) }) (v := .slice xo M.length xc) rfl (by kernel_rfl) (by kernel_rfl) (by kernel_rfl) (fun _ _ _ h => h) (Or.inl ⟨by rfl, fun w' hw => by go_simp⟩) hHeld ?_
  simp only [Act.put, List.setIfInBounds_toArray, List.set_cons_zero, List.set_cons_succ]
  refine wpAnyH_take (i := 6) (oi := { dst := some 73, op := Op.convert 30 9 (Operand.tmp 72), type := 9, pos := _, after := #[{ on := 5, ground := Ground.data }, { on := 4, ground := Ground.guard }, { on := 12, ground := Ground.gcOnly Departure.lateStores }], guard := some (4, true) }) (v := .string (strB M)) rfl (by kernel_rfl) (by kernel_rfl) (by kernel_rfl) (fun _ _ _ h => h) (Or.inl ⟨by rfl, fun w' hw => by obtain ⟨-, hb1, hb2⟩ := hw; have c := hb1.convert (P := Tryz.prog) 30 5 9 Tryz.underlying30 Tryz.underlying5 Tryz.underlying9; clear hb1 hb2; go_simp⟩) hHeld ?_
  simp only [Act.put, List.setIfInBounds_toArray, List.set_cons_zero, List.set_cons_succ]
  refine wpAnyH_take (i := 7) (oi := { dst := some 74, op := Op.move (Operand.tmp 0), type := 30, pos := _, after := #[{ on := 4, ground := Ground.guard }, { on := 12, ground := Ground.gcOnly Departure.lateStores }], guard := some (4, true) }) (v := .slice (some ⟨vb, off, none⟩) 64 cap) rfl (by kernel_rfl) (by kernel_rfl) (by kernel_rfl) (fun _ _ _ h => h) (Or.inl ⟨by rfl, fun w' hw => by go_simp⟩) hHeld ?_
  simp only [Act.put, List.setIfInBounds_toArray, List.set_cons_zero, List.set_cons_succ]
  refine wpAnyH_take (i := 8) (oi := { dst := some 75, op := Op.convert 30 9 (Operand.tmp 74), type := 9, pos := _, after := #[{ on := 7, ground := Ground.data }, { on := 4, ground := Ground.guard }, { on := 12, ground := Ground.gcOnly Departure.lateStores }], guard := some (4, true) }) (v := .string (strB L)) rfl (by kernel_rfl) (by kernel_rfl) (by kernel_rfl) (fun _ _ _ h => h) (Or.inl ⟨by rfl, fun w' hw => by obtain ⟨-, hb1, hb2⟩ := hw; have c := hb2.convert (P := Tryz.prog) 30 5 9 Tryz.underlying30 Tryz.underlying5 Tryz.underlying9; clear hb1 hb2; go_simp⟩) hHeld ?_
  simp only [Act.put, List.setIfInBounds_toArray, List.set_cons_zero, List.set_cons_succ]
  refine wpAnyH_take (i := 9) (oi := { dst := some 76, op := Op.binOp BinOp.eql 9 (Operand.tmp 73) (Operand.tmp 75) 9, type := 4, pos := _, after := #[{ on := 6, ground := Ground.data }, { on := 8, ground := Ground.data }, { on := 4, ground := Ground.guard }, { on := 12, ground := Ground.gcOnly Departure.lateStores }], guard := some (4, true) }) (v := .bool false) rfl (by kernel_rfl) (by kernel_rfl) (by kernel_rfl) (fun _ _ _ h => h) (Or.inl ⟨by rfl, fun w' hw => by go_simp⟩) hHeld ?_
  simp only [Act.put, List.setIfInBounds_toArray, List.set_cons_zero, List.set_cons_succ]
  refine wpAnyH_take (i := 10) (oi := { dst := some 77, op := Op.pick (Operand.tmp 71) (Operand.tmp 76) (Operand.const (Value.bool false)), type := 4, pos := _, after := #[{ on := 4, ground := Ground.data }, { on := 9, ground := Ground.data }, { on := 12, ground := Ground.gcOnly Departure.lateStores }], guard := none }) (v := .bool false) rfl (by kernel_rfl) (by kernel_rfl) (by kernel_rfl) (fun _ _ _ h => h) (Or.inl ⟨by rfl, fun w' hw => by go_simp⟩) hHeld ?_
  simp only [Act.put, List.setIfInBounds_toArray, List.set_cons_zero, List.set_cons_succ]
  refine wpAnyH_ready (rs := [11]) (by kernel_rfl) (by simp) ?_
  refine AllReadyH.cons (o := { dst := none, op := Op.store 52 (Operand.tmp 2) (Operand.tmp 67), type := 0, pos := _, after := #[{ on := 0, ground := Ground.data }, { on := 4, ground := Ground.chain }, { on := 0, ground := Ground.phase }, { on := 1, ground := Ground.textOnly Departure.lateStores }, { on := 2, ground := Ground.textOnly Departure.lateStores }, { on := 3, ground := Ground.textOnly Departure.lateStores }, { on := 4, ground := Ground.textOnly Departure.lateStores }, { on := 5, ground := Ground.textOnly Departure.lateStores }, { on := 6, ground := Ground.textOnly Departure.lateStores }, { on := 7, ground := Ground.textOnly Departure.lateStores }, { on := 8, ground := Ground.textOnly Departure.lateStores }, { on := 9, ground := Ground.textOnly Departure.lateStores }, { on := 10, ground := Ground.textOnly Departure.lateStores }], guard := none }) rfl (fun K hK => ?_) AllReadyH.nil
  refine step_store_rec rfl (.tmp 2) (.tmp 67) rfl w.heap.size 1 (Q : Nat) (o : Nat) ao4 l.length cap4 0 rfl rfl hA6.drew ?_
  have hH2 : (fun w' => (w'.cell? ⟨w.heap.size + 1, 0, none⟩ = some (.int .i64 1) ∧ w'.cell? ⟨w.heap.size + 1, 1, none⟩ = some (.int .i64 (Q : Nat)) ∧ w'.cell? ⟨w.heap.size + 1, 2, none⟩ = some (.int .i64 (o : Nat)) ∧ w'.cell? ⟨w.heap.size + 1, 3, none⟩ = some (.slice ao4 l.length cap4) ∧ w'.cell? ⟨w.heap.size + 1, 4, none⟩ = some (.int .i64 0)) ∧ Bs w' (.slice xo M.length xc) M ∧ Bs w' (.slice (some ⟨vb, off, none⟩) 64 cap) L) (((((w6.drew.setCell ⟨w.heap.size, 0, none⟩ (.int .i64 1)).setCell ⟨w.heap.size, 1, none⟩ (.int .i64 (Q : Nat))).setCell ⟨w.heap.size, 2, none⟩ (.int .i64 (o : Nat))).setCell ⟨w.heap.size, 3, none⟩ (.slice ao4 l.length cap4)).setCell ⟨w.heap.size, 4, none⟩ (.int .i64 0)) := ⟨(hN6.drew.setOthers hne 1 (Q : Nat) (o : Nat) (.slice ao4 l.length cap4) 0).held, (keeps_all w6.drew w.heap.size 1 (Q : Nat) (o : Nat) (.slice ao4 l.length cap4) 0).bs hbs.drew (fun j hj e => by have h1 := hxlt j hj; have e2 : j = w.heap.size := e; omega), (keeps_all w6.drew w.heap.size 1 (Q : Nat) (o : Nat) (.slice ao4 l.length cap4) 0).bs hv6.drew (fun j hj e => by have e2 : j = w.heap.size := e; have e3 : vb = j := Option.some.inj (show some vb = some j from hj); omega)⟩
  refine hK.out _ _ hH2 (fun _ => ?_)
  clear hK K
  simp only [Act.put]
  refine wpAnyH_take (i := 12) (oi := { dst := some 3, op := Op.assign (Operand.tmp 68), type := 2, pos := _, after := #[{ on := 1, ground := Ground.data }, { on := 11, ground := Ground.chain }, { on := 0, ground := Ground.phase }, { on := 1, ground := Ground.phase }, { on := 2, ground := Ground.textOnly Departure.lateStores }, { on := 3, ground := Ground.textOnly Departure.lateStores }, { on := 4, ground := Ground.textOnly Departure.lateStores }, { on := 5, ground := Ground.textOnly Departure.lateStores }, { on := 6, ground := Ground.textOnly Departure.lateStores }, { on := 7, ground := Ground.textOnly Departure.lateStores }, { on := 8, ground := Ground.textOnly Departure.lateStores }, { on := 9, ground := Ground.textOnly Departure.lateStores }, { on := 10, ground := Ground.textOnly Departure.lateStores }, { on := 11, ground := Ground.phase }], guard := none }) (v := .int .i64 P) rfl (by kernel_rfl) (by kernel_rfl) (by kernel_rfl) (fun _ _ _ h => h) (Or.inl ⟨by rfl, fun w' hw => by go_simp⟩) hH2 ?_
  simp only [Act.put, List.setIfInBounds_toArray, List.set_cons_zero, List.set_cons_succ]
  refine wpAnyH_take (i := 13) (oi := { dst := some 4, op := Op.assign (Operand.tmp 77), type := 4, pos := _, after := #[{ on := 10, ground := Ground.data }, { on := 12, ground := Ground.chain }, { on := 0, ground := Ground.phase }, { on := 1, ground := Ground.phase }, { on := 2, ground := Ground.phase }, { on := 3, ground := Ground.phase }, { on := 4, ground := Ground.phase }, { on := 5, ground := Ground.phase }, { on := 6, ground := Ground.phase }, { on := 7, ground := Ground.phase }, { on := 8, ground := Ground.phase }, { on := 9, ground := Ground.phase }, { on := 10, ground := Ground.phase }, { on := 11, ground := Ground.phase }, { on := 12, ground := Ground.phase }], guard := none }) (v := .bool false) rfl (by kernel_rfl) (by kernel_rfl) (by kernel_rfl) (fun _ _ _ h => h) (Or.inl ⟨by rfl, fun w' hw => by go_simp⟩) hH2 ?_
  simp only [Act.put, List.setIfInBounds_toArray, List.set_cons_zero, List.set_cons_succ]
  refine wpAnyH_done (by kernel_rfl) ?_ _
  refine NoPanic.normal ?_
  have hcU := hA6.drew.setAll 1 (Q : Nat) (o : Nat) (.slice ao4 l.length cap4) 0
  have hbU : Below w.heap.size w (((((w6.drew.setCell ⟨w.heap.size, 0, none⟩ (.int .i64 1)).setCell ⟨w.heap.size, 1, none⟩ (.int .i64 (Q : Nat))).setCell ⟨w.heap.size, 2, none⟩ (.int .i64 (o : Nat))).setCell ⟨w.heap.size, 3, none⟩ (.slice ao4 l.length cap4)).setCell ⟨w.heap.size, 4, none⟩ (.int .i64 0)) := ((((hB6.drew.setCell (Nat.le_refl _) _).setCell (Nat.le_refl _) _).setCell (Nat.le_refl _) _).setCell (Nat.le_refl _) _).setCell (Nat.le_refl _) _
  have hDU : Bs (((((w6.drew.setCell ⟨w.heap.size, 0, none⟩ (.int .i64 1)).setCell ⟨w.heap.size, 1, none⟩ (.int .i64 (Q : Nat))).setCell ⟨w.heap.size, 2, none⟩ (.int .i64 (o : Nat))).setCell ⟨w.heap.size, 3, none⟩ (.slice ao4 l.length cap4)).setCell ⟨w.heap.size, 4, none⟩ (.int .i64 0)) (.slice ao4 l.length cap4) l := (keeps_all w6.drew w.heap.size 1 (Q : Nat) (o : Nat) (.slice ao4 l.length cap4) 0).bs hD6.drew (fun j hj e => by have h1 := hdlt j hj; have e2 : j = w.heap.size := e; omega)
  clear hH2
  generalize (((((w6.drew.setCell ⟨w.heap.size, 0, none⟩ (.int .i64 1)).setCell ⟨w.heap.size, 1, none⟩ (.int .i64 (Q : Nat))).setCell ⟨w.heap.size, 2, none⟩ (.int .i64 (o : Nat))).setCell ⟨w.heap.size, 3, none⟩ (.slice ao4 l.length cap4)).setCell ⟨w.heap.size, 4, none⟩ (.int .i64 0)) = U at hcU hbU hDU ⊢
  obtain ⟨c0, c1, c2, c3, c4, -, -, -, -, -, -⟩ := hcU
  clear hA6 hN6 hB6 hHeld hbs hv6 hD6
  go_wp2_with fail
  refine bodyPost_ret (v := .tuple #[.agg #[.int .i64 1, .int .i64 (Q : Nat), .int .i64 (o : Nat), .slice ao4 l.length cap4, .int .i64 0], .int .i64 P, .bool false]) (by simp [results, Tryz.results81, go_sem, c0, c1, c2, c3, c4]) rfl ⟨_, rfl, hDU, (fun j hj => by have := hdlt j hj; omega), hbU⟩

set_option maxRecDepth 100000 in
set_option maxHeartbeats 400000 in
theorem rparse_P_err (v : Value) (L : List Nat) (w : World) (hv : Bs w v L) (hn : L.length = 64) (h1 : L.getD 1 0 ≤ 44) (h2 : getN L 2 8 ≤ 2305843009213693952) (h0 : L.getD 0 0 = 1)
    (M : List Nat) (er : Int) (hby : ∀ v' w, Bs w v' ((L.drop 16).take (L.getD 1 0)) → Calls Tryz.prog 53 #[.int .i64 (getN L 2 8 : Nat), .agg #[.int .i64 1, .int .i64 (getN L 10 4 : Nat), .int .i64 (L.getD 14 0 : Nat), v', .int .i64 0]] w (NewBsE w M er)) (hMx : ∀ y ∈ M, y < 256) (herr : (er == 0) = false) :
    Calls Tryz.prog 81 #[v] w fun e w' => ∃ v', e = .returned (.tuple #[.agg #[.int .i64 1, .int .i64 (getN L 10 4 : Nat), .int .i64 (L.getD 14 0 : Nat), v', .int .i64 0], .int .i64 (getN L 2 8 : Nat), .bool false]) ∧ Bs w' v' ((L.drop 16).take (L.getD 1 0)) ∧ (∀ j, v'.ownBlock = some j → w.heap.size ≤ j) ∧ Below w.heap.size w w' := by
  have hv1 := hv.alloc (.cells #[.int .i64 0, .int .i64 0, .int .i64 0, .slice none 0 0, .int .i64 0] 52)
  obtain ⟨ao, cap, rfl, -, -, -, -⟩ := id hv
  have hcap := hv.cap
  obtain ⟨ao', cap', e, -, -, -, hc⟩ := id hv1
  injection e with e1 e2 e3
  subst e1 e3
  obtain ⟨vb, off, rfl, hcell⟩ := hc (by omega)
  have hvl : vb < w.heap.size := by
    obtain ⟨ao2, cap2, e4, -, -, -, hc2⟩ := id hv
    injection e4 with e5 e6 e7
    obtain ⟨vb2, off2, e8, hcell2⟩ := hc2 (by omega)
    rw [← e5] at e8
    injection e8 with e8
    injection e8 with e9 e10
    have := World.block_lt_of_cell? w _ (hcell2 0 (by omega))
    rw [← e9] at this
    simpa using this
  have d0 := hcell 0 (by omega)
  rw [Nat.add_zero] at d0
  have d1 := hcell 1 (by omega)
  have d14 := hcell 14 (by omega)
  have hlt := hv.lt
  have kb0 := getD_lt hlt 0
  have kb14 := getD_lt hlt 14
  have hq : getN L 10 4 < 4294967296 := getN_lt hlt 10 4
  have n2 : ∀ w, Bs w (.slice (some ⟨vb, off, none⟩) L.length cap) L → Calls Tryz.prog 92 #[.slice (some ⟨vb, off + 2, none⟩) 8 (cap - 2)] w fun e w' => e = .returned (.int .u64 (getN L 2 8 : Nat)) ∧ w = w' := fun w hv => number_at hv 2 8 (by omega) (by omega)
  have n10 : ∀ w, Bs w (.slice (some ⟨vb, off, none⟩) L.length cap) L → Calls Tryz.prog 92 #[.slice (some ⟨vb, off + 10, none⟩) 4 (cap - 10)] w fun e w' => e = .returned (.int .u64 (getN L 10 4 : Nat)) ∧ w = w' := fun w hv => number_at hv 10 4 (by omega) (by omega)
  clear hc hcell hlt
  rw [hn] at hv hv1 n2 n10 hcap ⊢
  have hr := RecAt.new w 0 0 0 (.slice none 0 0) 0
  have h2i : ((getN L 2 8 : Nat) : Int) ≤ 2305843009213693952 := by omega
  have h2j : 0 ≤ ((getN L 2 8 : Nat) : Int) := by omega
  have hwP : IntKind.i64.wrap ((getN L 2 8 : Nat) : Int) = ((getN L 2 8 : Nat) : Int) := by rw [IntKind.wrap_i64]; omega
  clear h2
  have hcut := fun (w : World) (hv : Bs w (.slice (some ⟨vb, off, none⟩) 64 cap) L) => Bs.cut hv 16 (L.getD 1 0) (by omega)
  rw [h0] at d0
  clear h0 kb0
  generalize hl : (L.drop 16).take (L.getD 1 0) = l at *
  have hll : l.length = L.getD 1 0 := by rw [← hl, List.length_take, List.length_drop, hn]; omega
  have Hll := hide hll
  have hlx : ∀ x ∈ l, x < 256 := by rw [← hl]; exact fun x hx' => hv.lt x (List.mem_of_mem_drop (List.mem_of_mem_take hx'))
  clear hl hll
  generalize L.getD 14 0 = o at *
  generalize L.getD 1 0 = n at *
  generalize ((getN L 2 8 : Nat) : Int) = P at *
  generalize getN L 10 4 = Q at *
  have Hn := hide hn
  clear hn
  have hvl1 : vb < (w.alloc (.cells #[.int .i64 0, .int .i64 0, .int .i64 0, .slice none 0 0, .int .i64 0] 52)).heap.size := by simp; omega
  go_enter Tryz.func81, Tryz.ntmps81
  go_wp2_with fail
  refine (n2 _ hv1).mono ?_
  rintro e w1 ⟨rfl, rfl⟩
  go_wp2_with fail
  have hv2 := hv1.alloc (.cells #[.int .i64 1, .int .i64 0, .int .i64 0, .slice none 0 0, .int .i64 0] 52)
  refine (n10 _ hv2).mono ?_
  rintro e w1 ⟨rfl, rfl⟩
  have hA2 : RecAt ((w.alloc (.cells #[.int .i64 0, .int .i64 0, .int .i64 0, .slice none 0 0, .int .i64 0] 52)).alloc (.cells #[.int .i64 1, .int .i64 0, .int .i64 0, .slice none 0 0, .int .i64 0] 52)) w.heap.size 0 0 0 (.slice none 0 0) 0 := hr.alloc _
  have hN2 : RecAt ((w.alloc (.cells #[.int .i64 0, .int .i64 0, .int .i64 0, .slice none 0 0, .int .i64 0] 52)).alloc (.cells #[.int .i64 1, .int .i64 0, .int .i64 0, .slice none 0 0, .int .i64 0] 52)) (w.heap.size + 1) 1 0 0 (.slice none 0 0) 0 := RecAt.new1 _ _ _ _ _ _ _
  have hB2 : Below w.heap.size w ((w.alloc (.cells #[.int .i64 0, .int .i64 0, .int .i64 0, .slice none 0 0, .int .i64 0] 52)).alloc (.cells #[.int .i64 1, .int .i64 0, .int .i64 0, .slice none 0 0, .int .i64 0] 52)) := ((Below.refl _ w).alloc (Nat.le_refl _) _).alloc (by simp) _
  have hBz := (Below.refl (w.alloc (.cells #[.int .i64 0, .int .i64 0, .int .i64 0, .slice none 0 0, .int .i64 0] 52)).heap.size (w.alloc (.cells #[.int .i64 0, .int .i64 0, .int .i64 0, .slice none 0 0, .int .i64 0] 52))).alloc (Nat.le_refl _) (.cells #[.int .i64 1, .int .i64 0, .int .i64 0, .slice none 0 0, .int .i64 0] 52)
  clear hr hv1 n10
  generalize ((w.alloc (.cells #[.int .i64 0, .int .i64 0, .int .i64 0, .slice none 0 0, .int .i64 0] 52)).alloc (.cells #[.int .i64 1, .int .i64 0, .int .i64 0, .slice none 0 0, .int .i64 0] 52)) = W at *
  have hz2 := hN2.lt
  have hne : w.heap.size ≠ w.heap.size + 1 := by omega
  have hne2 : vb ≠ w.heap.size + 1 := by omega
  obtain ⟨m0, m1, m2, m3, m4, e0, e1, e2, e3, e4, lq⟩ := id hN2
  have d1W : W.cell? ⟨vb, off + 1, none⟩ = some (.int .u8 (n : Nat)) := by rw [hBz.cell (p := ⟨vb, off + 1, none⟩) hvl1]; exact d1
  have d14W : W.cell? ⟨vb, off + 14, none⟩ = some (.int .u8 (o : Nat)) := by rw [hBz.cell (p := ⟨vb, off + 14, none⟩) hvl1]; exact d14
  have hN3 := (hN2.set1 (Q : Nat)).set2 (o : Nat)
  have hA3 : RecAt ((W.setCell ⟨w.heap.size + 1, 1, none⟩ (.int .i64 (Q : Nat))).setCell ⟨w.heap.size + 1, 2, none⟩ (.int .i64 (o : Nat))) w.heap.size 0 0 0 (.slice none 0 0) 0 := (hA2.setOther (Ne.symm hne)).setOther (Ne.symm hne)
  have hB3 : Below w.heap.size w ((W.setCell ⟨w.heap.size + 1, 1, none⟩ (.int .i64 (Q : Nat))).setCell ⟨w.heap.size + 1, 2, none⟩ (.int .i64 (o : Nat))) := (hB2.setCell (by simp) _).setCell (by simp) _
  have hv3 : Bs ((W.setCell ⟨w.heap.size + 1, 1, none⟩ (.int .i64 (Q : Nat))).setCell ⟨w.heap.size + 1, 2, none⟩ (.int .i64 (o : Nat))) (.slice (some ⟨vb, off, none⟩) 64 cap) L := (((Keeps.refl (fun j => j = w.heap.size + 1) W).set rfl _).set rfl _).bs hv2 (fun b hb e => hne2 ((Option.some.inj (show some vb = some b from hb)).trans e))
  have hc3 : Bs ((W.setCell ⟨w.heap.size + 1, 1, none⟩ (.int .i64 (Q : Nat))).setCell ⟨w.heap.size + 1, 2, none⟩ (.int .i64 (o : Nat))) (.slice (some ⟨vb, off + 16, none⟩) (16 + n - 16) (cap - 16)) l := by rw [Nat.add_sub_cancel_left]; exact hcut _ hv3
  have hz3 : w.heap.size + 2 ≤ ((W.setCell ⟨w.heap.size + 1, 1, none⟩ (.int .i64 (Q : Nat))).setCell ⟨w.heap.size + 1, 2, none⟩ (.int .i64 (o : Nat))).heap.size := by simp; omega
  obtain ⟨i0, hi, hi0, hi1, hi2⟩ := info_parts Tryz.info5
  have hq4 : 0 + l.length ≤ 140737488355328 := by rw [Hll.out]; omega
  clear hA2 hB2 hv2 hcut d0 d1 d14 hBz hvl1
  go_wp2_with (at_builtin; refine wpList_append_bs _ rfl (.const (.slice none 0 0)) (.tmp 49) 30 rfl (w.heap.size + 2) 5 i0 (.int .u8 0) Tryz.underlying30 hi hi0 hi1 hi2 rfl _ 0 [] rfl (World.ownsRow_nil _ _ _ _) _ l rfl hc3 hq4 hz3 ?_; intro v4 w4 ho4 hg4; rw [Nat.zero_add, List.nil_append] at ho4; obtain ⟨ao4, cap4, rfl, -, -⟩ := owns_form ho4; have hb4 := (Below.refl ((W.setCell ⟨w.heap.size + 1, 1, none⟩ (.int .i64 (Q : Nat))).setCell ⟨w.heap.size + 1, 2, none⟩ (.int .i64 (o : Nat))).heap.size _).grown hg4 (Nat.le_refl _) (by intro k hk; cases hk); have hN4 := hN3.mono hb4; have hA4 := hA3.mono hb4; have hB4 := hB3.trans (hb4.mono hB3.size); have hv4 := hv3.mono hb4; obtain ⟨m0, m1, m2, m3, m4, e0, e1, e2, e3, e4, lq⟩ := id hN4; have O4 := hide ho4; clear hg4 hb4 ho4)
  have hN5 := hN4.set3 (.slice ao4 l.length cap4)
  have hA5 : RecAt (w4.setCell ⟨w.heap.size + 1, 3, none⟩ (.slice ao4 l.length cap4)) w.heap.size 0 0 0 (.slice none 0 0) 0 := hA4.setOther (Ne.symm hne)
  have hB5 : Below w.heap.size w (w4.setCell ⟨w.heap.size + 1, 3, none⟩ (.slice ao4 l.length cap4)) := hB4.setCell (by simp) _
  have hv5 : Bs (w4.setCell ⟨w.heap.size + 1, 3, none⟩ (.slice ao4 l.length cap4)) (.slice (some ⟨vb, off, none⟩) 64 cap) L := ((Keeps.refl (fun j => j = w.heap.size + 1) w4).set rfl _).bs hv4 (fun b hb e => hne2 ((Option.some.inj (show some vb = some b from hb)).trans e))
  have hO5 : (w4.setCell ⟨w.heap.size + 1, 3, none⟩ (.slice ao4 l.length cap4)).ownsRow (w.heap.size + 2) 5 1 (.slice ao4 l.length cap4) l.length (cellsB l) := ((Keeps.refl (fun j => j = w.heap.size + 1) w4).set rfl _).owns O4.out (fun b hb e => by have h1 := owns_lt O4.out b hb; have e' : b = w.heap.size + 1 := e; omega)
  have hdlt := owns_lt hO5
  have hD5 : Bs (w4.setCell ⟨w.heap.size + 1, 3, none⟩ (.slice ao4 l.length cap4)) (.slice ao4 l.length cap4) l := Bs.of_owns hO5 hlx
  clear hN3 hA3 hB3 hv3 hc3 hz3 hq4 hN4 hA4 hB4 hv4 O4 hO5 d1W d14W m0 m1 m2 m3 m4 e0 e1 e2 e3 e4 lq hN2
  generalize (w4.setCell ⟨w.heap.size + 1, 3, none⟩ (.slice ao4 l.length cap4)) = W7 at *
  refine (n2 _ hv5).mono ?_
  rintro e w1 ⟨rfl, rfl⟩
  obtain ⟨m0, m1, m2, m3, m4, e0, e1, e2, e3, e4, lq⟩ := id hN5
  go_wp2_with fail
  clear m0 m1 m2 m3 m4 e0 e1 e2 e3 e4 lq n2
  refine (hby _ _ hD5).mono ?_
  rintro e w6 ⟨vx, rfl, hox, hbx⟩
  have hbs := Bs.of_owns hox hMx
  obtain ⟨xo, xc, rfl, -, -⟩ := owns_form hox
  have hxlt := owns_lt hox
  have hN6 := hN5.mono hbx
  have hA6 := hA5.mono hbx
  have hB6 := hB5.trans (hbx.mono hB5.size)
  have hv6 := hv5.mono hbx
  have hD6 := hD5.mono hbx
  have hz7 := hN5.lt
  clear hox hbx hN5 hA5 hB5 hv5 hD5 hby
  go_wp2_with fail
  refine wp_region_noPanic ?_
  refine wp_region_held_drew (S := (fun w' => w'.cell? ⟨w.heap.size + 1, 0, none⟩ = some (.int .i64 1) ∧ w'.cell? ⟨w.heap.size + 1, 1, none⟩ = some (.int .i64 (Q : Nat)) ∧ w'.cell? ⟨w.heap.size + 1, 2, none⟩ = some (.int .i64 (o : Nat)) ∧ w'.cell? ⟨w.heap.size + 1, 3, none⟩ = some (.slice ao4 l.length cap4) ∧ w'.cell? ⟨w.heap.size + 1, 4, none⟩ = some (.int .i64 0))) (by kernel_rfl) hN6.drew.held (fun hHeld => ?_)
  refine wpAnyH_take (i := 0) (oi := { dst := some 67, op := Op.load 52 (Operand.tmp 5), type := 52, pos := _, after := #[], guard := none }) (v := .agg #[.int .i64 1, .int .i64 (Q : Nat), .int .i64 (o : Nat), .slice ao4 l.length cap4, .int .i64 0]) rfl (by kernel_rfl) (by kernel_rfl) (by kernel_rfl) (fun _ _ _ h => h) (Or.inl ⟨by rfl, fun w' hw => by obtain ⟨k0, k1, k2, k3, k4⟩ := hw; go_simp⟩) hHeld ?_
  simp only [Act.put, List.setIfInBounds_toArray, List.set_cons_zero, List.set_cons_succ]
  refine wpAnyH_take (i := 1) (oi := { dst := some 68, op := Op.move (Operand.tmp 6), type := 2, pos := _, after := #[{ on := 11, ground := Ground.gcOnly Departure.lateStores }], guard := none }) (v := .int .i64 P) rfl (by kernel_rfl) (by kernel_rfl) (by kernel_rfl) (fun _ _ _ h => h) (Or.inl ⟨by rfl, fun w' hw => by go_simp⟩) hHeld ?_
  simp only [Act.put, List.setIfInBounds_toArray, List.set_cons_zero, List.set_cons_succ]
  refine wpAnyH_take (i := 2) (oi := { dst := some 69, op := Op.move (Operand.tmp 8), type := 42, pos := _, after := #[], guard := none }) (v := .int .i64 er) rfl (by kernel_rfl) (by kernel_rfl) (by kernel_rfl) (fun _ _ _ h => h) (Or.inl ⟨by rfl, fun w' hw => by go_simp⟩) hHeld ?_
  simp only [Act.put, List.setIfInBounds_toArray, List.set_cons_zero, List.set_cons_succ]
  refine wpAnyH_take (i := 3) (oi := { dst := some 70, op := Op.binOp BinOp.eql 42 (Operand.tmp 69) (Operand.const (Value.int IntKind.i64 0)) 42, type := 4, pos := _, after := #[{ on := 2, ground := Ground.data }], guard := none }) (v := .bool false) rfl (by kernel_rfl) (by kernel_rfl) (by kernel_rfl) (fun _ _ _ h => h) (Or.inl ⟨by rfl, fun w' hw => by go_simp⟩) hHeld ?_
  simp only [Act.put, List.setIfInBounds_toArray, List.set_cons_zero, List.set_cons_succ]
  refine wpAnyH_take (i := 4) (oi := { dst := some 71, op := Op.move (Operand.tmp 70), type := 4, pos := _, after := #[{ on := 3, ground := Ground.data }], guard := none }) (v := .bool false) rfl (by kernel_rfl) (by kernel_rfl) (by kernel_rfl) (fun _ _ _ h => h) (Or.inl ⟨by rfl, fun w' hw => by go_simp⟩) hHeld ?_
  simp only [Act.put, List.setIfInBounds_toArray, List.set_cons_zero, List.set_cons_succ]
  refine wpAnyH_take (i := 5) (oi := { dst := some 72, op := Op.move (Operand.tmp 7), type := 30, pos := _, after := #[{ on := 4, ground := Ground.guard }, { on := 12, ground := Ground.gcOnly Departure.lateStores }], guard := some (4, true) }) (v := undef) rfl (by kernel_rfl) (by kernel_rfl) (by kernel_rfl) (fun _ _ _ h => h) (Or.inr ⟨by rfl, rfl⟩) hHeld ?_
  simp only [Act.put, List.setIfInBounds_toArray, List.set_cons_zero, List.set_cons_succ]
  refine wpAnyH_take (i := 6) (oi := { dst := some 73, op := Op.convert 30 9 (Operand.tmp 72), type := 9, pos := _, after := #[{ on := 5, ground := Ground.data }, { on := 4, ground := Ground.guard }, { on := 12, ground := Ground.gcOnly Departure.lateStores }], guard := some (4, true) }) (v := undef) rfl (by kernel_rfl) (by kernel_rfl) (by kernel_rfl) (fun _ _ _ h => h) (Or.inr ⟨by rfl, rfl⟩) hHeld ?_
  simp only [Act.put, List.setIfInBounds_toArray, List.set_cons_zero, List.set_cons_succ]
  refine wpAnyH_take (i := 7) (oi := { dst := some 74, op := Op.move (Operand.tmp 0), type := 30, pos := _, after := #[{ on := 4, ground := Ground.guard }, { on := 12, ground := Ground.gcOnly Departure.lateStores }], guard := some (4, true) }) (v := undef) rfl (by kernel_rfl) (by kernel_rfl) (by kernel_rfl) (fun _ _ _ h => h) (Or.inr ⟨by rfl, rfl⟩) hHeld ?_
  simp only [Act.put, List.setIfInBounds_toArray, List.set_cons_zero, List.set_cons_succ]
  refine wpAnyH_take (i := 8) (oi := { dst := some 75, op := Op.convert 30 9 (Operand.tmp 74), type := 9, pos := _, after := #[{ on := 7, ground := Ground.data }, { on := 4, ground := Ground.guard }, { on := 12, ground := Ground.gcOnly Departure.lateStores }], guard := some (4, true) }) (v := undef) rfl (by kernel_rfl) (by kernel_rfl) (by kernel_rfl) (fun _ _ _ h => h) (Or.inr ⟨by rfl, rfl⟩) hHeld ?_
  simp only [Act.put, List.setIfInBounds_toArray, List.set_cons_zero, List.set_cons_succ]
  refine wpAnyH_take (i := 9) (oi := { dst := some 76, op := Op.binOp BinOp.eql 9 (Operand.tmp 73) (Operand.tmp 75) 9, type := 4, pos := _, after := #[{ on := 6, ground := Ground.data }, { on := 8, ground := Ground.data }, { on := 4, ground := Ground.guard }, { on := 12, ground := Ground.gcOnly Departure.lateStores }], guard := some (4, true) }) (v := undef) rfl (by kernel_rfl) (by kernel_rfl) (by kernel_rfl) (fun _ _ _ h => h) (Or.inr ⟨by rfl, rfl⟩) hHeld ?_
  simp only [Act.put, List.setIfInBounds_toArray, List.set_cons_zero, List.set_cons_succ]
  refine wpAnyH_take (i := 10) (oi := { dst := some 77, op := Op.pick (Operand.tmp 71) (Operand.tmp 76) (Operand.const (Value.bool false)), type := 4, pos := _, after := #[{ on := 4, ground := Ground.data }, { on := 9, ground := Ground.data }, { on := 12, ground := Ground.gcOnly Departure.lateStores }], guard := none }) (v := .bool false) rfl (by kernel_rfl) (by kernel_rfl) (by kernel_rfl) (fun _ _ _ h => h) (Or.inl ⟨by rfl, fun w' hw => by go_simp⟩) hHeld ?_
  simp only [Act.put, List.setIfInBounds_toArray, List.set_cons_zero, List.set_cons_succ]
  refine wpAnyH_ready (rs := [11]) (by kernel_rfl) (by simp) ?_
  refine AllReadyH.cons (o := { dst := none, op := Op.store 52 (Operand.tmp 2) (Operand.tmp 67), type := 0, pos := _, after := #[{ on := 0, ground := Ground.data }, { on := 4, ground := Ground.chain }, { on := 0, ground := Ground.phase }, { on := 1, ground := Ground.textOnly Departure.lateStores }, { on := 2, ground := Ground.textOnly Departure.lateStores }, { on := 3, ground := Ground.textOnly Departure.lateStores }, { on := 4, ground := Ground.textOnly Departure.lateStores }, { on := 5, ground := Ground.textOnly Departure.lateStores }, { on := 6, ground := Ground.textOnly Departure.lateStores }, { on := 7, ground := Ground.textOnly Departure.lateStores }, { on := 8, ground := Ground.textOnly Departure.lateStores }, { on := 9, ground := Ground.textOnly Departure.lateStores }, { on := 10, ground := Ground.textOnly Departure.lateStores }], guard := none }) rfl (fun K hK => ?_) AllReadyH.nil
  refine step_store_rec rfl (.tmp 2) (.tmp 67) rfl w.heap.size 1 (Q : Nat) (o : Nat) ao4 l.length cap4 0 rfl rfl hA6.drew ?_
  have hH2 : (fun w' => w'.cell? ⟨w.heap.size + 1, 0, none⟩ = some (.int .i64 1) ∧ w'.cell? ⟨w.heap.size + 1, 1, none⟩ = some (.int .i64 (Q : Nat)) ∧ w'.cell? ⟨w.heap.size + 1, 2, none⟩ = some (.int .i64 (o : Nat)) ∧ w'.cell? ⟨w.heap.size + 1, 3, none⟩ = some (.slice ao4 l.length cap4) ∧ w'.cell? ⟨w.heap.size + 1, 4, none⟩ = some (.int .i64 0)) (((((w6.drew.setCell ⟨w.heap.size, 0, none⟩ (.int .i64 1)).setCell ⟨w.heap.size, 1, none⟩ (.int .i64 (Q : Nat))).setCell ⟨w.heap.size, 2, none⟩ (.int .i64 (o : Nat))).setCell ⟨w.heap.size, 3, none⟩ (.slice ao4 l.length cap4)).setCell ⟨w.heap.size, 4, none⟩ (.int .i64 0)) := (hN6.drew.setOthers hne 1 (Q : Nat) (o : Nat) (.slice ao4 l.length cap4) 0).held
  refine hK.out _ _ hH2 (fun _ => ?_)
  clear hK K
  simp only [Act.put]
  refine wpAnyH_take (i := 12) (oi := { dst := some 3, op := Op.assign (Operand.tmp 68), type := 2, pos := _, after := #[{ on := 1, ground := Ground.data }, { on := 11, ground := Ground.chain }, { on := 0, ground := Ground.phase }, { on := 1, ground := Ground.phase }, { on := 2, ground := Ground.textOnly Departure.lateStores }, { on := 3, ground := Ground.textOnly Departure.lateStores }, { on := 4, ground := Ground.textOnly Departure.lateStores }, { on := 5, ground := Ground.textOnly Departure.lateStores }, { on := 6, ground := Ground.textOnly Departure.lateStores }, { on := 7, ground := Ground.textOnly Departure.lateStores }, { on := 8, ground := Ground.textOnly Departure.lateStores }, { on := 9, ground := Ground.textOnly Departure.lateStores }, { on := 10, ground := Ground.textOnly Departure.lateStores }, { on := 11, ground := Ground.phase }], guard := none }) (v := .int .i64 P) rfl (by kernel_rfl) (by kernel_rfl) (by kernel_rfl) (fun _ _ _ h => h) (Or.inl ⟨by rfl, fun w' hw => by go_simp⟩) hH2 ?_
  simp only [Act.put, List.setIfInBounds_toArray, List.set_cons_zero, List.set_cons_succ]
  refine wpAnyH_take (i := 13) (oi := { dst := some 4, op := Op.assign (Operand.tmp 77), type := 4, pos := _, after := #[{ on := 10, ground := Ground.data }, { on := 12, ground := Ground.chain }, { on := 0, ground := Ground.phase }, { on := 1, ground := Ground.phase }, { on := 2, ground := Ground.phase }, { on := 3, ground := Ground.phase }, { on := 4, ground := Ground.phase }, { on := 5, ground := Ground.phase }, { on := 6, ground := Ground.phase }, { on := 7, ground := Ground.phase }, { on := 8, ground := Ground.phase }, { on := 9, ground := Ground.phase }, { on := 10, ground := Ground.phase }, { on := 11, ground := Ground.phase }, { on := 12, ground := Ground.phase }], guard := none }) (v := .bool false) rfl (by kernel_rfl) (by kernel_rfl) (by kernel_rfl) (fun _ _ _ h => h) (Or.inl ⟨by rfl, fun w' hw => by go_simp⟩) hH2 ?_
  simp only [Act.put, List.setIfInBounds_toArray, List.set_cons_zero, List.set_cons_succ]
  refine wpAnyH_done (by kernel_rfl) ?_ _
  refine NoPanic.normal ?_
  have hcU := hA6.drew.setAll 1 (Q : Nat) (o : Nat) (.slice ao4 l.length cap4) 0
  have hbU : Below w.heap.size w (((((w6.drew.setCell ⟨w.heap.size, 0, none⟩ (.int .i64 1)).setCell ⟨w.heap.size, 1, none⟩ (.int .i64 (Q : Nat))).setCell ⟨w.heap.size, 2, none⟩ (.int .i64 (o : Nat))).setCell ⟨w.heap.size, 3, none⟩ (.slice ao4 l.length cap4)).setCell ⟨w.heap.size, 4, none⟩ (.int .i64 0)) := ((((hB6.drew.setCell (Nat.le_refl _) _).setCell (Nat.le_refl _) _).setCell (Nat.le_refl _) _).setCell (Nat.le_refl _) _).setCell (Nat.le_refl _) _
  have hDU : Bs (((((w6.drew.setCell ⟨w.heap.size, 0, none⟩ (.int .i64 1)).setCell ⟨w.heap.size, 1, none⟩ (.int .i64 (Q : Nat))).setCell ⟨w.heap.size, 2, none⟩ (.int .i64 (o : Nat))).setCell ⟨w.heap.size, 3, none⟩ (.slice ao4 l.length cap4)).setCell ⟨w.heap.size, 4, none⟩ (.int .i64 0)) (.slice ao4 l.length cap4) l := (keeps_all w6.drew w.heap.size 1 (Q : Nat) (o : Nat) (.slice ao4 l.length cap4) 0).bs hD6.drew (fun j hj e => by have h1 := hdlt j hj; have e2 : j = w.heap.size := e; omega)
  clear hH2
  generalize (((((w6.drew.setCell ⟨w.heap.size, 0, none⟩ (.int .i64 1)).setCell ⟨w.heap.size, 1, none⟩ (.int .i64 (Q : Nat))).setCell ⟨w.heap.size, 2, none⟩ (.int .i64 (o : Nat))).setCell ⟨w.heap.size, 3, none⟩ (.slice ao4 l.length cap4)).setCell ⟨w.heap.size, 4, none⟩ (.int .i64 0)) = U at hcU hbU hDU ⊢
  obtain ⟨c0, c1, c2, c3, c4, -, -, -, -, -, -⟩ := hcU
  clear hA6 hN6 hB6 hHeld hbs hv6 hD6
  go_wp2_with fail
  refine bodyPost_ret (v := .tuple #[.agg #[.int .i64 1, .int .i64 (Q : Nat), .int .i64 (o : Nat), .slice ao4 l.length cap4, .int .i64 0], .int .i64 P, .bool false]) (by simp [results, Tryz.results81, go_sem, c0, c1, c2, c3, c4]) rfl ⟨_, rfl, hDU, (fun j hj => by have := hdlt j hj; omega), hbU⟩

set_option maxRecDepth 100000 in
set_option maxHeartbeats 400000 in
theorem rparse_C_eq (v : Value) (L : List Nat) (w : World) (hv : Bs w v L) (hn : L.length = 64) (h1 : L.getD 1 0 ≤ 44) (h2 : getN L 2 8 ≤ 2305843009213693952) (h0 : L.getD 0 0 ≠ 1)
    (M : List Nat) (er : Int) (hby : ∀ v' w, Bs w v' [] → Calls Tryz.prog 53 #[.int .i64 (getN L 2 8 : Nat), .agg #[.int .i64 (L.getD 0 0 : Nat), .int .i64 0, .int .i64 0, v', .int .i64 (getN L 10 4 : Nat)]] w (NewBsE w M er)) (hMx : ∀ y ∈ M, y < 256) (herr : er = 0) (hd : M = L) :
    Calls Tryz.prog 81 #[v] w fun e w' => ∃ v', e = .returned (.tuple #[.agg #[.int .i64 (L.getD 0 0 : Nat), .int .i64 0, .int .i64 0, v', .int .i64 (getN L 10 4 : Nat)], .int .i64 (getN L 2 8 : Nat), .bool true]) ∧ Bs w' v' [] ∧ (∀ j, v'.ownBlock = some j → w.heap.size ≤ j) ∧ Below w.heap.size w w' := by
  subst herr
  have hbq := strB_beq hMx hv.lt
  rw [decide_eq_true hd] at hbq
  clear hd
  have hv1 := hv.alloc (.cells #[.int .i64 0, .int .i64 0, .int .i64 0, .slice none 0 0, .int .i64 0] 52)
  obtain ⟨ao, cap, rfl, -, -, -, -⟩ := id hv
  have hcap := hv.cap
  obtain ⟨ao', cap', e, -, -, -, hc⟩ := id hv1
  injection e with e1 e2 e3
  subst e1 e3
  obtain ⟨vb, off, rfl, hcell⟩ := hc (by omega)
  have hvl : vb < w.heap.size := by
    obtain ⟨ao2, cap2, e4, -, -, -, hc2⟩ := id hv
    injection e4 with e5 e6 e7
    obtain ⟨vb2, off2, e8, hcell2⟩ := hc2 (by omega)
    rw [← e5] at e8
    injection e8 with e8
    injection e8 with e9 e10
    have := World.block_lt_of_cell? w _ (hcell2 0 (by omega))
    rw [← e9] at this
    simpa using this
  have d0 := hcell 0 (by omega)
  rw [Nat.add_zero] at d0
  have d1 := hcell 1 (by omega)
  have d14 := hcell 14 (by omega)
  have hlt := hv.lt
  have kb0 := getD_lt hlt 0
  have kb14 := getD_lt hlt 14
  have hq : getN L 10 4 < 4294967296 := getN_lt hlt 10 4
  have n2 : ∀ w, Bs w (.slice (some ⟨vb, off, none⟩) L.length cap) L → Calls Tryz.prog 92 #[.slice (some ⟨vb, off + 2, none⟩) 8 (cap - 2)] w fun e w' => e = .returned (.int .u64 (getN L 2 8 : Nat)) ∧ w = w' := fun w hv => number_at hv 2 8 (by omega) (by omega)
  have n10 : ∀ w, Bs w (.slice (some ⟨vb, off, none⟩) L.length cap) L → Calls Tryz.prog 92 #[.slice (some ⟨vb, off + 10, none⟩) 4 (cap - 10)] w fun e w' => e = .returned (.int .u64 (getN L 10 4 : Nat)) ∧ w = w' := fun w hv => number_at hv 10 4 (by omega) (by omega)
  clear hc hcell hlt
  rw [hn] at hv hv1 n2 n10 hcap ⊢
  have hr := RecAt.new w 0 0 0 (.slice none 0 0) 0
  have h2i : ((getN L 2 8 : Nat) : Int) ≤ 2305843009213693952 := by omega
  have h2j : 0 ≤ ((getN L 2 8 : Nat) : Int) := by omega
  have hwP : IntKind.i64.wrap ((getN L 2 8 : Nat) : Int) = ((getN L 2 8 : Nat) : Int) := by rw [IntKind.wrap_i64]; omega
  clear h2
  clear d14 kb14
  generalize L.getD 0 0 = k at *
  have hk1 : ((k : Int) == 1) = false := by simp; omega
  clear h0
  generalize L.getD 1 0 = n at *
  generalize ((getN L 2 8 : Nat) : Int) = P at *
  generalize getN L 10 4 = Q at *
  have Hn := hide hn
  clear hn
  have hvl1 : vb < (w.alloc (.cells #[.int .i64 0, .int .i64 0, .int .i64 0, .slice none 0 0, .int .i64 0] 52)).heap.size := by simp; omega
  go_enter Tryz.func81, Tryz.ntmps81
  go_wp2_with fail
  refine (n2 _ hv1).mono ?_
  rintro e w1 ⟨rfl, rfl⟩
  go_wp2_with fail
  have hv2 := hv1.alloc (.cells #[.int .i64 (k : Nat), .int .i64 0, .int .i64 0, .slice none 0 0, .int .i64 0] 52)
  refine (n10 _ hv2).mono ?_
  rintro e w1 ⟨rfl, rfl⟩
  have hA2 : RecAt ((w.alloc (.cells #[.int .i64 0, .int .i64 0, .int .i64 0, .slice none 0 0, .int .i64 0] 52)).alloc (.cells #[.int .i64 (k : Nat), .int .i64 0, .int .i64 0, .slice none 0 0, .int .i64 0] 52)) w.heap.size 0 0 0 (.slice none 0 0) 0 := hr.alloc _
  have hN2 : RecAt ((w.alloc (.cells #[.int .i64 0, .int .i64 0, .int .i64 0, .slice none 0 0, .int .i64 0] 52)).alloc (.cells #[.int .i64 (k : Nat), .int .i64 0, .int .i64 0, .slice none 0 0, .int .i64 0] 52)) (w.heap.size + 1) (k : Nat) 0 0 (.slice none 0 0) 0 := RecAt.new1 _ _ _ _ _ _ _
  have hB2 : Below w.heap.size w ((w.alloc (.cells #[.int .i64 0, .int .i64 0, .int .i64 0, .slice none 0 0, .int .i64 0] 52)).alloc (.cells #[.int .i64 (k : Nat), .int .i64 0, .int .i64 0, .slice none 0 0, .int .i64 0] 52)) := ((Below.refl _ w).alloc (Nat.le_refl _) _).alloc (by simp) _
  have hBz := (Below.refl (w.alloc (.cells #[.int .i64 0, .int .i64 0, .int .i64 0, .slice none 0 0, .int .i64 0] 52)).heap.size (w.alloc (.cells #[.int .i64 0, .int .i64 0, .int .i64 0, .slice none 0 0, .int .i64 0] 52))).alloc (Nat.le_refl _) (.cells #[.int .i64 (k : Nat), .int .i64 0, .int .i64 0, .slice none 0 0, .int .i64 0] 52)
  clear hr hv1 n10
  generalize ((w.alloc (.cells #[.int .i64 0, .int .i64 0, .int .i64 0, .slice none 0 0, .int .i64 0] 52)).alloc (.cells #[.int .i64 (k : Nat), .int .i64 0, .int .i64 0, .slice none 0 0, .int .i64 0] 52)) = W at *
  have hz2 := hN2.lt
  have hne : w.heap.size ≠ w.heap.size + 1 := by omega
  have hne2 : vb ≠ w.heap.size + 1 := by omega
  obtain ⟨m0, m1, m2, m3, m4, e0, e1, e2, e3, e4, lq⟩ := id hN2
  have hN5 := hN2.set4 (Q : Nat)
  have hA5 : RecAt (W.setCell ⟨w.heap.size + 1, 4, none⟩ (.int .i64 (Q : Nat))) w.heap.size 0 0 0 (.slice none 0 0) 0 := hA2.setOther (Ne.symm hne)
  have hB5 : Below w.heap.size w (W.setCell ⟨w.heap.size + 1, 4, none⟩ (.int .i64 (Q : Nat))) := hB2.setCell (by simp) _
  have hv5 : Bs (W.setCell ⟨w.heap.size + 1, 4, none⟩ (.int .i64 (Q : Nat))) (.slice (some ⟨vb, off, none⟩) 64 cap) L := ((Keeps.refl (fun j => j = w.heap.size + 1) W).set rfl _).bs hv2 (fun b hb e => hne2 ((Option.some.inj (show some vb = some b from hb)).trans e))
  have hD5 : Bs (W.setCell ⟨w.heap.size + 1, 4, none⟩ (.int .i64 (Q : Nat))) (.slice none 0 0) [] := Bs.nil _
  clear hA2 hB2 hv2 d0 d1 hBz hvl1
  go_wp2_with fail
  clear m0 m1 m2 m3 m4 e0 e1 e2 e3 e4 lq hN2
  generalize (W.setCell ⟨w.heap.size + 1, 4, none⟩ (.int .i64 (Q : Nat))) = W7 at *
  refine (n2 _ hv5).mono ?_
  rintro e w1 ⟨rfl, rfl⟩
  obtain ⟨m0, m1, m2, m3, m4, e0, e1, e2, e3, e4, lq⟩ := id hN5
  go_wp2_with fail
  clear m0 m1 m2 m3 m4 e0 e1 e2 e3 e4 lq n2
  refine (hby _ _ hD5).mono ?_
  rintro e w6 ⟨vx, rfl, hox, hbx⟩
  have hbs := Bs.of_owns hox hMx
  obtain ⟨xo, xc, rfl, -, -⟩ := owns_form hox
  have hxlt := owns_lt hox
  have hN6 := hN5.mono hbx
  have hA6 := hA5.mono hbx
  have hB6 := hB5.trans (hbx.mono hB5.size)
  have hv6 := hv5.mono hbx
  have hD6 := hD5.mono hbx
  have hz7 := hN5.lt
  clear hox hbx hN5 hA5 hB5 hv5 hD5 hby
  go_wp2_with fail
  refine wp_region_noPanic ?_
  refine wp_region_held_drew (S := (fun w' => (w'.cell? ⟨w.heap.size + 1, 0, none⟩ = some (.int .i64 (k : Nat)) ∧ w'.cell? ⟨w.heap.size + 1, 1, none⟩ = some (.int .i64 0) ∧ w'.cell? ⟨w.heap.size + 1, 2, none⟩ = some (.int .i64 0) ∧ w'.cell? ⟨w.heap.size + 1, 3, none⟩ = some (.slice none 0 0) ∧ w'.cell? ⟨w.heap.size + 1, 4, none⟩ = some (.int .i64 (Q : Nat))) ∧ Bs w' (.slice xo M.length xc) M ∧ Bs w' (.slice (some ⟨vb, off, none⟩) 64 cap) L)) (by kernel_rfl) ⟨hN6.drew.held, hbs.drew, hv6.drew⟩ (fun hHeld => ?_)
  refine wpAnyH_take (i := 0) (oi := { dst := some 67, op := Op.load 52 (Operand.tmp 5), type := 52, pos := _, after := #[], guard := none }) (v := .agg #[.int .i64 (k : Nat), .int .i64 0, .int .i64 0, .slice none 0 0, .int .i64 (Q : Nat)]) rfl (by kernel_rfl) (by kernel_rfl) (by kernel_rfl) (fun _ _ _ h => h) (Or.inl ⟨by rfl, fun w' hw => by obtain ⟨⟨k0, k1, k2, k3, k4⟩, -, -⟩ := hw; go_simp⟩) hHeld ?_
  simp only [Act.put, List.setIfInBounds_toArray, List.set_cons_zero, List.set_cons_succ]
  refine wpAnyH_take (i := 1) (oi := { dst := some 68, op := Op.move (Operand.tmp 6), type := 2, pos := _, after := #[{ on := 11, ground := Ground.gcOnly Departure.lateStores }], guard := none }) (v := .int .i64 P) rfl (by kernel_rfl) (by kernel_rfl) (by kernel_rfl) (fun _ _ _ h => h) (Or.inl ⟨by rfl, fun w' hw => by go_simp⟩) hHeld ?_
  simp only [Act.put, List.setIfInBounds_toArray, List.set_cons_zero, List.set_cons_succ]
  refine wpAnyH_take (i := 2) (oi := { dst := some 69, op := Op.move (Operand.tmp 8), type := 42, pos := _, after := #[], guard := none }) (v := .int .i64 0) rfl (by kernel_rfl) (by kernel_rfl) (by kernel_rfl) (fun _ _ _ h => h) (Or.inl ⟨by rfl, fun w' hw => by go_simp⟩) hHeld ?_
  simp only [Act.put, List.setIfInBounds_toArray, List.set_cons_zero, List.set_cons_succ]
  refine wpAnyH_take (i := 3) (oi := { dst := some 70, op := Op.binOp BinOp.eql 42 (Operand.tmp 69) (Operand.const (Value.int IntKind.i64 0)) 42, type := 4, pos := _, after := #[{ on := 2, ground := Ground.data }], guard := none }) (v := .bool true) rfl (by kernel_rfl) (by kernel_rfl) (by kernel_rfl) (fun _ _ _ h => h) (Or.inl ⟨by rfl, fun w' hw => by go_simp⟩) hHeld ?_
  simp only [Act.put, List.setIfInBounds_toArray, List.set_cons_zero, List.set_cons_succ]
  refine wpAnyH_take (i := 4) (oi := { dst := some 71, op := Op.move (Operand.tmp 70), type := 4, pos := _, after := #[{ on := 3, ground := Ground.data }], guard := none }) (v := .bool true) rfl (by kernel_rfl) (by kernel_rfl) (by kernel_rfl) (fun _ _ _ h => h) (Or.inl ⟨by rfl, fun w' hw => by go_simp⟩) hHeld ?_
  simp only [Act.put, List.setIfInBounds_toArray, List.set_cons_zero, List.set_cons_succ]
  refine wpAnyH_take (i := 5) (oi := { dst := some 72, op := Op.move (Operand.tmp 7), type := 30, pos := _, after := #[{ on := 4, ground := Ground.guard }, { on := 12, ground := Ground.gcOnly Departure.lateStores }], guard := some (4, true) }) (v := .slice xo M.length xc) rfl (by kernel_rfl) (by kernel_rfl) (by kernel_rfl) (fun _ _ _ h => h) (Or.inl ⟨by rfl, fun w' hw => by go_simp⟩) hHeld ?_
  simp only [Act.put, List.setIfInBounds_toArray, List.set_cons_zero, List.set_cons_succ]
  refine wpAnyH_take (i := 6) (oi := { dst := some 73, op := Op.convert 30 9 (Operand.tmp 72), type := 9, pos := _, after := #[{ on := 5, ground := Ground.data }, { on := 4, ground := Ground.guard }, { on := 12, ground := Ground.gcOnly Departure.lateStores }], guard := some (4, true) }) (v := .string (strB M)) rfl (by kernel_rfl) (by kernel_rfl) (by kernel_rfl) (fun _ _ _ h => h) (Or.inl ⟨by rfl, fun w' hw => by obtain ⟨-, hb1, hb2⟩ := hw; have c := hb1.convert (P := Tryz.prog) 30 5 9 Tryz.underlying30 Tryz.underlying5 Tryz.underlying9; clear hb1 hb2; go_simp⟩) hHeld ?_
  simp only [Act.put, List.setIfInBounds_toArray, List.set_cons_zero, List.set_cons_succ]
  refine wpAnyH_take (i := 7) (oi := { dst := some 74, op := Op.move (Operand.tmp 0), type := 30, pos := _, after := #[{ on := 4, ground := Ground.guard }, { on := 12, ground := Ground.gcOnly Departure.lateStores }], guard := some (4, true) }) (v := .slice (some ⟨vb, off, none⟩) 64 cap) rfl (by kernel_rfl) (by kernel_rfl) (by kernel_rfl) (fun _ _ _ h => h) (Or.inl ⟨by rfl, fun w' hw => by go_simp⟩) hHeld ?_
  simp only [Act.put, List.setIfInBounds_toArray, List.set_cons_zero, List.set_cons_succ]
  refine wpAnyH_take (i := 8) (oi := { dst := some 75, op := Op.convert 30 9 (Operand.tmp 74), type := 9, pos := _, after := #[{ on := 7, ground := Ground.data }, { on := 4, ground := Ground.guard }, { on := 12, ground := Ground.gcOnly Departure.lateStores }], guard := some (4, true) }) (v := .string (strB L)) rfl (by kernel_rfl) (by kernel_rfl) (by kernel_rfl) (fun _ _ _ h => h) (Or.inl ⟨by rfl, fun w' hw => by obtain ⟨-, hb1, hb2⟩ := hw; have c := hb2.convert (P := Tryz.prog) 30 5 9 Tryz.underlying30 Tryz.underlying5 Tryz.underlying9; clear hb1 hb2; go_simp⟩) hHeld ?_
  simp only [Act.put, List.setIfInBounds_toArray, List.set_cons_zero, List.set_cons_succ]
  refine wpAnyH_take (i := 9) (oi := { dst := some 76, op := Op.binOp BinOp.eql 9 (Operand.tmp 73) (Operand.tmp 75) 9, type := 4, pos := _, after := #[{ on := 6, ground := Ground.data }, { on := 8, ground := Ground.data }, { on := 4, ground := Ground.guard }, { on := 12, ground := Ground.gcOnly Departure.lateStores }], guard := some (4, true) }) (v := .bool true) rfl (by kernel_rfl) (by kernel_rfl) (by kernel_rfl) (fun _ _ _ h => h) (Or.inl ⟨by rfl, fun w' hw => by go_simp⟩) hHeld ?_
  simp only [Act.put, List.setIfInBounds_toArray, List.set_cons_zero, List.set_cons_succ]
  refine wpAnyH_take (i := 10) (oi := { dst := some 77, op := Op.pick (Operand.tmp 71) (Operand.tmp 76) (Operand.const (Value.bool false)), type := 4, pos := _, after := #[{ on := 4, ground := Ground.data }, { on := 9, ground := Ground.data }, { on := 12, ground := Ground.gcOnly Departure.lateStores }], guard := none }) (v := .bool true) rfl (by kernel_rfl) (by kernel_rfl) (by kernel_rfl) (fun _ _ _ h => h) (Or.inl ⟨by rfl, fun w' hw => by go_simp⟩) hHeld ?_
  simp only [Act.put, List.setIfInBounds_toArray, List.set_cons_zero, List.set_cons_succ]
  refine wpAnyH_ready (rs := [11]) (by kernel_rfl) (by simp) ?_
  refine AllReadyH.cons (o := { dst := none, op := Op.store 52 (Operand.tmp 2) (Operand.tmp 67), type := 0, pos := _, after := #[{ on := 0, ground := Ground.data }, { on := 4, ground := Ground.chain }, { on := 0, ground := Ground.phase }, { on := 1, ground := Ground.textOnly Departure.lateStores }, { on := 2, ground := Ground.textOnly Departure.lateStores }, { on := 3, ground := Ground.textOnly Departure.lateStores }, { on := 4, ground := Ground.textOnly Departure.lateStores }, { on := 5, ground := Ground.textOnly Departure.lateStores }, { on := 6, ground := Ground.textOnly Departure.lateStores }, { on := 7, ground := Ground.textOnly Departure.lateStores }, { on := 8, ground := Ground.textOnly Departure.lateStores }, { on := 9, ground := Ground.textOnly Departure.lateStores }, { on := 10, ground := Ground.textOnly Departure.lateStores }], guard := none }) rfl (fun K hK => ?_) AllReadyH.nil
  refine step_store_rec rfl (.tmp 2) (.tmp 67) rfl w.heap.size (k : Nat) 0 0 none 0 0 (Q : Nat) rfl rfl hA6.drew ?_
  have hH2 : (fun w' => (w'.cell? ⟨w.heap.size + 1, 0, none⟩ = some (.int .i64 (k : Nat)) ∧ w'.cell? ⟨w.heap.size + 1, 1, none⟩ = some (.int .i64 0) ∧ w'.cell? ⟨w.heap.size + 1, 2, none⟩ = some (.int .i64 0) ∧ w'.cell? ⟨w.heap.size + 1, 3, none⟩ = some (.slice none 0 0) ∧ w'.cell? ⟨w.heap.size + 1, 4, none⟩ = some (.int .i64 (Q : Nat))) ∧ Bs w' (.slice xo M.length xc) M ∧ Bs w' (.slice (some ⟨vb, off, none⟩) 64 cap) L) (((((w6.drew.setCell ⟨w.heap.size, 0, none⟩ (.int .i64 (k : Nat))).setCell ⟨w.heap.size, 1, none⟩ (.int .i64 0)).setCell ⟨w.heap.size, 2, none⟩ (.int .i64 0)).setCell ⟨w.heap.size, 3, none⟩ (.slice none 0 0)).setCell ⟨w.heap.size, 4, none⟩ (.int .i64 (Q : Nat))) := ⟨(hN6.drew.setOthers hne (k : Nat) 0 0 (.slice none 0 0) (Q : Nat)).held, (keeps_all w6.drew w.heap.size (k : Nat) 0 0 (.slice none 0 0) (Q : Nat)).bs hbs.drew (fun j hj e => by have h1 := hxlt j hj; have e2 : j = w.heap.size := e; omega), (keeps_all w6.drew w.heap.size (k : Nat) 0 0 (.slice none 0 0) (Q : Nat)).bs hv6.drew (fun j hj e => by have e2 : j = w.heap.size := e; have e3 : vb = j := Option.some.inj (show some vb = some j from hj); omega)⟩
  refine hK.out _ _ hH2 (fun _ => ?_)
  clear hK K
  simp only [Act.put]
  refine wpAnyH_take (i := 12) (oi := { dst := some 3, op := Op.assign (Operand.tmp 68), type := 2, pos := _, after := #[{ on := 1, ground := Ground.data }, { on := 11, ground := Ground.chain }, { on := 0, ground := Ground.phase }, { on := 1, ground := Ground.phase }, { on := 2, ground := Ground.textOnly Departure.lateStores }, { on := 3, ground := Ground.textOnly Departure.lateStores }, { on := 4, ground := Ground.textOnly Departure.lateStores }, { on := 5, ground := Ground.textOnly Departure.lateStores }, { on := 6, ground := Ground.textOnly Departure.lateStores }, { on := 7, ground := Ground.textOnly Departure.lateStores }, { on := 8, ground := Ground.textOnly Departure.lateStores }, { on := 9, ground := Ground.textOnly Departure.lateStores }, { on := 10, ground := Ground.textOnly Departure.lateStores }, { on := 11, ground := Ground.phase }], guard := none }) (v := .int .i64 P) rfl (by kernel_rfl) (by kernel_rfl) (by kernel_rfl) (fun _ _ _ h => h) (Or.inl ⟨by rfl, fun w' hw => by go_simp⟩) hH2 ?_
  simp only [Act.put, List.setIfInBounds_toArray, List.set_cons_zero, List.set_cons_succ]
  refine wpAnyH_take (i := 13) (oi := { dst := some 4, op := Op.assign (Operand.tmp 77), type := 4, pos := _, after := #[{ on := 10, ground := Ground.data }, { on := 12, ground := Ground.chain }, { on := 0, ground := Ground.phase }, { on := 1, ground := Ground.phase }, { on := 2, ground := Ground.phase }, { on := 3, ground := Ground.phase }, { on := 4, ground := Ground.phase }, { on := 5, ground := Ground.phase }, { on := 6, ground := Ground.phase }, { on := 7, ground := Ground.phase }, { on := 8, ground := Ground.phase }, { on := 9, ground := Ground.phase }, { on := 10, ground := Ground.phase }, { on := 11, ground := Ground.phase }, { on := 12, ground := Ground.phase }], guard := none }) (v := .bool true) rfl (by kernel_rfl) (by kernel_rfl) (by kernel_rfl) (fun _ _ _ h => h) (Or.inl ⟨by rfl, fun w' hw => by go_simp⟩) hH2 ?_
  simp only [Act.put, List.setIfInBounds_toArray, List.set_cons_zero, List.set_cons_succ]
  refine wpAnyH_done (by kernel_rfl) ?_ _
  refine NoPanic.normal ?_
  have hcU := hA6.drew.setAll (k : Nat) 0 0 (.slice none 0 0) (Q : Nat)
  have hbU : Below w.heap.size w (((((w6.drew.setCell ⟨w.heap.size, 0, none⟩ (.int .i64 (k : Nat))).setCell ⟨w.heap.size, 1, none⟩ (.int .i64 0)).setCell ⟨w.heap.size, 2, none⟩ (.int .i64 0)).setCell ⟨w.heap.size, 3, none⟩ (.slice none 0 0)).setCell ⟨w.heap.size, 4, none⟩ (.int .i64 (Q : Nat))) := ((((hB6.drew.setCell (Nat.le_refl _) _).setCell (Nat.le_refl _) _).setCell (Nat.le_refl _) _).setCell (Nat.le_refl _) _).setCell (Nat.le_refl _) _
  have hDU : Bs (((((w6.drew.setCell ⟨w.heap.size, 0, none⟩ (.int .i64 (k : Nat))).setCell ⟨w.heap.size, 1, none⟩ (.int .i64 0)).setCell ⟨w.heap.size, 2, none⟩ (.int .i64 0)).setCell ⟨w.heap.size, 3, none⟩ (.slice none 0 0)).setCell ⟨w.heap.size, 4, none⟩ (.int .i64 (Q : Nat))) (.slice none 0 0) [] := Bs.nil _
  clear hH2
  generalize (((((w6.drew.setCell ⟨w.heap.size, 0, none⟩ (.int .i64 (k : Nat))).setCell ⟨w.heap.size, 1, none⟩ (.int .i64 0)).setCell ⟨w.heap.size, 2, none⟩ (.int .i64 0)).setCell ⟨w.heap.size, 3, none⟩ (.slice none 0 0)).setCell ⟨w.heap.size, 4, none⟩ (.int .i64 (Q : Nat))) = U at hcU hbU hDU ⊢
  obtain ⟨c0, c1, c2, c3, c4, -, -, -, -, -, -⟩ := hcU
  clear hA6 hN6 hB6 hHeld hbs hv6 hD6
  go_wp2_with fail
  refine bodyPost_ret (v := .tuple #[.agg #[.int .i64 (k : Nat), .int .i64 0, .int .i64 0, .slice none 0 0, .int .i64 (Q : Nat)], .int .i64 P, .bool true]) (by simp [results, Tryz.results81, go_sem, c0, c1, c2, c3, c4]) rfl ⟨_, rfl, hDU, (fun j hj => by cases hj), hbU⟩

set_option maxRecDepth 100000 in
set_option maxHeartbeats 400000 in
theorem rparse_C_ne (v : Value) (L : List Nat) (w : World) (hv : Bs w v L) (hn : L.length = 64) (h1 : L.getD 1 0 ≤ 44) (h2 : getN L 2 8 ≤ 2305843009213693952) (h0 : L.getD 0 0 ≠ 1)
    (M : List Nat) (er : Int) (hby : ∀ v' w, Bs w v' [] → Calls Tryz.prog 53 #[.int .i64 (getN L 2 8 : Nat), .agg #[.int .i64 (L.getD 0 0 : Nat), .int .i64 0, .int .i64 0, v', .int .i64 (getN L 10 4 : Nat)]] w (NewBsE w M er)) (hMx : ∀ y ∈ M, y < 256) (herr : er = 0) (hd : M ≠ L) :
    Calls Tryz.prog 81 #[v] w fun e w' => ∃ v', e = .returned (.tuple #[.agg #[.int .i64 (L.getD 0 0 : Nat), .int .i64 0, .int .i64 0, v', .int .i64 (getN L 10 4 : Nat)], .int .i64 (getN L 2 8 : Nat), .bool false]) ∧ Bs w' v' [] ∧ (∀ j, v'.ownBlock = some j → w.heap.size ≤ j) ∧ Below w.heap.size w w' := by
  subst herr
  have hbq := strB_beq hMx hv.lt
  rw [decide_eq_false hd] at hbq
  clear hd
  have hv1 := hv.alloc (.cells #[.int .i64 0, .int .i64 0, .int .i64 0, .slice none 0 0, .int .i64 0] 52)
  obtain ⟨ao, cap, rfl, -, -, -, -⟩ := id hv
  have hcap := hv.cap
  obtain ⟨ao', cap', e, -, -, -, hc⟩ := id hv1
  injection e with e1 e2 e3
  subst e1 e3
  obtain ⟨vb, off, rfl, hcell⟩ := hc (by omega)
  have hvl : vb < w.heap.size := by
    obtain ⟨ao2, cap2, e4, -, -, -, hc2⟩ := id hv
    injection e4 with e5 e6 e7
    obtain ⟨vb2, off2, e8, hcell2⟩ := hc2 (by omega)
    rw [← e5] at e8
    injection e8 with e8
    injection e8 with e9 e10
    have := World.block_lt_of_cell? w _ (hcell2 0 (by omega))
    rw [← e9] at this
    simpa using this
  have d0 := hcell 0 (by omega)
  rw [Nat.add_zero] at d0
  have d1 := hcell 1 (by omega)
  have d14 := hcell 14 (by omega)
  have hlt := hv.lt
  have kb0 := getD_lt hlt 0
  have kb14 := getD_lt hlt 14
  have hq : getN L 10 4 < 4294967296 := getN_lt hlt 10 4
  have n2 : ∀ w, Bs w (.slice (some ⟨vb, off, none⟩) L.length cap) L → Calls Tryz.prog 92 #[.slice (some ⟨vb, off + 2, none⟩) 8 (cap - 2)] w fun e w' => e = .returned (.int .u64 (getN L 2 8 : Nat)) ∧ w = w' := fun w hv => number_at hv 2 8 (by omega) (by omega)
  have n10 : ∀ w, Bs w (.slice (some ⟨vb, off, none⟩) L.length cap) L → Calls Tryz.prog 92 #[.slice (some ⟨vb, off + 10, none⟩) 4 (cap - 10)] w fun e w' => e = .returned (.int .u64 (getN L 10 4 : Nat)) ∧ w = w' := fun w hv => number_at hv 10 4 (by omega) (by omega)
  clear hc hcell hlt
  rw [hn] at hv hv1 n2 n10 hcap ⊢
  have hr := RecAt.new w 0 0 0 (.slice none 0 0) 0
  have h2i : ((getN L 2 8 : Nat) : Int) ≤ 2305843009213693952 := by omega
  have h2j : 0 ≤ ((getN L 2 8 : Nat) : Int) := by omega
  have hwP : IntKind.i64.wrap ((getN L 2 8 : Nat) : Int) = ((getN L 2 8 : Nat) : Int) := by rw [IntKind.wrap_i64]; omega
  clear h2
  clear d14 kb14
  generalize L.getD 0 0 = k at *
  have hk1 : ((k : Int) == 1) = false := by simp; omega
  clear h0
  generalize L.getD 1 0 = n at *
  generalize ((getN L 2 8 : Nat) : Int) = P at *
  generalize getN L 10 4 = Q at *
  have Hn := hide hn
  clear hn
  have hvl1 : vb < (w.alloc (.cells #[.int .i64 0, .int .i64 0, .int .i64 0, .slice none 0 0, .int .i64 0] 52)).heap.size := by simp; omega
  go_enter Tryz.func81, Tryz.ntmps81
  go_wp2_with fail
  refine (n2 _ hv1).mono ?_
  rintro e w1 ⟨rfl, rfl⟩
  go_wp2_with fail
  have hv2 := hv1.alloc (.cells #[.int .i64 (k : Nat), .int .i64 0, .int .i64 0, .slice none 0 0, .int .i64 0] 52)
  refine (n10 _ hv2).mono ?_
  rintro e w1 ⟨rfl, rfl⟩
  have hA2 : RecAt ((w.alloc (.cells #[.int .i64 0, .int .i64 0, .int .i64 0, .slice none 0 0, .int .i64 0] 52)).alloc (.cells #[.int .i64 (k : Nat), .int .i64 0, .int .i64 0, .slice none 0 0, .int .i64 0] 52)) w.heap.size 0 0 0 (.slice none 0 0) 0 := hr.alloc _
  have hN2 : RecAt ((w.alloc (.cells #[.int .i64 0, .int .i64 0, .int .i64 0, .slice none 0 0, .int .i64 0] 52)).alloc (.cells #[.int .i64 (k : Nat), .int .i64 0, .int .i64 0, .slice none 0 0, .int .i64 0] 52)) (w.heap.size + 1) (k : Nat) 0 0 (.slice none 0 0) 0 := RecAt.new1 _ _ _ _ _ _ _
  have hB2 : Below w.heap.size w ((w.alloc (.cells #[.int .i64 0, .int .i64 0, .int .i64 0, .slice none 0 0, .int .i64 0] 52)).alloc (.cells #[.int .i64 (k : Nat), .int .i64 0, .int .i64 0, .slice none 0 0, .int .i64 0] 52)) := ((Below.refl _ w).alloc (Nat.le_refl _) _).alloc (by simp) _
  have hBz := (Below.refl (w.alloc (.cells #[.int .i64 0, .int .i64 0, .int .i64 0, .slice none 0 0, .int .i64 0] 52)).heap.size (w.alloc (.cells #[.int .i64 0, .int .i64 0, .int .i64 0, .slice none 0 0, .int .i64 0] 52))).alloc (Nat.le_refl _) (.cells #[.int .i64 (k : Nat), .int .i64 0, .int .i64 0, .slice none 0 0, .int .i64 0] 52)
  clear hr hv1 n10
  generalize ((w.alloc (.cells #[.int .i64 0, .int .i64 0, .int .i64 0, .slice none 0 0, .int .i64 0] 52)).alloc (.cells #[.int .i64 (k : Nat), .int .i64 0, .int .i64 0, .slice none 0 0, .int .i64 0] 52)) = W at *
  have hz2 := hN2.lt
  have hne : w.heap.size ≠ w.heap.size + 1 := by omega
  have hne2 : vb ≠ w.heap.size + 1 := by omega
  obtain ⟨m0, m1, m2, m3, m4, e0, e1, e2, e3, e4, lq⟩ := id hN2
  have hN5 := hN2.set4 (Q : Nat)
  have hA5 : RecAt (W.setCell ⟨w.heap.size + 1, 4, none⟩ (.int .i64 (Q : Nat))) w.heap.size 0 0 0 (.slice none 0 0) 0 := hA2.setOther (Ne.symm hne)
  have hB5 : Below w.heap.size w (W.setCell ⟨w.heap.size + 1, 4, none⟩ (.int .i64 (Q : Nat))) := hB2.setCell (by simp) _
  have hv5 : Bs (W.setCell ⟨w.heap.size + 1, 4, none⟩ (.int .i64 (Q : Nat))) (.slice (some ⟨vb, off, none⟩) 64 cap) L := ((Keeps.refl (fun j => j = w.heap.size + 1) W).set rfl _).bs hv2 (fun b hb e => hne2 ((Option.some.inj (show some vb = some b from hb)).trans e))
  have hD5 : Bs (W.setCell ⟨w.heap.size + 1, 4, none⟩ (.int .i64 (Q : Nat))) (.slice none 0 0) [] := Bs.nil _
  clear hA2 hB2 hv2 d0 d1 hBz hvl1
  go_wp2_with fail
  clear m0 m1 m2 m3 m4 e0 e1 e2 e3 e4 lq hN2
  generalize (W.setCell ⟨w.heap.size + 1, 4, none⟩ (.int .i64 (Q : Nat))) = W7 at *
  refine (n2 _ hv5).mono ?_
  rintro e w1 ⟨rfl, rfl⟩
  obtain ⟨m0, m1, m2, m3, m4, e0, e1, e2, e3, e4, lq⟩ := id hN5
  go_wp2_with fail
  clear m0 m1 m2 m3 m4 e0 e1 e2 e3 e4 lq n2
  refine (hby _ _ hD5).mono ?_
  rintro e w6 ⟨vx, rfl, hox, hbx⟩
  have hbs := Bs.of_owns hox hMx
  obtain ⟨xo, xc, rfl, -, -⟩ := owns_form hox
  have hxlt := owns_lt hox
  have hN6 := hN5.mono hbx
  have hA6 := hA5.mono hbx
  have hB6 := hB5.trans (hbx.mono hB5.size)
  have hv6 := hv5.mono hbx
  have hD6 := hD5.mono hbx
  have hz7 := hN5.lt
  clear hox hbx hN5 hA5 hB5 hv5 hD5 hby
  go_wp2_with fail
  refine wp_region_noPanic ?_
  refine wp_region_held_drew (S := (fun w' => (w'.cell? ⟨w.heap.size + 1, 0, none⟩ = some (.int .i64 (k : Nat)) ∧ w'.cell? ⟨w.heap.size + 1, 1, none⟩ = some (.int .i64 0) ∧ w'.cell? ⟨w.heap.size + 1, 2, none⟩ = some (.int .i64 0) ∧ w'.cell? ⟨w.heap.size + 1, 3, none⟩ = some (.slice none 0 0) ∧ w'.cell? ⟨w.heap.size + 1, 4, none⟩ = some (.int .i64 (Q : Nat))) ∧ Bs w' (.slice xo M.length xc) M ∧ Bs w' (.slice (some ⟨vb, off, none⟩) 64 cap) L)) (by kernel_rfl) ⟨hN6.drew.held, hbs.drew, hv6.drew⟩ (fun hHeld => ?_)
  refine wpAnyH_take (i := 0) (oi := { dst := some 67, op := Op.load 52 (Operand.tmp 5), type := 52, pos := _, after := #[], guard := none }) (v := .agg #[.int .i64 (k : Nat), .int .i64 0, .int .i64 0, .slice none 0 0, .int .i64 (Q : Nat)]) rfl (by kernel_rfl) (by kernel_rfl) (by kernel_rfl) (fun _ _ _ h => h) (Or.inl ⟨by rfl, fun w' hw => by obtain ⟨⟨k0, k1, k2, k3, k4⟩, -, -⟩ := hw; go_simp⟩) hHeld ?_
  simp only [Act.put, List.setIfInBounds_toArray, List.set_cons_zero, List.set_cons_succ]
  refine wpAnyH_take (i := 1) (oi := { dst := some 68, op := Op.move (Operand.tmp 6), type := 2, pos := _, after := #[{ on := 11, ground := Ground.gcOnly Departure.lateStores }], guard := none }) (v := .int .i64 P) rfl (by kernel_rfl) (by kernel_rfl) (by kernel_rfl) (fun _ _ _ h => h) (Or.inl ⟨by rfl, fun w' hw => by go_simp⟩) hHeld ?_
  simp only [Act.put, List.setIfInBounds_toArray, List.set_cons_zero, List.set_cons_succ]
  refine wpAnyH_take (i := 2) (oi := { dst := some 69, op := Op.move (Operand.tmp 8), type := 42, pos := _, after := #[], guard := none }) (v := .int .i64 0) rfl (by kernel_rfl) (by kernel_rfl) (by kernel_rfl) (fun _ _ _ h => h) (Or.inl ⟨by rfl, fun w' hw => by go_simp⟩) hHeld ?_
  simp only [Act.put, List.setIfInBounds_toArray, List.set_cons_zero, List.set_cons_succ]
  refine wpAnyH_take (i := 3) (oi := { dst := some 70, op := Op.binOp BinOp.eql 42 (Operand.tmp 69) (Operand.const (Value.int IntKind.i64 0)) 42, type := 4, pos := _, after := #[{ on := 2, ground := Ground.data }], guard := none }) (v := .bool true) rfl (by kernel_rfl) (by kernel_rfl) (by kernel_rfl) (fun _ _ _ h => h) (Or.inl ⟨by rfl, fun w' hw => by go_simp⟩) hHeld ?_
  simp only [Act.put, List.setIfInBounds_toArray, List.set_cons_zero, List.set_cons_succ]
  refine wpAnyH_take (i := 4) (oi := { dst := some 71, op := Op.move (Operand.tmp 70), type := 4, pos := _, after := #[{ on := 3, ground := Ground.data }], guard := none }) (v := .bool true) rfl (by kernel_rfl) (by kernel_rfl) (by kernel_rfl) (fun _ _ _ h => h) (Or.inl ⟨by rfl, fun w' hw => by go_simp⟩) hHeld ?_
  simp only [Act.put, List.setIfInBounds_toArray, List.set_cons_zero, List.set_cons_succ]
  refine wpAnyH_take (i := 5) (oi := { dst := some 72, op := Op.move (Operand.tmp 7), type := 30, pos := _, after := #[{ on := 4, ground := Ground.guard }, { on := 12, ground := Ground.gcOnly Departure.lateStores }], guard := some (4, true) }) (v := .slice xo M.length xc) rfl (by kernel_rfl) (by kernel_rfl) (by kernel_rfl) (fun _ _ _ h => h) (Or.inl ⟨by rfl, fun w' hw => by go_simp⟩) hHeld ?_
  simp only [Act.put, List.setIfInBounds_toArray, List.set_cons_zero, List.set_cons_succ]
  refine wpAnyH_take (i := 6) (oi := { dst := some 73, op := Op.convert 30 9 (Operand.tmp 72), type := 9, pos := _, after := #[{ on := 5, ground := Ground.data }, { on := 4, ground := Ground.guard }, { on := 12, ground := Ground.gcOnly Departure.lateStores }], guard := some (4, true) }) (v := .string (strB M)) rfl (by kernel_rfl) (by kernel_rfl) (by kernel_rfl) (fun _ _ _ h => h) (Or.inl ⟨by rfl, fun w' hw => by obtain ⟨-, hb1, hb2⟩ := hw; have c := hb1.convert (P := Tryz.prog) 30 5 9 Tryz.underlying30 Tryz.underlying5 Tryz.underlying9; clear hb1 hb2; go_simp⟩) hHeld ?_
  simp only [Act.put, List.setIfInBounds_toArray, List.set_cons_zero, List.set_cons_succ]
  refine wpAnyH_take (i := 7) (oi := { dst := some 74, op := Op.move (Operand.tmp 0), type := 30, pos := _, after := #[{ on := 4, ground := Ground.guard }, { on := 12, ground := Ground.gcOnly Departure.lateStores }], guard := some (4, true) }) (v := .slice (some ⟨vb, off, none⟩) 64 cap) rfl (by kernel_rfl) (by kernel_rfl) (by kernel_rfl) (fun _ _ _ h => h) (Or.inl ⟨by rfl, fun w' hw => by go_simp⟩) hHeld ?_
  simp only [Act.put, List.setIfInBounds_toArray, List.set_cons_zero, List.set_cons_succ]
  refine wpAnyH_take (i := 8) (oi := { dst := some 75, op := Op.convert 30 9 (Operand.tmp 74), type := 9, pos := _, after := #[{ on := 7, ground := Ground.data }, { on := 4, ground := Ground.guard }, { on := 12, ground := Ground.gcOnly Departure.lateStores }], guard := some (4, true) }) (v := .string (strB L)) rfl (by kernel_rfl) (by kernel_rfl) (by kernel_rfl) (fun _ _ _ h => h) (Or.inl ⟨by rfl, fun w' hw => by obtain ⟨-, hb1, hb2⟩ := hw; have c := hb2.convert (P := Tryz.prog) 30 5 9 Tryz.underlying30 Tryz.underlying5 Tryz.underlying9; clear hb1 hb2; go_simp⟩) hHeld ?_
  simp only [Act.put, List.setIfInBounds_toArray, List.set_cons_zero, List.set_cons_succ]
  refine wpAnyH_take (i := 9) (oi := { dst := some 76, op := Op.binOp BinOp.eql 9 (Operand.tmp 73) (Operand.tmp 75) 9, type := 4, pos := _, after := #[{ on := 6, ground := Ground.data }, { on := 8, ground := Ground.data }, { on := 4, ground := Ground.guard }, { on := 12, ground := Ground.gcOnly Departure.lateStores }], guard := some (4, true) }) (v := .bool false) rfl (by kernel_rfl) (by kernel_rfl) (by kernel_rfl) (fun _ _ _ h => h) (Or.inl ⟨by rfl, fun w' hw => by go_simp⟩) hHeld ?_
  simp only [Act.put, List.setIfInBounds_toArray, List.set_cons_zero, List.set_cons_succ]
  refine wpAnyH_take (i := 10) (oi := { dst := some 77, op := Op.pick (Operand.tmp 71) (Operand.tmp 76) (Operand.const (Value.bool false)), type := 4, pos := _, after := #[{ on := 4, ground := Ground.data }, { on := 9, ground := Ground.data }, { on := 12, ground := Ground.gcOnly Departure.lateStores }], guard := none }) (v := .bool false) rfl (by kernel_rfl) (by kernel_rfl) (by kernel_rfl) (fun _ _ _ h => h) (Or.inl ⟨by rfl, fun w' hw => by go_simp⟩) hHeld ?_
  simp only [Act.put, List.setIfInBounds_toArray, List.set_cons_zero, List.set_cons_succ]
  refine wpAnyH_ready (rs := [11]) (by kernel_rfl) (by simp) ?_
  refine AllReadyH.cons (o := { dst := none, op := Op.store 52 (Operand.tmp 2) (Operand.tmp 67), type := 0, pos := _, after := #[{ on := 0, ground := Ground.data }, { on := 4, ground := Ground.chain }, { on := 0, ground := Ground.phase }, { on := 1, ground := Ground.textOnly Departure.lateStores }, { on := 2, ground := Ground.textOnly Departure.lateStores }, { on := 3, ground := Ground.textOnly Departure.lateStores }, { on := 4, ground := Ground.textOnly Departure.lateStores }, { on := 5, ground := Ground.textOnly Departure.lateStores }, { on := 6, ground := Ground.textOnly Departure.lateStores }, { on := 7, ground := Ground.textOnly Departure.lateStores }, { on := 8, ground := Ground.textOnly Departure.lateStores }, { on := 9, ground := Ground.textOnly Departure.lateStores }, { on := 10, ground := Ground.textOnly Departure.lateStores }], guard := none }) rfl (fun K hK => ?_) AllReadyH.nil
  refine step_store_rec rfl (.tmp 2) (.tmp 67) rfl w.heap.size (k : Nat) 0 0 none 0 0 (Q : Nat) rfl rfl hA6.drew ?_
  have hH2 : (fun w' => (w'.cell? ⟨w.heap.size + 1, 0, none⟩ = some (.int .i64 (k : Nat)) ∧ w'.cell? ⟨w.heap.size + 1, 1, none⟩ = some (.int .i64 0) ∧ w'.cell? ⟨w.heap.size + 1, 2, none⟩ = some (.int .i64 0) ∧ w'.cell? ⟨w.heap.size + 1, 3, none⟩ = some (.slice none 0 0) ∧ w'.cell? ⟨w.heap.size + 1, 4, none⟩ = some (.int .i64 (Q : Nat))) ∧ Bs w' (.slice xo M.length xc) M ∧ Bs w' (.slice (some ⟨vb, off, none⟩) 64 cap) L) (((((w6.drew.setCell ⟨w.heap.size, 0, none⟩ (.int .i64 (k : Nat))).setCell ⟨w.heap.size, 1, none⟩ (.int .i64 0)).setCell ⟨w.heap.size, 2, none⟩ (.int .i64 0)).setCell ⟨w.heap.size, 3, none⟩ (.slice none 0 0)).setCell ⟨w.heap.size, 4, none⟩ (.int .i64 (Q : Nat))) := ⟨(hN6.drew.setOthers hne (k : Nat) 0 0 (.slice none 0 0) (Q : Nat)).held, (keeps_all w6.drew w.heap.size (k : Nat) 0 0 (.slice none 0 0) (Q : Nat)).bs hbs.drew (fun j hj e => by have h1 := hxlt j hj; have e2 : j = w.heap.size := e; omega), (keeps_all w6.drew w.heap.size (k : Nat) 0 0 (.slice none 0 0) (Q : Nat)).bs hv6.drew (fun j hj e => by have e2 : j = w.heap.size := e; have e3 : vb = j := Option.some.inj (show some vb = some j from hj); omega)⟩
  refine hK.out _ _ hH2 (fun _ => ?_)
  clear hK K
  simp only [Act.put]
  refine wpAnyH_take (i := 12) (oi := { dst := some 3, op := Op.assign (Operand.tmp 68), type := 2, pos := _, after := #[{ on := 1, ground := Ground.data }, { on := 11, ground := Ground.chain }, { on := 0, ground := Ground.phase }, { on := 1, ground := Ground.phase }, { on := 2, ground := Ground.textOnly Departure.lateStores }, { on := 3, ground := Ground.textOnly Departure.lateStores }, { on := 4, ground := Ground.textOnly Departure.lateStores }, { on := 5, ground := Ground.textOnly Departure.lateStores }, { on := 6, ground := Ground.textOnly Departure.lateStores }, { on := 7, ground := Ground.textOnly Departure.lateStores }, { on := 8, ground := Ground.textOnly Departure.lateStores }, { on := 9, ground := Ground.textOnly Departure.lateStores }, { on := 10, ground := Ground.textOnly Departure.lateStores }, { on := 11, ground := Ground.phase }], guard := none }) (v := .int .i64 P) rfl (by kernel_rfl) (by kernel_rfl) (by kernel_rfl) (fun _ _ _ h => h) (Or.inl ⟨by rfl, fun w' hw => by go_simp⟩) hH2 ?_
  simp only [Act.put, List.setIfInBounds_toArray, List.set_cons_zero, List.set_cons_succ]
  refine wpAnyH_take (i := 13) (oi := { dst := some 4, op := Op.assign (Operand.tmp 77), type := 4, pos := _, after := #[{ on := 10, ground := Ground.data }, { on := 12, ground := Ground.chain }, { on := 0, ground := Ground.phase }, { on := 1, ground := Ground.phase }, { on := 2, ground := Ground.phase }, { on := 3, ground := Ground.phase }, { on := 4, ground := Ground.phase }, { on := 5, ground := Ground.phase }, { on := 6, ground := Ground.phase }, { on := 7, ground := Ground.phase }, { on := 8, ground := Ground.phase }, { on := 9, ground := Ground.phase }, { on := 10, ground := Ground.phase }, { on := 11, ground := Ground.phase }, { on := 12, ground := Ground.phase }], guard := none }) (v := .bool false) rfl (by kernel_rfl) (by kernel_rfl) (by kernel_rfl) (fun _ _ _ h => h) (Or.inl ⟨by rfl, fun w' hw => by go_simp⟩) hH2 ?_
  simp only [Act.put, List.setIfInBounds_toArray, List.set_cons_zero, List.set_cons_succ]
  refine wpAnyH_done (by kernel_rfl) ?_ _
  refine NoPanic.normal ?_
  have hcU := hA6.drew.setAll (k : Nat) 0 0 (.slice none 0 0) (Q : Nat)
  have hbU : Below w.heap.size w (((((w6.drew.setCell ⟨w.heap.size, 0, none⟩ (.int .i64 (k : Nat))).setCell ⟨w.heap.size, 1, none⟩ (.int .i64 0)).setCell ⟨w.heap.size, 2, none⟩ (.int .i64 0)).setCell ⟨w.heap.size, 3, none⟩ (.slice none 0 0)).setCell ⟨w.heap.size, 4, none⟩ (.int .i64 (Q : Nat))) := ((((hB6.drew.setCell (Nat.le_refl _) _).setCell (Nat.le_refl _) _).setCell (Nat.le_refl _) _).setCell (Nat.le_refl _) _).setCell (Nat.le_refl _) _
  have hDU : Bs (((((w6.drew.setCell ⟨w.heap.size, 0, none⟩ (.int .i64 (k : Nat))).setCell ⟨w.heap.size, 1, none⟩ (.int .i64 0)).setCell ⟨w.heap.size, 2, none⟩ (.int .i64 0)).setCell ⟨w.heap.size, 3, none⟩ (.slice none 0 0)).setCell ⟨w.heap.size, 4, none⟩ (.int .i64 (Q : Nat))) (.slice none 0 0) [] := Bs.nil _
  clear hH2
  generalize (((((w6.drew.setCell ⟨w.heap.size, 0, none⟩ (.int .i64 (k : Nat))).setCell ⟨w.heap.size, 1, none⟩ (.int .i64 0)).setCell ⟨w.heap.size, 2, none⟩ (.int .i64 0)).setCell ⟨w.heap.size, 3, none⟩ (.slice none 0 0)).setCell ⟨w.heap.size, 4, none⟩ (.int .i64 (Q : Nat))) = U at hcU hbU hDU ⊢
  obtain ⟨c0, c1, c2, c3, c4, -, -, -, -, -, -⟩ := hcU
  clear hA6 hN6 hB6 hHeld hbs hv6 hD6
  go_wp2_with fail
  refine bodyPost_ret (v := .tuple #[.agg #[.int .i64 (k : Nat), .int .i64 0, .int .i64 0, .slice none 0 0, .int .i64 (Q : Nat)], .int .i64 P, .bool false]) (by simp [results, Tryz.results81, go_sem, c0, c1, c2, c3, c4]) rfl ⟨_, rfl, hDU, (fun j hj => by cases hj), hbU⟩

set_option maxRecDepth 100000 in
set_option maxHeartbeats 400000 in
theorem rparse_C_err (v : Value) (L : List Nat) (w : World) (hv : Bs w v L) (hn : L.length = 64) (h1 : L.getD 1 0 ≤ 44) (h2 : getN L 2 8 ≤ 2305843009213693952) (h0 : L.getD 0 0 ≠ 1)
    (M : List Nat) (er : Int) (hby : ∀ v' w, Bs w v' [] → Calls Tryz.prog 53 #[.int .i64 (getN L 2 8 : Nat), .agg #[.int .i64 (L.getD 0 0 : Nat), .int .i64 0, .int .i64 0, v', .int .i64 (getN L 10 4 : Nat)]] w (NewBsE w M er)) (hMx : ∀ y ∈ M, y < 256) (herr : (er == 0) = false) :
    Calls Tryz.prog 81 #[v] w fun e w' => ∃ v', e = .returned (.tuple #[.agg #[.int .i64 (L.getD 0 0 : Nat), .int .i64 0, .int .i64 0, v', .int .i64 (getN L 10 4 : Nat)], .int .i64 (getN L 2 8 : Nat), .bool false]) ∧ Bs w' v' [] ∧ (∀ j, v'.ownBlock = some j → w.heap.size ≤ j) ∧ Below w.heap.size w w' := by
  have hv1 := hv.alloc (.cells #[.int .i64 0, .int .i64 0, .int .i64 0, .slice none 0 0, .int .i64 0] 52)
  obtain ⟨ao, cap, rfl, -, -, -, -⟩ := id hv
  have hcap := hv.cap
  obtain ⟨ao', cap', e, -, -, -, hc⟩ := id hv1
  injection e with e1 e2 e3
  subst e1 e3
  obtain ⟨vb, off, rfl, hcell⟩ := hc (by omega)
  have hvl : vb < w.heap.size := by
    obtain ⟨ao2, cap2, e4, -, -, -, hc2⟩ := id hv
    injection e4 with e5 e6 e7
    obtain ⟨vb2, off2, e8, hcell2⟩ := hc2 (by omega)
    rw [← e5] at e8
    injection e8 with e8
    injection e8 with e9 e10
    have := World.block_lt_of_cell? w _ (hcell2 0 (by omega))
    rw [← e9] at this
    simpa using this
  have d0 := hcell 0 (by omega)
  rw [Nat.add_zero] at d0
  have d1 := hcell 1 (by omega)
  have d14 := hcell 14 (by omega)
  have hlt := hv.lt
  have kb0 := getD_lt hlt 0
  have kb14 := getD_lt hlt 14
  have hq : getN L 10 4 < 4294967296 := getN_lt hlt 10 4
  have n2 : ∀ w, Bs w (.slice (some ⟨vb, off, none⟩) L.length cap) L → Calls Tryz.prog 92 #[.slice (some ⟨vb, off + 2, none⟩) 8 (cap - 2)] w fun e w' => e = .returned (.int .u64 (getN L 2 8 : Nat)) ∧ w = w' := fun w hv => number_at hv 2 8 (by omega) (by omega)
  have n10 : ∀ w, Bs w (.slice (some ⟨vb, off, none⟩) L.length cap) L → Calls Tryz.prog 92 #[.slice (some ⟨vb, off + 10, none⟩) 4 (cap - 10)] w fun e w' => e = .returned (.int .u64 (getN L 10 4 : Nat)) ∧ w = w' := fun w hv => number_at hv 10 4 (by omega) (by omega)
  clear hc hcell hlt
  rw [hn] at hv hv1 n2 n10 hcap ⊢
  have hr := RecAt.new w 0 0 0 (.slice none 0 0) 0
  have h2i : ((getN L 2 8 : Nat) : Int) ≤ 2305843009213693952 := by omega
  have h2j : 0 ≤ ((getN L 2 8 : Nat) : Int) := by omega
  have hwP : IntKind.i64.wrap ((getN L 2 8 : Nat) : Int) = ((getN L 2 8 : Nat) : Int) := by rw [IntKind.wrap_i64]; omega
  clear h2
  clear d14 kb14
  generalize L.getD 0 0 = k at *
  have hk1 : ((k : Int) == 1) = false := by simp; omega
  clear h0
  generalize L.getD 1 0 = n at *
  generalize ((getN L 2 8 : Nat) : Int) = P at *
  generalize getN L 10 4 = Q at *
  have Hn := hide hn
  clear hn
  have hvl1 : vb < (w.alloc (.cells #[.int .i64 0, .int .i64 0, .int .i64 0, .slice none 0 0, .int .i64 0] 52)).heap.size := by simp; omega
  go_enter Tryz.func81, Tryz.ntmps81
  go_wp2_with fail
  refine (n2 _ hv1).mono ?_
  rintro e w1 ⟨rfl, rfl⟩
  go_wp2_with fail
  have hv2 := hv1.alloc (.cells #[.int .i64 (k : Nat), .int .i64 0, .int .i64 0, .slice none 0 0, .int .i64 0] 52)
  refine (n10 _ hv2).mono ?_
  rintro e w1 ⟨rfl, rfl⟩
  have hA2 : RecAt ((w.alloc (.cells #[.int .i64 0, .int .i64 0, .int .i64 0, .slice none 0 0, .int .i64 0] 52)).alloc (.cells #[.int .i64 (k : Nat), .int .i64 0, .int .i64 0, .slice none 0 0, .int .i64 0] 52)) w.heap.size 0 0 0 (.slice none 0 0) 0 := hr.alloc _
  have hN2 : RecAt ((w.alloc (.cells #[.int .i64 0, .int .i64 0, .int .i64 0, .slice none 0 0, .int .i64 0] 52)).alloc (.cells #[.int .i64 (k : Nat), .int .i64 0, .int .i64 0, .slice none 0 0, .int .i64 0] 52)) (w.heap.size + 1) (k : Nat) 0 0 (.slice none 0 0) 0 := RecAt.new1 _ _ _ _ _ _ _
  have hB2 : Below w.heap.size w ((w.alloc (.cells #[.int .i64 0, .int .i64 0, .int .i64 0, .slice none 0 0, .int .i64 0] 52)).alloc (.cells #[.int .i64 (k : Nat), .int .i64 0, .int .i64 0, .slice none 0 0, .int .i64 0] 52)) := ((Below.refl _ w).alloc (Nat.le_refl _) _).alloc (by simp) _
  have hBz := (Below.refl (w.alloc (.cells #[.int .i64 0, .int .i64 0, .int .i64 0, .slice none 0 0, .int .i64 0] 52)).heap.size (w.alloc (.cells #[.int .i64 0, .int .i64 0, .int .i64 0, .slice none 0 0, .int .i64 0] 52))).alloc (Nat.le_refl _) (.cells #[.int .i64 (k : Nat), .int .i64 0, .int .i64 0, .slice none 0 0, .int .i64 0] 52)
  clear hr hv1 n10
  generalize ((w.alloc (.cells #[.int .i64 0, .int .i64 0, .int .i64 0, .slice none 0 0, .int .i64 0] 52)).alloc (.cells #[.int .i64 (k : Nat), .int .i64 0, .int .i64 0, .slice none 0 0, .int .i64 0] 52)) = W at *
  have hz2 := hN2.lt
  have hne : w.heap.size ≠ w.heap.size + 1 := by omega
  have hne2 : vb ≠ w.heap.size + 1 := by omega
  obtain ⟨m0, m1, m2, m3, m4, e0, e1, e2, e3, e4, lq⟩ := id hN2
  have hN5 := hN2.set4 (Q : Nat)
  have hA5 : RecAt (W.setCell ⟨w.heap.size + 1, 4, none⟩ (.int .i64 (Q : Nat))) w.heap.size 0 0 0 (.slice none 0 0) 0 := hA2.setOther (Ne.symm hne)
  have hB5 : Below w.heap.size w (W.setCell ⟨w.heap.size + 1, 4, none⟩ (.int .i64 (Q : Nat))) := hB2.setCell (by simp) _
  have hv5 : Bs (W.setCell ⟨w.heap.size + 1, 4, none⟩ (.int .i64 (Q : Nat))) (.slice (some ⟨vb, off, none⟩) 64 cap) L := ((Keeps.refl (fun j => j = w.heap.size + 1) W).set rfl _).bs hv2 (fun b hb e => hne2 ((Option.some.inj (show some vb = some b from hb)).trans e))
  have hD5 : Bs (W.setCell ⟨w.heap.size + 1, 4, none⟩ (.int .i64 (Q : Nat))) (.slice none 0 0) [] := Bs.nil _
  clear hA2 hB2 hv2 d0 d1 hBz hvl1
  go_wp2_with fail
  clear m0 m1 m2 m3 m4 e0 e1 e2 e3 e4 lq hN2
  generalize (W.setCell ⟨w.heap.size + 1, 4, none⟩ (.int .i64 (Q : Nat))) = W7 at *
  refine (n2 _ hv5).mono ?_
  rintro e w1 ⟨rfl, rfl⟩
  obtain ⟨m0, m1, m2, m3, m4, e0, e1, e2, e3, e4, lq⟩ := id hN5
  go_wp2_with fail
  clear m0 m1 m2 m3 m4 e0 e1 e2 e3 e4 lq n2
  refine (hby _ _ hD5).mono ?_
  rintro e w6 ⟨vx, rfl, hox, hbx⟩
  have hbs := Bs.of_owns hox hMx
  obtain ⟨xo, xc, rfl, -, -⟩ := owns_form hox
  have hxlt := owns_lt hox
  have hN6 := hN5.mono hbx
  have hA6 := hA5.mono hbx
  have hB6 := hB5.trans (hbx.mono hB5.size)
  have hv6 := hv5.mono hbx
  have hD6 := hD5.mono hbx
  have hz7 := hN5.lt
  clear hox hbx hN5 hA5 hB5 hv5 hD5 hby
  go_wp2_with fail
  refine wp_region_noPanic ?_
  refine wp_region_held_drew (S := (fun w' => w'.cell? ⟨w.heap.size + 1, 0, none⟩ = some (.int .i64 (k : Nat)) ∧ w'.cell? ⟨w.heap.size + 1, 1, none⟩ = some (.int .i64 0) ∧ w'.cell? ⟨w.heap.size + 1, 2, none⟩ = some (.int .i64 0) ∧ w'.cell? ⟨w.heap.size + 1, 3, none⟩ = some (.slice none 0 0) ∧ w'.cell? ⟨w.heap.size + 1, 4, none⟩ = some (.int .i64 (Q : Nat)))) (by kernel_rfl) hN6.drew.held (fun hHeld => ?_)
  refine wpAnyH_take (i := 0) (oi := { dst := some 67, op := Op.load 52 (Operand.tmp 5), type := 52, pos := _, after := #[], guard := none }) (v := .agg #[.int .i64 (k : Nat), .int .i64 0, .int .i64 0, .slice none 0 0, .int .i64 (Q : Nat)]) rfl (by kernel_rfl) (by kernel_rfl) (by kernel_rfl) (fun _ _ _ h => h) (Or.inl ⟨by rfl, fun w' hw => by obtain ⟨k0, k1, k2, k3, k4⟩ := hw; go_simp⟩) hHeld ?_
  simp only [Act.put, List.setIfInBounds_toArray, List.set_cons_zero, List.set_cons_succ]
  refine wpAnyH_take (i := 1) (oi := { dst := some 68, op := Op.move (Operand.tmp 6), type := 2, pos := _, after := #[{ on := 11, ground := Ground.gcOnly Departure.lateStores }], guard := none }) (v := .int .i64 P) rfl (by kernel_rfl) (by kernel_rfl) (by kernel_rfl) (fun _ _ _ h => h) (Or.inl ⟨by rfl, fun w' hw => by go_simp⟩) hHeld ?_
  simp only [Act.put, List.setIfInBounds_toArray, List.set_cons_zero, List.set_cons_succ]
  refine wpAnyH_take (i := 2) (oi := { dst := some 69, op := Op.move (Operand.tmp 8), type := 42, pos := _, after := #[], guard := none }) (v := .int .i64 er) rfl (by kernel_rfl) (by kernel_rfl) (by kernel_rfl) (fun _ _ _ h => h) (Or.inl ⟨by rfl, fun w' hw => by go_simp⟩) hHeld ?_
  simp only [Act.put, List.setIfInBounds_toArray, List.set_cons_zero, List.set_cons_succ]
  refine wpAnyH_take (i := 3) (oi := { dst := some 70, op := Op.binOp BinOp.eql 42 (Operand.tmp 69) (Operand.const (Value.int IntKind.i64 0)) 42, type := 4, pos := _, after := #[{ on := 2, ground := Ground.data }], guard := none }) (v := .bool false) rfl (by kernel_rfl) (by kernel_rfl) (by kernel_rfl) (fun _ _ _ h => h) (Or.inl ⟨by rfl, fun w' hw => by go_simp⟩) hHeld ?_
  simp only [Act.put, List.setIfInBounds_toArray, List.set_cons_zero, List.set_cons_succ]
  refine wpAnyH_take (i := 4) (oi := { dst := some 71, op := Op.move (Operand.tmp 70), type := 4, pos := _, after := #[{ on := 3, ground := Ground.data }], guard := none }) (v := .bool false) rfl (by kernel_rfl) (by kernel_rfl) (by kernel_rfl) (fun _ _ _ h => h) (Or.inl ⟨by rfl, fun w' hw => by go_simp⟩) hHeld ?_
  simp only [Act.put, List.setIfInBounds_toArray, List.set_cons_zero, List.set_cons_succ]
  refine wpAnyH_take (i := 5) (oi := { dst := some 72, op := Op.move (Operand.tmp 7), type := 30, pos := _, after := #[{ on := 4, ground := Ground.guard }, { on := 12, ground := Ground.gcOnly Departure.lateStores }], guard := some (4, true) }) (v := undef) rfl (by kernel_rfl) (by kernel_rfl) (by kernel_rfl) (fun _ _ _ h => h) (Or.inr ⟨by rfl, rfl⟩) hHeld ?_
  simp only [Act.put, List.setIfInBounds_toArray, List.set_cons_zero, List.set_cons_succ]
  refine wpAnyH_take (i := 6) (oi := { dst := some 73, op := Op.convert 30 9 (Operand.tmp 72), type := 9, pos := _, after := #[{ on := 5, ground := Ground.data }, { on := 4, ground := Ground.guard }, { on := 12, ground := Ground.gcOnly Departure.lateStores }], guard := some (4, true) }) (v := undef) rfl (by kernel_rfl) (by kernel_rfl) (by kernel_rfl) (fun _ _ _ h => h) (Or.inr ⟨by rfl, rfl⟩) hHeld ?_
  simp only [Act.put, List.setIfInBounds_toArray, List.set_cons_zero, List.set_cons_succ]
  refine wpAnyH_take (i := 7) (oi := { dst := some 74, op := Op.move (Operand.tmp 0), type := 30, pos := _, after := #[{ on := 4, ground := Ground.guard }, { on := 12, ground := Ground.gcOnly Departure.lateStores }], guard := some (4, true) }) (v := undef) rfl (by kernel_rfl) (by kernel_rfl) (by kernel_rfl) (fun _ _ _ h => h) (Or.inr ⟨by rfl, rfl⟩) hHeld ?_
  simp only [Act.put, List.setIfInBounds_toArray, List.set_cons_zero, List.set_cons_succ]
  refine wpAnyH_take (i := 8) (oi := { dst := some 75, op := Op.convert 30 9 (Operand.tmp 74), type := 9, pos := _, after := #[{ on := 7, ground := Ground.data }, { on := 4, ground := Ground.guard }, { on := 12, ground := Ground.gcOnly Departure.lateStores }], guard := some (4, true) }) (v := undef) rfl (by kernel_rfl) (by kernel_rfl) (by kernel_rfl) (fun _ _ _ h => h) (Or.inr ⟨by rfl, rfl⟩) hHeld ?_
  simp only [Act.put, List.setIfInBounds_toArray, List.set_cons_zero, List.set_cons_succ]
  refine wpAnyH_take (i := 9) (oi := { dst := some 76, op := Op.binOp BinOp.eql 9 (Operand.tmp 73) (Operand.tmp 75) 9, type := 4, pos := _, after := #[{ on := 6, ground := Ground.data }, { on := 8, ground := Ground.data }, { on := 4, ground := Ground.guard }, { on := 12, ground := Ground.gcOnly Departure.lateStores }], guard := some (4, true) }) (v := undef) rfl (by kernel_rfl) (by kernel_rfl) (by kernel_rfl) (fun _ _ _ h => h) (Or.inr ⟨by rfl, rfl⟩) hHeld ?_
  simp only [Act.put, List.setIfInBounds_toArray, List.set_cons_zero, List.set_cons_succ]
  refine wpAnyH_take (i := 10) (oi := { dst := some 77, op := Op.pick (Operand.tmp 71) (Operand.tmp 76) (Operand.const (Value.bool false)), type := 4, pos := _, after := #[{ on := 4, ground := Ground.data }, { on := 9, ground := Ground.data }, { on := 12, ground := Ground.gcOnly Departure.lateStores }], guard := none }) (v := .bool false) rfl (by kernel_rfl) (by kernel_rfl) (by kernel_rfl) (fun _ _ _ h => h) (Or.inl ⟨by rfl, fun w' hw => by go_simp⟩) hHeld ?_
  simp only [Act.put, List.setIfInBounds_toArray, List.set_cons_zero, List.set_cons_succ]
  refine wpAnyH_ready (rs := [11]) (by kernel_rfl) (by simp) ?_
  refine AllReadyH.cons (o := { dst := none, op := Op.store 52 (Operand.tmp 2) (Operand.tmp 67), type := 0, pos := _, after := #[{ on := 0, ground := Ground.data }, { on := 4, ground := Ground.chain }, { on := 0, ground := Ground.phase }, { on := 1, ground := Ground.textOnly Departure.lateStores }, { on := 2, ground := Ground.textOnly Departure.lateStores }, { on := 3, ground := Ground.textOnly Departure.lateStores }, { on := 4, ground := Ground.textOnly Departure.lateStores }, { on := 5, ground := Ground.textOnly Departure.lateStores }, { on := 6, ground := Ground.textOnly Departure.lateStores }, { on := 7, ground := Ground.textOnly Departure.lateStores }, { on := 8, ground := Ground.textOnly Departure.lateStores }, { on := 9, ground := Ground.textOnly Departure.lateStores }, { on := 10, ground := Ground.textOnly Departure.lateStores }], guard := none }) rfl (fun K hK => ?_) AllReadyH.nil
  refine step_store_rec rfl (.tmp 2) (.tmp 67) rfl w.heap.size (k : Nat) 0 0 none 0 0 (Q : Nat) rfl rfl hA6.drew ?_
  have hH2 : (fun w' => w'.cell? ⟨w.heap.size + 1, 0, none⟩ = some (.int .i64 (k : Nat)) ∧ w'.cell? ⟨w.heap.size + 1, 1, none⟩ = some (.int .i64 0) ∧ w'.cell? ⟨w.heap.size + 1, 2, none⟩ = some (.int .i64 0) ∧ w'.cell? ⟨w.heap.size + 1, 3, none⟩ = some (.slice none 0 0) ∧ w'.cell? ⟨w.heap.size + 1, 4, none⟩ = some (.int .i64 (Q : Nat))) (((((w6.drew.setCell ⟨w.heap.size, 0, none⟩ (.int .i64 (k : Nat))).setCell ⟨w.heap.size, 1, none⟩ (.int .i64 0)).setCell ⟨w.heap.size, 2, none⟩ (.int .i64 0)).setCell ⟨w.heap.size, 3, none⟩ (.slice none 0 0)).setCell ⟨w.heap.size, 4, none⟩ (.int .i64 (Q : Nat))) := (hN6.drew.setOthers hne (k : Nat) 0 0 (.slice none 0 0) (Q : Nat)).held
  refine hK.out _ _ hH2 (fun _ => ?_)
  clear hK K
  simp only [Act.put]
  refine wpAnyH_take (i := 12) (oi := { dst := some 3, op := Op.assign (Operand.tmp 68), type := 2, pos := _, after := #[{ on := 1, ground := Ground.data }, { on := 11, ground := Ground.chain }, { on := 0, ground := Ground.phase }, { on := 1, ground := Ground.phase }, { on := 2, ground := Ground.textOnly Departure.lateStores }, { on := 3, ground := Ground.textOnly Departure.lateStores }, { on := 4, ground := Ground.textOnly Departure.lateStores }, { on := 5, ground := Ground.textOnly Departure.lateStores }, { on := 6, ground := Ground.textOnly Departure.lateStores }, { on := 7, ground := Ground.textOnly Departure.lateStores }, { on := 8, ground := Ground.textOnly Departure.lateStores }, { on := 9, ground := Ground.textOnly Departure.lateStores }, { on := 10, ground := Ground.textOnly Departure.lateStores }, { on := 11, ground := Ground.phase }], guard := none }) (v := .int .i64 P) rfl (by kernel_rfl) (by kernel_rfl) (by kernel_rfl) (fun _ _ _ h => h) (Or.inl ⟨by rfl, fun w' hw => by go_simp⟩) hH2 ?_
  simp only [Act.put, List.setIfInBounds_toArray, List.set_cons_zero, List.set_cons_succ]
  refine wpAnyH_take (i := 13) (oi := { dst := some 4, op := Op.assign (Operand.tmp 77), type := 4, pos := _, after := #[{ on := 10, ground := Ground.data }, { on := 12, ground := Ground.chain }, { on := 0, ground := Ground.phase }, { on := 1, ground := Ground.phase }, { on := 2, ground := Ground.phase }, { on := 3, ground := Ground.phase }, { on := 4, ground := Ground.phase }, { on := 5, ground := Ground.phase }, { on := 6, ground := Ground.phase }, { on := 7, ground := Ground.phase }, { on := 8, ground := Ground.phase }, { on := 9, ground := Ground.phase }, { on := 10, ground := Ground.phase }, { on := 11, ground := Ground.phase }, { on := 12, ground := Ground.phase }], guard := none }) (v := .bool false) rfl (by kernel_rfl) (by kernel_rfl) (by kernel_rfl) (fun _ _ _ h => h) (Or.inl ⟨by rfl, fun w' hw => by go_simp⟩) hH2 ?_
  simp only [Act.put, List.setIfInBounds_toArray, List.set_cons_zero, List.set_cons_succ]
  refine wpAnyH_done (by kernel_rfl) ?_ _
  refine NoPanic.normal ?_
  have hcU := hA6.drew.setAll (k : Nat) 0 0 (.slice none 0 0) (Q : Nat)
  have hbU : Below w.heap.size w (((((w6.drew.setCell ⟨w.heap.size, 0, none⟩ (.int .i64 (k : Nat))).setCell ⟨w.heap.size, 1, none⟩ (.int .i64 0)).setCell ⟨w.heap.size, 2, none⟩ (.int .i64 0)).setCell ⟨w.heap.size, 3, none⟩ (.slice none 0 0)).setCell ⟨w.heap.size, 4, none⟩ (.int .i64 (Q : Nat))) := ((((hB6.drew.setCell (Nat.le_refl _) _).setCell (Nat.le_refl _) _).setCell (Nat.le_refl _) _).setCell (Nat.le_refl _) _).setCell (Nat.le_refl _) _
  have hDU : Bs (((((w6.drew.setCell ⟨w.heap.size, 0, none⟩ (.int .i64 (k : Nat))).setCell ⟨w.heap.size, 1, none⟩ (.int .i64 0)).setCell ⟨w.heap.size, 2, none⟩ (.int .i64 0)).setCell ⟨w.heap.size, 3, none⟩ (.slice none 0 0)).setCell ⟨w.heap.size, 4, none⟩ (.int .i64 (Q : Nat))) (.slice none 0 0) [] := Bs.nil _
  clear hH2
  generalize (((((w6.drew.setCell ⟨w.heap.size, 0, none⟩ (.int .i64 (k : Nat))).setCell ⟨w.heap.size, 1, none⟩ (.int .i64 0)).setCell ⟨w.heap.size, 2, none⟩ (.int .i64 0)).setCell ⟨w.heap.size, 3, none⟩ (.slice none 0 0)).setCell ⟨w.heap.size, 4, none⟩ (.int .i64 (Q : Nat))) = U at hcU hbU hDU ⊢
  obtain ⟨c0, c1, c2, c3, c4, -, -, -, -, -, -⟩ := hcU
  clear hA6 hN6 hB6 hHeld hbs hv6 hD6
  go_wp2_with fail
  refine bodyPost_ret (v := .tuple #[.agg #[.int .i64 (k : Nat), .int .i64 0, .int .i64 0, .slice none 0 0, .int .i64 (Q : Nat)], .int .i64 P, .bool false]) (by simp [results, Tryz.results81, go_sem, c0, c1, c2, c3, c4]) rfl ⟨_, rfl, hDU, (fun j hj => by cases hj), hbU⟩



end Go.Proofs.YtjhbljkoapbkfaaGreat
