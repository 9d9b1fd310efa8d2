/- Contracts: the document's Bytes of a record. -/
import Derived.Test.YtcfmadgehpmboaaR5
import Derived.Test.YtcfmadgehpmboaaR2
import Derived.Deep.RegionHeld3
import Derived.Deep.RegionHeldLaw
set_option linter.unusedSimpArgs false
set_option linter.unusedVariables false
namespace Go.Proofs.Ytcfmadgehpmboaa
open Go.RowKit Go.Attic

def slLen : Value → Nat
  | .slice _ n _ => n
  | _ => 0

set_option maxRecDepth 100000 in
set_option maxHeartbeats 400000 in
theorem rbytes_arg (p k b o m : Int) (v : Value) (l : List Nat) (w : World) (hv : Bs w v l) (h : placeB p = false) :
    Calls Try.prog 10 #[.int .i64 p, .agg #[.int .i64 k, .int .i64 b, .int .i64 o, v, .int .i64 m]] w (NewBsE w [] 1) := by
  obtain ⟨ao, cap, rfl, -⟩ := id hv
  by_cases h1 : p < 0
  · clear h
    go_enter Try.func10, Try.ntmps10
    go_wp2_with fail
    go_ret2
    exact ⟨_, rfl, World.ownsRow_nil _ _ _ _, (Below.refl _ w).alloc (Nat.le_refl _) _⟩
  · have h2 : 2305843009213693952 < p := by simp [placeB] at h; omega
    clear h
    go_enter Try.func10, Try.ntmps10
    go_wp2_with fail
    go_ret2
    exact ⟨_, rfl, World.ownsRow_nil _ _ _ _, (Below.refl _ w).alloc (Nat.le_refl _) _⟩

set_option maxRecDepth 100000 in
set_option maxHeartbeats 400000 in
theorem rbytes_rec (p k b o m : Int) (v : Value) (l : List Nat) (w : World) (hv : Bs w v l) (hlen : l.length ≤ 140737488355328) (h : placeB p = true) (h2 : chkR k b o m l.length ≠ 0) :
    Calls Try.prog 10 #[.int .i64 p, .agg #[.int .i64 k, .int .i64 b, .int .i64 o, v, .int .i64 m]] w (NewBsE w [] (chkR k b o m l.length)) := by
  obtain ⟨ao, cap, rfl, -⟩ := id hv
  have hc := fun w => rcheck_any k b o m l.length cap ao w hlen
  generalize chkR k b o m l.length = q at *
  have hq : (q != 0) = true := by simp [h2]
  have h3 : 0 ≤ p ∧ p ≤ 2305843009213693952 := by simpa [placeB] using h
  clear h2 h
  obtain ⟨h4, h5⟩ := h3
  go_enter Try.func10, Try.ntmps10
  go_wp2_with (go_at_call 14; refine (hc _).mono ?_; rintro e w1 ⟨rfl, hb1⟩)
  go_ret2
  exact ⟨_, rfl, World.ownsRow_nil _ _ _ _, ((Below.refl _ w).alloc (Nat.le_refl _) _).trans (hb1.mono (by simp))⟩

theorem RecAt.below {w w' : World} {g B : Nat} {k b o : Int} {v : Value} {m : Int} (h : RecAt w g k b o v m) (hb : Below B w w') (hB : g < B) : RecAt w' g k b o v m := by
  refine ⟨?_, ?_, ?_, ?_, ?_, ?_, ?_, ?_, ?_, ?_, Nat.lt_of_lt_of_le h.lt hb.size⟩
  · rw [hb.cell (p := ⟨g, 0, none⟩) hB]; exact h.c0
  · rw [hb.cell (p := ⟨g, 1, none⟩) hB]; exact h.c1
  · rw [hb.cell (p := ⟨g, 2, none⟩) hB]; exact h.c2
  · rw [hb.cell (p := ⟨g, 3, none⟩) hB]; exact h.c3
  · rw [hb.cell (p := ⟨g, 4, none⟩) hB]; exact h.c4
  · rw [hb.frozen (p := ⟨g, 0, none⟩) hB]; exact h.f0
  · rw [hb.frozen (p := ⟨g, 1, none⟩) hB]; exact h.f1
  · rw [hb.frozen (p := ⟨g, 2, none⟩) hB]; exact h.f2
  · rw [hb.frozen (p := ⟨g, 3, none⟩) hB]; exact h.f3
  · rw [hb.frozen (p := ⟨g, 4, none⟩) hB]; exact h.f4

/-- What stands while the document's bytes are laid: the record in its block, the row behind it. -/
structure Rm (w w1 : World) (k b o : Int) (vr : Value) (m : Int) (v : Value) (X : List Nat) : Prop where
  rcd : RecAt w1 w.heap.size k b o vr m
  own : w1.ownsRow (w.heap.size + 1) 5 1 v X.length (cellsB X)
  bel : Below w.heap.size w w1
  lt : w.heap.size + 1 ≤ w1.heap.size
theorem Rm.go {w w1 w2 : World} {k b o m : Int} {vr v v' : Value} {X Y : List Nat} (h : Rm w w1 k b o vr m v X) (hb : Below (w.heap.size + 1) w1 w2) (ho : w2.ownsRow (w.heap.size + 1) 5 1 v' Y.length (cellsB Y)) : Rm w w2 k b o vr m v' Y :=
  ⟨h.rcd.below hb (Nat.lt_succ_self _), ho, h.bel.trans (hb.mono (Nat.le_succ _)), Nat.le_trans h.lt hb.size⟩
theorem Rm.drew {w w1 : World} {k b o m : Int} {vr v : Value} {X : List Nat} (h : Rm w w1 k b o vr m v X) : Rm w w1.drew k b o vr m v X := h.go (Below.refl _ _).drew (World.ownsRow.drew h.own)
theorem Rm.alloc {w w1 : World} {k b o m : Int} {vr v : Value} {X : List Nat} (h : Rm w w1 k b o vr m v X) (x : Obj) : Rm w (w1.alloc x) k b o vr m v X := h.go ((Below.refl _ _).alloc h.lt x) (h.own.alloc _)
theorem Rm.grown {w w1 w2 : World} {k b o m : Int} {vr v v' : Value} {X Y : List Nat} (h : Rm w w1 k b o vr m v X) (ho : w2.ownsRow (w.heap.size + 1) 5 1 v' (X.length + Y.length) (cellsB (X ++ Y))) (hg : w1.grownBy w2 v.ownBlock) : Rm w w2 k b o vr m v' (X ++ Y) :=
  h.go ((Below.refl _ _).grown hg h.lt (owns_lt h.own)) (by rw [List.length_append]; exact ho)
theorem Rm.held {w w1 : World} {k b o m : Int} {vr v : Value} {X : List Nat} (h : Rm w w1 k b o vr m v X) : w1.cell? ⟨w.heap.size, 2, none⟩ = some (.int .i64 o) ∧ w1.cell? ⟨w.heap.size, 3, none⟩ = some vr := ⟨h.rcd.c2, h.rcd.c3⟩
theorem Rm.num {w w1 : World} {k b o m : Int} {vr v : Value} {X : List Nat} (h : Rm w w1 k b o vr m v X) (n many : Nat) (hn : n < 2 ^ 64) (hm : many ≤ 8) (hl : X.length ≤ 1000) :
    Calls Try.prog 25 #[v, .int .u64 n, .int .i64 many] w1 fun e w2 => ∃ v', e = .returned v' ∧ Rm w w2 k b o vr m v' (X ++ numN many n) := by
  refine (rnum_own (w.heap.size + 1) v X n many w1 h.own h.lt hn hm hl).mono ?_
  rintro e w2 ⟨v', rfl, ho, hb, -⟩
  exact ⟨v', rfl, h.go hb (by rw [List.length_append, numN_length]; exact ho)⟩

set_option maxRecDepth 100000 in
set_option maxHeartbeats 400000 in
theorem rbytes_P (p b o : Nat) (l : List Nat) (v : Value) (w : World) (hv : Bs w v l) (hp : p ≤ 2305843009213693952) (hb : b < 2048) (ho : o < 256) (h1 : 1 ≤ l.length) (h44 : l.length ≤ 44) (hok : chkR 1 b o 0 l.length = 0) :
    Calls Try.prog 10 #[.int .i64 (p : Nat), .agg #[.int .i64 1, .int .i64 (b : Nat), .int .i64 (o : Nat), v, .int .i64 0]] w (NewBsE w (sealN (bodyR p 1 b o l)) 0) := by
  obtain ⟨i0, hi, hz0, hz1, hz2⟩ := info_parts Try.info5
  obtain ⟨ao, cap, rfl, -, -, -, -⟩ := id hv
  have hc := fun w => rcheck_any 1 (b : Nat) (o : Nat) 0 l.length cap ao w (by omega)
  rw [hok] at hc
  clear hok
  have hR0 := RecAt.new w 1 (b : Nat) (o : Nat) (.slice ao l.length cap) 0
  have hwp : IntKind.u64.wrap (p : Int) = p := wrap_u64 _ (by omega)
  have hwq : IntKind.u64.wrap (b : Int) = b := wrap_u64 _ (by omega)
  go_enter Try.func10, Try.ntmps10
  go_wp2_with fail
  refine (hc _).mono ?_
  rintro e w1 ⟨rfl, hb1⟩
  have z1 : w.heap.size + 1 ≤ w1.heap.size := by have := hb1.size; simpa using this
  have hR1 := hR0.mono hb1
  have B1 : Below w.heap.size w w1 := ((Below.refl _ w).alloc (Nat.le_refl _) _).trans (hb1.mono (by simp))
  have o1 : (w1.alloc (.cells #[.int .u8 1, .int .u8 (l.length : Nat)] 5)).ownsRow (w.heap.size + 1) 5 1 (.slice (some ⟨w1.heap.size, 0, none⟩) 2 2) 2 (cellsB [1, l.length]) := World.ownsRow_lit w1 #[.int .u8 1, .int .u8 (l.length : Nat)] 2 z1 (by decide) rfl
  have hm0 : Rm w (w1.alloc (.cells #[.int .u8 1, .int .u8 (l.length : Nat)] 5)) 1 (b : Nat) (o : Nat) (.slice ao l.length cap) 0 (.slice (some ⟨w1.heap.size, 0, none⟩) 2 2) [1, l.length] := ⟨hR1.alloc _, o1, B1.alloc B1.size _, by simp; omega⟩
  clear hb1 hR0
  obtain ⟨c0, c1, c2, c3, c4, -, -, -, -, -, -⟩ := hR1
  go_wp2_with fail
  refine (hm0.num p 8 (by omega) (by decide) (by simp)).mono ?_
  rintro e w2 ⟨v2, rfl, hm1⟩
  clear hm0 o1 c0 c1 c2 c3 c4
  obtain ⟨c0, c1, c2, c3, c4, -, -, -, -, -, -⟩ := hm1.rcd
  go_wp2_with fail
  refine (hm1.num b 4 (by omega) (by decide) (by simp [numN_length])).mono ?_
  rintro e w3 ⟨v3, rfl, hm2⟩
  clear hm1 c0 c1 c2 c3 c4
  obtain ⟨c0, c1, c2, c3, c4, -, -, -, -, -, -⟩ := hm2.rcd
  go_wp2_with fail
  obtain ⟨X, hX⟩ : ∃ X, X = [1, l.length] ++ numN 8 p ++ numN 4 b := ⟨_, rfl⟩
  rw [← hX] at hm2
  have hlX : X.length = 14 := by rw [hX]; simp [numN_length]
  have HX := hide hX
  have HlX := hide hlX
  have hd := hm2.drew
  have hde := (hm2.alloc (.cells #[.int .u8 (IntKind.u8.wrap (o : Int)), .int .u8 0] 5)).drew
  have hbo : Bs (w3.alloc (.cells #[.int .u8 (IntKind.u8.wrap (o : Int)), .int .u8 0] 5)).drew (.slice (some ⟨w3.heap.size, 0, none⟩) 2 2) [(o : Nat), 0] := (Bs.lit _ 5 [(o : Nat), 0] _ (by rw [show IntKind.u8.wrap (o : Int) = o by rw [IntKind.wrap_u8]; omega]; rfl) (by simp <;> omega)).drew
  have hq1 : X.length + [(o : Nat), 0].length ≤ 140737488355328 := by rw [hlX]; simp
  have hq2 : (X ++ [(o : Nat), 0]).length + l.length ≤ 140737488355328 := by rw [List.length_append, hlX]; simp <;> omega
  clear hX hlX hm2 c0 c1 c2 c3 c4
  go_region_held_law (fun w' => w'.cell? ⟨w.heap.size, 2, none⟩ = some (.int .i64 (o : Nat)) ∧ w'.cell? ⟨w.heap.size, 3, none⟩ = some (.slice ao l.length cap)) (first | exact hd.held | exact hde.held | exact hm5.held | exact hm6.held)
    (first
    | (refine step_append_bs rfl (.tmp 43) (.tmp 47) 22 rfl (w.heap.size + 1) 5 i0 (.int .u8 0) Try.underlying22 hi hz0 hz1 hz2 rfl _ _ X rfl hde.own _ [(o : Nat), 0] rfl hbo hq1 hde.lt ?_; intro v5 w5 ho5 hg5; have hm5 := hde.grown ho5 hg5; clear ho5 hg5)
    | (refine step_append_bs rfl (.tmp 48) (.tmp 50) 22 rfl (w.heap.size + 1) 5 i0 (.int .u8 0) Try.underlying22 hi hz0 hz1 hz2 rfl _ _ (X ++ [(o : Nat), 0]) rfl hm5.own _ l rfl (hv.mono hm5.bel) hq2 hm5.lt ?_; intro v6 w6 ho6 hg6; have hm6 := hm5.grown ho6 hg6; clear ho6 hg6))
  obtain ⟨Y, hY⟩ : ∃ Y, Y = X ++ [(o : Nat), 0] ++ l := ⟨_, rfl⟩
  rw [← hY] at hm6
  have hlY : Y.length = 16 + l.length := by rw [hY, List.length_append, List.length_append, HlX.out]; rfl
  have hY2 : Y ++ zerosL (44 - l.length) = bodyR p 1 b (o : Nat) l := by
    rw [hY, HX.out]
    unfold bodyR
    simp only [List.append_assoc, List.nil_append]
  have hx : ∀ y ∈ Y ++ zerosL (44 - l.length), y < 256 := by
    rw [hY2]
    exact bodyR_lt _ _ _ _ _ (by omega) (by omega) (by first | omega | simp) hv.lt
  have HY := hide hY2
  have HlY := hide hlY
  have hm7 : Rm w w6 1 (b : Nat) (o : Nat) (.slice ao l.length cap) 0 v6 (Y ++ zerosL 0) := by rw [show zerosL 0 = [] from rfl, List.append_nil]; exact hm6
  clear hY hlY hY2 hm5 hm6 hde hd hbo hq1 hq2 HX HlX hc B1 z1
  go_simp
  go_wp2_with fail
  simp only [show IntKind.u8.wrap (o : Int) = (o : Int) by rw [IntKind.wrap_u8]; omega]
  go_loopw [7] (fun v wr => ∃ j : Nat, j ≤ 44 - l.length ∧ Rm w wr 1 (b : Nat) (o : Nat) (.slice ao l.length cap) 0 v (Y ++ zerosL j)) (fun v _ => 60 - slLen v)
  case atStart => exact ⟨0, by omega, hm7⟩
  case round =>
    clear hm7
    obtain ⟨j, hj, hm⟩ := hrel
    have hlen : (Y ++ zerosL j).length = 16 + l.length + j := by rw [List.length_append, HlY.out, zerosL_length]
    have hon := hm.own
    rw [hlen] at hon
    obtain ⟨ao1, cap1, rfl, hcap, -⟩ := owns_form hon
    clear hon
    have Hlen := hide hlen
    clear hlen
    by_cases hjn : j < 44 - l.length
    · have hma := hm.alloc (.cells #[.int .u8 0] 5)
      have hq1 : (Y ++ zerosL j).length + [0].length ≤ 140737488355328 := by rw [Hlen.out]; simp <;> omega
      go_wp2_with (at_builtin; refine wpList_append_bs _ rfl (.tmp 55) (.tmp 56) 22 rfl (w.heap.size + 1) 5 i0 (.int .u8 0) Try.underlying22 hi hz0 hz1 hz2 rfl _ _ (Y ++ zerosL j) rfl hma.own _ [0] rfl (Bs.one _ _ _ _ rfl (by decide)) hq1 hma.lt ?_; intro v' wy hoy hgy)
      have hm8 := hma.grown hoy hgy
      rw [List.append_assoc, ← zerosL_succ] at hm8
      have hs8 : slLen v' = 16 + l.length + (j + 1) := by
        have h8 := hm8.own
        rw [List.length_append, HlY.out, zerosL_length] at h8
        obtain ⟨_, _, rfl, -, -⟩ := owns_form h8
        rfl
      clear hoy hgy hma hm hq1
      go_roundw
      case rel => exact ⟨j + 1, by omega, hm8⟩
      case measure => simp only [slLen] at hs8 ⊢; omega
    · obtain rfl : j = 44 - l.length := by omega
      have hbs := Bs.of_owns hm.own hx
      have hs := sumN_lt (Y ++ zerosL (44 - l.length))
      have hq1 : (Y ++ zerosL (44 - l.length)).length = 60 := by rw [Hlen.out]; omega
      have Hq1 := hide hq1
      clear hq1
      go_wp2_with fail
      refine (rsum_any _ _ _ hbs (by rw [Hq1.out]; omega)).mono ?_
      rintro e wa ⟨rfl, rfl⟩
      go_wp2_with fail
      refine (hm.num _ 4 (by omega) (by decide) (by rw [Hq1.out]; omega)).mono ?_
      rintro e wb ⟨vx, rfl, hm9⟩
      have O1 : wb.ownsRow (w.heap.size + 1) 5 1 vx (sealN (bodyR p 1 b (o : Nat) l)).length (cellsB (sealN (bodyR p 1 b (o : Nat) l))) := by rw [← HY.out]; exact hm9.own
      have O := hide O1
      have B := hm9.bel
      clear O1
      clear hm9 hm hbs
      go_wp2_with fail
      go_ret2
      refine ⟨_, rfl, owns_base O.out (Nat.le_succ _), B⟩

set_option maxRecDepth 100000 in
set_option maxHeartbeats 400000 in
theorem rbytes_C (p m : Nat) (v : Value) (w : World) (hv : Bs w v []) (hp : p ≤ 2305843009213693952) (hm : m ≤ 65536) (hok : chkR 2 0 0 m 0 = 0) :
    Calls Try.prog 10 #[.int .i64 (p : Nat), .agg #[.int .i64 2, .int .i64 0, .int .i64 0, v, .int .i64 (m : Nat)]] w (NewBsE w (sealN (bodyR p 2 m 0 [])) 0) := by
  obtain ⟨i0, hi, hz0, hz1, hz2⟩ := info_parts Try.info5
  obtain ⟨ao, cap, rfl, -, -, -, -⟩ := id hv
  simp only [List.length_nil] at hv ⊢
  have hc := fun w => rcheck_any 2 0 0 (m : Nat) 0 cap ao w (by omega)
  rw [hok] at hc
  clear hok
  have hR0 := RecAt.new w 2 0 0 (.slice ao 0 cap) (m : Nat)
  have hwp : IntKind.u64.wrap (p : Int) = p := wrap_u64 _ (by omega)
  have hwq : IntKind.u64.wrap (m : Int) = m := wrap_u64 _ (by omega)
  go_enter Try.func10, Try.ntmps10
  go_wp2_with fail
  refine (hc _).mono ?_
  rintro e w1 ⟨rfl, hb1⟩
  have z1 : w.heap.size + 1 ≤ w1.heap.size := by have := hb1.size; simpa using this
  have hR1 := hR0.mono hb1
  have B1 : Below w.heap.size w w1 := ((Below.refl _ w).alloc (Nat.le_refl _) _).trans (hb1.mono (by simp))
  have o1 : (w1.alloc (.cells #[.int .u8 2, .int .u8 0] 5)).ownsRow (w.heap.size + 1) 5 1 (.slice (some ⟨w1.heap.size, 0, none⟩) 2 2) 2 (cellsB [2, 0]) := World.ownsRow_lit w1 #[.int .u8 2, .int .u8 0] 2 z1 (by decide) rfl
  have hm0 : Rm w (w1.alloc (.cells #[.int .u8 2, .int .u8 0] 5)) 2 0 0 (.slice ao 0 cap) (m : Nat) (.slice (some ⟨w1.heap.size, 0, none⟩) 2 2) [2, 0] := ⟨hR1.alloc _, o1, B1.alloc B1.size _, by simp; omega⟩
  clear hb1 hR0
  obtain ⟨c0, c1, c2, c3, c4, -, -, -, -, -, -⟩ := hR1
  go_wp2_with fail
  refine (hm0.num p 8 (by omega) (by decide) (by simp)).mono ?_
  rintro e w2 ⟨v2, rfl, hm1⟩
  clear hm0 o1 c0 c1 c2 c3 c4
  obtain ⟨c0, c1, c2, c3, c4, -, -, -, -, -, -⟩ := hm1.rcd
  go_wp2_with fail
  refine (hm1.num m 4 (by omega) (by decide) (by simp [numN_length])).mono ?_
  rintro e w3 ⟨v3, rfl, hm2⟩
  clear hm1 c0 c1 c2 c3 c4
  obtain ⟨c0, c1, c2, c3, c4, -, -, -, -, -, -⟩ := hm2.rcd
  go_wp2_with fail
  obtain ⟨X, hX⟩ : ∃ X, X = [2, 0] ++ numN 8 p ++ numN 4 m := ⟨_, rfl⟩
  rw [← hX] at hm2
  have hlX : X.length = 14 := by rw [hX]; simp [numN_length]
  have HX := hide hX
  have HlX := hide hlX
  have hd := hm2.drew
  have hde := (hm2.alloc (.cells #[.int .u8 0, .int .u8 0] 5)).drew
  have hbo : Bs (w3.alloc (.cells #[.int .u8 0, .int .u8 0] 5)).drew (.slice (some ⟨w3.heap.size, 0, none⟩) 2 2) [0, 0] := (Bs.lit _ 5 [0, 0] _ rfl (by simp <;> omega)).drew
  have hq1 : X.length + [0, 0].length ≤ 140737488355328 := by rw [hlX]; simp
  have hq2 : (X ++ [0, 0]).length + 0 ≤ 140737488355328 := by rw [List.length_append, hlX]; simp <;> omega
  clear hX hlX hm2 c0 c1 c2 c3 c4
  go_region_held_law (fun w' => w'.cell? ⟨w.heap.size, 2, none⟩ = some (.int .i64 0) ∧ w'.cell? ⟨w.heap.size, 3, none⟩ = some (.slice ao 0 cap)) (first | exact hd.held | exact hde.held | exact hm5.held | exact hm6.held)
    (first
    | (refine step_append_bs rfl (.tmp 43) (.tmp 47) 22 rfl (w.heap.size + 1) 5 i0 (.int .u8 0) Try.underlying22 hi hz0 hz1 hz2 rfl _ _ X rfl hde.own _ [0, 0] rfl hbo hq1 hde.lt ?_; intro v5 w5 ho5 hg5; have hm5 := hde.grown ho5 hg5; clear ho5 hg5)
    | (refine step_append_bs rfl (.tmp 48) (.tmp 50) 22 rfl (w.heap.size + 1) 5 i0 (.int .u8 0) Try.underlying22 hi hz0 hz1 hz2 rfl _ _ (X ++ [0, 0]) rfl hm5.own _ [] rfl (hv.mono hm5.bel) hq2 hm5.lt ?_; intro v6 w6 ho6 hg6; have hm6 := hm5.grown ho6 hg6; clear ho6 hg6))
  obtain ⟨Y, hY⟩ : ∃ Y, Y = X ++ [0, 0] ++ [] := ⟨_, rfl⟩
  rw [← hY] at hm6
  have hlY : Y.length = 16 := by rw [hY, List.length_append, List.length_append, HlX.out]; rfl
  have hY2 : Y ++ zerosL 44 = bodyR p 2 m 0 [] := by
    rw [hY, HX.out]
    unfold bodyR
    simp only [List.append_assoc, List.nil_append]
    rfl
  have hx : ∀ y ∈ Y ++ zerosL 44, y < 256 := by
    rw [hY2]
    exact bodyR_lt _ _ _ _ _ (by omega) (by omega) (by first | omega | simp) hv.lt
  have HY := hide hY2
  have HlY := hide hlY
  have hm7 : Rm w w6 2 0 0 (.slice ao 0 cap) (m : Nat) v6 (Y ++ zerosL 0) := by rw [show zerosL 0 = [] from rfl, List.append_nil]; exact hm6
  clear hY hlY hY2 hm5 hm6 hde hd hbo hq1 hq2 HX HlX hc B1 z1
  go_simp
  go_wp2_with fail
  simp only [show IntKind.u8.wrap (0 : Int) = 0 by decide]
  go_loopw [7] (fun v wr => ∃ j : Nat, j ≤ 44 ∧ Rm w wr 2 0 0 (.slice ao 0 cap) (m : Nat) v (Y ++ zerosL j)) (fun v _ => 60 - slLen v)
  case atStart => exact ⟨0, by omega, hm7⟩
  case round =>
    clear hm7
    obtain ⟨j, hj, hm⟩ := hrel
    have hlen : (Y ++ zerosL j).length = 16 + j := by rw [List.length_append, HlY.out, zerosL_length]
    have hon := hm.own
    rw [hlen] at hon
    obtain ⟨ao1, cap1, rfl, hcap, -⟩ := owns_form hon
    clear hon
    have Hlen := hide hlen
    clear hlen
    by_cases hjn : j < 44
    · have hma := hm.alloc (.cells #[.int .u8 0] 5)
      have hq1 : (Y ++ zerosL j).length + [0].length ≤ 140737488355328 := by rw [Hlen.out]; simp <;> omega
      go_wp2_with (at_builtin; refine wpList_append_bs _ rfl (.tmp 55) (.tmp 56) 22 rfl (w.heap.size + 1) 5 i0 (.int .u8 0) Try.underlying22 hi hz0 hz1 hz2 rfl _ _ (Y ++ zerosL j) rfl hma.own _ [0] rfl (Bs.one _ _ _ _ rfl (by decide)) hq1 hma.lt ?_; intro v' wy hoy hgy)
      have hm8 := hma.grown hoy hgy
      rw [List.append_assoc, ← zerosL_succ] at hm8
      have hs8 : slLen v' = 16 + (j + 1) := by
        have h8 := hm8.own
        rw [List.length_append, HlY.out, zerosL_length] at h8
        obtain ⟨_, _, rfl, -, -⟩ := owns_form h8
        rfl
      clear hoy hgy hma hm hq1
      go_roundw
      case rel => exact ⟨j + 1, by omega, hm8⟩
      case measure => simp only [slLen] at hs8 ⊢; omega
    · obtain rfl : j = 44 := by omega
      have hbs := Bs.of_owns hm.own hx
      have hs := sumN_lt (Y ++ zerosL 44)
      have hq1 : (Y ++ zerosL 44).length = 60 := by rw [Hlen.out]
      have Hq1 := hide hq1
      clear hq1
      go_wp2_with fail
      refine (rsum_any _ _ _ hbs (by rw [Hq1.out]; omega)).mono ?_
      rintro e wa ⟨rfl, rfl⟩
      go_wp2_with fail
      refine (hm.num _ 4 (by omega) (by decide) (by rw [Hq1.out]; omega)).mono ?_
      rintro e wb ⟨vx, rfl, hm9⟩
      have O1 : wb.ownsRow (w.heap.size + 1) 5 1 vx (sealN (bodyR p 2 m 0 [])).length (cellsB (sealN (bodyR p 2 m 0 []))) := by rw [← HY.out]; exact hm9.own
      have O := hide O1
      have B := hm9.bel
      clear O1
      clear hm9 hm hbs
      go_wp2_with fail
      go_ret2
      refine ⟨_, rfl, owns_base O.out (Nat.le_succ _), B⟩

theorem rbytes_yes (p k b o m : Nat) (v : Value) (l : List Nat) (w : World) (hv : Bs w v l) (hp : p ≤ 2305843009213693952) (h : okR k b o m l.length) :
    Calls Try.prog 10 #[.int .i64 (p : Nat), .agg #[.int .i64 (k : Nat), .int .i64 (b : Nat), .int .i64 (o : Nat), v, .int .i64 (m : Nat)]] w (NewBsE w (secR p k b o m l) 0) := by
  have hk := chkR_ok h
  have r := okR_range h
  rcases h with h | h
  · obtain ⟨h1, h2, h3, h4, h5, h6, h7, h8⟩ := h
    obtain rfl : k = 1 := by omega
    obtain rfl : m = 0 := by omega
    exact rbytes_P p b o l v w hv hp (by omega) (by omega) h4 h5 hk
  · obtain ⟨h1, h2, h3, h4, h5, h6⟩ := h
    obtain rfl : k = 2 := by omega
    obtain rfl : b = 0 := by omega
    obtain rfl : o = 0 := by omega
    obtain rfl : l = [] := List.eq_nil_of_length_eq_zero h6
    exact rbytes_C p m v w hv hp (by omega) hk

end Go.Proofs.Ytcfmadgehpmboaa
