/- Contracts: the document's Bytes of a super. -/
import Derived.Test.YtfjkmgfjlckmlaaSP
import Derived.Test.YtfjkmgfjlckmlaaMark
set_option linter.unusedSimpArgs false
set_option linter.unusedVariables false
namespace Go.Proofs.Ytfjkmgfjlckmlaa
open Go.RowKit Go.Attic

theorem SupAt.grown {w w' : World} {g : Nat} {r : Option Nat} {a0 a1 a2 a3 a4 a5 : Int} (h : SupAt w g a0 a1 a2 a3 a4 a5) (k : w.grownBy w' r) (hr : r ≠ some g) : SupAt w' g a0 a1 a2 a3 a4 a5 := by
  have hb := k.block g h.lt hr.symm
  refine ⟨k.cell h.c0 hr.symm, k.cell h.c1 hr.symm, k.cell h.c2 hr.symm, k.cell h.c3 hr.symm, k.cell h.c4 hr.symm, k.cell h.c5 hr.symm, ?_, ?_, ?_, ?_, ?_, ?_, Nat.lt_of_lt_of_le h.lt k.size⟩
  · rw [World.frozen?_of_block (w := w) (a := ⟨g, 0, none⟩) hb]; exact h.f0
  · rw [World.frozen?_of_block (w := w) (a := ⟨g, 1, none⟩) hb]; exact h.f1
  · rw [World.frozen?_of_block (w := w) (a := ⟨g, 2, none⟩) hb]; exact h.f2
  · rw [World.frozen?_of_block (w := w) (a := ⟨g, 3, none⟩) hb]; exact h.f3
  · rw [World.frozen?_of_block (w := w) (a := ⟨g, 4, none⟩) hb]; exact h.f4
  · rw [World.frozen?_of_block (w := w) (a := ⟨g, 5, none⟩) hb]; exact h.f5
theorem owns_off {w : World} {g : Nat} {e : TypeId} {size : Nat} {v : Value} {n : Nat} {xs : List Value} (h : w.ownsRow (g + 1) e size v n xs) : v.ownBlock ≠ some g := fun k => by have := (h.lt g k).1; omega

def slLen : Value → Nat
  | .slice _ n _ => n
  | _ => 0

theorem rnum8_yes (v : Nat) (w : World) (hv : v < 2 ^ 64) : Calls Try.prog 30 #[.int .i64 8, .int .u64 v] w (NewBs w (numN 8 v)) := rnum_yes 8 v w (by decide) (by decide) hv
theorem rnum4_yes (v : Nat) (w : World) (hv : v < 2 ^ 64) : Calls Try.prog 30 #[.int .i64 4, .int .u64 v] w (NewBs w (numN 4 v)) := rnum_yes 4 v w (by decide) (by decide) hv

set_option maxRecDepth 100000 in
set_option maxHeartbeats 400000 in
theorem rbytes_no (ep b l d x h : Int) (w : World) (kb : -9223372036854775808 ≤ b ∧ b ≤ 9223372036854775807) (k : chkS ep b l d x h ≠ 0) :
    Calls Try.prog 18 #[.agg #[.int .i64 ep, .int .i64 b, .int .i64 l, .int .i64 d, .int .i64 x, .int .i64 h]] w (NewBsE w [] (chkS ep b l d x h)) := by
  have hc := fun w => rcheck_sup ep b l d x h w kb
  generalize chkS ep b l d x h = q at *
  have hq : (q != 0) = true := by simp [k]
  clear k
  go_enter Try.func18, Try.ntmps18
  go_wp2_with (go_at_call 14; refine (hc _).mono ?_; rintro e w1 ⟨rfl, hb1⟩)
  go_ret2
  exact ⟨_, rfl, World.ownsRow_nil _ _ _ _, ((Below.refl _ w).alloc (Nat.le_refl _) _).trans (hb1.mono (by simp))⟩

set_option maxRecDepth 100000 in
set_option maxHeartbeats 4000000 in
theorem rbytes_yes (ep b l d x h : Nat) (w : World) (k : okS ep b l d x h) :
    Calls Try.prog 18 #[.agg #[.int .i64 (ep : Nat), .int .i64 (b : Nat), .int .i64 (l : Nat), .int .i64 (d : Nat), .int .i64 (x : Nat), .int .i64 (h : Nat)]] w (NewBsE w (blockL ep b l d x h) 0) := by
  have kr := okS_range k
  have hc := fun w => rcheck_sup ep b l d x h w (by omega)
  rw [chkS_ok k] at hc
  obtain ⟨i0, hi, hz0, hz1, hz2⟩ := info_parts Try.info5
  have kc := fun (w : World) (C : Array Value) (n c : Nat) => Lib.run_convert_bytes_const (P := Try.prog) w 34 5 C n c Try.underlying34 Try.underlying5
  have hw0 : IntKind.u64.wrap (ep : Int) = ep := wrap_u64 _ (by omega)
  have hw1 : IntKind.u64.wrap (b : Int) = b := wrap_u64 _ (by omega)
  have hw2 : IntKind.u64.wrap (l : Int) = l := wrap_u64 _ (by omega)
  have hw3 : IntKind.u64.wrap (d : Int) = d := wrap_u64 _ (by omega)
  have hw4 : IntKind.u64.wrap (x : Int) = x := wrap_u64 _ (by omega)
  have hw5 : IntKind.u64.wrap (h : Int) = h := wrap_u64 _ (by omega)
  have hS0 := SupAt.new w ep b l d x h
  have k0 : ep < 2 ^ 64 := by omega
  have k1 : b < 2 ^ 64 := by omega
  have k2 : l < 2 ^ 64 := by omega
  have k3 : d < 2 ^ 64 := by omega
  have k4 : x < 2 ^ 64 := by omega
  have k5 : h < 2 ^ 64 := by omega
  clear k kr
  have B0 : Below (w.heap.size + 1) (w.alloc (.cells #[.int .i64 (ep : Nat), .int .i64 (b : Nat), .int .i64 (l : Nat), .int .i64 (d : Nat), .int .i64 (x : Nat), .int .i64 (h : Nat)] 25)) (w.alloc (.cells #[.int .i64 (ep : Nat), .int .i64 (b : Nat), .int .i64 (l : Nat), .int .i64 (d : Nat), .int .i64 (x : Nat), .int .i64 (h : Nat)] 25)) := Below.refl _ _
  have z0 : w.heap.size + 1 ≤ (w.alloc (.cells #[.int .i64 (ep : Nat), .int .i64 (b : Nat), .int .i64 (l : Nat), .int .i64 (d : Nat), .int .i64 (x : Nat), .int .i64 (h : Nat)] 25)).heap.size := by simp
  go_enter Try.func18, Try.ntmps18
  go_wp2_with (go_at_call 14; refine (hc _).mono ?_; rintro e w1 ⟨rfl, hb1⟩; have hS2 := (hS0.mono hb1).alloc (.cells #[.int .u8 97, .int .u8 116, .int .u8 116, .int .u8 105, .int .u8 99, .int .u8 32, .int .u8 49, .int .u8 10] 5 (8, 9)); have hm2 : Bs (w1.alloc (.cells #[.int .u8 97, .int .u8 116, .int .u8 116, .int .u8 105, .int .u8 99, .int .u8 32, .int .u8 49, .int .u8 10] 5 (8, 9))) (.slice (some ⟨w1.heap.size, 0, none⟩) 8 8) magicL := Bs.lit w1 5 magicL #[.int .u8 97, .int .u8 116, .int .u8 116, .int .u8 105, .int .u8 99, .int .u8 32, .int .u8 49, .int .u8 10] rfl magicL_lt (8, 9); have z1 := Nat.le_trans z0 hb1.size; have B1 : Below (w.heap.size + 1) (w.alloc (.cells #[.int .i64 (ep : Nat), .int .i64 (b : Nat), .int .i64 (l : Nat), .int .i64 (d : Nat), .int .i64 (x : Nat), .int .i64 (h : Nat)] 25)) (w1.alloc (.cells #[.int .u8 97, .int .u8 116, .int .u8 116, .int .u8 105, .int .u8 99, .int .u8 32, .int .u8 49, .int .u8 10] 5 (8, 9))) := (B0.trans (hb1.mono z0)).alloc z1 _; have z2 : w.heap.size + 1 ≤ (w1.alloc (.cells #[.int .u8 97, .int .u8 116, .int .u8 116, .int .u8 105, .int .u8 99, .int .u8 32, .int .u8 49, .int .u8 10] 5 (8, 9))).heap.size := Nat.le_trans z1 (by simp); clear hb1 hS0 z0 B0; have c0 := hS2.c0; have c1 := hS2.c1; have c2 := hS2.c2; have c3 := hS2.c3; have c4 := hS2.c4; have c5 := hS2.c5)
  refine (rnum8_yes ep _ k0).mono ?_
  rintro e w10 ⟨vx, rfl, hox, hbx⟩
  have hbs := Bs.of_owns hox (numN_lt _ _)
  have hSn := hS2.mono hbx
  have zn := Nat.le_trans z2 hbx.size
  have Bn := B1.trans (hbx.mono z2)
  have hmn := hm2.mono hbx
  clear hox hm2 hS2 B1 c0 c1 c2 c3 c4 c5 z1 z2 hbx
  go_wp2_with (at_builtin; refine wpList_append_full _ rfl (.tmp 13) (.tmp 17) 34 rfl (w.heap.size + 1) 5 i0 (.int .u8 0) Try.underlying34 hi hz0 hz1 hz2 rfl ⟨w1.heap.size, 0, none⟩ 8 magicL rfl hmn _ (numN 8 ep) rfl hbs (by rw [numN_length]; omega) (by rw [numN_length]; omega) zn ?_; intro vy w11 hoy hby; have hSy := hSn.mono hby; have zy := Nat.le_trans zn hby.size; have By := Bn.trans (hby.mono zn); clear hby hSn zn Bn hbs hmn; have c0 := hSy.c0; have c1 := hSy.c1; have c2 := hSy.c2; have c3 := hSy.c3; have c4 := hSy.c4; have c5 := hSy.c5)
  refine (rnum4_yes b _ k1).mono ?_
  rintro e w12 ⟨vx, rfl, hox, hbx⟩
  have hbs := Bs.of_owns hox (numN_lt _ _)
  have hSn := hSy.mono hbx
  have zn := Nat.le_trans zy hbx.size
  have Bn := By.trans (hbx.mono zy)
  have hon := owns_below hoy hbx (Nat.le_refl _)
  clear hox hoy hSy By c0 c1 c2 c3 c4 c5 zy hbx
  go_wp2_with (at_builtin; refine wpList_append_bs _ rfl (.tmp 19) (.tmp 24) 34 rfl (w.heap.size + 1) 5 i0 (.int .u8 0) Try.underlying34 hi hz0 hz1 hz2 rfl _ _ (magicL ++ numN 8 ep) rfl hon _ (numN 4 b) rfl hbs (by simp only [numN_length]; omega) zn ?_; intro vy w13 hoy hgy; have zy := Nat.le_trans zn hgy.size; have By := Bn.grown hgy zn (owns_lt hon); have hSy := hSn.grown hgy (owns_off hon); clear hgy hSn zn Bn hbs hon; have c0 := hSy.c0; have c1 := hSy.c1; have c2 := hSy.c2; have c3 := hSy.c3; have c4 := hSy.c4; have c5 := hSy.c5)
  refine (rnum4_yes l _ k2).mono ?_
  rintro e w14 ⟨vx, rfl, hox, hbx⟩
  have hbs := Bs.of_owns hox (numN_lt _ _)
  have hSn := hSy.mono hbx
  have zn := Nat.le_trans zy hbx.size
  have Bn := By.trans (hbx.mono zy)
  have hon := owns_below hoy hbx (Nat.le_refl _)
  clear hox hoy hSy By c0 c1 c2 c3 c4 c5 zy hbx
  go_wp2_with (at_builtin; refine wpList_append_bs _ rfl (.tmp 26) (.tmp 31) 34 rfl (w.heap.size + 1) 5 i0 (.int .u8 0) Try.underlying34 hi hz0 hz1 hz2 rfl _ _ ((magicL ++ numN 8 ep) ++ numN 4 b) rfl hon _ (numN 4 l) rfl hbs (by simp only [numN_length]; omega) zn ?_; intro vy w15 hoy hgy; have zy := Nat.le_trans zn hgy.size; have By := Bn.grown hgy zn (owns_lt hon); have hSy := hSn.grown hgy (owns_off hon); clear hgy hSn zn Bn hbs hon; have c0 := hSy.c0; have c1 := hSy.c1; have c2 := hSy.c2; have c3 := hSy.c3; have c4 := hSy.c4; have c5 := hSy.c5)
  refine (rnum4_yes d _ k3).mono ?_
  rintro e w16 ⟨vx, rfl, hox, hbx⟩
  have hbs := Bs.of_owns hox (numN_lt _ _)
  have hSn := hSy.mono hbx
  have zn := Nat.le_trans zy hbx.size
  have Bn := By.trans (hbx.mono zy)
  have hon := owns_below hoy hbx (Nat.le_refl _)
  clear hox hoy hSy By c0 c1 c2 c3 c4 c5 zy hbx
  go_wp2_with (at_builtin; refine wpList_append_bs _ rfl (.tmp 33) (.tmp 38) 34 rfl (w.heap.size + 1) 5 i0 (.int .u8 0) Try.underlying34 hi hz0 hz1 hz2 rfl _ _ (((magicL ++ numN 8 ep) ++ numN 4 b) ++ numN 4 l) rfl hon _ (numN 4 d) rfl hbs (by simp only [numN_length]; omega) zn ?_; intro vy w17 hoy hgy; have zy := Nat.le_trans zn hgy.size; have By := Bn.grown hgy zn (owns_lt hon); have hSy := hSn.grown hgy (owns_off hon); clear hgy hSn zn Bn hbs hon; have c0 := hSy.c0; have c1 := hSy.c1; have c2 := hSy.c2; have c3 := hSy.c3; have c4 := hSy.c4; have c5 := hSy.c5)
  refine (rnum4_yes x _ k4).mono ?_
  rintro e w18 ⟨vx, rfl, hox, hbx⟩
  have hbs := Bs.of_owns hox (numN_lt _ _)
  have hSn := hSy.mono hbx
  have zn := Nat.le_trans zy hbx.size
  have Bn := By.trans (hbx.mono zy)
  have hon := owns_below hoy hbx (Nat.le_refl _)
  clear hox hoy hSy By c0 c1 c2 c3 c4 c5 zy hbx
  go_wp2_with (at_builtin; refine wpList_append_bs _ rfl (.tmp 40) (.tmp 45) 34 rfl (w.heap.size + 1) 5 i0 (.int .u8 0) Try.underlying34 hi hz0 hz1 hz2 rfl _ _ ((((magicL ++ numN 8 ep) ++ numN 4 b) ++ numN 4 l) ++ numN 4 d) rfl hon _ (numN 4 x) rfl hbs (by simp only [numN_length]; omega) zn ?_; intro vy w19 hoy hgy; have zy := Nat.le_trans zn hgy.size; have By := Bn.grown hgy zn (owns_lt hon); have hSy := hSn.grown hgy (owns_off hon); clear hgy hSn zn Bn hbs hon; have c0 := hSy.c0; have c1 := hSy.c1; have c2 := hSy.c2; have c3 := hSy.c3; have c4 := hSy.c4; have c5 := hSy.c5)
  refine (rnum8_yes h _ k5).mono ?_
  rintro e w20 ⟨vx, rfl, hox, hbx⟩
  have hbs := Bs.of_owns hox (numN_lt _ _)
  have hSn := hSy.mono hbx
  have zn := Nat.le_trans zy hbx.size
  have Bn := By.trans (hbx.mono zy)
  have hon := owns_below hoy hbx (Nat.le_refl _)
  clear hox hoy hSy By c0 c1 c2 c3 c4 c5 zy hbx
  go_wp2_with (at_builtin; refine wpList_append_bs _ rfl (.tmp 47) (.tmp 51) 34 rfl (w.heap.size + 1) 5 i0 (.int .u8 0) Try.underlying34 hi hz0 hz1 hz2 rfl _ _ (((((magicL ++ numN 8 ep) ++ numN 4 b) ++ numN 4 l) ++ numN 4 d) ++ numN 4 x) rfl hon _ (numN 8 h) rfl hbs (by simp only [numN_length]; omega) zn ?_; intro vy w21 hoy hgy; have zy := Nat.le_trans zn hgy.size; have By := Bn.grown hgy zn (owns_lt hon); have hSy := hSn.grown hgy (owns_off hon); clear hgy hSn zn Bn hbs hon; have c0 := hSy.c0; have c1 := hSy.c1; have c2 := hSy.c2; have c3 := hSy.c3; have c4 := hSy.c4; have c5 := hSy.c5)
  have e1 : (((((magicL ++ numN 8 ep) ++ numN 4 b) ++ numN 4 l) ++ numN 4 d) ++ numN 4 x) ++ numN 8 h = bodyL ep b l d x h := by simp only [bodyL, List.append_assoc]
  simp only [numN_length] at hoy
  rw [e1] at hoy
  have ho0 : w21.ownsRow (w.heap.size + 1) 5 1 vy (40 + 0) (cellsB (bodyL ep b l d x h ++ zerosL 0)) := by rw [show zerosL 0 = [] from rfl, List.append_nil]; exact hoy
  clear hoy e1 c0 c1 c2 c3 c4 c5 hSy
  go_loopw [5] (fun v wr => ∃ k : Nat, k ≤ 20 ∧ wr.ownsRow (w.heap.size + 1) 5 1 v (40 + k) (cellsB (bodyL ep b l d x h ++ zerosL k)) ∧ Below (w.heap.size + 1) (w.alloc (.cells #[.int .i64 (ep : Nat), .int .i64 (b : Nat), .int .i64 (l : Nat), .int .i64 (d : Nat), .int .i64 (x : Nat), .int .i64 (h : Nat)] 25)) wr ∧ w.heap.size + 1 ≤ wr.heap.size) (fun v _ => 60 - slLen v)
  case atStart => exact ⟨0, by omega, ho0, By, zy⟩
  case round =>
    clear By zy ho0
    obtain ⟨k, hk, hon, Bn, zn⟩ := hrel
    by_cases hkn : k < 20
    · obtain ⟨ao, cap, rfl, hcap, -⟩ := owns_form hon
      go_wp2_with (at_builtin; refine wpList_append_bs _ rfl (.tmp 56) (.tmp 57) 34 rfl (w.heap.size + 1) 5 i0 (.int .u8 0) Try.underlying34 hi hz0 hz1 hz2 rfl _ _ (bodyL ep b l d x h ++ zerosL k) rfl (hon.alloc _) _ [0] rfl (Bs.one _ _ _ _ rfl (by decide)) (by simp only [List.length_singleton]; omega) (by simp; omega) ?_; intro v' wy hoy hgy)
      have zy : w.heap.size + 1 ≤ wy.heap.size := Nat.le_trans zn (Nat.le_trans (by simp) hgy.size)
      have By : Below (w.heap.size + 1) (w.alloc (.cells #[.int .i64 (ep : Nat), .int .i64 (b : Nat), .int .i64 (l : Nat), .int .i64 (d : Nat), .int .i64 (x : Nat), .int .i64 (h : Nat)] 25)) wy := (Bn.alloc zn _).grown hgy (by simp; omega) (owns_lt hon)
      have hoz : wy.ownsRow (w.heap.size + 1) 5 1 v' (40 + (k + 1)) (cellsB (bodyL ep b l d x h ++ zerosL (k + 1))) := by
        rw [zerosL_succ, ← List.append_assoc]; exact hoy
      obtain ⟨ao', cap', rfl, -, -⟩ := owns_form hoz
      clear hoy hgy hon Bn
      go_roundw
      case rel => exact ⟨k + 1, by omega, hoz, By, zy⟩
      case measure => simp only [slLen]; omega
    · obtain rfl : k = 20 := by omega
      have e2 : bodyL ep b l d x h ++ zerosL 20 = sumdL ep b l d x h := rfl
      rw [e2] at hon
      clear e2
      have hbs := Bs.of_owns hon (sumdL_lt ep b l d x h)
      obtain ⟨ao, cap, rfl, hcap, -⟩ := owns_form hon
      have hs := sumN_lt (sumdL ep b l d x h)
      have hls := hide (sumdL_length ep b l d x h)
      go_wp2_with fail
      refine (rsum_any _ _ _ hbs (by rw [hls.out]; omega)).mono ?_
      rintro e wa ⟨rfl, rfl⟩
      go_wp2_with fail
      refine (rnum4_yes _ _ (by omega)).mono ?_
      rintro e wb ⟨vx, rfl, hox, hbx⟩
      have hbs2 := Bs.of_owns hox (numN_lt _ _)
      have zm := Nat.le_trans zn hbx.size
      have Bm := Bn.trans (hbx.mono zn)
      have hom := owns_below hon hbx (Nat.le_refl _)
      clear hox hbs hon Bn zn hbx
      go_wp2_with (at_builtin; refine wpList_append_bs _ rfl (.tmp 59) (.tmp 63) 34 rfl (w.heap.size + 1) 5 i0 (.int .u8 0) Try.underlying34 hi hz0 hz1 hz2 rfl _ _ (sumdL ep b l d x h) rfl hom _ _ rfl hbs2 (by rw [numN_length]; omega) zm ?_; intro vy wy hoy hgy; have zy := Nat.le_trans zm hgy.size; have By := Bm.grown hgy zm (owns_lt hom); clear hgy hom hbs2 Bm zm)
      rw [numN_length] at hoy
      have ho0 : wy.ownsRow (w.heap.size + 1) 5 1 vy (64 + 0) (cellsB (sealN (sumdL ep b l d x h) ++ zerosL 0)) := by rw [show zerosL 0 = [] from rfl, List.append_nil]; exact hoy
      clear hoy
      go_loopw [5] (fun v wr => ∃ k : Nat, k ≤ 192 ∧ wr.ownsRow (w.heap.size + 1) 5 1 v (64 + k) (cellsB (sealN (sumdL ep b l d x h) ++ zerosL k)) ∧ Below (w.heap.size + 1) (w.alloc (.cells #[.int .i64 (ep : Nat), .int .i64 (b : Nat), .int .i64 (l : Nat), .int .i64 (d : Nat), .int .i64 (x : Nat), .int .i64 (h : Nat)] 25)) wr ∧ w.heap.size + 1 ≤ wr.heap.size) (fun v _ => 256 - slLen v)
      case atStart => exact ⟨0, by omega, ho0, By, zy⟩
      case round =>
        clear By zy ho0
        obtain ⟨k, hk, hon, Bn, zn⟩ := hrel
        by_cases hkn : k < 192
        · obtain ⟨ao, cap, rfl, hcap, -⟩ := owns_form hon
          go_wp2_with (at_builtin; refine wpList_append_bs _ rfl (.tmp 68) (.tmp 69) 34 rfl (w.heap.size + 1) 5 i0 (.int .u8 0) Try.underlying34 hi hz0 hz1 hz2 rfl _ _ (sealN (sumdL ep b l d x h) ++ zerosL k) rfl (hon.alloc _) _ [0] rfl (Bs.one _ _ _ _ rfl (by decide)) (by simp only [List.length_singleton]; omega) (by simp; omega) ?_; intro v' wy hoy hgy)
          have zy : w.heap.size + 1 ≤ wy.heap.size := Nat.le_trans zn (Nat.le_trans (by simp) hgy.size)
          have By : Below (w.heap.size + 1) (w.alloc (.cells #[.int .i64 (ep : Nat), .int .i64 (b : Nat), .int .i64 (l : Nat), .int .i64 (d : Nat), .int .i64 (x : Nat), .int .i64 (h : Nat)] 25)) wy := (Bn.alloc zn _).grown hgy (by simp; omega) (owns_lt hon)
          have hoz : wy.ownsRow (w.heap.size + 1) 5 1 v' (64 + (k + 1)) (cellsB (sealN (sumdL ep b l d x h) ++ zerosL (k + 1))) := by
            rw [zerosL_succ, ← List.append_assoc]; exact hoy
          obtain ⟨ao', cap', rfl, -, -⟩ := owns_form hoz
          clear hoy hgy hon Bn
          go_roundw
          case rel => exact ⟨k + 1, by omega, hoz, By, zy⟩
          case measure => simp only [slLen]; omega
        · obtain rfl : k = 192 := by omega
          obtain ⟨ao, cap, rfl, hcap, -⟩ := owns_form hon
          have O := hide hon
          clear hon
          go_wp2_with fail
          go_ret2
          refine ⟨_, rfl, ?_, ((Below.refl _ w).alloc (Nat.le_refl _) _).trans (Bn.mono (Nat.le_succ _))⟩
          rw [blockL_length]
          exact owns_base O.out (Nat.le_succ _)

end Go.Proofs.Ytfjkmgfjlckmlaa
