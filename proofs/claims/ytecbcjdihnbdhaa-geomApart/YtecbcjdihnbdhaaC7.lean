/- Contracts: begins, Where. -/
import Derived.Test.YtecbcjdihnbdhaaC6
set_option linter.unusedSimpArgs false
set_option linter.unusedVariables false
namespace Go.Proofs.Ytecbcjdihnbdhaa
open Go.RowKit Go.Attic

def stOf (l d x : Int) : Nat → Int
  | 0 => 0
  | 1 => 2
  | 2 => 3
  | 3 => 3 + l
  | 4 => 3 + l + (x + 31) / 32
  | 5 => 3 + l + (x + 31) / 32 + (x + 63) / 64
  | 6 => 3 + l + (x + 31) / 32 + (x + 63) / 64 + d
  | _ => 3 + l + (x + 31) / 32 + (x + 63) / 64 + d + 4 * x

def arOf (l d x k : Int) : Nat :=
  if stOf l d x 7 ≤ k then 7 else if stOf l d x 6 ≤ k then 6 else if stOf l d x 5 ≤ k then 5 else if stOf l d x 4 ≤ k then 4 else if stOf l d x 3 ≤ k then 3 else if stOf l d x 2 ≤ k then 2 else if stOf l d x 1 ≤ k then 1 else 0

theorem st_up (l d x : Int) (hl : 8 ≤ l) (hd : 1 ≤ d) (hx : 1 ≤ x) : stOf l d x 0 < stOf l d x 1 ∧ stOf l d x 1 < stOf l d x 2 ∧ stOf l d x 2 < stOf l d x 3 ∧ stOf l d x 3 < stOf l d x 4 ∧ stOf l d x 4 < stOf l d x 5 ∧ stOf l d x 5 < stOf l d x 6 ∧ stOf l d x 6 < stOf l d x 7 := by
  simp only [stOf]
  omega

theorem below8 {j : Nat} (h : j ≤ 7) : j = 0 ∨ j = 1 ∨ j = 2 ∨ j = 3 ∨ j = 4 ∨ j = 5 ∨ j = 6 ∨ j = 7 := by omega

theorem ar_spec (l d x k : Int) (hl : 8 ≤ l) (hd : 1 ≤ d) (hx : 1 ≤ x) (hk : 0 ≤ k) :
    arOf l d x k ≤ 7 ∧ (∀ j, j ≤ 7 → arOf l d x k < j → k < stOf l d x j) ∧ (∀ j, j ≤ arOf l d x k → stOf l d x j ≤ k) := by
  have hu := st_up l d x hl hd hx
  have h0 : stOf l d x 0 = 0 := rfl
  unfold arOf
  generalize stOf l d x = f at *
  repeat' split
  all_goals
    refine ⟨by omega, fun j hj hlt => ?_, fun j hj => ?_⟩
    · rcases below8 hj with rfl | rfl | rfl | rfl | rfl | rfl | rfl | rfl <;> omega
    · rcases below8 (j := j) (by omega) with rfl | rfl | rfl | rfl | rfl | rfl | rfl | rfl <;> omega

set_option maxRecDepth 100000 in
set_option maxHeartbeats 400000 in
theorem begins_any (a0 a1 a2 a3 a4 a5 : Int) (w : World) : Calls Try.prog 36 #[.agg #[.int .i64 a0, .int .i64 a1, .int .i64 a2, .int .i64 a3, .int .i64 a4, .int .i64 a5]] w fun r w' => r = .returned (.agg #[.int .i64 0, .int .i64 2, .int .i64 a0, .int .i64 a1, .int .i64 a2, .int .i64 a3, .int .i64 a4, .int .i64 a5]) ∧ Below w.heap.size w w' := by
  go_enter Try.func36, Try.ntmps36
  go_wp2_with fail
  refine bodyPost_ret (v := .agg #[.int .i64 0, .int .i64 2, .int .i64 a0, .int .i64 a1, .int .i64 a2, .int .i64 a3, .int .i64 a4, .int .i64 a5]) (by simp [results, Try.results36, go_sem]) rfl ⟨rfl, ?_⟩
  exact ((Below.refl _ w).alloc (Nat.le_refl _) _).alloc (by simp) _

set_option maxRecDepth 100000 in
set_option maxHeartbeats 400000 in
theorem where_no (b l d x k : Int) (w : World) (hb : -9223372036854775808 ≤ b) (hb2 : b ≤ 9223372036854775807) (h : ¬ okG b l d x) :
    Calls Try.prog 25 #[.agg #[.int .i64 b, .int .i64 l, .int .i64 d, .int .i64 x], .int .i64 k] w fun r w' => r = .returned (.tuple #[.int .i64 0, .int .i64 0, .int .i64 40]) ∧ Below w.heap.size w w' := by
  have ho := fun w => of_no b l d x w hb hb2 h
  have hgu := fun op x y xs ys w => run_eqGuard_agg (P := Try.prog) w op 25 x y xs ys (by kernel_rfl)
  have hq := fun w => eql25 0 0 0 0 0 0 0 0 0 0 0 0 w
  simp only [beq_self_eq_true, Bool.and_self] at hq
  clear h
  go_enter Try.func25, Try.ntmps25
  go_wp2_with (go_at_call 8; refine (ho _).mono ?_; rintro r w1 ⟨rfl, hb1⟩; have hB1 : Below w.heap.size w w1 := ((Below.refl _ w).alloc (Nat.le_refl _) _).trans (hb1.mono (by simp)))
  go_ret3
  exact ⟨rfl, hB1.alloc hB1.size _⟩

set_option maxRecDepth 100000 in
set_option maxHeartbeats 400000 in
theorem where_arg (b l d x k : Int) (w : World) (h : okG b l d x) (hk : ¬ (0 ≤ k ∧ k < b)) :
    Calls Try.prog 25 #[.agg #[.int .i64 b, .int .i64 l, .int .i64 d, .int .i64 x], .int .i64 k] w fun r w' => r = .returned (.tuple #[.int .i64 0, .int .i64 0, .int .i64 1]) ∧ Below w.heap.size w w' := by
  have ho := fun w => of_yes b l d x w h
  have hgu := fun op x y xs ys w => run_eqGuard_agg (P := Try.prog) w op 25 x y xs ys (by kernel_rfl)
  have hq := fun w => eql25 3 (3 + l) (3 + l + (x + 31) / 32) (3 + l + (x + 31) / 32 + (x + 63) / 64) (3 + l + (x + 31) / 32 + (x + 63) / 64 + d) (3 + l + (x + 31) / 32 + (x + 63) / 64 + d + 4 * x) 0 0 0 0 0 0 w
  simp only [show ((3 : Int) == 0) = false from rfl, Bool.false_and] at hq
  have hG := GeoAt.new w b l d x
  clear h
  by_cases k0 : k < 0
  · clear hk
    go_enter Try.func25, Try.ntmps25
    go_wp2_with (go_at_call 8; refine (ho _).mono ?_; rintro r w1 ⟨rfl, hb1⟩; have hB1 : Below w.heap.size w w1 := ((Below.refl _ w).alloc (Nat.le_refl _) _).trans (hb1.mono (by simp)))
    go_ret3
    exact ⟨rfl, hB1.alloc hB1.size _⟩
  · have k1 : b ≤ k := by omega
    clear hk
    go_enter Try.func25, Try.ntmps25
    go_wp2_with (go_at_call 8; refine (ho _).mono ?_; rintro r w1 ⟨rfl, hb1⟩; have hB1 : Below w.heap.size w w1 := ((Below.refl _ w).alloc (Nat.le_refl _) _).trans (hb1.mono (by simp)); have c0 := ((hG.mono hb1).alloc (.cells #[.int .i64 3, .int .i64 (3 + l), .int .i64 (3 + l + (x + 31) / 32), .int .i64 (3 + l + (x + 31) / 32 + (x + 63) / 64), .int .i64 (3 + l + (x + 31) / 32 + (x + 63) / 64 + d), .int .i64 (3 + l + (x + 31) / 32 + (x + 63) / 64 + d + 4 * x)] 25)).c0)
    go_ret3
    exact ⟨rfl, hB1.alloc hB1.size _⟩

set_option maxRecDepth 100000 in
set_option maxHeartbeats 1000000 in
theorem where_yes (b l d x k : Int) (w : World) (h : okG b l d x) (k0 : 0 ≤ k) (k1 : k < b) :
    Calls Try.prog 25 #[.agg #[.int .i64 b, .int .i64 l, .int .i64 d, .int .i64 x], .int .i64 k] w fun r w' => r = .returned (.tuple #[.int .i64 (arOf l d x k : Nat), .int .i64 (k - stOf l d x (arOf l d x k)), .int .i64 0]) ∧ Below w.heap.size w w' := by
  have ho := fun w => of_yes b l d x w h
  have hgu := fun op x y xs ys w => run_eqGuard_agg (P := Try.prog) w op 25 x y xs ys (by kernel_rfl)
  have hq := fun w => eql25 3 (3 + l) (3 + l + (x + 31) / 32) (3 + l + (x + 31) / 32 + (x + 63) / 64) (3 + l + (x + 31) / 32 + (x + 63) / 64 + d) (3 + l + (x + 31) / 32 + (x + 63) / 64 + d + 4 * x) 0 0 0 0 0 0 w
  simp only [show ((3 : Int) == 0) = false from rfl, Bool.false_and] at hq
  have hG := GeoAt.new w b l d x
  have hsp : arOf l d x k ≤ 7 ∧ (∀ j, j ≤ 7 → arOf l d x k < j → k < stOf l d x j) ∧ (∀ j, j ≤ arOf l d x k → stOf l d x j ≤ k) := ar_spec l d x k h.1 h.2.2.1 h.2.2.2.2.1 k0
  have hk2 : b ≤ 2048 := h.2.2.2.2.2.2.2
  have hbg := fun w => begins_any 3 (3 + l) (3 + l + (x + 31) / 32) (3 + l + (x + 31) / 32 + (x + 63) / 64) (3 + l + (x + 31) / 32 + (x + 63) / 64 + d) (3 + l + (x + 31) / 32 + (x + 63) / 64 + d + 4 * x) w
  have hst : ∀ (W : World) (j : Nat), j ≤ 7 → (W.alloc (.cells #[.int .i64 0, .int .i64 2, .int .i64 3, .int .i64 (3 + l), .int .i64 (3 + l + (x + 31) / 32), .int .i64 (3 + l + (x + 31) / 32 + (x + 63) / 64), .int .i64 (3 + l + (x + 31) / 32 + (x + 63) / 64 + d), .int .i64 (3 + l + (x + 31) / 32 + (x + 63) / 64 + d + 4 * x)] 46)).cell? ⟨W.heap.size, j, none⟩ = some (.int .i64 (stOf l d x j)) := by
    intro W j hj
    rcases below8 hj with rfl | rfl | rfl | rfl | rfl | rfl | rfl | rfl <;> simp [stOf]
  have hub := st_up l d x h.1 h.2.2.1 h.2.2.2.2.1
  have h7 : stOf l d x 7 ≤ 2048 := Int.le_trans h.2.2.2.2.2.2.1 hk2
  have h0' : stOf l d x 0 = 0 := rfl
  have hsm : ∀ j, j ≤ 7 → 0 ≤ stOf l d x j ∧ stOf l d x j ≤ 2048 := by
    intro j hj
    rcases below8 hj with rfl | rfl | rfl | rfl | rfl | rfl | rfl | rfl <;> omega
  have Hst := hide hst
  have Hsp := hide hsp
  have Hsm := hide hsm
  clear h hsp hst hsm hub h7 h0'
  generalize arOf l d x k = a at *
  generalize stOf l d x = f at *
  generalize 3 + l + (x + 31) / 32 + (x + 63) / 64 + d + 4 * x = bb at *
  generalize 3 + l + (x + 31) / 32 + (x + 63) / 64 + d = hp at *
  generalize 3 + l + (x + 31) / 32 + (x + 63) / 64 = dd at *
  generalize 3 + l + (x + 31) / 32 = mm at *
  generalize 3 + l = tt at *
  have kd1 : decide (k < 0) = false := decide_eq_false (by omega)
  have kd2 : decide (b ≤ k) = false := decide_eq_false (by omega)
  go_enter Try.func25, Try.ntmps25
  go_wp2_with (go_at_call 8; refine (ho _).mono ?_; rintro r w1 ⟨rfl, hb1⟩; have hB1 : Below w.heap.size w w1 := ((Below.refl _ w).alloc (Nat.le_refl _) _).trans (hb1.mono (by simp)); have c0 := ((hG.mono hb1).alloc (.cells #[.int .i64 3, .int .i64 tt, .int .i64 mm, .int .i64 dd, .int .i64 hp, .int .i64 bb] 25)).c0)
  go_wp2_with (go_at_call 36; refine (hbg _).mono ?_; rintro r w2 ⟨rfl, hb2⟩; have hB2 : Below w.heap.size w w2 := (hB1.alloc hB1.size _).trans (hb2.mono (by have := hB1.size; simp; omega)))
  have hst := Hst.out w2
  have hB3 : Below w.heap.size w (w2.alloc (.cells #[.int .i64 0, .int .i64 2, .int .i64 3, .int .i64 tt, .int .i64 mm, .int .i64 dd, .int .i64 hp, .int .i64 bb] 46)) := hB2.alloc hB2.size _
  have Hs := hide hst
  clear hst Hst ho hgu hq hG hbg hb1 hb2 c0 hB2 hB1
  generalize w2.alloc (.cells #[.int .i64 0, .int .i64 2, .int .i64 3, .int .i64 tt, .int .i64 mm, .int .i64 dd, .int .i64 hp, .int .i64 bb] 46) = w3 at *
  generalize w2.heap.size = g at *
  go_loopw [10] (fun v wr => ∃ j : Nat, a ≤ j ∧ j ≤ 7 ∧ v = .int .i64 j ∧ wr = w3) (fun v _ => (intOf v).toNat)
  case atStart => exact ⟨7, Hsp.out.1, Nat.le_refl _, rfl, rfl⟩
  case round =>
    obtain ⟨j, hj1, hj2, rfl, rfl⟩ := hrel
    have hcell := Hs.out j hj2
    have hsm := Hsm.out j hj2
    have hi : (j : Int) < 8 := by omega
    rcases Nat.lt_or_ge a j with hlt | hge
    · have hkf := Hsp.out.2.1 j hj2 hlt
      generalize f j = y at hcell hsm hkf
      go_wp2_with fail
      go_roundw
      case rel => exact ⟨j - 1, by omega, by omega, by congr 1; omega, trivial⟩
      case measure => simp [intOf]; omega
    · have hja : j = a := by omega
      have hkf := Hsp.out.2.2 j (by omega)
      have Hja := hide hja
      clear hja
      have hfy : Hid (f j = f j) := rfl
      generalize hy : f j = y at hcell hsm hkf
      have Hy := hide hy
      clear hy hfy
      have hkf2 : decide (k < y) = false := decide_eq_false (by omega)
      go_wp2_with fail
      go_quiet (fail)
      go_wp2
      go_ret3
      rw [← Hja.out, Hy.out]
      exact ⟨rfl, hB3.os, hB3.tape, hB3.output, hB3.size, hB3.block⟩

end Go.Proofs.Ytecbcjdihnbdhaa
