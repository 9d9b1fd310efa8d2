/- Contracts: the document's Where. -/
import Derived.Test.YtecbcjdihnbdhaaC7
set_option linter.unusedSimpArgs false
set_option linter.unusedVariables false
namespace Go.Proofs.Ytecbcjdihnbdhaa
open Go.RowKit Go.Attic

set_option maxRecDepth 100000 in
set_option maxHeartbeats 400000 in
theorem refWhere_no (b l d x k : Int) (w : World) (hb : -9223372036854775808 ≤ b) (hb2 : b ≤ 9223372036854775807) (h : ¬ okG b l d x) :
    Calls Try.prog 26 #[.agg #[.int .i64 b, .int .i64 l, .int .i64 d, .int .i64 x], .int .i64 k] w fun r w' => r = .returned (.tuple #[.int .i64 0, .int .i64 0, .int .i64 40]) ∧ Below w.heap.size w w' := by
  have ho := fun w => refOf_no b l d x w hb hb2 h
  clear h
  go_enter Try.func26, Try.ntmps26
  go_wp2_with (go_at_call 9; refine (ho _).mono ?_; rintro r w1 ⟨rfl, hb1⟩; have hB1 : Below w.heap.size w w1 := ((Below.refl _ w).alloc (Nat.le_refl _) _).trans (hb1.mono (by simp)))
  go_ret3
  exact ⟨rfl, hB1.alloc hB1.size _⟩

set_option maxRecDepth 100000 in
set_option maxHeartbeats 400000 in
theorem refWhere_arg (b l d x k : Int) (w : World) (h : okG b l d x) (hk : ¬ (0 ≤ k ∧ k < b)) :
    Calls Try.prog 26 #[.agg #[.int .i64 b, .int .i64 l, .int .i64 d, .int .i64 x], .int .i64 k] w fun r w' => r = .returned (.tuple #[.int .i64 0, .int .i64 0, .int .i64 1]) ∧ Below w.heap.size w w' := by
  have ho := fun w => refOf_yes b l d x w h
  have hG := GeoAt.new w b l d x
  clear h
  by_cases k0 : k < 0
  · clear hk
    go_enter Try.func26, Try.ntmps26
    go_wp2_with (go_at_call 9; refine (ho _).mono ?_; rintro r w1 ⟨rfl, hb1⟩; have hB1 : Below w.heap.size w w1 := ((Below.refl _ w).alloc (Nat.le_refl _) _).trans (hb1.mono (by simp)))
    go_ret3
    exact ⟨rfl, hB1.alloc hB1.size _⟩
  · have k1 : b ≤ k := by omega
    clear hk
    go_enter Try.func26, Try.ntmps26
    go_wp2_with (go_at_call 9; refine (ho _).mono ?_; rintro r w1 ⟨rfl, hb1⟩; have hB1 : Below w.heap.size w w1 := ((Below.refl _ w).alloc (Nat.le_refl _) _).trans (hb1.mono (by simp)); have c0 := ((hG.mono hb1).alloc (.cells #[.int .i64 3, .int .i64 (3 + l), .int .i64 (3 + l + (x + 31) / 32), .int .i64 (3 + l + (x + 31) / 32 + (x + 63) / 64), .int .i64 (3 + l + (x + 31) / 32 + (x + 63) / 64 + d), .int .i64 (3 + l + (x + 31) / 32 + (x + 63) / 64 + d + 4 * x)] 25)).c0)
    go_ret3
    exact ⟨rfl, hB1.alloc hB1.size _⟩

set_option maxRecDepth 100000 in
set_option maxHeartbeats 1000000 in
theorem refWhere_yes (b l d x k : Int) (w : World) (h : okG b l d x) (k0 : 0 ≤ k) (k1 : k < b) :
    Calls Try.prog 26 #[.agg #[.int .i64 b, .int .i64 l, .int .i64 d, .int .i64 x], .int .i64 k] w fun r w' => r = .returned (.tuple #[.int .i64 (arOf l d x k : Nat), .int .i64 (k - stOf l d x (arOf l d x k)), .int .i64 0]) ∧ Below w.heap.size w w' := by
  have ho := fun w => refOf_yes b l d x w h
  have hG := GeoAt.new w b l d x
  have hsp : arOf l d x k ≤ 7 ∧ (∀ j, j ≤ 7 → arOf l d x k < j → k < stOf l d x j) ∧ (∀ j, j ≤ arOf l d x k → stOf l d x j ≤ k) := ar_spec l d x k h.1 h.2.2.1 h.2.2.2.2.1 k0
  have hk2 : b ≤ 2048 := h.2.2.2.2.2.2.2
  have hst : ∀ (W : World) (j : Nat), j ≤ 7 → (W.alloc (.cells #[.int .i64 0, .int .i64 2, .int .i64 3, .int .i64 (3 + l), .int .i64 (3 + l + (x + 31) / 32), .int .i64 (3 + l + (x + 31) / 32 + (x + 63) / 64), .int .i64 (3 + l + (x + 31) / 32 + (x + 63) / 64 + d), .int .i64 (3 + l + (x + 31) / 32 + (x + 63) / 64 + d + 4 * x)] 3)).cell? ⟨W.heap.size, j, none⟩ = some (.int .i64 (stOf l d x j)) := by
    intro W j hj
    rcases below8 hj with rfl | rfl | rfl | rfl | rfl | rfl | rfl | rfl <;> simp [stOf]
  have hub := st_up l d x h.1 h.2.2.1 h.2.2.2.2.1
  have h7 : stOf l d x 7 ≤ 2048 := Int.le_trans h.2.2.2.2.2.2.1 hk2
  have h0' : stOf l d x 0 = 0 := rfl
  have hsm : ∀ j, j ≤ 7 → 0 ≤ stOf l d x j ∧ stOf l d x j ≤ 2048 := by
    intro j hj
    rcases below8 hj with rfl | rfl | rfl | rfl | rfl | rfl | rfl | rfl <;> omega
  have Hst := hide hst
  have Hsp := hide hsp
  have Hsm := hide hsm
  clear h hsp hst hsm hub h7 h0'
  generalize arOf l d x k = a at *
  generalize stOf l d x = f at *
  generalize 3 + l + (x + 31) / 32 + (x + 63) / 64 + d + 4 * x = bb at *
  generalize 3 + l + (x + 31) / 32 + (x + 63) / 64 + d = hp at *
  generalize 3 + l + (x + 31) / 32 + (x + 63) / 64 = dd at *
  generalize 3 + l + (x + 31) / 32 = mm at *
  generalize 3 + l = tt at *
  have kd1 : decide (k < 0) = false := decide_eq_false (by omega)
  have kd2 : decide (b ≤ k) = false := decide_eq_false (by omega)
  go_enter Try.func26, Try.ntmps26
  go_wp2_with (go_at_call 9; refine (ho _).mono ?_; rintro r w1 ⟨rfl, hb1⟩; have hB1 : Below w.heap.size w w1 := ((Below.refl _ w).alloc (Nat.le_refl _) _).trans (hb1.mono (by simp)); have c0 := ((hG.mono hb1).alloc (.cells #[.int .i64 3, .int .i64 tt, .int .i64 mm, .int .i64 dd, .int .i64 hp, .int .i64 bb] 25)).c0)
  have hst := Hst.out (w1.alloc (.cells #[.int .i64 3, .int .i64 tt, .int .i64 mm, .int .i64 dd, .int .i64 hp, .int .i64 bb] 25))
  rw [World.size_alloc] at hst
  have hB3 : Below w.heap.size w ((w1.alloc (.cells #[.int .i64 3, .int .i64 tt, .int .i64 mm, .int .i64 dd, .int .i64 hp, .int .i64 bb] 25)).alloc (.cells #[.int .i64 0, .int .i64 2, .int .i64 3, .int .i64 tt, .int .i64 mm, .int .i64 dd, .int .i64 hp, .int .i64 bb] 3)) := (hB1.alloc hB1.size _).alloc (by have := hB1.size; simp; omega) _
  have Hs := hide hst
  clear hst Hst ho hG hb1 c0 hB1
  generalize (w1.alloc (.cells #[.int .i64 3, .int .i64 tt, .int .i64 mm, .int .i64 dd, .int .i64 hp, .int .i64 bb] 25)).alloc (.cells #[.int .i64 0, .int .i64 2, .int .i64 3, .int .i64 tt, .int .i64 mm, .int .i64 dd, .int .i64 hp, .int .i64 bb] 3) = w3 at *
  generalize w1.heap.size + 1 = g at *
  go_loopw [10, 11] (fun v u wr => ∃ i j : Nat, i ≤ 8 ∧ Hid (j = min (i - 1) a) ∧ j ≤ 7 ∧ u = .int .i64 i ∧ v = .int .i64 j ∧ wr = w3) (fun v u _ => 8 - (intOf u).toNat)
  case atStart => exact ⟨0, 0, Nat.zero_le _, by show 0 = min (0 - 1) a; omega, by omega, rfl, rfl, rfl⟩
  case round =>
    obtain ⟨i, j, hi, Hj, hj7, rfl, rfl, rfl⟩ := hrel
    rcases Nat.lt_or_ge i 8 with hi8 | hi8
    · have hcell := Hs.out i (by omega)
      have hsm := Hsm.out i (by omega)
      rcases Nat.lt_or_ge a i with hlt | hge
      · have hkf := Hsp.out.2.1 i (by omega) hlt
        generalize f i = y at hcell hsm hkf
        go_wp2_with fail
        go_roundw
        case rel => exact ⟨i + 1, j, by omega, by have := Hj.out; show j = min (i + 1 - 1) a; omega, hj7, by simp, rfl, trivial⟩
        case measure => simp [intOf]; omega
      · have hkf := Hsp.out.2.2 i hge
        have ha7 := Hsp.out.1
        generalize f i = y at hcell hsm hkf
        go_wp2_with fail
        go_roundw
        case rel => exact ⟨i + 1, i, by omega, by show i = min (i + 1 - 1) a; omega, by omega, by simp, rfl, trivial⟩
        case measure => simp [intOf]; omega
    · have hja : j = a := by have := Hj.out; have := Hsp.out.1; omega
      have hcell := Hs.out j (by omega)
      have hsm := Hsm.out j (by omega)
      have hkf := Hsp.out.2.2 j (by omega)
      have hi' : i = 8 := by omega
      subst hi'
      have Hja := hide hja
      clear hja Hj
      generalize hy : f j = y at hcell hsm hkf
      have Hy := hide hy
      clear hy
      go_wp2_with fail
      go_quiet (fail)
      go_wp2
      go_ret3
      rw [← Hja.out, Hy.out]
      exact ⟨rfl, hB3.os, hB3.tape, hB3.output, hB3.size, hB3.block⟩

end Go.Proofs.Ytecbcjdihnbdhaa
