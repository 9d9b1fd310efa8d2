/- Contracts: the chapter's example; two supers held against each other. -/
import Derived.Test.YtfjkmgfjlckmlaaS2
set_option linter.unusedSimpArgs false
set_option linter.unusedVariables false
namespace Go.Proofs.Ytfjkmgfjlckmlaa
open Go.RowKit Go.Attic

theorem nextE_zero {ep b l d x h head : Int} (k : nextE ep b l d x h head = 0) : okS ep b l d x h ∧ h ≤ head ∧ head ≤ 1152921504606846976 ∧ ep < 1152921504606846976 := by
  unfold nextE at k
  by_cases k1 : chkS ep b l d x h = 0
  · rw [if_pos k1] at k
    by_cases k2 : head < h ∨ 1152921504606846976 < head
    · rw [if_pos k2] at k; omega
    · rw [if_neg k2] at k
      by_cases k3 : ep = 1152921504606846976
      · rw [if_pos k3] at k; omega
      · have k4 := chkS_zero k1
        have k5 := k4.2
        exact ⟨k4, by omega, by omega, by omega⟩
  · rw [if_neg k1] at k; exact absurd k k1

set_option maxHeartbeats 400000 in
theorem plain_any (w : World) : Calls Try.prog 27 #[] w fun r w' => r = .returned (.agg #[.int .i64 60, .int .i64 8, .int .i64 4, .int .i64 8]) ∧ Below w.heap.size w w' := by
  go_enter Try.func27, Try.ntmps27
  go_wp2_with fail
  refine bodyPost_ret (v := .agg #[.int .i64 60, .int .i64 8, .int .i64 4, .int .i64 8]) (by simp [results, Try.results27, go_sem]) rfl ⟨rfl, ?_⟩
  exact (Below.refl _ w).alloc (Nat.le_refl _) _

set_option maxRecDepth 100000 in
set_option maxHeartbeats 400000 in
theorem eqlS (a b c d e f a' b' c' d' e' f' : Int) (w : World) : (binOp .eql 25 (.agg #[.int .i64 a, .int .i64 b, .int .i64 c, .int .i64 d, .int .i64 e, .int .i64 f]) (.agg #[.int .i64 a', .int .i64 b', .int .i64 c', .int .i64 d', .int .i64 e', .int .i64 f'])).run Try.prog w = .ok (.bool (a == a' && b == b' && c == c' && d == d' && e == e' && f == f')) w := by
  have u2 := Try.underlying2
  have a2 := Try.isAgg2
  have z2 := Try.sizeOf2
  have u3 := Try.underlying3
  have a3 := Try.isAgg3
  have z3 := Try.sizeOf3
  have a23 := Try.isAgg23
  have z23 := Try.sizeOf23
  have hS : Try.prog.underlying 25 = some (.struct (Try.prog.fieldsOf 25)) := by kernel_rfl
  have hp : Try.prog.stoodInHeld 25 = false := by kernel_rfl
  have hS2 : Try.prog.underlying 23 = some (.struct (Try.prog.fieldsOf 23)) := by kernel_rfl
  have hp2 : Try.prog.stoodInHeld 23 = false := by kernel_rfl
  have hG : ∀ (x1 x2 x3 x4 y1 y2 y3 y4 : Int) (w : World), (Op.equalIn 9999 23 (.agg #[.int .i64 x1, .int .i64 x2, .int .i64 x3, .int .i64 x4]) (.agg #[.int .i64 y1, .int .i64 y2, .int .i64 y3, .int .i64 y4])).run Try.prog w = .ok (x1 == y1 && x2 == y2 && x3 == y3 && x4 == y4) w := by
    intro x1 x2 x3 x4 y1 y2 y3 y4 w
    rw [show (9999 : Nat) = 9998 + 1 from rfl, run_equalIn_agg w 9998 23 _ _ hS2 hp2]
    simp only [Program.fieldsOf, Try.underlying23]
    go_simp
    by_cases h1 : x1 = y1 <;> by_cases h2 : x2 = y2 <;> by_cases h3 : x3 = y3 <;> by_cases h4 : x4 = y4 <;> simp [h1, h2, h3, h4]
  rw [run_eql_struct, show (10000 : Nat) = 9999 + 1 from rfl, run_equalIn_agg w 9999 25 _ _ hS hp]
  simp only [Program.fieldsOf, Try.underlying25]
  go_simp
  by_cases h1 : a = a' <;> by_cases h2 : b = b' <;> by_cases h3 : c = c' <;> by_cases h4 : d = d' <;> by_cases h5 : e = e' <;> by_cases h6 : f = f' <;> simp [h1, h2, h3, h4, h5, h6]

theorem eqlS_same (a b c d e f : Int) (w : World) : (binOp .eql 25 (.agg #[.int .i64 a, .int .i64 b, .int .i64 c, .int .i64 d, .int .i64 e, .int .i64 f]) (.agg #[.int .i64 a, .int .i64 b, .int .i64 c, .int .i64 d, .int .i64 e, .int .i64 f])).run Try.prog w = .ok (.bool true) w := by
  rw [eqlS]; simp

set_option maxRecDepth 100000 in
set_option maxHeartbeats 400000 in
theorem live_any (w : World) : Calls Try.prog 12 #[] w fun r w' => r = .returned (.bool true) ∧ Below w.heap.size w w' := by
  have k0 : okG 60 8 4 8 := by unfold okG planB; decide
  have h1 := fun w => first_yes 60 8 4 8 w (by decide) k0
  simp only [show (4 : Int) * 8 = 32 from rfl] at h1
  have h2 := fun w => next_yes 2 60 8 4 8 32 70 w (by decide) ⟨k0, by decide⟩ (by decide) (by decide) (by decide)
  simp only [show (2 : Int) + 1 = 3 from rfl] at h2
  have h3 := fun w => refCheck_any 60 8 4 8 w (by decide) (by decide)
  rw [errG_ok k0] at h3
  have h4 := fun w => slot_any 2 60 8 4 8 32 w
  have h5 := fun w => slot_any 3 60 8 4 8 70 w
  rw [show slotS 2 = 0 from rfl] at h4
  rw [show slotS 3 = 1 from rfl] at h5
  clear k0
  go_enter Try.func12, Try.ntmps12
  go_wp2_with (go_at_call 27; refine (plain_any _).mono ?_; rintro r w1 ⟨rfl, hb1⟩)
  go_wp2_with (go_at_call 8; refine (h1 _).mono ?_; rintro r w2 ⟨rfl, hb2⟩; have hB2 : Below w.heap.size w w2 := hb1.trans (hb2.mono hb1.size); have hS := SupAt.new w2 2 60 8 4 8 32; clear hb1 hb2)
  go_wp2_with (go_at_call 10; refine (h2 _).mono ?_; rintro r w3 ⟨rfl, hb3⟩; have hB3 : Below w.heap.size w w3 := (hB2.alloc hB2.size _).trans (hb3.mono (by have := hB2.size; simp; omega)); have hS3 := (hS.mono hb3).alloc (.cells #[.int .i64 3, .int .i64 60, .int .i64 8, .int .i64 4, .int .i64 8, .int .i64 70] 25); have hN3 := SupAt.new w3 3 60 8 4 8 70; have hB4 := hB3.alloc hB3.size (.cells #[.int .i64 3, .int .i64 60, .int .i64 8, .int .i64 4, .int .i64 8, .int .i64 70] 25); clear hb3 hS hB2)
  go_wp2_with (go_at_call 27; refine (plain_any _).mono ?_; rintro r w4 ⟨rfl, hb4⟩; have hB5 := hB4.trans (hb4.mono hB4.size); have hS4 := hS3.mono hb4; have hN4 := hN3.mono hb4; clear hb4 hS3 hN3 hB4 hB3)
  go_wp2_with (go_at_call 26; refine (h3 _).mono ?_; rintro r w5 ⟨rfl, hb5⟩; have hB6 := hB5.trans (hb5.mono hB5.size); have hS5 := hS4.mono hb5; have hN5 := hN4.mono hb5; obtain ⟨c0, c1, c2, c3, c4, c5, f0, f1, f2, f3, f4, f5, lp⟩ := hS5; clear hb5 hS4 hN4 hB5)
  refine (h4 _).mono ?_
  rintro r w6 ⟨rfl, hb6⟩
  have hB7 := hB6.trans (hb6.mono hB6.size)
  obtain ⟨d0, d1, d2, d3, d4, d5, e0, e1, e2, e3, e4, e5, lq⟩ := hN5.mono hb6
  clear hb6 hN5 hB6 c0 c1 c2 c3 c4 c5
  go_wp2_with fail
  refine (h5 _).mono ?_
  rintro r w7 ⟨rfl, hb7⟩
  have hB8 := hB7.trans (hb7.mono hB7.size)
  clear hb7 hB7
  go_wp2_with fail
  go_ret
  exact ⟨rfl, hB8⟩

end Go.Proofs.Ytfjkmgfjlckmlaa
