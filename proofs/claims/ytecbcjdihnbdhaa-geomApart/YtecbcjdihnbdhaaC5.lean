/- Contracts: classes and slots, and the document's; the small geometry of each statement. -/
import Derived.Test.YtecbcjdihnbdhaaC4
set_option linter.unusedSimpArgs false
set_option linter.unusedVariables false
namespace Go.Proofs.Ytecbcjdihnbdhaa
open Go.RowKit Go.Attic

def sb (c : Int) : Int := if c = 0 then 32 else if c = 1 then 64 else if c = 2 then 128 else if c = 3 then 256 else if c = 4 then 512 else if c = 5 then 1024 else 0
def sl (c : Int) : Int := if c = 0 then 32 else if c = 1 then 16 else if c = 2 then 8 else if c = 3 then 4 else if c = 4 then 2 else if c = 5 then 1 else 0

theorem class_ways (c : Int) (h0 : 0 ≤ c) (h1 : c < 6) : (c = 0 ∧ sb c = 32 ∧ sl c = 32) ∨ (c = 1 ∧ sb c = 64 ∧ sl c = 16) ∨ (c = 2 ∧ sb c = 128 ∧ sl c = 8) ∨ (c = 3 ∧ sb c = 256 ∧ sl c = 4) ∨ (c = 4 ∧ sb c = 512 ∧ sl c = 2) ∨ (c = 5 ∧ sb c = 1024 ∧ sl c = 1) := by
  have : c = 0 ∨ c = 1 ∨ c = 2 ∨ c = 3 ∨ c = 4 ∨ c = 5 := by omega
  rcases this with rfl | rfl | rfl | rfl | rfl | rfl <;> decide

theorem class_none (c : Int) (h : ¬ (0 ≤ c ∧ c < 6)) : sb c = 0 ∧ sl c = 0 := by
  unfold sb sl
  have h0 : ¬ c = 0 := by omega
  have h1 : ¬ c = 1 := by omega
  have h2 : ¬ c = 2 := by omega
  have h3 : ¬ c = 3 := by omega
  have h4 : ¬ c = 4 := by omega
  have h5 : ¬ c = 5 := by omega
  simp [h0, h1, h2, h3, h4, h5]

set_option maxRecDepth 100000 in
set_option maxHeartbeats 400000 in
theorem slotBytes_any (c : Int) (w : World) : Calls Try.prog 23 #[.int .i64 c] w fun r w' => r = .returned (.int .i64 (sb c)) ∧ w = w' := by
  have h := fun w => isClass_any c w
  by_cases hc : 0 ≤ c ∧ c < 6
  · rw [decide_eq_true hc] at h
    rcases class_ways c hc.1 hc.2 with ⟨rfl, e, _⟩ | ⟨rfl, e, _⟩ | ⟨rfl, e, _⟩ | ⟨rfl, e, _⟩ | ⟨rfl, e, _⟩ | ⟨rfl, e, _⟩
    all_goals
      rw [e]
      clear e hc
      go_enter Try.func23, Try.ntmps23
      go_wp2_with (go_at_call 35; refine (h _).mono ?_; rintro r w' ⟨rfl, rfl⟩)
      go_ret
      exact ⟨rfl, rfl⟩
  · rw [decide_eq_false hc] at h
    rw [(class_none c hc).1]
    clear hc
    go_enter Try.func23, Try.ntmps23
    go_wp2_with (go_at_call 35; refine (h _).mono ?_; rintro r w' ⟨rfl, rfl⟩)
    go_ret
    exact ⟨rfl, rfl⟩

set_option maxRecDepth 100000 in
set_option maxHeartbeats 400000 in
theorem slots_any (c : Int) (w : World) : Calls Try.prog 21 #[.int .i64 c] w fun r w' => r = .returned (.int .i64 (sl c)) ∧ w = w' := by
  have h := fun w => isClass_any c w
  have hs := fun w => slotBytes_any c w
  by_cases hc : 0 ≤ c ∧ c < 6
  · rw [decide_eq_true hc] at h
    rcases class_ways c hc.1 hc.2 with ⟨rfl, e, e2⟩ | ⟨rfl, e, e2⟩ | ⟨rfl, e, e2⟩ | ⟨rfl, e, e2⟩ | ⟨rfl, e, e2⟩ | ⟨rfl, e, e2⟩
    all_goals
      rw [e2]
      rw [e] at hs
      clear e e2 hc
      go_enter Try.func21, Try.ntmps21
      go_wp2_with (go_at_call 35; refine (h _).mono ?_; rintro r w' ⟨rfl, rfl⟩)
      go_wp2_with (go_at_call 23; refine (hs _).mono ?_; rintro r w' ⟨rfl, rfl⟩)
      go_ret
      exact ⟨rfl, rfl⟩
  · rw [decide_eq_false hc] at h
    rw [(class_none c hc).2]
    clear hc hs
    go_enter Try.func21, Try.ntmps21
    go_wp2_with (go_at_call 35; refine (h _).mono ?_; rintro r w' ⟨rfl, rfl⟩)
    go_ret
    exact ⟨rfl, rfl⟩

theorem sb_pow (c : Nat) (h : c < 6) : sb (c : Int) = 32 * 2 ^ c := by
  have : c = 0 ∨ c = 1 ∨ c = 2 ∨ c = 3 ∨ c = 4 ∨ c = 5 := by omega
  rcases this with rfl | rfl | rfl | rfl | rfl | rfl <;> decide

set_option maxRecDepth 100000 in
set_option maxHeartbeats 400000 in
theorem refSlotBytes_any (c : Int) (w : World) : Calls Try.prog 24 #[.int .i64 c] w fun r w' => r = .returned (.int .i64 (sb c)) ∧ w = w' := by
  by_cases h0 : c < 0
  · rw [(class_none c (by omega)).1]
    go_enter Try.func24, Try.ntmps24
    go_wp2_with fail
    go_ret
    exact ⟨rfl, rfl⟩
  by_cases h1 : 6 ≤ c
  · rw [(class_none c (by omega)).1]
    go_enter Try.func24, Try.ntmps24
    go_wp2_with fail
    go_ret
    exact ⟨rfl, rfl⟩
  obtain ⟨n, rfl⟩ := Int.eq_ofNat_of_zero_le (show 0 ≤ c by omega)
  have hn : n < 6 := by omega
  rw [sb_pow n hn]
  clear h0 h1
  go_enter Try.func24, Try.ntmps24
  go_wp2_with fail
  go_loopw [3, 4] (fun v i wr => ∃ k : Nat, k ≤ n ∧ i = .int .i64 k ∧ v = .int .i64 (32 * 2 ^ k) ∧ wr = w) (fun v i _ => n - (intOf i).toNat)
  case atStart => exact ⟨0, Nat.zero_le _, rfl, rfl, rfl⟩
  case round =>
    obtain ⟨k, hk, rfl, rfl, rfl⟩ := hrel
    have hp : (2 : Int) ^ k ≤ 32 := by
      have : k = 0 ∨ k = 1 ∨ k = 2 ∨ k = 3 ∨ k = 4 ∨ k = 5 := by omega
      rcases this with rfl | rfl | rfl | rfl | rfl | rfl <;> decide
    have hp0 : (0 : Int) ≤ 2 ^ k := by
      have : k = 0 ∨ k = 1 ∨ k = 2 ∨ k = 3 ∨ k = 4 ∨ k = 5 := by omega
      rcases this with rfl | rfl | rfl | rfl | rfl | rfl <;> decide
    have hnx : Hid ((2 : Int) ^ (k + 1) = 2 * 2 ^ k) := by rw [Int.pow_succ]; exact Int.mul_comm _ _
    have hq : Hid ((2 : Int) ^ k = 2 ^ k) := rfl
    generalize hqq : (2 : Int) ^ k = q at hp hp0 hnx ⊢
    have Hq := hide hqq
    clear hqq hq
    by_cases hkn : k < n
    · go_wp2_with fail
      go_roundw
      case rel => exact ⟨k + 1, by omega, by simp, by rw [hnx.out]; congr 1; omega, trivial⟩
      case measure => simp [intOf]; omega
    · have hkk : k = n := by omega
      have hkk' := hide hkk
      clear hkk
      have hge : ¬ ((k : Int) < (n : Int)) := by omega
      go_wp2_with fail
      go_ret
      refine ⟨ret_int ?_, rfl⟩
      rw [← hkk'.out, Hq.out]

set_option maxRecDepth 100000 in
set_option maxHeartbeats 400000 in
theorem refSlots_any (c : Int) (w : World) : Calls Try.prog 22 #[.int .i64 c] w fun r w' => r = .returned (.int .i64 (sl c)) ∧ w = w' := by
  have hs := fun w => refSlotBytes_any c w
  by_cases hc : 0 ≤ c ∧ c < 6
  · rcases class_ways c hc.1 hc.2 with ⟨rfl, e, e2⟩ | ⟨rfl, e, e2⟩ | ⟨rfl, e, e2⟩ | ⟨rfl, e, e2⟩ | ⟨rfl, e, e2⟩ | ⟨rfl, e, e2⟩
    all_goals
      rw [e2]
      rw [e] at hs
      clear e e2 hc
      go_enter Try.func22, Try.ntmps22
      go_wp2_with (go_at_call 24; refine (hs _).mono ?_; rintro r w' ⟨rfl, rfl⟩)
      go_ret
      exact ⟨rfl, rfl⟩
  · rw [(class_none c hc).2]
    rw [(class_none c hc).1] at hs
    clear hc
    go_enter Try.func22, Try.ntmps22
    go_wp2_with (go_at_call 24; refine (hs _).mono ?_; rintro r w' ⟨rfl, rfl⟩)
    go_ret
    exact ⟨rfl, rfl⟩

theorem slot_small (c s : Int) (h0 : 0 ≤ s) (h : s < sl c) : 0 ≤ s * sb c ∧ s * sb c < 1024 := by
  by_cases hc : 0 ≤ c ∧ c < 6
  · rcases class_ways c hc.1 hc.2 with ⟨_, e, e2⟩ | ⟨_, e, e2⟩ | ⟨_, e, e2⟩ | ⟨_, e, e2⟩ | ⟨_, e, e2⟩ | ⟨_, e, e2⟩
    all_goals
      rw [e2] at h
      rw [e]
      omega
  · rw [(class_none c hc).2] at h
    omega

set_option maxRecDepth 100000 in
set_option maxHeartbeats 400000 in
theorem slotAt_yes (a0 a1 a2 a3 a4 a5 e c s : Int) (w : World) (h : okE a4 e) (h0 : 0 ≤ s) (h1 : s < sl c) : Calls Try.prog 19 #[.agg #[.int .i64 a0, .int .i64 a1, .int .i64 a2, .int .i64 a3, .int .i64 a4, .int .i64 a5], .int .i64 e, .int .i64 c, .int .i64 s] w fun r w' => r = .returned (.tuple #[.int .i64 (a4 + 4 * e + s * sb c / 256), .int .i64 (s * sb c % 256)]) ∧ Below w.heap.size w w' := by
  have hx := fun w => extent_yes a0 a1 a2 a3 a4 a5 e w h
  have hs := fun w => slots_any c w
  have hb := fun w => slotBytes_any c w
  have hz := slot_small c s h0 h1
  unfold okE at h
  have hw : IntKind.i64.wrap (s * sb c) = s * sb c := by rw [IntKind.wrap_i64]; omega
  have hy := fun w => byteAt_any (a4 + 4 * e) (s * sb c) w (by omega) (by omega) (by omega) (by omega)
  generalize sb c = q at *
  generalize sl c = m at *
  clear hz
  have hne : (a4 + 4 * e == -1) = false := by simp; omega
  go_enter Try.func19, Try.ntmps19
  go_wp2_with (go_at_call 17; refine (hx _).mono ?_; rintro r w1 ⟨rfl, hb1⟩; have hB1 : Below w.heap.size w w1 := ((Below.refl _ w).alloc (Nat.le_refl _) _).trans (hb1.mono (by simp)); clear hb1)
  go_wp2_with (go_at_call 21; refine (hs _).mono ?_; rintro r w2 ⟨rfl, rfl⟩)
  go_wp2_with (go_at_call 23; refine (hb _).mono ?_; rintro r w3 ⟨rfl, rfl⟩)
  go_wp2_with (go_at_call 34; refine (hy _).mono ?_; rintro r w4 ⟨rfl, rfl⟩)
  go_ret2
  exact ⟨rfl, hB1⟩

set_option maxRecDepth 100000 in
set_option maxHeartbeats 400000 in
theorem slotAt_no (a0 a1 a2 a3 a4 a5 e c s : Int) (w : World) (h : ¬ (okE a4 e ∧ 0 ≤ s ∧ s < sl c)) : Calls Try.prog 19 #[.agg #[.int .i64 a0, .int .i64 a1, .int .i64 a2, .int .i64 a3, .int .i64 a4, .int .i64 a5], .int .i64 e, .int .i64 c, .int .i64 s] w fun r w' => r = .returned (.tuple #[.int .i64 (-1), .int .i64 0]) ∧ Below w.heap.size w w' := by
  have hs := fun w => slots_any c w
  by_cases h1 : okE a4 e
  · have hx := fun w => extent_yes a0 a1 a2 a3 a4 a5 e w h1
    unfold okE at h1
    have hne : ¬ (a4 + 4 * e = -1) := by omega
    by_cases h2 : s < 0
    · clear h
      go_enter Try.func19, Try.ntmps19
      go_wp2_with (go_at_call 17; refine (hx _).mono ?_; rintro r w1 ⟨rfl, hb1⟩; have hB1 : Below w.heap.size w w1 := ((Below.refl _ w).alloc (Nat.le_refl _) _).trans (hb1.mono (by simp)); clear hb1)
      go_ret2
      exact ⟨rfl, hB1⟩
    · have h3 : sl c ≤ s := by
        rcases Int.lt_or_le s (sl c) with h4 | h4
        · exact absurd ⟨h1, by omega, h4⟩ h
        · exact h4
      clear h
      generalize sl c = m at *
      go_enter Try.func19, Try.ntmps19
      go_wp2_with (go_at_call 17; refine (hx _).mono ?_; rintro r w1 ⟨rfl, hb1⟩; have hB1 : Below w.heap.size w w1 := ((Below.refl _ w).alloc (Nat.le_refl _) _).trans (hb1.mono (by simp)); clear hb1)
      go_wp2_with (go_at_call 21; refine (hs _).mono ?_; rintro r w2 ⟨rfl, rfl⟩)
      go_ret2
      exact ⟨rfl, hB1⟩
  · have hx := fun w => extent_no a0 a1 a2 a3 a4 a5 e w h1
    clear h h1
    go_enter Try.func19, Try.ntmps19
    go_wp2_with (go_at_call 17; refine (hx _).mono ?_; rintro r w1 ⟨rfl, hb1⟩; have hB1 : Below w.heap.size w w1 := ((Below.refl _ w).alloc (Nat.le_refl _) _).trans (hb1.mono (by simp)); clear hb1)
    go_ret2
    exact ⟨rfl, hB1⟩

set_option maxRecDepth 100000 in
set_option maxHeartbeats 400000 in
theorem refSlotAt_yes (a0 a1 a2 a3 a4 a5 e c s : Int) (w : World) (h : okE a4 e) (h0 : 0 ≤ s) (h1 : s < sl c) : Calls Try.prog 20 #[.agg #[.int .i64 a0, .int .i64 a1, .int .i64 a2, .int .i64 a3, .int .i64 a4, .int .i64 a5], .int .i64 e, .int .i64 c, .int .i64 s] w fun r w' => r = .returned (.tuple #[.int .i64 (a4 + 4 * e + s * sb c / 256), .int .i64 (s * sb c % 256)]) ∧ Below w.heap.size w w' := by
  have hx := fun w => refExtent_yes a0 a1 a2 a3 a4 a5 e w h
  have hs := fun w => refSlots_any c w
  have hb := fun w => refSlotBytes_any c w
  have hz := slot_small c s h0 h1
  unfold okE at h
  have hw : IntKind.i64.wrap (s * sb c) = s * sb c := by rw [IntKind.wrap_i64]; omega
  have hw2 : IntKind.i64.wrap (a4 + 4 * e + s * sb c / 256) = a4 + 4 * e + s * sb c / 256 := by rw [IntKind.wrap_i64]; omega
  generalize sb c = q at *
  generalize sl c = m at *
  have hG := PlanAt.new w a0 a1 a2 a3 a4 a5
  go_enter Try.func20, Try.ntmps20
  go_wp2_with (go_at_call 18; refine (hx _).mono ?_; rintro r w1 ⟨rfl, hb1⟩; have hB1 : Below w.heap.size w w1 := ((Below.refl _ w).alloc (Nat.le_refl _) _).trans (hb1.mono (by simp)); obtain ⟨c0, c1, c2, c3, c4, c5, f0, f1, f2, f3, f4, f5, lp⟩ := hG.mono hb1; clear hb1)
  go_wp2_with (go_at_call 22; refine (hs _).mono ?_; rintro r w2 ⟨rfl, rfl⟩)
  go_wp2_with (go_at_call 24; refine (hb _).mono ?_; rintro r w3 ⟨rfl, rfl⟩)
  go_wp2_with (go_at_call 18; refine (hx _).mono ?_; rintro r w4 ⟨rfl, hb4⟩; have hB4 : Below w.heap.size w w4 := hB1.trans (hb4.mono (by omega)); clear hb4)
  go_ret2
  exact ⟨rfl, hB4⟩

set_option maxRecDepth 100000 in
set_option maxHeartbeats 400000 in
theorem refSlotAt_no (a0 a1 a2 a3 a4 a5 e c s : Int) (w : World) (h : ¬ (okE a4 e ∧ 0 ≤ s ∧ s < sl c)) : Calls Try.prog 20 #[.agg #[.int .i64 a0, .int .i64 a1, .int .i64 a2, .int .i64 a3, .int .i64 a4, .int .i64 a5], .int .i64 e, .int .i64 c, .int .i64 s] w fun r w' => r = .returned (.tuple #[.int .i64 (-1), .int .i64 0]) ∧ Below w.heap.size w w' := by
  have hs := fun w => refSlots_any c w
  by_cases h1 : okE a4 e
  · have hx := fun w => refExtent_yes a0 a1 a2 a3 a4 a5 e w h1
    unfold okE at h1
    have hne : ¬ (a4 + 4 * e < 0) := by omega
    by_cases h2 : s < 0
    · clear h
      go_enter Try.func20, Try.ntmps20
      go_wp2_with (go_at_call 18; refine (hx _).mono ?_; rintro r w1 ⟨rfl, hb1⟩; have hB1 : Below w.heap.size w w1 := ((Below.refl _ w).alloc (Nat.le_refl _) _).trans (hb1.mono (by simp)); clear hb1)
      go_ret2
      exact ⟨rfl, hB1⟩
    · have h3 : sl c ≤ s := by
        rcases Int.lt_or_le s (sl c) with h4 | h4
        · exact absurd ⟨h1, by omega, h4⟩ h
        · exact h4
      clear h
      generalize sl c = m at *
      go_enter Try.func20, Try.ntmps20
      go_wp2_with (go_at_call 18; refine (hx _).mono ?_; rintro r w1 ⟨rfl, hb1⟩; have hB1 : Below w.heap.size w w1 := ((Below.refl _ w).alloc (Nat.le_refl _) _).trans (hb1.mono (by simp)); clear hb1)
      go_wp2_with (go_at_call 22; refine (hs _).mono ?_; rintro r w2 ⟨rfl, rfl⟩)
      go_ret2
      exact ⟨rfl, hB1⟩
  · have hx := fun w => refExtent_no a0 a1 a2 a3 a4 a5 e w h1
    clear h h1
    go_enter Try.func20, Try.ntmps20
    go_wp2_with (go_at_call 18; refine (hx _).mono ?_; rintro r w1 ⟨rfl, hb1⟩; have hB1 : Below w.heap.size w w1 := ((Below.refl _ w).alloc (Nat.le_refl _) _).trans (hb1.mono (by simp)); clear hb1)
    go_ret2
    exact ⟨rfl, hB1⟩

end Go.Proofs.Ytecbcjdihnbdhaa
