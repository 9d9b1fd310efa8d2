/- Contracts: bits.Next, atticref02.Next, bits.Check, atticref02.Check. -/
import Derived.Test.YtkdajahcadjpfaaC3
set_option linter.unusedSimpArgs false
set_option linter.unusedVariables false
namespace Go.Proofs.Ytkdajahcadjpfaa
open Go.RowKit Go.Attic

theorem next_at {l : List Nat} {n fr : Int} {is : Bool} {k : Nat} (hk : (k : Int) < min n (8 * l.length))
    (h : nx l is (min n (8 * l.length) - max fr 0).toNat (max fr 0).toNat = nx l is (min n (8 * l.length) - k).toNat k) (hb : bitB l k = is) : nextI l n fr is = k := by
  unfold nextI
  dsimp only
  have e : (min n (8 * (l.length : Int)) - k).toNat = ((min n (8 * (l.length : Int)) - k).toNat - 1) + 1 := by omega
  rw [h, e, nx, if_pos hb, if_pos hk]
theorem next_go {l : List Nat} {m : Int} {is : Bool} {k : Nat} (hk : (k : Int) < m) (hb : bitB l k ≠ is) : nx l is (m - k).toNat k = nx l is (m - (k + 1 : Nat)).toNat (k + 1) := by
  have e : (m - k).toNat = (m - (k + 1 : Nat)).toNat + 1 := by omega
  rw [e, nx, if_neg hb]
theorem next_end {l : List Nat} {n fr : Int} {is : Bool} {k : Nat} (hk : min n (8 * l.length) ≤ (k : Int))
    (h : nx l is (min n (8 * l.length) - max fr 0).toNat (max fr 0).toNat = nx l is (min n (8 * l.length) - k).toNat k) : nextI l n fr is = if is then n else min n (max (max fr 0) (8 * l.length)) := by
  unfold nextI
  dsimp only
  have e : (min n (8 * (l.length : Int)) - k).toNat = 0 := by omega
  rw [h, e, nx, if_neg (by omega)]

set_option maxRecDepth 100000 in
set_option maxHeartbeats 400000 in
theorem next_any (v : Value) (l : List Nat) (n fr : Int) (is : Bool) (w : World) (h : Bs w v l) (hlen : l.length ≤ 140737488355328) :
    Calls Try.prog 27 #[v, .int .i64 n, .int .i64 fr, .bool is] w fun e w' => e = .returned (.int .i64 (nextI l n fr is)) ∧ w = w' := by
  obtain ⟨a, ha⟩ : ∃ a : Nat, max fr 0 = (a : Int) := ⟨(max fr 0).toNat, by omega⟩
  have ha2 : (if fr < 0 then (0 : Int) else fr) = (a : Int) := by split <;> omega
  obtain ⟨m, hm⟩ : ∃ m : Int, min n (8 * l.length) = m := ⟨_, rfl⟩
  have hm2 : (if 8 * (l.length : Int) < n then 8 * (l.length : Int) else n) = m := by split <;> omega
  have Hat := fun k => hide (@next_at l n fr is k)
  have Hend := fun k => hide (@next_end l n fr is k)
  rw [hm, ha] at Hat Hend
  have hm3 : m ≤ 8 * l.length := by omega
  have Hm := hide hm
  clear ha hm
  go_enter Try.func27, Try.ntmps27
  go_wp2_with (go_at_call 42; refine (bitsOf_any _ l _ h hlen).mono ?_; rintro e w' ⟨rfl, rfl⟩)
  go_loop [11] (fun i => ∃ k : Nat, a ≤ k ∧ i = .int .i64 k ∧ (k ≤ a ∨ (k : Int) ≤ m) ∧ nx l is (m - a).toNat (Int.toNat a) = nx l is (m - k).toNat k) (fun i => (m - intOf i).toNat)
  case atStart => exact ⟨a, Nat.le_refl _, rfl, .inl (Nat.le_refl _), rfl⟩
  case round =>
    obtain ⟨k, hk, rfl, hka, hnx⟩ := hrel
    by_cases hkm : (k : Int) < m
    · have hg := get_any v l k w h hlen
      rw [getI_nat] at hg
      by_cases hbit : bitB l k = is
      · rw [hbit] at hg
        go_wp2_with (go_at_call 22; refine hg.mono ?_; rintro e w' ⟨rfl, rfl⟩)
        go_ret
        exact ⟨ret_int ((Hat k).out hkm hnx hbit).symm, rfl⟩
      · have hbit2 : bitB l k = !is := by cases is <;> simp_all
        rw [hbit2] at hg
        have hgo := next_go hkm hbit
        have Hgo := hide (hnx.trans hgo)
        clear hgo hnx hbit hbit2 Hat Hend
        cases is with
        | true =>
          go_wp2_with (go_at_call 22; refine hg.mono ?_; rintro e w' ⟨rfl, rfl⟩)
          go_round
          case rel => exact ⟨k + 1, by omega, by go_num, .inr (by omega), Hgo.out⟩
          case measure => simp [intOf]; omega
        | false =>
          go_wp2_with (go_at_call 22; refine hg.mono ?_; rintro e w' ⟨rfl, rfl⟩)
          go_round
          case rel => exact ⟨k + 1, by omega, by go_num, .inr (by omega), Hgo.out⟩
          case measure => simp [intOf]; omega
    · have Hr := hide ((Hend k).out (by omega) hnx)
      clear hnx Hat Hend
      cases is with
      | true =>
        go_wp2_with fail
        go_ret
        exact ⟨ret_int (by rw [Hr.out]; simp), rfl⟩
      | false =>
        go_wp2_with fail
        all_goals
          go_ret
          exact ⟨ret_int (by rw [Hr.out]; simp only [Bool.false_eq_true, if_false]; omega), rfl⟩

set_option maxRecDepth 100000 in
set_option maxHeartbeats 400000 in
theorem rnext_any (v : Value) (l : List Nat) (n fr : Int) (is : Bool) (w : World) (h : Bs w v l) (hlen : l.length ≤ 140737488355328) :
    Calls Try.prog 28 #[v, .int .i64 n, .int .i64 fr, .bool is] w fun e w' => e = .returned (.int .i64 (nextI l n fr is)) ∧ w = w' := by
  obtain ⟨a, ha⟩ : ∃ a : Nat, max fr 0 = (a : Int) := ⟨(max fr 0).toNat, by omega⟩
  have ha2 : (if fr < 0 then (0 : Int) else fr) = (a : Int) := by split <;> omega
  obtain ⟨m, hm⟩ : ∃ m : Int, min n (8 * l.length) = m := ⟨_, rfl⟩
  have Hat := fun k => hide (@next_at l n fr is k)
  have Hend := fun k => hide (@next_end l n fr is k)
  rw [hm, ha] at Hat Hend
  have hm3 : m ≤ 8 * l.length := by omega
  have hm4 : m ≤ n := by omega
  have Hm := hide hm
  have h' := h
  obtain ⟨ao, cap, rfl, hl, hnn, hx, hc⟩ := h
  clear ha hm hc
  go_enter Try.func28, Try.ntmps28
  go_wp2_with fail
  go_loop [9] (fun i => ∃ k : Nat, a ≤ k ∧ i = .int .i64 k ∧ (k ≤ a ∨ (k : Int) ≤ m) ∧ nx l is (m - a).toNat (Int.toNat a) = nx l is (m - k).toNat k) (fun i => (m - intOf i).toNat)
  case atStart => exact ⟨a, Nat.le_refl _, rfl, .inl (Nat.le_refl _), rfl⟩
  case round =>
    obtain ⟨k, hk, rfl, hka, hnx⟩ := hrel
    by_cases hkm : (k : Int) < m
    · have hg := rget_any _ l k w h' hlen (by omega)
      rw [getI_nat] at hg
      have hkn : (k : Int) < n := by omega
      have hkl : (k : Int) < 8 * l.length := by omega
      by_cases hbit : bitB l k = is
      · rw [hbit] at hg
        go_wp2_with (go_at_call 23; refine hg.mono ?_; rintro e w' ⟨rfl, rfl⟩)
        go_ret
        exact ⟨ret_int ((Hat k).out hkm hnx hbit).symm, rfl⟩
      · have hbit2 : bitB l k = !is := by cases is <;> simp_all
        rw [hbit2] at hg
        have hgo := next_go hkm hbit
        have Hgo := hide (hnx.trans hgo)
        clear hgo hnx hbit hbit2 Hat Hend
        cases is with
        | true =>
          go_wp2_with (go_at_call 23; refine hg.mono ?_; rintro e w' ⟨rfl, rfl⟩)
          go_round
          case rel => exact ⟨k + 1, by omega, by go_num, .inr (by omega), Hgo.out⟩
          case measure => simp [intOf]; omega
        | false =>
          go_wp2_with (go_at_call 23; refine hg.mono ?_; rintro e w' ⟨rfl, rfl⟩)
          go_round
          case rel => exact ⟨k + 1, by omega, by go_num, .inr (by omega), Hgo.out⟩
          case measure => simp [intOf]; omega
    · have Hr := hide ((Hend k).out (by omega) hnx)
      clear hnx Hat Hend
      have hkk : n ≤ k ∨ 8 * (l.length : Int) ≤ k := by have := Hm.out; omega
      by_cases hkn : (k : Int) < n
      · have hkl : 8 * (l.length : Int) ≤ k := by omega
        clear hkk
        cases is with
        | true =>
          go_wp2_with fail
          all_goals
            go_ret
            exact ⟨ret_int (by rw [Hr.out]; simp), rfl⟩
        | false =>
          go_wp2_with fail
          all_goals
            go_ret
            exact ⟨ret_int (by rw [Hr.out]; simp only [Bool.false_eq_true, if_false]; omega), rfl⟩
      · clear hkk
        cases is with
        | true =>
          go_wp2_with fail
          all_goals
            go_ret
            exact ⟨ret_int (by rw [Hr.out]; simp), rfl⟩
        | false =>
          go_wp2_with fail
          all_goals
            go_ret
            exact ⟨ret_int (by rw [Hr.out]; simp only [Bool.false_eq_true, if_false]; omega), rfl⟩

end Go.Proofs.Ytkdajahcadjpfaa
