/- Contracts: word.Sum, atticref01.Sum. -/
import Derived.Test.YtiloaehomdlokaaC2
set_option linter.unusedSimpArgs false
set_option linter.unusedVariables false
namespace Go.Proofs.Ytiloaehomdlokaa
open Go.RowKit Go.Attic

set_option maxHeartbeats 400000 in
theorem sum_any (v : Value) (l : List Nat) (w : World) (h : Bs w v l) (hlen : l.length ≤ 140737488355328) :
    Calls Try.prog 24 #[v] w fun e w' => e = .returned (.int .u32 (sumN l : Nat)) ∧ w = w' := by
  have hlt := h.lt
  obtain ⟨ao, cap, rfl, hl, hnn, hx, hc⟩ := h
  go_enter Try.func24, Try.ntmps24
  go_wp2
  go_loop [3, 8] (fun s i => ∃ k : Nat, k ≤ l.length ∧ i = .int .i64 k ∧ s = .int .u32 (crcN 4294967295 (l.take k) : Nat)) (fun _ i => l.length - (intOf i).toNat)
  case atStart => exact ⟨0, Nat.zero_le _, rfl, by simp [crcN]⟩
  case round =>
    obtain ⟨k, hk, rfl, rfl⟩ := hrel
    have hs : crcN 4294967295 (l.take k) < 2 ^ 32 := crcN_lt (by omega) _ (fun x hx => hlt x (List.mem_of_mem_take hx))
    generalize hcs : crcN 4294967295 (l.take k) = s at *
    have Hcs : Hid _ := hcs
    clear hcs
    by_cases hkn : k < l.length
    · obtain ⟨b, off, rfl, hcell⟩ := hc (by omega)
      have hck := hcell k hkn
      have hcl := getD_lt hlt k
      have hsn := crcN_snoc l k hkn
      rw [Hcs.out] at hsn
      generalize l.getD k 0 = c at hck hcl hsn
      have Hsn : Hid _ := hsn
      clear hsn hcell hc
      go_wp2
      rw [xor_byte s c hs hcl]
      go_loop [3, 16] (fun t i => ∃ j : Nat, j ≤ 8 ∧ i = .int .i64 j ∧ t = .int .u32 (stepsN j (s ^^^ c) : Nat)) (fun _ i => 8 - (intOf i).toNat)
      case atStart => exact ⟨0, Nat.zero_le _, rfl, rfl⟩
      case round =>
        obtain ⟨j, hj, rfl, rfl⟩ := hrel
        have ht := stepsN_lt (xor_lt32 hs (show c < 2 ^ 32 by omega)) j
        by_cases hj8 : j < 8
        · go_wp2
          go_round
          case rel => exact ⟨j + 1, by omega, by go_num, by rw [step_mask _ ht]; rfl⟩
          case measure => simp [intOf]; omega
        · obtain rfl : j = 8 := by omega
          go_wp2
          go_round
          case rel => exact ⟨k + 1, by omega, by go_num, by rw [Hsn.out]⟩
          case measure => simp [intOf]; omega
    · go_wp2
      go_ret
      refine ⟨?_, rfl⟩
      obtain rfl : k = l.length := by omega
      have e : s = crcN 4294967295 l := by rw [← Hcs.out, List.take_length]
      show Ending.returned (Value.int .u32 (bits BinOp.xor IntKind.u32 IntKind.u32.max (s : Int))) = _
      rw [not_u32 s hs, e]
      rfl

set_option maxHeartbeats 400000 in
theorem rsum_any (v : Value) (l : List Nat) (w : World) (h : Bs w v l) (hlen : l.length ≤ 140737488355328) :
    Calls Try.prog 25 #[v] w fun e w' => e = .returned (.int .u32 (sumN l : Nat)) ∧ w = w' := by
  have hlt := h.lt
  obtain ⟨ao, cap, rfl, hl, hnn, hx, hc⟩ := h
  go_enter Try.func25, Try.ntmps25
  go_wp2
  go_loop [3, 4] (fun s i => ∃ k : Nat, k ≤ l.length ∧ i = .int .i64 k ∧ s = .int .u32 (crcN 4294967295 (l.take k) : Nat)) (fun _ i => l.length - (intOf i).toNat)
  case atStart => exact ⟨0, Nat.zero_le _, rfl, by simp [crcN]⟩
  case round =>
    obtain ⟨k, hk, rfl, rfl⟩ := hrel
    have hs : crcN 4294967295 (l.take k) < 2 ^ 32 := crcN_lt (by omega) _ (fun x hx => hlt x (List.mem_of_mem_take hx))
    generalize hcs : crcN 4294967295 (l.take k) = s at *
    have Hcs : Hid _ := hcs
    clear hcs
    by_cases hkn : k < l.length
    · obtain ⟨b, off, rfl, hcell⟩ := hc (by omega)
      have hck := hcell k hkn
      have hcl := getD_lt hlt k
      have hsn := crcN_snoc l k hkn
      rw [Hcs.out] at hsn
      generalize l.getD k 0 = c at hck hcl hsn
      have Hsn : Hid _ := hsn
      clear hsn hcell hc
      go_wp2
      rw [xor_byte s c hs hcl]
      go_loop [3, 5] (fun t i => ∃ j : Nat, j ≤ 8 ∧ i = .int .i64 j ∧ t = .int .u32 (stepsN j (s ^^^ c) : Nat)) (fun _ i => 8 - (intOf i).toNat)
      case atStart => exact ⟨0, Nat.zero_le _, rfl, rfl⟩
      case round =>
        obtain ⟨j, hj, rfl, rfl⟩ := hrel
        have ht := stepsN_lt (xor_lt32 hs (show c < 2 ^ 32 by omega)) j
        by_cases hj8 : j < 8
        · by_cases h2 : stepsN j (s ^^^ c) % 2 = 1
          · go_wp2
            go_round
            case rel => exact ⟨j + 1, by omega, by go_num, by rw [step_one _ ht h2]; rfl⟩
            case measure => simp [intOf]; omega
          · go_wp2
            go_round
            case rel => exact ⟨j + 1, by omega, by go_num, by rw [step_zero _ (by omega)]; rfl⟩
            case measure => simp [intOf]; omega
        · obtain rfl : j = 8 := by omega
          go_wp2
          go_round
          case rel => exact ⟨k + 1, by omega, by go_num, by rw [Hsn.out]⟩
          case measure => simp [intOf]; omega
    · go_wp2
      go_ret
      refine ⟨?_, rfl⟩
      obtain rfl : k = l.length := by omega
      have e : s = crcN 4294967295 l := by rw [← Hcs.out, List.take_length]
      show Ending.returned (Value.int .u32 (bits BinOp.xor IntKind.u32 IntKind.u32.max (s : Int))) = _
      rw [not_u32 s hs, e]
      rfl

end Go.Proofs.Ytiloaehomdlokaa
