/- Contracts: word.TakeUvar, atticref01.TakeUvar. -/
import Derived.Test.YtiloaehomdlokaaC4
set_option linter.unusedSimpArgs false
set_option linter.unusedVariables false
namespace Go.Proofs.Ytiloaehomdlokaa
open Go.RowKit Go.Attic

def takeE (r : Nat × Nat × Int) : Ending := .returned (.tuple #[.int .u64 (r.1 : Int), .int .i64 (r.2.1 : Int), .int .i64 r.2.2])

set_option maxRecDepth 100000 in
set_option maxHeartbeats 400000 in
theorem take_any (v : Value) (l : List Nat) (w : World) (h : Bs w v l) (hlen : l.length ≤ 140737488355328) :
    Calls Try.prog 17 #[v] w fun e w' => e = takeE (takeN l) ∧ w = w' := by
  have hlt := h.lt
  obtain ⟨ao, cap, rfl, hl, hnn, hx, hc⟩ := h
  go_enter Try.func17, Try.ntmps17
  go_wp2
  go_loop [5, 10] (fun s i => ∃ k : Nat, k ≤ l.length ∧ k ≤ 9 ∧ i = .int .i64 k ∧ s = .int .u64 (takeV l k : Nat) ∧ takeN l = takeA l (10 - k) k) (fun _ i => l.length - (intOf i).toNat)
  case atStart => exact ⟨0, Nat.zero_le _, by omega, rfl, rfl, rfl⟩
  case round =>
    obtain ⟨k, hk, hk9, rfl, rfl, htk⟩ := hrel
    rw [show 10 - k = (9 - k) + 1 by omega, takeA] at htk
    have Htk : Hid _ := htk
    clear htk
    by_cases hkn : k < l.length
    · obtain ⟨b, off, rfl, hcell⟩ := hc (by omega)
      have hck := hcell k hkn
      have hcl := getD_lt hlt k
      have hva := takeV_lt l k
      have hv64 := takeV_lt64 l k hk9
      have Hnx : Hid (takeV l (k + 1) = takeV l k + l.getD k 0 % 128 * 2 ^ (7 * k)) := rfl
      generalize l.getD k 0 = c at hck hcl hv64 Htk Hnx
      generalize takeV l k = a at *
      have Hva : Hid _ := hva
      have Hv64 : Hid _ := hv64
      have ha := and127 c hcl
      clear hcell hc hva hv64
      by_cases h9 : k = 9 ∧ 1 < c
      · obtain ⟨rfl, hc1⟩ := h9
        have Htn : Hid (takeN l = (0, 0, 13)) := by
          have := Htk.out; rw [if_neg (by omega), if_pos (by omega)] at this; exact this
        clear Htk
        go_wp2
        go_ret3
        exact ⟨by rw [Htn.out]; rfl, rfl⟩
      · have Hsum : Hid _ := Hv64.out (by omega)
        by_cases h128 : 128 ≤ c
        · have Htn : Hid (takeN l = takeA l (9 - k) (k + 1)) := by
            have := Htk.out; rw [if_neg (by omega), if_neg (by omega), if_neg (by omega)] at this; exact this
          clear Htk
          go_wp2
          go_round
          case rel =>
            refine ⟨k + 1, by omega, by omega, by go_num, ?_, by rw [Htn.out]; congr 1; omega⟩
            rw [show ((c : Int) % 128) = ((c % 128 : Nat) : Int) by omega, take_or a (c % 128) k Hva.out Hsum.out, Hnx.out]
          case measure => simp [intOf]; omega
        · by_cases h0 : 0 < k ∧ c = 0
          · obtain ⟨h01, rfl⟩ := h0
            have Htn : Hid (takeN l = (0, 0, 13)) := by
              have := Htk.out; rw [if_neg (by omega), if_pos (by omega)] at this; exact this
            clear Htk
            go_wp2
            all_goals (go_ret3; exact ⟨by rw [Htn.out]; rfl, rfl⟩)
          · have Htn : Hid (takeN l = (takeV l (k + 1), k + 1, 0)) := by
              have := Htk.out; rw [if_neg (by omega), if_neg (by omega), if_pos (by omega)] at this; exact this
            clear Htk
            rcases Nat.lt_or_ge k 9 with hk' | hk'
            · have hk9b : ((k : Int) == 9) = false := by simp; omega
              go_wp2
              all_goals
                go_ret3
                refine ⟨?_, rfl⟩
                rw [Htn.out, takeE]
                simp only [Hnx.out]
                show Ending.returned (.tuple #[.int .u64 (bits .or .u64 (a : Int) (IntKind.u64.wrap ((c : Int) % 128 * 2 ^ (7 * k)))), .int .i64 (k + 1), .int .i64 0]) = _
                rw [show ((c : Int) % 128) = ((c % 128 : Nat) : Int) by omega, take_or a (c % 128) k Hva.out Hsum.out]
                rfl
            · obtain rfl : k = 9 := by omega
              have hc1 : c ≤ 1 := by omega
              go_wp2
              all_goals
                go_ret3
                refine ⟨?_, rfl⟩
                rw [Htn.out, takeE]
                simp only [Hnx.out]
                show Ending.returned (.tuple #[.int .u64 (bits .or .u64 (a : Int) ((c : Int) % 128 * 9223372036854775808)), .int .i64 10, .int .i64 0]) = _
                rw [take_or9 a c Hva.out hc1]
                rfl
    · have Htn : Hid (takeN l = (0, 0, 10)) := by
        have := Htk.out; rw [if_pos (by omega)] at this; exact this
      clear Htk
      go_wp2
      go_ret3
      exact ⟨by rw [Htn.out]; rfl, rfl⟩

set_option maxRecDepth 100000 in
set_option maxHeartbeats 400000 in
theorem rtake_any (v : Value) (l : List Nat) (w : World) (h : Bs w v l) (hlen : l.length ≤ 140737488355328) :
    Calls Try.prog 18 #[v] w fun e w' => e = takeE (takeN l) ∧ w = w' := by
  have hlt := h.lt
  obtain ⟨ao, cap, rfl, hl, hnn, hx, hc⟩ := h
  go_enter Try.func18, Try.ntmps18
  go_wp2
  go_loop [5, 6] (fun s i => ∃ k : Nat, k ≤ l.length ∧ k ≤ 9 ∧ i = .int .i64 k ∧ s = .int .u64 (takeV l k : Nat) ∧ takeN l = takeA l (10 - k) k) (fun _ i => l.length - (intOf i).toNat)
  case atStart => exact ⟨0, Nat.zero_le _, by omega, rfl, rfl, rfl⟩
  case round =>
    obtain ⟨k, hk, hk9, rfl, rfl, htk⟩ := hrel
    rw [show 10 - k = (9 - k) + 1 by omega, takeA] at htk
    have Htk : Hid _ := htk
    clear htk
    by_cases hkn : k < l.length
    · obtain ⟨b, off, rfl, hcell⟩ := hc (by omega)
      have hck := hcell k hkn
      have hcl := getD_lt hlt k
      have hva := takeV_lt l k
      have hv64 := takeV_lt64 l k hk9
      have Hnx : Hid (takeV l (k + 1) = takeV l k + l.getD k 0 % 128 * 2 ^ (7 * k)) := rfl
      generalize l.getD k 0 = c at hck hcl hv64 Htk Hnx
      generalize takeV l k = a at *
      have Hva : Hid _ := hva
      have Hv64 : Hid _ := hv64
      clear hcell hc hva hv64
      by_cases h9 : k = 9 ∧ 1 < c
      · obtain ⟨rfl, hc1⟩ := h9
        have Htn : Hid (takeN l = (0, 0, 13)) := by
          have := Htk.out; rw [if_neg (by omega), if_pos (by omega)] at this; exact this
        clear Htk
        go_wp2
        go_ret3
        exact ⟨by rw [Htn.out]; rfl, rfl⟩
      · have Hsum : Hid _ := Hv64.out (by omega)
        by_cases h128 : 128 ≤ c
        · have Htn : Hid (takeN l = takeA l (9 - k) (k + 1)) := by
            have := Htk.out; rw [if_neg (by omega), if_neg (by omega), if_neg (by omega)] at this; exact this
          clear Htk
          go_wp2
          all_goals
           go_round
           case rel =>
            refine ⟨k + 1, by omega, by omega, by go_num, ?_, by rw [Htn.out]; congr 1; omega⟩
            rw [show ((c : Int) % 128) = ((c % 128 : Nat) : Int) by omega, take_add a (c % 128) k Hsum.out, Hnx.out]
           case measure => simp [intOf]; omega
        · by_cases h0 : 0 < k ∧ c = 0
          · obtain ⟨h01, rfl⟩ := h0
            have Htn : Hid (takeN l = (0, 0, 13)) := by
              have := Htk.out; rw [if_neg (by omega), if_pos (by omega)] at this; exact this
            clear Htk
            go_wp2
            all_goals (go_ret3; exact ⟨by rw [Htn.out]; rfl, rfl⟩)
          · have Htn : Hid (takeN l = (takeV l (k + 1), k + 1, 0)) := by
              have := Htk.out; rw [if_neg (by omega), if_neg (by omega), if_pos (by omega)] at this; exact this
            clear Htk
            rcases Nat.lt_or_ge k 9 with hk' | hk'
            · have hk9b : ((k : Int) == 9) = false := by simp; omega
              go_wp2
              all_goals
                go_ret3
                refine ⟨?_, rfl⟩
                rw [Htn.out, takeE]
                simp only [Hnx.out]
                show Ending.returned (.tuple #[.int .u64 (IntKind.u64.wrap ((a : Int) + IntKind.u64.wrap ((c : Int) % 128 * 2 ^ (7 * k)))), .int .i64 (k + 1), .int .i64 0]) = _
                rw [show ((c : Int) % 128) = ((c % 128 : Nat) : Int) by omega, take_add a (c % 128) k Hsum.out]
                rfl
            · obtain rfl : k = 9 := by omega
              have hc1 : c ≤ 1 := by omega
              have hc0 : ((c : Int) == 0) = false := by simp; omega
              have hc2 : decide ((1 : Int) < c) = false := by simp; omega
              go_wp2
              all_goals
                go_ret3
                refine ⟨?_, rfl⟩
                rw [Htn.out, takeE]
                simp only [Hnx.out]
                show Ending.returned (.tuple #[.int .u64 (IntKind.u64.wrap ((a : Int) + (c : Int) % 128 * 9223372036854775808)), .int .i64 10, .int .i64 0]) = _
                rw [take_add9 a c Hva.out hc1, wrap_u64 _ Hsum.out]
                rfl
    · have Htn : Hid (takeN l = (0, 0, 10)) := by
        have := Htk.out; rw [if_pos (by omega)] at this; exact this
      clear Htk
      go_wp2
      go_ret3
      exact ⟨by rw [Htn.out]; rfl, rfl⟩

end Go.Proofs.Ytiloaehomdlokaa
