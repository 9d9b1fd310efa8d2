/- Contracts of the small functions: isWidth, bytes.Equal, word.Get, atticref01.Get. -/
import Derived.Test.YtiloaehomdlokaaRows
import Derived.Test.YtiloaehomdlokaaPure
import Derived.BigQuiet
set_option linter.unusedSimpArgs false
set_option linter.unusedVariables false
namespace Go.Proofs.Ytiloaehomdlokaa
open Go.RowKit Go.Attic

theorem Try.own : ownKnob Try.prog.godebug = none := by kernel_rfl
theorem Try.laidOut : laidOutB Try.prog = true := by kernel_rfl

set_option maxHeartbeats 400000 in
theorem isWidth_any (n : Int) (w : World) : Calls Try.prog 40 #[.int .i64 n] w fun e w' => e = .returned (.bool (widthB n)) ∧ w = w' := by
  by_cases h1 : 1 ≤ n
  · by_cases h2 : n ≤ 8
    · have h3 : widthB n = true := by simp [widthB, h1, h2]
      rw [h3]; clear h3
      go_enter Try.func40, Try.ntmps40
      go_wp2
      go_ret
      exact ⟨by simp, rfl⟩
    · have h3 : widthB n = false := by simp [widthB]; omega
      rw [h3]; clear h3
      go_enter Try.func40, Try.ntmps40
      go_wp2
      go_ret
      exact ⟨by simp, rfl⟩
  · have h3 : widthB n = false := by simp [widthB]; omega
    rw [h3]; clear h3
    go_enter Try.func40, Try.ntmps40
    go_wp2
    go_ret
    exact ⟨by simp, rfl⟩

theorem strB_beq {xs ys : List Nat} (hx : ∀ x ∈ xs, x < 256) (hy : ∀ x ∈ ys, x < 256) : ((strB xs).toList == (strB ys).toList) = decide (xs = ys) := by
  rw [Bool.eq_iff_iff]
  simp only [beq_iff_eq, decide_eq_true_eq]
  constructor
  · intro h
    apply strB_inj hx hy
    rw [ByteArray.toList_eq, ByteArray.toList_eq] at h
    rw [ByteArray.ext_iff]
    exact Array.toList_inj.1 h
  · intro h; rw [h]

set_option maxHeartbeats 400000 in
theorem equal_any (v1 v2 : Value) (xs ys : List Nat) (w : World) (h1 : Bs w v1 xs) (h2 : Bs w v2 ys) :
    Calls Try.prog 14 #[v1, v2] w fun e w' => e = .returned (.bool (decide (xs = ys))) ∧ w = w' := by
  have c1 := h1.convert (P := Try.prog) 22 5 9 Try.underlying22 Try.underlying5 Try.underlying9
  have c2 := h2.convert (P := Try.prog) 22 5 9 Try.underlying22 Try.underlying5 Try.underlying9
  have hb := strB_beq h1.lt h2.lt
  clear h1 h2
  go_enter Try.func14, Try.ntmps14
  go_wp2
  go_ret
  exact ⟨by simp, rfl⟩

set_option maxHeartbeats 400000 in
theorem get_yes (v : Value) (l : List Nat) (p n : Nat) (w : World) (h : Bs w v l) (hn : 1 ≤ n) (hn8 : n ≤ 8) (hp : p + n ≤ l.length) (hlen : l.length ≤ 140737488355328) :
    Calls Try.prog 11 #[v, .int .i64 p, .int .i64 n] w fun e w' => e = .returned (.tuple #[.int .u64 (getN l p n : Nat), .bool true]) ∧ w = w' := by
  have hlt := h.lt
  obtain ⟨ao, cap, rfl, hl, hnn, hx, hc⟩ := h
  obtain ⟨b, off, rfl, hcell⟩ := hc (by omega)
  have hw : widthB n = true := by simp [widthB]; omega
  go_enter Try.func11, Try.ntmps11
  go_wp2_with (go_at_call 40; refine (isWidth_any _ _).mono ?_; rintro e w' ⟨rfl, rfl⟩)
  go_loop [8, 26] (fun v i => ∃ k : Nat, k ≤ n ∧ i = .int .i64 k ∧ v = .int .u64 (getN l p k : Nat)) (fun _ i => n - (intOf i).toNat)
  case atStart => exact ⟨0, Nat.zero_le _, rfl, rfl⟩
  case round =>
    obtain ⟨k, hk, rfl, rfl⟩ := hrel
    by_cases hkn : k < n
    · have hck := hcell (p + k) (by omega)
      go_wp2
      go_round
      case rel => exact ⟨k + 1, by omega, by go_num, by rw [getN_or hlt p k (by omega)]⟩
      case measure => simp [intOf]; omega
    · go_wp2
      go_ret2
      obtain rfl : k = n := by omega
      exact ⟨rfl, rfl⟩

set_option maxHeartbeats 400000 in
theorem get_no (v : Value) (l : List Nat) (p n : Int) (w : World) (h : Bs w v l) (hlen : l.length ≤ 140737488355328) (hb : getB l p n = false) :
    Calls Try.prog 11 #[v, .int .i64 p, .int .i64 n] w fun e w' => e = .returned (.tuple #[.int .u64 0, .bool false]) ∧ w = w' := by
  obtain ⟨ao, cap, rfl, hl, hnn, hx, hc⟩ := h
  cases hw : widthB n with
  | false =>
    clear hb
    go_enter Try.func11, Try.ntmps11
    go_wp2_with (go_at_call 40; refine (isWidth_any _ _).mono ?_; rintro e w' ⟨rfl, rfl⟩)
    go_ret2
    exact ⟨rfl, rfl⟩
  | true =>
    have hw2 : 1 ≤ n ∧ n ≤ 8 := by simpa [widthB] using hw
    have hb2 : ¬ (0 ≤ p ∧ p + n ≤ l.length) := by simpa [getB, hw] using hb
    clear hb
    by_cases hp : p < 0
    · go_enter Try.func11, Try.ntmps11
      go_wp2_with (go_at_call 40; refine (isWidth_any _ _).mono ?_; rintro e w' ⟨rfl, rfl⟩)
      go_ret2
      exact ⟨rfl, rfl⟩
    · have hp2 : (l.length : Int) - n < p := by omega
      go_enter Try.func11, Try.ntmps11
      go_wp2_with (go_at_call 40; refine (isWidth_any _ _).mono ?_; rintro e w' ⟨rfl, rfl⟩)
      go_ret2
      exact ⟨rfl, rfl⟩

theorem get_any (v : Value) (l : List Nat) (p n : Int) (w : World) (h : Bs w v l) (hlen : l.length ≤ 140737488355328) :
    Calls Try.prog 11 #[v, .int .i64 p, .int .i64 n] w fun e w' => e = .returned (.tuple #[.int .u64 (getV l p n : Nat), .bool (getB l p n)]) ∧ w = w' := by
  cases hb : getB l p n with
  | false => simp only [getV, hb]; exact get_no v l p n w h hlen hb
  | true =>
    have hb2 := hb
    simp [getB, widthB] at hb2
    obtain ⟨⟨h1, h2⟩, h3, h4⟩ := hb2
    obtain ⟨p', rfl⟩ := Int.eq_ofNat_of_zero_le h3
    obtain ⟨n', rfl⟩ := Int.eq_ofNat_of_zero_le (show 0 ≤ n by omega)
    simp only [getV, hb, if_true, Int.toNat_natCast]
    exact get_yes v l p' n' w h (by omega) (by omega) (by omega) hlen
end Go.Proofs.Ytiloaehomdlokaa
