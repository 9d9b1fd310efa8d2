/- Contracts: atticref02.put, bits.New, atticref02.New, OnesCount8, bits.Count, atticref02.Count. -/
import Derived.Test.YtkdajahcadjpfaaC2
set_option linter.unusedSimpArgs false
set_option linter.unusedVariables false
namespace Go.Proofs.Ytkdajahcadjpfaa
open Go.RowKit Go.Attic

set_option maxRecDepth 100000 in
set_option maxHeartbeats 400000 in
theorem rputin_any (g cap i : Nat) (l : List Nat) (is : Bool) (base : Nat) (w : World) (h : w.ownsRow base 5 1 (.slice (some ⟨g, 0, none⟩) l.length cap) l.length (cellsB l)) (hx : ∀ x ∈ l, x < 256) (hi : i < 8 * l.length) (hlen : l.length ≤ 140737488355328) :
    Calls Try.prog 51 #[.slice (some ⟨g, 0, none⟩) l.length cap, .int .i64 i, .bool is] w fun e w' => e = .returned (.slice (some ⟨g, 0, none⟩) l.length cap) ∧
      w'.ownsRow base 5 1 (.slice (some ⟨g, 0, none⟩) l.length cap) l.length (cellsB (if is then putL l i true else l)) ∧ (∀ B, B ≤ g → Below B w w') := by
  have hc := owns_cell h rfl (i / 8) (by omega)
  have hf := h.frozenAt (i / 8)
  have hst := owns_put h i true
  have hxl := getD_lt hx (i / 8)
  have Hb : Hid (∀ B, B ≤ g → Below B w (w.setCell ⟨g, i / 8, none⟩ (.int .u8 ((setB (l.getD (i / 8) 0) (i % 8) true : Nat) : Int)))) := fun B hB => (Below.refl _ _).setCell (p := ⟨g, i / 8, none⟩) hB _
  generalize l.getD (i / 8) 0 = x at *
  have Hst := hide hst
  have Hown := hide h
  clear hst h
  cases is with
  | true =>
    simp only [if_true]
    go_enter Try.func51, Try.ntmps51
    go_wp2
    rw [or_set x _ hxl (by omega)]
    go_ret
    exact ⟨rfl, Hst.out, Hb.out⟩
  | false =>
    simp only [Bool.false_eq_true, if_false]
    go_enter Try.func51, Try.ntmps51
    go_wp2
    go_ret
    exact ⟨rfl, Hown.out, fun B hB => Below.refl _ _⟩

theorem made_zeros (n : Nat) : (madeCells (Value.int .u8 0).cells (n * 1)).toList = cellsB (zeros n) := by
  simp only [madeCells, zeros, cellsB, Value.cells, Nat.mul_one, Array.toList_map, Array.toList_range]
  apply List.ext_getElem (by simp)
  intro i h1 h2
  simp [Nat.mod_one]

def newE (n : Int) : Int := if sizeB n then 0 else 1
def newL (n : Int) : List Nat := if sizeB n then zeros ((n + 7) / 8).toNat else []
theorem newL_lt (n : Int) : ∀ x ∈ newL n, x < 256 := by unfold newL; split; exact zeros_lt _; simp

set_option maxRecDepth 100000 in
set_option maxHeartbeats 400000 in
theorem new_any (n : Int) (w : World) : Calls Try.prog 12 #[.int .i64 n] w (NewBsE w (newL n) (newE n)) := by
  obtain ⟨i0, hi, hz0, hz1, hz2⟩ := info_parts Try.info5
  cases hs : sizeB n with
  | false =>
    simp only [newL, newE, hs]
    go_enter Try.func12, Try.ntmps12
    go_wp2_with (go_at_call 40; refine (isSize_any _ _).mono ?_; rintro e w' ⟨rfl, rfl⟩)
    go_ret2
    exact ⟨_, rfl, World.ownsRow_nil _ _ _ _, Below.refl _ _⟩
  | true =>
    have hs2 : 0 ≤ n ∧ n ≤ 65536 := by simpa [sizeB] using hs
    simp only [newL, newE, hs, if_true]
    obtain ⟨m, hm⟩ : ∃ m : Nat, (n + 7) / 8 = m := ⟨((n + 7) / 8).toNat, by omega⟩
    have hm2 : m ≤ 8192 := by omega
    have Hm := hide hm
    rw [hm]; clear hm
    go_enter Try.func12, Try.ntmps12
    go_wp2_with (first
      | (go_at_call 40; refine (isSize_any _ _).mono ?_; rintro e w' ⟨rfl, rfl⟩)
      | (go_at_call 41; refine (bytesOf_any _ _ (by omega) (by omega)).mono ?_; rintro e w' ⟨rfl, rfl⟩; rw [Hm.out])
      | (at_make; refine wpList_make_full _ rfl (.tmp 8) (.tmp 8) 22 rfl w.heap.size 5 i0 (.int .u8 0) 1 Try.underlying22 hi hz0 hz1 .i64 .i64 m m m rfl rfl rfl rfl (by rw [hz2]; omega) (by unfold maxLen; omega) (Nat.le_refl _) ?_; intro w1 hown hgrow))
    have hb0 : Below w.heap.size w w1 := (Below.refl _ _).grown hgrow (Nat.le_refl _) (by intro k hk; cases hk)
    rw [made_zeros] at hown
    go_ret2
    exact ⟨_, rfl, by rw [zeros_length, Int.toNat_natCast]; exact hown, hb0⟩

set_option maxRecDepth 100000 in
set_option maxHeartbeats 400000 in
theorem rnew_any (n : Int) (w : World) : Calls Try.prog 13 #[.int .i64 n] w (NewBsE w (newL n) (newE n)) := by
  obtain ⟨i0, hi, hz0, hz1, hz2⟩ := info_parts Try.info5
  cases hs : sizeB n with
  | false =>
    have hs2 : ¬ (0 ≤ n ∧ n ≤ 65536) := by simpa [sizeB] using hs
    simp only [newL, newE, hs]
    by_cases h0 : n < 0
    · go_enter Try.func13, Try.ntmps13
      go_wp2_with fail
      go_ret2
      exact ⟨_, rfl, World.ownsRow_nil _ _ _ _, Below.refl _ _⟩
    · have h1 : 65536 < n := by omega
      go_enter Try.func13, Try.ntmps13
      go_wp2_with fail
      go_ret2
      exact ⟨_, rfl, World.ownsRow_nil _ _ _ _, Below.refl _ _⟩
  | true =>
    have hs2 : 0 ≤ n ∧ n ≤ 65536 := by simpa [sizeB] using hs
    simp only [newL, newE, hs, if_true]
    obtain ⟨m, hm⟩ : ∃ m : Nat, (n + 7) / 8 = m := ⟨((n + 7) / 8).toNat, by omega⟩
    have hm2 : m ≤ 8192 := by omega
    rw [hm]
    go_enter Try.func13, Try.ntmps13
    go_wp2_with (at_make; rw [hm]; refine wpList_make_full _ rfl (.tmp 12) (.tmp 12) 22 rfl w.heap.size 5 i0 (.int .u8 0) 1 Try.underlying22 hi hz0 hz1 .i64 .i64 m m m rfl rfl rfl rfl (by rw [hz2]; omega) (by unfold maxLen; omega) (Nat.le_refl _) ?_; intro w1 hown hgrow)
    have hb0 : Below w.heap.size w w1 := (Below.refl _ _).grown hgrow (Nat.le_refl _) (by intro k hk; cases hk)
    rw [made_zeros] at hown
    go_ret2
    exact ⟨_, rfl, by rw [zeros_length, Int.toNat_natCast]; exact hown, hb0⟩

theorem pop_le (x : Nat) : pop x ≤ 8 := by
  have := List.countP_le_length (p := fun i => x.testBit i) (l := List.range 8)
  simpa [pop] using this

set_option maxRecDepth 100000 in
set_option maxHeartbeats 400000 in
theorem ones8_any (x : Nat) (w : World) (hx : x < 256) : Calls Try.prog 46 #[.int .u8 x] w fun e w' => e = .returned (.int .i64 (pop x : Nat)) ∧ w = w' := by
  go_enter Try.func46, Try.ntmps46
  go_wp2
  go_ret
  refine ⟨ret_int ?_, rfl⟩
  have h2 : (x : Int) < 256 := by omega
  clear w
  revert h2 x
  decide +kernel

set_option maxRecDepth 100000 in
set_option maxHeartbeats 400000 in
theorem count_any (v : Value) (l : List Nat) (w : World) (h : Bs w v l) (hlen : l.length ≤ 140737488355328) : Calls Try.prog 24 #[v] w fun e w' => e = .returned (.int .i64 (countL l : Nat)) ∧ w = w' := by
  have hlt := h.lt
  obtain ⟨ao, cap, rfl, hl, hnn, hx, hc⟩ := h
  go_enter Try.func24, Try.ntmps24
  go_wp2
  go_loop [3, 8] (fun s i => ∃ k : Nat, k ≤ l.length ∧ i = .int .i64 k ∧ s = .int .i64 (cntTo l (8 * k) : Nat)) (fun _ i => l.length - (intOf i).toNat)
  case atStart => exact ⟨0, Nat.zero_le _, rfl, rfl⟩
  case round =>
    obtain ⟨k, hk, rfl, rfl⟩ := hrel
    have hcn := cntTo_le l (8 * k)
    by_cases hkn : k < l.length
    · obtain ⟨b, off, rfl, hcell⟩ := hc (by omega)
      have hck := hcell k hkn
      have hcl := getD_lt hlt k
      have hsn := cntTo_byte l k
      generalize l.getD k 0 = c at hck hcl hsn
      have hp := pop_le c
      have Hsn : Hid _ := hsn
      clear hsn hcell hc
      go_wp2_with (go_at_call 46; refine (ones8_any c _ hcl).mono ?_; rintro e w' ⟨rfl, rfl⟩)
      go_round
      case rel => exact ⟨k + 1, by omega, by go_num, by rw [Hsn.out]; go_num⟩
      case measure => simp [intOf]; omega
    · go_wp2
      go_ret
      refine ⟨?_, rfl⟩
      obtain rfl : k = l.length := by omega
      rfl

set_option maxRecDepth 100000 in
set_option maxHeartbeats 400000 in
theorem rcount_any (v : Value) (l : List Nat) (w : World) (h : Bs w v l) (hlen : l.length ≤ 140737488355328) : Calls Try.prog 25 #[v] w fun e w' => e = .returned (.int .i64 (countL l : Nat)) ∧ w = w' := by
  have h' := h
  obtain ⟨ao, cap, rfl, hl, hnn, hx, hc⟩ := h
  clear hc
  go_enter Try.func25, Try.ntmps25
  go_wp2
  go_loop [3, 4] (fun s i => ∃ k : Nat, k ≤ 8 * l.length ∧ i = .int .i64 k ∧ s = .int .i64 (cntTo l k : Nat)) (fun _ i => 8 * l.length - (intOf i).toNat)
  case atStart => exact ⟨0, Nat.zero_le _, rfl, rfl⟩
  case round =>
    obtain ⟨k, hk, rfl, rfl⟩ := hrel
    have hcn := cntTo_le l k
    by_cases hkn : k < 8 * l.length
    · have hsn := cntTo_succ l k
      have Hsn : Hid _ := hsn
      clear hsn
      have hg := rget_any _ l k w h' hlen (by omega)
      rw [getI_nat] at hg
      cases hbit : bitB l k with
      | true =>
        rw [hbit] at hg
        go_wp2_with (go_at_call 23; refine hg.mono ?_; rintro e w' ⟨rfl, rfl⟩)
        go_round
        case rel => exact ⟨k + 1, by omega, by go_num, by rw [Hsn.out, hbit]; go_num⟩
        case measure => simp [intOf]; omega
      | false =>
        rw [hbit] at hg
        go_wp2_with (go_at_call 23; refine hg.mono ?_; rintro e w' ⟨rfl, rfl⟩)
        go_round
        case rel => exact ⟨k + 1, by omega, by go_num, by rw [Hsn.out, hbit]; go_num⟩
        case measure => simp [intOf]; omega
    · go_wp2
      go_ret
      refine ⟨?_, rfl⟩
      obtain rfl : k = 8 * l.length := by omega
      rfl

end Go.Proofs.Ytkdajahcadjpfaa
