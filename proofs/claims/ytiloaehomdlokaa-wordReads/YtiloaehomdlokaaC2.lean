/- Contracts: atticref01.Get, word.Num, atticref01.Num. -/
import Derived.Test.YtiloaehomdlokaaC1
set_option linter.unusedSimpArgs false
set_option linter.unusedVariables false
namespace Go.Proofs.Ytiloaehomdlokaa
open Go.RowKit Go.Attic

set_option maxHeartbeats 400000 in
theorem rget_yes (v : Value) (l : List Nat) (p n : Nat) (w : World) (h : Bs w v l) (hn : 1 ≤ n) (hn8 : n ≤ 8) (hp : p + n ≤ l.length) (hlen : l.length ≤ 140737488355328) :
    Calls Try.prog 12 #[v, .int .i64 p, .int .i64 n] w fun e w' => e = .returned (.tuple #[.int .u64 (getN l p n : Nat), .bool true]) ∧ w = w' := by
  have hlt := h.lt
  obtain ⟨ao, cap, rfl, hl, hnn, hx, hc⟩ := h
  obtain ⟨b, off, rfl, hcell⟩ := hc (by omega)
  go_enter Try.func12, Try.ntmps12
  go_wp2
  go_loop [8, 9] (fun v i => ∃ k : Nat, k ≤ n ∧ i = .int .i64 k ∧ v = .int .u64 (getN l p k : Nat)) (fun _ i => n - (intOf i).toNat)
  case atStart => exact ⟨0, Nat.zero_le _, rfl, rfl⟩
  case round =>
    obtain ⟨k, hk, rfl, rfl⟩ := hrel
    by_cases hkn : k < n
    · have hck := hcell (p + k) (by omega)
      go_wp2
      go_round
      case rel => exact ⟨k + 1, by omega, by go_num, by rw [getN_add hlt p k (by omega)]⟩
      case measure => simp [intOf]; omega
    · go_wp2
      go_ret2
      obtain rfl : k = n := by omega
      exact ⟨rfl, rfl⟩

set_option maxHeartbeats 400000 in
theorem rget_no (v : Value) (l : List Nat) (p n : Int) (w : World) (h : Bs w v l) (hlen : l.length ≤ 140737488355328) (hb : getB l p n = false) :
    Calls Try.prog 12 #[v, .int .i64 p, .int .i64 n] w fun e w' => e = .returned (.tuple #[.int .u64 0, .bool false]) ∧ w = w' := by
  obtain ⟨ao, cap, rfl, hl, hnn, hx, hc⟩ := h
  have hb2 : ¬ ((1 ≤ n ∧ n ≤ 8) ∧ 0 ≤ p ∧ p + n ≤ l.length) := by
    intro hh; simp [getB, widthB, hh] at hb
  clear hb
  by_cases h1 : n < 1
  · go_enter Try.func12, Try.ntmps12
    go_wp2
    go_ret2
    exact ⟨rfl, rfl⟩
  · by_cases h2 : 8 < n
    · go_enter Try.func12, Try.ntmps12
      go_wp2
      go_ret2
      exact ⟨rfl, rfl⟩
    · by_cases h3 : p < 0
      · go_enter Try.func12, Try.ntmps12
        go_wp2
        go_ret2
        exact ⟨rfl, rfl⟩
      · by_cases h4 : (l.length : Int) < p
        · go_enter Try.func12, Try.ntmps12
          go_wp2
          go_ret2
          exact ⟨rfl, rfl⟩
        · have h5 : (l.length : Int) - p < n := by omega
          go_enter Try.func12, Try.ntmps12
          go_wp2
          go_ret2
          exact ⟨rfl, rfl⟩

theorem rget_any (v : Value) (l : List Nat) (p n : Int) (w : World) (h : Bs w v l) (hlen : l.length ≤ 140737488355328) :
    Calls Try.prog 12 #[v, .int .i64 p, .int .i64 n] w fun e w' => e = .returned (.tuple #[.int .u64 (getV l p n : Nat), .bool (getB l p n)]) ∧ w = w' := by
  cases hb : getB l p n with
  | false => simp only [getV, hb]; exact rget_no v l p n w h hlen hb
  | true =>
    have hb2 := hb
    simp [getB, widthB] at hb2
    obtain ⟨⟨h1, h2⟩, h3, h4⟩ := hb2
    obtain ⟨p', rfl⟩ := Int.eq_ofNat_of_zero_le h3
    obtain ⟨n', rfl⟩ := Int.eq_ofNat_of_zero_le (show 0 ≤ n by omega)
    simp only [getV, hb, if_true, Int.toNat_natCast]
    exact rget_yes v l p' n' w h (by omega) (by omega) (by omega) hlen

theorem Try.info5 : (Try.prog.info? 5).map (fun i => (i.zero, i.size, i.bytes)) = some (some (.int .u8 0), 1, 1) := by kernel_rfl

/-- A new slice of bytes, the call's own. -/
def NewBs (w : World) (l : List Nat) (e : Ending) (w' : World) : Prop :=
  ∃ v, e = .returned v ∧ w'.ownsRow w.heap.size 5 1 v l.length (cellsB l) ∧ Below w.heap.size w w'

theorem numN_set (n v k : Nat) (hk : k < n) : (cellsB (numN k v) ++ List.replicate (n - k) (Value.int .u8 0)).set k (.int .u8 ((v / 2 ^ (8 * k) % 256 : Nat) : Int)) = cellsB (numN (k + 1) v) ++ List.replicate (n - (k + 1)) (Value.int .u8 0) := by
  have h1 : (cellsB (numN k v)).length = k := by rw [cellsB_length, numN_length]
  rw [show n - k = (n - (k + 1)) + 1 by omega, List.replicate_succ]
  rw [List.set_append_right _ _ (by omega), h1, Nat.sub_self]
  simp only [List.set_cons_zero]
  have h2 : numN (k + 1) v = numN k v ++ [v / 2 ^ (8 * k) % 256] := by simp [numN, List.range_succ]
  rw [h2, cellsB_append]
  simp [cellsB]

set_option maxHeartbeats 400000 in
theorem num_yes (n v : Nat) (w : World) (hn : 1 ≤ n) (hn8 : n ≤ 8) (hv : v < 2 ^ 64) :
    Calls Try.prog 15 #[.int .i64 n, .int .u64 v] w (NewBs w (numN n v)) := by
  obtain ⟨i0, hi, hz0, hz1, hz2⟩ := info_parts Try.info5
  have hw : widthB n = true := by simp [widthB]; omega
  go_enter Try.func15, Try.ntmps15
  go_wp2_with (first
    | (go_at_call 40; refine (isWidth_any _ _).mono ?_; rintro e w' ⟨rfl, rfl⟩)
    | (at_make; refine wpList_make_full _ rfl (.tmp 10) (.tmp 10) 22 rfl w.heap.size 5 i0 (.int .u8 0) 1 Try.underlying22 hi hz0 hz1 .i64 .i64 n n n rfl rfl rfl rfl (by rw [hz2]; omega) (by unfold maxLen; omega) (Nat.le_refl _) ?_; intro w1 hown hgrow))
  have hown0 : w1.ownsRow w.heap.size 5 1 (.slice (some ⟨w.heap.size, 0, none⟩) n n) n (cellsB (numN 0 v) ++ List.replicate (n - 0) (Value.int .u8 0)) := by
    have e : (madeCells (Value.int .u8 0).cells (n * 1)).toList = cellsB (numN 0 v) ++ List.replicate (n - 0) (Value.int .u8 0) := by
      simp only [madeCells, numN, cellsB, Value.cells, Nat.mul_one, Array.toList_map, Array.toList_range, List.range_zero, List.map_nil, List.nil_append, Nat.sub_zero]
      apply List.ext_getElem (by simp)
      intro i h1 h2
      simp [Nat.mod_one]
    rw [← e]; exact hown
  have hb0 : Below w.heap.size w w1 := (Below.refl _ _).grown hgrow (Nat.le_refl _) (by intro k hk; cases hk)
  clear hown hgrow
  go_loopw [13] (fun i wr => ∃ k : Nat, k ≤ n ∧ i = .int .i64 k ∧ wr.ownsRow w.heap.size 5 1 (.slice (some ⟨w.heap.size, 0, none⟩) n n) n (cellsB (numN k v) ++ List.replicate (n - k) (Value.int .u8 0)) ∧ Below w.heap.size w wr) (fun i _ => n - (intOf i).toNat)
  case atStart => exact ⟨0, Nat.zero_le _, rfl, hown0, hb0⟩
  case round =>
    obtain ⟨k, hk, rfl, hown, hb⟩ := hrel
    by_cases hkn : k < n
    · have hc : wr.cell? ⟨w.heap.size, k, none⟩ = some (.int .u8 0) := by
        rw [hown.cellAt k (by omega), List.getElem?_append_right (by simp [cellsB_length, numN_length])]
        rw [cellsB_length, numN_length, Nat.sub_self, List.getElem?_replicate, if_pos (by omega)]
      have hf := hown.frozenAt k
      have hst := hown.stored k (.int .u8 ((v / 2 ^ (8 * k) % 256 : Nat) : Int))
      rw [numN_set n v k hkn] at hst
      have Hst : Hid (World.ownsRow _ _ _ _ _ _ _) := hst.1
      have Hb : Hid _ := hb.setCell (p := ⟨w.heap.size, k, none⟩) (Nat.le_refl _) (.int .u8 ((v / 2 ^ (8 * k) % 256 : Nat) : Int))
      clear hown hst hb
      go_wp2
      go_roundw
      case rel =>
        rw [show ((v : Int) / 2 ^ (8 * k) % 256) = ((v / 2 ^ (8 * k) % 256 : Nat) : Int) by simp]
        exact ⟨k + 1, by omega, by go_num, Hst.out, Hb.out⟩
      case measure => simp [intOf]; omega
    · obtain rfl : k = n := by omega
      go_wp2
      go_ret
      refine ⟨_, rfl, ?_, hb⟩
      rw [numN_length]
      simpa using hown

set_option maxHeartbeats 400000 in
theorem num_no (n : Int) (v : Nat) (w : World) (hw : widthB n = false) :
    Calls Try.prog 15 #[.int .i64 n, .int .u64 v] w (NewBs w []) := by
  go_enter Try.func15, Try.ntmps15
  go_wp2_with (go_at_call 40; refine (isWidth_any _ _).mono ?_; rintro e w' ⟨rfl, rfl⟩)
  go_ret
  exact ⟨_, rfl, World.ownsRow_nil _ _ _ _, Below.refl _ _⟩

theorem num_any (n : Int) (v : Nat) (w : World) (hv : v < 2 ^ 64) :
    Calls Try.prog 15 #[.int .i64 n, .int .u64 v] w (NewBs w (numL n v)) := by
  cases hw : widthB n with
  | false => simp only [numL, hw]; exact num_no n v w hw
  | true =>
    have hw2 : 1 ≤ n ∧ n ≤ 8 := by simpa [widthB] using hw
    obtain ⟨n', rfl⟩ := Int.eq_ofNat_of_zero_le (show 0 ≤ n by omega)
    simp only [numL, hw, if_true, Int.toNat_natCast]
    exact num_yes n' v w (by omega) (by omega) hv

set_option maxHeartbeats 400000 in
theorem rnum_no (n : Int) (v : Nat) (w : World) (hw : widthB n = false) :
    Calls Try.prog 16 #[.int .i64 n, .int .u64 v] w (NewBs w []) := by
  have h1 : ¬ (1 ≤ n ∧ n ≤ 8) := by intro h; simp [widthB, h] at hw
  clear hw
  by_cases h2 : n < 1
  · go_enter Try.func16, Try.ntmps16
    go_wp2
    go_ret
    exact ⟨_, rfl, World.ownsRow_nil _ _ _ _, Below.refl _ _⟩
  · have h3 : 8 < n := by omega
    go_enter Try.func16, Try.ntmps16
    go_wp2
    go_ret
    exact ⟨_, rfl, World.ownsRow_nil _ _ _ _, Below.refl _ _⟩

theorem numN_succ (k v : Nat) : numN (k + 1) v = numN k v ++ [v / 2 ^ (8 * k) % 256] := by simp [numN, List.range_succ]

set_option maxHeartbeats 400000 in
theorem rnum_yes (n v : Nat) (w : World) (hn : 1 ≤ n) (hn8 : n ≤ 8) (hv : v < 2 ^ 64) :
    Calls Try.prog 16 #[.int .i64 n, .int .u64 v] w (NewBs w (numN n v)) := by
  obtain ⟨i0, hi, hz0, hz1, hz2⟩ := info_parts Try.info5
  go_enter Try.func16, Try.ntmps16
  go_wp2
  go_loopw [5, 6] (fun b i wr => ∃ k : Nat, k ≤ n ∧ i = .int .i64 k ∧ wr.ownsRow w.heap.size 5 1 b k (cellsB (numN k v)) ∧ Below w.heap.size w wr) (fun _ i _ => n - (intOf i).toNat)
  case atStart => exact ⟨0, Nat.zero_le _, rfl, World.ownsRow_nil _ _ _ _, Below.refl _ _⟩
  case round =>
    obtain ⟨k, hk, rfl, hown, hb⟩ := hrel
    by_cases hkn : k < n
    · go_wp2_with (at_builtin; refine wpList_append_bs _ rfl (.tmp 18) (.tmp 25) 22 rfl w.heap.size 5 i0 (.int .u8 0) Try.underlying22 hi hz0 hz1 hz2 rfl _ _ (numN k v) rfl (hown.alloc _) _ [v / 2 ^ (8 * k) % 256] rfl (Bs.one _ _ _ _ (by simp) (by omega)) (by simp; omega) (by have := hb.size; simp; omega) ?_; intro v' w1 hown' hgrow)
      have hb1 : Below w.heap.size w w1 := (hb.alloc hb.size _).grown hgrow (by have := hb.size; simp; omega) (owns_lt hown)
      rw [← numN_succ] at hown'
      clear hgrow hown
      go_roundw
      case rel => exact ⟨k + 1, by omega, by go_num, hown', hb1⟩
      case measure => simp [intOf]; omega
    · obtain rfl : k = n := by omega
      go_wp2
      go_ret
      refine ⟨_, rfl, ?_, hb⟩
      rw [numN_length]
      exact hown

theorem rnum_any (n : Int) (v : Nat) (w : World) (hv : v < 2 ^ 64) :
    Calls Try.prog 16 #[.int .i64 n, .int .u64 v] w (NewBs w (numL n v)) := by
  cases hw : widthB n with
  | false => simp only [numL, hw]; exact rnum_no n v w hw
  | true =>
    have hw2 : 1 ≤ n ∧ n ≤ 8 := by simpa [widthB] using hw
    obtain ⟨n', rfl⟩ := Int.eq_ofNat_of_zero_le (show 0 ≤ n by omega)
    simp only [numL, hw, if_true, Int.toNat_natCast]
    exact rnum_yes n' v w (by omega) (by omega) hv

end Go.Proofs.Ytiloaehomdlokaa
