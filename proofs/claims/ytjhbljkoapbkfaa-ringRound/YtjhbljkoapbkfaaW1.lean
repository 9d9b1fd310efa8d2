/- Contracts of the small functions of words: isWidth, bytes.Equal, Get, Num, Sum, and the document's. -/
import Derived.Test.YtjhbljkoapbkfaaRows
import Derived.Test.YtjhbljkoapbkfaaPure
import Derived.BigQuiet
set_option linter.unusedSimpArgs false
set_option linter.unusedVariables false
namespace Go.Proofs.Ytjhbljkoapbkfaa
open Go.RowKit Go.Attic

theorem Try.own : ownKnob Try.prog.godebug = none := by kernel_rfl
theorem Try.laidOut : laidOutB Try.prog = true := by kernel_rfl

set_option maxHeartbeats 400000 in
theorem isWidth_any (n : Int) (w : World) : Calls Try.prog 77 #[.int .i64 n] w fun e w' => e = .returned (.bool (widthB n)) ∧ w = w' := by
  by_cases h1 : 1 ≤ n
  · by_cases h2 : n ≤ 8
    · have h3 : widthB n = true := by simp [widthB, h1, h2]
      rw [h3]; clear h3
      go_enter Try.func77, Try.ntmps77
      go_wp2
      go_ret
      exact ⟨by simp, rfl⟩
    · have h3 : widthB n = false := by simp [widthB]; omega
      rw [h3]; clear h3
      go_enter Try.func77, Try.ntmps77
      go_wp2
      go_ret
      exact ⟨by simp, rfl⟩
  · have h3 : widthB n = false := by simp [widthB]; omega
    rw [h3]; clear h3
    go_enter Try.func77, Try.ntmps77
    go_wp2
    go_ret
    exact ⟨by simp, rfl⟩

theorem strB_beq {xs ys : List Nat} (hx : ∀ x ∈ xs, x < 256) (hy : ∀ x ∈ ys, x < 256) : ((strB xs).toList == (strB ys).toList) = decide (xs = ys) := by
  rw [Bool.eq_iff_iff]
  simp only [beq_iff_eq, decide_eq_true_eq]
  constructor
  · intro h
    apply strB_inj hx hy
    rw [ByteArray.toList_eq, ByteArray.toList_eq] at h
    rw [ByteArray.ext_iff]
    exact Array.toList_inj.1 h
  · intro h; rw [h]

set_option maxHeartbeats 400000 in
theorem equal_any (v1 v2 : Value) (xs ys : List Nat) (w : World) (h1 : Bs w v1 xs) (h2 : Bs w v2 ys) :
    Calls Try.prog 68 #[v1, v2] w fun e w' => e = .returned (.bool (decide (xs = ys))) ∧ w = w' := by
  have c1 := h1.convert (P := Try.prog) 23 5 9 Try.underlying23 Try.underlying5 Try.underlying9
  have c2 := h2.convert (P := Try.prog) 23 5 9 Try.underlying23 Try.underlying5 Try.underlying9
  have hb := strB_beq h1.lt h2.lt
  clear h1 h2
  go_enter Try.func68, Try.ntmps68
  go_wp2
  go_ret
  exact ⟨by simp, rfl⟩

set_option maxHeartbeats 400000 in
theorem get_yes (v : Value) (l : List Nat) (p n : Nat) (w : World) (h : Bs w v l) (hn : 1 ≤ n) (hn8 : n ≤ 8) (hp : p + n ≤ l.length) (hlen : l.length ≤ 140737488355328) :
    Calls Try.prog 75 #[v, .int .i64 p, .int .i64 n] w fun e w' => e = .returned (.tuple #[.int .u64 (getN l p n : Nat), .bool true]) ∧ w = w' := by
  have hlt := h.lt
  obtain ⟨ao, cap, rfl, hl, hnn, hx, hc⟩ := h
  obtain ⟨b, off, rfl, hcell⟩ := hc (by omega)
  have hw : widthB n = true := by simp [widthB]; omega
  go_enter Try.func75, Try.ntmps75
  go_wp2_with (go_at_call 77; refine (isWidth_any _ _).mono ?_; rintro e w' ⟨rfl, rfl⟩)
  go_loop [8, 26] (fun v i => ∃ k : Nat, k ≤ n ∧ i = .int .i64 k ∧ v = .int .u64 (getN l p k : Nat)) (fun _ i => n - (intOf i).toNat)
  case atStart => exact ⟨0, Nat.zero_le _, rfl, rfl⟩
  case round =>
    obtain ⟨k, hk, rfl, rfl⟩ := hrel
    by_cases hkn : k < n
    · have hck := hcell (p + k) (by omega)
      go_wp2
      go_round
      case rel => exact ⟨k + 1, by omega, by go_num, by rw [getN_or hlt p k (by omega)]⟩
      case measure => simp [intOf]; omega
    · go_wp2
      go_ret2
      obtain rfl : k = n := by omega
      exact ⟨rfl, rfl⟩

set_option maxHeartbeats 400000 in
theorem get_no (v : Value) (l : List Nat) (p n : Int) (w : World) (h : Bs w v l) (hlen : l.length ≤ 140737488355328) (hb : getB l p n = false) :
    Calls Try.prog 75 #[v, .int .i64 p, .int .i64 n] w fun e w' => e = .returned (.tuple #[.int .u64 0, .bool false]) ∧ w = w' := by
  obtain ⟨ao, cap, rfl, hl, hnn, hx, hc⟩ := h
  cases hw : widthB n with
  | false =>
    clear hb
    go_enter Try.func75, Try.ntmps75
    go_wp2_with (go_at_call 77; refine (isWidth_any _ _).mono ?_; rintro e w' ⟨rfl, rfl⟩)
    go_ret2
    exact ⟨rfl, rfl⟩
  | true =>
    have hw2 : 1 ≤ n ∧ n ≤ 8 := by simpa [widthB] using hw
    have hb2 : ¬ (0 ≤ p ∧ p + n ≤ l.length) := by simpa [getB, hw] using hb
    clear hb
    by_cases hp : p < 0
    · go_enter Try.func75, Try.ntmps75
      go_wp2_with (go_at_call 77; refine (isWidth_any _ _).mono ?_; rintro e w' ⟨rfl, rfl⟩)
      go_ret2
      exact ⟨rfl, rfl⟩
    · have hp2 : (l.length : Int) - n < p := by omega
      go_enter Try.func75, Try.ntmps75
      go_wp2_with (go_at_call 77; refine (isWidth_any _ _).mono ?_; rintro e w' ⟨rfl, rfl⟩)
      go_ret2
      exact ⟨rfl, rfl⟩

theorem get_any (v : Value) (l : List Nat) (p n : Int) (w : World) (h : Bs w v l) (hlen : l.length ≤ 140737488355328) :
    Calls Try.prog 75 #[v, .int .i64 p, .int .i64 n] w fun e w' => e = .returned (.tuple #[.int .u64 (getV l p n : Nat), .bool (getB l p n)]) ∧ w = w' := by
  cases hb : getB l p n with
  | false => simp only [getV, hb]; exact get_no v l p n w h hlen hb
  | true =>
    have hb2 := hb
    simp [getB, widthB] at hb2
    obtain ⟨⟨h1, h2⟩, h3, h4⟩ := hb2
    obtain ⟨p', rfl⟩ := Int.eq_ofNat_of_zero_le h3
    obtain ⟨n', rfl⟩ := Int.eq_ofNat_of_zero_le (show 0 ≤ n by omega)
    simp only [getV, hb, if_true, Int.toNat_natCast]
    exact get_yes v l p' n' w h (by omega) (by omega) (by omega) hlen
theorem Try.info5 : (Try.prog.info? 5).map (fun i => (i.zero, i.size, i.bytes)) = some (some (.int .u8 0), 1, 1) := by kernel_rfl

/-- A new slice of bytes, the call's own. -/
def NewBs (w : World) (l : List Nat) (e : Ending) (w' : World) : Prop :=
  ∃ v, e = .returned v ∧ w'.ownsRow w.heap.size 5 1 v l.length (cellsB l) ∧ Below w.heap.size w w'

theorem numN_set (n v k : Nat) (hk : k < n) : (cellsB (numN k v) ++ List.replicate (n - k) (Value.int .u8 0)).set k (.int .u8 ((v / 2 ^ (8 * k) % 256 : Nat) : Int)) = cellsB (numN (k + 1) v) ++ List.replicate (n - (k + 1)) (Value.int .u8 0) := by
  have h1 : (cellsB (numN k v)).length = k := by rw [cellsB_length, numN_length]
  rw [show n - k = (n - (k + 1)) + 1 by omega, List.replicate_succ]
  rw [List.set_append_right _ _ (by omega), h1, Nat.sub_self]
  simp only [List.set_cons_zero]
  have h2 : numN (k + 1) v = numN k v ++ [v / 2 ^ (8 * k) % 256] := by simp [numN, List.range_succ]
  rw [h2, cellsB_append]
  simp [cellsB]

set_option maxHeartbeats 400000 in
theorem num_yes (n v : Nat) (w : World) (hn : 1 ≤ n) (hn8 : n ≤ 8) (hv : v < 2 ^ 64) :
    Calls Try.prog 70 #[.int .i64 n, .int .u64 v] w (NewBs w (numN n v)) := by
  obtain ⟨i0, hi, hz0, hz1, hz2⟩ := info_parts Try.info5
  have hw : widthB n = true := by simp [widthB]; omega
  go_enter Try.func70, Try.ntmps70
  go_wp2_with (first
    | (go_at_call 77; refine (isWidth_any _ _).mono ?_; rintro e w' ⟨rfl, rfl⟩)
    | (at_make; refine wpList_make_full _ rfl (.tmp 10) (.tmp 10) 23 rfl w.heap.size 5 i0 (.int .u8 0) 1 Try.underlying23 hi hz0 hz1 .i64 .i64 n n n rfl rfl rfl rfl (by rw [hz2]; omega) (by unfold maxLen; omega) (Nat.le_refl _) ?_; intro w1 hown hgrow))
  have hown0 : w1.ownsRow w.heap.size 5 1 (.slice (some ⟨w.heap.size, 0, none⟩) n n) n (cellsB (numN 0 v) ++ List.replicate (n - 0) (Value.int .u8 0)) := by
    have e : (madeCells (Value.int .u8 0).cells (n * 1)).toList = cellsB (numN 0 v) ++ List.replicate (n - 0) (Value.int .u8 0) := by
      simp only [madeCells, numN, cellsB, Value.cells, Nat.mul_one, Array.toList_map, Array.toList_range, List.range_zero, List.map_nil, List.nil_append, Nat.sub_zero]
      apply List.ext_getElem (by simp)
      intro i h1 h2
      simp [Nat.mod_one]
    rw [← e]; exact hown
  have hb0 : Below w.heap.size w w1 := (Below.refl _ _).grown hgrow (Nat.le_refl _) (by intro k hk; cases hk)
  clear hown hgrow
  go_loopw [13] (fun i wr => ∃ k : Nat, k ≤ n ∧ i = .int .i64 k ∧ wr.ownsRow w.heap.size 5 1 (.slice (some ⟨w.heap.size, 0, none⟩) n n) n (cellsB (numN k v) ++ List.replicate (n - k) (Value.int .u8 0)) ∧ Below w.heap.size w wr) (fun i _ => n - (intOf i).toNat)
  case atStart => exact ⟨0, Nat.zero_le _, rfl, hown0, hb0⟩
  case round =>
    obtain ⟨k, hk, rfl, hown, hb⟩ := hrel
    by_cases hkn : k < n
    · have hc : wr.cell? ⟨w.heap.size, k, none⟩ = some (.int .u8 0) := by
        rw [hown.cellAt k (by omega), List.getElem?_append_right (by simp [cellsB_length, numN_length])]
        rw [cellsB_length, numN_length, Nat.sub_self, List.getElem?_replicate, if_pos (by omega)]
      have hf := hown.frozenAt k
      have hst := hown.stored k (.int .u8 ((v / 2 ^ (8 * k) % 256 : Nat) : Int))
      rw [numN_set n v k hkn] at hst
      have Hst : Hid (World.ownsRow _ _ _ _ _ _ _) := hst.1
      have Hb : Hid _ := hb.setCell (p := ⟨w.heap.size, k, none⟩) (Nat.le_refl _) (.int .u8 ((v / 2 ^ (8 * k) % 256 : Nat) : Int))
      clear hown hst hb
      go_wp2
      go_roundw
      case rel =>
        rw [show ((v : Int) / 2 ^ (8 * k) % 256) = ((v / 2 ^ (8 * k) % 256 : Nat) : Int) by simp]
        exact ⟨k + 1, by omega, by go_num, Hst.out, Hb.out⟩
      case measure => simp [intOf]; omega
    · obtain rfl : k = n := by omega
      go_wp2
      go_ret
      refine ⟨_, rfl, ?_, hb⟩
      rw [numN_length]
      simpa using hown

set_option maxHeartbeats 400000 in
theorem num_no (n : Int) (v : Nat) (w : World) (hw : widthB n = false) :
    Calls Try.prog 70 #[.int .i64 n, .int .u64 v] w (NewBs w []) := by
  go_enter Try.func70, Try.ntmps70
  go_wp2_with (go_at_call 77; refine (isWidth_any _ _).mono ?_; rintro e w' ⟨rfl, rfl⟩)
  go_ret
  exact ⟨_, rfl, World.ownsRow_nil _ _ _ _, Below.refl _ _⟩

theorem num_any (n : Int) (v : Nat) (w : World) (hv : v < 2 ^ 64) :
    Calls Try.prog 70 #[.int .i64 n, .int .u64 v] w (NewBs w (numL n v)) := by
  cases hw : widthB n with
  | false => simp only [numL, hw]; exact num_no n v w hw
  | true =>
    have hw2 : 1 ≤ n ∧ n ≤ 8 := by simpa [widthB] using hw
    obtain ⟨n', rfl⟩ := Int.eq_ofNat_of_zero_le (show 0 ≤ n by omega)
    simp only [numL, hw, if_true, Int.toNat_natCast]
    exact num_yes n' v w (by omega) (by omega) hv

theorem numN_succ (k v : Nat) : numN (k + 1) v = numN k v ++ [v / 2 ^ (8 * k) % 256] := by simp [numN, List.range_succ]


set_option maxHeartbeats 400000 in
theorem sum_any (v : Value) (l : List Nat) (w : World) (h : Bs w v l) (hlen : l.length ≤ 140737488355328) :
    Calls Try.prog 71 #[v] w fun e w' => e = .returned (.int .u32 (sumN l : Nat)) ∧ w = w' := by
  have hlt := h.lt
  obtain ⟨ao, cap, rfl, hl, hnn, hx, hc⟩ := h
  go_enter Try.func71, Try.ntmps71
  go_wp2
  go_loop [3, 8] (fun s i => ∃ k : Nat, k ≤ l.length ∧ i = .int .i64 k ∧ s = .int .u32 (crcN 4294967295 (l.take k) : Nat)) (fun _ i => l.length - (intOf i).toNat)
  case atStart => exact ⟨0, Nat.zero_le _, rfl, by simp [crcN]⟩
  case round =>
    obtain ⟨k, hk, rfl, rfl⟩ := hrel
    have hs : crcN 4294967295 (l.take k) < 2 ^ 32 := crcN_lt (by omega) _ (fun x hx => hlt x (List.mem_of_mem_take hx))
    generalize hcs : crcN 4294967295 (l.take k) = s at *
    have Hcs : Hid _ := hcs
    clear hcs
    by_cases hkn : k < l.length
    · obtain ⟨b, off, rfl, hcell⟩ := hc (by omega)
      have hck := hcell k hkn
      have hcl := getD_lt hlt k
      have hsn := crcN_snoc l k hkn
      rw [Hcs.out] at hsn
      generalize l.getD k 0 = c at hck hcl hsn
      have Hsn : Hid _ := hsn
      clear hsn hcell hc
      go_wp2
      rw [xor_byte s c hs hcl]
      go_loop [3, 16] (fun t i => ∃ j : Nat, j ≤ 8 ∧ i = .int .i64 j ∧ t = .int .u32 (stepsN j (s ^^^ c) : Nat)) (fun _ i => 8 - (intOf i).toNat)
      case atStart => exact ⟨0, Nat.zero_le _, rfl, rfl⟩
      case round =>
        obtain ⟨j, hj, rfl, rfl⟩ := hrel
        have ht := stepsN_lt (xor_lt32 hs (show c < 2 ^ 32 by omega)) j
        by_cases hj8 : j < 8
        · go_wp2
          go_round
          case rel => exact ⟨j + 1, by omega, by go_num, by rw [step_mask _ ht]; rfl⟩
          case measure => simp [intOf]; omega
        · obtain rfl : j = 8 := by omega
          go_wp2
          go_round
          case rel => exact ⟨k + 1, by omega, by go_num, by rw [Hsn.out]⟩
          case measure => simp [intOf]; omega
    · go_wp2
      go_ret
      refine ⟨?_, rfl⟩
      obtain rfl : k = l.length := by omega
      have e : s = crcN 4294967295 l := by rw [← Hcs.out, List.take_length]
      show Ending.returned (Value.int .u32 (bits BinOp.xor IntKind.u32 IntKind.u32.max (s : Int))) = _
      rw [not_u32 s hs, e]
      rfl


end Go.Proofs.Ytjhbljkoapbkfaa
