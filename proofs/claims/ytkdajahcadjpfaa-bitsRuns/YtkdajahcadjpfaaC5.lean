/- Contracts: bits.Check, atticref02.Check, bits.Span, atticref02.Span. -/
import Derived.Test.YtkdajahcadjpfaaC4
set_option linter.unusedSimpArgs false
set_option linter.unusedVariables false
namespace Go.Proofs.Ytkdajahcadjpfaa
open Go.RowKit Go.Attic

theorem next_len (l : List Nat) (n : Nat) : (nextI l (8 * (l.length : Int)) n true < 8 * (l.length : Int)) ↔ nx l true (8 * l.length - n) n < 8 * l.length := by
  unfold nextI
  dsimp only
  rw [show max (n : Int) 0 = n by omega, show min (8 * (l.length : Int)) (8 * (l.length : Int)) = 8 * (l.length : Int) by omega, Int.toNat_natCast, show (8 * (l.length : Int) - n).toNat = 8 * l.length - n by omega]
  split
  · omega
  · simp; omega

set_option maxRecDepth 100000 in
set_option maxHeartbeats 400000 in
theorem check_any (v : Value) (l : List Nat) (n : Int) (w : World) (h : Bs w v l) (hlen : l.length ≤ 140737488355328) :
    Calls Try.prog 15 #[v, .int .i64 n] w fun e w' => e = .returned (.int .i64 (checkI l n)) ∧ w = w' := by
  have h' := h
  obtain ⟨ao, cap, rfl, hl, hnn, hx, hc⟩ := h
  clear hc
  cases hs : sizeB n with
  | false =>
    simp only [checkI, hs]
    go_enter Try.func15, Try.ntmps15
    go_wp2_with (go_at_call 40; refine (isSize_any _ _).mono ?_; rintro e w' ⟨rfl, rfl⟩)
    go_ret
    exact ⟨by simp, rfl⟩
  | true =>
    have hs2 : 0 ≤ n ∧ n ≤ 65536 := by simpa [sizeB] using hs
    by_cases he : (l.length : Int) = (n + 7) / 8
    · obtain ⟨m, rfl⟩ := Int.eq_ofNat_of_zero_le hs2.1
      have hnl := next_len l m
      have e1 : checkI l m = if nx l true (8 * l.length - m) m < 8 * l.length then 20 else 0 := by simp [checkI, hs, he]
      rw [e1]; clear e1
      have hne : ((l.length : Int) != ((m : Int) + 7) / 8) = false := by simpa using he
      clear he
      by_cases hlt : nx l true (8 * l.length - m) m < 8 * l.length
      · have hq := hnl.2 hlt
        simp only [hlt, if_true]
        have Hnl := hide hnl
        clear hnl hlt
        have hnx := next_any _ l (8 * (l.length : Int)) m true w h' hlen
        generalize nextI l (8 * (l.length : Int)) m true = q at *
        go_enter Try.func15, Try.ntmps15
        go_wp2_with (first
          | (go_at_call 40; refine (isSize_any _ _).mono ?_; rintro e w' ⟨rfl, rfl⟩)
          | (go_at_call 41; refine (bytesOf_any _ _ (by omega) (by omega)).mono ?_; rintro e w' ⟨rfl, rfl⟩)
          | (go_at_call 42; refine (bitsOf_any _ l _ h' hlen).mono ?_; rintro e w' ⟨rfl, rfl⟩)
          | (go_at_call 27; refine hnx.mono ?_; rintro e w' ⟨rfl, rfl⟩))
        go_ret
        exact ⟨by simp, rfl⟩
      · have hq : 8 * (l.length : Int) ≤ nextI l (8 * (l.length : Int)) m true := by
          rcases Int.lt_or_le (nextI l (8 * (l.length : Int)) m true) (8 * (l.length : Int)) with h1 | h1
          · exact absurd (hnl.1 h1) hlt
          · exact h1
        simp only [hlt, if_false]
        have Hnl := hide hnl
        clear hnl hlt
        have hnx := next_any _ l (8 * (l.length : Int)) m true w h' hlen
        generalize nextI l (8 * (l.length : Int)) m true = q at *
        go_enter Try.func15, Try.ntmps15
        go_wp2_with (first
          | (go_at_call 40; refine (isSize_any _ _).mono ?_; rintro e w' ⟨rfl, rfl⟩)
          | (go_at_call 41; refine (bytesOf_any _ _ (by omega) (by omega)).mono ?_; rintro e w' ⟨rfl, rfl⟩)
          | (go_at_call 42; refine (bitsOf_any _ l _ h' hlen).mono ?_; rintro e w' ⟨rfl, rfl⟩)
          | (go_at_call 27; refine hnx.mono ?_; rintro e w' ⟨rfl, rfl⟩))
        go_ret
        exact ⟨by simp, rfl⟩
    · have e1 : checkI l n = 20 := by simp [checkI, hs, he]
      rw [e1]; clear e1
      have hne : ((l.length : Int) != (n + 7) / 8) = true := by simpa using he
      clear he
      go_enter Try.func15, Try.ntmps15
      go_wp2_with (first
        | (go_at_call 40; refine (isSize_any _ _).mono ?_; rintro e w' ⟨rfl, rfl⟩)
        | (go_at_call 41; refine (bytesOf_any _ _ (by omega) (by omega)).mono ?_; rintro e w' ⟨rfl, rfl⟩)
        | (go_at_call 42; refine (bitsOf_any _ l _ h' hlen).mono ?_; rintro e w' ⟨rfl, rfl⟩))
      go_ret
      exact ⟨by simp, rfl⟩

set_option maxRecDepth 100000 in
set_option maxHeartbeats 400000 in
theorem rcheck_any (v : Value) (l : List Nat) (n : Int) (w : World) (h : Bs w v l) (hlen : l.length ≤ 140737488355328) :
    Calls Try.prog 16 #[v, .int .i64 n] w fun e w' => e = .returned (.int .i64 (checkI l n)) ∧ w = w' := by
  have h' := h
  obtain ⟨ao, cap, rfl, hl, hnn, hx, hc⟩ := h
  clear hc
  cases hs : sizeB n with
  | false =>
    have hs2 : ¬ (0 ≤ n ∧ n ≤ 65536) := by simpa [sizeB] using hs
    simp only [checkI, hs]
    clear hs
    by_cases h0 : n < 0
    · go_enter Try.func16, Try.ntmps16
      go_wp2_with fail
      go_ret
      exact ⟨by simp, rfl⟩
    · have h1 : 65536 < n := by omega
      go_enter Try.func16, Try.ntmps16
      go_wp2_with fail
      go_ret
      exact ⟨by simp, rfl⟩
  | true =>
    have hs2 : 0 ≤ n ∧ n ≤ 65536 := by simpa [sizeB] using hs
    by_cases he : (l.length : Int) = (n + 7) / 8
    · obtain ⟨m, rfl⟩ := Int.eq_ofNat_of_zero_le hs2.1
      have e1 : checkI l m = if nx l true (8 * l.length - m) m < 8 * l.length then 20 else 0 := by simp [checkI, hs, he]
      have hml : m ≤ 8 * l.length := by omega
      rw [e1]; clear e1 hs
      obtain ⟨q, hq⟩ : ∃ q : Int, q = if nx l true (8 * l.length - m) m < 8 * l.length then 20 else 0 := ⟨_, rfl⟩
      rw [← hq]
      have Hq := hide hq
      clear hq
      have hne : ((l.length : Int) != ((m : Int) + 7) / 8) = false := by simpa using he
      clear he
      go_enter Try.func16, Try.ntmps16
      go_wp2_with fail
      go_loop [5] (fun i => ∃ k : Nat, k ≤ 8 * l.length ∧ i = .int .i64 k ∧ nx l true (8 * l.length - m) m = nx l true (8 * l.length - k) k) (fun i => 8 * l.length - (intOf i).toNat)
      case atStart => exact ⟨m, hml, rfl, rfl⟩
      case round =>
        obtain ⟨k, hk, rfl, hnx⟩ := hrel
        by_cases hkm : k < 8 * l.length
        · have hg := rget_any _ l k w h' hlen (by omega)
          rw [getI_nat] at hg
          have e : 8 * l.length - k = (8 * l.length - (k + 1)) + 1 := by omega
          rw [e, nx] at hnx
          have Hnx := hide hnx
          clear hnx e
          cases hbit : bitB l k with
          | true =>
            rw [hbit] at hg Hnx
            go_wp2_with (go_at_call 23; refine hg.mono ?_; rintro e w' ⟨rfl, rfl⟩)
            go_ret
            refine ⟨?_, rfl⟩
            rw [Hq.out, Hnx.out, if_pos trivial, if_pos hkm]
            rfl
          | false =>
            rw [hbit] at hg Hnx
            go_wp2_with (go_at_call 23; refine hg.mono ?_; rintro e w' ⟨rfl, rfl⟩)
            go_round
            case rel => exact ⟨k + 1, by omega, by go_num, by rw [Hnx.out]; simp⟩
            case measure => simp [intOf]; omega
        · obtain rfl : k = 8 * l.length := by omega
          have Hnx := hide hnx
          clear hnx
          go_wp2_with fail
          go_ret
          refine ⟨?_, rfl⟩
          rw [Hq.out, Hnx.out, Nat.sub_self, nx, if_neg (by omega)]
          rfl
    · have e1 : checkI l n = 20 := by simp [checkI, hs, he]
      rw [e1]; clear e1
      have hne : ((l.length : Int) != (n + 7) / 8) = true := by simpa using he
      clear he hs
      go_enter Try.func16, Try.ntmps16
      go_wp2_with fail
      go_ret
      exact ⟨by simp, rfl⟩

def spanE (n a b : Int) : Int := if spanOk n a b then 0 else 1

theorem span_no {n a b : Int} (h : spanOk n a b = false) : sizeB n = false ∨ (sizeB n = true ∧ (a < 0 ∨ (0 ≤ a ∧ (b < a ∨ (a ≤ b ∧ n < b))))) := by
  cases hs : sizeB n with
  | false => exact .inl rfl
  | true =>
    refine .inr ⟨rfl, ?_⟩
    have : ¬ (0 ≤ a ∧ a ≤ b ∧ b ≤ n) := by simpa [spanOk, hs] using h
    omega

set_option maxRecDepth 100000 in
set_option maxHeartbeats 400000 in
theorem span_any (n a b : Int) (w : World) : Calls Try.prog 17 #[.int .i64 n, .int .i64 a, .int .i64 b] w (NewBsE w (spanI n a b) (spanE n a b)) := by
  obtain ⟨i0, hi, hz0, hz1, hz2⟩ := info_parts Try.info5
  cases hs : spanOk n a b with
  | false =>
    simp only [spanI, spanE, hs]
    rcases span_no hs with h1 | ⟨h1, h2 | ⟨h2, h3 | ⟨h3, h4⟩⟩⟩
    all_goals
      clear hs
      go_enter Try.func17, Try.ntmps17
      go_wp2_with (go_at_call 40; refine (isSize_any _ _).mono ?_; rintro e w' ⟨rfl, rfl⟩)
      go_ret2
      exact ⟨_, rfl, World.ownsRow_nil _ _ _ _, Below.refl _ _⟩
  | true =>
    have hs2 : (0 ≤ n ∧ n ≤ 65536) ∧ (0 ≤ a ∧ a ≤ b ∧ b ≤ n) := by simpa [spanOk, sizeB] using hs
    have hsz : sizeB n = true := by simp [sizeB]; omega
    simp only [spanI, spanE, hs, if_true]
    obtain ⟨m, hm⟩ : ∃ m : Nat, (n + 7) / 8 = m := ⟨((n + 7) / 8).toNat, by omega⟩
    have hm2 : m ≤ 8192 := by omega
    obtain ⟨x, rfl⟩ := Int.eq_ofNat_of_zero_le hs2.2.1
    obtain ⟨y, rfl⟩ := Int.eq_ofNat_of_zero_le (show 0 ≤ b by omega)
    have hxy : x ≤ y := by omega
    have hym : y ≤ 8 * m := by omega
    have Hm := hide hm
    rw [hm, Int.toNat_natCast, Int.toNat_natCast, show ((y : Int) - x).toNat = y - x by omega]; clear hm hs
    go_enter Try.func17, Try.ntmps17
    go_wp2_with (first
      | (go_at_call 40; refine (isSize_any _ _).mono ?_; rintro e w' ⟨rfl, rfl⟩)
      | (go_at_call 41; refine (bytesOf_any _ _ (by omega) (by omega)).mono ?_; rintro e w' ⟨rfl, rfl⟩; rw [Hm.out])
      | (at_make; refine wpList_make_full _ rfl (.tmp 28) (.tmp 28) 22 rfl w.heap.size 5 i0 (.int .u8 0) 1 Try.underlying22 hi hz0 hz1 .i64 .i64 m m m rfl rfl rfl rfl (by rw [hz2]; omega) (by unfold maxLen; omega) (Nat.le_refl _) ?_; intro w1 hown hgrow))
    have hb0 : Below w.heap.size w w1 := (Below.refl _ _).grown hgrow (Nat.le_refl _) (by intro k hk; cases hk)
    rw [made_zeros] at hown
    go_loopw [33] (fun i wr => ∃ k : Nat, k ≤ y - x ∧ i = .int .i64 k ∧ wr.ownsRow w.heap.size 5 1 (.slice (some ⟨w.heap.size, 0, none⟩) m m) m (cellsB (spanN (zeros m) x k)) ∧ Below w.heap.size w wr) (fun i _ => (y - x) - (intOf i).toNat)
    case atStart => exact ⟨0, Nat.zero_le _, rfl, hown, hb0⟩
    case round =>
      obtain ⟨k, hk, rfl, hown1, hb1⟩ := hrel
      clear hown hb0 hgrow
      by_cases hkn : k < y - x
      · have hl : (spanN (zeros m) x k).length = m := by rw [spanN_length, zeros_length]
        have hset := set_any w.heap.size m (x + k) (spanN (zeros m) x k) true w.heap.size wr (by rw [hl]; exact hown1) (spanN_lt (zeros_lt m) x k) (by rw [hl]; omega) (by rw [hl]; omega)
        rw [hl] at hset
        have Hset := hide hset
        clear hset hl
        go_wp2_with (go_at_call 43; refine Hset.out.mono ?_; rintro e w2 ⟨⟨v2, rfl⟩, hown2, hb2⟩)
        go_roundw
        case rel => exact ⟨k + 1, by omega, by go_num, hown2, hb1.trans (hb2 _ (Nat.le_refl _))⟩
        case measure => simp [intOf]; omega
      · obtain rfl : k = y - x := by omega
        go_wp2_with fail
        go_ret2
        exact ⟨_, rfl, by rw [spanN_length, zeros_length]; exact hown1, hb1⟩

theorem putI_nat {l : List Nat} {n : Nat} (h : n < 8 * l.length) (is : Bool) : putI l n is = putL l n is := by
  have : hasB l n = true := by simp [hasB]; omega
  simp [putI, this]

set_option maxRecDepth 100000 in
set_option maxHeartbeats 400000 in
theorem rspan_any (n a b : Int) (w : World) : Calls Try.prog 18 #[.int .i64 n, .int .i64 a, .int .i64 b] w (NewBsE w (spanI n a b) (spanE n a b)) := by
  cases hs : spanOk n a b with
  | false =>
    simp only [spanI, spanE, hs]
    rcases span_no hs with h1 | ⟨h1, h2 | ⟨h2, h3 | ⟨h3, h4⟩⟩⟩
    all_goals
      clear hs
      have hn := rnew_any n w
      simp only [newE, newL, h1] at hn
      go_enter Try.func18, Try.ntmps18
      go_wp2_with (go_at_call 13; refine hn.mono ?_; rintro e w1 ⟨v1, rfl, hown1, hb1⟩)
      go_ret2
      exact ⟨_, rfl, World.ownsRow_nil _ _ _ _, hb1⟩
  | true =>
    have hs2 : (0 ≤ n ∧ n ≤ 65536) ∧ (0 ≤ a ∧ a ≤ b ∧ b ≤ n) := by simpa [spanOk, sizeB] using hs
    have hsz : sizeB n = true := by simp [sizeB]; omega
    simp only [spanI, spanE, hs, if_true]
    have hn := rnew_any n w
    simp only [newE, newL, hsz, if_true] at hn
    obtain ⟨m, hm⟩ : ∃ m : Nat, (n + 7) / 8 = m := ⟨((n + 7) / 8).toNat, by omega⟩
    have hm2 : m ≤ 8192 := by omega
    obtain ⟨x, rfl⟩ := Int.eq_ofNat_of_zero_le hs2.2.1
    obtain ⟨y, rfl⟩ := Int.eq_ofNat_of_zero_le (show 0 ≤ b by omega)
    have hxy : x ≤ y := by omega
    have hym : y ≤ 8 * m := by omega
    rw [hm, Int.toNat_natCast, Int.toNat_natCast, show ((y : Int) - x).toNat = y - x by omega]
    rw [hm, Int.toNat_natCast] at hn
    clear hm hs hsz
    go_enter Try.func18, Try.ntmps18
    go_wp2_with (go_at_call 13; refine hn.mono ?_; rintro e w1 ⟨v1, rfl, hown1, hb1⟩)
    rw [zeros_length] at hown1
    have hd : decide (y < x) = false := by simp; omega
    simp only [hd, Bool.or_false]
    go_loopw [8, 10] (fun v i wr => ∃ k : Nat, k ≤ y - x ∧ i = .int .i64 ((x + k : Nat) : Int) ∧ wr.ownsRow w.heap.size 5 1 v m (cellsB (spanN (zeros m) x k)) ∧ Below w.heap.size w wr) (fun _ i _ => y - (intOf i).toNat)
    case atStart => exact ⟨0, Nat.zero_le _, rfl, hown1, hb1⟩
    case round =>
      obtain ⟨k, hk, rfl, hown2, hb2⟩ := hrel
      clear hown1 hb1 hn
      have hl : (spanN (zeros m) x k).length = m := by rw [spanN_length, zeros_length]
      by_cases hkn : k < y - x
      · have hlt := spanN_lt (zeros_lt m) x k
        have hset := rput_any _ (spanN (zeros m) x k) ((x + k : Nat) : Int) true wr (Bs.of_owns hown2 hlt) (by rw [hl]; omega) (by omega)
        rw [putI_nat (by rw [hl]; omega)] at hset
        have Hset := hide hset
        have Hl := hide hl
        clear hset hl
        have hz := hb2.size
        go_wp2_with (go_at_call 21; refine Hset.out.mono ?_; rintro e w3 ⟨v3, rfl, hown3, hb3⟩)
        go_roundw
        case rel => exact ⟨k + 1, by omega, by go_num, by rw [putL_length, Hl.out] at hown3; exact owns_base hown3 hz, hb2.trans (hb3.mono hz)⟩
        case measure => simp [intOf]; omega
      · obtain rfl : k = y - x := by omega
        have Hl := hide hl
        clear hl
        go_wp2_with fail
        go_ret2
        exact ⟨_, rfl, by rw [Hl.out]; exact hown2, hb2⟩

end Go.Proofs.Ytkdajahcadjpfaa
