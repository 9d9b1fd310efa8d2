/- Contracts: uvarLen, word.Uvar, atticref01.Uvar. -/
import Derived.Test.YtiloaehomdlokaaC3
import Derived.Test.YtiloaehomdlokaaShelf
set_option linter.unusedSimpArgs false
set_option linter.unusedVariables false
namespace Go.Proofs.Ytiloaehomdlokaa
open Go.RowKit Go.Attic

set_option maxHeartbeats 400000 in
theorem uvarLen_any (v : Nat) (w : World) (hv : v < 2 ^ 64) :
    Calls Try.prog 41 #[.int .u64 v] w fun e w' => e = .returned (.int .i64 (ulen v : Nat)) ∧ w = w' := by
  have h1 : bits .or .u64 (v : Int) 1 = ((v ||| 1 : Nat) : Int) := or_u64 v 1 hv (by omega)
  have h2 : v ||| 1 < 2 ^ 64 := or_one_lt hv (by omega)
  have hb := Lib.bitLen_le (v ||| 1) 64 (by omega) h2
  go_enter Try.func41, Try.ntmps41
  go_wp2_with (go_at_call 48; refine (Try.bits_Len64 _ _ (by omega) (by omega)).mono ?_; rintro e w' ⟨rfl, h⟩; obtain rfl := h.symm)
  go_ret
  refine ⟨?_, rfl⟩
  show Ending.returned (Value.int IntKind.i64 (((Lib.bitLen (v ||| 1) : Nat) + 7 - 1 : Int) / 7)) = _
  have e : (((Lib.bitLen (v ||| 1) : Nat) + 7 - 1 : Int) / 7) = ((ulen v : Nat) : Int) := by unfold ulen; omega
  rw [e]

/-- The cells of the first k groups, ahead of noughts. -/
def midU (n k v : Nat) : List Value := cellsB (grp k v) ++ List.replicate (n - k) (Value.int .u8 0)

theorem midU_set (n v k : Nat) (hk : k < n) : (midU n k v).set k (.int .u8 ((v / 2 ^ (7 * k) % 128 + 128 : Nat) : Int)) = midU n (k + 1) v := by
  unfold midU
  have h1 : (cellsB (grp k v)).length = k := by rw [cellsB_length, grp_length]
  rw [show n - k = (n - (k + 1)) + 1 by omega, List.replicate_succ]
  rw [List.set_append_right _ _ (by omega), h1, Nat.sub_self]
  simp only [List.set_cons_zero]
  rw [grp_succ, cellsB_append]
  simp [cellsB]

theorem midU_last (v : Nat) (h : v < 2 ^ 64) : (midU (ulen v) (ulen v) v).set (ulen v - 1) (.int .u8 ((v / 2 ^ (7 * (ulen v - 1)) : Nat) : Int)) = cellsB (uvarN v) := by
  have hp := ulen_pos h
  obtain ⟨m, hm⟩ : ∃ m, ulen v = m + 1 := ⟨ulen v - 1, by omega⟩
  unfold midU uvarN
  rw [hm, Nat.sub_self, Nat.add_sub_cancel, grp_succ]
  have h1 : (cellsB (grp m v)).length = m := by rw [cellsB_length, grp_length]
  simp only [List.replicate_zero, List.append_nil, cellsB_append]
  rw [List.set_append_right _ _ (by omega), h1, Nat.sub_self]
  simp [cellsB]

theorem midU_at (n v k : Nat) (hk : k < n) : (midU n k v)[k]? = some (.int .u8 0) := by
  unfold midU
  rw [List.getElem?_append_right (by simp [cellsB_length, grp_length]), cellsB_length, grp_length, Nat.sub_self, List.getElem?_replicate, if_pos (by omega)]

theorem midU_end (n v : Nat) (hn : 1 ≤ n) : (midU n n v)[n - 1]? = some (.int .u8 ((v / 2 ^ (7 * (n - 1)) % 128 + 128 : Nat) : Int)) := by
  obtain ⟨m, rfl⟩ : ∃ m, n = m + 1 := ⟨n - 1, by omega⟩
  unfold midU
  simp only [Nat.sub_self, List.replicate_zero, List.append_nil, Nat.add_sub_cancel, grp_succ, cellsB_append]
  rw [List.getElem?_append_right (by simp [cellsB_length, grp_length]), cellsB_length, grp_length, Nat.sub_self]
  simp [cellsB]

theorem or_128 (x : Nat) : bits .or .u8 ((x : Int) % 256) 128 = ((x % 128 + 128 : Nat) : Int) := by
  have h := u8_or_nat (x % 256) 128 (by omega) (by omega)
  rw [show ((x : Int) % 256) = ((x % 256 : Nat) : Int) by omega, show (128 : Int) = ((128 : Nat) : Int) from rfl, h]
  congr 1
  have : ∀ y : Fin 256, y.val ||| 128 = y.val % 128 + 128 := by decide +kernel
  have := this ⟨x % 256, by omega⟩
  simp only at this
  rw [this]; omega

theorem andNot_128 (x : Nat) (hx : x < 128) : bits .andNot .u8 ((x % 128 + 128 : Nat) : Int) 128 = (x : Int) := by
  have h := u8_andNot_nat (x % 128 + 128) 128 (by omega) (by omega)
  rw [show (128 : Int) = ((128 : Nat) : Int) from rfl, h]
  have : ∀ y : Fin 128, (y.val % 128 + 128) &&& (255 - 128) = y.val := by decide +kernel
  have := this ⟨x, hx⟩
  simp only at this
  rw [this]

set_option maxHeartbeats 400000 in
theorem uvar_any (v : Nat) (w : World) (hv : v < 2 ^ 64) :
    Calls Try.prog 19 #[.int .u64 v] w (NewBs w (uvarN v)) := by
  obtain ⟨i0, hi, hz0, hz1, hz2⟩ := info_parts Try.info5
  have hn1 := ulen_pos hv
  have hn10 := ulen_le10 hv
  have hlast := midU_last v hv
  have hl128 := uvar_last hv
  have hul := uvarN_length hv
  have Hlast : Hid _ := hlast
  have Hul : Hid _ := hul
  clear hlast hul
  go_enter Try.func19, Try.ntmps19
  go_wp2_with (first
    | (go_at_call 41; refine (uvarLen_any _ _ hv).mono ?_; rintro e w' ⟨rfl, rfl⟩)
    | (at_make; refine wpList_make_full _ rfl (.tmp 8) (.tmp 8) 22 rfl w.heap.size 5 i0 (.int .u8 0) 1 Try.underlying22 hi hz0 hz1 .i64 .i64 (ulen v) (ulen v) (ulen v) rfl rfl rfl rfl (by rw [hz2]; omega) (by unfold maxLen; omega) (Nat.le_refl _) ?_; intro w1 hown hgrow))
  have hown0 : w1.ownsRow w.heap.size 5 1 (.slice (some ⟨w.heap.size, 0, none⟩) (ulen v) (ulen v)) (ulen v) (midU (ulen v) 0 v) := by
    have e : (madeCells (Value.int .u8 0).cells (ulen v * 1)).toList = midU (ulen v) 0 v := by
      simp only [madeCells, midU, grp, cellsB, Value.cells, Nat.mul_one, Array.toList_map, Array.toList_range, List.range_zero, List.map_nil, List.nil_append, Nat.sub_zero]
      apply List.ext_getElem (by simp)
      intro i h1 h2
      simp [Nat.mod_one]
    rw [← e]; exact hown
  have hb0 : Below w.heap.size w w1 := (Below.refl _ _).grown hgrow (Nat.le_refl _) (by intro k hk; cases hk)
  clear hown hgrow
  go_loopw [11] (fun i wr => ∃ k : Nat, k ≤ ulen v ∧ i = .int .i64 k ∧ wr.ownsRow w.heap.size 5 1 (.slice (some ⟨w.heap.size, 0, none⟩) (ulen v) (ulen v)) (ulen v) (midU (ulen v) k v) ∧ Below w.heap.size w wr) (fun i _ => ulen v - (intOf i).toNat)
  case atStart => exact ⟨0, Nat.zero_le _, rfl, hown0, hb0⟩
  case round =>
    obtain ⟨k, hk, rfl, hown, hb⟩ := hrel
    by_cases hkn : k < ulen v
    · have hc : wr.cell? ⟨w.heap.size, k, none⟩ = some (.int .u8 0) := by rw [hown.cellAt k (by omega), midU_at _ _ _ hkn]
      have hf := hown.frozenAt k
      have hst := (hown.stored k (.int .u8 ((v / 2 ^ (7 * k) % 128 + 128 : Nat) : Int))).1
      rw [midU_set _ v k hkn] at hst
      have Hst : Hid (World.ownsRow _ _ _ _ _ _ _) := hst
      have Hb : Hid _ := hb.setCell (p := ⟨w.heap.size, k, none⟩) (Nat.le_refl _) (.int .u8 ((v / 2 ^ (7 * k) % 128 + 128 : Nat) : Int))
      clear hown hst hb
      go_wp2
      go_roundw
      case rel =>
        rw [show ((v : Int) / 2 ^ (7 * k) % 256) = (((v / 2 ^ (7 * k) : Nat) : Int)) % 256 by simp, or_128]
        exact ⟨k + 1, by omega, by go_num, Hst.out, Hb.out⟩
      case measure => simp [intOf]; omega
    · obtain rfl : k = ulen v := by omega
      have hc : wr.cell? ⟨w.heap.size, ulen v - 1, none⟩ = some (.int .u8 ((v / 2 ^ (7 * (ulen v - 1)) % 128 + 128 : Nat) : Int)) := by rw [hown.cellAt _ (by omega), midU_end _ _ hn1]
      have hf := hown.frozenAt (ulen v - 1)
      have hst := (hown.stored (ulen v - 1) (.int .u8 ((v / 2 ^ (7 * (ulen v - 1)) : Nat) : Int))).1
      rw [Hlast.out] at hst
      have Hst : Hid (World.ownsRow _ _ _ _ _ _ _) := hst
      have Hb : Hid _ := hb.setCell (p := ⟨w.heap.size, ulen v - 1, none⟩) (Nat.le_refl _) (.int .u8 ((v / 2 ^ (7 * (ulen v - 1)) : Nat) : Int))
      have ha := andNot_128 _ hl128
      clear hown hst hb
      go_wp2
      go_ret
      have e : bits BinOp.andNot IntKind.u8 ((v : Int) / 2 ^ (7 * (ulen v - 1)) % 128 + 128) 128 = ((v / 2 ^ (7 * (ulen v - 1)) : Nat) : Int) := by
        rw [← ha]; congr 1
      rw [e]
      exact ⟨_, rfl, by rw [Hul.out]; exact Hst.out, Hb.out⟩

theorem div_step (v k : Nat) : v / 2 ^ (7 * k) / 128 = v / 2 ^ (7 * (k + 1)) := by
  rw [Nat.div_div_eq_div_mul, show (128 : Nat) = 2 ^ 7 from rfl, ← Nat.pow_add]; rfl

set_option maxRecDepth 100000 in
set_option maxHeartbeats 400000 in
theorem ruvar_any (v : Nat) (w : World) (hv : v < 2 ^ 64) :
    Calls Try.prog 20 #[.int .u64 v] w (NewBs w (uvarN v)) := by
  obtain ⟨i0, hi, hz0, hz1, hz2⟩ := info_parts Try.info5
  go_enter Try.func20, Try.ntmps20
  go_wp2
  go_loopw [0, 3] (fun u b wr => ∃ k : Nat, k ≤ 9 ∧ u = .int .u64 ((v / 2 ^ (7 * k) : Nat) : Int) ∧ (k = 0 ∨ 128 ≤ v / 2 ^ (7 * (k - 1))) ∧ wr.ownsRow w.heap.size 5 1 b k (cellsB (grp k v)) ∧ Below w.heap.size w wr) (fun u _ _ => (intOf u).toNat)
  case atStart => exact ⟨0, Nat.zero_le _, by simp, .inl rfl, World.ownsRow_nil _ _ _ _, Below.refl _ _⟩
  case round =>
    obtain ⟨k, hk, rfl, hk2, hown, hb⟩ := hrel
    have hu : v / 2 ^ (7 * k) < 2 ^ 64 := Nat.lt_of_le_of_lt (Nat.div_le_self _ _) hv
    have hd := div_step v k
    have hfin : v / 2 ^ (7 * k) < 128 → uvarN v = grp k v ++ [v / 2 ^ (7 * k)] ∧ (uvarN v).length = k + 1 := by
      intro h
      have := ulen_eq hv hk h hk2
      refine ⟨?_, by rw [uvarN_length hv, this]⟩
      rw [uvarN, this, Nat.add_sub_cancel]
    have hgs := grp_succ k v
    have hk9 : 128 ≤ v / 2 ^ (7 * k) → k + 1 ≤ 9 := by
      intro h
      rw [Nat.le_div_iff_mul_le (Nat.two_pow_pos _), show (128 : Nat) = 2 ^ 7 from rfl, ← Nat.pow_add] at h
      rcases Nat.lt_or_ge k 9 with h9 | h9
      · omega
      · have : 2 ^ 64 ≤ 2 ^ (7 + 7 * k) := Nat.pow_le_pow_right (by omega) (by omega)
        omega
    generalize hg : v / 2 ^ (7 * k) = u at *
    have Hg : Hid _ := hg
    have Hd : Hid _ := hd
    have Hgs : Hid _ := hgs
    have Hfin : Hid _ := hfin
    have Hk2 : Hid _ := hk2
    have Hk9 : Hid _ := hk9
    clear hg hd hgs hfin hk2 hk9
    by_cases h128 : 128 ≤ u
    · go_wp2_with (at_builtin; refine wpList_append_bs _ rfl (.tmp 6) (.tmp 11) 22 rfl w.heap.size 5 i0 (.int .u8 0) Try.underlying22 hi hz0 hz1 hz2 rfl _ _ (grp k v) rfl (hown.alloc _) _ [u % 128 + 128] rfl (Bs.one _ _ _ _ (by omega) (by omega)) (by simp; omega) (by have := hb.size; simp; omega) ?_; intro v' w1 hown' hgrow)
      have hb1 : Below w.heap.size w w1 := (hb.alloc hb.size _).grown hgrow (by have := hb.size; simp; omega) (owns_lt hown)
      rw [← Hgs.out] at hown'
      clear hgrow hown
      go_roundw
      case rel =>
        refine ⟨k + 1, Hk9.out h128, ?_, .inr (by rw [Nat.add_sub_cancel, Hg.out]; exact h128), hown', hb1⟩
        rw [← Hd.out]; simp
      case measure => simp [intOf]; omega
    · obtain ⟨hf1, hf2⟩ := Hfin.out (by omega)
      have HF : Hid _ := hf1
      have HF2 : Hid _ := hf2
      clear hf1 hf2
      go_wp2_with (at_builtin; refine wpList_append_bs _ rfl (.tmp 15) (.tmp 18) 22 rfl w.heap.size 5 i0 (.int .u8 0) Try.underlying22 hi hz0 hz1 hz2 rfl _ _ (grp k v) rfl (hown.alloc _) _ [u] rfl (Bs.one _ _ _ _ (by omega) (by omega)) (by simp; omega) (by have := hb.size; simp; omega) ?_; intro v' w1 hown' hgrow)
      have hb1 : Below w.heap.size w w1 := (hb.alloc hb.size _).grown hgrow (by have := hb.size; simp; omega) (owns_lt hown)
      go_wp2
      go_ret
      exact ⟨_, rfl, by rw [HF.out, List.length_append, grp_length]; exact hown', hb1⟩
end Go.Proofs.Ytiloaehomdlokaa
