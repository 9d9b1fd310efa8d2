/- Contracts: Bytes of a super, given the sixty bytes ahead of its sum. -/
import Derived.Test.YtfjkmgfjlckmlaaSP
import Derived.Test.YtfjkmgfjlckmlaaMark
import Derived.Test.YtfjkmgfjlckmlaaS5
set_option linter.unusedSimpArgs false
set_option linter.unusedVariables false
namespace Go.Proofs.Ytfjkmgfjlckmlaa
open Go.RowKit Go.Attic

theorem zerosL_made (n : Nat) : (madeCells (Value.int .u8 0).cells (n * 1)).toList = cellsB (zerosL n) := made_zeros n

theorem zeros_splice (n : Nat) (L : List Nat) : splice (cellsB (zerosL n)) 0 (cellsB L) = cellsB (L ++ zerosL (n - L.length)) := by
  unfold splice
  rw [cellsB_length, Nat.zero_add]
  have e2 : (cellsB (zerosL n)).drop L.length = cellsB (zerosL (n - L.length)) := by
    unfold cellsB
    rw [← List.map_drop, zerosL_drop]
  rw [e2, List.take_zero, List.nil_append, ← cellsB_append]

set_option maxRecDepth 100000 in
set_option maxHeartbeats 400000 in
theorem bytes_no (ep b l d x h : Int) (w : World) (kb : -9223372036854775808 ≤ b ∧ b ≤ 9223372036854775807) (k : chkS ep b l d x h ≠ 0) :
    Calls Try.prog 17 #[.agg #[.int .i64 ep, .int .i64 b, .int .i64 l, .int .i64 d, .int .i64 x, .int .i64 h]] w (NewBsE w [] (chkS ep b l d x h)) := by
  have hc := fun w => check_sup ep b l d x h w kb
  generalize chkS ep b l d x h = q at *
  have hq : (q != 0) = true := by simp [k]
  clear k
  go_enter Try.func17, Try.ntmps17
  go_wp2_with (go_at_call 13; refine (hc _).mono ?_; rintro e w1 ⟨rfl, hb1⟩)
  go_ret2
  exact ⟨_, rfl, World.ownsRow_nil _ _ _ _, ((Below.refl _ w).alloc (Nat.le_refl _) _).trans (hb1.mono (by simp))⟩

set_option maxRecDepth 100000 in
set_option maxHeartbeats 1000000 in
theorem bytes_of (ep b l d x h : Nat) (w : World) (k : okS ep b l d x h) (hsum : ∀ w, Calls Try.prog 29 #[.agg #[.int .i64 (ep : Nat), .int .i64 (b : Nat), .int .i64 (l : Nat), .int .i64 (d : Nat), .int .i64 (x : Nat), .int .i64 (h : Nat)]] w (NewBs w (sumdL ep b l d x h))) :
    Calls Try.prog 17 #[.agg #[.int .i64 (ep : Nat), .int .i64 (b : Nat), .int .i64 (l : Nat), .int .i64 (d : Nat), .int .i64 (x : Nat), .int .i64 (h : Nat)]] w (NewBsE w (blockL ep b l d x h) 0) := by
  have kr := okS_range k
  have hc := fun w => check_sup ep b l d x h w (by omega)
  rw [chkS_ok k] at hc
  obtain ⟨i0, hi, hz0, hz1, hz2⟩ := info_parts Try.info5
  have hinf : (Try.prog.info? 5).map (·.size) = some 1 := by kernel_rfl
  have hS0 := SupAt.new w ep b l d x h
  have hls := sumdL_length ep b l d x h
  have hlt := sumdL_lt ep b l d x h
  have ebl : blockL ep b l d x h = sealN (sumdL ep b l d x h) ++ zerosL 192 := rfl
  have ell := blockL_length ep b l d x h
  generalize sumdL ep b l d x h = T at *
  have hsl := sealN_length T
  rw [hls] at hsl
  have Hls := hide hls
  have Hsl := hide hsl
  have Ebl := hide ebl
  have Ell := hide ell
  clear k kr hls hsl ebl ell
  generalize blockL ep b l d x h = BL at *
  go_enter Try.func17, Try.ntmps17
  go_wp2_with (first
    | (go_at_call 13; refine (hc _).mono ?_; rintro e w1 ⟨rfl, hb1⟩; have B1 : Below w.heap.size w w1 := ((Below.refl _ w).alloc (Nat.le_refl _) _).trans (hb1.mono (by simp)); have z1 := B1.size; have hS1 := hS0.mono hb1; clear hb1 hS0)
    | (at_make; refine wpList_make_full _ rfl (.const (.int .i64 256)) (.const (.int .i64 256)) 34 rfl w.heap.size 5 i0 (.int .u8 0) 1 Try.underlying34 hi hz0 hz1 .i64 .i64 256 256 256 rfl rfl rfl rfl (by rw [hz2]; omega) (by unfold maxLen; omega) z1 ?_; intro w2 hown hgrow; rw [zerosL_made] at hown; have hb2 : Below w1.heap.size w1 w2 := (Below.refl _ _).grown hgrow (Nat.le_refl _) (by intro k hk; cases hk); have B2 := B1.trans (hb2.mono z1); obtain ⟨c0, c1, c2, c3, c4, c5, -, -, -, -, -, -, -⟩ := hS1.mono hb2; clear hgrow hb2 hS1))
  clear c0 c1 c2 c3 c4 c5
  refine (hsum _).mono ?_
  rintro e w3 ⟨v3, rfl, ho3, hb3⟩
  have hbs3 := Bs.of_owns ho3 hlt
  obtain ⟨ao3, cap3, rfl, -, -⟩ := owns_form ho3
  have hown3 := owns_below hown hb3 (Nat.le_refl _)
  have B3 := B2.trans (hb3.mono B2.size)
  clear ho3 hb3 hown B2
  go_wp2_with fail
  refine (seal_any _ T _ hbs3 (by rw [Hls.out]; omega)).mono ?_
  rintro e w4 ⟨v4, rfl, ho4, hb4⟩
  have hown4 := owns_below hown3 hb4 (Nat.le_refl _)
  have B4 := B3.trans (hb4.mono B3.size)
  obtain ⟨g4, cap4, rfl, hsrc⟩ : ∃ g cap, v4 = .slice (some ⟨g, 0, none⟩) 64 cap ∧ ∀ j u, (cellsB (sealN T))[j]? = some u → w4.cell? ((⟨g, 0, none⟩ : Addr).add j) = some u := by
    rw [Hsl.out] at ho4
    obtain ⟨ao, cap, rfl, -, hg⟩ := owns_form ho4
    obtain ⟨g, rfl, -⟩ := hg (by decide)
    exact ⟨g, cap, rfl, ho4.cells (g := g) rfl⟩
  have hq1 : (cellsB (sealN T)).length = Nat.min 64 256 := by rw [cellsB_length, Hsl.out]; rfl
  have hq2 : 0 + (cellsB (sealN T)).length ≤ 256 := by rw [cellsB_length, Hsl.out]; decide
  clear ho4 hb4 hown3 B3 hbs3
  go_wp2_with (refine wpList_copy_owns rfl (.tmp 12) (.tmp 15) 34 34 rfl 5 Try.underlying34 hinf w1.heap.size 0 256 256 ⟨g4, 0, none⟩ 64 cap4 rfl rfl 256 256 _ (owns_base hown4 (Nat.zero_le _)) (cellsB (sealN T)) hq1 hsrc hq2 (cellsB_oneCell _) ?_; intro w5 o5 k5; rw [cellsB_length, Hsl.out])
  rw [zeros_splice, Hsl.out, show 256 - (60 + 4) = 192 from rfl, ← Ebl.out] at o5
  go_ret2
  refine ⟨_, rfl, ?_, B4.trans (k5.below (fun j hj => by have e : j = w1.heap.size := hj; omega) B4.size)⟩
  rw [Ell.out]
  exact owns_raise o5 z1

end Go.Proofs.Ytfjkmgfjlckmlaa
