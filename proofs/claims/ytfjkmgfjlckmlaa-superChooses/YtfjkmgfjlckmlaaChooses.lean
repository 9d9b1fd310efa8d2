/- SuperChooses: of any two blocks, in either order, Choose answers as the document says (P5.3). -/
import Derived.Test.YtfjkmgfjlckmlaaBlk
set_option linter.unusedSimpArgs false
set_option linter.unusedVariables false
namespace Go.Proofs.Ytfjkmgfjlckmlaa
open Go.RowKit Go.Attic Go.ChangeShapes Go.WideShapes Go.ChangeAt

theorem rb_ex (a0 a1 a2 a3 a4 a5 : Int) (kb : -9223372036854775808 ≤ a1 ∧ a1 ≤ 9223372036854775807) : ∃ (M : List Nat) (e : Int), (M.length = 256 ∨ M.length = 0) ∧ (∀ w, Calls Try.prog 18 #[.agg #[.int .i64 a0, .int .i64 a1, .int .i64 a2, .int .i64 a3, .int .i64 a4, .int .i64 a5]] w (NewBsE w M e)) ∧ ∀ y ∈ M, y < 256 := by
  by_cases k : okS a0 a1 a2 a3 a4 a5
  · obtain ⟨ep, b, l, d, x, h, rfl, rfl, rfl, rfl, rfl, rfl⟩ := okS_nat k
    exact ⟨blockL ep b l d x h, 0, .inl (blockL_length _ _ _ _ _ _), fun w => rbytes_yes _ _ _ _ _ _ w k, blockL_lt _ _ _ _ _ _⟩
  · exact ⟨[], _, .inr rfl, fun w => rbytes_no _ _ _ _ _ _ w kb (fun e => k (chkS_zero e)), by simp⟩

theorem blocks_any (a0 a1 a2 a3 a4 a5 b0 b1 b2 b3 b4 b5 : Int) (tn : Bool) (ix by_ : Nat) (vs : Value) (L : List Nat) (w : World) (ka : -9223372036854775808 ≤ a1 ∧ a1 ≤ 9223372036854775807) (kb : -9223372036854775808 ≤ b1 ∧ b1 ≤ 9223372036854775807) (hix : ix < 256) (hby : by_ < 256) (hv : Bs w vs L) (hlen : L.length ≤ 140737488355328) :
    Calls Try.prog 22 #[.agg #[.int .i64 a0, .int .i64 a1, .int .i64 a2, .int .i64 a3, .int .i64 a4, .int .i64 a5, .int .i64 b0, .int .i64 b1, .int .i64 b2, .int .i64 b3, .int .i64 b4, .int .i64 b5, .bool tn, .int .u8 (ix : Nat), .int .u8 (by_ : Nat), vs]] w (TwoBs w) := by
  obtain ⟨MA, eA, lA, h18, hMA⟩ := rb_ex a0 a1 a2 a3 a4 a5 ka
  obtain ⟨MB, eB, lB, k18, hMB⟩ := rb_ex b0 b1 b2 b3 b4 b5 kb
  have hnB : MB.length ≤ 256 := by omega
  have hnA : MA.length ≤ 256 := by omega
  cases tn with
  | false =>
    by_cases hL : 0 < L.length
    · cases hs : (slotS a0 == 1) with
      | true => exact blk_fys a0 a1 a2 a3 a4 a5 b0 b1 b2 b3 b4 b5 ix by_ vs L w hix hby hv hlen MA MB _ _ eA eB h18 k18 hMA hMB rfl hnA hnB rfl hL hs
      | false => exact blk_fyo a0 a1 a2 a3 a4 a5 b0 b1 b2 b3 b4 b5 ix by_ vs L w hix hby hv hlen MA MB _ _ eA eB h18 k18 hMA hMB rfl hnA hnB rfl hL hs
    · cases hs : (slotS a0 == 1) with
      | true => exact blk_fns a0 a1 a2 a3 a4 a5 b0 b1 b2 b3 b4 b5 ix by_ vs L w hix hby hv hlen MA MB _ _ eA eB h18 k18 hMA hMB rfl hnA hnB rfl (by omega) hs
      | false => exact blk_fno a0 a1 a2 a3 a4 a5 b0 b1 b2 b3 b4 b5 ix by_ vs L w hix hby hv hlen MA MB _ _ eA eB h18 k18 hMA hMB rfl hnA hnB rfl (by omega) hs
  | true =>
    rcases lA with lA | lA
    · by_cases hL : 0 < L.length
      · cases hs : (slotS a0 == 1) with
        | true => exact blk_sys a0 a1 a2 a3 a4 a5 b0 b1 b2 b3 b4 b5 ix by_ vs L w hix hby hv hlen MA MB _ _ eA eB h18 k18 hMA hMB rfl hnA hnB lA hL hs
        | false => exact blk_syo a0 a1 a2 a3 a4 a5 b0 b1 b2 b3 b4 b5 ix by_ vs L w hix hby hv hlen MA MB _ _ eA eB h18 k18 hMA hMB rfl hnA hnB lA hL hs
      · cases hs : (slotS a0 == 1) with
        | true => exact blk_sns a0 a1 a2 a3 a4 a5 b0 b1 b2 b3 b4 b5 ix by_ vs L w hix hby hv hlen MA MB _ _ eA eB h18 k18 hMA hMB rfl hnA hnB lA (by omega) hs
        | false => exact blk_sno a0 a1 a2 a3 a4 a5 b0 b1 b2 b3 b4 b5 ix by_ vs L w hix hby hv hlen MA MB _ _ eA eB h18 k18 hMA hMB rfl hnA hnB lA (by omega) hs
    · by_cases hL : 0 < L.length
      · cases hs : (slotS a0 == 1) with
        | true => exact blk_eys a0 a1 a2 a3 a4 a5 b0 b1 b2 b3 b4 b5 ix by_ vs L w hix hby hv hlen MA MB _ _ eA eB h18 k18 hMA hMB rfl hnA hnB lA hL hs
        | false => exact blk_eyo a0 a1 a2 a3 a4 a5 b0 b1 b2 b3 b4 b5 ix by_ vs L w hix hby hv hlen MA MB _ _ eA eB h18 k18 hMA hMB rfl hnA hnB lA hL hs
      · cases hs : (slotS a0 == 1) with
        | true => exact blk_ens a0 a1 a2 a3 a4 a5 b0 b1 b2 b3 b4 b5 ix by_ vs L w hix hby hv hlen MA MB _ _ eA eB h18 k18 hMA hMB rfl hnA hnB lA (by omega) hs
        | false => exact blk_eno a0 a1 a2 a3 a4 a5 b0 b1 b2 b3 b4 b5 ix by_ vs L w hix hby hv hlen MA MB _ _ eA eB h18 k18 hMA hMB rfl hnA hnB lA (by omega) hs

set_option maxRecDepth 100000 in
set_option maxHeartbeats 1000000 in
theorem chooses_any (a0 a1 a2 a3 a4 a5 b0 b1 b2 b3 b4 b5 : Int) (tn : Bool) (ix by_ : Nat) (vs : Value) (L : List Nat) (w : World) (ka : -9223372036854775808 ≤ a1 ∧ a1 ≤ 9223372036854775807) (kb : -9223372036854775808 ≤ b1 ∧ b1 ≤ 9223372036854775807) (hix : ix < 256) (hby : by_ < 256) (hv : Bs w vs L) (hlen : L.length ≤ 140737488355328) :
    Calls Try.prog 5 #[.agg #[.int .i64 a0, .int .i64 a1, .int .i64 a2, .int .i64 a3, .int .i64 a4, .int .i64 a5, .int .i64 b0, .int .i64 b1, .int .i64 b2, .int .i64 b3, .int .i64 b4, .int .i64 b5, .bool tn, .int .u8 (ix : Nat), .int .u8 (by_ : Nat), vs]] w fun r w' => r = .returned (.bool true) ∧ Below w.heap.size w w' := by
  have hgu := fun op x y xs ys w => run_eqGuard_agg (P := Try.prog) w op 25 x y xs ys (by kernel_rfl)
  have hv0 := hv.alloc (.cells #[.int .i64 a0, .int .i64 a1, .int .i64 a2, .int .i64 a3, .int .i64 a4, .int .i64 a5, .int .i64 b0, .int .i64 b1, .int .i64 b2, .int .i64 b3, .int .i64 b4, .int .i64 b5, .bool tn, .int .u8 (ix : Nat), .int .u8 (by_ : Nat), vs] 41)
  have hbl := blocks_any a0 a1 a2 a3 a4 a5 b0 b1 b2 b3 b4 b5 tn ix by_ vs L _ ka kb hix hby hv0 hlen
  obtain ⟨ao, cap, rfl, -⟩ := id hv
  go_enter Try.func5, Try.ntmps5
  go_wp2_with fail
  refine hbl.mono ?_
  rintro r w1 ⟨v, u, P, Q, rfl, hP, hQ, hlP, hlQ, hb1⟩
  have hB1 : Below w.heap.size w w1 := ((Below.refl _ w).alloc (Nat.le_refl _) _).trans (hb1.mono (by simp))
  obtain ⟨c0, c1, c2, c3, c4, c5, ec, h23, h24⟩ := choose_both P Q hlP hlQ
  obtain ⟨d0, d1, d2, d3, d4, d5, ed, k23, k24⟩ := choose_both Q P hlQ hlP
  have hqc := fun w => eqlS_same c0 c1 c2 c3 c4 c5 w
  have hqd := fun w => eqlS_same d0 d1 d2 d3 d4 d5 w
  have he1 : (ec == ec) = true := by simp
  have he2 : (ed == ed) = true := by simp
  obtain ⟨va, vc, rfl, -⟩ := id hP
  obtain ⟨ua, uc, rfl, -⟩ := id hQ
  clear hb1 hv0 hbl hv
  go_wp2_with fail
  refine (h23 _ _ _ hP hQ).mono ?_
  rintro r w2 ⟨rfl, hb2⟩
  have hX2 := SupAt.new w2 c0 c1 c2 c3 c4 c5
  have hP2 := (hP.mono hb2).alloc (.cells #[.int .i64 c0, .int .i64 c1, .int .i64 c2, .int .i64 c3, .int .i64 c4, .int .i64 c5] 25)
  have hQ2 := (hQ.mono hb2).alloc (.cells #[.int .i64 c0, .int .i64 c1, .int .i64 c2, .int .i64 c3, .int .i64 c4, .int .i64 c5] 25)
  have hB2 := hB1.trans (hb2.mono hB1.size)
  have hB2' := hB2.alloc hB2.size (.cells #[.int .i64 c0, .int .i64 c1, .int .i64 c2, .int .i64 c3, .int .i64 c4, .int .i64 c5] 25)
  clear hb2 hP hQ hB1 hB2
  go_wp2_with fail
  refine (h24 _ _ _ hP2 hQ2).mono ?_
  rintro r w3 ⟨rfl, hb3⟩
  have hY3 := SupAt.new w3 c0 c1 c2 c3 c4 c5
  have hX3 := (hX2.mono hb3).alloc (.cells #[.int .i64 c0, .int .i64 c1, .int .i64 c2, .int .i64 c3, .int .i64 c4, .int .i64 c5] 25)
  have hP3 := (hP2.mono hb3).alloc (.cells #[.int .i64 c0, .int .i64 c1, .int .i64 c2, .int .i64 c3, .int .i64 c4, .int .i64 c5] 25)
  have hQ3 := (hQ2.mono hb3).alloc (.cells #[.int .i64 c0, .int .i64 c1, .int .i64 c2, .int .i64 c3, .int .i64 c4, .int .i64 c5] 25)
  have hB3 := hB2'.trans (hb3.mono hB2'.size)
  have hB3' := hB3.alloc hB3.size (.cells #[.int .i64 c0, .int .i64 c1, .int .i64 c2, .int .i64 c3, .int .i64 c4, .int .i64 c5] 25)
  clear hb3 hP2 hQ2 hB2' hB3 hX2
  go_wp2_with fail
  refine (k23 _ _ _ hQ3 hP3).mono ?_
  rintro r w4 ⟨rfl, hb4⟩
  have hZ4 := SupAt.new w4 d0 d1 d2 d3 d4 d5
  have hX4 := (hX3.mono hb4).alloc (.cells #[.int .i64 d0, .int .i64 d1, .int .i64 d2, .int .i64 d3, .int .i64 d4, .int .i64 d5] 25)
  have hY4 := (hY3.mono hb4).alloc (.cells #[.int .i64 d0, .int .i64 d1, .int .i64 d2, .int .i64 d3, .int .i64 d4, .int .i64 d5] 25)
  have hP4 := (hP3.mono hb4).alloc (.cells #[.int .i64 d0, .int .i64 d1, .int .i64 d2, .int .i64 d3, .int .i64 d4, .int .i64 d5] 25)
  have hQ4 := (hQ3.mono hb4).alloc (.cells #[.int .i64 d0, .int .i64 d1, .int .i64 d2, .int .i64 d3, .int .i64 d4, .int .i64 d5] 25)
  have hB4 := hB3'.trans (hb4.mono hB3'.size)
  have hB4' := hB4.alloc hB4.size (.cells #[.int .i64 d0, .int .i64 d1, .int .i64 d2, .int .i64 d3, .int .i64 d4, .int .i64 d5] 25)
  clear hb4 hP3 hQ3 hB3' hB4 hX3 hY3
  go_wp2_with fail
  refine (k24 _ _ _ hQ4 hP4).mono ?_
  rintro r w5 ⟨rfl, hb5⟩
  have hW5 := SupAt.new w5 d0 d1 d2 d3 d4 d5
  have hX5 := (hX4.mono hb5).alloc (.cells #[.int .i64 d0, .int .i64 d1, .int .i64 d2, .int .i64 d3, .int .i64 d4, .int .i64 d5] 25)
  have hY5 := (hY4.mono hb5).alloc (.cells #[.int .i64 d0, .int .i64 d1, .int .i64 d2, .int .i64 d3, .int .i64 d4, .int .i64 d5] 25)
  have hZ5 := (hZ4.mono hb5).alloc (.cells #[.int .i64 d0, .int .i64 d1, .int .i64 d2, .int .i64 d3, .int .i64 d4, .int .i64 d5] 25)
  have hB5 := hB4'.trans (hb5.mono hB4'.size)
  have hB5' := hB5.alloc hB5.size (.cells #[.int .i64 d0, .int .i64 d1, .int .i64 d2, .int .i64 d3, .int .i64 d4, .int .i64 d5] 25)
  clear hb5 hP4 hQ4 hB4' hB5 hX4 hY4 hZ4
  go_wp2_with fail
  refine (live_any _).mono ?_
  rintro r w6 ⟨rfl, hb6⟩
  obtain ⟨e0, e1, e2, e3, e4, e5, -, -, -, -, -, -, -⟩ := id (hX5.mono hb6)
  obtain ⟨f0, f1, f2, f3, f4, f5, -, -, -, -, -, -, -⟩ := id (hY5.mono hb6)
  obtain ⟨g0, g1, g2, g3, g4, g5, -, -, -, -, -, -, -⟩ := id (hZ5.mono hb6)
  obtain ⟨h0, h1, h2, h3, h4, h5, -, -, -, -, -, -, -⟩ := id (hW5.mono hb6)
  have hB6 := hB5'.trans (hb6.mono hB5'.size)
  clear hb6 hX5 hY5 hZ5 hW5 hB5'
  go_wp2_with fail
  go_ret
  exact ⟨rfl, hB6⟩

theorem superChooses_lifted (os : Os) (started : os.Started) (H : Type) (enc : TypeId × Value → H) :
    ReturnsInHanded {} Try.checked os 5 .any (Rows.superChoosesSpec.pre6 enc Try.prog Try.f5 Rows.superChoosesRow.domain false) (Rows.superChoosesSpec.post enc Try.prog Try.f5 false true false false) := by
  refine law_frame (C := Try.checked) rfl Try.own started (by kernel_rfl) Try.func5
    (ChangeSpec.witness6 (enc := enc) (C := Try.checked) false ⟨#[], #[.agg #[.int .i64 0, .int .i64 0, .int .i64 0, .int .i64 0, .int .i64 0, .int .i64 0, .int .i64 0, .int .i64 0, .int .i64 0, .int .i64 0, .int .i64 0, .int .i64 0, .bool false, .int .u8 0, .int .u8 0, .slice none 0 0]], []⟩ 8 (by kernel_rfl) (by kernel_rfl) (by kernel_rfl) (by kernel_rfl))
    Try.laidOut ?_ 4 rfl Try.underlying4 ?_ ?_
  · rw [Try.params5]
    intro t ht
    simp at ht
    rcases ht with rfl <;> exact ⟨by kernel_rfl, of_decide_eq_true (by kernel_rfl)⟩
  · intro ds hn
    rw [Try.params5] at hn
    match ds, hn with
    | [d1], _ => rfl
  · intro W base args ds p hval0 hA hsz
    have hval : ∀ (j : Nat) t v, Try.f5.params[j]? = some t → args[j]? = some v → Value.okWide Try.prog W .any base t v := hval0
    rw [Try.params5] at hA hsz hval
    obtain ⟨v0, vs0, d0, ds0, p0, q0, hargs, rfl, rfl, h0, r0⟩ := trodAll_cons hA
    obtain ⟨rfl, rfl, rfl⟩ := trodAll_nil r0
    obtain rfl : args = #[v0] := by cases args; simp_all
    obtain ⟨a0, a1, a2, a3, a4, a5, b0, b1, b2, b3, b4, b5, tn, ix, by_, vs, L, rfl, ka, kb, hix, hby, hbs, hlL⟩ := cameT (hval 0 41 v0 rfl rfl) h0 hsz (j := 0) rfl rfl
    exact chooses_any a0 a1 a2 a3 a4 a5 b0 b1 b2 b3 b4 b5 tn ix by_ vs L W ka kb hix hby hbs hlL

theorem superChooses_holds : Rows.SuperChoosesSaid :=
  OpenClaim.holds_of_wide 5 Try.f5 rfl rfl rfl rfl rfl rfl rfl ⟨rfl, rfl, rfl, rfl, rfl⟩ rfl rfl rfl rfl rfl (by kernel_rfl) Try.func5 (by kernel_rfl)
    (of_decide_eq_true (by kernel_rfl)) (by unfold Func.isWrapper; first | (rw [if_pos (by decide +kernel)]; kernel_rfl) | (rw [if_neg (by decide +kernel)]; exact ⟨rfl, rfl⟩))
    (fun os started H enc _ => superChooses_lifted os started H enc)
#print axioms superChooses_holds
end Go.Proofs.Ytfjkmgfjlckmlaa
