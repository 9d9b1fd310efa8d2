/- SuperForms: for every super and any bytes, Bytes and Parse answer as the document says (P5.2). -/
import Derived.Test.YtfjkmgfjlckmlaaS13
import Derived.Test.YtfjkmgfjlckmlaaCameS
set_option linter.unusedSimpArgs false
set_option linter.unusedVariables false
namespace Go.Proofs.Ytfjkmgfjlckmlaa
open Go.RowKit Go.Attic Go.ChangeShapes Go.WideShapes Go.ChangeAt

set_option maxRecDepth 100000 in
set_option maxHeartbeats 1000000 in
theorem forms_walk (ep b l d x h : Int) (v : Value) (L : List Nat) (w : World) (hv : Bs w v L) (M : List Nat) (er q0 q1 q2 q3 q4 q5 eg : Int) (hMx : ∀ y ∈ M, y < 256)
    (h17 : ∀ w, Calls Try.prog 17 #[.agg #[.int .i64 ep, .int .i64 b, .int .i64 l, .int .i64 d, .int .i64 x, .int .i64 h]] w (NewBsE w M er)) (h18 : ∀ w, Calls Try.prog 18 #[.agg #[.int .i64 ep, .int .i64 b, .int .i64 l, .int .i64 d, .int .i64 x, .int .i64 h]] w (NewBsE w M er))
    (h19 : ∀ w, Bs w v L → Calls Try.prog 19 #[v] w fun e w' => e = .returned (.tuple #[.agg #[.int .i64 q0, .int .i64 q1, .int .i64 q2, .int .i64 q3, .int .i64 q4, .int .i64 q5], .int .i64 eg]) ∧ Below w.heap.size w w')
    (h20 : ∀ w, Bs w v L → Calls Try.prog 20 #[v] w fun e w' => e = .returned (.tuple #[.agg #[.int .i64 q0, .int .i64 q1, .int .i64 q2, .int .i64 q3, .int .i64 q4, .int .i64 q5], .int .i64 eg]) ∧ Below w.heap.size w w') :
    Calls Try.prog 4 #[.agg #[.int .i64 ep, .int .i64 b, .int .i64 l, .int .i64 d, .int .i64 x, .int .i64 h], v] w fun r w' => r = .returned (.bool true) ∧ Below w.heap.size w w' := by
  have hgu := fun op x y xs ys w => run_eqGuard_agg (P := Try.prog) w op 25 x y xs ys (by kernel_rfl)
  have hqa := fun w => eqlS_same q0 q1 q2 q3 q4 q5 w
  have he1 : (er == er) = true := by simp
  have he2 : (eg == eg) = true := by simp
  have hS := SupAt.new w ep b l d x h
  have hv0 := hv.alloc (.cells #[.int .i64 ep, .int .i64 b, .int .i64 l, .int .i64 d, .int .i64 x, .int .i64 h] 25)
  obtain ⟨ao, cap, rfl, -⟩ := id hv
  go_enter Try.func4, Try.ntmps4
  go_wp2_with fail
  refine (h17 _).mono ?_
  rintro r w1 ⟨v1, rfl, ho1, hb1⟩
  have hs1 := Bs.of_owns ho1 hMx
  obtain ⟨a1, p1, rfl, -, -⟩ := owns_form ho1
  have hS1 := hS.mono hb1
  have hv1 := hv0.mono hb1
  have hB1 : Below w.heap.size w w1 := ((Below.refl _ w).alloc (Nat.le_refl _) _).trans (hb1.mono (by simp))
  obtain ⟨c0, c1, c2, c3, c4, c5, -, -, -, -, -, -, -⟩ := id hS1
  clear ho1 hb1 hS hv0 hv
  go_wp2_with fail
  refine (h18 _).mono ?_
  rintro r w2 ⟨v2, rfl, ho2, hb2⟩
  have hs2 := Bs.of_owns ho2 hMx
  obtain ⟨a2, p2, rfl, -, -⟩ := owns_form ho2
  have hs1' := hs1.mono hb2
  have hv2 := hv1.mono hb2
  have hB2 := hB1.trans (hb2.mono hB1.size)
  clear ho2 hb2 hS1 hv1 hB1 hs1 c0 c1 c2 c3 c4 c5 h17 h18
  go_wp2_with fail
  refine (h19 _ hv2).mono ?_
  rintro r w3 ⟨rfl, hb3⟩
  have hP3 := SupAt.new w3 q0 q1 q2 q3 q4 q5
  have hs1 := (hs1'.mono hb3).alloc (.cells #[.int .i64 q0, .int .i64 q1, .int .i64 q2, .int .i64 q3, .int .i64 q4, .int .i64 q5] 25)
  have hs2' := (hs2.mono hb3).alloc (.cells #[.int .i64 q0, .int .i64 q1, .int .i64 q2, .int .i64 q3, .int .i64 q4, .int .i64 q5] 25)
  have hv3 := (hv2.mono hb3).alloc (.cells #[.int .i64 q0, .int .i64 q1, .int .i64 q2, .int .i64 q3, .int .i64 q4, .int .i64 q5] 25)
  have hB3 := hB2.trans (hb3.mono hB2.size)
  have hB3' := hB3.alloc hB3.size (.cells #[.int .i64 q0, .int .i64 q1, .int .i64 q2, .int .i64 q3, .int .i64 q4, .int .i64 q5] 25)
  clear hb3 hs1' hs2 hv2 hB2 hB3 h19
  go_wp2_with fail
  refine (h20 _ hv3).mono ?_
  rintro r w4 ⟨rfl, hb4⟩
  have hQ4 := SupAt.new w4 q0 q1 q2 q3 q4 q5
  have hP4 := (hP3.mono hb4).alloc (.cells #[.int .i64 q0, .int .i64 q1, .int .i64 q2, .int .i64 q3, .int .i64 q4, .int .i64 q5] 25)
  have hs1' := (hs1.mono hb4).alloc (.cells #[.int .i64 q0, .int .i64 q1, .int .i64 q2, .int .i64 q3, .int .i64 q4, .int .i64 q5] 25)
  have hs2 := (hs2'.mono hb4).alloc (.cells #[.int .i64 q0, .int .i64 q1, .int .i64 q2, .int .i64 q3, .int .i64 q4, .int .i64 q5] 25)
  have hB4 := hB3'.trans (hb4.mono hB3'.size)
  have hB4' := hB4.alloc hB4.size (.cells #[.int .i64 q0, .int .i64 q1, .int .i64 q2, .int .i64 q3, .int .i64 q4, .int .i64 q5] 25)
  clear hb4 hs1 hs2' hv3 hB3' hB4 h20 hP3
  go_wp2_with fail
  refine (live_any _).mono ?_
  rintro r w5 ⟨rfl, hb5⟩
  obtain ⟨d0, d1, d2, d3, d4, d5, -, -, -, -, -, -, -⟩ := id (hP4.mono hb5)
  obtain ⟨g0, g1, g2, g3, g4, g5, -, -, -, -, -, -, -⟩ := id (hQ4.mono hb5)
  have hs1 := hs1'.mono hb5
  have hs2' := hs2.mono hb5
  have hB5 := hB4'.trans (hb5.mono hB4'.size)
  clear hb5 hs1' hs2 hB4' hQ4 hP4
  go_wp2_with fail
  refine (equal_any _ _ M M _ hs1 hs2').mono ?_
  rintro r w6 ⟨rfl, rfl⟩
  rw [show decide (M = M) = true from decide_eq_true rfl]
  go_wp2_with fail
  go_ret
  exact ⟨rfl, hB5⟩

theorem forms_any (ep b l d x h : Int) (v : Value) (L : List Nat) (w : World) (kb : -9223372036854775808 ≤ b ∧ b ≤ 9223372036854775807) (hv : Bs w v L) (hlen : L.length ≤ 140737488351232) :
    Calls Try.prog 4 #[.agg #[.int .i64 ep, .int .i64 b, .int .i64 l, .int .i64 d, .int .i64 x, .int .i64 h], v] w fun r w' => r = .returned (.bool true) ∧ Below w.heap.size w w' := by
  obtain ⟨q0, q1, q2, q3, q4, q5, eg, kq⟩ := par_ex L
  by_cases k : okS ep b l d x h
  · obtain ⟨ep', b', l', d', x', h', rfl, rfl, rfl, rfl, rfl, rfl⟩ := okS_nat k
    exact forms_walk _ _ _ _ _ _ v L w hv (blockL ep' b' l' d' x' h') 0 q0 q1 q2 q3 q4 q5 eg (blockL_lt _ _ _ _ _ _) (fun w => bytes_yes _ _ _ _ _ _ w k) (fun w => rbytes_yes _ _ _ _ _ _ w k) (fun w hv => parse_par kq v (by omega) w hv) (fun w hv => rparse_par kq v (by omega) w hv)
  · have kc : chkS ep b l d x h ≠ 0 := fun e => k (chkS_zero e)
    exact forms_walk _ _ _ _ _ _ v L w hv [] _ q0 q1 q2 q3 q4 q5 eg (by simp) (fun w => bytes_no _ _ _ _ _ _ w kb kc) (fun w => rbytes_no _ _ _ _ _ _ w kb kc) (fun w hv => parse_par kq v (by omega) w hv) (fun w hv => rparse_par kq v (by omega) w hv)

theorem superForms_lifted (os : Os) (started : os.Started) (H : Type) (enc : TypeId × Value → H) :
    ReturnsInHanded {} Try.checked os 4 .any (Rows.superFormsSpec.pre6 enc Try.prog Try.f4 Rows.superFormsRow.domain false) (Rows.superFormsSpec.post enc Try.prog Try.f4 false true false false) := by
  refine law_frame (C := Try.checked) rfl Try.own started (by kernel_rfl) Try.func4
    (ChangeSpec.witness6 (enc := enc) (C := Try.checked) false ⟨#[], #[.agg #[.int .i64 0, .int .i64 0, .int .i64 0, .int .i64 0, .int .i64 0, .int .i64 0], .slice none 0 0], []⟩ 8 (by kernel_rfl) (by kernel_rfl) (by kernel_rfl) (by kernel_rfl))
    Try.laidOut ?_ 4 rfl Try.underlying4 ?_ ?_
  · rw [Try.params4]
    intro t ht
    simp at ht
    rcases ht with rfl | rfl <;> exact ⟨by kernel_rfl, of_decide_eq_true (by kernel_rfl)⟩
  · intro ds hn
    rw [Try.params4] at hn
    match ds, hn with
    | [d1, d2], _ => rfl
  · intro W base args ds p hval0 hA hsz
    have hval : ∀ (j : Nat) t v, Try.f4.params[j]? = some t → args[j]? = some v → Value.okWide Try.prog W .any base t v := hval0
    rw [Try.params4] at hA hsz hval
    obtain ⟨v0, vs0, d0, ds0, p0, q0, hargs, rfl, rfl, h0, r0⟩ := trodAll_cons hA
    obtain ⟨v1, vs1, d1, ds1, p1, q1, rfl, rfl, rfl, h1, r1⟩ := trodAll_cons r0
    obtain ⟨rfl, rfl, rfl⟩ := trodAll_nil r1
    obtain rfl : args = #[v0, v1] := by cases args; simp_all
    obtain ⟨ep, b, l, d, x, h, rfl, kep, kb, kl, kd, kx, kh⟩ := cameS (hval 0 25 v0 rfl rfl) h0
    obtain ⟨l1, hbs1, hl1⟩ := Bs.came Try.underlying34 Try.underlying5 (by kernel_rfl) (hval 1 34 v1 rfl rfl) h1
    have hlen1 := came_len hsz (j := 1) (t := 34) rfl rfl Try.underlying34 (by kernel_rfl) hl1
    exact forms_any ep b l d x h v1 l1 W kb hbs1 hlen1

theorem superForms_holds : Rows.SuperFormsSaid :=
  OpenClaim.holds_of_wide 4 Try.f4 rfl rfl rfl rfl rfl rfl rfl ⟨rfl, rfl, rfl, rfl, rfl⟩ rfl rfl rfl rfl rfl (by kernel_rfl) Try.func4 (by kernel_rfl)
    (of_decide_eq_true (by kernel_rfl)) (by unfold Func.isWrapper; first | (rw [if_pos (by decide +kernel)]; kernel_rfl) | (rw [if_neg (by decide +kernel)]; exact ⟨rfl, rfl⟩))
    (fun os started H enc _ => superForms_lifted os started H enc)
#print axioms superForms_holds
end Go.Proofs.Ytfjkmgfjlckmlaa
