/- GeomWhere: for every geometry and block, Where answers as the document says (P4.4). -/
import Derived.Test.YtecbcjdihnbdhaaC8
import Derived.Test.YtecbcjdihnbdhaaCame
set_option linter.unusedSimpArgs false
set_option linter.unusedVariables false
namespace Go.Proofs.Ytecbcjdihnbdhaa
open Go.RowKit Go.Attic Go.ChangeShapes Go.WideShapes Go.ChangeAt

set_option maxRecDepth 100000 in
set_option maxHeartbeats 1000000 in
theorem where_walk (b l d x k q0 q1 q2 : Int) (w : World)
    (h1 : ∀ w, Calls Try.prog 25 #[.agg #[.int .i64 b, .int .i64 l, .int .i64 d, .int .i64 x], .int .i64 k] w fun r w' => r = .returned (.tuple #[.int .i64 q0, .int .i64 q1, .int .i64 q2]) ∧ Below w.heap.size w w')
    (h2 : ∀ w, Calls Try.prog 26 #[.agg #[.int .i64 b, .int .i64 l, .int .i64 d, .int .i64 x], .int .i64 k] w fun r w' => r = .returned (.tuple #[.int .i64 q0, .int .i64 q1, .int .i64 q2]) ∧ Below w.heap.size w w') :
    Calls Try.prog 5 #[.agg #[.int .i64 b, .int .i64 l, .int .i64 d, .int .i64 x], .int .i64 k] w fun r w' => r = .returned (.bool true) ∧ Below w.heap.size w w' := by
  have e0 : (q0 == q0) = true := by simp
  have e1 : (q1 == q1) = true := by simp
  have e2 : (q2 == q2) = true := by simp
  have hG := GeoAt.new w b l d x
  go_enter Try.func5, Try.ntmps5
  go_wp2_with (go_at_call 25; refine (h1 _).mono ?_; rintro r w1 ⟨rfl, hb1⟩; have hB1 : Below w.heap.size w w1 := ((Below.refl _ w).alloc (Nat.le_refl _) _).trans (hb1.mono (by simp)); obtain ⟨c0, c1, c2, c3, f0, f1, f2, f3, lg⟩ := hG.mono hb1; clear hb1 hG)
  go_wp2_with (go_at_call 26; refine (h2 _).mono ?_; rintro r w2 ⟨rfl, hb2⟩; have hB2 := hB1.trans (hb2.mono hB1.size); clear hb2)
  go_wp2_with (go_at_call 10; refine (begun_any _).mono ?_; rintro r w3 ⟨rfl, hb3⟩; have hB3 := hB2.trans (hb3.mono hB2.size); clear hb3)
  go_ret
  exact ⟨rfl, hB3⟩

theorem whereLaw_any (b l d x k : Int) (w : World) (kb : -9223372036854775808 ≤ b ∧ b ≤ 9223372036854775807) :
    Calls Try.prog 5 #[.agg #[.int .i64 b, .int .i64 l, .int .i64 d, .int .i64 x], .int .i64 k] w fun r w' => r = .returned (.bool true) ∧ Below w.heap.size w w' := by
  by_cases h : okG b l d x
  · by_cases hk : 0 ≤ k ∧ k < b
    · exact where_walk b l d x k _ _ _ w (fun w => where_yes b l d x k w h hk.1 hk.2) (fun w => refWhere_yes b l d x k w h hk.1 hk.2)
    · exact where_walk b l d x k _ _ _ w (fun w => where_arg b l d x k w h hk) (fun w => refWhere_arg b l d x k w h hk)
  · exact where_walk b l d x k _ _ _ w (fun w => where_no b l d x k w kb.1 kb.2 h) (fun w => refWhere_no b l d x k w kb.1 kb.2 h)

theorem geomWhere_lifted (os : Os) (started : os.Started) (H : Type) (enc : TypeId × Value → H) :
    ReturnsInHanded {} Try.checked os 5 .any (Rows.geomWhereSpec.pre6 enc Try.prog Try.f5 Rows.geomWhereRow.domain false) (Rows.geomWhereSpec.post enc Try.prog Try.f5 false true false false) := by
  refine law_frame (C := Try.checked) rfl Try.own started (by kernel_rfl) Try.func5
    (ChangeSpec.witness6 (enc := enc) (C := Try.checked) false ⟨#[], #[.agg #[.int .i64 0, .int .i64 0, .int .i64 0, .int .i64 0], .int .i64 0], []⟩ 8 (by kernel_rfl) (by kernel_rfl) (by kernel_rfl) (by kernel_rfl))
    Try.laidOut ?_ 4 rfl Try.underlying4 ?_ ?_
  · rw [Try.params5]
    intro t ht
    simp at ht
    rcases ht with rfl | rfl <;> exact ⟨by kernel_rfl, of_decide_eq_true (by kernel_rfl)⟩
  · intro ds hn
    rw [Try.params5] at hn
    match ds, hn with
    | [d1, d2], _ => rfl
  · intro W base args ds p hval0 hA hsz
    have hval : ∀ (j : Nat) t v, Try.f5.params[j]? = some t → args[j]? = some v → Value.okWide Try.prog W .any base t v := hval0
    rw [Try.params5] at hA hsz hval
    obtain ⟨v0, vs0, d0, ds0, p0, q0, hargs, rfl, rfl, h0, r0⟩ := trodAll_cons hA
    obtain ⟨v1, vs1, d1, ds1, p1, q1, rfl, rfl, rfl, h1, r1⟩ := trodAll_cons r0
    obtain ⟨rfl, rfl, rfl⟩ := trodAll_nil r1
    obtain rfl : args = #[v0, v1] := by cases args; simp_all
    obtain ⟨b, l, d, x, rfl, kb, kl, kd, kx⟩ := came4 Try.underlying23 (by kernel_rfl) (by kernel_rfl) (by intro f hf; simp at hf; rcases hf with rfl | rfl | rfl | rfl <;> exact Try.underlying3) (hval 0 23 v0 rfl rfl) h0
    obtain ⟨a1, rfl, rfl, rfl, w1⟩ := open_int Try.underlying3 (hval 1 3 v1 rfl rfl) h1
    have hb1 := bounds_i64 w1
    exact whereLaw_any b l d x a1 W kb

theorem geomWhere_holds : Rows.GeomWhereSaid :=
  OpenClaim.holds_of_wide 5 Try.f5 rfl rfl rfl rfl rfl rfl rfl ⟨rfl, rfl, rfl, rfl, rfl⟩ rfl rfl rfl rfl rfl (by kernel_rfl) Try.func5 (by kernel_rfl)
    (of_decide_eq_true (by kernel_rfl)) (by unfold Func.isWrapper; first | (rw [if_pos (by decide +kernel)]; kernel_rfl) | (rw [if_neg (by decide +kernel)]; exact ⟨rfl, rfl⟩))
    (fun os started H enc _ => geomWhere_lifted os started H enc)
#print axioms geomWhere_holds
end Go.Proofs.Ytecbcjdihnbdhaa
