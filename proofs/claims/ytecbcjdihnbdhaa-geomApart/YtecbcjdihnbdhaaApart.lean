/- GeomApart: for every geometry, any two extents and classes: the slots of an extent, or of two, share no byte, lie in the heap and fill their extent; entries and marks of two extents share none, and lie whole in a block of their area (P4.5). No condition. -/
import Derived.Test.YtecbcjdihnbdhaaM5
import Derived.Test.YtecbcjdihnbdhaaFrame
import Derived.Test.YtecbcjdihnbdhaaCame
set_option linter.unusedSimpArgs false
set_option linter.unusedVariables false
namespace Go.Proofs.Ytecbcjdihnbdhaa
open Go.RowKit Go.Attic Go.ChangeShapes Go.WideShapes Go.ChangeAt

set_option maxRecDepth 100000 in
set_option maxHeartbeats 1000000 in
theorem apart_no (b l d x : Int) (e f c1 c2 : Nat) (w : World) (kb : -9223372036854775808 ≤ b ∧ b ≤ 9223372036854775807) (h : ¬ okG b l d x) :
    Calls Try.prog 6 #[.agg #[.int .i64 b, .int .i64 l, .int .i64 d, .int .i64 x], .int .u8 (e : Nat), .int .u8 (f : Nat), .int .u8 (c1 : Nat), .int .u8 (c2 : Nat)] w fun r w' => r = .returned (.bool true) ∧ Below w.heap.size w w' := by
  have ho := fun w => of_no b l d x w kb.1 kb.2 h
  clear h
  go_enter Try.func6, Try.ntmps6
  go_wp2_with (go_at_call 8; refine (ho _).mono ?_; rintro r w1 ⟨rfl, hb1⟩; have hB1 : Below w.heap.size w w1 := ((Below.refl _ w).alloc (Nat.le_refl _) _).trans (hb1.mono (by simp)); have hB1' := hB1.alloc hB1.size (.cells #[.int .i64 0, .int .i64 0, .int .i64 0, .int .i64 0, .int .i64 0, .int .i64 0] 25))
  go_wp2_with (go_at_call 10; refine (begun_any _).mono ?_; rintro r w2 ⟨rfl, hb2⟩; have hB2 := hB1'.trans (hb2.mono hB1'.size))
  go_wp2_with (go_at_call 10; refine (begun_any _).mono ?_; rintro r w3 ⟨rfl, hb3⟩; have hB3 := hB2.trans (hb3.mono hB2.size))
  go_ret
  exact ⟨rfl, hB3⟩

theorem where_is (b l d x : Int) (h : okG b l d x) (j : Nat) (hj : j < 7) (ar : Int) (har : ar = (j : Int)) : WhereIs b l d x (stOf l d x j) (stOf l d x (j + 1)) ar := by
  intro k k0 k1 w
  have h' := h
  obtain ⟨h1, h2, h3, h4, h5, h6, h7, h8⟩ := h'
  have hu := st_up l d x h1 h3 h5
  have h00 : stOf l d x 0 = 0 := rfl
  have h7' : stOf l d x 7 ≤ b := h7
  have hlo : 0 ≤ stOf l d x j ∧ stOf l d x (j + 1) ≤ stOf l d x 7 := by
    rcases below8 (j := j) (by omega) with rfl | rfl | rfl | rfl | rfl | rfl | rfl | rfl <;> first | omega | (simp only [Nat.reduceAdd]; omega)
  obtain ⟨s1, s2, s3⟩ := ar_spec l d x k h1 h3 h5 (by omega)
  have hw := where_yes b l d x k w h (by omega) (by omega)
  have heq : arOf l d x k = j := by
    rcases Nat.lt_trichotomy (arOf l d x k) j with hlt | heq | hgt
    · have := s2 j (by omega) hlt; omega
    · exact heq
    · have := s3 (j + 1) (by omega); omega
  rw [heq] at hw
  subst har
  refine hw.mono ?_
  rintro r w' ⟨rfl, hb⟩
  exact ⟨⟨_, rfl⟩, hb⟩

theorem apart_any (b l d x : Int) (e f c1 c2 : Nat) (w : World) (kb : -9223372036854775808 ≤ b ∧ b ≤ 9223372036854775807) (he : e < 256) (hf : f < 256) (hc1 : c1 < 256) (hc2 : c2 < 256) :
    Calls Try.prog 6 #[.agg #[.int .i64 b, .int .i64 l, .int .i64 d, .int .i64 x], .int .u8 (e : Nat), .int .u8 (f : Nat), .int .u8 (c1 : Nat), .int .u8 (c2 : Nat)] w fun r w' => r = .returned (.bool true) ∧ Below w.heap.size w w' := by
  by_cases h : okG b l d x
  · have h' := h
    obtain ⟨h1, h2, h3, h4, h5, h6, h7, h8⟩ := h'
    unfold planB at h7
    exact apart_walk b l d x (3 + l) (3 + l + (x + 31) / 32) (3 + l + (x + 31) / 32 + (x + 63) / 64) (3 + l + (x + 31) / 32 + (x + 63) / 64 + d) (3 + l + (x + 31) / 32 + (x + 63) / 64 + d + 4 * x) e f c1 c2 w
      ⟨h5, h6, by omega, by omega, by omega, by omega, by omega, by omega⟩ he hf hc1 hc2
      (where_is b l d x h 3 (by omega) 3 rfl) (where_is b l d x h 4 (by omega) 4 rfl) (where_is b l d x h 6 (by omega) 6 rfl) (fun w => of_yes b l d x w h)
  · exact apart_no b l d x e f c1 c2 w kb h

theorem geomApart_lifted (os : Os) (started : os.Started) (H : Type) (enc : TypeId × Value → H) :
    ReturnsInHanded {} Try.checked os 6 .any (Rows.geomApartSpec.pre6 enc Try.prog Try.f6 Rows.geomApartRow.domain false) (Rows.geomApartSpec.post enc Try.prog Try.f6 false true false false) := by
  refine law_frame (C := Try.checked) rfl Try.own started (by kernel_rfl) Try.func6
    (ChangeSpec.witness6 (enc := enc) (C := Try.checked) false ⟨#[], #[.agg #[.int .i64 0, .int .i64 0, .int .i64 0, .int .i64 0], .int .u8 0, .int .u8 0, .int .u8 0, .int .u8 0], []⟩ 8 (by kernel_rfl) (by kernel_rfl) (by kernel_rfl) (by kernel_rfl))
    Try.laidOut ?_ 4 rfl Try.underlying4 ?_ ?_
  · rw [Try.params6]
    intro t ht
    simp at ht
    rcases ht with rfl | rfl <;> exact ⟨by kernel_rfl, of_decide_eq_true (by kernel_rfl)⟩
  · intro ds hn
    rw [Try.params6] at hn
    match ds, hn with
    | [d1, d2, d3, d4, d5], _ => rfl
  · intro W base args ds p hval0 hA hsz
    have hval : ∀ (j : Nat) t v, Try.f6.params[j]? = some t → args[j]? = some v → Value.okWide Try.prog W .any base t v := hval0
    rw [Try.params6] at hA hsz hval
    obtain ⟨v0, vs0, d0, ds0, p0, q0, hargs, rfl, rfl, h0, r0⟩ := trodAll_cons hA
    obtain ⟨v1, vs1, d1, ds1, p1, q1, rfl, rfl, rfl, h1, r1⟩ := trodAll_cons r0
    obtain ⟨v2, vs2, d2, ds2, p2, q2, rfl, rfl, rfl, h2, r2⟩ := trodAll_cons r1
    obtain ⟨v3, vs3, d3, ds3, p3, q3, rfl, rfl, rfl, h3, r3⟩ := trodAll_cons r2
    obtain ⟨v4, vs4, d4, ds4, p4, q4, rfl, rfl, rfl, h4, r4⟩ := trodAll_cons r3
    obtain ⟨rfl, rfl, rfl⟩ := trodAll_nil r4
    obtain rfl : args = #[v0, v1, v2, v3, v4] := by cases args; simp_all
    obtain ⟨b, l, d, x, rfl, kb, kl, kd, kx⟩ := came4 Try.underlying23 (by kernel_rfl) (by kernel_rfl) (by intro f hf; simp at hf; rcases hf with rfl | rfl | rfl | rfl <;> exact Try.underlying3) (hval 0 23 v0 rfl rfl) h0
    obtain ⟨a1, rfl, rfl, rfl, w1⟩ := open_int Try.underlying5 (hval 1 5 v1 rfl rfl) h1
    have hb1 := bounds_u8 w1
    obtain ⟨n1, rfl⟩ := Int.eq_ofNat_of_zero_le hb1.1
    obtain ⟨a2, rfl, rfl, rfl, w2⟩ := open_int Try.underlying5 (hval 2 5 v2 rfl rfl) h2
    have hb2 := bounds_u8 w2
    obtain ⟨n2, rfl⟩ := Int.eq_ofNat_of_zero_le hb2.1
    obtain ⟨a3, rfl, rfl, rfl, w3⟩ := open_int Try.underlying5 (hval 3 5 v3 rfl rfl) h3
    have hb3 := bounds_u8 w3
    obtain ⟨n3, rfl⟩ := Int.eq_ofNat_of_zero_le hb3.1
    obtain ⟨a4, rfl, rfl, rfl, w4⟩ := open_int Try.underlying5 (hval 4 5 v4 rfl rfl) h4
    have hb4 := bounds_u8 w4
    obtain ⟨n4, rfl⟩ := Int.eq_ofNat_of_zero_le hb4.1
    exact apart_any b l d x n1 n2 n3 n4 W kb (by omega) (by omega) (by omega) (by omega)

theorem geomApart_holds : Rows.GeomApartSaid :=
  OpenClaim.holds_of_wide 6 Try.f6 rfl rfl rfl rfl rfl rfl rfl ⟨rfl, rfl, rfl, rfl, rfl⟩ rfl rfl rfl rfl rfl (by kernel_rfl) Try.func6 (by kernel_rfl)
    (of_decide_eq_true (by kernel_rfl)) (by unfold Func.isWrapper; first | (rw [if_pos (by decide +kernel)]; kernel_rfl) | (rw [if_neg (by decide +kernel)]; exact ⟨rfl, rfl⟩))
    (fun os started H enc _ => geomApart_lifted os started H enc)
#print axioms geomApart_holds
end Go.Proofs.Ytecbcjdihnbdhaa
