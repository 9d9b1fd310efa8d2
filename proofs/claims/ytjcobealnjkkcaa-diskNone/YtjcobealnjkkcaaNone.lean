/- Proved: the statement of DiskNone, for every number, bytes and picks: a disk that no call made, nil or a zero one, answers ErrMade, 0, false, nothing, nil. No condition. -/
import Derived.Test.YtjcobealnjkkcaaN1
import Derived.Test.YtjcobealnjkkcaaF3
set_option linter.unusedSimpArgs false
set_option linter.unusedVariables false
namespace Go.Proofs.Ytjcobealnjkkcaa
open Go.RowKit Go.Attic Go.ChangeShapes Go.WideShapes

set_option maxRecDepth 100000 in
set_option maxHeartbeats 4000000 in
theorem none_walk (i : Int) (vb vp : Value) (w : World) : Calls Try.prog 8 #[.int .i64 i, vb, vp] w fun e w' => e = .returned (.bool true) ∧ Below w.heap.size w w' := by
  go_enter Try.func8, Try.ntmps8
  go_wp2_with fail
  obtain ⟨w1, hw1⟩ : ∃ w1, (w.alloc (.cells #[.slice none 0 0, .slice none 0 0, .int .i64 0, .slice none 0 0, .int .i64 0, .bool false] 63)).alloc (.cells #[.pointer none, .pointer (some ⟨w.heap.size, 0, none⟩)] 23) = w1 := ⟨_, rfl⟩
  have hb1 : Below w.heap.size w w1 := by rw [← hw1]; exact ((Below.refl _ w).alloc (Nat.le_refl _) _).alloc (by simp) _
  have cz : w1.cell? ⟨w.heap.size, 0, none⟩ = some (.slice none 0 0) := by rw [← hw1]; simp
  have cs : ∀ k, k < 2 → ∃ dv, w1.cell? ⟨w.heap.size + 1, k, none⟩ = some dv ∧ NoDk w1 dv ∧ ∃ a, dv = .pointer a := by
    intro k hk
    match k, hk with
    | 0, _ => exact ⟨.pointer none, by rw [← hw1]; simp, .inl rfl, _, rfl⟩
    | 1, _ => exact ⟨.pointer (some ⟨w.heap.size, 0, none⟩), by rw [← hw1]; simp, .inr ⟨_, rfl, cz⟩, _, rfl⟩
  have Hcs := hide cs
  try rw [hw1]
  have Hw1 := hide hw1
  clear hw1 cs cz
  go_loopw [15] (fun j wr => ∃ k : Nat, k ≤ 2 ∧ j = .int .i64 k ∧ Below w1.heap.size w1 wr) (fun j _ => 2 - (intOf j).toNat)
  case atStart => exact ⟨0, by omega, rfl, Below.refl _ _⟩
  case round =>
    obtain ⟨k, hk, rfl, hb⟩ := hrel
    have z1 := hb1.size
    by_cases hk2 : k < 2
    · obtain ⟨dv, cd, hN, da, rfl⟩ := Hcs.out k hk2
      have cd' := (Keeps.of_below (S := fun _ => False) hb).cell cd id
      have hN1 := hN.mono hb
      clear cd hN
      go_wp2_with fail
      refine (read_no i hN1).mono ?_
      rintro e w2 ⟨rfl, hb2⟩
      have hN2 := hN1.mono hb2
      go_wp2_with fail
      refine (write_no i vb hN2).mono ?_
      rintro e w' ⟨rfl, rfl⟩
      go_wp2_with fail
      refine (flush_no hN2).mono ?_
      rintro e w' ⟨rfl, rfl⟩
      go_wp2_with fail
      refine (arm_no i vp hN2).mono ?_
      rintro e w' ⟨rfl, rfl⟩
      go_wp2_with fail
      refine (crash_no vp hN2).mono ?_
      rintro e w' ⟨rfl, rfl⟩
      go_wp2_with fail
      refine (restart_no hN2).mono ?_
      rintro e w' ⟨rfl, rfl⟩
      go_wp2_with fail
      refine (on_no hN2).mono ?_
      rintro e w' ⟨rfl, rfl⟩
      go_wp2_with fail
      refine (len_no hN2).mono ?_
      rintro e w' ⟨rfl, rfl⟩
      go_wp2_with fail
      refine (image_no hN2).mono ?_
      rintro e w' ⟨rfl, rfl⟩
      go_wp2_with fail
      refine (ops_no hN2).mono ?_
      rintro e w' ⟨rfl, rfl⟩
      go_wp2_with fail
      refine (clone_no hN2).mono ?_
      rintro e w' ⟨rfl, rfl⟩
      go_wp2_with fail
      refine (pendL_no hN2 9 (by omega)).mono ?_
      rintro e w3 ⟨v3, xs, rfl, hxs, ho3, _, hb3⟩
      have hx0 : xs = [] := by simpa using hxs
      subst hx0
      obtain ⟨ao3, cap3, rfl⟩ := owns_slice ho3
      clear ho3 hxs
      have hbf : Below w1.heap.size w1 w3 := (hb.trans (hb2.mono hb.size)).trans (hb3.mono (by have := hb2.size; have := hb.size; omega))
      go_wp2_with fail
      go_roundw
      case rel => exact ⟨k + 1, by omega, by go_num, hbf⟩
      case measure => simp [intOf]; omega
    · obtain rfl : k = 2 := by omega
      go_wp2_with fail
      refine (live_any _).mono ?_
      rintro e w2 ⟨rfl, hb2⟩
      go_wp2
      go_ret
      exact ⟨by simp, (hb1.trans (hb.mono z1)).trans (hb2.mono (by have := hb.size; omega))⟩

theorem diskNone_lifted (os : Os) (started : os.Started) (H : Type) (enc : TypeId × Value → H) :
    ReturnsInHanded {} Try.checked os 8 .any (Rows.diskNoneSpec.pre6 enc Try.prog Try.f8 Rows.diskNoneRow.domain false) (Rows.diskNoneSpec.post enc Try.prog Try.f8 false true false false) := by
  refine law_frame (C := Try.checked) rfl Try.own started (by kernel_rfl) Try.func8
    (ChangeSpec.witness6 (enc := enc) (C := Try.checked) false ⟨#[], #[.int .i64 0, .slice none 0 0, .slice none 0 0], []⟩ 8 (by kernel_rfl) (by kernel_rfl) (by kernel_rfl) (by kernel_rfl))
    Try.laidOut ?_ 4 rfl Try.underlying4 ?_ ?_
  · rw [Try.params8]
    intro t ht
    simp at ht
    rcases ht with rfl | rfl <;> exact ⟨by kernel_rfl, of_decide_eq_true (by kernel_rfl)⟩
  · intro ds hn
    rw [Try.params8] at hn
    match ds, hn with
    | [d1, d2, d3], _ => rfl
  · intro W base args ds p hval0 hA hsz
    have hval : ∀ (j : Nat) t v, Try.f8.params[j]? = some t → args[j]? = some v → Value.okWide Try.prog W .any base t v := hval0
    rw [Try.params8] at hA hsz hval
    obtain ⟨v0, vs0, d0, ds0, p0, q0, hargs, rfl, rfl, h0, r0⟩ := trodAll_cons hA
    obtain ⟨v1, vs1, d1, ds1, p1, q1, rfl, rfl, rfl, h1, r1⟩ := trodAll_cons r0
    obtain ⟨v2, vs2, d2, ds2, p2, q2, rfl, rfl, rfl, h2, r2⟩ := trodAll_cons r1
    obtain ⟨rfl, rfl, rfl⟩ := trodAll_nil r2
    obtain rfl : args = #[v0, v1, v2] := by cases args; simp_all
    obtain ⟨a0, rfl, rfl, rfl, w0⟩ := open_int Try.underlying3 (hval 0 3 v0 rfl rfl) h0
    have hb0 := bounds_i64 w0
    obtain ⟨l1, hbs1, hl1⟩ := Bs.came Try.underlying31 Try.underlying5 (by kernel_rfl) (hval 1 31 v1 rfl rfl) h1
    have hlen1 := came_len hsz (j := 1) (t := 31) rfl rfl Try.underlying31 (by kernel_rfl) hl1
    obtain ⟨l2, hbs2, hl2⟩ := Bs.came Try.underlying31 Try.underlying5 (by kernel_rfl) (hval 2 31 v2 rfl rfl) h2
    have hlen2 := came_len hsz (j := 2) (t := 31) rfl rfl Try.underlying31 (by kernel_rfl) hl2
    exact none_walk _ _ _ W

theorem diskNone_holds : Rows.DiskNoneSaid :=
  OpenClaim.holds_of_wide 8 Try.f8 rfl rfl rfl rfl rfl rfl rfl ⟨rfl, rfl, rfl, rfl, rfl⟩ rfl rfl rfl rfl rfl (by kernel_rfl) Try.func8 (by kernel_rfl)
    (of_decide_eq_true (by kernel_rfl)) (by unfold Func.isWrapper; first | (rw [if_pos (by decide +kernel)]; kernel_rfl) | (rw [if_neg (by decide +kernel)]; exact ⟨rfl, rfl⟩))
    (fun os started H enc _ => diskNone_lifted os started H enc)
#print axioms diskNone_holds

end Go.Proofs.Ytjcobealnjkkcaa
