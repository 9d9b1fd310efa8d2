/- WordUvars answers true for every number and every slice of bytes: word.Uvar and word.TakeUvar answer as the document's own functions do. No conditions. -/
import Derived.Test.YtiloaehomdlokaaC6
import Derived.Test.YtiloaehomdlokaaFrame
set_option linter.unusedSimpArgs false
set_option linter.unusedVariables false
namespace Go.Proofs.Ytiloaehomdlokaa
open Go.RowKit Go.Attic Go.ChangeShapes Go.WideShapes

set_option maxRecDepth 100000 in
set_option maxHeartbeats 400000 in
theorem uvars_walk (a : Nat) (v : Value) (l : List Nat) (w : World) (ha : a < 2 ^ 64) (h : Bs w v l) (hlen : l.length ≤ 140737488351232) :
    Calls Try.prog 4 #[.int .u64 a, v] w fun e w' => e = .returned (.bool true) ∧ Below w.heap.size w w' := by
  have ht := take_any v l w h (by omega)
  have hr := rtake_any v l w h (by omega)
  generalize takeN l = r at ht hr
  obtain ⟨r1, r2, r3⟩ := r
  simp only [takeE] at ht hr
  have Ht := hide ht
  have Hr := hide hr
  clear ht hr
  go_enter Try.func4, Try.ntmps4
  go_wp2_with fail
  refine (unhide Ht).mono ?_
  rintro e w1 ⟨rfl, rfl⟩
  go_wp2_with fail
  refine (unhide Hr).mono ?_
  rintro e w1 ⟨rfl, rfl⟩
  clear Ht Hr
  go_wp2_with fail
  refine (live_any _).mono ?_
  rintro e w1 ⟨rfl, hb1⟩
  go_wp2_with fail
  refine (uvar_any a _ ha).mono ?_
  rintro e w2 ⟨v2, rfl, hown2, hb2⟩
  have hbs2 := Bs.of_owns hown2 (uvarN_lt ha)
  clear hown2
  go_wp2_with fail
  refine (ruvar_any a _ ha).mono ?_
  rintro e w3 ⟨v3, rfl, hown3, hb3⟩
  have hbs3 := Bs.of_owns hown3 (uvarN_lt ha)
  clear hown3
  go_wp2_with fail
  refine (equal_any _ _ _ _ _ (hbs2.mono hb3) hbs3).mono ?_
  rintro e w4 ⟨rfl, rfl⟩
  have hz1 := hb1.size
  have hz2 := hb2.size
  have Hb : Hid (Below w.heap.size w w3) := (hb1.trans (hb2.mono hz1)).trans (hb3.mono (by omega))
  clear hb1 hb2 hb3 hbs2 hbs3 h
  go_wp2
  go_ret
  exact ⟨by simp, Hb.out⟩

theorem uvars_lifted (os : Os) (started : os.Started) (H : Type) (enc : TypeId × Value → H) :
    ReturnsInHanded {} Try.checked os 4 .any (Rows.wordUvarsSpec.pre6 enc Try.prog Try.f4 Rows.wordUvarsRow.domain false) (Rows.wordUvarsSpec.post enc Try.prog Try.f4 false true false false) := by
  refine law_frame (C := Try.checked) rfl Try.own started (by kernel_rfl) Try.func4
    (ChangeSpec.witness6 (enc := enc) (C := Try.checked) false ⟨#[], #[.int .u64 0, .slice none 0 0], []⟩ 8 (by kernel_rfl) (by kernel_rfl) (by kernel_rfl) (by kernel_rfl))
    Try.laidOut ?_ 4 rfl Try.underlying4 ?_ ?_
  · rw [Try.params4]
    intro t ht
    simp at ht
    rcases ht with rfl | rfl <;> exact ⟨by kernel_rfl, of_decide_eq_true (by kernel_rfl)⟩
  · intro ds hn
    rw [Try.params4] at hn
    match ds, hn with
    | [d1, d2], _ => rfl
  · intro W base args ds p hval0 hA hsz
    have hval : ∀ (j : Nat) t v, Try.f4.params[j]? = some t → args[j]? = some v → Value.okWide Try.prog W .any base t v := hval0
    rw [Try.params4] at hA hsz hval
    obtain ⟨v0, vs0, d0, ds0, p0, q0, hargs, rfl, rfl, h0, r0⟩ := trodAll_cons hA
    obtain ⟨v1, vs1, d1, ds1, p1, q1, rfl, rfl, rfl, h1, r1⟩ := trodAll_cons r0
    obtain ⟨rfl, rfl, rfl⟩ := trodAll_nil r1
    obtain rfl : args = #[v0, v1] := by cases args; simp_all
    obtain ⟨a0, rfl, rfl, rfl, w0⟩ := open_int Try.underlying23 (hval 0 23 v0 rfl rfl) h0
    obtain ⟨l, hbs, hl⟩ := Bs.came Try.underlying22 Try.underlying5 (by kernel_rfl) (hval 1 22 v1 rfl rfl) h1
    have hlen := came_len hsz (j := 1) (t := 22) rfl rfl Try.underlying22 (by kernel_rfl) hl
    have hb := bounds_u64 w0
    obtain ⟨n, rfl⟩ := Int.eq_ofNat_of_zero_le hb.1
    exact uvars_walk n v1 l W (by omega) hbs hlen

theorem wordUvars_holds : Rows.WordUvarsSaid :=
  OpenClaim.holds_of_wide 4 Try.f4 rfl rfl rfl rfl rfl rfl rfl ⟨rfl, rfl, rfl, rfl, rfl⟩ rfl rfl rfl rfl rfl (by kernel_rfl) Try.func4 (by kernel_rfl)
    (of_decide_eq_true (by kernel_rfl)) (by unfold Func.isWrapper; first | (rw [if_pos (by decide +kernel)]; kernel_rfl) | (rw [if_neg (by decide +kernel)]; exact ⟨rfl, rfl⟩))
    (fun os started H enc _ => uvars_lifted os started H enc)
#print axioms wordUvars_holds
end Go.Proofs.Ytiloaehomdlokaa
