/- Proved: the statement of DiskImages, for every image and every number of a block: the disk with that medium answers as the document's own. No condition. -/
import Derived.Test.YtjcobealnjkkcaaR4
set_option linter.unusedSimpArgs false
set_option linter.unusedVariables false
namespace Go.Proofs.Ytjcobealnjkkcaa
open Go.RowKit Go.Attic Go.ChangeShapes Go.WideShapes

set_option maxRecDepth 100000 in
set_option maxHeartbeats 400000 in
theorem rof_no (v : Value) (l : List Nat) (w : World) (hv : Bs w v l) (hlen : l.length ≤ 140737488355328) (h : ¬ (l.length % 256 = 0 ∧ 1 ≤ l.length / 256 ∧ l.length / 256 ≤ 2048)) : Calls Try.prog 20 #[v] w fun e w' => e = .returned (.tuple #[.pointer none, .int .i64 1]) ∧ w = w' := by
  obtain ⟨ao, vcap, rfl, hvc, _, _, hcell⟩ := hv
  clear hcell
  by_cases hm : l.length % 256 = 0
  · have hs := rnew_no ((l.length : Int) / 256) w (by omega)
    have e1 : ((l.length : Int) % 256 != 0) = false := by simp; omega
    clear h hm
    go_enter Try.func20, Try.ntmps20
    go_wp2_with fail
    refine hs.mono ?_
    rintro e w' ⟨rfl, rfl⟩
    go_wp2
    go_ret2
    exact ⟨by simp, rfl⟩
  · have e1 : ((l.length : Int) % 256 != 0) = true := by simp; omega
    clear h hm
    go_enter Try.func20, Try.ntmps20
    go_wp2
    go_ret2
    exact ⟨by simp, rfl⟩

set_option maxRecDepth 100000 in
set_option maxHeartbeats 2000000 in
theorem images_walk (v : Value) (l : List Nat) (i : Int) (w : World) (hv : Bs w v l) (hlen : l.length ≤ 140737488355328) : Calls Try.prog 4 #[v, .int .i64 i] w fun e w' => e = .returned (.bool true) ∧ Below w.heap.size w w' := by
  by_cases h : l.length % 256 = 0 ∧ 1 ≤ l.length / 256 ∧ l.length / 256 ≤ 2048
  · obtain ⟨n, hn⟩ : ∃ n, l.length / 256 = n := ⟨_, rfl⟩
    have hl : l.length = n * 256 := by omega
    have h1 : 1 ≤ n := by omega
    have h2 : n ≤ 2048 := by omega
    clear h hn hlen
    have Hl := hide hl
    clear hl
    go_enter Try.func4, Try.ntmps4
    go_wp2_with fail
    refine (of_yes n v l w hv Hl.out h1 h2).mono ?_
    rintro e w1 ⟨g, m, rfl, hD1, hb1, hg1, hm1⟩
    have z1 := hb1.size
    go_wp2_with fail
    refine (rof_yes n v l w1 (hv.mono hb1) Hl.out h1 h2).mono ?_
    rintro e w2 ⟨gr, qr, Fr, rfl, hR2, hb2, _, _⟩
    have z2 := hb2.size
    go_wp2_with fail
    refine (live_any w2).mono ?_
    rintro e w3 ⟨rfl, hb3⟩
    have z3 := hb3.size
    have hD3 := (hD1.mono hb2).mono hb3
    have hR3 := hR2.mono hb3
    have hpe : (ofS l).pend = [] := rfl
    have hpl : (ofS l).pend.length ≤ 1000000 := by rw [hpe]; simp
    go_wp2_with fail
    refine (read_yes hD3 i hpl).mono ?_
    rintro e w4 ⟨v4, rfl, ho4, hb4⟩
    have z4 := hb4.size
    go_wp2_with fail
    refine (rread_yes (hR3.mono hb4) i hpl).mono ?_
    rintro e w5 ⟨v5, rfl, ho5, hb5⟩
    have z5 := hb5.size
    have hrl : ∀ x ∈ (readS (ofS l) n i).1, x < 256 := by
      intro x hx
      simp only [readS] at hx
      split at hx
      · simp at hx
      · split at hx
        · simp at hx
        · exact blockL_lt hv.lt _ x (by simpa [readL, ofS, lastW] using hx)
    have hs4 := (Bs.of_owns ho4 hrl).mono hb5
    have hs5 := Bs.of_owns ho5 hrl
    have hD5 := (hD3.mono hb4).mono hb5
    have hR5 := (hR3.mono hb4).mono hb5
    generalize (readS (ofS l) n i).1 = rl at *
    generalize (readS (ofS l) n i).2 = re at *
    go_wp2_with fail
    refine (equal_any _ _ _ _ _ hs4 hs5).mono ?_
    rintro e w' ⟨rfl, rfl⟩
    rw [decide_eq_true rfl]
    clear hs4 hs5 ho4 ho5
    go_wp2_with fail
    refine (same0_yes hD5 hR5 hpe).mono ?_
    rintro e w6 ⟨rfl, hb6⟩
    go_wp2
    go_ret
    exact ⟨by simp, ((((hb1.trans (hb2.mono z1)).trans (hb3.mono (by omega))).trans (hb4.mono (by omega))).trans (hb5.mono (by omega))).trans (hb6.mono (by omega))⟩
  · go_enter Try.func4, Try.ntmps4
    go_wp2_with fail
    refine (of_no v l w hv hlen h).mono ?_
    rintro e w' ⟨rfl, rfl⟩
    go_wp2_with fail
    refine (rof_no v l w hv hlen h).mono ?_
    rintro e w' ⟨rfl, rfl⟩
    go_wp2_with fail
    refine (live_any w).mono ?_
    rintro e w3 ⟨rfl, hb3⟩
    go_wp2
    go_ret
    exact ⟨by simp, hb3⟩

theorem diskImages_lifted (os : Os) (started : os.Started) (H : Type) (enc : TypeId × Value → H) :
    ReturnsInHanded {} Try.checked os 4 .any (Rows.diskImagesSpec.pre6 enc Try.prog Try.f4 Rows.diskImagesRow.domain false) (Rows.diskImagesSpec.post enc Try.prog Try.f4 false true false false) := by
  refine law_frame (C := Try.checked) rfl Try.own started (by kernel_rfl) Try.func4
    (ChangeSpec.witness6 (enc := enc) (C := Try.checked) false ⟨#[], #[.slice none 0 0, .int .i64 0], []⟩ 8 (by kernel_rfl) (by kernel_rfl) (by kernel_rfl) (by kernel_rfl))
    Try.laidOut ?_ 4 rfl Try.underlying4 ?_ ?_
  · rw [Try.params4]
    intro t ht
    simp at ht
    rcases ht with rfl | rfl <;> exact ⟨by kernel_rfl, of_decide_eq_true (by kernel_rfl)⟩
  · intro ds hn
    rw [Try.params4] at hn
    match ds, hn with
    | [d1, d2], _ => rfl
  · intro W base args ds p hval0 hA hsz
    have hval : ∀ (j : Nat) t v, Try.f4.params[j]? = some t → args[j]? = some v → Value.okWide Try.prog W .any base t v := hval0
    rw [Try.params4] at hA hsz hval
    obtain ⟨v0, vs0, d0, ds0, p0, q0, hargs, rfl, rfl, h0, r0⟩ := trodAll_cons hA
    obtain ⟨v1, vs1, d1, ds1, p1, q1, rfl, rfl, rfl, h1, r1⟩ := trodAll_cons r0
    obtain ⟨rfl, rfl, rfl⟩ := trodAll_nil r1
    obtain rfl : args = #[v0, v1] := by cases args; simp_all
    obtain ⟨l0, hbs0, hl0⟩ := Bs.came Try.underlying31 Try.underlying5 (by kernel_rfl) (hval 0 31 v0 rfl rfl) h0
    have hlen0 := came_len hsz (j := 0) (t := 31) rfl rfl Try.underlying31 (by kernel_rfl) hl0
    obtain ⟨a1, rfl, rfl, rfl, w1⟩ := open_int Try.underlying3 (hval 1 3 v1 rfl rfl) h1
    have hb1 := bounds_i64 w1
    exact images_walk _ l0 _ W hbs0 (by omega)

theorem diskImages_holds : Rows.DiskImagesSaid :=
  OpenClaim.holds_of_wide 4 Try.f4 rfl rfl rfl rfl rfl rfl rfl ⟨rfl, rfl, rfl, rfl, rfl⟩ rfl rfl rfl rfl rfl (by kernel_rfl) Try.func4 (by kernel_rfl)
    (of_decide_eq_true (by kernel_rfl)) (by unfold Func.isWrapper; first | (rw [if_pos (by decide +kernel)]; kernel_rfl) | (rw [if_neg (by decide +kernel)]; exact ⟨rfl, rfl⟩))
    (fun os started H enc _ => diskImages_lifted os started H enc)
#print axioms diskImages_holds

end Go.Proofs.Ytjcobealnjkkcaa
