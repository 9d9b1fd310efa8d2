/- BitsSets answers true for every two rows of bytes: bits.And, bits.Or, bits.Sub and bits.Within answer as the document's own functions do. No conditions. -/
import Derived.Test.YtkdajahcadjpfaaC8
import Derived.Test.YtkdajahcadjpfaaFrame
set_option linter.unusedSimpArgs false
set_option linter.unusedVariables false
namespace Go.Proofs.Ytkdajahcadjpfaa
open Go.RowKit Go.Attic Go.ChangeShapes Go.WideShapes

theorem fewB_two (a b : List Nat) : fewB [a, b] = (decide (a.length ≤ 3000) && decide (b.length ≤ 3000)) := by simp [fewB]

set_option maxRecDepth 100000 in
set_option maxHeartbeats 1000000 in
theorem sets_walk (va vb : Value) (a b : List Nat) (w : World) (ha : Bs w va a) (hb : Bs w vb b) (la : a.length ≤ 140737488351232) (lb : b.length ≤ 140737488351232) :
    Calls Try.prog 6 #[va, vb] w fun e w' => e = .returned (.bool true) ∧ Below w.heap.size w w' := by
  have xa := ha.lt
  have xb := hb.lt
  have hF : ∀ w1 : World, Below w.heap.size w w1 → Calls Try.prog 11 #[.slice (some ⟨w1.heap.size, 0, none⟩) 2 2] (w1.alloc (.cells #[va, vb] 22)) fun e w' => e = .returned (.bool (decide (a.length ≤ 3000) && decide (b.length ≤ 3000))) ∧ w1.alloc (.cells #[va, vb] 22) = w' := by
    intro w1 hb1
    have := few_any _ [a, b] _ (Bss.two 22 (ha.mono hb1) (hb.mono hb1)) (by simp)
    rwa [fewB_two] at this
  have HF := hide hF
  clear hF
  obtain ⟨aoa, capa, rfl⟩ : ∃ ao cap, va = .slice ao a.length cap := by obtain ⟨ao, cap, e, _⟩ := ha; exact ⟨ao, cap, e⟩
  obtain ⟨aob, capb, rfl⟩ : ∃ ao cap, vb = .slice ao b.length cap := by obtain ⟨ao, cap, e, _⟩ := hb; exact ⟨ao, cap, e⟩
  go_enter Try.func6, Try.ntmps6
  go_wp2_with fail
  refine (begun_any _).mono ?_
  rintro e w1 ⟨rfl, hb1⟩
  have hz1 := hb1.size
  go_wp2_with fail
  refine (HF.out w1 hb1).mono ?_
  rintro e w2 ⟨rfl, rfl⟩
  have hb2 : Below w.heap.size w (w1.alloc (.cells #[.slice aoa a.length capa, .slice aob b.length capb] 22)) := hb1.alloc hz1 _
  have Hb1 := hide hb1
  clear hb1 HF
  by_cases h3 : a.length ≤ 3000 ∧ b.length ≤ 3000
  case neg =>
    have hd : (decide (a.length ≤ 3000) && decide (b.length ≤ 3000)) = false := by
      cases hq : (decide (a.length ≤ 3000) && decide (b.length ≤ 3000)) with
      | false => rfl
      | true => exact absurd (by simpa using hq) h3
    rw [hd]
    clear hd h3
    go_wp2_with fail
    refine (begun_any _).mono ?_
    rintro e w3 ⟨rfl, hb3⟩
    go_wp2_with fail
    go_ret
    exact ⟨rfl, hb2.trans (hb3.mono hb2.size)⟩
  have hd : (decide (a.length ≤ 3000) && decide (b.length ≤ 3000)) = true := by simpa using h3
  rw [hd]
  obtain ⟨h3a, h3b⟩ := h3
  clear hd
  have hA := ha.mono hb2
  have hB := hb.mono hb2
  have HbS : Hid (Below w.heap.size w (w1.alloc (.cells #[.slice aoa a.length capa, .slice aob b.length capb] 22))) := hb2
  clear hb2 Hb1 ha hb
  have hJx := joinL_lt bitwise_and xa xb
  have HP := hide (and_any _ _ a b _ hA hB (by omega) (by omega))
  have HQ := hide (fun w hA hB => rand_any (.slice aoa a.length capa) (.slice aob b.length capb) a b w hA hB (by omega) (by omega))
  generalize joinL _ a b = jl at *
  generalize joinE a b = je at *
  go_wp2_with fail
  refine HP.out.mono ?_
  rintro e wp ⟨p, rfl, hop, hbp⟩
  have hp := Bs.of_owns hop hJx
  have hA1 := hA.mono hbp
  have hB1 := hB.mono hbp
  have HbP : Hid (Below w.heap.size w wp) := HbS.out.trans (hbp.mono HbS.out.size)
  clear hop hbp hA hB HbS HP
  go_wp2_with fail
  refine (HQ.out _ hA1 hB1).mono ?_
  rintro e wq ⟨q, rfl, hoq, hbq⟩
  have hq := Bs.of_owns hoq hJx
  have hA := hA1.mono hbq
  have hB := hB1.mono hbq
  have hp1 := hp.mono hbq
  have HbS : Hid (Below w.heap.size w wq) := HbP.out.trans (hbq.mono HbP.out.size)
  clear hoq hbq hA1 hB1 HbP hp HQ
  go_wp2_with fail
  refine (equal_any _ _ jl jl _ hp1 hq).mono ?_
  rintro e wr ⟨rfl, rfl⟩
  rw [show decide (jl = jl) = true by simp]
  clear hp1 hq hJx
  have hJx := joinL_lt bitwise_or xa xb
  have HP := hide (or_any _ _ a b _ hA hB (by omega) (by omega))
  have HQ := hide (fun w hA hB => ror_any (.slice aoa a.length capa) (.slice aob b.length capb) a b w hA hB (by omega) (by omega))
  generalize joinL _ a b = jl at *
  generalize joinE a b = je at *
  go_wp2_with fail
  refine HP.out.mono ?_
  rintro e wp ⟨p, rfl, hop, hbp⟩
  have hp := Bs.of_owns hop hJx
  have hA1 := hA.mono hbp
  have hB1 := hB.mono hbp
  have HbP : Hid (Below w.heap.size w wp) := HbS.out.trans (hbp.mono HbS.out.size)
  clear hop hbp hA hB HbS HP
  go_wp2_with fail
  refine (HQ.out _ hA1 hB1).mono ?_
  rintro e wq ⟨q, rfl, hoq, hbq⟩
  have hq := Bs.of_owns hoq hJx
  have hA := hA1.mono hbq
  have hB := hB1.mono hbq
  have hp1 := hp.mono hbq
  have HbS : Hid (Below w.heap.size w wq) := HbP.out.trans (hbq.mono HbP.out.size)
  clear hoq hbq hA1 hB1 HbP hp HQ
  go_wp2_with fail
  refine (equal_any _ _ jl jl _ hp1 hq).mono ?_
  rintro e wr ⟨rfl, rfl⟩
  rw [show decide (jl = jl) = true by simp]
  clear hp1 hq hJx
  have hJx := joinL_lt bitwise_sub xa xb
  have HP := hide (sub_any _ _ a b _ hA hB (by omega) (by omega))
  have HQ := hide (fun w hA hB => rsub_any (.slice aoa a.length capa) (.slice aob b.length capb) a b w hA hB (by omega) (by omega))
  generalize joinL _ a b = jl at *
  generalize joinE a b = je at *
  go_wp2_with fail
  refine HP.out.mono ?_
  rintro e wp ⟨p, rfl, hop, hbp⟩
  have hp := Bs.of_owns hop hJx
  have hA1 := hA.mono hbp
  have hB1 := hB.mono hbp
  have HbP : Hid (Below w.heap.size w wp) := HbS.out.trans (hbp.mono HbS.out.size)
  clear hop hbp hA hB HbS HP
  go_wp2_with fail
  refine (HQ.out _ hA1 hB1).mono ?_
  rintro e wq ⟨q, rfl, hoq, hbq⟩
  have hq := Bs.of_owns hoq hJx
  have hA := hA1.mono hbq
  have hB := hB1.mono hbq
  have hp1 := hp.mono hbq
  have HbS : Hid (Below w.heap.size w wq) := HbP.out.trans (hbq.mono HbP.out.size)
  clear hoq hbq hA1 hB1 HbP hp HQ
  go_wp2_with fail
  refine (equal_any _ _ jl jl _ hp1 hq).mono ?_
  rintro e wr ⟨rfl, rfl⟩
  rw [show decide (jl = jl) = true by simp]
  clear hp1 hq hJx
  go_wp2_with fail
  refine (within_any _ _ a b _ hA hB (by omega) (by omega)).mono ?_
  rintro e wr ⟨rfl, rfl⟩
  go_wp2_with fail
  refine (rwithin_any _ _ a b _ hA hB (by omega) (by omega)).mono ?_
  rintro e wr ⟨rfl, rfl⟩
  go_wp2_with fail
  go_ret
  exact ⟨by simp, HbS.out⟩

theorem bitsSets_lifted (os : Os) (started : os.Started) (H : Type) (enc : TypeId × Value → H) :
    ReturnsInHanded {} Try.checked os 6 .any (Rows.bitsSetsSpec.pre6 enc Try.prog Try.f6 Rows.bitsSetsRow.domain false) (Rows.bitsSetsSpec.post enc Try.prog Try.f6 false true false false) := by
  refine law_frame (C := Try.checked) rfl Try.own started (by kernel_rfl) Try.func6
    (ChangeSpec.witness6 (enc := enc) (C := Try.checked) false ⟨#[], #[.slice none 0 0, .slice none 0 0], []⟩ 8 (by kernel_rfl) (by kernel_rfl) (by kernel_rfl) (by kernel_rfl))
    Try.laidOut ?_ 4 rfl Try.underlying4 ?_ ?_
  · rw [Try.params6]
    intro t ht
    simp at ht
    rcases ht with rfl <;> exact ⟨by kernel_rfl, of_decide_eq_true (by kernel_rfl)⟩
  · intro ds hn
    rw [Try.params6] at hn
    match ds, hn with
    | [d1, d2], _ => rfl
  · intro W base args ds p hval0 hA hsz
    have hval : ∀ (j : Nat) t v, Try.f6.params[j]? = some t → args[j]? = some v → Value.okWide Try.prog W .any base t v := hval0
    rw [Try.params6] at hA hsz hval
    obtain ⟨v0, vs0, d0, ds0, p0, q0, hargs, rfl, rfl, h0, r0⟩ := trodAll_cons hA
    obtain ⟨v1, vs1, d1, ds1, p1, q1, rfl, rfl, rfl, h1, r1⟩ := trodAll_cons r0
    obtain ⟨rfl, rfl, rfl⟩ := trodAll_nil r1
    obtain rfl : args = #[v0, v1] := by cases args; simp_all
    obtain ⟨l0, hbs0, hl0⟩ := Bs.came Try.underlying22 Try.underlying5 (by kernel_rfl) (hval 0 22 v0 rfl rfl) h0
    have hlen0 := came_len hsz (j := 0) (t := 22) rfl rfl Try.underlying22 (by kernel_rfl) hl0
    obtain ⟨l1, hbs1, hl1⟩ := Bs.came Try.underlying22 Try.underlying5 (by kernel_rfl) (hval 1 22 v1 rfl rfl) h1
    have hlen1 := came_len hsz (j := 1) (t := 22) rfl rfl Try.underlying22 (by kernel_rfl) hl1
    exact sets_walk v0 v1 l0 l1 W hbs0 hbs1 hlen0 hlen1

theorem bitsSets_holds : Rows.BitsSetsSaid :=
  OpenClaim.holds_of_wide 6 Try.f6 rfl rfl rfl rfl rfl rfl rfl ⟨rfl, rfl, rfl, rfl, rfl⟩ rfl rfl rfl rfl rfl (by kernel_rfl) Try.func6 (by kernel_rfl)
    (of_decide_eq_true (by kernel_rfl)) (by unfold Func.isWrapper; first | (rw [if_pos (by decide +kernel)]; kernel_rfl) | (rw [if_neg (by decide +kernel)]; exact ⟨rfl, rfl⟩))
    (fun os started H enc _ => bitsSets_lifted os started H enc)
#print axioms bitsSets_holds
end Go.Proofs.Ytkdajahcadjpfaa
