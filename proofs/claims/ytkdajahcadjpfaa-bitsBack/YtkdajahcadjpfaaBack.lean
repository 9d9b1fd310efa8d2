/- BitsBack answers true for every row of bytes, every bit and every other one: what was put is there, all other bits are as they were. No conditions. -/
import Derived.Test.YtkdajahcadjpfaaC6
import Derived.Test.YtkdajahcadjpfaaFrame
set_option linter.unusedSimpArgs false
set_option linter.unusedVariables false
namespace Go.Proofs.Ytkdajahcadjpfaa
open Go.RowKit Go.Attic Go.ChangeShapes Go.WideShapes

theorem getI_put_same {l : List Nat} {i : Nat} (hi : i < 8 * l.length) (is : Bool) : getI (putI l i is) i = is := by
  rw [putI_nat hi, getI_nat, bitB_put hi, if_pos rfl]
theorem getI_put_other {l : List Nat} {i : Nat} (hi : i < 8 * l.length) (is : Bool) {j : Int} (hj : j ≠ i) : getI (putI l i is) j = getI l j := by
  rw [putI_nat hi]
  by_cases h0 : 0 ≤ j
  · obtain ⟨k, rfl⟩ := Int.eq_ofNat_of_zero_le h0
    rw [getI_nat, getI_nat, bitB_put hi, if_neg (by omega)]
  · have e : ∀ l, getI l j = false := fun l => getI_no (by simp [hasB, h0])
    rw [e, e]

theorem fewB_one (l : List Nat) : fewB [l] = decide (l.length ≤ 3000) := by simp [fewB]

set_option maxRecDepth 100000 in
set_option maxHeartbeats 1000000 in
theorem back_walk (v : Value) (l : List Nat) (i j : Int) (is : Bool) (w : World) (h : Bs w v l) (hlen : l.length ≤ 140737488351232) :
    Calls Try.prog 9 #[v, .int .i64 i, .int .i64 j, .bool is] w fun e w' => e = .returned (.bool true) ∧ Below w.heap.size w w' := by
  have hx := h.lt
  have hF : ∀ w1 : World, Below w.heap.size w w1 → Calls Try.prog 11 #[.slice (some ⟨w1.heap.size, 0, none⟩) 1 1] (w1.alloc (.cells #[v] 22)) fun e w' => e = .returned (.bool (decide (l.length ≤ 3000))) ∧ w1.alloc (.cells #[v] 22) = w' := by
    intro w1 hb
    have := few_any _ [l] _ (Bss.one 22 (h.mono hb)) (by simp)
    rwa [fewB_one] at this
  have HF := hide hF
  clear hF
  obtain ⟨ao, cap, rfl⟩ : ∃ ao cap, v = .slice ao l.length cap := by obtain ⟨ao, cap, e, _⟩ := h; exact ⟨ao, cap, e⟩
  go_enter Try.func9, Try.ntmps9
  go_wp2_with fail
  refine (begun_any _).mono ?_
  rintro e w1 ⟨rfl, hb1⟩
  have hz1 := hb1.size
  go_wp2_with fail
  refine (HF.out w1 hb1).mono ?_
  rintro e w2 ⟨rfl, rfl⟩
  have hb2 : Below w.heap.size w (w1.alloc (.cells #[.slice ao l.length cap] 22)) := hb1.alloc hz1 _
  have Hb1 := hide hb1
  clear hb1 HF
  by_cases h3 : l.length ≤ 3000
  case neg =>
    have hd : decide (l.length ≤ 3000) = false := by simpa using h3
    rw [hd]
    go_wp2_with fail
    refine (begun_any _).mono ?_
    rintro e w3 ⟨rfl, hb3⟩
    go_wp2_with fail
    go_ret
    exact ⟨rfl, hb2.trans (hb3.mono hb2.size)⟩
  have hd : decide (l.length ≤ 3000) = true := by simpa using h3
  rw [hd]
  by_cases hi0 : i < 0
  · go_wp2_with fail
    refine (begun_any _).mono ?_
    rintro e w3 ⟨rfl, hb3⟩
    go_wp2_with fail
    go_ret
    exact ⟨rfl, hb2.trans (hb3.mono hb2.size)⟩
  by_cases hi1 : 8 * (l.length : Int) ≤ i
  · go_wp2_with fail
    refine (begun_any _).mono ?_
    rintro e w3 ⟨rfl, hb3⟩
    go_wp2_with fail
    go_ret
    exact ⟨rfl, hb2.trans (hb3.mono hb2.size)⟩
  obtain ⟨n, rfl⟩ := Int.eq_ofNat_of_zero_le (show 0 ≤ i by omega)
  have hn : n < 8 * l.length := by omega
  have h2 := h.mono hb2
  have hb2s := hb2.size
  have Hb2 := hide hb2
  clear hb2
  go_wp2_with fail
  refine (put_any _ l n is _ h2 (by omega)).mono ?_
  rintro e w4 ⟨v4, rfl, hown4, hb4⟩
  have hbs4 := Bs.of_owns hown4 (putI_lt hx _ _)
  have h4 := h2.mono hb4
  obtain ⟨ao4, cap4, rfl, hcap4, _⟩ := owns_form hown4
  have hpl := putI_length l n is
  have Hb4 : Hid (Below w.heap.size w w4) := Hb2.out.trans (hb4.mono hb2s)
  have hg1 := get_any _ _ (n : Int) _ hbs4 (by rw [hpl]; omega)
  rw [getI_put_same hn] at hg1
  have hg2 := get_any _ _ j _ hbs4 (by rw [hpl]; omega)
  have hg3 := get_any _ l j _ h4 (by omega)
  rw [hpl] at hg1 hg2 hcap4 ⊢
  clear hown4 hb4 hpl hbs4 h2 h4 h Hb2
  by_cases hj : j = n
  · subst hj
    go_wp2_with (go_at_call 22; refine hg1.mono ?_; rintro e w5 ⟨rfl, rfl⟩)
    go_ret
    exact ⟨by simp, Hb4.out⟩
  · rw [getI_put_other hn is hj] at hg2
    have hjd : (j == (n : Int)) = false := by simpa using hj
    clear hj
    go_wp2_with fail
    refine hg1.mono ?_
    rintro e w5 ⟨rfl, rfl⟩
    go_wp2_with fail
    refine hg2.mono ?_
    rintro e w5 ⟨rfl, rfl⟩
    go_wp2_with fail
    refine hg3.mono ?_
    rintro e w5 ⟨rfl, rfl⟩
    go_wp2_with fail
    go_ret
    exact ⟨by simp, Hb4.out⟩

theorem bitsBack_lifted (os : Os) (started : os.Started) (H : Type) (enc : TypeId × Value → H) :
    ReturnsInHanded {} Try.checked os 9 .any (Rows.bitsBackSpec.pre6 enc Try.prog Try.f9 Rows.bitsBackRow.domain false) (Rows.bitsBackSpec.post enc Try.prog Try.f9 false true false false) := by
  refine law_frame (C := Try.checked) rfl Try.own started (by kernel_rfl) Try.func9
    (ChangeSpec.witness6 (enc := enc) (C := Try.checked) false ⟨#[], #[.slice none 0 0, .int .i64 0, .int .i64 0, .bool false], []⟩ 8 (by kernel_rfl) (by kernel_rfl) (by kernel_rfl) (by kernel_rfl))
    Try.laidOut ?_ 4 rfl Try.underlying4 ?_ ?_
  · rw [Try.params9]
    intro t ht
    simp at ht
    rcases ht with rfl | rfl | rfl <;> exact ⟨by kernel_rfl, of_decide_eq_true (by kernel_rfl)⟩
  · intro ds hn
    rw [Try.params9] at hn
    match ds, hn with
    | [d1, d2, d3, d4], _ => rfl
  · intro W base args ds p hval0 hA hsz
    have hval : ∀ (j : Nat) t v, Try.f9.params[j]? = some t → args[j]? = some v → Value.okWide Try.prog W .any base t v := hval0
    rw [Try.params9] at hA hsz hval
    obtain ⟨v0, vs0, d0, ds0, p0, q0, hargs, rfl, rfl, h0, r0⟩ := trodAll_cons hA
    obtain ⟨v1, vs1, d1, ds1, p1, q1, rfl, rfl, rfl, h1, r1⟩ := trodAll_cons r0
    obtain ⟨v2, vs2, d2, ds2, p2, q2, rfl, rfl, rfl, h2, r2⟩ := trodAll_cons r1
    obtain ⟨v3, vs3, d3, ds3, p3, q3, rfl, rfl, rfl, h3, r3⟩ := trodAll_cons r2
    obtain ⟨rfl, rfl, rfl⟩ := trodAll_nil r3
    obtain rfl : args = #[v0, v1, v2, v3] := by cases args; simp_all
    obtain ⟨l0, hbs0, hl0⟩ := Bs.came Try.underlying22 Try.underlying5 (by kernel_rfl) (hval 0 22 v0 rfl rfl) h0
    have hlen0 := came_len hsz (j := 0) (t := 22) rfl rfl Try.underlying22 (by kernel_rfl) hl0
    obtain ⟨a1, rfl, rfl, rfl, w1⟩ := open_int Try.underlying3 (hval 1 3 v1 rfl rfl) h1
    have hb1 := bounds_i64 w1
    obtain ⟨a2, rfl, rfl, rfl, w2⟩ := open_int Try.underlying3 (hval 2 3 v2 rfl rfl) h2
    have hb2 := bounds_i64 w2
    obtain ⟨b3, rfl, rfl, rfl⟩ := open_bool Try.underlying4 (hval 3 4 v3 rfl rfl) h3
    exact back_walk v0 l0 a1 a2 b3 W hbs0 hlen0

theorem bitsBack_holds : Rows.BitsBackSaid :=
  OpenClaim.holds_of_wide 9 Try.f9 rfl rfl rfl rfl rfl rfl rfl ⟨rfl, rfl, rfl, rfl, rfl⟩ rfl rfl rfl rfl rfl (by kernel_rfl) Try.func9 (by kernel_rfl)
    (of_decide_eq_true (by kernel_rfl)) (by unfold Func.isWrapper; first | (rw [if_pos (by decide +kernel)]; kernel_rfl) | (rw [if_neg (by decide +kernel)]; exact ⟨rfl, rfl⟩))
    (fun os started H enc _ => bitsBack_lifted os started H enc)
#print axioms bitsBack_holds
end Go.Proofs.Ytkdajahcadjpfaa
