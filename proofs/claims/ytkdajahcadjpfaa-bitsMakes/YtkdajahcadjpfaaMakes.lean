/- BitsMakes answers true for every number of bits, every span and every row of bytes: bits.New, bits.Check and bits.Span answer as the document's own functions do. No conditions. -/
import Derived.Test.YtkdajahcadjpfaaC6
import Derived.Test.YtkdajahcadjpfaaFrame
set_option linter.unusedSimpArgs false
set_option linter.unusedVariables false
namespace Go.Proofs.Ytkdajahcadjpfaa
open Go.RowKit Go.Attic Go.ChangeShapes Go.WideShapes

theorem fewB_one'' (l : List Nat) : fewB [l] = decide (l.length ≤ 3000) := by simp [fewB]
theorem spanE_01 (n a b : Int) : spanE n a b = 0 ∨ spanE n a b = 1 := by unfold spanE; split <;> simp

set_option maxRecDepth 100000 in
set_option maxHeartbeats 1000000 in
theorem makes_walk (n a b : Int) (v : Value) (l : List Nat) (w : World) (h : Bs w v l) (hlen : l.length ≤ 140737488351232) :
    Calls Try.prog 3 #[.int .i64 n, .int .i64 a, .int .i64 b, v] w fun e w' => e = .returned (.bool true) ∧ Below w.heap.size w w' := by
  have hx := h.lt
  have hF : ∀ w1 : World, Below w.heap.size w w1 → Calls Try.prog 11 #[.slice (some ⟨w1.heap.size, 0, none⟩) 1 1] (w1.alloc (.cells #[v] 22)) fun e w' => e = .returned (.bool (decide (l.length ≤ 3000))) ∧ w1.alloc (.cells #[v] 22) = w' := by
    intro w1 hb
    have := few_any _ [l] _ (Bss.one 22 (h.mono hb)) (by simp)
    rwa [fewB_one''] at this
  have HF := hide hF
  clear hF
  obtain ⟨ao, cap, rfl⟩ : ∃ ao cap, v = .slice ao l.length cap := by obtain ⟨ao, cap, e, _⟩ := h; exact ⟨ao, cap, e⟩
  go_enter Try.func3, Try.ntmps3
  go_wp2_with fail
  refine (begun_any _).mono ?_
  rintro e w1 ⟨rfl, hb1⟩
  have hz1 := hb1.size
  go_wp2_with fail
  refine (HF.out w1 hb1).mono ?_
  rintro e w2 ⟨rfl, rfl⟩
  have hb2 : Below w.heap.size w (w1.alloc (.cells #[.slice ao l.length cap] 22)) := hb1.alloc hz1 _
  have Hb1 := hide hb1
  clear hb1 HF
  by_cases h3 : l.length ≤ 3000
  case neg =>
    have hd : decide (l.length ≤ 3000) = false := by simpa using h3
    rw [hd]
    go_wp2_with fail
    refine (begun_any _).mono ?_
    rintro e w3 ⟨rfl, hb3⟩
    go_wp2_with fail
    go_ret
    exact ⟨rfl, hb2.trans (hb3.mono hb2.size)⟩
  have hd : decide (l.length ≤ 3000) = true := by simpa using h3
  rw [hd]
  have h2 := h.mono hb2
  have hb2s := hb2.size
  have Hb2 := hide hb2
  clear hb2 Hb1
  have HN := hide (new_any n)
  have HR := hide (rnew_any n)
  have hnx := newL_lt n
  generalize newL n = nl at *
  generalize newE n = ne at *
  go_wp2_with fail
  refine (HN.out _).mono ?_
  rintro e w3 ⟨x3, rfl, hown3, hb3⟩
  have hs3 := Bs.of_owns hown3 hnx
  have h3' := h2.mono hb3
  have Hb3 : Hid (Below w.heap.size w w3) := Hb2.out.trans (hb3.mono hb2s)
  clear hown3 hb3 h2 Hb2 hb2s h
  go_wp2_with fail
  refine (HR.out _).mono ?_
  rintro e w4 ⟨x4, rfl, hown4, hb4⟩
  have hs4 := Bs.of_owns hown4 hnx
  have h4 := h3'.mono hb4
  have Hb4 : Hid (Below w.heap.size w w4) := Hb3.out.trans (hb4.mono Hb3.out.size)
  have hs34 := hs3.mono hb4
  clear hown4 hb4 hs3 h3' Hb3 HN HR
  go_wp2_with fail
  refine (equal_any _ _ nl nl _ hs34 hs4).mono ?_
  rintro e w5 ⟨rfl, rfl⟩
  rw [show decide (nl = nl) = true by simp]
  go_wp2_with fail
  refine (check_any _ l n _ h4 (by omega)).mono ?_
  rintro e w5 ⟨rfl, rfl⟩
  go_wp2_with fail
  refine (rcheck_any _ l n _ h4 (by omega)).mono ?_
  rintro e w5 ⟨rfl, rfl⟩
  have HN := hide (span_any n a b)
  have HR := hide (rspan_any n a b)
  have hsx := spanI_lt n a b
  have he01 := spanE_01 n a b
  generalize spanI n a b = sl at *
  generalize spanE n a b = se at *
  go_wp2_with fail
  refine (HN.out _).mono ?_
  rintro e w6 ⟨x6, rfl, hown6, hb6⟩
  have hs6 := Bs.of_owns hown6 hsx
  have Hb6 : Hid (Below w.heap.size w w6) := Hb4.out.trans (hb6.mono Hb4.out.size)
  clear hown6 hb6 Hb4 hs34 hs4 h4
  by_cases hbig : 4000 < n
  · rcases he01 with rfl | rfl
    all_goals
      go_wp2_with fail
      go_ret
      exact ⟨by simp, Hb6.out⟩
  · clear he01
    go_wp2_with fail
    refine (HR.out _).mono ?_
    rintro e w7 ⟨x7, rfl, hown7, hb7⟩
    have hs7 := Bs.of_owns hown7 hsx
    have Hb7 : Hid (Below w.heap.size w w7) := Hb6.out.trans (hb7.mono Hb6.out.size)
    have hs67 := hs6.mono hb7
    clear hown7 hb7 hs6 Hb6
    go_wp2_with fail
    refine (equal_any _ _ sl sl _ hs67 hs7).mono ?_
    rintro e w8 ⟨rfl, rfl⟩
    rw [show decide (sl = sl) = true by simp]
    go_wp2_with fail
    go_ret
    exact ⟨by simp, Hb7.out⟩

theorem bitsMakes_lifted (os : Os) (started : os.Started) (H : Type) (enc : TypeId × Value → H) :
    ReturnsInHanded {} Try.checked os 3 .any (Rows.bitsMakesSpec.pre6 enc Try.prog Try.f3 Rows.bitsMakesRow.domain false) (Rows.bitsMakesSpec.post enc Try.prog Try.f3 false true false false) := by
  refine law_frame (C := Try.checked) rfl Try.own started (by kernel_rfl) Try.func3
    (ChangeSpec.witness6 (enc := enc) (C := Try.checked) false ⟨#[], #[.int .i64 0, .int .i64 0, .int .i64 0, .slice none 0 0], []⟩ 8 (by kernel_rfl) (by kernel_rfl) (by kernel_rfl) (by kernel_rfl))
    Try.laidOut ?_ 4 rfl Try.underlying4 ?_ ?_
  · rw [Try.params3]
    intro t ht
    simp at ht
    rcases ht with rfl | rfl <;> exact ⟨by kernel_rfl, of_decide_eq_true (by kernel_rfl)⟩
  · intro ds hn
    rw [Try.params3] at hn
    match ds, hn with
    | [d1, d2, d3, d4], _ => rfl
  · intro W base args ds p hval0 hA hsz
    have hval : ∀ (j : Nat) t v, Try.f3.params[j]? = some t → args[j]? = some v → Value.okWide Try.prog W .any base t v := hval0
    rw [Try.params3] at hA hsz hval
    obtain ⟨v0, vs0, d0, ds0, p0, q0, hargs, rfl, rfl, h0, r0⟩ := trodAll_cons hA
    obtain ⟨v1, vs1, d1, ds1, p1, q1, rfl, rfl, rfl, h1, r1⟩ := trodAll_cons r0
    obtain ⟨v2, vs2, d2, ds2, p2, q2, rfl, rfl, rfl, h2, r2⟩ := trodAll_cons r1
    obtain ⟨v3, vs3, d3, ds3, p3, q3, rfl, rfl, rfl, h3, r3⟩ := trodAll_cons r2
    obtain ⟨rfl, rfl, rfl⟩ := trodAll_nil r3
    obtain rfl : args = #[v0, v1, v2, v3] := by cases args; simp_all
    obtain ⟨a0, rfl, rfl, rfl, w0⟩ := open_int Try.underlying3 (hval 0 3 v0 rfl rfl) h0
    have hb0 := bounds_i64 w0
    obtain ⟨a1, rfl, rfl, rfl, w1⟩ := open_int Try.underlying3 (hval 1 3 v1 rfl rfl) h1
    have hb1 := bounds_i64 w1
    obtain ⟨a2, rfl, rfl, rfl, w2⟩ := open_int Try.underlying3 (hval 2 3 v2 rfl rfl) h2
    have hb2 := bounds_i64 w2
    obtain ⟨l3, hbs3, hl3⟩ := Bs.came Try.underlying22 Try.underlying5 (by kernel_rfl) (hval 3 22 v3 rfl rfl) h3
    have hlen3 := came_len hsz (j := 3) (t := 22) rfl rfl Try.underlying22 (by kernel_rfl) hl3
    exact makes_walk a0 a1 a2 v3 l3 W hbs3 hlen3

theorem bitsMakes_holds : Rows.BitsMakesSaid :=
  OpenClaim.holds_of_wide 3 Try.f3 rfl rfl rfl rfl rfl rfl rfl ⟨rfl, rfl, rfl, rfl, rfl⟩ rfl rfl rfl rfl rfl (by kernel_rfl) Try.func3 (by kernel_rfl)
    (of_decide_eq_true (by kernel_rfl)) (by unfold Func.isWrapper; first | (rw [if_pos (by decide +kernel)]; kernel_rfl) | (rw [if_neg (by decide +kernel)]; exact ⟨rfl, rfl⟩))
    (fun os started H enc _ => bitsMakes_lifted os started H enc)
#print axioms bitsMakes_holds
end Go.Proofs.Ytkdajahcadjpfaa
