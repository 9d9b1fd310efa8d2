/- BitsNext answers true for every row of bytes, every two numbers, both bits and every number of runs: bits.Next answers as the document's own function does, and bits.Runs goes through the document's runs, as far as one goes. No conditions. -/
import Derived.Test.YtkdajahcadjpfaaC12
import Derived.Test.YtkdajahcadjpfaaFrame
set_option linter.unusedSimpArgs false
set_option linter.unusedVariables false
namespace Go.Proofs.Ytkdajahcadjpfaa
open Go.RowKit Go.Attic Go.ChangeShapes Go.WideShapes

theorem fewB_oneN (l : List Nat) : fewB [l] = decide (l.length ≤ 3000) := by simp [fewB]

theorem bitB_take {l : List Nat} {q i : Nat} (h : i < 8 * q) : bitB (l.take q) i = bitB l i := by
  unfold bitB
  have : i / 8 < q := by omega
  simp [List.getD, this]
theorem onesN_take {l : List Nat} {q n : Nat} (h : n ≤ 8 * q) : onesN (l.take q) n = onesN l n := by
  unfold onesN
  apply List.filter_congr
  intro i hi
  simp at hi
  rw [bitB_take (by omega)]
theorem runsN_take {l : List Nat} {q n : Nat} (h : n ≤ 8 * q) : runsN (l.take q) n = runsN l n := by unfold runsN; rw [onesN_take h]

/-- What told makes of what Runs hands back. -/
theorem told_runs (l : List Nat) (n : Int) (hlen : l.length ≤ 3000) (W : World) (g : Value) (hg : RunsIt W (l.take ((endN l n + 7) / 8)) (endN l n) g) (m : Nat) (hm : m ≤ 4611686018427387904) :
    Calls Try.prog 30 #[g, .int .i64 (m : Int)] W fun e W' => ∃ v, e = .returned v ∧ Rs W' v ((runsN l (endN l n)).take m) ∧ Below W.heap.size W W' := by
  have hN := endN_le l n
  have hq : (l.take ((endN l n + 7) / 8)).length = (endN l n + 7) / 8 := by simp; omega
  have h1 := runsN_take (l := l) (q := (endN l n + 7) / 8) (n := endN l n) (by omega)
  have h2 := runs_len l (endN l n)
  have := told_any (l.take ((endN l n + 7) / 8)) (endN l n) m g W hg (by rw [hq]; omega) (by rw [hq]; omega) (by rw [h1]; omega) hm
  rw [h1] at this
  refine this.mono ?_
  rintro e w' ⟨v, rfl, ho, hb⟩
  exact ⟨v, rfl, Rs.of_owns ho, hb⟩

set_option maxRecDepth 100000 in
set_option maxHeartbeats 2000000 in
theorem next_walk (v : Value) (l : List Nat) (n fr : Int) (is : Bool) (most : Nat) (w : World) (h : Bs w v l) (hlen : l.length ≤ 140737488351232) (hmost : most < 256) :
    Calls Try.prog 5 #[v, .int .i64 n, .int .i64 fr, .bool is, .int .u8 (most : Int)] w fun e w' => e = .returned (.bool true) ∧ Below w.heap.size w w' := by
  have hx := h.lt
  have hF : ∀ w1 : World, Below w.heap.size w w1 → Calls Try.prog 11 #[.slice (some ⟨w1.heap.size, 0, none⟩) 1 1] (w1.alloc (.cells #[v] 22)) fun e w' => e = .returned (.bool (decide (l.length ≤ 3000))) ∧ w1.alloc (.cells #[v] 22) = w' := by
    intro w1 hb
    have := few_any _ [l] _ (Bss.one 22 (h.mono hb)) (by simp)
    rwa [fewB_oneN] at this
  have HF := hide hF
  clear hF
  obtain ⟨ao, cap, rfl⟩ : ∃ ao cap, v = .slice ao l.length cap := by obtain ⟨ao, cap, e, _⟩ := h; exact ⟨ao, cap, e⟩
  go_enter Try.func5, Try.ntmps5
  go_wp2_with fail
  refine (begun_any _).mono ?_
  rintro e w1 ⟨rfl, hb1⟩
  have hz1 := hb1.size
  go_wp2_with fail
  refine (HF.out w1 hb1).mono ?_
  rintro e w2 ⟨rfl, rfl⟩
  have hb2 : Below w.heap.size w (w1.alloc (.cells #[.slice ao l.length cap] 22)) := hb1.alloc hz1 _
  have Hb1 := hide hb1
  clear hb1 HF
  by_cases h3 : l.length ≤ 3000
  case neg =>
    have hd : decide (l.length ≤ 3000) = false := by simpa using h3
    rw [hd]
    go_wp2_with fail
    refine (begun_any _).mono ?_
    rintro e w3 ⟨rfl, hb3⟩
    go_wp2_with fail
    go_ret
    exact ⟨rfl, hb2.trans (hb3.mono hb2.size)⟩
  have hd : decide (l.length ≤ 3000) = true := by simpa using h3
  rw [hd]
  have h2 := h.mono hb2
  have hb2s := hb2.size
  have Hb2 := hide hb2
  clear hb2 Hb1
  have HT := hide (told_runs l n h3)
  have HN := hide (endN_le l n)
  have hrl := runs_len l (endN l n)
  have HNe := HN.out
  go_wp2_with fail
  refine (rruns_any _ l n _ h2 (by omega)).mono ?_
  rintro e w3 ⟨vl, rfl, hown3, hb3⟩
  have h3' := h2.mono hb3
  have HR := hide (runs_any (.slice ao l.length cap) l n)
  have Hb3 : Hid (Below w.heap.size w w3) := Hb2.out.trans (hb3.mono hb2s)
  have hL := Rs.of_owns hown3
  obtain ⟨rs, hrs⟩ : ∃ rs, runsN l (endN l n) = rs := ⟨_, rfl⟩
  rw [hrs] at hrl HT hL
  have hr6 : rs.length ≤ 1000000 := by omega
  obtain ⟨aol, capl, rfl⟩ : ∃ ao cap, vl = .slice ao rs.length cap := by obtain ⟨ao, cap, e, _⟩ := hL; exact ⟨ao, cap, e⟩
  clear hrs hown3 hb3 h2 Hb2 hb2s h HN HNe hrl hx
  obtain ⟨q, hq, hq1, hq2⟩ : ∃ q : Nat, (if most < rs.length then (most : Int) else (rs.length : Int)) = (q : Int) ∧ q ≤ rs.length ∧ rs.take q = rs.take most := by
    by_cases hh : most < rs.length
    · exact ⟨most, by rw [if_pos hh], by omega, rfl⟩
    · exact ⟨rs.length, by rw [if_neg hh], by omega, by rw [List.take_length, List.take_of_length_le (by omega)]⟩
  have hcl : rs.length ≤ capl := by obtain ⟨ao, cap, e, hc, _⟩ := hL; simp only [Value.slice.injEq] at e; omega
  have hq3 : (q : Int) ≤ (capl : Int) := by omega
  have hq4 : (0 : Int) ≤ (q : Int) := by omega
  have Hq2 := hide hq2
  have ht : rs.take 1048576 = rs := List.take_of_length_le (by omega)
  have HT1 := hide (fun W g hg => HT.out W g hg 1048576 (by omega))
  rw [ht, show ((1048576 : Nat) : Int) = 1048576 from rfl] at HT1
  clear hq2 ht
  generalize endN l n = N at *
  have hw : IntKind.i64.wrap (most : Int) = (most : Int) := by
    simp only [IntKind.wrap, IntKind.signed, IntKind.bits, IntKind.min, IntKind.max]
    first | omega | (simp; omega)
  have hA0 : Bs w3.drew (.slice ao l.length cap) l := h3'
  have hL0 : Rs w3.drew (.slice aol rs.length capl) rs := hL
  clear h3' hL
  go_wp2_with fail
  go_region_held3 (fun _ => True) (trivial)
    (first
      | (go_at_call 27; refine (next_any _ l n fr is _ hA0 (by omega)).mono ?_; rintro e wE ⟨rfl, rfl⟩)
      | (go_at_call 28; refine (rnext_any _ l n fr is _ hA0 (by omega)).mono ?_; rintro e wE ⟨rfl, rfl⟩)
      | (go_at_call 31; refine (HR.out _ hA0 (by omega)).mono ?_; rintro e w4 ⟨g4, rfl, hg4, hb4⟩; have hA4 := hA0.mono hb4; have hL4 := hL0.mono hb4; clear hA0)
      | (go_at_call 30; refine (HT1.out _ _ hg4).mono ?_; clear hg4; rintro e w5 ⟨v5, rfl, hR5, hb5⟩; have hA5 := hA4.mono hb5; have hL5 := hL4.mono hb5)
      | (go_at_call 29; refine (eqruns_any _ _ rs rs _ hR5 hL5 hr6 hr6).mono ?_; clear hR5; rintro e w6 ⟨rfl, n6, rfl⟩; have hA6 : Bs (w5.drewN n6) (.slice ao l.length cap) l := hA5; have hL6 : Rs (w5.drewN n6) (.slice aol rs.length capl) rs := hL5)
      | (go_at_call 31; refine (HR.out _ hA6 (by omega)).mono ?_; clear hA6; rintro e w7 ⟨g7, rfl, hg7, hb7⟩; have hL7 := hL6.mono hb7)
      | (go_at_call 30; (try rw [hw]); refine (HT.out _ _ hg7 most (by omega)).mono ?_; clear hg7; rintro e w8 ⟨v8, rfl, hR8, hb8⟩; have hL8 := (hL7.mono hb8).take hq1; rw [Hq2.out] at hL8)
      | (go_at_call 29; refine (eqruns_any _ _ (rs.take most) (rs.take most) _ hR8 hL8 (by simp; omega) (by simp; omega)).mono ?_; rintro e w9 ⟨rfl, n9, rfl⟩))
  all_goals
    have z3 := Hb3.out.size
    have z4 := hb4.size
    have z5 := hb5.size
    have z7 := hb7.size
    have z8 := hb8.size
    have hb4' : Below w3.heap.size w3 w4 := (Below.refl w3.heap.size w3).drew.trans hb4
    have hb7' : Below w5.heap.size w5 w7 := (below_drewN (Below.refl w5.heap.size w5) n6).trans hb7
    have HbF : Hid (Below w.heap.size w w8) := (((Hb3.out.trans (hb4'.mono z3)).trans (hb5.mono (by have := hb4'.size; omega))).trans (hb7'.mono (by have := hb4'.size; omega))).trans (hb8.mono (by have := hb4'.size; have := hb7'.size; omega))
    clear hb4 hb5 hb7 hb8 hb4' hb7' z3 z4 z5 z7 z8
    go_wp2_with fail
    go_ret
    exact ⟨by simp, below_drewN HbF.out n9⟩

theorem bitsNext_lifted (os : Os) (started : os.Started) (H : Type) (enc : TypeId × Value → H) :
    ReturnsInHanded {} Try.checked os 5 .any (Rows.bitsNextSpec.pre6 enc Try.prog Try.f5 Rows.bitsNextRow.domain false) (Rows.bitsNextSpec.post enc Try.prog Try.f5 false true false false) := by
  refine law_frame (C := Try.checked) rfl Try.own started (by kernel_rfl) Try.func5
    (ChangeSpec.witness6 (enc := enc) (C := Try.checked) false ⟨#[], #[.slice none 0 0, .int .i64 0, .int .i64 0, .bool false, .int .u8 0], []⟩ 8 (by kernel_rfl) (by kernel_rfl) (by kernel_rfl) (by kernel_rfl))
    Try.laidOut ?_ 4 rfl Try.underlying4 ?_ ?_
  · rw [Try.params5]
    intro t ht
    simp at ht
    rcases ht with rfl | rfl | rfl | rfl <;> exact ⟨by kernel_rfl, of_decide_eq_true (by kernel_rfl)⟩
  · intro ds hn
    rw [Try.params5] at hn
    match ds, hn with
    | [d1, d2, d3, d4, d5], _ => rfl
  · intro W base args ds p hval0 hA hsz
    have hval : ∀ (j : Nat) t v, Try.f5.params[j]? = some t → args[j]? = some v → Value.okWide Try.prog W .any base t v := hval0
    rw [Try.params5] at hA hsz hval
    obtain ⟨v0, vs0, d0, ds0, p0, q0, hargs, rfl, rfl, h0, r0⟩ := trodAll_cons hA
    obtain ⟨v1, vs1, d1, ds1, p1, q1, rfl, rfl, rfl, h1, r1⟩ := trodAll_cons r0
    obtain ⟨v2, vs2, d2, ds2, p2, q2, rfl, rfl, rfl, h2, r2⟩ := trodAll_cons r1
    obtain ⟨v3, vs3, d3, ds3, p3, q3, rfl, rfl, rfl, h3, r3⟩ := trodAll_cons r2
    obtain ⟨v4, vs4, d4, ds4, p4, q4, rfl, rfl, rfl, h4, r4⟩ := trodAll_cons r3
    obtain ⟨rfl, rfl, rfl⟩ := trodAll_nil r4
    obtain rfl : args = #[v0, v1, v2, v3, v4] := by cases args; simp_all
    obtain ⟨l0, hbs0, hl0⟩ := Bs.came Try.underlying22 Try.underlying5 (by kernel_rfl) (hval 0 22 v0 rfl rfl) h0
    have hlen0 := came_len hsz (j := 0) (t := 22) rfl rfl Try.underlying22 (by kernel_rfl) hl0
    obtain ⟨a1, rfl, rfl, rfl, w1⟩ := open_int Try.underlying3 (hval 1 3 v1 rfl rfl) h1
    have hb1 := bounds_i64 w1
    obtain ⟨a2, rfl, rfl, rfl, w2⟩ := open_int Try.underlying3 (hval 2 3 v2 rfl rfl) h2
    have hb2 := bounds_i64 w2
    obtain ⟨b3, rfl, rfl, rfl⟩ := open_bool Try.underlying4 (hval 3 4 v3 rfl rfl) h3
    obtain ⟨a4, rfl, rfl, rfl, w4⟩ := open_int Try.underlying5 (hval 4 5 v4 rfl rfl) h4
    have hb4 := bounds_u8 w4
    obtain ⟨n4, rfl⟩ := Int.eq_ofNat_of_zero_le hb4.1
    exact next_walk v0 l0 a1 a2 b3 n4 W hbs0 hlen0 (by omega)

theorem bitsNext_holds : Rows.BitsNextSaid :=
  OpenClaim.holds_of_wide 5 Try.f5 rfl rfl rfl rfl rfl rfl rfl ⟨rfl, rfl, rfl, rfl, rfl⟩ rfl rfl rfl rfl rfl (by kernel_rfl) Try.func5 (by kernel_rfl)
    (of_decide_eq_true (by kernel_rfl)) (by unfold Func.isWrapper; first | (rw [if_pos (by decide +kernel)]; kernel_rfl) | (rw [if_neg (by decide +kernel)]; exact ⟨rfl, rfl⟩))
    (fun os started H enc _ => bitsNext_lifted os started H enc)
#print axioms bitsNext_holds
end Go.Proofs.Ytkdajahcadjpfaa
