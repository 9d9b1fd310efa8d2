/- Contracts: Check, Of, and the document's. -/
import Derived.Test.YtecbcjdihnbdhaaC1
set_option linter.unusedSimpArgs false
set_option linter.unusedVariables false
namespace Go.Proofs.Ytecbcjdihnbdhaa
open Go.RowKit Go.Attic

theorem field25 (a0 a1 a2 a3 a4 a5 : Value) (W : World) : Sem.run Try.prog (Instr.field 25 (.agg #[a0, a1, a2, a3, a4, a5]) 5) W = .ok a5 W := by kernel_rfl

theorem geo_new (w : World) (b l d x : Int) : (w.alloc (.cells #[.int .i64 b, .int .i64 l, .int .i64 d, .int .i64 x] 23)).cell? ⟨w.heap.size, 0, none⟩ = some (.int .i64 b) ∧ (w.alloc (.cells #[.int .i64 b, .int .i64 l, .int .i64 d, .int .i64 x] 23)).cell? ⟨w.heap.size, 1, none⟩ = some (.int .i64 l) ∧ (w.alloc (.cells #[.int .i64 b, .int .i64 l, .int .i64 d, .int .i64 x] 23)).cell? ⟨w.heap.size, 2, none⟩ = some (.int .i64 d) ∧ (w.alloc (.cells #[.int .i64 b, .int .i64 l, .int .i64 d, .int .i64 x] 23)).cell? ⟨w.heap.size, 3, none⟩ = some (.int .i64 x) := by
  refine ⟨?_, ?_, ?_, ?_⟩ <;> simp

theorem geo_keep {w w1 : World} {b l d x : Int} (hb1 : Below (w.alloc (.cells #[.int .i64 b, .int .i64 l, .int .i64 d, .int .i64 x] 23)).drew.heap.size (w.alloc (.cells #[.int .i64 b, .int .i64 l, .int .i64 d, .int .i64 x] 23)).drew w1) : (w1.cell? ⟨w.heap.size, 0, none⟩ = some (.int .i64 b) ∧ w1.cell? ⟨w.heap.size, 1, none⟩ = some (.int .i64 l) ∧ w1.cell? ⟨w.heap.size, 2, none⟩ = some (.int .i64 d) ∧ w1.cell? ⟨w.heap.size, 3, none⟩ = some (.int .i64 x)) ∧ Below w.heap.size w w1 := by
  have hlt : ∀ q, (⟨w.heap.size, q, none⟩ : Addr).block < (w.alloc (.cells #[.int .i64 b, .int .i64 l, .int .i64 d, .int .i64 x] 23)).drew.heap.size := fun q => by simp
  have hn := geo_new w b l d x
  refine ⟨⟨?_, ?_, ?_, ?_⟩, (((Below.refl _ w).alloc (Nat.le_refl _) _).drew).trans (hb1.mono (by simp))⟩
  · rw [hb1.cell (hlt 0)]; exact hn.1
  · rw [hb1.cell (hlt 1)]; exact hn.2.1
  · rw [hb1.cell (hlt 2)]; exact hn.2.2.1
  · rw [hb1.cell (hlt 3)]; exact hn.2.2.2

set_option maxRecDepth 100000 in
set_option maxHeartbeats 400000 in
theorem check_any (b l d x : Int) (w : World) (hb : -9223372036854775808 ≤ b) (hb2 : b ≤ 9223372036854775807) :
    Calls Try.prog 11 #[.agg #[.int .i64 b, .int .i64 l, .int .i64 d, .int .i64 x]] w fun e w' => e = .returned (.int .i64 (errG b l d x)) ∧ Below w.heap.size w w' := by
  have hfl := field25
  by_cases h0 : okG b l d x
  · rw [show errG b l d x = 0 from if_pos h0]
    obtain ⟨h1, h2, h3, h4, h5, h6, h7, h8⟩ := h0
    unfold planB at h7
    have hdec : decide (b < 3 + l + (x + 31) / 32 + (x + 63) / 64 + d + 4 * x) = false := decide_eq_false (by omega)
    have hdec2 : decide (2048 < b) = false := decide_eq_false (by omega)
    go_enter Try.func11, Try.ntmps11
    go_wp2_with fail
    go_region_held3 (fun w' => w'.cell? ⟨w.heap.size, 0, none⟩ = some (.int .i64 b) ∧ w'.cell? ⟨w.heap.size, 1, none⟩ = some (.int .i64 l) ∧ w'.cell? ⟨w.heap.size, 2, none⟩ = some (.int .i64 d) ∧ w'.cell? ⟨w.heap.size, 3, none⟩ = some (.int .i64 x)) (first | exact S1 | exact geo_new w b l d x) (first | (go_at_call 28; refine (layOut_any b l d x _ (by omega) (by omega) (by omega) (by omega) (by omega) (by omega)).mono ?_; rintro e w1 ⟨rfl, hb1⟩; obtain ⟨S1, hB1⟩ := geo_keep hb1; skip))
    all_goals go_wp2_with fail
    all_goals go_ret
    all_goals exact ⟨rfl, hB1⟩
  · rw [show errG b l d x = 40 from if_neg h0]
    by_cases h1 : l < 8
    · clear h0
      go_enter Try.func11, Try.ntmps11
      go_wp2_with fail
      go_ret
      exact ⟨rfl, (Below.refl _ w).alloc (Nat.le_refl _) _⟩
    by_cases h2 : 256 < l
    · clear h0
      go_enter Try.func11, Try.ntmps11
      go_wp2_with fail
      go_ret
      exact ⟨rfl, (Below.refl _ w).alloc (Nat.le_refl _) _⟩
    by_cases h3 : d < 1
    · clear h0
      go_enter Try.func11, Try.ntmps11
      go_wp2_with fail
      go_ret
      exact ⟨rfl, (Below.refl _ w).alloc (Nat.le_refl _) _⟩
    by_cases h4 : 64 < d
    · clear h0
      go_enter Try.func11, Try.ntmps11
      go_wp2_with fail
      go_ret
      exact ⟨rfl, (Below.refl _ w).alloc (Nat.le_refl _) _⟩
    by_cases h5 : x < 1
    · clear h0
      go_enter Try.func11, Try.ntmps11
      go_wp2_with fail
      go_ret
      exact ⟨rfl, (Below.refl _ w).alloc (Nat.le_refl _) _⟩
    by_cases h6 : 256 < x
    · clear h0
      go_enter Try.func11, Try.ntmps11
      go_wp2_with fail
      go_ret
      exact ⟨rfl, (Below.refl _ w).alloc (Nat.le_refl _) _⟩
    by_cases h7 : b < 3 + l + (x + 31) / 32 + (x + 63) / 64 + d + 4 * x
    · clear h0
      have hdec : decide (b < 3 + l + (x + 31) / 32 + (x + 63) / 64 + d + 4 * x) = true := decide_eq_true h7
      go_enter Try.func11, Try.ntmps11
      go_wp2_with fail
      first | go_region_law (go_simp; refine (layOut_any b l d x _ (by omega) (by omega) (by omega) (by omega) (by omega) (by omega)).mono ?_; rintro e w1 ⟨rfl, hb1⟩; obtain ⟨⟨S1, S2, S3, S4⟩, hB1⟩ := geo_keep hb1; skip) | fail
      all_goals go_wp2_with fail
      all_goals go_ret
      all_goals exact ⟨rfl, hB1⟩
    have h8 : 2048 < b := by unfold okG planB at h0; omega
    clear h0
    have hdec : decide (b < 3 + l + (x + 31) / 32 + (x + 63) / 64 + d + 4 * x) = false := decide_eq_false h7
    have hdec2 : decide (2048 < b) = true := decide_eq_true h8
    go_enter Try.func11, Try.ntmps11
    go_wp2_with fail
    go_region_held3 (fun w' => w'.cell? ⟨w.heap.size, 0, none⟩ = some (.int .i64 b) ∧ w'.cell? ⟨w.heap.size, 1, none⟩ = some (.int .i64 l) ∧ w'.cell? ⟨w.heap.size, 2, none⟩ = some (.int .i64 d) ∧ w'.cell? ⟨w.heap.size, 3, none⟩ = some (.int .i64 x)) (first | exact S1 | exact geo_new w b l d x) (first | (go_at_call 28; refine (layOut_any b l d x _ (by omega) (by omega) (by omega) (by omega) (by omega) (by omega)).mono ?_; rintro e w1 ⟨rfl, hb1⟩; obtain ⟨S1, hB1⟩ := geo_keep hb1; skip))
    all_goals go_wp2_with fail
    all_goals go_ret
    all_goals exact ⟨rfl, hB1⟩

set_option maxRecDepth 100000 in
set_option maxHeartbeats 400000 in
theorem refCheck_any (b l d x : Int) (w : World) (hb : -9223372036854775808 ≤ b) (hb2 : b ≤ 9223372036854775807) :
    Calls Try.prog 12 #[.agg #[.int .i64 b, .int .i64 l, .int .i64 d, .int .i64 x]] w fun e w' => e = .returned (.int .i64 (errG b l d x)) ∧ Below w.heap.size w w' := by
  have hfl := field25
  by_cases h0 : okG b l d x
  · rw [show errG b l d x = 0 from if_pos h0]
    obtain ⟨h1, h2, h3, h4, h5, h6, h7, h8⟩ := h0
    unfold planB at h7
    have hdec : decide (b < 3 + l + (x + 31) / 32 + (x + 63) / 64 + d + 4 * x) = false := decide_eq_false (by omega)
    have hdec2 : decide (2048 < b) = false := decide_eq_false (by omega)
    go_enter Try.func12, Try.ntmps12
    go_wp2_with fail
    go_region_held3 (fun w' => w'.cell? ⟨w.heap.size, 0, none⟩ = some (.int .i64 b) ∧ w'.cell? ⟨w.heap.size, 1, none⟩ = some (.int .i64 l) ∧ w'.cell? ⟨w.heap.size, 2, none⟩ = some (.int .i64 d) ∧ w'.cell? ⟨w.heap.size, 3, none⟩ = some (.int .i64 x)) (first | exact S1 | exact geo_new w b l d x) (first | (go_at_call 29; refine (refPlan_any b l d x _ (by omega) (by omega) (by omega) (by omega) (by omega) (by omega)).mono ?_; rintro e w1 ⟨rfl, hb1⟩; obtain ⟨S1, hB1⟩ := geo_keep hb1; skip))
    all_goals go_wp2_with fail
    all_goals go_ret
    all_goals exact ⟨rfl, hB1⟩
  · rw [show errG b l d x = 40 from if_neg h0]
    by_cases h1 : l < 8
    · clear h0
      go_enter Try.func12, Try.ntmps12
      go_wp2_with fail
      go_ret
      exact ⟨rfl, (Below.refl _ w).alloc (Nat.le_refl _) _⟩
    by_cases h2 : 256 < l
    · clear h0
      go_enter Try.func12, Try.ntmps12
      go_wp2_with fail
      go_ret
      exact ⟨rfl, (Below.refl _ w).alloc (Nat.le_refl _) _⟩
    by_cases h3 : d < 1
    · clear h0
      go_enter Try.func12, Try.ntmps12
      go_wp2_with fail
      go_ret
      exact ⟨rfl, (Below.refl _ w).alloc (Nat.le_refl _) _⟩
    by_cases h4 : 64 < d
    · clear h0
      go_enter Try.func12, Try.ntmps12
      go_wp2_with fail
      go_ret
      exact ⟨rfl, (Below.refl _ w).alloc (Nat.le_refl _) _⟩
    by_cases h5 : x < 1
    · clear h0
      go_enter Try.func12, Try.ntmps12
      go_wp2_with fail
      go_ret
      exact ⟨rfl, (Below.refl _ w).alloc (Nat.le_refl _) _⟩
    by_cases h6 : 256 < x
    · clear h0
      go_enter Try.func12, Try.ntmps12
      go_wp2_with fail
      go_ret
      exact ⟨rfl, (Below.refl _ w).alloc (Nat.le_refl _) _⟩
    by_cases h7 : b < 3 + l + (x + 31) / 32 + (x + 63) / 64 + d + 4 * x
    · clear h0
      have hdec : decide (b < 3 + l + (x + 31) / 32 + (x + 63) / 64 + d + 4 * x) = true := decide_eq_true h7
      go_enter Try.func12, Try.ntmps12
      go_wp2_with fail
      first | go_region_law (go_simp; refine (refPlan_any b l d x _ (by omega) (by omega) (by omega) (by omega) (by omega) (by omega)).mono ?_; rintro e w1 ⟨rfl, hb1⟩; obtain ⟨⟨S1, S2, S3, S4⟩, hB1⟩ := geo_keep hb1; skip) | fail
      all_goals go_wp2_with fail
      all_goals go_ret
      all_goals exact ⟨rfl, hB1⟩
    have h8 : 2048 < b := by unfold okG planB at h0; omega
    clear h0
    have hdec : decide (b < 3 + l + (x + 31) / 32 + (x + 63) / 64 + d + 4 * x) = false := decide_eq_false h7
    have hdec2 : decide (2048 < b) = true := decide_eq_true h8
    go_enter Try.func12, Try.ntmps12
    go_wp2_with fail
    go_region_held3 (fun w' => w'.cell? ⟨w.heap.size, 0, none⟩ = some (.int .i64 b) ∧ w'.cell? ⟨w.heap.size, 1, none⟩ = some (.int .i64 l) ∧ w'.cell? ⟨w.heap.size, 2, none⟩ = some (.int .i64 d) ∧ w'.cell? ⟨w.heap.size, 3, none⟩ = some (.int .i64 x)) (first | exact S1 | exact geo_new w b l d x) (first | (go_at_call 29; refine (refPlan_any b l d x _ (by omega) (by omega) (by omega) (by omega) (by omega) (by omega)).mono ?_; rintro e w1 ⟨rfl, hb1⟩; obtain ⟨S1, hB1⟩ := geo_keep hb1; skip))
    all_goals go_wp2_with fail
    all_goals go_ret
    all_goals exact ⟨rfl, hB1⟩

end Go.Proofs.Ytecbcjdihnbdhaa
