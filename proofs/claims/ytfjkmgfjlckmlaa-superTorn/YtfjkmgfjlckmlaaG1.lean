/- Contracts of the geometry: blocksOf, layOut, the document's plan, Check and the document's. -/
import Derived.Test.YtfjkmgfjlckmlaaW1
import Derived.Deep.RegionLaw
import Derived.Deep.RegionHeld3
import Derived.Deep.Draws
import Derived.Laws.StructEq
set_option linter.unusedSimpArgs false
set_option linter.unusedVariables false
namespace Go.Proofs.Ytfjkmgfjlckmlaa
open Go.RowKit Go.Attic
theorem ret_int {k : IntKind} {a b : Int} (h : a = b) : Ending.returned (.int k a) = .returned (.int k b) := by rw [h]
theorem ret_bool {a b : Bool} (h : a = b) : Ending.returned (.bool a) = .returned (.bool b) := by rw [h]


set_option maxHeartbeats 400000 in
theorem blocksOf_any (n : Int) (w : World) (h0 : 0 ≤ n) (h1 : n ≤ 65536) : Calls Try.prog 45 #[.int .i64 n] w fun e w' => e = .returned (.int .i64 ((n + 255) / 256)) ∧ w = w' := by
  go_enter Try.func45, Try.ntmps45
  go_wp2
  go_ret
  exact ⟨ret_int (by omega), rfl⟩

set_option maxRecDepth 100000 in
set_option maxHeartbeats 400000 in
theorem refPlan_any (b l d x : Int) (w : World) (hl0 : 8 ≤ l) (hl1 : l ≤ 256) (hd0 : 1 ≤ d) (hd1 : d ≤ 64) (hx0 : 1 ≤ x) (hx1 : x ≤ 256) :
    Calls Try.prog 37 #[.agg #[.int .i64 b, .int .i64 l, .int .i64 d, .int .i64 x]] w fun e w' => e = .returned (.agg #[.int .i64 3, .int .i64 (3 + l), .int .i64 (3 + l + (x + 31) / 32), .int .i64 (3 + l + (x + 31) / 32 + (x + 63) / 64), .int .i64 (3 + l + (x + 31) / 32 + (x + 63) / 64 + d), .int .i64 (3 + l + (x + 31) / 32 + (x + 63) / 64 + d + 4 * x)]) ∧ Below w.heap.size w w' := by
  go_enter Try.func37, Try.ntmps37
  go_wp2_with fail
  refine bodyPost_ret (v := .agg #[.int .i64 3, .int .i64 (3 + l), .int .i64 (3 + l + (x + 31) / 32), .int .i64 (3 + l + (x + 31) / 32 + (x + 63) / 64), .int .i64 (3 + l + (x + 31) / 32 + (x + 63) / 64 + d), .int .i64 (3 + l + (x + 31) / 32 + (x + 63) / 64 + d + 4 * x)]) (by simp [results, Try.results37, go_sem]) rfl ⟨rfl, ?_⟩
  exact ((Below.refl _ w).alloc (Nat.le_refl _) _).alloc (by simp) _

theorem tab_eq (x : Int) (h : 1 ≤ x) : (x * 8 + 255) / 256 = (x + 31) / 32 := by omega
theorem mar_eq (x : Int) (h : 1 ≤ x) : (x * 4 + 255) / 256 = (x + 63) / 64 := by omega

set_option maxRecDepth 100000 in
set_option maxHeartbeats 400000 in
theorem layOut_any (b l d x : Int) (w : World) (hl0 : 8 ≤ l) (hl1 : l ≤ 256) (hd0 : 1 ≤ d) (hd1 : d ≤ 64) (hx0 : 1 ≤ x) (hx1 : x ≤ 256) :
    Calls Try.prog 36 #[.agg #[.int .i64 b, .int .i64 l, .int .i64 d, .int .i64 x]] w fun e w' => e = .returned (.agg #[.int .i64 3, .int .i64 (3 + l), .int .i64 (3 + l + (x + 31) / 32), .int .i64 (3 + l + (x + 31) / 32 + (x + 63) / 64), .int .i64 (3 + l + (x + 31) / 32 + (x + 63) / 64 + d), .int .i64 (3 + l + (x + 31) / 32 + (x + 63) / 64 + d + 4 * x)]) ∧ Below w.heap.size w w' := by
  have hq1 := tab_eq x hx0
  have hq2 := mar_eq x hx0
  have hz1 : (x + 31) / 32 ≤ 8 := by omega
  have hz2 : (x + 63) / 64 ≤ 4 := by omega
  have hz3 : 0 ≤ (x + 31) / 32 := by omega
  have hz4 : 0 ≤ (x + 63) / 64 := by omega
  have hw1 : IntKind.i64.wrap (x * 8) = x * 8 := by rw [IntKind.wrap_i64]; omega
  have hw2 : IntKind.i64.wrap (x * 4) = x * 4 := by rw [IntKind.wrap_i64]; omega
  have hw3 : IntKind.i64.wrap (3 + l + (x + 31) / 32) = 3 + l + (x + 31) / 32 := by rw [IntKind.wrap_i64]; omega
  have hw4 : IntKind.i64.wrap (3 + l + (x + 31) / 32 + (x + 63) / 64) = 3 + l + (x + 31) / 32 + (x + 63) / 64 := by rw [IntKind.wrap_i64]; omega
  have hc : x * 4 = 4 * x := by omega
  have b8 := fun w => blocksOf_any (x * 8) w (by omega) (by omega)
  have b4 := fun w => blocksOf_any (x * 4) w (by omega) (by omega)
  rw [hq1] at b8
  rw [hq2] at b4
  have Hc := hide hc
  clear hc hq1 hq2
  go_enter Try.func36, Try.ntmps36
  go_wp2_with fail
  go_region_law (go_simp; refine (b8 _).mono ?_; rintro e w' ⟨rfl, rfl⟩)
  all_goals go_wp2_with fail
  all_goals go_region_law (go_simp; refine (b4 _).mono ?_; rintro e w' ⟨rfl, rfl⟩)
  all_goals go_wp2_with fail
  all_goals rw [← Hc.out]
  all_goals refine bodyPost_ret (v := .agg #[.int .i64 3, .int .i64 (3 + l), .int .i64 (3 + l + (x + 31) / 32), .int .i64 (3 + l + (x + 31) / 32 + (x + 63) / 64), .int .i64 (3 + l + (x + 31) / 32 + (x + 63) / 64 + d), .int .i64 (3 + l + (x + 31) / 32 + (x + 63) / 64 + d + x * 4)]) (by simp [results, Try.results36, go_sem]) rfl ⟨rfl, ?_⟩
  all_goals exact ((((Below.refl _ w).alloc (Nat.le_refl _) _).alloc (by simp) _).alloc (by simp; omega) _).drew.drew

def planB (l d x : Int) : Int := 3 + l + (x + 31) / 32 + (x + 63) / 64 + d + 4 * x
def okG (b l d x : Int) : Prop := 8 ≤ l ∧ l ≤ 256 ∧ 1 ≤ d ∧ d ≤ 64 ∧ 1 ≤ x ∧ x ≤ 256 ∧ planB l d x ≤ b ∧ b ≤ 2048
def errG (b l d x : Int) : Int := if 8 ≤ l ∧ l ≤ 256 ∧ 1 ≤ d ∧ d ≤ 64 ∧ 1 ≤ x ∧ x ≤ 256 ∧ planB l d x ≤ b ∧ b ≤ 2048 then 0 else 40


theorem field61 (a0 a1 a2 a3 a4 a5 : Value) (W : World) : Sem.run Try.prog (Instr.field 61 (.agg #[a0, a1, a2, a3, a4, a5]) 5) W = .ok a5 W := by kernel_rfl

theorem geo_new (w : World) (b l d x : Int) : (w.alloc (.cells #[.int .i64 b, .int .i64 l, .int .i64 d, .int .i64 x] 23)).cell? ⟨w.heap.size, 0, none⟩ = some (.int .i64 b) ∧ (w.alloc (.cells #[.int .i64 b, .int .i64 l, .int .i64 d, .int .i64 x] 23)).cell? ⟨w.heap.size, 1, none⟩ = some (.int .i64 l) ∧ (w.alloc (.cells #[.int .i64 b, .int .i64 l, .int .i64 d, .int .i64 x] 23)).cell? ⟨w.heap.size, 2, none⟩ = some (.int .i64 d) ∧ (w.alloc (.cells #[.int .i64 b, .int .i64 l, .int .i64 d, .int .i64 x] 23)).cell? ⟨w.heap.size, 3, none⟩ = some (.int .i64 x) := by
  refine ⟨?_, ?_, ?_, ?_⟩ <;> simp

theorem geo_keep {w w1 : World} {b l d x : Int} (hb1 : Below (w.alloc (.cells #[.int .i64 b, .int .i64 l, .int .i64 d, .int .i64 x] 23)).drew.heap.size (w.alloc (.cells #[.int .i64 b, .int .i64 l, .int .i64 d, .int .i64 x] 23)).drew w1) : (w1.cell? ⟨w.heap.size, 0, none⟩ = some (.int .i64 b) ∧ w1.cell? ⟨w.heap.size, 1, none⟩ = some (.int .i64 l) ∧ w1.cell? ⟨w.heap.size, 2, none⟩ = some (.int .i64 d) ∧ w1.cell? ⟨w.heap.size, 3, none⟩ = some (.int .i64 x)) ∧ Below w.heap.size w w1 := by
  have hlt : ∀ q, (⟨w.heap.size, q, none⟩ : Addr).block < (w.alloc (.cells #[.int .i64 b, .int .i64 l, .int .i64 d, .int .i64 x] 23)).drew.heap.size := fun q => by simp
  have hn := geo_new w b l d x
  refine ⟨⟨?_, ?_, ?_, ?_⟩, (((Below.refl _ w).alloc (Nat.le_refl _) _).drew).trans (hb1.mono (by simp))⟩
  · rw [hb1.cell (hlt 0)]; exact hn.1
  · rw [hb1.cell (hlt 1)]; exact hn.2.1
  · rw [hb1.cell (hlt 2)]; exact hn.2.2.1
  · rw [hb1.cell (hlt 3)]; exact hn.2.2.2

set_option maxRecDepth 100000 in
set_option maxHeartbeats 400000 in
theorem check_any (b l d x : Int) (w : World) (hb : -9223372036854775808 ≤ b) (hb2 : b ≤ 9223372036854775807) :
    Calls Try.prog 25 #[.agg #[.int .i64 b, .int .i64 l, .int .i64 d, .int .i64 x]] w fun e w' => e = .returned (.int .i64 (errG b l d x)) ∧ Below w.heap.size w w' := by
  have hfl := field61
  by_cases h0 : okG b l d x
  · rw [show errG b l d x = 0 from if_pos h0]
    obtain ⟨h1, h2, h3, h4, h5, h6, h7, h8⟩ := h0
    unfold planB at h7
    have hdec : decide (b < 3 + l + (x + 31) / 32 + (x + 63) / 64 + d + 4 * x) = false := decide_eq_false (by omega)
    have hdec2 : decide (2048 < b) = false := decide_eq_false (by omega)
    go_enter Try.func25, Try.ntmps25
    go_wp2_with fail
    go_region_held3 (fun w' => w'.cell? ⟨w.heap.size, 0, none⟩ = some (.int .i64 b) ∧ w'.cell? ⟨w.heap.size, 1, none⟩ = some (.int .i64 l) ∧ w'.cell? ⟨w.heap.size, 2, none⟩ = some (.int .i64 d) ∧ w'.cell? ⟨w.heap.size, 3, none⟩ = some (.int .i64 x)) (first | exact S1 | exact geo_new w b l d x) (first | (go_at_call 36; refine (layOut_any b l d x _ (by omega) (by omega) (by omega) (by omega) (by omega) (by omega)).mono ?_; rintro e w1 ⟨rfl, hb1⟩; obtain ⟨S1, hB1⟩ := geo_keep hb1; skip))
    all_goals go_wp2_with fail
    all_goals go_ret
    all_goals exact ⟨rfl, hB1⟩
  · rw [show errG b l d x = 40 from if_neg h0]
    by_cases h1 : l < 8
    · clear h0
      go_enter Try.func25, Try.ntmps25
      go_wp2_with fail
      go_ret
      exact ⟨rfl, (Below.refl _ w).alloc (Nat.le_refl _) _⟩
    by_cases h2 : 256 < l
    · clear h0
      go_enter Try.func25, Try.ntmps25
      go_wp2_with fail
      go_ret
      exact ⟨rfl, (Below.refl _ w).alloc (Nat.le_refl _) _⟩
    by_cases h3 : d < 1
    · clear h0
      go_enter Try.func25, Try.ntmps25
      go_wp2_with fail
      go_ret
      exact ⟨rfl, (Below.refl _ w).alloc (Nat.le_refl _) _⟩
    by_cases h4 : 64 < d
    · clear h0
      go_enter Try.func25, Try.ntmps25
      go_wp2_with fail
      go_ret
      exact ⟨rfl, (Below.refl _ w).alloc (Nat.le_refl _) _⟩
    by_cases h5 : x < 1
    · clear h0
      go_enter Try.func25, Try.ntmps25
      go_wp2_with fail
      go_ret
      exact ⟨rfl, (Below.refl _ w).alloc (Nat.le_refl _) _⟩
    by_cases h6 : 256 < x
    · clear h0
      go_enter Try.func25, Try.ntmps25
      go_wp2_with fail
      go_ret
      exact ⟨rfl, (Below.refl _ w).alloc (Nat.le_refl _) _⟩
    by_cases h7 : b < 3 + l + (x + 31) / 32 + (x + 63) / 64 + d + 4 * x
    · clear h0
      have hdec : decide (b < 3 + l + (x + 31) / 32 + (x + 63) / 64 + d + 4 * x) = true := decide_eq_true h7
      go_enter Try.func25, Try.ntmps25
      go_wp2_with fail
      first | go_region_law (go_simp; refine (layOut_any b l d x _ (by omega) (by omega) (by omega) (by omega) (by omega) (by omega)).mono ?_; rintro e w1 ⟨rfl, hb1⟩; obtain ⟨⟨S1, S2, S3, S4⟩, hB1⟩ := geo_keep hb1; skip) | fail
      all_goals go_wp2_with fail
      all_goals go_ret
      all_goals exact ⟨rfl, hB1⟩
    have h8 : 2048 < b := by unfold okG planB at h0; omega
    clear h0
    have hdec : decide (b < 3 + l + (x + 31) / 32 + (x + 63) / 64 + d + 4 * x) = false := decide_eq_false h7
    have hdec2 : decide (2048 < b) = true := decide_eq_true h8
    go_enter Try.func25, Try.ntmps25
    go_wp2_with fail
    go_region_held3 (fun w' => w'.cell? ⟨w.heap.size, 0, none⟩ = some (.int .i64 b) ∧ w'.cell? ⟨w.heap.size, 1, none⟩ = some (.int .i64 l) ∧ w'.cell? ⟨w.heap.size, 2, none⟩ = some (.int .i64 d) ∧ w'.cell? ⟨w.heap.size, 3, none⟩ = some (.int .i64 x)) (first | exact S1 | exact geo_new w b l d x) (first | (go_at_call 36; refine (layOut_any b l d x _ (by omega) (by omega) (by omega) (by omega) (by omega) (by omega)).mono ?_; rintro e w1 ⟨rfl, hb1⟩; obtain ⟨S1, hB1⟩ := geo_keep hb1; skip))
    all_goals go_wp2_with fail
    all_goals go_ret
    all_goals exact ⟨rfl, hB1⟩

set_option maxRecDepth 100000 in
set_option maxHeartbeats 400000 in
theorem refCheck_any (b l d x : Int) (w : World) (hb : -9223372036854775808 ≤ b) (hb2 : b ≤ 9223372036854775807) :
    Calls Try.prog 26 #[.agg #[.int .i64 b, .int .i64 l, .int .i64 d, .int .i64 x]] w fun e w' => e = .returned (.int .i64 (errG b l d x)) ∧ Below w.heap.size w w' := by
  have hfl := field61
  by_cases h0 : okG b l d x
  · rw [show errG b l d x = 0 from if_pos h0]
    obtain ⟨h1, h2, h3, h4, h5, h6, h7, h8⟩ := h0
    unfold planB at h7
    have hdec : decide (b < 3 + l + (x + 31) / 32 + (x + 63) / 64 + d + 4 * x) = false := decide_eq_false (by omega)
    have hdec2 : decide (2048 < b) = false := decide_eq_false (by omega)
    go_enter Try.func26, Try.ntmps26
    go_wp2_with fail
    go_region_held3 (fun w' => w'.cell? ⟨w.heap.size, 0, none⟩ = some (.int .i64 b) ∧ w'.cell? ⟨w.heap.size, 1, none⟩ = some (.int .i64 l) ∧ w'.cell? ⟨w.heap.size, 2, none⟩ = some (.int .i64 d) ∧ w'.cell? ⟨w.heap.size, 3, none⟩ = some (.int .i64 x)) (first | exact S1 | exact geo_new w b l d x) (first | (go_at_call 37; refine (refPlan_any b l d x _ (by omega) (by omega) (by omega) (by omega) (by omega) (by omega)).mono ?_; rintro e w1 ⟨rfl, hb1⟩; obtain ⟨S1, hB1⟩ := geo_keep hb1; skip))
    all_goals go_wp2_with fail
    all_goals go_ret
    all_goals exact ⟨rfl, hB1⟩
  · rw [show errG b l d x = 40 from if_neg h0]
    by_cases h1 : l < 8
    · clear h0
      go_enter Try.func26, Try.ntmps26
      go_wp2_with fail
      go_ret
      exact ⟨rfl, (Below.refl _ w).alloc (Nat.le_refl _) _⟩
    by_cases h2 : 256 < l
    · clear h0
      go_enter Try.func26, Try.ntmps26
      go_wp2_with fail
      go_ret
      exact ⟨rfl, (Below.refl _ w).alloc (Nat.le_refl _) _⟩
    by_cases h3 : d < 1
    · clear h0
      go_enter Try.func26, Try.ntmps26
      go_wp2_with fail
      go_ret
      exact ⟨rfl, (Below.refl _ w).alloc (Nat.le_refl _) _⟩
    by_cases h4 : 64 < d
    · clear h0
      go_enter Try.func26, Try.ntmps26
      go_wp2_with fail
      go_ret
      exact ⟨rfl, (Below.refl _ w).alloc (Nat.le_refl _) _⟩
    by_cases h5 : x < 1
    · clear h0
      go_enter Try.func26, Try.ntmps26
      go_wp2_with fail
      go_ret
      exact ⟨rfl, (Below.refl _ w).alloc (Nat.le_refl _) _⟩
    by_cases h6 : 256 < x
    · clear h0
      go_enter Try.func26, Try.ntmps26
      go_wp2_with fail
      go_ret
      exact ⟨rfl, (Below.refl _ w).alloc (Nat.le_refl _) _⟩
    by_cases h7 : b < 3 + l + (x + 31) / 32 + (x + 63) / 64 + d + 4 * x
    · clear h0
      have hdec : decide (b < 3 + l + (x + 31) / 32 + (x + 63) / 64 + d + 4 * x) = true := decide_eq_true h7
      go_enter Try.func26, Try.ntmps26
      go_wp2_with fail
      first | go_region_law (go_simp; refine (refPlan_any b l d x _ (by omega) (by omega) (by omega) (by omega) (by omega) (by omega)).mono ?_; rintro e w1 ⟨rfl, hb1⟩; obtain ⟨⟨S1, S2, S3, S4⟩, hB1⟩ := geo_keep hb1; skip) | fail
      all_goals go_wp2_with fail
      all_goals go_ret
      all_goals exact ⟨rfl, hB1⟩
    have h8 : 2048 < b := by unfold okG planB at h0; omega
    clear h0
    have hdec : decide (b < 3 + l + (x + 31) / 32 + (x + 63) / 64 + d + 4 * x) = false := decide_eq_false h7
    have hdec2 : decide (2048 < b) = true := decide_eq_true h8
    go_enter Try.func26, Try.ntmps26
    go_wp2_with fail
    go_region_held3 (fun w' => w'.cell? ⟨w.heap.size, 0, none⟩ = some (.int .i64 b) ∧ w'.cell? ⟨w.heap.size, 1, none⟩ = some (.int .i64 l) ∧ w'.cell? ⟨w.heap.size, 2, none⟩ = some (.int .i64 d) ∧ w'.cell? ⟨w.heap.size, 3, none⟩ = some (.int .i64 x)) (first | exact S1 | exact geo_new w b l d x) (first | (go_at_call 37; refine (refPlan_any b l d x _ (by omega) (by omega) (by omega) (by omega) (by omega) (by omega)).mono ?_; rintro e w1 ⟨rfl, hb1⟩; obtain ⟨S1, hB1⟩ := geo_keep hb1; skip))
    all_goals go_wp2_with fail
    all_goals go_ret
    all_goals exact ⟨rfl, hB1⟩


end Go.Proofs.Ytfjkmgfjlckmlaa
