/- Contracts of the plan: blocksOf, layOut, and the document's plan. -/
import Derived.Test.YtecbcjdihnbdhaaRows
import Derived.Test.YtecbcjdihnbdhaaBytes
import Derived.BigQuiet
import Derived.Deep.RegionLaw
import Derived.Deep.RegionHeld3
import Derived.Deep.Draws
import Derived.Laws.StructEq
set_option linter.unusedSimpArgs false
set_option linter.unusedVariables false
namespace Go.Proofs.Ytecbcjdihnbdhaa
open Go.RowKit Go.Attic

theorem Try.own : ownKnob Try.prog.godebug = none := by kernel_rfl
theorem Try.laidOut : laidOutB Try.prog = true := by kernel_rfl

theorem ret_int {k : IntKind} {a b : Int} (h : a = b) : Ending.returned (.int k a) = .returned (.int k b) := by rw [h]
theorem ret_bool {a b : Bool} (h : a = b) : Ending.returned (.bool a) = .returned (.bool b) := by rw [h]


set_option maxHeartbeats 400000 in
theorem blocksOf_any (n : Int) (w : World) (h0 : 0 ≤ n) (h1 : n ≤ 65536) : Calls Try.prog 37 #[.int .i64 n] w fun e w' => e = .returned (.int .i64 ((n + 255) / 256)) ∧ w = w' := by
  go_enter Try.func37, Try.ntmps37
  go_wp2
  go_ret
  exact ⟨ret_int (by omega), rfl⟩

set_option maxRecDepth 100000 in
set_option maxHeartbeats 400000 in
theorem refPlan_any (b l d x : Int) (w : World) (hl0 : 8 ≤ l) (hl1 : l ≤ 256) (hd0 : 1 ≤ d) (hd1 : d ≤ 64) (hx0 : 1 ≤ x) (hx1 : x ≤ 256) :
    Calls Try.prog 29 #[.agg #[.int .i64 b, .int .i64 l, .int .i64 d, .int .i64 x]] w fun e w' => e = .returned (.agg #[.int .i64 3, .int .i64 (3 + l), .int .i64 (3 + l + (x + 31) / 32), .int .i64 (3 + l + (x + 31) / 32 + (x + 63) / 64), .int .i64 (3 + l + (x + 31) / 32 + (x + 63) / 64 + d), .int .i64 (3 + l + (x + 31) / 32 + (x + 63) / 64 + d + 4 * x)]) ∧ Below w.heap.size w w' := by
  go_enter Try.func29, Try.ntmps29
  go_wp2_with fail
  refine bodyPost_ret (v := .agg #[.int .i64 3, .int .i64 (3 + l), .int .i64 (3 + l + (x + 31) / 32), .int .i64 (3 + l + (x + 31) / 32 + (x + 63) / 64), .int .i64 (3 + l + (x + 31) / 32 + (x + 63) / 64 + d), .int .i64 (3 + l + (x + 31) / 32 + (x + 63) / 64 + d + 4 * x)]) (by simp [results, Try.results29, go_sem]) rfl ⟨rfl, ?_⟩
  exact ((Below.refl _ w).alloc (Nat.le_refl _) _).alloc (by simp) _

theorem tab_eq (x : Int) (h : 1 ≤ x) : (x * 8 + 255) / 256 = (x + 31) / 32 := by omega
theorem mar_eq (x : Int) (h : 1 ≤ x) : (x * 4 + 255) / 256 = (x + 63) / 64 := by omega

set_option maxRecDepth 100000 in
set_option maxHeartbeats 400000 in
theorem layOut_any (b l d x : Int) (w : World) (hl0 : 8 ≤ l) (hl1 : l ≤ 256) (hd0 : 1 ≤ d) (hd1 : d ≤ 64) (hx0 : 1 ≤ x) (hx1 : x ≤ 256) :
    Calls Try.prog 28 #[.agg #[.int .i64 b, .int .i64 l, .int .i64 d, .int .i64 x]] w fun e w' => e = .returned (.agg #[.int .i64 3, .int .i64 (3 + l), .int .i64 (3 + l + (x + 31) / 32), .int .i64 (3 + l + (x + 31) / 32 + (x + 63) / 64), .int .i64 (3 + l + (x + 31) / 32 + (x + 63) / 64 + d), .int .i64 (3 + l + (x + 31) / 32 + (x + 63) / 64 + d + 4 * x)]) ∧ Below w.heap.size w w' := by
  have hq1 := tab_eq x hx0
  have hq2 := mar_eq x hx0
  have hz1 : (x + 31) / 32 ≤ 8 := by omega
  have hz2 : (x + 63) / 64 ≤ 4 := by omega
  have hz3 : 0 ≤ (x + 31) / 32 := by omega
  have hz4 : 0 ≤ (x + 63) / 64 := by omega
  have hw1 : IntKind.i64.wrap (x * 8) = x * 8 := by rw [IntKind.wrap_i64]; omega
  have hw2 : IntKind.i64.wrap (x * 4) = x * 4 := by rw [IntKind.wrap_i64]; omega
  have hw3 : IntKind.i64.wrap (3 + l + (x + 31) / 32) = 3 + l + (x + 31) / 32 := by rw [IntKind.wrap_i64]; omega
  have hw4 : IntKind.i64.wrap (3 + l + (x + 31) / 32 + (x + 63) / 64) = 3 + l + (x + 31) / 32 + (x + 63) / 64 := by rw [IntKind.wrap_i64]; omega
  have hc : x * 4 = 4 * x := by omega
  have b8 := fun w => blocksOf_any (x * 8) w (by omega) (by omega)
  have b4 := fun w => blocksOf_any (x * 4) w (by omega) (by omega)
  rw [hq1] at b8
  rw [hq2] at b4
  have Hc := hide hc
  clear hc hq1 hq2
  go_enter Try.func28, Try.ntmps28
  go_wp2_with fail
  go_region_law (go_simp; refine (b8 _).mono ?_; rintro e w' ⟨rfl, rfl⟩)
  all_goals go_wp2_with fail
  all_goals go_region_law (go_simp; refine (b4 _).mono ?_; rintro e w' ⟨rfl, rfl⟩)
  all_goals go_wp2_with fail
  all_goals rw [← Hc.out]
  all_goals refine bodyPost_ret (v := .agg #[.int .i64 3, .int .i64 (3 + l), .int .i64 (3 + l + (x + 31) / 32), .int .i64 (3 + l + (x + 31) / 32 + (x + 63) / 64), .int .i64 (3 + l + (x + 31) / 32 + (x + 63) / 64 + d), .int .i64 (3 + l + (x + 31) / 32 + (x + 63) / 64 + d + x * 4)]) (by simp [results, Try.results28, go_sem]) rfl ⟨rfl, ?_⟩
  all_goals exact ((((Below.refl _ w).alloc (Nat.le_refl _) _).alloc (by simp) _).alloc (by simp; omega) _).drew.drew

def planB (l d x : Int) : Int := 3 + l + (x + 31) / 32 + (x + 63) / 64 + d + 4 * x
def okG (b l d x : Int) : Prop := 8 ≤ l ∧ l ≤ 256 ∧ 1 ≤ d ∧ d ≤ 64 ∧ 1 ≤ x ∧ x ≤ 256 ∧ planB l d x ≤ b ∧ b ≤ 2048
def errG (b l d x : Int) : Int := if 8 ≤ l ∧ l ≤ 256 ∧ 1 ≤ d ∧ d ≤ 64 ∧ 1 ≤ x ∧ x ≤ 256 ∧ planB l d x ≤ b ∧ b ≤ 2048 then 0 else 40

end Go.Proofs.Ytecbcjdihnbdhaa
