/- Contracts: Check, First, Next, Slot of a super, and the document's. -/
import Derived.Test.YtfjkmgfjlckmlaaG1
set_option linter.unusedSimpArgs false
set_option linter.unusedVariables false
namespace Go.Proofs.Ytfjkmgfjlckmlaa
open Go.RowKit Go.Attic

/-- A super's cells in a block. -/
structure SupAt (w : World) (g : Nat) (a0 a1 a2 a3 a4 a5 : Int) : Prop where
  c0 : (w.cell? ⟨g, 0, none⟩ = some (.int .i64 a0))
  c1 : (w.cell? ⟨g, 1, none⟩ = some (.int .i64 a1))
  c2 : (w.cell? ⟨g, 2, none⟩ = some (.int .i64 a2))
  c3 : (w.cell? ⟨g, 3, none⟩ = some (.int .i64 a3))
  c4 : (w.cell? ⟨g, 4, none⟩ = some (.int .i64 a4))
  c5 : (w.cell? ⟨g, 5, none⟩ = some (.int .i64 a5))
  f0 : (w.frozen? ⟨g, 0, none⟩ = false)
  f1 : (w.frozen? ⟨g, 1, none⟩ = false)
  f2 : (w.frozen? ⟨g, 2, none⟩ = false)
  f3 : (w.frozen? ⟨g, 3, none⟩ = false)
  f4 : (w.frozen? ⟨g, 4, none⟩ = false)
  f5 : (w.frozen? ⟨g, 5, none⟩ = false)
  lt : g < w.heap.size

theorem SupAt.new (w : World) (a0 a1 a2 a3 a4 a5 : Int) : SupAt (w.alloc (.cells #[.int .i64 a0, .int .i64 a1, .int .i64 a2, .int .i64 a3, .int .i64 a4, .int .i64 a5] 25)) w.heap.size a0 a1 a2 a3 a4 a5 := by
  constructor <;> simp

theorem SupAt.below {w w' : World} {g B : Nat} {a0 a1 a2 a3 a4 a5 : Int} (h : SupAt w g a0 a1 a2 a3 a4 a5) (hb : Below B w w') (hB : g < B) : SupAt w' g a0 a1 a2 a3 a4 a5 := by
  refine ⟨?_, ?_, ?_, ?_, ?_, ?_, ?_, ?_, ?_, ?_, ?_, ?_, Nat.lt_of_lt_of_le h.lt hb.size⟩
  · rw [hb.cell (p := ⟨g, 0, none⟩) hB]; exact h.c0
  · rw [hb.cell (p := ⟨g, 1, none⟩) hB]; exact h.c1
  · rw [hb.cell (p := ⟨g, 2, none⟩) hB]; exact h.c2
  · rw [hb.cell (p := ⟨g, 3, none⟩) hB]; exact h.c3
  · rw [hb.cell (p := ⟨g, 4, none⟩) hB]; exact h.c4
  · rw [hb.cell (p := ⟨g, 5, none⟩) hB]; exact h.c5
  · rw [hb.frozen (p := ⟨g, 0, none⟩) hB]; exact h.f0
  · rw [hb.frozen (p := ⟨g, 1, none⟩) hB]; exact h.f1
  · rw [hb.frozen (p := ⟨g, 2, none⟩) hB]; exact h.f2
  · rw [hb.frozen (p := ⟨g, 3, none⟩) hB]; exact h.f3
  · rw [hb.frozen (p := ⟨g, 4, none⟩) hB]; exact h.f4
  · rw [hb.frozen (p := ⟨g, 5, none⟩) hB]; exact h.f5

theorem SupAt.mono {w w' : World} {g : Nat} {a0 a1 a2 a3 a4 a5 : Int} (h : SupAt w g a0 a1 a2 a3 a4 a5) (hb : Below w.heap.size w w') : SupAt w' g a0 a1 a2 a3 a4 a5 := h.below hb h.lt

theorem SupAt.alloc {w : World} {g : Nat} {a0 a1 a2 a3 a4 a5 : Int} (h : SupAt w g a0 a1 a2 a3 a4 a5) (o : Obj) : SupAt (w.alloc o) g a0 a1 a2 a3 a4 a5 := h.mono ((Below.refl _ _).alloc (Nat.le_refl _) o)

/-- Which supers may be. -/
def okS (ep b l d x h : Int) : Prop := okG b l d x ∧ 1 ≤ ep ∧ ep ≤ 1152921504606846976 ∧ 0 ≤ h ∧ h ≤ 1152921504606846976
def chkS (ep b l d x h : Int) : Int := if 8 ≤ l ∧ l ≤ 256 ∧ 1 ≤ d ∧ d ≤ 64 ∧ 1 ≤ x ∧ x ≤ 256 ∧ planB l d x ≤ b ∧ b ≤ 2048 then (if 1 ≤ ep ∧ ep ≤ 1152921504606846976 ∧ 0 ≤ h ∧ h ≤ 1152921504606846976 then 0 else 50) else 40
theorem chkS_ok {ep b l d x h : Int} (k : okS ep b l d x h) : chkS ep b l d x h = 0 := by
  exact (if_pos k.1).trans (if_pos k.2)
theorem chkS_cor {ep b l d x h : Int} (k : okG b l d x) (k2 : ¬ (1 ≤ ep ∧ ep ≤ 1152921504606846976 ∧ 0 ≤ h ∧ h ≤ 1152921504606846976)) : chkS ep b l d x h = 50 := by
  exact (if_pos k).trans (if_neg k2)
theorem chkS_geo {ep b l d x h : Int} (k : ¬ okG b l d x) : chkS ep b l d x h = 40 := by
  exact if_neg k
theorem chkS_zero {ep b l d x h : Int} (k : chkS ep b l d x h = 0) : okS ep b l d x h := by
  by_cases h1 : okG b l d x
  · by_cases h2 : 1 ≤ ep ∧ ep ≤ 1152921504606846976 ∧ 0 ≤ h ∧ h ≤ 1152921504606846976
    · exact ⟨h1, h2⟩
    · rw [chkS_cor h1 h2] at k; omega
  · rw [chkS_geo h1] at k; omega
theorem errG_ok {b l d x : Int} (k : okG b l d x) : errG b l d x = 0 := if_pos k
theorem errG_no {b l d x : Int} (k : ¬ okG b l d x) : errG b l d x = 40 := if_neg k
def slotS (ep : Int) : Int := if ep < 0 then 0 else ep % 2

set_option maxRecDepth 100000 in
set_option maxHeartbeats 400000 in
theorem check_sup (ep b l d x h : Int) (w : World) (kb : -9223372036854775808 ≤ b ∧ b ≤ 9223372036854775807) :
    Calls Try.prog 13 #[.agg #[.int .i64 ep, .int .i64 b, .int .i64 l, .int .i64 d, .int .i64 x, .int .i64 h]] w fun e w' => e = .returned (.int .i64 (chkS ep b l d x h)) ∧ Below w.heap.size w w' := by
  have hc := fun w => check_any b l d x w kb.1 kb.2
  have Hs := SupAt.new w ep b l d x h
  by_cases k : okG b l d x
  · rw [errG_ok k] at hc
    by_cases k2 : 1 ≤ ep ∧ ep ≤ 1152921504606846976 ∧ 0 ≤ h ∧ h ≤ 1152921504606846976
    · rw [chkS_ok ⟨k, k2⟩]
      obtain ⟨k3, k4, k5, k6⟩ := k2
      clear k kb
      go_enter Try.func13, Try.ntmps13
      go_wp2_with (go_at_call 25; refine (hc _).mono ?_; rintro e w1 ⟨rfl, hb1⟩; have hB1 : Below w.heap.size w w1 := ((Below.refl _ w).alloc (Nat.le_refl _) _).trans (hb1.mono (by simp)); obtain ⟨c0, c1, c2, c3, c4, c5, f0, f1, f2, f3, f4, f5, lp⟩ := Hs.mono hb1; clear hb1 Hs)
      go_ret
      exact ⟨rfl, hB1⟩
    · rw [chkS_cor k k2]
      clear k kb
      by_cases k3 : ep < 1
      · clear k2
        go_enter Try.func13, Try.ntmps13
        go_wp2_with (go_at_call 25; refine (hc _).mono ?_; rintro e w1 ⟨rfl, hb1⟩; have hB1 : Below w.heap.size w w1 := ((Below.refl _ w).alloc (Nat.le_refl _) _).trans (hb1.mono (by simp)); obtain ⟨c0, c1, c2, c3, c4, c5, f0, f1, f2, f3, f4, f5, lp⟩ := Hs.mono hb1; clear hb1 Hs)
        go_ret
        exact ⟨rfl, hB1⟩
      by_cases k4 : 1152921504606846976 < ep
      · clear k2
        go_enter Try.func13, Try.ntmps13
        go_wp2_with (go_at_call 25; refine (hc _).mono ?_; rintro e w1 ⟨rfl, hb1⟩; have hB1 : Below w.heap.size w w1 := ((Below.refl _ w).alloc (Nat.le_refl _) _).trans (hb1.mono (by simp)); obtain ⟨c0, c1, c2, c3, c4, c5, f0, f1, f2, f3, f4, f5, lp⟩ := Hs.mono hb1; clear hb1 Hs)
        go_ret
        exact ⟨rfl, hB1⟩
      by_cases k5 : h < 0
      · clear k2
        go_enter Try.func13, Try.ntmps13
        go_wp2_with (go_at_call 25; refine (hc _).mono ?_; rintro e w1 ⟨rfl, hb1⟩; have hB1 : Below w.heap.size w w1 := ((Below.refl _ w).alloc (Nat.le_refl _) _).trans (hb1.mono (by simp)); obtain ⟨c0, c1, c2, c3, c4, c5, f0, f1, f2, f3, f4, f5, lp⟩ := Hs.mono hb1; clear hb1 Hs)
        go_ret
        exact ⟨rfl, hB1⟩
      have k6 : 1152921504606846976 < h := by omega
      clear k2
      go_enter Try.func13, Try.ntmps13
      go_wp2_with (go_at_call 25; refine (hc _).mono ?_; rintro e w1 ⟨rfl, hb1⟩; have hB1 : Below w.heap.size w w1 := ((Below.refl _ w).alloc (Nat.le_refl _) _).trans (hb1.mono (by simp)); obtain ⟨c0, c1, c2, c3, c4, c5, f0, f1, f2, f3, f4, f5, lp⟩ := Hs.mono hb1; clear hb1 Hs)
      go_ret
      exact ⟨rfl, hB1⟩
  · rw [errG_no k] at hc
    rw [chkS_geo k]
    clear k kb
    go_enter Try.func13, Try.ntmps13
    go_wp2_with (go_at_call 25; refine (hc _).mono ?_; rintro e w1 ⟨rfl, hb1⟩; have hB1 : Below w.heap.size w w1 := ((Below.refl _ w).alloc (Nat.le_refl _) _).trans (hb1.mono (by simp)); obtain ⟨c0, c1, c2, c3, c4, c5, f0, f1, f2, f3, f4, f5, lp⟩ := Hs.mono hb1; clear hb1 Hs)
    go_ret
    exact ⟨rfl, hB1⟩

set_option maxRecDepth 100000 in
set_option maxHeartbeats 400000 in
theorem rcheck_sup (ep b l d x h : Int) (w : World) (kb : -9223372036854775808 ≤ b ∧ b ≤ 9223372036854775807) :
    Calls Try.prog 14 #[.agg #[.int .i64 ep, .int .i64 b, .int .i64 l, .int .i64 d, .int .i64 x, .int .i64 h]] w fun e w' => e = .returned (.int .i64 (chkS ep b l d x h)) ∧ Below w.heap.size w w' := by
  have hc := fun w => refCheck_any b l d x w kb.1 kb.2
  have Hs := SupAt.new w ep b l d x h
  by_cases k : okG b l d x
  · rw [errG_ok k] at hc
    by_cases k2 : 1 ≤ ep ∧ ep ≤ 1152921504606846976 ∧ 0 ≤ h ∧ h ≤ 1152921504606846976
    · rw [chkS_ok ⟨k, k2⟩]
      obtain ⟨k3, k4, k5, k6⟩ := k2
      clear k kb
      go_enter Try.func14, Try.ntmps14
      go_wp2_with (go_at_call 26; refine (hc _).mono ?_; rintro e w1 ⟨rfl, hb1⟩; have hB1 : Below w.heap.size w w1 := ((Below.refl _ w).alloc (Nat.le_refl _) _).trans (hb1.mono (by simp)); obtain ⟨c0, c1, c2, c3, c4, c5, f0, f1, f2, f3, f4, f5, lp⟩ := Hs.mono hb1; clear hb1 Hs)
      go_ret
      exact ⟨rfl, hB1⟩
    · rw [chkS_cor k k2]
      clear k kb
      by_cases k3 : ep < 1
      · clear k2
        go_enter Try.func14, Try.ntmps14
        go_wp2_with (go_at_call 26; refine (hc _).mono ?_; rintro e w1 ⟨rfl, hb1⟩; have hB1 : Below w.heap.size w w1 := ((Below.refl _ w).alloc (Nat.le_refl _) _).trans (hb1.mono (by simp)); obtain ⟨c0, c1, c2, c3, c4, c5, f0, f1, f2, f3, f4, f5, lp⟩ := Hs.mono hb1; clear hb1 Hs)
        go_ret
        exact ⟨rfl, hB1⟩
      by_cases k4 : 1152921504606846976 < ep
      · clear k2
        go_enter Try.func14, Try.ntmps14
        go_wp2_with (go_at_call 26; refine (hc _).mono ?_; rintro e w1 ⟨rfl, hb1⟩; have hB1 : Below w.heap.size w w1 := ((Below.refl _ w).alloc (Nat.le_refl _) _).trans (hb1.mono (by simp)); obtain ⟨c0, c1, c2, c3, c4, c5, f0, f1, f2, f3, f4, f5, lp⟩ := Hs.mono hb1; clear hb1 Hs)
        go_ret
        exact ⟨rfl, hB1⟩
      by_cases k5 : h < 0
      · clear k2
        go_enter Try.func14, Try.ntmps14
        go_wp2_with (go_at_call 26; refine (hc _).mono ?_; rintro e w1 ⟨rfl, hb1⟩; have hB1 : Below w.heap.size w w1 := ((Below.refl _ w).alloc (Nat.le_refl _) _).trans (hb1.mono (by simp)); obtain ⟨c0, c1, c2, c3, c4, c5, f0, f1, f2, f3, f4, f5, lp⟩ := Hs.mono hb1; clear hb1 Hs)
        go_ret
        exact ⟨rfl, hB1⟩
      have k6 : 1152921504606846976 < h := by omega
      clear k2
      go_enter Try.func14, Try.ntmps14
      go_wp2_with (go_at_call 26; refine (hc _).mono ?_; rintro e w1 ⟨rfl, hb1⟩; have hB1 : Below w.heap.size w w1 := ((Below.refl _ w).alloc (Nat.le_refl _) _).trans (hb1.mono (by simp)); obtain ⟨c0, c1, c2, c3, c4, c5, f0, f1, f2, f3, f4, f5, lp⟩ := Hs.mono hb1; clear hb1 Hs)
      go_ret
      exact ⟨rfl, hB1⟩
  · rw [errG_no k] at hc
    rw [chkS_geo k]
    clear k kb
    go_enter Try.func14, Try.ntmps14
    go_wp2_with (go_at_call 26; refine (hc _).mono ?_; rintro e w1 ⟨rfl, hb1⟩; have hB1 : Below w.heap.size w w1 := ((Below.refl _ w).alloc (Nat.le_refl _) _).trans (hb1.mono (by simp)); obtain ⟨c0, c1, c2, c3, c4, c5, f0, f1, f2, f3, f4, f5, lp⟩ := Hs.mono hb1; clear hb1 Hs)
    go_ret
    exact ⟨rfl, hB1⟩

set_option maxRecDepth 100000 in
set_option maxHeartbeats 400000 in
theorem slot_any (ep b l d x h : Int) (w : World) :
    Calls Try.prog 15 #[.agg #[.int .i64 ep, .int .i64 b, .int .i64 l, .int .i64 d, .int .i64 x, .int .i64 h]] w fun e w' => e = .returned (.int .i64 (slotS ep)) ∧ Below w.heap.size w w' := by
  by_cases k : ep < 0
  · rw [show slotS ep = 0 from if_pos k]
    go_enter Try.func15, Try.ntmps15
    go_wp2_with fail
    go_ret
    exact ⟨rfl, (Below.refl _ w).alloc (Nat.le_refl _) _⟩
  · rw [show slotS ep = ep % 2 from if_neg k]
    go_enter Try.func15, Try.ntmps15
    go_wp2_with fail
    go_ret
    exact ⟨rfl, (Below.refl _ w).alloc (Nat.le_refl _) _⟩

set_option maxRecDepth 100000 in
set_option maxHeartbeats 400000 in
theorem rslot_any (ep b l d x h : Int) (w : World) :
    Calls Try.prog 16 #[.agg #[.int .i64 ep, .int .i64 b, .int .i64 l, .int .i64 d, .int .i64 x, .int .i64 h]] w fun e w' => e = .returned (.int .i64 (slotS ep)) ∧ Below w.heap.size w w' := by
  by_cases k : ep < 0
  · rw [show slotS ep = 0 from if_pos k]
    go_enter Try.func16, Try.ntmps16
    go_wp2_with fail
    go_ret
    exact ⟨rfl, (Below.refl _ w).alloc (Nat.le_refl _) _⟩
  · rw [show slotS ep = ep % 2 from if_neg k]
    go_enter Try.func16, Try.ntmps16
    go_wp2_with fail
    go_ret
    exact ⟨rfl, (Below.refl _ w).alloc (Nat.le_refl _) _⟩

end Go.Proofs.Ytfjkmgfjlckmlaa
