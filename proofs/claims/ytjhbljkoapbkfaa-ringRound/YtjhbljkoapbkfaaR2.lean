/- Contracts: Check of a record, and the document's. -/
import Derived.Test.YtjhbljkoapbkfaaR1
set_option linter.unusedSimpArgs false
set_option linter.unusedVariables false
namespace Go.Proofs.Ytjhbljkoapbkfaa
open Go.RowKit Go.Attic

set_option maxRecDepth 100000 in
set_option maxHeartbeats 400000 in
theorem check_any (k b o m : Int) (n cap : Nat) (ao : Option Addr) (w : World) (hn : n ≤ 140737488355328) :
    Calls Try.prog 31 #[.agg #[.int .i64 k, .int .i64 b, .int .i64 o, .slice ao n cap, .int .i64 m]] w fun e w' => e = .returned (.int .i64 (chkR k b o m n)) ∧ Below w.heap.size w w' := by
  have Hs := RecAt.new w k b o (.slice ao n cap) m
  by_cases hp : okP k b o m n
  · have hc := fun w => isPatch_yes k b o m n cap ao w hn hp
    rw [chkR_ok (.inl hp)]
    clear hp
    go_enter Try.func31, Try.ntmps31
    go_wp2_with (go_at_call 48; refine (hc _).mono ?_; rintro e w1 ⟨rfl, hb1⟩)
    go_ret
    exact ⟨rfl, ((Below.refl _ w).alloc (Nat.le_refl _) _).trans (hb1.mono (by simp))⟩
  · have hc := fun w => isPatch_no k b o m n cap ao w hn hp
    by_cases hq : okC k b o m n
    · have hd := fun w => isCommit_yes k b o m n cap ao w hn hq
      rw [chkR_ok (.inr hq)]
      clear hp hq
      go_enter Try.func31, Try.ntmps31
      go_wp2_with (first | (go_at_call 48; refine (hc _).mono ?_; rintro e w1 ⟨rfl, hb1⟩; obtain ⟨c0, c1, c2, c3, c4, f0, f1, f2, f3, f4, lp⟩ := Hs.mono hb1; have B1 : Below w.heap.size w w1 := ((Below.refl _ w).alloc (Nat.le_refl _) _).trans (hb1.mono (by simp)); clear hb1) | (go_at_call 49; refine (hd _).mono ?_; rintro e w2 ⟨rfl, hb2⟩))
      go_ret
      exact ⟨rfl, B1.trans (hb2.mono B1.size)⟩
    · have hd := fun w => isCommit_no k b o m n cap ao w hn hq
      rw [chkR_no (fun h => h.elim hp hq)]
      clear hp hq
      go_enter Try.func31, Try.ntmps31
      go_wp2_with (first | (go_at_call 48; refine (hc _).mono ?_; rintro e w1 ⟨rfl, hb1⟩; obtain ⟨c0, c1, c2, c3, c4, f0, f1, f2, f3, f4, lp⟩ := Hs.mono hb1; have B1 : Below w.heap.size w w1 := ((Below.refl _ w).alloc (Nat.le_refl _) _).trans (hb1.mono (by simp)); clear hb1) | (go_at_call 49; refine (hd _).mono ?_; rintro e w2 ⟨rfl, hb2⟩))
      go_ret
      exact ⟨rfl, B1.trans (hb2.mono B1.size)⟩


end Go.Proofs.Ytjhbljkoapbkfaa
