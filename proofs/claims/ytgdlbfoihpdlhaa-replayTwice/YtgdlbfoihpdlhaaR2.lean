/- Contracts: Check of a record, and the document's. -/
import Derived.Test.YtgdlbfoihpdlhaaR1
set_option linter.unusedSimpArgs false
set_option linter.unusedVariables false
namespace Go.Proofs.Ytgdlbfoihpdlhaa
open Go.RowKit Go.Attic

set_option maxRecDepth 100000 in
set_option maxHeartbeats 400000 in
theorem check_any (k b o m : Int) (n cap : Nat) (ao : Option Addr) (w : World) (hn : n ≤ 140737488355328) :
    Calls Try.prog 29 #[.agg #[.int .i64 k, .int .i64 b, .int .i64 o, .slice ao n cap, .int .i64 m]] w fun e w' => e = .returned (.int .i64 (chkR k b o m n)) ∧ Below w.heap.size w w' := by
  have Hs := RecAt.new w k b o (.slice ao n cap) m
  by_cases hp : okP k b o m n
  · have hc := fun w => isPatch_yes k b o m n cap ao w hn hp
    rw [chkR_ok (.inl hp)]
    clear hp
    go_enter Try.func29, Try.ntmps29
    go_wp2_with (go_at_call 41; refine (hc _).mono ?_; rintro e w1 ⟨rfl, hb1⟩)
    go_ret
    exact ⟨rfl, ((Below.refl _ w).alloc (Nat.le_refl _) _).trans (hb1.mono (by simp))⟩
  · have hc := fun w => isPatch_no k b o m n cap ao w hn hp
    by_cases hq : okC k b o m n
    · have hd := fun w => isCommit_yes k b o m n cap ao w hn hq
      rw [chkR_ok (.inr hq)]
      clear hp hq
      go_enter Try.func29, Try.ntmps29
      go_wp2_with (first | (go_at_call 41; refine (hc _).mono ?_; rintro e w1 ⟨rfl, hb1⟩; obtain ⟨c0, c1, c2, c3, c4, f0, f1, f2, f3, f4, lp⟩ := Hs.mono hb1; have B1 : Below w.heap.size w w1 := ((Below.refl _ w).alloc (Nat.le_refl _) _).trans (hb1.mono (by simp)); clear hb1) | (go_at_call 42; refine (hd _).mono ?_; rintro e w2 ⟨rfl, hb2⟩))
      go_ret
      exact ⟨rfl, B1.trans (hb2.mono B1.size)⟩
    · have hd := fun w => isCommit_no k b o m n cap ao w hn hq
      rw [chkR_no (fun h => h.elim hp hq)]
      clear hp hq
      go_enter Try.func29, Try.ntmps29
      go_wp2_with (first | (go_at_call 41; refine (hc _).mono ?_; rintro e w1 ⟨rfl, hb1⟩; obtain ⟨c0, c1, c2, c3, c4, f0, f1, f2, f3, f4, lp⟩ := Hs.mono hb1; have B1 : Below w.heap.size w w1 := ((Below.refl _ w).alloc (Nat.le_refl _) _).trans (hb1.mono (by simp)); clear hb1) | (go_at_call 42; refine (hd _).mono ?_; rintro e w2 ⟨rfl, hb2⟩))
      go_ret
      exact ⟨rfl, B1.trans (hb2.mono B1.size)⟩

set_option maxRecDepth 100000 in
set_option maxHeartbeats 400000 in
theorem rcheck_yesP (k b o m : Int) (n cap : Nat) (ao : Option Addr) (w : World) (hn : n ≤ 140737488355328) (h : okP k b o m n) :
    Calls Try.prog 25 #[.agg #[.int .i64 k, .int .i64 b, .int .i64 o, .slice ao n cap, .int .i64 m]] w fun e w' => e = .returned (.int .i64 0) ∧ Below w.heap.size w w' := by
  obtain ⟨rfl, h1, h2, h3, h4, h5, h6, rfl⟩ := h
  go_enter Try.func25, Try.ntmps25
  go_wp2_with fail
  go_ret
  exact ⟨by simp <;> omega, (Below.refl _ w).alloc (Nat.le_refl _) _⟩

set_option maxRecDepth 100000 in
set_option maxHeartbeats 400000 in
theorem rcheck_yesC (k b o m : Int) (n cap : Nat) (ao : Option Addr) (w : World) (hn : n ≤ 140737488355328) (h : okC k b o m n) :
    Calls Try.prog 25 #[.agg #[.int .i64 k, .int .i64 b, .int .i64 o, .slice ao n cap, .int .i64 m]] w fun e w' => e = .returned (.int .i64 0) ∧ Below w.heap.size w w' := by
  obtain ⟨rfl, h1, h2, rfl, rfl, rfl⟩ := h
  go_enter Try.func25, Try.ntmps25
  go_wp2_with fail
  go_ret
  exact ⟨by simp <;> omega, (Below.refl _ w).alloc (Nat.le_refl _) _⟩

set_option maxRecDepth 100000 in
set_option maxHeartbeats 400000 in
theorem rcheck_noP (k b o m : Int) (n cap : Nat) (ao : Option Addr) (w : World) (hn : n ≤ 140737488355328) (h : ¬ okP k b o m n) (hk : k = 1) :
    Calls Try.prog 25 #[.agg #[.int .i64 k, .int .i64 b, .int .i64 o, .slice ao n cap, .int .i64 m]] w fun e w' => e = .returned (.int .i64 60) ∧ Below w.heap.size w w' := by
  unfold okP at h
  subst hk
  by_cases h1 : 0 ≤ b
  case neg =>
    clear h
    have hq : b < 0 := by omega
    clear h1
    go_enter Try.func25, Try.ntmps25
    go_wp2_with fail
    go_ret
    exact ⟨by simp <;> omega, (Below.refl _ w).alloc (Nat.le_refl _) _⟩
  by_cases h2 : b < 2048
  case neg =>
    clear h
    have hq : 2048 ≤ b := by omega
    clear h2
    go_enter Try.func25, Try.ntmps25
    go_wp2_with fail
    go_ret
    exact ⟨by simp <;> omega, (Below.refl _ w).alloc (Nat.le_refl _) _⟩
  by_cases h3 : 1 ≤ n
  case neg =>
    clear h
    have hq : n < 1 := by omega
    clear h3
    go_enter Try.func25, Try.ntmps25
    go_wp2_with fail
    go_ret
    exact ⟨by simp <;> omega, (Below.refl _ w).alloc (Nat.le_refl _) _⟩
  by_cases h4 : n ≤ 44
  case neg =>
    clear h
    have hq : 44 < n := by omega
    clear h4
    go_enter Try.func25, Try.ntmps25
    go_wp2_with fail
    go_ret
    exact ⟨by simp <;> omega, (Below.refl _ w).alloc (Nat.le_refl _) _⟩
  by_cases h5 : 0 ≤ o
  case neg =>
    clear h
    have hq : o < 0 := by omega
    clear h5
    go_enter Try.func25, Try.ntmps25
    go_wp2_with fail
    go_ret
    exact ⟨by simp <;> omega, (Below.refl _ w).alloc (Nat.le_refl _) _⟩
  by_cases h6 : o ≤ 256 - (n : Int)
  case neg =>
    clear h
    have hq : 256 - (n : Int) < o := by omega
    clear h6
    go_enter Try.func25, Try.ntmps25
    go_wp2_with fail
    go_ret
    exact ⟨by simp <;> omega, (Below.refl _ w).alloc (Nat.le_refl _) _⟩
  by_cases h7 : m = 0
  case neg =>
    clear h
    have hq : (m == 0) = false := by simp [h7]
    go_enter Try.func25, Try.ntmps25
    go_wp2_with fail
    go_ret
    exact ⟨by simp <;> omega, (Below.refl _ w).alloc (Nat.le_refl _) _⟩
  subst h7
  exact absurd ⟨rfl, h1, h2, h3, h4, h5, h6, rfl⟩ h

set_option maxRecDepth 100000 in
set_option maxHeartbeats 400000 in
theorem rcheck_noC (k b o m : Int) (n cap : Nat) (ao : Option Addr) (w : World) (hn : n ≤ 140737488355328) (h : ¬ okC k b o m n) (hk : k = 2) :
    Calls Try.prog 25 #[.agg #[.int .i64 k, .int .i64 b, .int .i64 o, .slice ao n cap, .int .i64 m]] w fun e w' => e = .returned (.int .i64 60) ∧ Below w.heap.size w w' := by
  unfold okC at h
  subst hk
  by_cases h1 : 0 ≤ m
  case neg =>
    clear h
    have hq : m < 0 := by omega
    clear h1
    go_enter Try.func25, Try.ntmps25
    go_wp2_with fail
    go_ret
    exact ⟨by simp <;> omega, (Below.refl _ w).alloc (Nat.le_refl _) _⟩
  by_cases h2 : m ≤ 65536
  case neg =>
    clear h
    have hq : 65536 < m := by omega
    clear h2
    go_enter Try.func25, Try.ntmps25
    go_wp2_with fail
    go_ret
    exact ⟨by simp <;> omega, (Below.refl _ w).alloc (Nat.le_refl _) _⟩
  by_cases h3 : b = 0
  case neg =>
    clear h
    have hq : (b == 0) = false := by simp [h3]
    go_enter Try.func25, Try.ntmps25
    go_wp2_with fail
    go_ret
    exact ⟨by simp <;> omega, (Below.refl _ w).alloc (Nat.le_refl _) _⟩
  subst h3
  by_cases h4 : o = 0
  case neg =>
    clear h
    have hq : (o == 0) = false := by simp [h4]
    go_enter Try.func25, Try.ntmps25
    go_wp2_with fail
    go_ret
    exact ⟨by simp <;> omega, (Below.refl _ w).alloc (Nat.le_refl _) _⟩
  subst h4
  by_cases h5 : n = 0
  case neg =>
    clear h
    have hq : 0 < n := by omega
    clear h5
    go_enter Try.func25, Try.ntmps25
    go_wp2_with fail
    go_ret
    exact ⟨by simp <;> omega, (Below.refl _ w).alloc (Nat.le_refl _) _⟩
  exact absurd ⟨rfl, h1, h2, rfl, rfl, h5⟩ h

set_option maxRecDepth 100000 in
set_option maxHeartbeats 400000 in
theorem rcheck_no (k b o m : Int) (n cap : Nat) (ao : Option Addr) (w : World) (hn : n ≤ 140737488355328) (h1 : (k == 1) = false) (h2 : (k == 2) = false) :
    Calls Try.prog 25 #[.agg #[.int .i64 k, .int .i64 b, .int .i64 o, .slice ao n cap, .int .i64 m]] w fun e w' => e = .returned (.int .i64 60) ∧ Below w.heap.size w w' := by
  go_enter Try.func25, Try.ntmps25
  go_wp2_with fail
  go_ret
  exact ⟨by simp <;> omega, (Below.refl _ w).alloc (Nat.le_refl _) _⟩

theorem rcheck_any (k b o m : Int) (n cap : Nat) (ao : Option Addr) (w : World) (hn : n ≤ 140737488355328) :
    Calls Try.prog 25 #[.agg #[.int .i64 k, .int .i64 b, .int .i64 o, .slice ao n cap, .int .i64 m]] w fun e w' => e = .returned (.int .i64 (chkR k b o m n)) ∧ Below w.heap.size w w' := by
  by_cases hp : okP k b o m n
  · rw [chkR_ok (.inl hp)]; exact rcheck_yesP k b o m n cap ao w hn hp
  · by_cases hq : okC k b o m n
    · rw [chkR_ok (.inr hq)]; exact rcheck_yesC k b o m n cap ao w hn hq
    · rw [chkR_no (fun h => h.elim hp hq)]
      by_cases h1 : k = 1
      · exact rcheck_noP k b o m n cap ao w hn hp h1
      · by_cases h2 : k = 2
        · exact rcheck_noC k b o m n cap ao w hn hq h2
        · exact rcheck_no k b o m n cap ao w hn (by simp [h1]) (by simp [h2])

end Go.Proofs.Ytgdlbfoihpdlhaa
