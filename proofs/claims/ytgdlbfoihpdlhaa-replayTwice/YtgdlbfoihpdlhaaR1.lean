/- Contracts: isPlace, isPatch, isCommit, Check of a record, and the document's. -/
import Derived.Test.YtgdlbfoihpdlhaaC1
import Derived.BigQuiet
set_option linter.unusedSimpArgs false
set_option linter.unusedVariables false
namespace Go.Proofs.Ytgdlbfoihpdlhaa
open Go.RowKit Go.Attic

/-- A record's cells in a block. -/
structure RecAt (w : World) (g : Nat) (k b o : Int) (v : Value) (m : Int) : Prop where
  c0 : (w.cell? ⟨g, 0, none⟩ = some (.int .i64 k))
  c1 : (w.cell? ⟨g, 1, none⟩ = some (.int .i64 b))
  c2 : (w.cell? ⟨g, 2, none⟩ = some (.int .i64 o))
  c3 : (w.cell? ⟨g, 3, none⟩ = some v)
  c4 : (w.cell? ⟨g, 4, none⟩ = some (.int .i64 m))
  f0 : (w.frozen? ⟨g, 0, none⟩ = false)
  f1 : (w.frozen? ⟨g, 1, none⟩ = false)
  f2 : (w.frozen? ⟨g, 2, none⟩ = false)
  f3 : (w.frozen? ⟨g, 3, none⟩ = false)
  f4 : (w.frozen? ⟨g, 4, none⟩ = false)
  lt : g < w.heap.size

theorem RecAt.new (w : World) (k b o : Int) (v : Value) (m : Int) : RecAt (w.alloc (.cells #[.int .i64 k, .int .i64 b, .int .i64 o, v, .int .i64 m] 48)) w.heap.size k b o v m := by
  constructor <;> simp

theorem RecAt.keeps {S : Nat → Prop} {w w' : World} {g : Nat} {k b o : Int} {v : Value} {m : Int} (h : RecAt w g k b o v m) (hk : Keeps S w w') (hg : ¬ S g) : RecAt w' g k b o v m := by
  refine ⟨hk.cell h.c0 hg, hk.cell h.c1 hg, hk.cell h.c2 hg, hk.cell h.c3 hg, hk.cell h.c4 hg, ?_, ?_, ?_, ?_, ?_, Nat.lt_of_lt_of_le h.lt hk.size⟩
  · rw [hk.frozen (a := ⟨g, 0, none⟩) h.lt hg]; exact h.f0
  · rw [hk.frozen (a := ⟨g, 1, none⟩) h.lt hg]; exact h.f1
  · rw [hk.frozen (a := ⟨g, 2, none⟩) h.lt hg]; exact h.f2
  · rw [hk.frozen (a := ⟨g, 3, none⟩) h.lt hg]; exact h.f3
  · rw [hk.frozen (a := ⟨g, 4, none⟩) h.lt hg]; exact h.f4

theorem RecAt.mono {w w' : World} {g : Nat} {k b o : Int} {v : Value} {m : Int} (h : RecAt w g k b o v m) (hb : Below w.heap.size w w') : RecAt w' g k b o v m :=
  h.keeps (S := fun _ => False) (Keeps.of_below hb) id
theorem RecAt.alloc {w : World} {g : Nat} {k b o : Int} {v : Value} {m : Int} (h : RecAt w g k b o v m) (x : Obj) : RecAt (w.alloc x) g k b o v m := h.mono ((Below.refl _ _).alloc (Nat.le_refl _) x)

/-- Which records may be. -/
def okP (k b o m : Int) (n : Nat) : Prop := k = 1 ∧ 0 ≤ b ∧ b < 2048 ∧ 1 ≤ n ∧ n ≤ 44 ∧ 0 ≤ o ∧ o ≤ 256 - (n : Int) ∧ m = 0
def okC (k b o m : Int) (n : Nat) : Prop := k = 2 ∧ 0 ≤ m ∧ m ≤ 65536 ∧ b = 0 ∧ o = 0 ∧ n = 0
theorem okP_dec (k b o m : Int) (n : Nat) : okP k b o m n ∨ ¬ okP k b o m n := Classical.em _
def okR (k b o m : Int) (n : Nat) : Prop := okP k b o m n ∨ okC k b o m n
def chkR (k b o m : Int) (n : Nat) : Int := if (k = 1 ∧ 0 ≤ b ∧ b < 2048 ∧ 1 ≤ n ∧ n ≤ 44 ∧ 0 ≤ o ∧ o ≤ 256 - (n : Int) ∧ m = 0) ∨ (k = 2 ∧ 0 ≤ m ∧ m ≤ 65536 ∧ b = 0 ∧ o = 0 ∧ n = 0) then 0 else 60
theorem chkR_ok {k b o m : Int} {n : Nat} (h : okR k b o m n) : chkR k b o m n = 0 := if_pos h
theorem chkR_no {k b o m : Int} {n : Nat} (h : ¬ okR k b o m n) : chkR k b o m n = 60 := if_neg h
theorem chkR_zero {k b o m : Int} {n : Nat} (h : chkR k b o m n = 0) : okR k b o m n := by
  by_cases h1 : okR k b o m n
  · exact h1
  · rw [chkR_no h1] at h; omega

set_option maxRecDepth 100000 in
set_option maxHeartbeats 400000 in
theorem isPatch_yes (k b o m : Int) (n cap : Nat) (ao : Option Addr) (w : World) (hn : n ≤ 140737488355328) (h : okP k b o m n) :
    Calls Try.prog 41 #[.agg #[.int .i64 k, .int .i64 b, .int .i64 o, .slice ao n cap, .int .i64 m]] w fun e w' => e = .returned (.bool true) ∧ Below w.heap.size w w' := by
  obtain ⟨rfl, h1, h2, h3, h4, h5, h6, rfl⟩ := h
  go_enter Try.func41, Try.ntmps41
  go_wp2_with fail
  go_ret
  exact ⟨by simp <;> omega, (Below.refl _ w).alloc (Nat.le_refl _) _⟩

set_option maxRecDepth 100000 in
set_option maxHeartbeats 400000 in
theorem isPatch_no (k b o m : Int) (n cap : Nat) (ao : Option Addr) (w : World) (hn : n ≤ 140737488355328) (h : ¬ okP k b o m n) :
    Calls Try.prog 41 #[.agg #[.int .i64 k, .int .i64 b, .int .i64 o, .slice ao n cap, .int .i64 m]] w fun e w' => e = .returned (.bool false) ∧ Below w.heap.size w w' := by
  unfold okP at h
  by_cases h0 : k = 1
  case neg =>
    clear h
    have hq : (k == 1) = false := by simp [h0]
    go_enter Try.func41, Try.ntmps41
    go_wp2_with fail
    go_ret
    exact ⟨by simp <;> omega, (Below.refl _ w).alloc (Nat.le_refl _) _⟩
  subst h0
  by_cases h1 : 0 ≤ b
  case neg =>
    clear h
    have hq : b < 0 := by omega
    clear h1
    go_enter Try.func41, Try.ntmps41
    go_wp2_with fail
    go_ret
    exact ⟨by simp <;> omega, (Below.refl _ w).alloc (Nat.le_refl _) _⟩
  by_cases h2 : b < 2048
  case neg =>
    clear h
    have hq : 2048 ≤ b := by omega
    clear h2
    go_enter Try.func41, Try.ntmps41
    go_wp2_with fail
    go_ret
    exact ⟨by simp <;> omega, (Below.refl _ w).alloc (Nat.le_refl _) _⟩
  by_cases h3 : 1 ≤ n
  case neg =>
    clear h
    have hq : n < 1 := by omega
    clear h3
    go_enter Try.func41, Try.ntmps41
    go_wp2_with fail
    go_ret
    exact ⟨by simp <;> omega, (Below.refl _ w).alloc (Nat.le_refl _) _⟩
  by_cases h4 : n ≤ 44
  case neg =>
    clear h
    have hq : 44 < n := by omega
    clear h4
    go_enter Try.func41, Try.ntmps41
    go_wp2_with fail
    go_ret
    exact ⟨by simp <;> omega, (Below.refl _ w).alloc (Nat.le_refl _) _⟩
  by_cases h5 : 0 ≤ o
  case neg =>
    clear h
    have hq : o < 0 := by omega
    clear h5
    go_enter Try.func41, Try.ntmps41
    go_wp2_with fail
    go_ret
    exact ⟨by simp <;> omega, (Below.refl _ w).alloc (Nat.le_refl _) _⟩
  by_cases h6 : o ≤ 256 - (n : Int)
  case neg =>
    clear h
    have hq : 256 - (n : Int) < o := by omega
    clear h6
    go_enter Try.func41, Try.ntmps41
    go_wp2_with fail
    go_ret
    exact ⟨by simp <;> omega, (Below.refl _ w).alloc (Nat.le_refl _) _⟩
  by_cases h7 : m = 0
  case neg =>
    clear h
    have hq : (m == 0) = false := by simp [h7]
    go_enter Try.func41, Try.ntmps41
    go_wp2_with fail
    go_ret
    exact ⟨by simp <;> omega, (Below.refl _ w).alloc (Nat.le_refl _) _⟩
  subst h7
  exact absurd ⟨rfl, h1, h2, h3, h4, h5, h6, rfl⟩ h

set_option maxRecDepth 100000 in
set_option maxHeartbeats 400000 in
theorem isCommit_yes (k b o m : Int) (n cap : Nat) (ao : Option Addr) (w : World) (hn : n ≤ 140737488355328) (h : okC k b o m n) :
    Calls Try.prog 42 #[.agg #[.int .i64 k, .int .i64 b, .int .i64 o, .slice ao n cap, .int .i64 m]] w fun e w' => e = .returned (.bool true) ∧ Below w.heap.size w w' := by
  obtain ⟨rfl, h1, h2, rfl, rfl, rfl⟩ := h
  go_enter Try.func42, Try.ntmps42
  go_wp2_with fail
  go_ret
  exact ⟨by simp <;> omega, (Below.refl _ w).alloc (Nat.le_refl _) _⟩

set_option maxRecDepth 100000 in
set_option maxHeartbeats 400000 in
theorem isCommit_no (k b o m : Int) (n cap : Nat) (ao : Option Addr) (w : World) (hn : n ≤ 140737488355328) (h : ¬ okC k b o m n) :
    Calls Try.prog 42 #[.agg #[.int .i64 k, .int .i64 b, .int .i64 o, .slice ao n cap, .int .i64 m]] w fun e w' => e = .returned (.bool false) ∧ Below w.heap.size w w' := by
  unfold okC at h
  by_cases h0 : k = 2
  case neg =>
    clear h
    have hq : (k == 2) = false := by simp [h0]
    go_enter Try.func42, Try.ntmps42
    go_wp2_with fail
    go_ret
    exact ⟨by simp <;> omega, (Below.refl _ w).alloc (Nat.le_refl _) _⟩
  subst h0
  by_cases h1 : 0 ≤ m
  case neg =>
    clear h
    have hq : m < 0 := by omega
    clear h1
    go_enter Try.func42, Try.ntmps42
    go_wp2_with fail
    go_ret
    exact ⟨by simp <;> omega, (Below.refl _ w).alloc (Nat.le_refl _) _⟩
  by_cases h2 : m ≤ 65536
  case neg =>
    clear h
    have hq : 65536 < m := by omega
    clear h2
    go_enter Try.func42, Try.ntmps42
    go_wp2_with fail
    go_ret
    exact ⟨by simp <;> omega, (Below.refl _ w).alloc (Nat.le_refl _) _⟩
  by_cases h3 : b = 0
  case neg =>
    clear h
    have hq : (b == 0) = false := by simp [h3]
    go_enter Try.func42, Try.ntmps42
    go_wp2_with fail
    go_ret
    exact ⟨by simp <;> omega, (Below.refl _ w).alloc (Nat.le_refl _) _⟩
  subst h3
  by_cases h4 : o = 0
  case neg =>
    clear h
    have hq : (o == 0) = false := by simp [h4]
    go_enter Try.func42, Try.ntmps42
    go_wp2_with fail
    go_ret
    exact ⟨by simp <;> omega, (Below.refl _ w).alloc (Nat.le_refl _) _⟩
  subst h4
  by_cases h5 : n = 0
  case neg =>
    clear h
    have hq : 0 < n := by omega
    clear h5
    go_enter Try.func42, Try.ntmps42
    go_wp2_with fail
    go_ret
    exact ⟨by simp <;> omega, (Below.refl _ w).alloc (Nat.le_refl _) _⟩
  exact absurd ⟨rfl, h1, h2, rfl, rfl, h5⟩ h



end Go.Proofs.Ytgdlbfoihpdlhaa
