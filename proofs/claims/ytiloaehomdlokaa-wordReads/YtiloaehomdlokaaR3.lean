/- Contracts of the reader: Uvar; and of a reader that no call made. -/
import Derived.Test.YtiloaehomdlokaaR2
import Derived.Test.YtiloaehomdlokaaBackPure
set_option linter.unusedSimpArgs false
set_option linter.unusedVariables false
namespace Go.Proofs.Ytiloaehomdlokaa
open Go.RowKit Go.Attic

theorem takeN_le (l : List Nat) {y m : Nat} (h : takeN l = (y, m, 0)) : m ≤ l.length := by
  obtain ⟨j, hj9, hjl, rfl, _⟩ := takeA_ok l 10 0 (by omega) (fun j hj => by omega) h
  omega

set_option maxRecDepth 100000 in
set_option maxHeartbeats 400000 in
theorem rdUvar_any {w : World} {g : Nat} {d : Option Nat} {l : List Nat} {x : Int} (h : Rd w g d l x) (hlen : l.length ≤ 140737488355328) :
    Calls Try.prog 33 #[.pointer (some ⟨g, 0, none⟩)] w fun e w' => e = .returned (.int .u64 ((uvarS l x).1 : Nat)) ∧ Then w g d (uvarS l x).2.1 (uvarS l x).2.2 w' := by
  by_cases hx : x = 0
  · subst hx
    obtain ⟨ao, cap, c0, hbs, hd⟩ := h.ex
    obtain ⟨y, m, er, hr⟩ : ∃ y m er, takeN l = (y, m, er) := ⟨_, _, _, rfl⟩
    have ht := take_any _ l _ hbs hlen
    rw [hr] at ht
    have Ht := hide ht
    clear ht
    by_cases her : er = 0
    · subst her
      have e : uvarS l 0 = (y, l.drop m, 0) := by simp [uvarS, hr]
      have hm := takeN_le l hr
      rw [e]; clear e hr
      go_enter Try.func33, Try.ntmps33
      go_wp2_with fail
      refine (reads_yes h).mono ?_
      rintro e w' ⟨rfl, rfl⟩
      go_wp2_with fail
      refine (Ht.out).mono ?_
      rintro e w' ⟨rfl, rfl⟩
      simp only [takeE]
      go_wp2_with fail
      refine (skip_yes h hm).mono ?_
      rintro e w1 ⟨rfl, h1, hg1⟩
      go_wp2
      go_ret
      exact ⟨rfl, h1, hg1⟩
    · have e : uvarS l 0 = (0, l, er) := by simp [uvarS, hr, her]
      rw [e]; clear e hr
      have her' : (er != 0) = true := by simp [her]
      clear her
      go_enter Try.func33, Try.ntmps33
      go_wp2_with fail
      refine (reads_yes h).mono ?_
      rintro e w' ⟨rfl, rfl⟩
      go_wp2_with fail
      refine (Ht.out).mono ?_
      rintro e w' ⟨rfl, rfl⟩
      simp only [takeE]
      go_wp2_with fail
      refine (fail_yes h).mono ?_
      rintro e w1 ⟨rfl, h1, hg1⟩
      go_wp2
      go_ret
      exact ⟨rfl, h1, hg1⟩
  · have e : uvarS l x = (0, l, x) := by simp [uvarS, hx]
    rw [e]; clear e
    have hx' : (x == 0) = false := by simp [hx]
    clear hx
    go_enter Try.func33, Try.ntmps33
    go_wp2_with fail
    refine (reads_yes h).mono ?_
    rintro e w' ⟨rfl, rfl⟩
    go_wp2
    go_ret
    exact ⟨rfl, h, World.grownBy.refl _ _⟩

/-- A reader that no call made: nil, or a zero struct. -/
def NoRd (w : World) (v : Value) : Prop := v = .pointer none ∨ ∃ g, v = .pointer (some ⟨g, 0, none⟩) ∧ w.cell? ⟨g, 2, none⟩ = some (.bool false)

set_option maxRecDepth 100000 in
set_option maxHeartbeats 400000 in
theorem isMade_no {w : World} {v : Value} (h : NoRd w v) : Calls Try.prog 47 #[v] w fun e w' => e = .returned (.bool false) ∧ w = w' := by
  rcases h with rfl | ⟨g, rfl, c2⟩
  · go_enter Try.func47, Try.ntmps47
    go_wp2
    go_ret
    exact ⟨by simp, rfl⟩
  · go_enter Try.func47, Try.ntmps47
    go_wp2
    go_ret
    exact ⟨by simp, rfl⟩

set_option maxRecDepth 100000 in
set_option maxHeartbeats 400000 in
theorem err_no {w : World} {v : Value} (h : NoRd w v) : Calls Try.prog 35 #[v] w fun e w' => e = .returned (.int .i64 2) ∧ w = w' := by
  go_enter Try.func35, Try.ntmps35
  go_wp2_with fail
  refine (isMade_no h).mono ?_
  rintro e w' ⟨rfl, rfl⟩
  go_wp2
  go_ret
  exact ⟨by simp, rfl⟩

set_option maxRecDepth 100000 in
set_option maxHeartbeats 400000 in
theorem reads_no {w : World} {v : Value} (h : NoRd w v) : Calls Try.prog 44 #[v] w fun e w' => e = .returned (.bool false) ∧ w = w' := by
  go_enter Try.func44, Try.ntmps44
  go_wp2_with fail
  refine (err_no h).mono ?_
  rintro e w' ⟨rfl, rfl⟩
  go_wp2
  go_ret
  exact ⟨by simp, rfl⟩

set_option maxRecDepth 100000 in
set_option maxHeartbeats 400000 in
theorem rest_no {w : World} {v : Value} (h : NoRd w v) : Calls Try.prog 36 #[v] w fun e w' => e = .returned (.int .i64 0) ∧ w = w' := by
  go_enter Try.func36, Try.ntmps36
  go_wp2_with fail
  refine (isMade_no h).mono ?_
  rintro e w' ⟨rfl, rfl⟩
  go_wp2
  go_ret
  exact ⟨by simp, rfl⟩

set_option maxRecDepth 100000 in
set_option maxHeartbeats 400000 in
theorem end_no {w : World} {v : Value} (h : NoRd w v) : Calls Try.prog 37 #[v] w fun e w' => e = .returned (.int .i64 2) ∧ w = w' := by
  go_enter Try.func37, Try.ntmps37
  go_wp2_with fail
  refine (err_no h).mono ?_
  rintro e w' ⟨rfl, rfl⟩
  go_wp2
  go_ret
  exact ⟨by simp, rfl⟩

set_option maxRecDepth 100000 in
set_option maxHeartbeats 400000 in
theorem rdNum_no {w : World} {v : Value} (n : Int) (h : NoRd w v) : Calls Try.prog 29 #[v, .int .i64 n] w fun e w' => e = .returned (.int .u64 0) ∧ w = w' := by
  go_enter Try.func29, Try.ntmps29
  go_wp2_with fail
  refine (reads_no h).mono ?_
  rintro e w' ⟨rfl, rfl⟩
  go_wp2
  go_ret
  exact ⟨by simp, rfl⟩

set_option maxRecDepth 100000 in
set_option maxHeartbeats 400000 in
theorem rdBytes_no {w : World} {v : Value} (n : Int) (h : NoRd w v) : Calls Try.prog 31 #[v, .int .i64 n] w fun e w' => e = .returned (.slice none 0 0) ∧ w = w' := by
  go_enter Try.func31, Try.ntmps31
  go_wp2_with fail
  refine (reads_no h).mono ?_
  rintro e w' ⟨rfl, rfl⟩
  go_wp2
  go_ret
  exact ⟨by simp, rfl⟩

set_option maxRecDepth 100000 in
set_option maxHeartbeats 400000 in
theorem rdUvar_no {w : World} {v : Value} (h : NoRd w v) : Calls Try.prog 33 #[v] w fun e w' => e = .returned (.int .u64 0) ∧ w = w' := by
  go_enter Try.func33, Try.ntmps33
  go_wp2_with fail
  refine (reads_no h).mono ?_
  rintro e w' ⟨rfl, rfl⟩
  go_wp2
  go_ret
  exact ⟨by simp, rfl⟩
end Go.Proofs.Ytiloaehomdlokaa
