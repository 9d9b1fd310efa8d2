/- What told makes of what Runs hands back. -/
import Derived.Test.YtkdajahcadjpfaaC12
set_option linter.unusedSimpArgs false
set_option linter.unusedVariables false
namespace Go.Proofs.Ytkdajahcadjpfaa
open Go.RowKit Go.Attic

theorem bitB_take {l : List Nat} {q i : Nat} (h : i < 8 * q) : bitB (l.take q) i = bitB l i := by
  unfold bitB
  have : i / 8 < q := by omega
  simp [List.getD, this]
theorem onesN_take {l : List Nat} {q n : Nat} (h : n ≤ 8 * q) : onesN (l.take q) n = onesN l n := by
  unfold onesN
  apply List.filter_congr
  intro i hi
  simp at hi
  rw [bitB_take (by omega)]
theorem runsN_take {l : List Nat} {q n : Nat} (h : n ≤ 8 * q) : runsN (l.take q) n = runsN l n := by unfold runsN; rw [onesN_take h]

/-- What told makes of what Runs hands back. -/
theorem told_runs (l : List Nat) (n : Int) (hlen : l.length ≤ 3000) (W : World) (g : Value) (hg : RunsIt W (l.take ((endN l n + 7) / 8)) (endN l n) g) (m : Nat) (hm : m ≤ 4611686018427387904) :
    Calls Try.prog 30 #[g, .int .i64 (m : Int)] W fun e W' => ∃ v, e = .returned v ∧ Rs W' v ((runsN l (endN l n)).take m) ∧ Below W.heap.size W W' := by
  have hN := endN_le l n
  have hq : (l.take ((endN l n + 7) / 8)).length = (endN l n + 7) / 8 := by simp; omega
  have h1 := runsN_take (l := l) (q := (endN l n + 7) / 8) (n := endN l n) (by omega)
  have h2 := runs_len l (endN l n)
  have := told_any (l.take ((endN l n + 7) / 8)) (endN l n) m g W hg (by rw [hq]; omega) (by rw [hq]; omega) (by rw [h1]; omega) hm
  rw [h1] at this
  refine this.mono ?_
  rintro e w' ⟨v, rfl, ho, hb⟩
  exact ⟨v, rfl, Rs.of_owns ho, hb⟩

end Go.Proofs.Ytkdajahcadjpfaa
