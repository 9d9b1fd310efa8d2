/- Contracts: Sort and Compact of numbers that the call owns. -/
import Derived.Test.YtjcmmigbkhiplaaI1
import Derived.Test.YtjcmmigbkhiplaaSh
import Derived.Sort.OwnSortedInts
import Derived.Lib.OwnBridge
set_option linter.unusedSimpArgs false
set_option linter.unusedVariables false
namespace Go.Proofs.Ytjcmmigbkhiplaa
open Go.RowKit Go.Attic

theorem isort_any {w : World} {base n : Nat} {v : Value} {zs : List Int} (h : w.ownsRow base 3 1 v n (cellsI zs)) (hs : n ≤ 100000) :
    Calls Try.prog 56 #[v] w fun e w' => e = .returned (.tuple #[]) ∧ w'.ownsRow base 3 1 v n (cellsI (sortN zs)) ∧ ∀ B, B ≤ base → B ≤ w.heap.size → Below B w w' := by
  have hl : zs.length = n := by have := h.1; simp [cellsI] at this; omega
  rcases h.2 with ⟨rfl, rfl⟩ | ⟨g, cap, cur, rfl, hb, hg, hn, hm, hsz, ht⟩
  · obtain rfl : zs = [] := List.eq_nil_of_length_eq_zero hl
    refine (Try.sort_none none 0 w).mono ?_
    rintro e w' ⟨rfl, rfl⟩
    exact ⟨rfl, by simpa [sortN, cellsI] using World.ownsRow_nil _ _ _ _, fun B _ _ => Below.refl _ _⟩
  · obtain ⟨g', cap', e, -, hlt, -, -, -, hH⟩ := Lib.holds_of_ownsRow (enc := Value.int .i64) h (by simp)
    injection e with e1 _ e2
    injection e1 with e1
    injection e1 with e1
    subst e1 e2
    have hc := Try.sort_int g cap zs w hH hlt (by omega)
    rw [hl] at hc
    refine hc.mono ?_
    rintro e w' ⟨rfl, q, os, rfl⟩
    refine ⟨rfl, ?_, fun B hB hBw => (Below.refl B w).grown (grownBy_sortedI _) hBw (fun k hk => by injection hk with hk; omega)⟩
    have := ownsRow_sortedI (n := q) (os := os) (ss := zs) (ts := sortN zs) (sortN_len zs) hb hg (by omega) hm hsz
    rw [hl] at this
    exact this


end Go.Proofs.Ytjcmmigbkhiplaa
