/- Contracts: runs and its iterator. -/
import Derived.Test.YtjhbljkoapbkfaaL2
import Derived.Test.YtjhbljkoapbkfaaIter2
import Derived.OwnWalkIn
import Derived.TacticsInMore
import Derived.LoopNIn
import Derived.LoopIn
import Derived.RangeFuncBox
import Derived.Shelf.Abstract
import Derived.Shelf.RegionOpen
import Derived.RangeFuncCalls
set_option linter.unusedSimpArgs false
set_option linter.unusedVariables false
namespace Go.Proofs.Ytjhbljkoapbkfaa
open Go.RowKit Go.Attic Go.Shelf

attribute [local go_sem] Oper.semAt_some

def tot (l : List (Nat × Nat)) : Nat := (l.map Prod.snd).sum
theorem tot_snoc (l : List (Nat × Nat)) (x : Nat × Nat) : tot (l ++ [x]) = tot l + x.2 := by simp [tot]

/-- The last of the runs that were told. -/
def RunLast (t c : Nat) (pre : List (Nat × Nat)) : Prop := ∃ a x, pre = a ++ [x] ∧ x.1 = t + tot a ∧ tot a < c ∧ x.2 = min (c - tot a) (4 - x.1 % 4)
theorem RunLast.of {t c : Nat} {pre : List (Nat × Nat)} {x : Nat × Nat} (h : RunLast t c (pre ++ [x])) : x.1 = t + tot pre ∧ tot pre < c ∧ x.2 = min (c - tot pre) (4 - x.1 % 4) := by
  obtain ⟨a, y, e, h⟩ := h
  have e1 := List.append_inj' e rfl
  obtain ⟨rfl, e2⟩ := e1
  injection e2 with e2
  subst e2
  exact h

set_option maxRecDepth 100000 in
set_option maxHeartbeats 400000 in
theorem runs_any (t c : Nat) (w : World) :
    Calls Try.prog 41 #[.int .i64 (t : Int), .int .i64 (c : Int)] w fun e w' => e = .returned (.func (.func 56) #[] #[.pointer (some ⟨w.heap.size + 1, 0, none⟩), .pointer (some ⟨w.heap.size, 0, none⟩)]) ∧ (w.alloc (.cells #[.int .i64 (t : Int)] 2)).alloc (.cells #[.int .i64 (c : Int)] 3) = w' := by
  go_enter Try.func41, Try.ntmps41
  go_wp2
  go_ret
  exact ⟨rfl, rfl⟩

set_option maxRecDepth 100000 in
set_option maxHeartbeats 1000000 in
theorem runs1_any (K : Nat → Prop) (t c Bt Bc : Nat) (w0 : World) (hBt : Boxed w0 Bt 2 (.int .i64 (t : Int))) (hBc : Boxed w0 Bc 3 (.int .i64 (c : Int))) (ht : t ≤ 1152921504606846976 + 4096) (hc : c ≤ 4096) (kt : K Bt) (kc : K Bc) :
    SeqP Try.prog 56 #[.pointer (some ⟨Bc, 0, none⟩), .pointer (some ⟨Bt, 0, none⟩)] (fun x : Nat × Nat => #[Value.int .i64 (x.1 : Int), .int .i64 (x.2 : Int)]) K 0 (fun xs => tot xs = c) (RunLast t c) w0 := by
  intro lp J Jx W hW hJ hJx hY h0
  have hBt1 : Boxed W Bt 2 (.int .i64 (t : Int)) := (hW.block Bt hBt.lt).trans hBt
  have hBc1 : Boxed W Bc 3 (.int .i64 (c : Int)) := (hW.block Bc hBc.lt).trans hBc
  clear hBt hBc
  refine (callsIn_wide (n := 3)).1 ?_
  refine callsIn_of_wp Try.func56 rfl trivial ?_ rfl
  simp only [Try.ntmps56, List.size_toArray, List.length_cons, List.length_nil, Nat.reduceAdd, Nat.reduceSub, Array.replicate_succ, Array.replicate_zero, List.push_toArray, List.append_toArray, List.nil_append, List.cons_append]
  gi_wp2
  gi_loopw [4] (fun i wr => ∃ (k : Nat) (pre : List (Nat × Nat)), tot pre = k ∧ k ≤ c ∧ i = .int .i64 (k : Int) ∧ J pre wr ∧ W.heap.size ≤ wr.heap.size ∧ Boxed wr Bt 2 (.int .i64 (t : Int)) ∧ Boxed wr Bc 3 (.int .i64 (c : Int))) (fun i _ => c - (intOf i).toNat)
  case atStart => exact ⟨0, [], rfl, Nat.zero_le _, rfl, h0, Nat.le_refl _, hBt1, hBc1⟩
  case round =>
    obtain ⟨k, pre, htot, hk, rfl, hJk, hsz, hbt, hbc⟩ := hrel
    clear h0 hBt1 hBc1
    have hct := hbt.cell
    have hcc := hbc.cell
    by_cases hkc : k < c
    · obtain ⟨q, hq⟩ : ∃ q, min (c - k) (4 - (t + k) % 4) = q := ⟨_, rfl⟩
      have hq1 : 1 ≤ q := by omega
      have hq2 : k + q ≤ c := by omega
      obtain ⟨fn, tmps, assign, body, hy, hR⟩ := hY pre (t + k, q) wr ⟨pre, _, rfl, by simp [htot], by omega, by simp only [htot]; omega⟩ hJk (by omega)
      have e1 : ((t + k : Nat) : Int) = (t : Int) + (k : Int) := by omega
      rw [e1] at hy
      by_cases hm : 4 - ((t : Int) + (k : Int)) % 4 < (c : Int) - (k : Int)
      · have e2 : ((q : Nat) : Int) = 4 - ((t : Int) + (k : Int)) % 4 := by omega
        rw [e2] at hy
        have Hbt := hide hbt
        have Hbc := hide hbc
        have Htot := hide htot
        have He2 := hide e2
        clear hbt hbc hJk hY hq htot e1 e2
        gi_wp2
        refine (roundIn_any hR).mono ?_
        rintro e W3 ⟨hst, ⟨rfl, hJ3, hk3⟩ | ⟨rfl, hJx3⟩⟩
        · gi_wp2
          go_roundw
          case rel => exact ⟨k + q, _, by rw [tot_snoc, Htot.out], by omega, by have := He2.out; go_num, hJ3, Nat.le_trans hsz hk3.size, hk3.boxed Hbt.out kt, hk3.boxed Hbc.out kc⟩
          case measure => have := He2.out; simp [intOf]; omega
        · gi_wp2
          refine bodyPost_ret (results_none rfl _ _ _) rfl ?_
          exact ⟨⟨_, rfl⟩, .inr ⟨_, ⟨pre, _, rfl, by simp [Htot.out], by rw [Htot.out]; omega, by simp only [Htot.out]; have := He2.out; omega⟩, hJx3⟩⟩
      · have e2 : ((q : Nat) : Int) = (c : Int) - (k : Int) := by omega
        rw [e2] at hy
        have Hbt := hide hbt
        have Hbc := hide hbc
        have Htot := hide htot
        have He2 := hide e2
        clear hbt hbc hJk hY hq htot e1 e2
        gi_wp2
        refine (roundIn_any hR).mono ?_
        rintro e W3 ⟨hst, ⟨rfl, hJ3, hk3⟩ | ⟨rfl, hJx3⟩⟩
        · gi_wp2
          go_roundw
          case rel => exact ⟨k + q, _, by rw [tot_snoc, Htot.out], by omega, by have := He2.out; go_num, hJ3, Nat.le_trans hsz hk3.size, hk3.boxed Hbt.out kt, hk3.boxed Hbc.out kc⟩
          case measure => have := He2.out; simp [intOf]; omega
        · gi_wp2
          refine bodyPost_ret (results_none rfl _ _ _) rfl ?_
          exact ⟨⟨_, rfl⟩, .inr ⟨_, ⟨pre, _, rfl, by simp [Htot.out], by rw [Htot.out]; omega, by simp only [Htot.out]; have := He2.out; omega⟩, hJx3⟩⟩
    · obtain rfl : k = c := by omega
      gi_wp2
      go_end0
      exact ⟨⟨_, rfl⟩, .inl ⟨_, htot, hJk⟩⟩

end Go.Proofs.Ytjhbljkoapbkfaa
