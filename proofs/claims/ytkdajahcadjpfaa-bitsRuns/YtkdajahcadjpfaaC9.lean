/- Contracts: bits.ones and the function that it hands back, as an iterator. -/
import Derived.Test.YtkdajahcadjpfaaC8
import Derived.Test.YtkdajahcadjpfaaRPure
import Derived.Test.YtkdajahcadjpfaaIter
import Derived.RangeFuncCalls
import Derived.Shelf.Abstract
import Derived.Shelf.RegionOpen
import Derived.OwnWalkIn
import Derived.TacticsInMore
import Derived.LoopNIn
import Derived.LoopIn
set_option linter.unusedSimpArgs false
set_option linter.unusedVariables false
namespace Go.Proofs.Ytkdajahcadjpfaa
open Go.RowKit Go.Attic Go.Shelf
attribute [local go_sem] Oper.semAt_some

set_option maxRecDepth 100000 in
set_option maxHeartbeats 400000 in
theorem ones_any (v : Value) (n : Nat) (w : World) (hv : ∃ ao m c, v = .slice ao m c) :
    Calls Try.prog 48 #[v, .int .i64 n] w fun e w' => e = .returned (.func (.func 54) #[] #[.pointer (some ⟨w.heap.size + 1, 0, none⟩), .pointer (some ⟨w.heap.size, 0, none⟩)]) ∧ (w.alloc (.cells #[v] 22)).alloc (.cells #[.int .i64 n] 3) = w' := by
  obtain ⟨ao, m, c, rfl⟩ := hv
  go_enter Try.func48, Try.ntmps48
  go_wp2
  go_ret
  exact ⟨rfl, rfl⟩

set_option maxRecDepth 100000 in
set_option maxHeartbeats 1000000 in
theorem ones1_any (K : Nat → Prop) (l : List Nat) (n : Nat) (v : Value) (Bn Br : Nat) (w0 : World) (hBn : Boxed w0 Bn 3 (.int .i64 n)) (hBr : Boxed w0 Br 22 v) (hv : Bs w0 v l) (hlen : l.length ≤ 140737488355328) (hn : n ≤ 8 * l.length)
    (kn : K Bn) (kr : K Br) (kv : ∀ b, v.ownBlock = some b → K b) :
    SeqP Try.prog 54 #[.pointer (some ⟨Bn, 0, none⟩), .pointer (some ⟨Br, 0, none⟩)] (fun i : Nat => #[Value.int .i64 (i : Int)]) K 0 (fun xs => xs = onesN l n) (fun pre => pre <+: onesN l n) w0 := by
  intro lp J Jx W hW hJ hJx hY h0
  have hBn1 : Boxed W Bn 3 (.int .i64 n) := (hW.block Bn hBn.lt).trans hBn
  have hBr1 : Boxed W Br 22 v := (hW.block Br hBr.lt).trans hBr
  have hv1 := hv.mono hW
  have hcn := hBn1.cell
  refine (callsIn_wide (n := 3)).1 ?_
  refine callsIn_of_wp Try.func54 rfl trivial ?_ rfl
  simp only [Try.ntmps54, List.size_toArray, List.length_cons, List.length_nil, Nat.reduceAdd, Nat.reduceSub, Array.replicate_succ, Array.replicate_zero, List.push_toArray, List.append_toArray, List.nil_append, List.cons_append]
  obtain ⟨ao, cap, rfl⟩ : ∃ ao cap, v = .slice ao l.length cap := by obtain ⟨ao, cap, e, _⟩ := hv; exact ⟨ao, cap, e⟩
  gi_wp2
  clear hcn hv hBn hBr
  gi_loopw [6] (fun i wr => ∃ k : Nat, k ≤ n ∧ i = .int .i64 k ∧ J (onesN l k) wr ∧ W.heap.size ≤ wr.heap.size ∧ Boxed wr Br 22 (.slice ao l.length cap) ∧ Bs wr (.slice ao l.length cap) l) (fun i _ => n - (intOf i).toNat)
  case atStart => exact ⟨0, Nat.zero_le _, rfl, h0, Nat.le_refl _, hBr1, hv1⟩
  case round =>
    obtain ⟨k, hk, rfl, hJk, hsz, hbx, hbs⟩ := hrel
    clear h0 hBr1 hv1
    by_cases hkn : k < n
    · have hg := get_any _ l k wr hbs hlen
      rw [getI_nat] at hg
      have hcr := hbx.cell
      have hsu := onesN_succ l k
      have hpr := onesN_pre l (show k + 1 ≤ n by omega)
      cases hbit : bitB l k with
      | true =>
        rw [hbit] at hg hsu
        simp only [if_true] at hsu
        obtain ⟨fn, tmps, assign, body, hy, hR⟩ := hY (onesN l k) k wr (by rw [← hsu]; exact hpr) hJk (by omega)
        have Hsu := hide hsu
        have Hbx := hide hbx
        have Hbs := hide hbs
        clear hsu hpr hbx hbs hJk hY
        gi_wp2_with (refine ⟨trivial, ?_⟩; gi_at_call 22; refine (callsIn_wide.2 hg).mono ?_; rintro e w' ⟨rfl, rfl⟩)
        refine (roundIn_any hR).mono ?_
        rintro e W3 ⟨hst, ⟨rfl, hJ3, hk3⟩ | ⟨rfl, hJx3⟩⟩
        · gi_wp2
          go_roundw
          case rel => exact ⟨k + 1, by omega, by go_num, by rw [Hsu.out]; exact hJ3, Nat.le_trans hsz hk3.size, hk3.boxed Hbx.out kr, hk3.bs Hbs.out kv⟩
          case measure => simp [intOf]; omega
        · gi_wp2
          refine bodyPost_ret (results_none rfl _ _ _) rfl ?_
          exact ⟨⟨_, rfl⟩, .inr ⟨_, by rw [← Hsu.out]; exact onesN_pre l (by omega), hJx3⟩⟩
      | false =>
        rw [hbit] at hg hsu
        simp only [Bool.false_eq_true, if_false, List.append_nil] at hsu
        have Hsu := hide hsu
        clear hsu hpr hY
        gi_wp2_with (refine ⟨trivial, ?_⟩; gi_at_call 22; refine (callsIn_wide.2 hg).mono ?_; rintro e w' ⟨rfl, rfl⟩)
        all_goals
          refine ⟨fun _ _ => trivial, ?_⟩
          gi_wp2
          go_roundw
          case rel => exact ⟨k + 1, by omega, by go_num, by rw [Hsu.out]; exact hJk, hsz, hbx, hbs⟩
          case measure => simp [intOf]; omega
    · obtain rfl : k = n := by omega
      gi_wp2
      go_end0
      exact ⟨⟨_, rfl⟩, .inl ⟨_, rfl, hJk⟩⟩

end Go.Proofs.Ytkdajahcadjpfaa
