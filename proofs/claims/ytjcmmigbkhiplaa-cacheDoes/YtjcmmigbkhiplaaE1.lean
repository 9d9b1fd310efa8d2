/- Contracts: slices.Backward over pending writes and its iterator. -/
import Derived.Test.YtjcmmigbkhiplaaD8
import Derived.Test.YtjcmmigbkhiplaaIter
import Derived.OwnWalkIn
import Derived.TacticsInMore
import Derived.LoopNIn
import Derived.LoopIn
import Derived.RangeFuncBox
import Derived.Shelf.Abstract
import Derived.Shelf.RegionOpen
import Derived.RangeFuncCalls
set_option linter.unusedSimpArgs false
set_option linter.unusedVariables false
namespace Go.Proofs.Ytjcmmigbkhiplaa
open Go.RowKit Go.Attic Go.Shelf
attribute [local go_sem] Oper.semAt_some

theorem Keeps.boxed {S : Nat → Prop} {w w' : World} (h : Keeps S w w') {k : Nat} {t : TypeId} {v : Value} (hb : Boxed w k t v) (hk : ¬ S k) : Boxed w' k t v :=
  (h.block k hb.lt hk).trans hb

set_option maxRecDepth 100000 in
set_option maxHeartbeats 400000 in
theorem backward_any (v : Value) (w : World) (hv : ∃ ao m c, v = .slice ao m c) :
    Calls Try.prog 51 #[v] w fun e w' => e = .returned (.func (.func 60) #[] #[.pointer (some ⟨w.heap.size, 0, none⟩)]) ∧ w.alloc (.cells #[v] 64) = w' := by
  obtain ⟨ao, m, c, rfl⟩ := hv
  go_enter Try.func51, Try.ntmps51
  go_wp2
  go_ret
  exact ⟨rfl, rfl⟩

/-- The rows' elements as an iterator hands them over. -/
def wAt (ps : List (Nat × List Nat)) (vs : List Value) (i : Nat) : Value := .agg #[.int .i64 ((ps.getD i (0, [])).1 : Int), vs.getD i (.slice none 0 0)]

/-- The indices from k down to 0. -/
def downTo (k : Nat) : List Nat := (List.range k).reverse
def backN (n k : Nat) : List Nat := ((List.range n).reverse).take (n - k)

theorem backN_succ (n k : Nat) (h : k < n) : backN n k = backN n (k + 1) ++ [k] := by
  unfold backN
  rw [show n - k = (n - (k + 1)) + 1 by omega, List.take_add_one]
  congr 1
  have h1 : n - (k + 1) < (List.range n).reverse.length := by simp; omega
  rw [List.getElem?_eq_getElem h1, List.getElem_reverse]
  simp
  omega
theorem backN_self (n : Nat) : backN n n = [] := by simp [backN]
theorem backN_zero (n : Nat) : backN n 0 = (List.range n).reverse := by
  unfold backN
  exact List.take_of_length_le (by simp)
theorem backN_pre (n k : Nat) : backN n k <+: (List.range n).reverse := List.take_prefix _ _

set_option maxRecDepth 100000 in
set_option maxHeartbeats 1000000 in
theorem backward1_any (K : Nat → Prop) (ps : List (Nat × List Nat)) (vs : List Value) (v : Value) (Bv : Nat) (w0 : World) (hBv : Boxed w0 Bv 64 v) (hrow : w0.ownsRow 0 93 2 v ps.length (cellsW ps vs)) (hvl : vs.length = ps.length) (hsl : ∀ u ∈ vs, ∃ ao m c, u = .slice ao m c)
    (hlen : ps.length ≤ 1000000) (kv : K Bv) (kr : ∀ b, v.ownBlock = some b → K b) :
    SeqP Try.prog 60 #[.pointer (some ⟨Bv, 0, none⟩)] (fun i : Nat => #[Value.int .i64 (i : Int), wAt ps vs i]) K 0 (fun xs => xs = (List.range ps.length).reverse) (fun pre => pre <+: (List.range ps.length).reverse) w0 := by
  intro lp J Jx W hW hJ hJx hY h0
  have hBv1 : Boxed W Bv 64 v := (hW.block Bv hBv.lt).trans hBv
  have hrow1 := (Keeps.of_below (S := fun _ => False) hW).owns hrow (fun _ _ => id)
  have hcn := hBv1.cell
  refine (callsIn_wide (n := 3)).1 ?_
  refine callsIn_of_wp Try.func60 rfl trivial ?_ rfl
  simp only [Try.ntmps60, List.size_toArray, List.length_cons, List.length_nil, Nat.reduceAdd, Nat.reduceSub, Array.replicate_succ, Array.replicate_zero, List.push_toArray, List.append_toArray, List.nil_append, List.cons_append]
  obtain ⟨ao, cap, rfl⟩ := owns_slice hrow1
  gi_wp2
  clear hcn hBv hrow
  gi_loopw [3] (fun i wr => ∃ k : Nat, k ≤ ps.length ∧ i = .int .i64 ((k : Int) - 1) ∧ J (backN ps.length k) wr ∧ W.heap.size ≤ wr.heap.size ∧ Boxed wr Bv 64 (.slice ao ps.length cap) ∧ wr.ownsRow 0 93 2 (.slice ao ps.length cap) ps.length (cellsW ps vs)) (fun i _ => (intOf i + 1).toNat)
  case atStart => exact ⟨ps.length, Nat.le_refl _, rfl, by rw [backN_self]; exact h0, Nat.le_refl _, hBv1, hrow1⟩
  case round =>
    obtain ⟨k, hk, rfl, hJk, hsz, hbx, hbs⟩ := hrel
    clear h0 hBv1 hrow1
    by_cases hk0 : 0 < k
    · obtain ⟨i, rfl⟩ : ∃ i, k = i + 1 := ⟨k - 1, by omega⟩
      have e1 : (((i + 1 : Nat) : Int) - 1) = (i : Int) := by omega
      rw [e1]
      have hsu := backN_succ ps.length i (by omega)
      have hpr := backN_pre ps.length i
      obtain ⟨hc1, hc2⟩ := cellsW_at hvl i (by omega)
      obtain ⟨ao', cap', e2, _, hg⟩ := owns_form hbs
      obtain ⟨pb, rfl, _⟩ := hg (by omega)
      injection e2 with e2 _ e3
      subst e2 e3
      have x1 := hbs.cells (g := pb) rfl _ _ hc1
      have x2 := hbs.cells (g := pb) rfl _ _ hc2
      rw [Addr.add_lit, Nat.zero_add] at x1 x2
      obtain ⟨fn, tmps, assign, body, hy, hR⟩ := hY (backN ps.length (i + 1)) i wr (by rw [← hsu]; exact hpr) hJk (by omega)
      have hw : wAt ps vs i = .agg #[.int .i64 ((ps[i]).1 : Int), vs[i]'(by omega)] := by
        simp [wAt, List.getD_eq_getElem?_getD, show i < ps.length by omega, show i < vs.length by omega]
      obtain ⟨uao, um, uc, hu⟩ := hsl (vs[i]'(by omega)) (List.getElem_mem _)
      rw [hu] at x2 hw
      rw [hw] at hy
      generalize (ps[i]).1 = blk at *
      have hi1 : i < ps.length := by omega
      have Hsu := hide hsu
      have Hbx := hide hbx
      have Hbs := hide hbs
      have hcr := hbx.cell
      clear hsu hpr hbx hbs hJk hY hc1 hc2 hu hw hg e1 hsl
      gi_wp2
      refine (roundIn_any hR).mono ?_
      rintro e W3 ⟨hst, ⟨rfl, hJ3, hk3⟩ | ⟨rfl, hJx3⟩⟩
      · gi_wp2
        go_roundw
        case rel => exact ⟨i, by omega, by go_num, by rw [Hsu.out]; exact hJ3, Nat.le_trans hsz hk3.size, hk3.boxed Hbx.out kv, (show W3.ownsRow 0 93 2 _ _ _ from ⟨Hbs.out.1, by
          rcases Hbs.out.2 with hn | ⟨g, cap, cur, e, hb, hg, rest⟩
          · exact .inl hn
          · refine .inr ⟨g, cap, cur, e, hb, (hk3.same g (kr g (by rw [e]; rfl))).trans hg, rest⟩⟩)⟩
        case measure => simp [intOf]
      · gi_wp2
        refine bodyPost_ret (results_none rfl _ _ _) rfl ?_
        exact ⟨⟨_, rfl⟩, .inr ⟨_, by rw [← Hsu.out]; exact backN_pre _ _, hJx3⟩⟩
    · obtain rfl : k = 0 := by omega
      rw [backN_zero] at hJk
      gi_wp2
      go_end0
      exact ⟨⟨_, rfl⟩, .inl ⟨_, rfl, hJk⟩⟩


end Go.Proofs.Ytjcmmigbkhiplaa
