/- Contracts: bits.Mul64, bits.Mul, slices.Repeat, Flush. -/
import Derived.Test.YtjhbljkoapbkfaaD6
set_option linter.unusedSimpArgs false
set_option linter.unusedVariables false
namespace Go.Proofs.Ytjhbljkoapbkfaa
open Go.RowKit Go.Attic

set_option maxRecDepth 100000 in
set_option maxHeartbeats 400000 in
theorem mul64_one (n : Nat) (w : World) (hn : n ≤ 1000000) : Calls Try.prog 74 #[.int .u64 1, .int .u64 (n : Int)] w fun e w' => e = .returned (.tuple #[.int .u64 0, .int .u64 (n : Int)]) ∧ w = w' := by
  have hm : bits .and .u64 (n : Int) 4294967295 = (n : Int) := by
    rw [show (4294967295 : Int) = ((4294967295 : Nat) : Int) from rfl, u64_and_nat _ _ (by omega) (by omega)]
    congr 1
    rw [show (4294967295 : Nat) = 2 ^ 32 - 1 from rfl, Nat.and_two_pow_sub_one_eq_mod]
    omega
  have h1 : bits .and .u64 1 4294967295 = 1 := by decide
  have h0 : bits .and .u64 0 4294967295 = 0 := by decide
  have hd : (n : Int) / 2 ^ 32 = 0 := by omega
  have hd2 : (n : Int) / 4294967296 = 0 := by omega
  go_enter Try.func74, Try.ntmps74
  go_wp2
  go_ret2
  exact ⟨by simp, rfl⟩

set_option maxRecDepth 100000 in
set_option maxHeartbeats 400000 in
theorem mul_one (n : Nat) (w : World) (hn : n ≤ 1000000) : Calls Try.prog 65 #[.int .u64 1, .int .u64 (n : Int)] w fun e w' => e = .returned (.tuple #[.int .u64 0, .int .u64 (n : Int)]) ∧ w = w' := by
  go_enter Try.func65, Try.ntmps65
  go_wp2_with fail
  refine (mul64_one n w hn).mono ?_
  rintro e w' ⟨rfl, rfl⟩
  go_wp2
  go_ret2
  exact ⟨by simp, rfl⟩

/-- k of n bytes are x. -/
def fillR (x n k : Nat) : List Nat := List.replicate k x ++ List.replicate (n - k) 0
theorem fillR_length (x n k : Nat) (h : k ≤ n) : (fillR x n k).length = n := by simp [fillR]; omega
theorem fillR_getD (x n k i : Nat) (h : k ≤ n) : (fillR x n k).getD i 0 = if i < k then x else 0 := by
  simp only [fillR, List.getD_eq_getElem?_getD]
  by_cases h1 : i < k
  · rw [if_pos h1, List.getElem?_append_left (by simpa using h1)]; simp [h1]
  · rw [if_neg h1, List.getElem?_append_right (by simpa using h1)]
    simp [List.getElem?_replicate]
    split <;> rfl
theorem fillR_splice (x n k c : Nat) (h : k + c ≤ n) : splice (fillR x n k) k (List.replicate c x) = fillR x n (k + c) := by
  refine ext_getD ?_ fun i hi => ?_
  · rw [length_splice _ _ _ (by rw [fillR_length _ _ _ (by omega)]; simpa using h), fillR_length _ _ _ (by omega), fillR_length _ _ _ h]
  · rw [splice_getD _ _ _ _ (by rw [fillR_length _ _ _ (by omega)]; simpa using h), fillR_getD _ _ _ _ (by omega), fillR_getD _ _ _ _ h]
    simp only [List.length_replicate, List.getD_eq_getElem?_getD, List.getElem?_replicate]
    by_cases h1 : i < k
    · rw [if_neg (by omega), if_pos h1, if_pos (by omega)]
    · by_cases h2 : i < k + c
      · rw [if_pos (by omega), if_pos h2, if_pos (by omega)]; rfl
      · rw [if_neg (by omega), if_neg h1, if_neg h2]

set_option maxRecDepth 100000 in
set_option maxHeartbeats 1000000 in
theorem repeat_one (x n : Nat) (v : Value) (w : World) (hv : Bs w v [x]) (hn : n ≤ 1000000) :
    Calls Try.prog 55 #[v, .int .i64 (n : Int)] w fun e w' => ∃ v', e = .returned v' ∧ Bs w' v' (List.replicate n x) ∧ (∀ b, v'.ownBlock = some b → w.heap.size ≤ b ∧ b < w'.heap.size) ∧ Below w.heap.size w w' := by
  obtain ⟨i0, hi, hz0, hz1, hz2⟩ := info_parts Try.info5
  have hinf : (Try.prog.info? 5).map (·.size) = some 1 := by kernel_rfl
  have hlt := hv.lt
  have hx : x < 256 := hlt x (by simp)
  obtain ⟨ao, vcap, rfl, hvc, hvn, _, hcell⟩ := hv
  obtain ⟨vb, voff, rfl, hc⟩ := hcell (by simp)
  have hc0 := hc 0 (by simp)
  have hvl : vb < w.heap.size := by have := World.block_lt_of_cell? w _ hc0; simpa using this
  clear hcell hc hvn
  simp only [List.length_singleton, Nat.add_zero, List.getD_cons_zero] at hc0 hvc ⊢
  obtain ⟨q, hq⟩ : ∃ q, min 1 n = q := ⟨_, rfl⟩
  have hq1 : (cellsB (List.replicate q x)).length = Nat.min 1 n := by rw [cellsB_length, List.length_replicate, ← hq]
  have hq2 : 0 + (cellsB (List.replicate q x)).length ≤ n := by rw [cellsB_length, List.length_replicate]; omega
  have hsrc0 : ∀ w1, Below w.heap.size w w1 → ∀ j u, (cellsB (List.replicate q x))[j]? = some u → w1.cell? ((⟨vb, voff, none⟩ : Addr).add j) = some u := by
    intro w1 hb j u hj
    have hjl : j < q := by have := (List.getElem?_eq_some_iff.1 hj).1; simpa [cellsB] using this
    obtain rfl : j = 0 := by omega
    rw [Addr.add_lit, Nat.add_zero, hb.cell (p := ⟨vb, voff, none⟩) hvl, hc0, ← hj]
    simp [cellsB, hjl]
  have hqn : q ≤ n := by omega
  have hq0 : 0 < n → 0 < q := by omega
  have Hq := hide hq
  clear hq
  go_enter Try.func55, Try.ntmps55
  go_wp2_with fail
  refine (mul_one n w hn).mono ?_
  rintro e w' ⟨rfl, rfl⟩
  go_wp2_with (first
    | (at_make; refine wpList_make_full _ rfl (.tmp 29) (.tmp 29) 23 rfl 0 5 i0 (.int .u8 0) 1 Try.underlying23 hi hz0 hz1 .i64 .i64 n n n rfl rfl rfl rfl (by rw [hz2]; omega) (by unfold maxLen; omega) (Nat.zero_le _) ?_; intro w1 hown hgrow; have hown' := (show w1.ownsRow 0 5 1 (.slice (some ⟨w.heap.size, 0, none⟩) n n) n (cellsB (fillR x n 0)) by rw [made_zeros] at hown; simpa [fillR] using hown); have hb1 : Below w.heap.size w w1 := (Below.refl _ _).grown hgrow (Nat.le_refl _) (by intro k hk; cases hk); have hsrc := hsrc0 w1 hb1)
    | (refine wpList_copy_owns rfl (.tmp 31) (.tmp 32) 23 23 rfl 5 Try.underlying23 hinf w.heap.size 0 n n ⟨vb, voff, none⟩ 1 vcap rfl rfl n n _ hown' (cellsB (List.replicate q x)) hq1 hsrc hq2 (cellsB_oneCell _) ?_; intro w2 hown2 k2; rw [cellsB_length, List.length_replicate])
    | fail)
  have d1 : decide ((n : Int) < 0) = false := by simp
  have d2 : decide ((9223372036854775807 : Int) < (n : Int)) = false := by simp; omega
  simp only [d1, d2]
  rw [cellsB_splice, fillR_splice _ _ _ _ (by omega), Nat.zero_add] at hown2
  have hb2 : Below w.heap.size w w2 := hb1.trans (k2.below (fun k hk => by omega) hb1.size)
  clear d1 d2 hown' hown hgrow hsrc hsrc0 hc0 k2 hb1 hq1 hq2
  go_loopw [8] (fun i wr => ∃ k : Nat, k ≤ n ∧ (0 < n → 0 < k) ∧ i = .int .i64 k ∧ wr.ownsRow 0 5 1 (.slice (some ⟨w.heap.size, 0, none⟩) n n) n (cellsB (fillR x n k)) ∧ Below w.heap.size w wr) (fun i _ => n - (intOf i).toNat)
  case atStart => exact ⟨q, hqn, hq0, rfl, hown2, hb2⟩
  case round =>
    obtain ⟨k, hk, hk0, rfl, o1, b1⟩ := hrel
    clear hown2 hb2 hq0 hqn
    by_cases hkn : k < n
    · obtain ⟨c, hc⟩ : ∃ c, min k (n - k) = c := ⟨_, rfl⟩
      have hc1 : (cellsB (List.replicate c x)).length = Nat.min k (n - k) := by rw [cellsB_length, List.length_replicate, ← hc]
      have hc2 : k + (cellsB (List.replicate c x)).length ≤ n := by rw [cellsB_length, List.length_replicate]; omega
      have hcp : 0 < c := by have := hk0 (by omega); omega
      have hcn : k + c ≤ n := by omega
      have hsrc : ∀ j u, (cellsB (List.replicate c x))[j]? = some u → wr.drew.cell? ((⟨w.heap.size, 0, none⟩ : Addr).add j) = some u := by
        intro j u hj
        have hjl : j < c := by have := (List.getElem?_eq_some_iff.1 hj).1; simpa [cellsB] using this
        have := (Bs.of_owns o1 (fun y hy => by
          obtain ⟨i, _, rfl⟩ := mem_getD hy
          rw [fillR_getD _ _ _ _ hk]; split <;> omega)).cells ⟨w.heap.size, 0, none⟩ rfl j u
        refine this ?_
        rw [← hj]
        have h1 : j < k := by omega
        have := fillR_getD x n k j hk
        rw [if_pos h1] at this
        simp only [cellsB, List.getElem?_map]
        congr 1
        rw [List.getElem?_replicate, if_pos hjl]
        simp only [fillR]
        rw [List.getElem?_append_left (by simpa using h1), List.getElem?_replicate, if_pos h1]
      have o1' := World.ownsRow.drew o1
      have hnk : ¬ (n = k) := by omega
      have hwr : IntKind.i64.wrap ((k : Int) + (c : Int)) = (k : Int) + (c : Int) := by rw [IntKind.wrap_i64]; omega
      have Hc := hide hc
      clear o1 hc
      go_wp2_with fail
      go_region_held3 (fun _ => True) (trivial) (first
        | (refine step_copy_own rfl (.tmp 41) (.tmp 44) 23 23 rfl 5 Try.underlying23 hinf w.heap.size k (n - k) (n - k) ⟨w.heap.size, 0, none⟩ k n rfl rfl n n _ o1' (cellsB (List.replicate c x)) hc1 hsrc hc2 (cellsB_oneCell _) ?_; intro w3 o3 k3; rw [cellsB_length, List.length_replicate])
        )
      all_goals
        rw [cellsB_splice, fillR_splice _ _ _ _ hcn] at o3
        have b3 : Below w.heap.size w w3 := b1.drew.trans (k3.below (fun j hj => by omega) b1.size)
        have O3 := hide o3
        clear o3 o1' hsrc k3
        go_wp2_with fail
        exact ⟨⟨k + c, hcn, by omega, by go_num, O3.out, b3⟩, by simp [intOf]; omega⟩
    · obtain rfl : k = n := by omega
      go_wp2_with fail
      go_ret
      have e : fillR x k k = List.replicate k x := by simp [fillR]
      rw [e] at o1
      refine ⟨_, rfl, ?_, ?_, b1⟩
      · exact Bs.of_owns o1 (fun y hy => by rw [List.eq_of_mem_replicate hy]; exact hx)
      · intro b hb
        have h1 := owns_lt' o1 b hb
        have e2 : w.heap.size = b := by simpa [Value.ownBlock] using hb
        omega

theorem operS_left (s : St) : (operS s).2 = 0 ∨ (operS s).2 = 5 := by
  simp only [operS]
  split
  · exact .inl rfl
  · split
    · exact .inr rfl
    · exact .inl rfl

theorem operS_same (s : St) (h : (operS s).2 = 0) : (operS s).1.med = s.med ∧ (operS s).1.pend = s.pend := by
  simp only [operS] at h ⊢
  split
  · exact ⟨rfl, rfl⟩
  · rename_i h0
    rw [if_neg h0] at h
    split
    · rename_i h1
      rw [if_pos h1] at h
      simp at h
    · exact ⟨rfl, rfl⟩

set_option maxRecDepth 100000 in
set_option maxHeartbeats 400000 in
theorem flush_yes {w : World} {g m : Nat} {p : Option Nat} {F : Nat → Prop} {n : Nat} {s : St} (h : Dk w g m p F n s) (hpl : s.pend.length ≤ 1000000) (ho : s.ops ≤ 1000000) :
    Calls Try.prog 34 #[.pointer (some ⟨g, 0, none⟩)] w fun e w' => e = .returned (.int .i64 (flushS s).2) ∧ Turn w g m F n (flushS s).1 w' := by
  have hp := powered_yes h
  cases hon : s.on with
  | false =>
    have e : flushS s = (s, 5) := by simp [flushS, hon]
    rw [e]; clear e
    rw [hon] at hp
    go_enter Try.func34, Try.ntmps34
    go_wp2_with fail
    refine hp.mono ?_
    rintro e w' ⟨rfl, rfl⟩
    go_wp2
    go_ret
    exact ⟨rfl, p, F, h, Keeps.refl _ _, fun _ h => .inl h⟩
  | true =>
    rw [hon] at hp
    have hop := operate_yes h hpl ho
    rcases operS_left s with h0 | h5
    · have e : flushS s = ({ (operS s).1 with med := settleL s.med s.pend (List.replicate s.pend.length 15), pend := [] }, 0) := by simp [flushS, hon, h0]
      rw [e]; clear e
      obtain ⟨e1, e2⟩ := operS_same s h0
      obtain ⟨s1, hs1⟩ : ∃ s1, (operS s).1 = s1 := ⟨_, rfl⟩
      have hpr : operS s = (s1, 0) := by rw [← hs1, ← h0]
      rw [hpr] at hop
      rw [hs1] at e1 e2 ⊢
      rw [← e1, ← e2]
      have hpl1 : s1.pend.length ≤ 1000000 := by rw [e2]; exact hpl
      clear e1 e2 hs1 hpr hon h0
      go_enter Try.func34, Try.ntmps34
      go_wp2_with fail
      refine hp.mono ?_
      rintro e w' ⟨rfl, rfl⟩
      go_wp2_with fail
      refine hop.mono ?_
      rintro e w1 ⟨rfl, p1, h1, k1, hp1⟩
      dsimp only at h1
      obtain ⟨pv, vs, c1, hW⟩ := h1.c1
      obtain ⟨pao, pcap, rfl⟩ := owns_slice hW.row
      have Hp1 := hide hp1
      have c1a := (Keeps.alloc (S := fun _ => False) w1 (.cells #[.int .u8 15] 5)).cell c1 id
      clear hp1 hW hop hp
      go_wp2_with fail
      have b0 : Bs (w1.alloc (.cells #[.int .u8 15] 5)) (.slice (some ⟨w1.heap.size, 0, none⟩) 1 1) [15] := Bs.one w1 5 15 15 rfl (by omega)
      refine (repeat_one 15 _ _ _ b0 hpl1).mono ?_
      rintro e w2 ⟨v2, rfl, b2, l2, bel2⟩
      have h2 := (h1.mono ((Below.refl _ _).alloc (Nat.le_refl _) _)).mono bel2
      have k2 : Keeps (Own g m F) w w2 := ((k1.mono Own.gm).trans (Keeps.alloc w1 _)).trans (Keeps.of_below bel2)
      have hl2 := h2.ml
      clear b0
      have hml1 := h1.ml
      have B2 := hide b2
      obtain ⟨ao2, cap2, rfl, _⟩ := b2
      have hl : (List.replicate s1.pend.length 15).length = s1.pend.length := List.length_replicate
      rw [hl] at l2 B2 ⊢
      clear hl
      go_wp2_with fail
      refine (settle_yes h2 _ _ B2.out (fun _ b hb e => by have := (l2 b hb).1; simp at this; omega) hpl1 (by simp; omega)).mono ?_
      rintro e w3 ⟨rfl, h3, k3⟩
      go_wp2
      go_ret
      exact ⟨rfl, none, F, h3, k2.trans (k3.mono Own.gm), fun _ h => .inl h⟩
    · have e : flushS s = operS s := by simp [flushS, hon, h5]
      rw [e]; clear e
      obtain ⟨s1, hs1⟩ : ∃ s1, (operS s).1 = s1 := ⟨_, rfl⟩
      have hpr : operS s = (s1, 5) := by rw [← hs1, ← h5]
      rw [hpr] at hop ⊢
      clear hs1 hpr hon h5
      go_enter Try.func34, Try.ntmps34
      go_wp2_with fail
      refine hp.mono ?_
      rintro e w' ⟨rfl, rfl⟩
      go_wp2_with fail
      refine hop.mono ?_
      rintro e w1 ⟨rfl, p1, h1, k1, _⟩
      go_wp2
      go_ret
      exact ⟨rfl, p1, F, h1, k1.mono Own.gm, fun _ h => .inl h⟩


end Go.Proofs.Ytjhbljkoapbkfaa
