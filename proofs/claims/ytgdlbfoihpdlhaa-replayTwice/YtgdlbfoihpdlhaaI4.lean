/- Contracts: slices.Values of numbers and the function that it hands back, as an iterator; replay.Blocks. -/
import Derived.Test.YtgdlbfoihpdlhaaI3
import Derived.Test.YtgdlbfoihpdlhaaIter
import Derived.RangeFuncCalls
import Derived.Shelf.Abstract
import Derived.Shelf.RegionOpen
import Derived.OwnWalkIn
import Derived.TacticsInMore
import Derived.LoopNIn
import Derived.LoopIn
set_option linter.unusedSimpArgs false
set_option linter.unusedVariables false
namespace Go.Proofs.Ytgdlbfoihpdlhaa
open Go.RowKit Go.Attic Go.Shelf
attribute [local go_sem] Oper.semAt_some

set_option maxRecDepth 100000 in
set_option maxHeartbeats 400000 in
theorem values_any (v : Value) (w : World) (hv : ∃ ao m c, v = .slice ao m c) :
    Calls Try.prog 35 #[v] w fun e w' => e = .returned (.func (.func 45) #[] #[.pointer (some ⟨w.heap.size, 0, none⟩)]) ∧ w.alloc (.cells #[v] 28) = w' := by
  obtain ⟨ao, m, c, rfl⟩ := hv
  go_enter Try.func35, Try.ntmps35
  go_wp2
  go_ret
  exact ⟨rfl, rfl⟩

theorem keepS_is {K : Nat → Prop} {A B : World} (h : KeepS K A B) {v : Value} {zs : List Int} (hb : Is A v zs) (hv : ∀ b, v.ownBlock = some b → K b) : Is B v zs := by
  obtain ⟨ao, cap, rfl, h1, h4⟩ := hb
  refine ⟨ao, cap, rfl, h1, fun hp => ?_⟩
  obtain ⟨b, off, rfl, hc⟩ := h4 hp
  exact ⟨b, off, rfl, fun i hi => (World.cell?_of_block (h.same b (hv b rfl))).trans (hc i hi)⟩

set_option maxRecDepth 100000 in
set_option maxHeartbeats 1000000 in
theorem values1_any (K : Nat → Prop) (zs : List Int) (v : Value) (Bn : Nat) (w0 : World) (hBn : Boxed w0 Bn 28 v) (hv : Is w0 v zs) (hlen : zs.length ≤ 140737488355328) (kn : K Bn) (kv : ∀ b, v.ownBlock = some b → K b) :
    SeqP Try.prog 45 #[.pointer (some ⟨Bn, 0, none⟩)] (fun x : Int => #[Value.int .i64 x]) K 0 (fun xs => xs = zs) (fun pre => pre <+: zs) w0 := by
  intro lp J Jx W hW hJ hJx hY h0
  have hBn1 : Boxed W Bn 28 v := (hW.block Bn hBn.lt).trans hBn
  have hv1 := hv.mono hW
  have hcn := hBn1.cell
  refine (callsIn_wide (n := 3)).1 ?_
  refine callsIn_of_wp Try.func45 rfl trivial ?_ rfl
  simp only [Try.ntmps45, List.size_toArray, List.length_cons, List.length_nil, Nat.reduceAdd, Nat.reduceSub, Array.replicate_succ, Array.replicate_zero, List.push_toArray, List.append_toArray, List.nil_append, List.cons_append]
  obtain ⟨ao, cap, rfl, hcap⟩ := hv.slice
  obtain ⟨n, hn⟩ : ∃ n, zs.length = n := ⟨_, rfl⟩
  rw [hn] at hcn hlen hcap
  have Hv1 := hide hv1
  have Hn := hide hn
  clear hv hBn hv1 hn hBn1
  gi_wp2
  gi_loopw [7] (fun i wr => ∃ k : Nat, k ≤ n ∧ i = .int .i64 (k : Int) ∧ J (zs.take k) wr ∧ W.heap.size ≤ wr.heap.size ∧ Is wr (.slice ao zs.length cap) zs) (fun i _ => n - (intOf i).toNat)
  case atStart => exact ⟨0, Nat.zero_le _, rfl, h0, Nat.le_refl _, Hv1.out⟩
  case round =>
    obtain ⟨k, hk, rfl, hJk, hsz, hbs⟩ := hrel
    clear h0
    by_cases hkn : k < n
    · have hkl : k < zs.length := by have := Hn.out; omega
      obtain ⟨b1, o1, rfl, k1⟩ := is_at hbs k hkl
      have hte : zs.take (k + 1) = zs.take k ++ [zs.getD k 0] := by
        rw [List.take_succ_eq_append_getElem hkl]
        congr 2
        simp [List.getD, hkl]
      have hpr : zs.take k ++ [zs.getD k 0] <+: zs := by rw [← hte]; exact List.take_prefix _ _
      generalize zs.getD k 0 = x at *
      obtain ⟨fn, tmps, assign, body, hy, hR⟩ := hY (zs.take k) x wr hpr hJk (by omega)
      have Hte := hide hte
      have Hpr := hide hpr
      have Hbs := hide hbs
      clear hte hpr hbs hJk hY
      gi_wp2
      refine (roundIn_any hR).mono ?_
      rintro e W3 ⟨hst, ⟨rfl, hJ3, hk3⟩ | ⟨rfl, hJx3⟩⟩
      · gi_wp2
        go_roundw
        case rel => exact ⟨k + 1, by omega, by go_num, by rw [Hte.out]; exact hJ3, Nat.le_trans hsz hk3.size, keepS_is hk3 Hbs.out kv⟩
        case measure => simp [intOf]; omega
      · gi_wp2
        refine bodyPost_ret (results_none rfl _ _ _) rfl ?_
        exact ⟨⟨_, rfl⟩, .inr ⟨_, Hpr.out, hJx3⟩⟩
    · obtain rfl : k = n := by omega
      have hz : zs.take k = zs := List.take_of_length_le (by have := Hn.out; omega)
      rw [hz] at hJk
      have HJ := hide hJk
      clear hz hJk
      gi_wp2
      go_end0
      exact ⟨⟨_, rfl⟩, .inl ⟨_, rfl, HJ.out⟩⟩

/-- An iterator over these numbers. -/
def ItI (w : World) (zs : List Int) (f : Value) : Prop :=
  ∃ b v, f = .func (.func 45) #[] #[.pointer (some ⟨b, 0, none⟩)] ∧ Boxed w b 28 v ∧ Is w v zs ∧ ∀ c, v.ownBlock = some c → c < w.heap.size
theorem ItI.mono {w w' : World} {zs : List Int} {f : Value} (h : ItI w zs f) (hb : Below w.heap.size w w') : ItI w' zs f := by
  obtain ⟨b, v, e, h1, h2, h3⟩ := h
  exact ⟨b, v, e, (hb.block b h1.lt).trans h1, h2.mono hb, fun c hc => by have := h3 c hc; have := hb.size; omega⟩

set_option maxRecDepth 100000 in
set_option maxHeartbeats 1000000 in
theorem blocks_any {w : World} {F : Nat → Prop} {v : Value} {rs : List Rc} (h : Rs w F v rs) (hlen : rs.length ≤ 1000) :
    Calls Try.prog 17 #[v] w fun e w' => ∃ f, e = .returned f ∧ ItI w' (blocksN rs) f ∧ Below w.heap.size w w' := by
  obtain ⟨i0, hi, hz0, hz1, hz2⟩ := info_parts Try.info3
  obtain ⟨ao, cap, e, hcap⟩ := h.slice
  subst e
  obtain ⟨L, hL⟩ : ∃ L, rs.length = L := ⟨_, rfl⟩
  rw [hL] at hlen hcap ⊢
  have H := hide h
  have HL := hide hL
  clear h hL
  go_enter Try.func17, Try.ntmps17
  go_wp2_with fail
  go_loopw [3, 8] (fun ov iv wr => ∃ i : Nat, i ≤ L ∧ iv = .int .i64 (i : Int) ∧ wr.ownsRow w.heap.size 3 1 ov (blks (rs.take i)).length (cellsI (blks (rs.take i))) ∧ Below w.heap.size w wr) (fun _ iv _ => L - (intOf iv).toNat)
  case atStart => exact ⟨0, Nat.zero_le _, rfl, by simpa [blks, cellsI] using World.ownsRow_nil _ _ _ _, Below.refl _ _⟩
  case round =>
    obtain ⟨i, hi', rfl, hown, hbr⟩ := hrel
    obtain ⟨oa, oc, rfl⟩ := owns_slice hown
    have hwz := hbr.size
    by_cases hiL : i < L
    · have hkl : i < rs.length := by have := HL.out; omega
      obtain ⟨-, b1, o1, u1, rfl, -, hat, hub, -⟩ := (H.out.mono hbr).at i hkl
      have hsn := blks_snoc (rs.take i) rs[i]
      rw [← List.take_succ_eq_append_getElem hkl] at hsn
      have hbl := blks_len (rs.take i)
      rw [List.length_take] at hbl
      generalize rs[i] = x at *
      generalize blks (rs.take i) = bs at *
      obtain ⟨ua, uc, rfl, -⟩ := id hub
      have x0 := hat.c0
      have x1 := hat.c1
      have x2 := hat.c2
      have x3 := hat.c3
      have x4 := hat.c4
      have hbA : Below w.heap.size w (wr.alloc (.cells #[.int .i64 x.k, .int .i64 x.b, .int .i64 x.o, .slice ua x.l.length uc, .int .i64 x.m] 48)) := hbr.alloc hwz _
      have hownA := hown.alloc (.cells #[.int .i64 x.k, .int .i64 x.b, .int .i64 x.o, .slice ua x.l.length uc, .int .i64 x.m] 48)
      obtain ⟨wa, hwa⟩ : ∃ wa, wr.alloc (.cells #[.int .i64 x.k, .int .i64 x.b, .int .i64 x.o, .slice ua x.l.length uc, .int .i64 x.m] 48) = wa := ⟨_, rfl⟩
      have hRa : RecAt wa wr.heap.size x.k x.b x.o (.slice ua x.l.length uc) x.m := by rw [← hwa]; exact RecAt.new wr _ _ _ _ _
      obtain ⟨r0, r1, r2, r3, r4⟩ := hRa.held
      rw [hwa] at hbA hownA
      have hza := hbA.size
      clear hat hub hRa
      by_cases hk1 : x.k = 1
      · rw [if_pos hk1] at hsn
        have hkb : (x.k == 1) = true := by simp [hk1]
        have Hk1 := hide hk1
        have Hsn := hide hsn
        clear hk1 hsn
        go_wp2_with (first | (at_builtin; refine wpList_append_own _ rfl (.tmp 15) (.tmp 18) 28 rfl w.heap.size 3 i0 (.int .i64 0) 1 8 Try.underlying28 hi hz0 hz1 hz2 rfl (by decide) _ _ (cellsI bs) rfl (hownA.alloc _) ⟨wa.heap.size, 0, none⟩ 1 1 [.int .i64 x.b] rfl rfl (cell_one_new _ _ _) (by simp [Value.oneCell']) (by unfold maxLen; omega) (by omega) (by simp; omega) ?_; intro v4 w4 hown4 hgrow4 _))
        have hb4 : Below w.heap.size w w4 := (hbA.alloc hza _).grown hgrow4 (by simp; omega) (fun k hk => owns_lt hownA k hk)
        rw [show cellsI bs ++ [.int .i64 x.b] = cellsI (blks (rs.take (i + 1))) by rw [Hsn.out]; simp [cellsI]] at hown4
        have hl4 : (blks (rs.take (i + 1))).length = bs.length + 1 := by rw [Hsn.out]; simp
        have Ho4 := hide hown4
        have Hl4 := hide hl4
        clear hown4 hgrow4 hown hownA hl4
        go_roundw
        case rel => exact ⟨i + 1, by omega, by go_num, by rw [Hl4.out]; exact Ho4.out, hb4⟩
        case measure => simp [intOf]; omega
      · rw [if_neg hk1, List.append_nil] at hsn
        have hkb : (x.k == 1) = false := by simp [hk1]
        have Hsn := hide hsn
        have Ho := hide hownA
        clear hsn hown hownA hk1
        go_wp2_with fail
        go_roundw
        case rel => exact ⟨i + 1, by omega, by go_num, by rw [Hsn.out]; exact Ho.out, hbA⟩
        case measure => simp [intOf]; omega
    · obtain rfl : i = L := by omega
      have hz : rs.take i = rs := List.take_of_length_le (by have := HL.out; omega)
      rw [hz] at hown ⊢
      have hbl := blks_len rs
      have hsort := isort_any hown (by have := HL.out; omega)
      have Hsort := hide hsort
      clear hz hown hsort
      generalize hbn : (blks rs).length = bn at *
      have Hbn := hide hbn
      clear hbn
      go_wp2_with fail
      refine Hsort.out.mono ?_
      rintro e w4 ⟨rfl, ho4, hb4⟩
      have hb4 := hbr.trans (hb4 w.heap.size (Nat.le_refl _) hwz)
      have hz4 := hb4.size
      have hcomp := icompact_any ho4 (by have := HL.out; omega)
      have Hcomp := hide hcomp
      clear ho4 hcomp
      go_wp2_with fail
      refine Hcomp.out.mono ?_
      rintro e w5 ⟨v5, rfl, ho5, hb5⟩
      have hb5 := hb4.trans (hb5 w.heap.size (Nat.le_refl _) hz4)
      have hz5 := hb5.size
      rw [show Lib.compact (sortN (blks rs)) = blocksN rs from compact_put (blks rs)] at ho5
      obtain ⟨a5, c5, rfl⟩ := owns_slice ho5
      have hval := values_any (.slice a5 (blocksN rs).length c5) w5 ⟨_, _, _, rfl⟩
      have Hval := hide hval
      have Ho5 := hide ho5
      clear ho5 hval
      go_wp2_with fail
      refine Hval.out.mono ?_
      rintro e w6 ⟨rfl, rfl⟩
      go_wp2_with fail
      go_ret
      refine ⟨_, rfl, ⟨_, _, rfl, Boxed.new w5 28 _, (Is.of_owns Ho5.out).mono ((Below.refl _ _).alloc (Nat.le_refl _) _), fun c hc => ?_⟩, hb5.alloc hz5 _⟩
      have := owns_lt' Ho5.out c hc
      simp; omega

end Go.Proofs.Ytgdlbfoihpdlhaa
