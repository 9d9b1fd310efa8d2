/- Contracts: slices.Values of numbers and the function that it hands back, as an iterator; replay.Blocks. -/
import Derived.Test.YtjcmmigbkhiplaaI1
import Derived.RangeFuncCalls
import Derived.Shelf.Abstract
import Derived.Shelf.RegionOpen
import Derived.OwnWalkIn
import Derived.TacticsInMore
import Derived.LoopNIn
import Derived.LoopIn
set_option linter.unusedSimpArgs false
set_option linter.unusedVariables false
namespace Go.Proofs.Ytjcmmigbkhiplaa
open Go.RowKit Go.Attic Go.Shelf
set_option maxRecDepth 100000 in
set_option maxHeartbeats 400000 in
theorem values_any (v : Value) (w : World) (hv : ∃ ao m c, v = .slice ao m c) :
    Calls Try.prog 57 #[v] w fun e w' => e = .returned (.func (.func 64) #[] #[.pointer (some ⟨w.heap.size, 0, none⟩)]) ∧ w.alloc (.cells #[v] 58) = w' := by
  obtain ⟨ao, m, c, rfl⟩ := hv
  go_enter Try.func57, Try.ntmps57
  go_wp2
  go_ret
  exact ⟨rfl, rfl⟩

theorem keepS_is {K : Nat → Prop} {A B : World} (h : KeepS K A B) {v : Value} {zs : List Int} (hb : Is A v zs) (hv : ∀ b, v.ownBlock = some b → K b) : Is B v zs := by
  obtain ⟨ao, cap, rfl, h1, h4⟩ := hb
  refine ⟨ao, cap, rfl, h1, fun hp => ?_⟩
  obtain ⟨b, off, rfl, hc⟩ := h4 hp
  exact ⟨b, off, rfl, fun i hi => (World.cell?_of_block (h.same b (hv b rfl))).trans (hc i hi)⟩

set_option maxRecDepth 100000 in
set_option maxHeartbeats 1000000 in
theorem values1_any (K : Nat → Prop) (zs : List Int) (v : Value) (Bn : Nat) (w0 : World) (hBn : Boxed w0 Bn 58 v) (hv : Is w0 v zs) (hlen : zs.length ≤ 140737488355328) (kn : K Bn) (kv : ∀ b, v.ownBlock = some b → K b) :
    SeqP Try.prog 64 #[.pointer (some ⟨Bn, 0, none⟩)] (fun x : Int => #[Value.int .i64 x]) K 0 (fun xs => xs = zs) (fun pre => pre <+: zs) w0 := by
  intro lp J Jx W hW hJ hJx hY h0
  have hBn1 : Boxed W Bn 58 v := (hW.block Bn hBn.lt).trans hBn
  have hv1 := hv.mono hW
  have hcn := hBn1.cell
  refine (callsIn_wide (n := 3)).1 ?_
  refine callsIn_of_wp Try.func64 rfl trivial ?_ rfl
  simp only [Try.ntmps64, List.size_toArray, List.length_cons, List.length_nil, Nat.reduceAdd, Nat.reduceSub, Array.replicate_succ, Array.replicate_zero, List.push_toArray, List.append_toArray, List.nil_append, List.cons_append]
  obtain ⟨ao, cap, rfl, hcap⟩ := hv.slice
  obtain ⟨n, hn⟩ : ∃ n, zs.length = n := ⟨_, rfl⟩
  rw [hn] at hcn hlen hcap
  have Hv1 := hide hv1
  have Hn := hide hn
  clear hv hBn hv1 hn hBn1
  gi_wp2
  gi_loopw [7] (fun i wr => ∃ k : Nat, k ≤ n ∧ i = .int .i64 (k : Int) ∧ J (zs.take k) wr ∧ W.heap.size ≤ wr.heap.size ∧ Is wr (.slice ao zs.length cap) zs) (fun i _ => n - (intOf i).toNat)
  case atStart => exact ⟨0, Nat.zero_le _, rfl, h0, Nat.le_refl _, Hv1.out⟩
  case round =>
    obtain ⟨k, hk, rfl, hJk, hsz, hbs⟩ := hrel
    clear h0
    by_cases hkn : k < n
    · have hkl : k < zs.length := by have := Hn.out; omega
      obtain ⟨b1, o1, rfl, k1⟩ := is_at hbs k hkl
      have hte : zs.take (k + 1) = zs.take k ++ [zs.getD k 0] := by
        rw [List.take_succ_eq_append_getElem hkl]
        congr 2
        simp [List.getD, hkl]
      have hpr : zs.take k ++ [zs.getD k 0] <+: zs := by rw [← hte]; exact List.take_prefix _ _
      generalize zs.getD k 0 = x at *
      obtain ⟨fn, tmps, assign, body, hy, hR⟩ := hY (zs.take k) x wr hpr hJk (by omega)
      have Hte := hide hte
      have Hpr := hide hpr
      have Hbs := hide hbs
      clear hte hpr hbs hJk hY
      gi_wp2
      refine (roundIn_any hR).mono ?_
      rintro e W3 ⟨hst, ⟨rfl, hJ3, hk3⟩ | ⟨rfl, hJx3⟩⟩
      · gi_wp2
        go_roundw
        case rel => exact ⟨k + 1, by omega, by go_num, by rw [Hte.out]; exact hJ3, Nat.le_trans hsz hk3.size, keepS_is hk3 Hbs.out kv⟩
        case measure => simp [intOf]; omega
      · gi_wp2
        refine bodyPost_ret (results_none rfl _ _ _) rfl ?_
        exact ⟨⟨_, rfl⟩, .inr ⟨_, Hpr.out, hJx3⟩⟩
    · obtain rfl : k = n := by omega
      have hz : zs.take k = zs := List.take_of_length_le (by have := Hn.out; omega)
      rw [hz] at hJk
      have HJ := hide hJk
      clear hz hJk
      gi_wp2
      go_end0
      exact ⟨⟨_, rfl⟩, .inl ⟨_, rfl, HJ.out⟩⟩

/-- An iterator over these numbers. -/
def ItI (w : World) (zs : List Int) (f : Value) : Prop :=
  ∃ b v, f = .func (.func 64) #[] #[.pointer (some ⟨b, 0, none⟩)] ∧ Boxed w b 58 v ∧ Is w v zs ∧ ∀ c, v.ownBlock = some c → c < w.heap.size
theorem ItI.mono {w w' : World} {zs : List Int} {f : Value} (h : ItI w zs f) (hb : Below w.heap.size w w') : ItI w' zs f := by
  obtain ⟨b, v, e, h1, h2, h3⟩ := h
  exact ⟨b, v, e, (hb.block b h1.lt).trans h1, h2.mono hb, fun c hc => by have := h3 c hc; have := hb.size; omega⟩


end Go.Proofs.Ytjcmmigbkhiplaa
