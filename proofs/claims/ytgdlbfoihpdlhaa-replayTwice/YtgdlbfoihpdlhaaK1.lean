/- Contract: few. -/
import Derived.Test.YtgdlbfoihpdlhaaL3
set_option linter.unusedSimpArgs false
set_option linter.unusedVariables false
namespace Go.Proofs.Ytgdlbfoihpdlhaa
open Go.RowKit Go.Attic

theorem Rs.take {F : Nat → Prop} {w : World} {ao : Option Addr} {n cap : Nat} {rs : List Rc} (h : Rs w F (.slice ao n cap) rs) (j : Nat) (hj : j ≤ rs.length) : Rs w F (.slice ao j cap) (rs.take j) := by
  obtain ⟨ao', cap', vs, e, h1, h2, h3, h4⟩ := h
  injection e with e1 e2 e3
  subst e1 e2 e3
  refine ⟨ao, cap, vs.take j, by simp; omega, by simp; omega, by simp; omega, fun hp => ?_, fun i hi hv => ?_⟩
  · simp at hp
    obtain ⟨b, off, e, hF, hc⟩ := h3 (by omega)
    refine ⟨b, off, e, hF, fun i hi hv => ?_⟩
    simp at hi hv
    simp only [List.getElem_take]
    exact hc i (by omega) (by omega)
  · simp at hi hv
    simp only [List.getElem_take]
    exact h4 i (by omega) (by omega)

set_option maxRecDepth 100000 in
set_option maxHeartbeats 1000000 in
theorem few_any {w : World} {F : Nat → Prop} {v : Value} {rs : List Rc} (h : Rs w F v rs) (hlen : rs.length ≤ 140737488355328) (hls : ∀ r ∈ rs, r.l.length ≤ 140737488355328) :
    Calls Try.prog 10 #[v] w fun e w' => ∃ q : Bool, e = .returned (.bool q) ∧ (q = true → rs.length ≤ 400) ∧ Below w.heap.size w w' := by
  obtain ⟨ao, cap, e, hcap⟩ := h.slice
  subst e
  obtain ⟨m, hm, hmin⟩ : ∃ m : Nat, m ≤ rs.length ∧ (if (500 : Int) < (rs.length : Int) then (500 : Int) else (rs.length : Int)) = (m : Int) := by
    by_cases h5 : 500 < rs.length
    · exact ⟨500, by omega, by rw [if_pos (by omega)]; rfl⟩
    · exact ⟨rs.length, Nat.le_refl _, by rw [if_neg (by omega)]⟩
  obtain ⟨L, hL⟩ : ∃ L, rs.length = L := ⟨_, rfl⟩
  rw [hL] at hm hmin hlen hcap ⊢
  have HL := hide hL
  have H := hide h
  have Hls := hide hls
  clear h hL hls
  go_enter Try.func10, Try.ntmps10
  go_wp2_with fail
  go_loopw [3, 12] (fun nv iv wr => ∃ k n : Nat, k ≤ m ∧ n ≤ 1048576 ∧ iv = .int .i64 (k : Int) ∧ nv = .int .i64 (n : Int) ∧ Below w.heap.size w wr) (fun _ iv _ => m - (intOf iv).toNat)
  case atStart => exact ⟨0, 0, Nat.zero_le _, by omega, rfl, rfl, Below.refl _ _⟩
  case round =>
    obtain ⟨k, n, hk, hn, rfl, rfl, hbr⟩ := hrel
    by_cases hkm : k < m
    · have hkl : k < rs.length := by have := HL.out; omega
      obtain ⟨-, b1, o1, u1, rfl, -, hat, hub, -⟩ := (H.out.mono hbr).at k hkl
      have hll := Hls.out _ (List.getElem_mem hkl)
      generalize rs[k] = x at *
      obtain ⟨ua, uc, rfl, -⟩ := id hub
      have x0 := hat.c0
      have x1 := hat.c1
      have x2 := hat.c2
      have x3 := hat.c3
      have x4 := hat.c4
      obtain ⟨a, ha, hmin2⟩ : ∃ a : Nat, a ≤ 1048576 ∧ (if (1048576 : Int) < (x.l.length : Int) then (1048576 : Int) else (x.l.length : Int)) = (a : Int) := by
        by_cases h5 : 1048576 < x.l.length
        · exact ⟨1048576, by omega, by rw [if_pos (by omega)]; rfl⟩
        · exact ⟨x.l.length, by omega, by rw [if_neg (by omega)]⟩
      obtain ⟨c, hc, hmin3⟩ : ∃ c : Nat, c ≤ 1048576 ∧ (if (1048576 : Int) < (n : Int) + (a : Int) then (1048576 : Int) else (n : Int) + (a : Int)) = (c : Int) := by
        by_cases h5 : 1048576 < n + a
        · exact ⟨1048576, by omega, by rw [if_pos (by omega)]; rfl⟩
        · exact ⟨n + a, by omega, by rw [if_neg (by omega)]; omega⟩
      clear hat hub
      go_wp2_with fail
      go_roundw
      case rel => exact ⟨k + 1, c, by omega, by omega, by go_num, by go_num, hbr.alloc (by have := hbr.size; omega) _⟩
      case measure => simp [intOf]; omega
    · obtain rfl : k = m := by omega
      by_cases hq : L ≤ 400
      · go_wp2_with fail
        go_ret
        exact ⟨_, rfl, fun _ => hq, hbr⟩
      · go_wp2_with fail
        go_ret
        first
        | exact ⟨false, rfl, by simp, hbr⟩
        | exact ⟨rfl, hbr⟩
        | exact .inl ⟨rfl, hbr⟩
end Go.Proofs.Ytgdlbfoihpdlhaa
