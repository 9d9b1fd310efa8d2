/- Contract: replay.unlikeEnd. -/
import Derived.Test.YtgdlbfoihpdlhaaK4
import Derived.Test.YtgdlbfoihpdlhaaP3
set_option linter.unusedSimpArgs false
set_option linter.unusedVariables false
namespace Go.Proofs.Ytgdlbfoihpdlhaa
open Go.RowKit Go.Attic

theorem bs_at {w : World} {ao : Option Addr} {n cap : Nat} {l : List Nat} (h : Bs w (.slice ao n cap) l) (i : Nat) (hi : i < l.length) : ∃ b off, ao = some ⟨b, off, none⟩ ∧ w.cell? ⟨b, off + i, none⟩ = some (.int .u8 ((l.getD i 0 : Nat) : Int)) := by
  obtain ⟨_, _, e, _, _, _, hc⟩ := h
  injection e with e
  obtain ⟨b, off, e2, hc⟩ := hc (by omega)
  exact ⟨b, off, by rw [e, e2], hc i hi⟩

set_option maxRecDepth 100000 in
set_option maxHeartbeats 1000000 in
theorem unlike_any {w : World} {aa ba : Option Addr} {n ac bc : Nat} {A B : List Nat} (hA : Bs w (.slice aa n ac) A) (hB : Bs w (.slice ba n bc) B) (hn : n ≤ 140737488355328) :
    Calls Try.prog 38 #[.slice aa n ac, .slice ba n bc] w fun e w' => e = .returned (.int .i64 (lastE A B n : Nat)) ∧ Below w.heap.size w w' := by
  have hAl := hA.len
  have hBl := hB.len
  obtain ⟨G, hG⟩ : ∃ G, lastE A B n = G := ⟨_, rfl⟩
  rw [hG]
  have HG := hide hG
  have HA := hide hA
  have HB := hide hB
  have HAl := hide hAl
  have HBl := hide hBl
  clear hG hA hB hAl hBl
  go_enter Try.func38, Try.ntmps38
  go_wp2_with fail
  go_loopw [5] (fun ev wr => ∃ t : Nat, t ≤ n ∧ ev = .int .i64 (t : Int) ∧ lastE A B t = G ∧ Below w.heap.size w wr) (fun ev _ => (intOf ev).toNat)
  case atStart => exact ⟨n, Nat.le_refl _, rfl, HG.out, Below.refl _ _⟩
  case round =>
    obtain ⟨t, ht, rfl, hG, hbr⟩ := hrel
    by_cases ht0 : 0 < t
    · obtain ⟨s, rfl⟩ : ∃ s, t = s + 1 := ⟨t - 1, by omega⟩
      obtain ⟨b1, o1, rfl, hc1⟩ := bs_at (HA.out.mono hbr) s (by have := HAl.out; omega)
      obtain ⟨b2, o2, rfl, hc2⟩ := bs_at (HB.out.mono hbr) s (by have := HBl.out; omega)
      have hd : dif A B s = decide (A.getD s 0 ≠ B.getD s 0) := rfl
      generalize A.getD s 0 = x at *
      generalize B.getD s 0 = y at *
      have hsn : ((s + 1 : Nat) : Int) - 1 = (s : Int) := by omega
      have hg1 : decide (((s + 1 : Nat) : Int) > 0) = true := decide_eq_true (by omega)
      have hi0 : (0 : Int) ≤ (s : Int) := by omega
      have hi1 : (s : Int) < (n : Int) := by omega
      by_cases hxy : x = y
      · subst hxy
        have hd2 : dif A B s = false := by rw [hd]; simp
        have hG2 : lastE A B s = G := by rw [← hG]; simp [lastE, hd2]
        have HG2 := hide hG2
        clear hG hd hd2 hG2
        go_wp2_with fail
        go_quiet (fail)
        go_wp2_with fail
        go_roundw
        case rel => exact ⟨s, by omega, by first | rfl | go_num, HG2.out, below_drewN hbr _⟩
        case measure => simp [intOf]
      · have hxy2 : ((x : Int) == (y : Int)) = false := by simp; omega
        have hd2 : dif A B s = true := by rw [hd]; simp [hxy]
        have hG2 : s + 1 = G := by rw [← hG]; simp [lastE, hd2]
        have HG2 := hide hG2
        clear hG hd hd2 hG2
        go_wp2_with fail
        go_quiet (fail)
        have hx := HG2.out
        subst hx
        go_wp2_with fail
        go_ret
        exact ⟨rfl, below_drewN hbr _⟩
    · obtain rfl : t = 0 := by omega
      have hg1 : decide (((0 : Nat) : Int) > 0) = false := by decide
      have hG2 : G = 0 := by rw [← hG]; rfl
      go_wp2_with fail
      go_quiet (fail)
      subst hG2
      go_wp2_with fail
      go_ret
      exact ⟨rfl, below_drewN hbr _⟩
end Go.Proofs.Ytgdlbfoihpdlhaa
