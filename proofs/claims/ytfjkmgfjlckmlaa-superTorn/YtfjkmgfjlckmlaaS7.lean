/- Contracts: the document's num, Same; what fields tells of 256 bytes. -/
import Derived.Test.YtfjkmgfjlckmlaaS6
import Derived.Deep.QuietTactic
import Derived.BigQuiet
set_option linter.unusedSimpArgs false
set_option linter.unusedVariables false
namespace Go.Proofs.Ytfjkmgfjlckmlaa
open Go.RowKit Go.Attic

theorem wrap64_id {n : Nat} (h : n < 9223372036854775808) : wrap64 (n : Int) = n := by unfold wrap64; omega
theorem wrap64_range (n : Int) : -9223372036854775808 ≤ wrap64 n ∧ wrap64 n ≤ 9223372036854775807 := by unfold wrap64; omega

theorem getN_drop (L : List Nat) (m p k : Nat) : getN (L.drop m) p k = getN L (m + p) k := by
  induction k with
  | zero => rfl
  | succ k ih =>
    simp only [getN]
    rw [ih, List.getD_eq_getElem?_getD, List.getD_eq_getElem?_getD, List.getElem?_drop, show m + (p + k) = m + p + k by omega]

theorem numS_get (L : List Nat) (m n : Nat) (h1 : 1 ≤ n) (h8 : n ≤ 8) (h : m + n ≤ L.length) : numS (L.drop m) 0 n = (getN L m n, L.drop (m + n), 0) := by
  have hw : widthB (n : Int) = true := by simp [widthB]; omega
  have hg : getB (L.drop m) 0 n = true := by simp [getB, hw]; omega
  have hv : getV (L.drop m) 0 n = getN L m n := by
    simp only [getV, hg, if_true, Int.toNat_natCast]
    rw [show (0 : Int).toNat = 0 from rfl, getN_drop, Nat.add_zero]
  simp [numS, hw, hg, hv, List.drop_drop]

theorem getV_get (L : List Nat) (m n : Nat) (h1 : 1 ≤ n) (h8 : n ≤ 8) (h : m + n ≤ L.length) : getV L m n = getN L m n := by
  have hw : widthB (n : Int) = true := by simp [widthB]; omega
  have hg : getB L m n = true := by simp [getB, hw]; omega
  simp only [getV, hg, if_true, Int.toNat_natCast]

theorem fields_256 {L : List Nat} (h : L.length = 256) : fEp L = wrap64 (getN L 8 8 : Nat) ∧ fB L = wrap64 (getN L 16 4 : Nat) ∧ fL L = wrap64 (getN L 20 4 : Nat) ∧ fD L = wrap64 (getN L 24 4 : Nat) ∧ fX L = wrap64 (getN L 28 4 : Nat) ∧ fH L = wrap64 (getN L 32 8 : Nat) := by
  have e0 : rd0 L = (L.drop 8, 0) := by
    unfold rd0 bytesS
    rw [if_neg (by simp), if_neg (by omega), if_neg (by omega)]
    rfl
  have s1 : st1 L = (L.drop 16, 0) := by unfold st1 rdn; rw [e0]; have := numS_get L 8 8 (by omega) (by omega) (by omega); simp only [this, show ((8 : Nat) : Int) = 8 from rfl] at *; simp [this]
  have s2 : st2 L = (L.drop 20, 0) := by unfold st2 rdn; rw [s1]; have := numS_get L 16 4 (by omega) (by omega) (by omega); simp only [show ((4 : Nat) : Int) = 4 from rfl] at this; simp [this]
  have s3 : st3 L = (L.drop 24, 0) := by unfold st3 rdn; rw [s2]; have := numS_get L 20 4 (by omega) (by omega) (by omega); simp only [show ((4 : Nat) : Int) = 4 from rfl] at this; simp [this]
  have s4 : st4 L = (L.drop 28, 0) := by unfold st4 rdn; rw [s3]; have := numS_get L 24 4 (by omega) (by omega) (by omega); simp only [show ((4 : Nat) : Int) = 4 from rfl] at this; simp [this]
  have s5 : st5 L = (L.drop 32, 0) := by unfold st5 rdn; rw [s4]; have := numS_get L 28 4 (by omega) (by omega) (by omega); simp only [show ((4 : Nat) : Int) = 4 from rfl] at this; simp [this]
  refine ⟨?_, ?_, ?_, ?_, ?_, ?_⟩
  · unfold fEp rdv; rw [e0]; have := numS_get L 8 8 (by omega) (by omega) (by omega); simp only [show ((8 : Nat) : Int) = 8 from rfl] at this; simp [this]
  · unfold fB rdv; rw [s1]; have := numS_get L 16 4 (by omega) (by omega) (by omega); simp only [show ((4 : Nat) : Int) = 4 from rfl] at this; simp [this]
  · unfold fL rdv; rw [s2]; have := numS_get L 20 4 (by omega) (by omega) (by omega); simp only [show ((4 : Nat) : Int) = 4 from rfl] at this; simp [this]
  · unfold fD rdv; rw [s3]; have := numS_get L 24 4 (by omega) (by omega) (by omega); simp only [show ((4 : Nat) : Int) = 4 from rfl] at this; simp [this]
  · unfold fX rdv; rw [s4]; have := numS_get L 28 4 (by omega) (by omega) (by omega); simp only [show ((4 : Nat) : Int) = 4 from rfl] at this; simp [this]
  · unfold fH rdv; rw [s5]; have := numS_get L 32 8 (by omega) (by omega) (by omega); simp only [show ((8 : Nat) : Int) = 8 from rfl] at this; simp [this]

theorem fields_isS {L : List Nat} {ep b l d x h : Nat} (k : IsS L ep b l d x h) : fEp L = ep ∧ fB L = b ∧ fL L = l ∧ fD L = d ∧ fX L = x ∧ fH L = h := by
  obtain ⟨h0, h1, h2, h3, h4, h5⟩ := fields_256 k.len
  obtain ⟨n0, n1, n2, n3, n4, n5⟩ := k.nums
  have r := okS_range k.1
  rw [h0, h1, h2, h3, h4, h5, n0, n1, n2, n3, n4, n5]
  exact ⟨wrap64_id (by omega), wrap64_id (by omega), wrap64_id (by omega), wrap64_id (by omega), wrap64_id (by omega), wrap64_id (by omega)⟩

set_option maxRecDepth 100000 in
set_option maxHeartbeats 400000 in
theorem rfield_any (v : Value) (L : List Nat) (p n : Int) (w : World) (hv : Bs w v L) (hlen : L.length ≤ 140737488355328) :
    Calls Try.prog 33 #[v, .int .i64 p, .int .i64 n] w fun e w' => e = .returned (.int .i64 (wrap64 (getV L p n : Nat))) ∧ w = w' := by
  have hg := rget_any v L p n w hv hlen
  generalize getV L p n = q at *
  generalize getB L p n = r at *
  obtain ⟨ao, cap, rfl, -⟩ := hv
  go_enter Try.func33, Try.ntmps33
  go_wp2_with fail
  refine hg.mono ?_
  rintro e w' ⟨rfl, rfl⟩
  go_wp2_with fail
  go_ret
  exact ⟨rfl, rfl⟩

theorem list_eq_of_getD {xs ys : List Nat} (hl : xs.length = ys.length) (h : ∀ j, j < xs.length → xs.getD j 0 = ys.getD j 0) : xs = ys := by
  apply List.ext_getElem hl
  intro i h1 h2
  have := h i h1
  simpa [List.getD_eq_getElem?_getD, h1, h2] using this

set_option maxRecDepth 100000 in
set_option maxHeartbeats 400000 in
theorem same_any (v1 v2 : Value) (xs ys : List Nat) (w : World) (h1 : Bs w v1 xs) (h2 : Bs w v2 ys) (hlen : xs.length ≤ 140737488355328) (hlen2 : ys.length ≤ 140737488355328) :
    Calls Try.prog 34 #[v1, v2] w fun e w' => e = .returned (.bool (decide (xs = ys))) ∧ Below w.heap.size w w' := by
  have g1 := h1
  have g2 := h2
  obtain ⟨ao, cap, rfl, hc1, -, hx1, hcell1⟩ := h1
  obtain ⟨bo, cbp, rfl, hc2, -, hx2, hcell2⟩ := h2
  by_cases hl : xs.length = ys.length
  · rw [← hl]
    have hl1 : xs.length ≤ ys.length := by omega
    obtain ⟨q, hq⟩ : ∃ q, decide (xs = ys) = q := ⟨_, rfl⟩
    rw [hq]
    have Hq := hide hq
    have Hl := hide hl
    clear hq hl
    go_enter Try.func34, Try.ntmps34
    go_wp2_with fail
    go_loopw [5] (fun i wr => ∃ k : Nat, k ≤ xs.length ∧ i = .int .i64 k ∧ (∀ j, j < k → xs.getD j 0 = ys.getD j 0) ∧ Below w.heap.size w wr) (fun i _ => xs.length - (intOf i).toNat)
    case atStart => exact ⟨0, Nat.zero_le _, rfl, fun j hj => absurd hj (Nat.not_lt_zero _), Below.refl _ _⟩
    case round =>
      obtain ⟨k, hk, rfl, hall, hb⟩ := hrel
      by_cases hkn : k < xs.length
      · obtain ⟨b1, o1, rfl, c1⟩ := hcell1 (by omega)
        obtain ⟨b2, o2, rfl, c2⟩ := hcell2 (by omega)
        have d1 : wr.cell? ⟨b1, o1 + k, none⟩ = some (.int .u8 ((xs.getD k 0 : Nat) : Int)) := by
          rw [hb.cell (p := ⟨b1, o1 + k, none⟩) (by have := World.block_lt_of_cell? w _ (c1 k hkn); simpa using this)]; exact c1 k hkn
        have d2 : wr.cell? ⟨b2, o2 + k, none⟩ = some (.int .u8 ((ys.getD k 0 : Nat) : Int)) := by
          rw [hb.cell (p := ⟨b2, o2 + k, none⟩) (by have := World.block_lt_of_cell? w _ (c2 k (by omega)); simpa using this)]; exact c2 k (by omega)
        have x1 := getD_lt hx1 k
        have x2 := getD_lt hx2 k
        by_cases he : xs.getD k 0 = ys.getD k 0
        · have hall' : ∀ j, j < k + 1 → xs.getD j 0 = ys.getD j 0 := fun j hj => by
            by_cases hj2 : j < k
            · exact hall j hj2
            · obtain rfl : j = k := by omega
              exact he
          have Hall := hide hall'
          rw [he] at d1
          clear he hall hall' c1 c2 hcell1 hcell2 g1 g2
          generalize ys.getD k 0 = q at *
          go_wp2_with fail
          go_quiet (fail)
          go_wp2_with fail
          go_roundw
          case rel => exact ⟨k + 1, by omega, by go_num, Hall.out, below_drewN hb _⟩
          case measure => simp [intOf]; omega
        · have hne : xs ≠ ys := fun e => he (by rw [e])
          have hqf : q = false := Hq.out.symm.trans (decide_eq_false hne)
          subst hqf
          have hn : ((xs.getD k 0 : Nat) : Int) ≠ ((ys.getD k 0 : Nat) : Int) := fun e => he (by omega)
          have hnb : (((xs.getD k 0 : Nat) : Int) != ((ys.getD k 0 : Nat) : Int)) = true := by simpa using hn
          clear he hall c1 c2 hcell1 hcell2 hne hn g1 g2
          generalize ys.getD k 0 = q at *
          generalize xs.getD k 0 = r at *
          go_wp2_with fail
          go_quiet (fail)
          go_wp2_with fail
          go_ret
          exact ⟨rfl, below_drewN hb _⟩
      · obtain rfl : k = xs.length := by omega
        have hqt : q = true := Hq.out.symm.trans (decide_eq_true (list_eq_of_getD Hl.out hall))
        subst hqt
        clear hall hcell1 hcell2 g1 g2
        go_wp2_with fail
        go_ret
        exact ⟨rfl, hb⟩
  · rw [show decide (xs = ys) = false from decide_eq_false (fun e => hl (by rw [e]))]
    have hn : ((xs.length : Int) != (ys.length : Int)) = true := by simp; omega
    clear hcell1 hcell2 hl g1 g2
    go_enter Try.func34, Try.ntmps34
    go_wp2_with fail
    go_ret
    exact ⟨rfl, Below.refl _ _⟩

end Go.Proofs.Ytfjkmgfjlckmlaa
