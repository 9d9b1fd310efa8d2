/- Contracts: the document's num and number. -/
import Derived.Test.YtcfmadgehpmboaaRP
set_option linter.unusedSimpArgs false
set_option linter.unusedVariables false
namespace Go.Proofs.Ytcfmadgehpmboaa
open Go.RowKit Go.Attic

theorem div_pow (n k : Nat) : n / 2 ^ (8 * k) / 256 = n / 2 ^ (8 * (k + 1)) := by
  rw [Nat.div_div_eq_div_mul, pow8, Nat.mul_comm]

set_option maxRecDepth 100000 in
set_option maxHeartbeats 400000 in
theorem rnum_own (base : Nat) (v : Value) (xs : List Nat) (n many : Nat) (w : World) (ho : w.ownsRow base 5 1 v xs.length (cellsB xs)) (hbs : base ≤ w.heap.size) (hn : n < 2 ^ 64) (hm : many ≤ 8) (hl : xs.length ≤ 1000) :
    Calls Try.prog 25 #[v, .int .u64 n, .int .i64 many] w fun e w' => ∃ v', e = .returned v' ∧ w'.ownsRow base 5 1 v' (xs.length + many) (cellsB (xs ++ numN many n)) ∧ Below base w w' ∧ base ≤ w'.heap.size := by
  obtain ⟨i0, hi, hz0, hz1, hz2⟩ := info_parts Try.info5
  have ho0 : w.ownsRow base 5 1 v (xs.length + 0) (cellsB (xs ++ numN 0 n)) := by simpa [numN] using ho
  have hn0 : n = n / 2 ^ (8 * 0) := by simp
  clear ho
  go_enter Try.func25, Try.ntmps25
  go_wp2_with fail
  go_loopw [0, 1, 7] (fun v n' i wr => ∃ k : Nat, k ≤ many ∧ i = .int .i64 k ∧ n' = .int .u64 (n / 2 ^ (8 * k) : Nat) ∧ wr.ownsRow base 5 1 v (xs.length + k) (cellsB (xs ++ numN k n)) ∧ Below base w wr ∧ base ≤ wr.heap.size) (fun _ _ i _ => many - (intOf i).toNat)
  case atStart => exact ⟨0, Nat.zero_le _, rfl, by rw [← hn0], ho0, Below.refl _ _, hbs⟩
  case round =>
    clear ho0 hn0
    obtain ⟨k, hk, rfl, rfl, hown, hb, hz⟩ := hrel
    by_cases hkn : k < many
    · have hdiv := hide (div_pow n k)
      have hq : n / 2 ^ (8 * k) < 2 ^ 64 := Nat.lt_of_le_of_lt (Nat.div_le_self _ _) hn
      have hsn := hide (numN_succ k n)
      generalize n / 2 ^ (8 * k) = q at *
      go_wp2_with (at_builtin; refine wpList_append_bs _ rfl (.tmp 13) (.tmp 16) 22 rfl base 5 i0 (.int .u8 0) Try.underlying22 hi hz0 hz1 hz2 rfl _ _ (xs ++ numN k n) rfl (hown.alloc _) _ [q % 256] rfl (Bs.one _ _ _ _ (by simp) (by omega)) (by simp; omega) (by simp; omega) ?_; intro v' w1 hown' hgrow)
      have hb1 : Below base w w1 := (hb.alloc hz _).grown hgrow (by simp; omega) (owns_lt hown)
      have hz1' : base ≤ w1.heap.size := Nat.le_trans hz (Nat.le_trans (by simp) hgrow.size)
      rw [List.append_assoc, ← hsn.out] at hown'
      clear hgrow hown
      go_wp2_with fail
      go_roundw
      case rel => exact ⟨k + 1, by omega, by go_num, by rw [← hdiv.out]; simp, hown', hb1, hz1'⟩
      case measure => simp [intOf]; omega
    · obtain rfl : k = many := by omega
      go_wp2_with fail
      go_ret
      exact ⟨_, rfl, hown, hb, hz⟩

/-- Bytes as a number, the highest first taken. -/
def hornN : List Nat → Nat
  | [] => 0
  | x :: t => hornN t * 256 + x
theorem hornN_lt {l : List Nat} (h : ∀ x ∈ l, x < 256) : hornN l < 256 ^ l.length := by
  induction l with
  | nil => simp [hornN]
  | cons x t ih =>
    have h1 := ih (fun y hy => h y (by simp [hy]))
    have h2 := h x (by simp)
    simp only [hornN, List.length_cons, Nat.pow_succ]
    omega
theorem getN_cons (x : Nat) (t : List Nat) (k : Nat) : getN (x :: t) 0 (k + 1) = getN t 0 k * 256 + x := by
  induction k with
  | zero => simp [getN]
  | succ k ih =>
    rw [show getN (x :: t) 0 (k + 1 + 1) = getN (x :: t) 0 (k + 1) + (x :: t).getD (0 + (k + 1)) 0 * 2 ^ (8 * (k + 1)) from rfl, ih,
      show getN t 0 (k + 1) = getN t 0 k + t.getD (0 + k) 0 * 2 ^ (8 * k) from rfl, pow8]
    simp only [Nat.zero_add, List.getD_cons_succ, Nat.add_mul]
    rw [Nat.mul_assoc, Nat.mul_comm (2 ^ (8 * k)) 256]
    omega
theorem hornN_get (l : List Nat) : hornN l = getN l 0 l.length := by
  induction l with
  | nil => rfl
  | cons x t ih => rw [List.length_cons, getN_cons, ← ih]; rfl
theorem hornN_drop (l : List Nat) (j : Nat) (h : j < l.length) : hornN (l.drop j) = hornN (l.drop (j + 1)) * 256 + l.getD j 0 := by
  rw [List.drop_eq_getElem_cons h]
  simp [hornN, List.getD, h]
theorem hornN_lt64 {l : List Nat} (h : ∀ x ∈ l, x < 256) (h8 : l.length ≤ 8) (j : Nat) : hornN (l.drop j) < 18446744073709551616 := by
  have h1 := hornN_lt (l := l.drop j) (fun x hx => h x (List.mem_of_mem_drop hx))
  have h2 : 256 ^ (l.drop j).length ≤ 256 ^ 8 := Nat.pow_le_pow_right (by omega) (by simp; omega)
  have h3 : (256 : Nat) ^ 8 = 18446744073709551616 := by decide
  omega

set_option maxRecDepth 100000 in
set_option maxHeartbeats 400000 in
theorem number_any (v : Value) (l : List Nat) (w : World) (h : Bs w v l) (h8 : l.length ≤ 8) :
    Calls Try.prog 35 #[v] w fun e w' => e = .returned (.int .u64 (getN l 0 l.length : Nat)) ∧ w = w' := by
  have hlt := h.lt
  rw [← hornN_get]
  obtain ⟨ao, cap, rfl, hl, hnn, hx, hc⟩ := h
  clear hx hnn hl
  go_enter Try.func35, Try.ntmps35
  go_wp2_with fail
  go_loop [3, 4] (fun s i => ∃ k : Nat, k ≤ l.length ∧ i = .int .i64 ((k : Int) - 1) ∧ s = .int .u64 (hornN (l.drop k) : Nat)) (fun _ i => (intOf i + 1).toNat)
  case atStart => exact ⟨l.length, Nat.le_refl _, by go_num, by simp [hornN]⟩
  case round =>
    obtain ⟨k, hk, rfl, rfl⟩ := hrel
    by_cases hk0 : 0 < k
    · obtain ⟨j, rfl⟩ : ∃ j, k = j + 1 := ⟨k - 1, by omega⟩
      obtain ⟨b, off, rfl, hcell⟩ := hc (by omega)
      have hck := hcell j (by omega)
      have hd := hornN_drop l j (by omega)
      have hb := hornN_lt64 hlt h8 j
      have hcl := getD_lt hlt j
      rw [hd] at hb
      have Hd := hide hd
      clear hd
      generalize hornN (l.drop (j + 1)) = q at *
      generalize l.getD j 0 = x at *
      rw [show ((j + 1 : Nat) : Int) - 1 = (j : Int) by omega]
      clear hcell hc
      go_wp2_with fail
      go_round
      case rel => exact ⟨j, by omega, by go_num, by rw [Hd.out]; go_num⟩
      case measure => simp [intOf]
    · obtain rfl : k = 0 := by omega
      go_wp2_with fail
      go_ret
      exact ⟨rfl, rfl⟩

end Go.Proofs.Ytcfmadgehpmboaa
