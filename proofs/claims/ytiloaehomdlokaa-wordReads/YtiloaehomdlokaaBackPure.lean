/- Numbers in as few bytes as can be, there and back: the plain mathematics. No program is named here. -/
import Derived.Test.YtiloaehomdlokaaPure
set_option linter.unusedSimpArgs false
set_option linter.unusedVariables false
namespace Go.Attic

theorem getD_app (a b : List Nat) (i : Nat) (h : i < a.length) : (a ++ b).getD i 0 = a.getD i 0 := by
  simp [List.getD, List.getElem?_append_left h]

theorem uvar_getD {v k : Nat} (hv : v < 2 ^ 64) (b : List Nat) (hk : k < ulen v - 1) : (uvarN v ++ b).getD k 0 = v / 2 ^ (7 * k) % 128 + 128 := by
  have hl := uvarN_length hv
  rw [getD_app _ _ _ (by omega), uvarN, getD_app _ _ _ (by rw [grp_length]; omega)]
  simp [grp, List.getD, hk]

theorem uvar_getD_last {v : Nat} (hv : v < 2 ^ 64) (b : List Nat) : (uvarN v ++ b).getD (ulen v - 1) 0 = v / 2 ^ (7 * (ulen v - 1)) := by
  have hl := uvarN_length hv
  have hp := ulen_pos hv
  rw [getD_app _ _ _ (by omega), uvarN]
  rw [List.getD_eq_getElem?_getD, List.getElem?_append_right (by rw [grp_length]; omega), grp_length, Nat.sub_self]
  rfl

theorem takeV_uvar {v : Nat} (hv : v < 2 ^ 64) (b : List Nat) (k : Nat) (hk : k ≤ ulen v - 1) : takeV (uvarN v ++ b) k = v % 2 ^ (7 * k) := by
  induction k with
  | zero => simp [takeV, Nat.mod_one]
  | succ k ih =>
    simp only [takeV]
    rw [ih (by omega), uvar_getD hv b (by omega), pow7, Nat.mul_comm 128, Nat.mod_mul, Nat.mul_comm (2 ^ (7 * k))]
    congr 2
    omega

theorem takeV_uvar_all {v : Nat} (hv : v < 2 ^ 64) (b : List Nat) : takeV (uvarN v ++ b) (ulen v) = v := by
  have hp := ulen_pos hv
  have hlast := uvar_last hv
  obtain ⟨n, hn⟩ : ∃ n, ulen v = n + 1 := ⟨ulen v - 1, by omega⟩
  have h1 := takeV_uvar hv b (ulen v - 1) (Nat.le_refl _)
  have h2 := uvar_getD_last hv b
  rw [hn, Nat.add_sub_cancel] at h1 h2 hlast
  rw [hn]
  simp only [takeV]
  rw [h1, h2, Nat.mod_eq_of_lt hlast]
  exact Nat.mod_add_div' v (2 ^ (7 * n))

theorem takeA_uvar {v : Nat} (hv : v < 2 ^ 64) (b : List Nat) (f k : Nat) (hk : k ≤ ulen v - 1) (hf : f + k = 10) : takeA (uvarN v ++ b) f k = (v, ulen v, 0) := by
  have hp := ulen_pos hv
  have h10 := ulen_le10 hv
  have hl := uvarN_length hv
  induction f generalizing k with
  | zero => omega
  | succ f ih =>
    have hlen : ¬ (uvarN v ++ b).length ≤ k := by simp; omega
    rw [takeA, if_neg hlen]
    rcases Nat.lt_or_ge k (ulen v - 1) with h | h
    · rw [uvar_getD hv b h, if_neg (by omega), if_neg (by omega)]
      exact ih (k + 1) (by omega) (by omega)
    · obtain rfl : k = ulen v - 1 := by omega
      have hlast := uvar_last hv
      have h1 : ulen v - 1 = 9 → v / 2 ^ (7 * (ulen v - 1)) ≤ 1 := by
        intro h9
        rw [h9]
        have : v / 2 ^ (7 * 9) < 2 := by rw [Nat.div_lt_iff_lt_mul (Nat.two_pow_pos _)]; omega
        omega
      have h2 : 0 < ulen v - 1 → v / 2 ^ (7 * (ulen v - 1)) ≠ 0 := by
        intro h0 hz
        have h3 : v < 2 ^ (7 * (ulen v - 1)) := by
          rcases Nat.lt_or_ge v (2 ^ (7 * (ulen v - 1))) with h | h
          · exact h
          · have := Nat.div_pos h (Nat.two_pow_pos _); omega
        have := ulen_le h3 (by omega) (by omega)
        omega
      rw [uvar_getD_last hv b, if_neg (by omega), if_pos hlast, show ulen v - 1 + 1 = ulen v by omega, takeV_uvar_all hv b]

theorem takeN_uvar {v : Nat} (hv : v < 2 ^ 64) (b : List Nat) : takeN (uvarN v ++ b) = (v, ulen v, 0) := takeA_uvar hv b 10 0 (by omega) (by omega)

/-- What is taken has the form of a number. -/
theorem takeA_ok (l : List Nat) (f k : Nat) (hf : f + k = 10) (hpre : ∀ j, j < k → 128 ≤ l.getD j 0) {y m : Nat} (h : takeA l f k = (y, m, 0)) :
    ∃ j, j ≤ 9 ∧ j < l.length ∧ m = j + 1 ∧ y = takeV l (j + 1) ∧ (∀ i, i < j → 128 ≤ l.getD i 0) ∧ l.getD j 0 < 128 ∧ (j = 9 → l.getD j 0 ≤ 1) ∧ (0 < j → l.getD j 0 ≠ 0) := by
  induction f generalizing k with
  | zero => simp [takeA] at h
  | succ f ih =>
    rw [takeA] at h
    by_cases h1 : l.length ≤ k
    · rw [if_pos h1] at h; simp at h
    · rw [if_neg h1] at h
      by_cases h2 : (k = 9 ∧ 1 < l.getD k 0) ∨ (0 < k ∧ l.getD k 0 = 0)
      · rw [if_pos h2] at h; simp at h
      · rw [if_neg h2] at h
        by_cases h3 : l.getD k 0 < 128
        · rw [if_pos h3] at h
          injection h with e1 e2
          injection e2 with e2 e3
          exact ⟨k, by omega, by omega, e2.symm, e1.symm, hpre, h3, by omega, by omega⟩
        · rw [if_neg h3] at h
          refine ih (k + 1) (by omega) (fun j hj => ?_) h
          rcases Nat.lt_or_ge j k with hj' | hj'
          · exact hpre j hj'
          · obtain rfl : j = k := by omega
            omega

theorem takeV_grp (l : List Nat) (k i : Nat) (hi : i < k) : takeV l k / 2 ^ (7 * i) % 128 = l.getD i 0 % 128 := by
  induction k with
  | zero => omega
  | succ k ih =>
    simp only [takeV]
    rcases Nat.lt_or_ge i k with h | h
    · have e : l.getD k 0 % 128 * 2 ^ (7 * k) = 2 ^ (7 * i) * (128 * (l.getD k 0 % 128 * 2 ^ (7 * (k - i - 1)))) := by
        have e2 : 2 ^ (7 * k) = 2 ^ (7 * i) * (128 * 2 ^ (7 * (k - i - 1))) := by
          rw [show (128 : Nat) = 2 ^ 7 from rfl, ← Nat.pow_add, ← Nat.pow_add]; congr 1; omega
        rw [e2, Nat.mul_left_comm (l.getD k 0 % 128), Nat.mul_left_comm (l.getD k 0 % 128)]
      rw [e, Nat.add_mul_div_left _ _ (Nat.two_pow_pos _), Nat.add_mul_mod_self_left]
      exact ih h
    · obtain rfl : i = k := by omega
      have h1 := takeV_lt l i
      rw [Nat.mul_comm, Nat.add_mul_div_left _ _ (Nat.two_pow_pos _), Nat.div_eq_of_lt h1, Nat.zero_add]
      omega

theorem takeN_form (l : List Nat) (hl : ∀ x ∈ l, x < 256) {y m : Nat} (h : takeN l = (y, m, 0)) : m ≤ l.length ∧ y < 2 ^ 64 ∧ uvarN y = l.take m := by
  obtain ⟨j, hj9, hjl, rfl, rfl, hpre, hlt, h9, h0⟩ := takeA_ok l 10 0 (by omega) (fun j hj => by omega) h
  have hy : takeV l (j + 1) < 2 ^ 64 := takeV_lt64 l j hj9 h9
  refine ⟨by omega, hy, ?_⟩
  have hV := takeV_lt l j
  have hdj : takeV l (j + 1) / 2 ^ (7 * j) = l.getD j 0 := by
    simp only [takeV]
    rw [Nat.mul_comm, Nat.add_mul_div_left _ _ (Nat.two_pow_pos _), Nat.div_eq_of_lt hV, Nat.zero_add, Nat.mod_eq_of_lt hlt]
  have hu : ulen (takeV l (j + 1)) = j + 1 := by
    apply ulen_eq hy hj9
    · rw [hdj]; exact hlt
    · rcases Nat.eq_zero_or_pos j with hz | hz
      · exact .inl hz
      · right
        have h1 : takeV l (j + 1) / 2 ^ (7 * (j - 1)) / 128 = takeV l (j + 1) / 2 ^ (7 * j) := by
          rw [Nat.div_div_eq_div_mul]; congr 1
          rw [show (128 : Nat) = 2 ^ 7 from rfl, ← Nat.pow_add]; congr 1; omega
        rw [hdj] at h1
        have := h0 hz
        omega
  rw [uvarN, hu, Nat.add_sub_cancel, hdj]
  rw [List.take_succ_eq_append_getElem hjl]
  have e1 : l.getD j 0 = l[j] := by simp [List.getD, hjl]
  rw [e1]
  congr 1
  apply List.ext_getElem
  · simp [grp]; omega
  · intro i h1 h2
    have hi : i < j := by simpa [grp] using h1
    have hg := takeV_grp l (j + 1) i (by omega)
    have hp := hpre i hi
    have hb := getD_lt hl i
    have e2 : l.getD i 0 = l[i] := by simp [List.getD, show i < l.length by omega]
    simp only [grp, List.getElem_map, List.getElem_range, List.getElem_take]
    rw [hg]
    omega

end Go.Attic
