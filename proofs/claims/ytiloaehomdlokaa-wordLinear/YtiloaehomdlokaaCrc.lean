/- CRC-32C is linear, and sees a burst: the plain mathematics. No program is named here. -/
import Derived.Test.YtiloaehomdlokaaPure
set_option linter.unusedSimpArgs false
set_option linter.unusedVariables false
namespace Go.Attic

theorem xor_div2 (a b : Nat) : (a ^^^ b) / 2 = a / 2 ^^^ b / 2 := Nat.xor_div_two

theorem xor_mod2 (a b : Nat) : (a ^^^ b) % 2 = (a % 2 + b % 2) % 2 := by
  have h := @Nat.xor_mod_two_eq_one a b
  omega

theorem stepN_xor (a b : Nat) : stepN (a ^^^ b) = stepN a ^^^ stepN b := by
  unfold stepN
  rw [xor_div2, xor_mod2]
  rcases Nat.mod_two_eq_zero_or_one a with ha | ha <;> rcases Nat.mod_two_eq_zero_or_one b with hb | hb
  · simp [ha, hb]
  · simp [ha, hb, Nat.xor_assoc]
  · simp [ha, hb]
    rw [Nat.xor_assoc, Nat.xor_comm (b / 2), ← Nat.xor_assoc]
  · simp [ha, hb]
    rw [Nat.xor_assoc, Nat.xor_comm 2197175160 (b / 2 ^^^ 2197175160), Nat.xor_assoc (b / 2), Nat.xor_self, Nat.xor_zero]

theorem stepsN_xor (k a b : Nat) : stepsN k (a ^^^ b) = stepsN k a ^^^ stepsN k b := by
  induction k with
  | zero => rfl
  | succ k ih => simp only [stepsN, ih, stepN_xor]

theorem stepN_double (x : Nat) : stepN (x * 2) = x := by simp [stepN]

theorem stepsN_succ' (k s : Nat) : stepsN (k + 1) s = stepsN k (stepN s) := by
  induction k generalizing s with
  | zero => rfl
  | succ k ih => rw [stepsN, ih]; rfl

theorem stepsN_add (j k s : Nat) : stepsN (j + k) s = stepsN k (stepsN j s) := by
  induction j generalizing s with
  | zero => simp [stepsN]
  | succ j ih => rw [show j + 1 + k = (j + k) + 1 by omega, stepsN_succ', ih, stepsN_succ']

theorem stepsN_shift (k x : Nat) : stepsN k (x * 2 ^ k) = x := by
  induction k with
  | zero => simp [stepsN]
  | succ k ih =>
    rw [stepsN_succ', Nat.pow_succ, ← Nat.mul_assoc, stepN_double, ih]

theorem stepN_ne {s : Nat} (h : s < 2 ^ 32) (h0 : s ≠ 0) : stepN s ≠ 0 := by
  unfold stepN
  rcases Nat.mod_two_eq_zero_or_one s with hs | hs
  · simp [hs]; omega
  · simp only [hs, if_true]
    intro e
    have h2 : s / 2 ^^^ (s / 2 ^^^ 2197175160) = s / 2 := by rw [e, Nat.xor_zero]
    rw [← Nat.xor_assoc, Nat.xor_self, Nat.zero_xor] at h2
    omega

theorem stepsN_ne {s : Nat} (h : s < 2 ^ 32) (h0 : s ≠ 0) (k : Nat) : stepsN k s ≠ 0 := by
  induction k with
  | zero => exact h0
  | succ k ih => exact stepN_ne (stepsN_lt h k) ih

/-- The bytes of a list, each eight bits on from the last, as one number. -/
def valN : List Nat → Nat
  | [] => 0
  | c :: l => c + valN l * 2 ^ 8

theorem add_xor (c x : Nat) (hc : c < 2 ^ 8) : c + x * 2 ^ 8 = c ^^^ (x * 2 ^ 8) := by
  apply Nat.eq_of_testBit_eq
  intro i
  rw [show c + x * 2 ^ 8 = 2 ^ 8 * x + c by omega, Nat.testBit_two_pow_mul_add _ hc, Nat.testBit_xor, show x * 2 ^ 8 = 2 ^ 8 * x by omega, Nat.testBit_two_pow_mul]
  by_cases hi : i < 8
  · simp [hi, show ¬ 8 ≤ i by omega]
  · have : c.testBit i = false := Nat.testBit_lt_two_pow (Nat.lt_of_lt_of_le hc (Nat.pow_le_pow_right (by omega) (by omega)))
    simp [hi, show 8 ≤ i by omega, this]

/-- All of a row is one long number that is shifted out. -/
theorem crcN_val (s : Nat) (l : List Nat) (hl : ∀ x ∈ l, x < 256) : crcN s l = stepsN (8 * l.length) (s ^^^ valN l) := by
  induction l generalizing s with
  | nil => simp [crcN, valN, stepsN]
  | cons c l ih =>
    have hc : c < 2 ^ 8 := hl c (by simp)
    have h := ih (stepsN 8 (s ^^^ c)) (fun x hx => hl x (by simp [hx]))
    show crcN (stepsN 8 (s ^^^ c)) l = _
    rw [h, List.length_cons, show 8 * (l.length + 1) = 8 + 8 * l.length by omega, stepsN_add]
    congr 1
    show _ = stepsN 8 (s ^^^ (c + valN l * 2 ^ 8))
    rw [add_xor c _ hc, ← Nat.xor_assoc, stepsN_xor 8 (s ^^^ c), stepsN_shift]

/-- A burst, wherever it lies, is seen. -/
theorem burst (l cl : List Nat) (p m : Nat) (hl : ∀ x ∈ l, x < 256) (hc : ∀ x ∈ cl, x < 256) (hlen : cl.length = l.length) (hm : m < 2 ^ 32)
    (hv : valN cl = valN l ^^^ (m * 2 ^ p)) (hp : m ≠ 0 → p < 8 * l.length) : (sumN l ≠ sumN cl) ↔ m ≠ 0 := by
  have e1 := crcN_val 4294967295 l hl
  have e2 := crcN_val 4294967295 cl hc
  rw [hlen, hv, ← Nat.xor_assoc, stepsN_xor, ← e1] at e2
  have b1 := crcN_lt (show 4294967295 < 2 ^ 32 by omega) l hl
  have b2 := crcN_lt (show 4294967295 < 2 ^ 32 by omega) cl hc
  have key : sumN l ≠ sumN cl ↔ crcN 4294967295 l ≠ crcN 4294967295 cl := by unfold sumN; omega
  rw [key]
  constructor
  · intro h h0
    apply h
    rw [e2, h0]
    have : stepsN (8 * l.length) (0 * 2 ^ p) = 0 := by
      have z : ∀ k, stepsN k 0 = 0 := by
        intro k
        induction k with
        | zero => rfl
        | succ k ih => rw [stepsN, ih]; rfl
      rw [Nat.zero_mul, z]
    rw [this, Nat.xor_zero]
  · intro h0 h
    have hp' := hp h0
    rw [show 8 * l.length = p + (8 * l.length - p) by omega, stepsN_add, stepsN_shift] at e2
    have hne := stepsN_ne hm h0 (8 * l.length - p)
    rw [← h] at e2
    have h3 : crcN 4294967295 l ^^^ crcN 4294967295 l = crcN 4294967295 l ^^^ (crcN 4294967295 l ^^^ stepsN (8 * l.length - p) m) := by rw [← e2]
    rw [Nat.xor_self, ← Nat.xor_assoc, Nat.xor_self, Nat.zero_xor] at h3
    exact hne h3.symm

theorem valN_lt (l : List Nat) (hl : ∀ x ∈ l, x < 256) : valN l < 2 ^ (8 * l.length) := by
  induction l with
  | nil => simp [valN]
  | cons c l ih =>
    have := ih (fun x hx => hl x (by simp [hx]))
    have hc : c < 256 := hl c (by simp)
    rw [List.length_cons, pow8]
    simp only [valN]
    omega

/-- Where a bit of the long number stands. -/
theorem valN_bit (l : List Nat) (hl : ∀ x ∈ l, x < 256) (k : Nat) : (valN l).testBit k = (l.getD (k / 8) 0).testBit (k % 8) := by
  induction l generalizing k with
  | nil => simp [valN]
  | cons c l ih =>
    have hc : c < 2 ^ 8 := hl c (by simp)
    simp only [valN]
    rw [show c + valN l * 2 ^ 8 = 2 ^ 8 * valN l + c by omega, Nat.testBit_two_pow_mul_add _ hc]
    by_cases hk : k < 8
    · rw [if_pos hk, show k / 8 = 0 by omega, show k % 8 = k by omega]; rfl
    · rw [if_neg hk, ih (fun x hx => hl x (by simp [hx])), show k / 8 = (k - 8) / 8 + 1 by omega, show k % 8 = (k - 8) % 8 by omega]; rfl

/-- One bit turned. -/
theorem valN_flip (l : List Nat) (hl : ∀ x ∈ l, x < 256) (k : Nat) (hk : k < 8 * l.length) :
    valN (l.set (k / 8) (l.getD (k / 8) 0 ^^^ 2 ^ (k % 8))) = valN l ^^^ 2 ^ k := by
  have hg := getD_lt hl (k / 8)
  have hr : 2 ^ (k % 8) < 2 ^ 8 := Nat.pow_lt_pow_right (by omega) (by omega)
  have hx : l.getD (k / 8) 0 ^^^ 2 ^ (k % 8) < 256 := Nat.xor_lt_two_pow (n := 8) hg hr
  have hl' : ∀ x ∈ l.set (k / 8) (l.getD (k / 8) 0 ^^^ 2 ^ (k % 8)), x < 256 := by
    intro x hx'
    rcases List.mem_or_eq_of_mem_set hx' with h | h
    · exact hl x h
    · omega
  apply Nat.eq_of_testBit_eq
  intro i
  rw [valN_bit _ hl', Nat.testBit_xor, valN_bit _ hl, Nat.testBit_two_pow]
  by_cases hi : i / 8 = k / 8
  · rw [hi]
    have e : (l.set (k / 8) (l.getD (k / 8) 0 ^^^ 2 ^ (k % 8))).getD (k / 8) 0 = l.getD (k / 8) 0 ^^^ 2 ^ (k % 8) := by
      simp [List.getD, List.getElem?_set_self (show k / 8 < l.length by omega)]
    rw [e, Nat.testBit_xor, Nat.testBit_two_pow]
    congr 1
    simp only [decide_eq_decide]
    omega
  · have e : (l.set (k / 8) (l.getD (k / 8) 0 ^^^ 2 ^ (k % 8))).getD (i / 8) 0 = l.getD (i / 8) 0 := by
      simp [List.getD, List.getElem?_set_ne (show k / 8 ≠ i / 8 by omega)]
    rw [e]
    have : k ≠ i := fun h => hi (by rw [h])
    simp [this]

/-- Three rows of one length: their exclusive or, byte by byte. -/
def xor3 (a b c : List Nat) (n : Nat) : List Nat := (List.range n).map fun i => a.getD i 0 ^^^ b.getD i 0 ^^^ c.getD i 0

theorem xor3_length (a b c : List Nat) (n : Nat) : (xor3 a b c n).length = n := by simp [xor3]
theorem xor3_lt {a b c : List Nat} (ha : ∀ x ∈ a, x < 256) (hb : ∀ x ∈ b, x < 256) (hc : ∀ x ∈ c, x < 256) (n : Nat) : ∀ x ∈ xor3 a b c n, x < 256 := by
  intro x hx
  simp only [xor3, List.mem_map] at hx
  obtain ⟨i, _, rfl⟩ := hx
  exact Nat.xor_lt_two_pow (n := 8) (Nat.xor_lt_two_pow (n := 8) (getD_lt ha i) (getD_lt hb i)) (getD_lt hc i)
theorem xor3_succ (a b c : List Nat) (n : Nat) : xor3 a b c (n + 1) = xor3 a b c n ++ [a.getD n 0 ^^^ b.getD n 0 ^^^ c.getD n 0] := by simp [xor3, List.range_succ]

theorem xor_three (a b c x y z : Nat) : (a ^^^ b ^^^ c) ^^^ (x ^^^ y ^^^ z) = (a ^^^ x) ^^^ (b ^^^ y) ^^^ (c ^^^ z) := by
  apply Nat.eq_of_testBit_eq
  intro i
  simp only [Nat.testBit_xor]
  cases a.testBit i <;> cases b.testBit i <;> cases c.testBit i <;> cases x.testBit i <;> cases y.testBit i <;> cases z.testBit i <;> rfl

theorem crc_xor3 (a b c : List Nat) (n : Nat) (ha : n ≤ a.length) (hb : n ≤ b.length) (hc : n ≤ c.length) (s : Nat) :
    crcN s (xor3 a b c n) = crcN s (a.take n) ^^^ crcN s (b.take n) ^^^ crcN s (c.take n) := by
  induction n with
  | zero =>
    simp [xor3, crcN]
  | succ n ih =>
    rw [xor3_succ, crcN_append, ih (by omega) (by omega) (by omega), List.take_succ_eq_append_getElem (show n < a.length by omega), List.take_succ_eq_append_getElem (show n < b.length by omega),
      List.take_succ_eq_append_getElem (show n < c.length by omega), crcN_append, crcN_append, crcN_append]
    have e : ∀ l : List Nat, (h : n < l.length) → l.getD n 0 = l[n] := fun l h => by simp [List.getD, h]
    rw [e a (by omega), e b (by omega), e c (by omega)]
    simp only [crcN, List.foldl_cons, List.foldl_nil]
    rw [xor_three, stepsN_xor, stepsN_xor]

theorem sum_xor3 (a b c : List Nat) (n : Nat) (ha : n ≤ a.length) (hb : n ≤ b.length) (hc : n ≤ c.length) (la : ∀ x ∈ a, x < 256) (lb : ∀ x ∈ b, x < 256) (lc : ∀ x ∈ c, x < 256) :
    sumN (xor3 a b c n) = sumN (a.take n) ^^^ sumN (b.take n) ^^^ sumN (c.take n) := by
  have t : ∀ l : List Nat, (∀ x ∈ l, x < 256) → crcN 4294967295 l < 2 ^ 32 := fun l h => crcN_lt (by omega) l h
  have e : ∀ l : List Nat, (∀ x ∈ l, x < 256) → sumN l = 4294967295 ^^^ crcN 4294967295 l := fun l h => by rw [sumN, all_xor _ (t l h)]
  rw [e _ (xor3_lt la lb lc n), e _ (fun x hx => la x (List.mem_of_mem_take hx)), e _ (fun x hx => lb x (List.mem_of_mem_take hx)), e _ (fun x hx => lc x (List.mem_of_mem_take hx)), crc_xor3 a b c n ha hb hc]
  rw [← xor_three, Nat.xor_self, Nat.zero_xor]

end Go.Attic
