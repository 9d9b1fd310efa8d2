/- The plain mathematics of layer 1: numbers as bytes, short numbers, sums. No program is named here. -/
import Derived.Test.YtjhbljkoapbkfaaBytes
import Derived.Laws.BitsAllLaws
import Derived.Lib.BitFns
set_option linter.unusedSimpArgs false
set_option linter.unusedVariables false
namespace Go.Attic

theorem wrap_u64 (n : Nat) (h : n < 2 ^ 64) : IntKind.u64.wrap (n : Int) = (n : Int) := by rw [IntKind.wrap_u64]; omega
theorem wrap_u64_mod (n : Nat) : IntKind.u64.wrap (n : Int) = ((n % 2 ^ 64 : Nat) : Int) := by rw [IntKind.wrap_u64]; omega
theorem wrap_u8_mod (n : Nat) : IntKind.u8.wrap (n : Int) = ((n % 256 : Nat) : Int) := by rw [IntKind.wrap_u8]; omega
theorem or_u64 (a b : Nat) (ha : a < 2 ^ 64) (hb : b < 2 ^ 64) : bits .or .u64 (a : Int) (b : Int) = ((a ||| b : Nat) : Int) := u64_or_nat a b (by omega) (by omega)

/-- The number whose k bytes stand in l from place p on. -/
def getN (l : List Nat) (p : Nat) : Nat → Nat
  | 0 => 0
  | k + 1 => getN l p k + l.getD (p + k) 0 * 2 ^ (8 * k)

theorem pow8 (k : Nat) : 2 ^ (8 * (k + 1)) = 256 * 2 ^ (8 * k) := by rw [show 8 * (k + 1) = 8 * k + 8 by omega, Nat.pow_add]; omega

theorem getN_lt {l : List Nat} (h : ∀ x ∈ l, x < 256) (a k : Nat) : getN l a k < 2 ^ (8 * k) := by
  induction k with
  | zero => simp [getN]
  | succ k ih =>
    have h1 := getD_lt h (a + k)
    have h2 : l.getD (a + k) 0 * 2 ^ (8 * k) ≤ 255 * 2 ^ (8 * k) := Nat.mul_le_mul_right _ (by omega)
    simp only [getN]
    have h3 := pow8 k
    omega

theorem pow_le64 {k : Nat} (h : k < 8) : 2 ^ (8 * (k + 1)) ≤ 2 ^ 64 := Nat.pow_le_pow_right (by omega) (by omega)

/-- One round of Get, as the walk spells it: by or. -/
theorem getN_or {l : List Nat} (h : ∀ x ∈ l, x < 256) (p k : Nat) (hk : k < 8) :
    bits .or .u64 (getN l p k : Int) (IntKind.u64.wrap (IntKind.u64.wrap ((l[p + k]?.getD 0 : Nat) : Int) * 2 ^ (8 * k))) = ((getN l p (k + 1) : Nat) : Int) := by
  have h1 : l[p + k]?.getD 0 < 256 := by have := getD_lt h (p + k); rwa [List.getD_eq_getElem?_getD] at this
  have h2 := getN_lt h p k
  have h3 := pow8 k
  have h4 := pow_le64 hk
  have h5 : l[p + k]?.getD 0 * 2 ^ (8 * k) ≤ 255 * 2 ^ (8 * k) := Nat.mul_le_mul_right _ (by omega)
  rw [wrap_u64 _ (by omega)]
  have e : ((l[p + k]?.getD 0 : Nat) : Int) * 2 ^ (8 * k) = ((l[p + k]?.getD 0 * 2 ^ (8 * k) : Nat) : Int) := by simp
  rw [e, wrap_u64 _ (by omega), or_u64 _ _ (by omega) (by omega)]
  rw [Nat.or_comm, nat_join (8 * k) _ _ (by simp) h2]
  simp only [getN, List.getD_eq_getElem?_getD]
  omega

/-- One round of Get, as the walk spells it: by plus. -/
theorem getN_add {l : List Nat} (h : ∀ x ∈ l, x < 256) (p k : Nat) (hk : k < 8) :
    IntKind.u64.wrap ((getN l p k : Int) + IntKind.u64.wrap (IntKind.u64.wrap ((l[p + k]?.getD 0 : Nat) : Int) * 2 ^ (8 * k))) = ((getN l p (k + 1) : Nat) : Int) := by
  have h1 : l[p + k]?.getD 0 < 256 := by have := getD_lt h (p + k); rwa [List.getD_eq_getElem?_getD] at this
  have h2 := getN_lt h p k
  have h3 := pow8 k
  have h4 := pow_le64 hk
  have h5 : l[p + k]?.getD 0 * 2 ^ (8 * k) ≤ 255 * 2 ^ (8 * k) := Nat.mul_le_mul_right _ (by omega)
  rw [wrap_u64 _ (by omega)]
  have e : ((l[p + k]?.getD 0 : Nat) : Int) * 2 ^ (8 * k) = ((l[p + k]?.getD 0 * 2 ^ (8 * k) : Nat) : Int) := by simp
  rw [e, wrap_u64 _ (by omega)]
  have e2 : (getN l p k : Int) + ((l[p + k]?.getD 0 * 2 ^ (8 * k) : Nat) : Int) = ((getN l p k + l[p + k]?.getD 0 * 2 ^ (8 * k) : Nat) : Int) := by omega
  rw [e2, wrap_u64 _ (by omega)]
  simp only [getN, List.getD_eq_getElem?_getD]

def widthB (n : Int) : Bool := decide (1 ≤ n ∧ n ≤ 8)
def getB (l : List Nat) (p n : Int) : Bool := widthB n && decide (0 ≤ p ∧ p + n ≤ l.length)
def getV (l : List Nat) (p n : Int) : Nat := if getB l p n then getN l p.toNat n.toNat else 0

/-- The lowest n bytes of v. -/
def numN (n v : Nat) : List Nat := (List.range n).map fun i => v / 2 ^ (8 * i) % 256
def numL (n : Int) (v : Nat) : List Nat := if widthB n then numN n.toNat v else []

theorem numN_lt (n v : Nat) : ∀ x ∈ numN n v, x < 256 := by
  intro x hx
  simp [numN] at hx
  obtain ⟨i, _, rfl⟩ := hx
  omega
theorem numN_length (n v : Nat) : (numN n v).length = n := by simp [numN]

/-- CRC-32C, bit by bit. -/
def stepN (s : Nat) : Nat := s / 2 ^^^ (if s % 2 = 1 then 2197175160 else 0)
def stepsN : Nat → Nat → Nat
  | 0, s => s
  | k + 1, s => stepN (stepsN k s)
def crcN (s : Nat) (l : List Nat) : Nat := l.foldl (fun s c => stepsN 8 (s ^^^ c)) s
def sumN (l : List Nat) : Nat := 4294967295 - crcN 4294967295 l

theorem stepN_lt {s : Nat} (h : s < 2 ^ 32) : stepN s < 2 ^ 32 := by
  unfold stepN
  apply Nat.xor_lt_two_pow
  · omega
  · split <;> omega
theorem stepsN_lt {s : Nat} (h : s < 2 ^ 32) (k : Nat) : stepsN k s < 2 ^ 32 := by
  induction k with
  | zero => exact h
  | succ k ih => exact stepN_lt ih
theorem xor_lt32 {a b : Nat} (ha : a < 2 ^ 32) (hb : b < 2 ^ 32) : a ^^^ b < 2 ^ 32 := Nat.xor_lt_two_pow ha hb
theorem crcN_lt {s : Nat} (h : s < 2 ^ 32) (l : List Nat) (hl : ∀ x ∈ l, x < 256) : crcN s l < 2 ^ 32 := by
  induction l generalizing s with
  | nil => exact h
  | cons c l ih =>
    simp only [crcN, List.foldl_cons]
    exact ih (stepsN_lt (xor_lt32 h (by have := hl c (by simp); omega)) 8) (fun x hx => hl x (by simp [hx]))
theorem crcN_append (s : Nat) (a b : List Nat) : crcN s (a ++ b) = crcN (crcN s a) b := by simp [crcN]
theorem sumN_lt (l : List Nat) : sumN l < 2 ^ 32 := by unfold sumN; omega

/-- One step with the mask, as word.Sum takes it. -/
theorem step_mask (s : Nat) (h : s < 2 ^ 32) :
    bits .xor .u32 ((s : Int) / 2) (bits .and .u32 2197175160 (-(bits .and .u32 (s : Int) 1) % 4294967296)) = ((stepN s : Nat) : Int) := by
  have e1 : bits .and .u32 (s : Int) 1 = ((s % 2 : Nat) : Int) := by
    have := u32_and_nat s 1 (by omega) (by omega)
    rw [nat_mask1] at this
    exact this
  rw [e1]
  have e2 : -((s % 2 : Nat) : Int) % 4294967296 = (((if s % 2 = 1 then 4294967295 else 0) : Nat) : Int) := by
    split <;> omega
  rw [e2]
  have e3 : bits .and .u32 2197175160 (((if s % 2 = 1 then 4294967295 else 0) : Nat) : Int) = (((if s % 2 = 1 then 2197175160 else 0) : Nat) : Int) := by
    have := u32_and_nat 2197175160 (if s % 2 = 1 then 4294967295 else 0) (by omega) (by split <;> omega)
    rw [show ((2197175160 : Nat) : Int) = 2197175160 from rfl] at this
    rw [this]
    split <;> rfl
  rw [e3]
  have e4 : (s : Int) / 2 = ((s / 2 : Nat) : Int) := by omega
  rw [e4, u32_xor_nat _ _ (by omega) (by split <;> omega)]
  rfl

theorem step_one (s : Nat) (h : s < 2 ^ 32) (h1 : s % 2 = 1) : bits .xor .u32 ((s : Int) / 2) 2197175160 = ((stepN s : Nat) : Int) := by
  have e4 : (s : Int) / 2 = ((s / 2 : Nat) : Int) := by omega
  have := u32_xor_nat (s / 2) 2197175160 (by omega) (by omega)
  rw [show ((2197175160 : Nat) : Int) = 2197175160 from rfl] at this
  rw [e4, this]
  simp [stepN, h1]
theorem step_zero (s : Nat) (h1 : s % 2 = 0) : (s : Int) / 2 = ((stepN s : Nat) : Int) := by
  have : stepN s = s / 2 := by simp [stepN, h1]
  rw [this]; omega

theorem xor_byte (s c : Nat) (hs : s < 2 ^ 32) (hc : c < 256) : bits .xor .u32 (s : Int) (c : Int) = ((s ^^^ c : Nat) : Int) := by
  rw [u32_xor_nat _ _ (by omega) (by omega)]
theorem all_xor (s : Nat) (hs : s < 2 ^ 32) : 4294967295 ^^^ s = 4294967295 - s := by
  apply Nat.eq_of_testBit_eq
  intro i
  have h := Nat.testBit_two_pow_sub_succ (x := s) (n := 32) hs i
  rw [show 2 ^ 32 - (s + 1) = 4294967295 - s by omega] at h
  rw [h, Nat.testBit_xor, show (4294967295 : Nat) = 2 ^ 32 - 1 by omega, Nat.testBit_two_pow_sub_one]
  by_cases hi : i < 32
  · simp [hi]
  · simp [hi]
    rw [Nat.testBit_lt_two_pow]
    exact Nat.lt_of_lt_of_le hs (Nat.pow_le_pow_right (by omega) (by omega))
theorem not_u32 (s : Nat) (hs : s < 2 ^ 32) : bits .xor .u32 IntKind.u32.max (s : Int) = ((4294967295 - s : Nat) : Int) := by
  have e : IntKind.u32.max = ((4294967295 : Nat) : Int) := by decide
  rw [e, u32_xor_nat _ _ (by omega) (by omega), all_xor s hs]

theorem crcN_snoc (l : List Nat) (k : Nat) (hk : k < l.length) : crcN 4294967295 (l.take (k + 1)) = stepsN 8 (crcN 4294967295 (l.take k) ^^^ l.getD k 0) := by
  rw [List.take_succ_eq_append_getElem hk, crcN_append]
  simp [crcN, List.getD, hk]

theorem bitLenAux_up : ∀ (f x : Nat), x < 2 ^ f → x < 2 ^ Lib.bitLenAux f x
  | 0, x, h => by simpa [Lib.bitLenAux] using h
  | f + 1, x, h => by
    simp only [Lib.bitLenAux]
    split
    · omega
    · have := bitLenAux_up f (x / 2) (by rw [Nat.pow_succ] at h; omega)
      rw [Nat.add_comm 1, Nat.pow_succ]; omega

/-- How many groups of seven bits. -/
def ulen (v : Nat) : Nat := (Lib.bitLen (v ||| 1) + 6) / 7

theorem or_one_le (v : Nat) : v ≤ v ||| 1 := Nat.left_le_or
theorem or_one_lt {v m : Nat} (h : v < 2 ^ m) (hm : 1 ≤ m) : v ||| 1 < 2 ^ m := Nat.or_lt_two_pow h (Nat.lt_of_lt_of_le (by omega) (Nat.pow_le_pow_right (n := 2) (by omega) hm))

theorem ulen_up {v : Nat} (h : v < 2 ^ 64) : v < 2 ^ (7 * ulen v) := by
  have h1 := bitLenAux_up 64 (v ||| 1) (or_one_lt h (by omega))
  have h2 := or_one_le v
  have h3 : 2 ^ Lib.bitLenAux 64 (v ||| 1) ≤ 2 ^ (7 * ulen v) := Nat.pow_le_pow_right (by omega) (by unfold ulen Lib.bitLen; omega)
  omega
theorem ulen_pos {v : Nat} (h : v < 2 ^ 64) : 1 ≤ ulen v := by
  have h1 := bitLenAux_up 64 (v ||| 1) (or_one_lt h (by omega))
  have h2 : 1 ≤ v ||| 1 := Nat.right_le_or
  have h3 : 1 ≤ Lib.bitLen (v ||| 1) := by
    unfold Lib.bitLen
    rcases Nat.eq_zero_or_pos (Lib.bitLenAux 64 (v ||| 1)) with h | h
    · rw [h] at h1; omega
    · exact h
  unfold ulen; omega
theorem ulen_le {v m : Nat} (h : v < 2 ^ (7 * m)) (hm : 1 ≤ m) (hm2 : m ≤ 9) : ulen v ≤ m := by
  have := Lib.bitLen_le (v ||| 1) (7 * m) (by omega) (or_one_lt h (by omega))
  unfold ulen; omega
theorem ulen_le10 {v : Nat} (h : v < 2 ^ 64) : ulen v ≤ 10 := by
  have := Lib.bitLen_le (v ||| 1) 64 (by omega) (or_one_lt h (by omega))
  unfold ulen; omega

/-- The groups of seven bits, each with 128 more. -/
def grp (k v : Nat) : List Nat := (List.range k).map fun i => v / 2 ^ (7 * i) % 128 + 128
/-- A number in as few bytes as can be. -/
def uvarN (v : Nat) : List Nat := grp (ulen v - 1) v ++ [v / 2 ^ (7 * (ulen v - 1))]

theorem grp_length (k v : Nat) : (grp k v).length = k := by simp [grp]
theorem grp_succ (k v : Nat) : grp (k + 1) v = grp k v ++ [v / 2 ^ (7 * k) % 128 + 128] := by simp [grp, List.range_succ]
theorem grp_lt (k v : Nat) : ∀ x ∈ grp k v, x < 256 := by
  intro x hx
  simp [grp] at hx
  obtain ⟨i, _, rfl⟩ := hx
  omega
theorem uvar_last {v : Nat} (h : v < 2 ^ 64) : v / 2 ^ (7 * (ulen v - 1)) < 128 := by
  have h1 := ulen_up h
  have h2 := ulen_pos h
  rw [Nat.div_lt_iff_lt_mul (Nat.two_pow_pos _)]
  have e : 128 * 2 ^ (7 * (ulen v - 1)) = 2 ^ (7 * ulen v) := by
    rw [show (128 : Nat) = 2 ^ 7 from rfl, ← Nat.pow_add]; congr 1; omega
  omega
theorem uvarN_lt {v : Nat} (h : v < 2 ^ 64) : ∀ x ∈ uvarN v, x < 256 := by
  intro x hx
  rcases List.mem_append.1 hx with hx | hx
  · exact grp_lt _ _ x hx
  · simp at hx; have := uvar_last h; omega
theorem uvarN_length {v : Nat} (h : v < 2 ^ 64) : (uvarN v).length = ulen v := by
  have := ulen_pos h
  simp [uvarN, grp_length]; omega
/-- Where the groups end. -/
theorem ulen_eq {v k : Nat} (h : v < 2 ^ 64) (hk : k ≤ 9) (h1 : v / 2 ^ (7 * k) < 128) (h2 : k = 0 ∨ 128 ≤ v / 2 ^ (7 * (k - 1))) : ulen v = k + 1 := by
  have hp := ulen_pos h
  have a : ulen v ≤ k + 1 := by
    rcases Nat.lt_or_ge k 9 with h9 | h9
    · refine ulen_le ?_ (by omega) (by omega)
      rw [Nat.div_lt_iff_lt_mul (Nat.two_pow_pos _)] at h1
      have e : 128 * 2 ^ (7 * k) = 2 ^ (7 * (k + 1)) := by rw [show (128 : Nat) = 2 ^ 7 from rfl, ← Nat.pow_add]; congr 1; omega
      omega
    · have := ulen_le10 h; omega
  have b : k + 1 ≤ ulen v := by
    rcases h2 with h2 | h2
    · omega
    · rcases Nat.lt_or_ge (ulen v) (k + 1) with hlt | hge
      · have h3 := ulen_up h
        have h4 : v < 2 ^ (7 * k) := Nat.lt_of_lt_of_le h3 (Nat.pow_le_pow_right (by omega) (by omega))
        have h5 : v / 2 ^ (7 * (k - 1)) < 128 := by
          rw [Nat.div_lt_iff_lt_mul (Nat.two_pow_pos _)]
          have e : 128 * 2 ^ (7 * (k - 1)) = 2 ^ (7 * k) := by rw [show (128 : Nat) = 2 ^ 7 from rfl, ← Nat.pow_add]; congr 1; omega
          omega
        omega
      · exact hge
  omega

/-- The first k groups of seven bits, as one number. -/
def takeV (l : List Nat) : Nat → Nat
  | 0 => 0
  | k + 1 => takeV l k + l.getD k 0 % 128 * 2 ^ (7 * k)

/-- What TakeUvar answers: from byte k on, at most f bytes more. -/
def takeA (l : List Nat) : Nat → Nat → Nat × Nat × Int
  | 0, k => (0, 0, 10)
  | f + 1, k =>
    if l.length ≤ k then (0, 0, 10)
    else if (k = 9 ∧ 1 < l.getD k 0) ∨ (0 < k ∧ l.getD k 0 = 0) then (0, 0, 13)
    else if l.getD k 0 < 128 then (takeV l (k + 1), k + 1, 0)
    else takeA l f (k + 1)
def takeN (l : List Nat) : Nat × Nat × Int := takeA l 10 0

theorem pow7 (k : Nat) : 2 ^ (7 * (k + 1)) = 128 * 2 ^ (7 * k) := by rw [show 7 * (k + 1) = 7 * k + 7 by omega, Nat.pow_add]; omega
theorem takeV_lt (l : List Nat) (k : Nat) : takeV l k < 2 ^ (7 * k) := by
  induction k with
  | zero => simp [takeV]
  | succ k ih =>
    have h2 : l.getD k 0 % 128 * 2 ^ (7 * k) ≤ 127 * 2 ^ (7 * k) := Nat.mul_le_mul_right _ (by omega)
    simp only [takeV]
    have h3 := pow7 k
    omega
/-- The number fits, as long as the tenth byte is at most 1. -/
theorem takeV_lt64 (l : List Nat) (k : Nat) (hk : k ≤ 9) (h9 : k = 9 → l.getD k 0 ≤ 1) : takeV l k + l.getD k 0 % 128 * 2 ^ (7 * k) < 2 ^ 64 := by
  have h1 := takeV_lt l k
  rcases Nat.lt_or_ge k 9 with h | h
  · have h2 := takeV_lt l (k + 1)
    have h3 : 2 ^ (7 * (k + 1)) ≤ 2 ^ 64 := Nat.pow_le_pow_right (by omega) (by omega)
    simp only [takeV] at h2
    omega
  · obtain rfl : k = 9 := by omega
    have h2 := h9 rfl
    have h3 : l.getD 9 0 % 128 * 2 ^ (7 * 9) ≤ 1 * 2 ^ (7 * 9) := Nat.mul_le_mul_right _ (by omega)
    omega

theorem and127 (c : Nat) (hc : c < 256) : bits .andNot .u8 (c : Int) 128 = ((c % 128 : Nat) : Int) := by
  have h := u8_andNot_nat c 128 (by omega) (by omega)
  rw [show (128 : Int) = ((128 : Nat) : Int) from rfl, h]
  have : ∀ y : Fin 256, y.val &&& (255 - 128) = y.val % 128 := by decide +kernel
  have := this ⟨c, hc⟩
  simp only at this
  rw [this]

/-- One round of TakeUvar, as the walk spells it, once its byte is cut: by or. -/
theorem take_or (a c k : Nat) (ha : a < 2 ^ (7 * k)) (hs : a + c * 2 ^ (7 * k) < 2 ^ 64) :
    bits .or .u64 (a : Int) (IntKind.u64.wrap ((c : Int) * 2 ^ (7 * k))) = ((a + c * 2 ^ (7 * k) : Nat) : Int) := by
  have e : (c : Int) * 2 ^ (7 * k) = ((c * 2 ^ (7 * k) : Nat) : Int) := by simp
  rw [e, wrap_u64 _ (by omega), or_u64 _ _ (by omega) (by omega), Nat.or_comm, nat_join (7 * k) _ _ (by simp) ha, Nat.add_comm]
theorem take_add (a c k : Nat) (hs : a + c * 2 ^ (7 * k) < 2 ^ 64) :
    IntKind.u64.wrap ((a : Int) + IntKind.u64.wrap ((c : Int) * 2 ^ (7 * k))) = ((a + c * 2 ^ (7 * k) : Nat) : Int) := by
  have e : (c : Int) * 2 ^ (7 * k) = ((c * 2 ^ (7 * k) : Nat) : Int) := by simp
  rw [e, wrap_u64 _ (by omega)]
  have e2 : (a : Int) + ((c * 2 ^ (7 * k) : Nat) : Int) = ((a + c * 2 ^ (7 * k) : Nat) : Int) := by omega
  rw [e2, wrap_u64 _ hs]

theorem take_or9 (a c : Nat) (ha : a < 2 ^ (7 * 9)) (hc : c ≤ 1) : bits .or .u64 (a : Int) ((c : Int) % 128 * 9223372036854775808) = ((a + c % 128 * 2 ^ (7 * 9) : Nat) : Int) := by
  have h1 : c % 128 * 2 ^ (7 * 9) ≤ 1 * 2 ^ (7 * 9) := Nat.mul_le_mul_right _ (by omega)
  have h := take_or a (c % 128) 9 ha (by omega)
  rw [← h]
  have e : ((c % 128 : Nat) : Int) * 2 ^ (7 * 9) = ((c % 128 * 2 ^ (7 * 9) : Nat) : Int) := by simp
  rw [e, wrap_u64 _ (by omega)]
  congr 1
theorem take_add9 (a c : Nat) (ha : a < 2 ^ (7 * 9)) (hc : c ≤ 1) : (a : Int) + (c : Int) % 128 * 9223372036854775808 = ((a + c % 128 * 2 ^ (7 * 9) : Nat) : Int) := by
  omega

end Go.Attic
