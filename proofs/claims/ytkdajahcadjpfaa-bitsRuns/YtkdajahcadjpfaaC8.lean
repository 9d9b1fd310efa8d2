/- Contracts: atticref02.And, atticref02.Or, atticref02.Sub, bits.Within, atticref02.Within. -/
import Derived.Test.YtkdajahcadjpfaaC7
set_option linter.unusedSimpArgs false
set_option linter.unusedVariables false
namespace Go.Proofs.Ytkdajahcadjpfaa
open Go.RowKit Go.Attic

/-- What a row is when k of its bits have been put. -/
def Jn (cl : List Nat) (n k : Nat) (G : Nat → Bool) : Prop := cl.length = n ∧ (∀ x ∈ cl, x < 256) ∧ ∀ j, j < 8 * n → bitB cl j = (decide (j < k) && G j)

theorem Jn.zero (n : Nat) (G : Nat → Bool) : Jn (zeros n) n 0 G := ⟨zeros_length n, zeros_lt n, fun j hj => by rw [bitB_zeros]; simp⟩
theorem Jn.step {cl : List Nat} {n k : Nat} {G : Nat → Bool} (h : Jn cl n k G) (hk : k < 8 * n) {c : Bool} (hc : G k = c) : Jn (if c then putL cl k true else cl) n (k + 1) G := by
  obtain ⟨h1, h2, h3⟩ := h
  subst hc
  cases hG : G k with
  | true =>
    refine ⟨by simp [putL_length, h1], by simpa using putL_lt h2 k true, fun j hj => ?_⟩
    simp only [if_true]
    rw [bitB_put (by omega), h3 j hj]
    by_cases e : j = k
    · subst e; simp [hG]
    · rw [if_neg e]
      have : decide (j < k) = decide (j < k + 1) := by simp only [decide_eq_decide]; omega
      rw [this]
  | false =>
    refine ⟨by simpa using h1, by simpa using h2, fun j hj => ?_⟩
    simp only [Bool.false_eq_true, if_false]
    rw [h3 j hj]
    by_cases e : j = k
    · subst e; simp [hG]
    · have : decide (j < k) = decide (j < k + 1) := by simp only [decide_eq_decide]; omega
      rw [this]

/-- f puts bytes together bit by bit, by g. -/
def Bitwise (f : Nat → Nat → Nat) (g : Bool → Bool → Bool) : Prop := ∀ x y, x < 256 → y < 256 → f x y < 256 ∧ ∀ k, k < 8 → (f x y).testBit k = g (x.testBit k) (y.testBit k)
theorem bitwise_and : Bitwise (fun x y => x &&& y) (fun p q => p && q) := fun x y hx hy => ⟨Nat.lt_of_le_of_lt Nat.and_le_left hx, fun k hk => by rw [Nat.testBit_and]⟩
theorem bitwise_or : Bitwise (fun x y => x ||| y) (fun p q => p || q) := fun x y hx hy => ⟨Nat.or_lt_two_pow (n := 8) hx hy, fun k hk => by rw [Nat.testBit_or]⟩
theorem bitwise_sub : Bitwise (fun x y => x &&& (255 - y)) (fun p q => p && !q) := fun x y hx hy => by
  refine ⟨Nat.lt_of_le_of_lt Nat.and_le_left hx, fun k hk => ?_⟩
  show (x &&& (255 - y)).testBit k = _
  rw [Nat.testBit_and]
  have h : ∀ (a : Fin 256) (b : Fin 8), (255 - a.val).testBit b.val = !a.val.testBit b.val := by decide +kernel
  have := h ⟨y, hy⟩ ⟨k, hk⟩
  simp only at this
  rw [this]

theorem joinN_lt {f : Nat → Nat → Nat} {g : Bool → Bool → Bool} (hf : Bitwise f g) {a b : List Nat} (ha : ∀ x ∈ a, x < 256) (hb : ∀ x ∈ b, x < 256) (n : Nat) : ∀ x ∈ joinN f a b n, x < 256 := by
  intro x hx
  simp only [joinN, List.mem_map] at hx
  obtain ⟨i, _, rfl⟩ := hx
  exact (hf _ _ (getD_lt ha i) (getD_lt hb i)).1
theorem bitB_join {f : Nat → Nat → Nat} {g : Bool → Bool → Bool} (hf : Bitwise f g) {a b : List Nat} (ha : ∀ x ∈ a, x < 256) (hb : ∀ x ∈ b, x < 256) {n j : Nat} (hj : j < 8 * n) : bitB (joinN f a b n) j = g (bitB a j) (bitB b j) := by
  have e : (joinN f a b n).getD (j / 8) 0 = f (a.getD (j / 8) 0) (b.getD (j / 8) 0) := by
    rw [List.getD_eq_getElem?_getD, List.getElem?_eq_getElem (by rw [joinN_length]; omega)]
    simp [joinN]
  unfold bitB
  rw [e]
  exact (hf _ _ (getD_lt ha _) (getD_lt hb _)).2 _ (by omega)
theorem joinL_lt {f : Nat → Nat → Nat} {g : Bool → Bool → Bool} (hf : Bitwise f g) {a b : List Nat} (ha : ∀ x ∈ a, x < 256) (hb : ∀ x ∈ b, x < 256) : ∀ x ∈ joinL f a b, x < 256 := by
  unfold joinL; split
  · exact joinN_lt hf ha hb _
  · simp
theorem Jn.fin {f : Nat → Nat → Nat} {g : Bool → Bool → Bool} (hf : Bitwise f g) {a b cl : List Nat} (ha : ∀ x ∈ a, x < 256) (hb : ∀ x ∈ b, x < 256) {n : Nat} (h : Jn cl n (8 * n) fun j => g (bitB a j) (bitB b j)) : cl = joinN f a b n := by
  obtain ⟨h1, h2, h3⟩ := h
  apply row_ext h2 (joinN_lt hf ha hb n) (by rw [joinN_length]; exact h1)
  intro i hi
  rw [h1] at hi
  rw [h3 i hi, bitB_join hf ha hb hi]
  simp [hi]

set_option maxRecDepth 100000 in
set_option maxHeartbeats 1000000 in
theorem rand_any (va vb : Value) (a b : List Nat) (w : World) (ha : Bs w va a) (hb : Bs w vb b) (la : a.length ≤ 140737488355328) (lb : b.length ≤ 140737488355328) :
    Calls Try.prog 33 #[va, vb] w (NewBsE w (joinL (fun x y => x &&& y) a b) (joinE a b)) := by
  obtain ⟨i0, hi, hz0, hz1, hz2⟩ := info_parts Try.info5
  have xa := ha.lt
  have xb := hb.lt
  have HA := hide ha
  have HB := hide hb
  obtain ⟨aoa, capa, rfl, hla, _, _, hca⟩ := ha
  obtain ⟨aob, capb, rfl, hlb, _, _, hcb⟩ := hb
  clear hca hcb
  by_cases he : a.length = b.length
  · simp only [joinL, joinE, he, if_true]
    obtain ⟨n, hn⟩ : ∃ n, b.length = n := ⟨_, rfl⟩
    rw [hn] at he lb hlb HB ⊢
    rw [he] at la hla HA
    have Hn := hide hn
    have He := hide he
    clear hn he
    have hne : ((n : Int) != (n : Int)) = false := by simp
    have Hfin := fun cl => hide (@Jn.fin _ _ bitwise_and a b cl xa xb n)
    have Hst := fun cl k hk c hc => hide (@Jn.step cl n k (fun j => (fun p q => p && q) (bitB a j) (bitB b j)) · hk c hc)
    go_enter Try.func33, Try.ntmps33
    go_wp2_with (at_make; refine wpList_make_full _ rfl (.tmp 14) (.tmp 14) 22 rfl w.heap.size 5 i0 (.int .u8 0) 1 Try.underlying22 hi hz0 hz1 .i64 .i64 n n n rfl rfl rfl rfl (by rw [hz2]; omega) (by unfold maxLen; omega) (Nat.le_refl _) ?_; intro w1 hown hgrow)
    have hb0 : Below w.heap.size w w1 := (Below.refl _ _).grown hgrow (Nat.le_refl _) (by intro k hk; cases hk)
    rw [made_zeros] at hown
    go_loopw [6, 7] (fun v i wr => ∃ k : Nat, k ≤ 8 * n ∧ i = .int .i64 k ∧ v = .slice (some ⟨w.heap.size, 0, none⟩) n n ∧ (∃ cl, Jn cl n k (fun j => (fun p q => p && q) (bitB a j) (bitB b j)) ∧ wr.ownsRow w.heap.size 5 1 (.slice (some ⟨w.heap.size, 0, none⟩) n n) n (cellsB cl)) ∧ Below w.heap.size w wr) (fun _ i _ => 8 * n - (intOf i).toNat)
    case atStart => exact ⟨0, Nat.zero_le _, rfl, rfl, ⟨_, Jn.zero n _, hown⟩, hb0⟩
    case round =>
      obtain ⟨k, hk, rfl, rfl, ⟨cl, hJ, hown1⟩, hb1⟩ := hrel
      clear hown hb0 hgrow
      by_cases hkn : k < 8 * n
      · have hga := rget_any _ a k wr (HA.out.below hb1 (Nat.le_refl _)) (by have := He.out; omega) (by omega)
        have hgb := rget_any _ b k wr (HB.out.below hb1 (Nat.le_refl _)) (by have := Hn.out; omega) (by omega)
        rw [getI_nat] at hga hgb
        have hput := fun is => rputin_any w.heap.size n k cl is w.heap.size wr (by rw [hJ.1]; exact hown1) hJ.2.1 (by rw [hJ.1]; exact hkn) (by rw [hJ.1]; omega)
        rw [hJ.1] at hput
        have Hput := hide hput
        have HJ := hide hJ
        have Hs := fun c hc => Hst cl k hkn c hc hJ
        clear hput hJ hown1 HA HB Hfin Hst
        cases hba : bitB a k <;> cases hbb : bitB b k
        all_goals
          rw [hba] at hga
          rw [hbb] at hgb
          go_wp2_with (first
            | (go_at_call_of 23 (Value.slice aoa n capa); refine hga.mono ?_; rintro e w' ⟨rfl, rfl⟩)
            | (go_at_call_of 23 (Value.slice aob n capb); refine hgb.mono ?_; rintro e w' ⟨rfl, rfl⟩)
            | (go_at_call 51; refine (Hput.out _).mono ?_; rintro e w2 ⟨rfl, hown2, hb2⟩))
          go_roundw
          case rel =>
            refine ⟨k + 1, by omega, by go_num, rfl, ?_, hb1.trans (hb2 _ (Nat.le_refl _))⟩
            first
              | exact ⟨_, Hs true (by rw [hba, hbb]; rfl), hown2⟩
              | exact ⟨_, Hs false (by rw [hba, hbb]; rfl), hown2⟩
          case measure => simp [intOf]; omega
      · obtain rfl : k = 8 * n := by omega
        have e := (Hfin cl).out hJ
        rw [e] at hown1
        clear e hJ HA HB Hfin Hst
        go_wp2_with fail
        go_ret2
        exact ⟨_, rfl, by rw [joinN_length]; exact hown1, hb1⟩
  · simp only [joinL, joinE, he, if_false]
    have hne : ((a.length : Int) != (b.length : Int)) = true := by simp; omega
    clear he
    go_enter Try.func33, Try.ntmps33
    go_wp2_with fail
    go_ret2
    exact ⟨_, rfl, World.ownsRow_nil _ _ _ _, Below.refl _ _⟩

set_option maxRecDepth 100000 in
set_option maxHeartbeats 1000000 in
theorem ror_any (va vb : Value) (a b : List Nat) (w : World) (ha : Bs w va a) (hb : Bs w vb b) (la : a.length ≤ 140737488355328) (lb : b.length ≤ 140737488355328) :
    Calls Try.prog 35 #[va, vb] w (NewBsE w (joinL (fun x y => x ||| y) a b) (joinE a b)) := by
  obtain ⟨i0, hi, hz0, hz1, hz2⟩ := info_parts Try.info5
  have xa := ha.lt
  have xb := hb.lt
  have HA := hide ha
  have HB := hide hb
  obtain ⟨aoa, capa, rfl, hla, _, _, hca⟩ := ha
  obtain ⟨aob, capb, rfl, hlb, _, _, hcb⟩ := hb
  clear hca hcb
  by_cases he : a.length = b.length
  · simp only [joinL, joinE, he, if_true]
    obtain ⟨n, hn⟩ : ∃ n, b.length = n := ⟨_, rfl⟩
    rw [hn] at he lb hlb HB ⊢
    rw [he] at la hla HA
    have Hn := hide hn
    have He := hide he
    clear hn he
    have hne : ((n : Int) != (n : Int)) = false := by simp
    have Hfin := fun cl => hide (@Jn.fin _ _ bitwise_or a b cl xa xb n)
    have Hst := fun cl k hk c hc => hide (@Jn.step cl n k (fun j => (fun p q => p || q) (bitB a j) (bitB b j)) · hk c hc)
    go_enter Try.func35, Try.ntmps35
    go_wp2_with (at_make; refine wpList_make_full _ rfl (.tmp 14) (.tmp 14) 22 rfl w.heap.size 5 i0 (.int .u8 0) 1 Try.underlying22 hi hz0 hz1 .i64 .i64 n n n rfl rfl rfl rfl (by rw [hz2]; omega) (by unfold maxLen; omega) (Nat.le_refl _) ?_; intro w1 hown hgrow)
    have hb0 : Below w.heap.size w w1 := (Below.refl _ _).grown hgrow (Nat.le_refl _) (by intro k hk; cases hk)
    rw [made_zeros] at hown
    go_loopw [6, 7] (fun v i wr => ∃ k : Nat, k ≤ 8 * n ∧ i = .int .i64 k ∧ v = .slice (some ⟨w.heap.size, 0, none⟩) n n ∧ (∃ cl, Jn cl n k (fun j => (fun p q => p || q) (bitB a j) (bitB b j)) ∧ wr.ownsRow w.heap.size 5 1 (.slice (some ⟨w.heap.size, 0, none⟩) n n) n (cellsB cl)) ∧ Below w.heap.size w wr) (fun _ i _ => 8 * n - (intOf i).toNat)
    case atStart => exact ⟨0, Nat.zero_le _, rfl, rfl, ⟨_, Jn.zero n _, hown⟩, hb0⟩
    case round =>
      obtain ⟨k, hk, rfl, rfl, ⟨cl, hJ, hown1⟩, hb1⟩ := hrel
      clear hown hb0 hgrow
      by_cases hkn : k < 8 * n
      · have hga := rget_any _ a k wr (HA.out.below hb1 (Nat.le_refl _)) (by have := He.out; omega) (by omega)
        have hgb := rget_any _ b k wr (HB.out.below hb1 (Nat.le_refl _)) (by have := Hn.out; omega) (by omega)
        rw [getI_nat] at hga hgb
        have hput := fun is => rputin_any w.heap.size n k cl is w.heap.size wr (by rw [hJ.1]; exact hown1) hJ.2.1 (by rw [hJ.1]; exact hkn) (by rw [hJ.1]; omega)
        rw [hJ.1] at hput
        have Hput := hide hput
        have HJ := hide hJ
        have Hs := fun c hc => Hst cl k hkn c hc hJ
        clear hput hJ hown1 HA HB Hfin Hst
        cases hba : bitB a k <;> cases hbb : bitB b k
        all_goals
          rw [hba] at hga
          rw [hbb] at hgb
          go_wp2_with (first
            | (go_at_call_of 23 (Value.slice aoa n capa); refine hga.mono ?_; rintro e w' ⟨rfl, rfl⟩)
            | (go_at_call_of 23 (Value.slice aob n capb); refine hgb.mono ?_; rintro e w' ⟨rfl, rfl⟩)
            | (go_at_call 51; refine (Hput.out _).mono ?_; rintro e w2 ⟨rfl, hown2, hb2⟩))
          go_roundw
          case rel =>
            refine ⟨k + 1, by omega, by go_num, rfl, ?_, hb1.trans (hb2 _ (Nat.le_refl _))⟩
            first
              | exact ⟨_, Hs true (by rw [hba, hbb]; rfl), hown2⟩
              | exact ⟨_, Hs false (by rw [hba, hbb]; rfl), hown2⟩
          case measure => simp [intOf]; omega
      · obtain rfl : k = 8 * n := by omega
        have e := (Hfin cl).out hJ
        rw [e] at hown1
        clear e hJ HA HB Hfin Hst
        go_wp2_with fail
        go_ret2
        exact ⟨_, rfl, by rw [joinN_length]; exact hown1, hb1⟩
  · simp only [joinL, joinE, he, if_false]
    have hne : ((a.length : Int) != (b.length : Int)) = true := by simp; omega
    clear he
    go_enter Try.func35, Try.ntmps35
    go_wp2_with fail
    go_ret2
    exact ⟨_, rfl, World.ownsRow_nil _ _ _ _, Below.refl _ _⟩

set_option maxRecDepth 100000 in
set_option maxHeartbeats 1000000 in
theorem rsub_any (va vb : Value) (a b : List Nat) (w : World) (ha : Bs w va a) (hb : Bs w vb b) (la : a.length ≤ 140737488355328) (lb : b.length ≤ 140737488355328) :
    Calls Try.prog 37 #[va, vb] w (NewBsE w (joinL (fun x y => x &&& (255 - y)) a b) (joinE a b)) := by
  obtain ⟨i0, hi, hz0, hz1, hz2⟩ := info_parts Try.info5
  have xa := ha.lt
  have xb := hb.lt
  have HA := hide ha
  have HB := hide hb
  obtain ⟨aoa, capa, rfl, hla, _, _, hca⟩ := ha
  obtain ⟨aob, capb, rfl, hlb, _, _, hcb⟩ := hb
  clear hca hcb
  by_cases he : a.length = b.length
  · simp only [joinL, joinE, he, if_true]
    obtain ⟨n, hn⟩ : ∃ n, b.length = n := ⟨_, rfl⟩
    rw [hn] at he lb hlb HB ⊢
    rw [he] at la hla HA
    have Hn := hide hn
    have He := hide he
    clear hn he
    have hne : ((n : Int) != (n : Int)) = false := by simp
    have Hfin := fun cl => hide (@Jn.fin _ _ bitwise_sub a b cl xa xb n)
    have Hst := fun cl k hk c hc => hide (@Jn.step cl n k (fun j => (fun p q => p && !q) (bitB a j) (bitB b j)) · hk c hc)
    go_enter Try.func37, Try.ntmps37
    go_wp2_with (at_make; refine wpList_make_full _ rfl (.tmp 14) (.tmp 14) 22 rfl w.heap.size 5 i0 (.int .u8 0) 1 Try.underlying22 hi hz0 hz1 .i64 .i64 n n n rfl rfl rfl rfl (by rw [hz2]; omega) (by unfold maxLen; omega) (Nat.le_refl _) ?_; intro w1 hown hgrow)
    have hb0 : Below w.heap.size w w1 := (Below.refl _ _).grown hgrow (Nat.le_refl _) (by intro k hk; cases hk)
    rw [made_zeros] at hown
    go_loopw [6, 7] (fun v i wr => ∃ k : Nat, k ≤ 8 * n ∧ i = .int .i64 k ∧ v = .slice (some ⟨w.heap.size, 0, none⟩) n n ∧ (∃ cl, Jn cl n k (fun j => (fun p q => p && !q) (bitB a j) (bitB b j)) ∧ wr.ownsRow w.heap.size 5 1 (.slice (some ⟨w.heap.size, 0, none⟩) n n) n (cellsB cl)) ∧ Below w.heap.size w wr) (fun _ i _ => 8 * n - (intOf i).toNat)
    case atStart => exact ⟨0, Nat.zero_le _, rfl, rfl, ⟨_, Jn.zero n _, hown⟩, hb0⟩
    case round =>
      obtain ⟨k, hk, rfl, rfl, ⟨cl, hJ, hown1⟩, hb1⟩ := hrel
      clear hown hb0 hgrow
      by_cases hkn : k < 8 * n
      · have hga := rget_any _ a k wr (HA.out.below hb1 (Nat.le_refl _)) (by have := He.out; omega) (by omega)
        have hgb := rget_any _ b k wr (HB.out.below hb1 (Nat.le_refl _)) (by have := Hn.out; omega) (by omega)
        rw [getI_nat] at hga hgb
        have hput := fun is => rputin_any w.heap.size n k cl is w.heap.size wr (by rw [hJ.1]; exact hown1) hJ.2.1 (by rw [hJ.1]; exact hkn) (by rw [hJ.1]; omega)
        rw [hJ.1] at hput
        have Hput := hide hput
        have HJ := hide hJ
        have Hs := fun c hc => Hst cl k hkn c hc hJ
        clear hput hJ hown1 HA HB Hfin Hst
        cases hba : bitB a k <;> cases hbb : bitB b k
        all_goals
          rw [hba] at hga
          rw [hbb] at hgb
          go_wp2_with (first
            | (go_at_call_of 23 (Value.slice aoa n capa); refine hga.mono ?_; rintro e w' ⟨rfl, rfl⟩)
            | (go_at_call_of 23 (Value.slice aob n capb); refine hgb.mono ?_; rintro e w' ⟨rfl, rfl⟩)
            | (go_at_call 51; refine (Hput.out _).mono ?_; rintro e w2 ⟨rfl, hown2, hb2⟩))
          go_roundw
          case rel =>
            refine ⟨k + 1, by omega, by go_num, rfl, ?_, hb1.trans (hb2 _ (Nat.le_refl _))⟩
            first
              | exact ⟨_, Hs true (by rw [hba, hbb]; rfl), hown2⟩
              | exact ⟨_, Hs false (by rw [hba, hbb]; rfl), hown2⟩
          case measure => simp [intOf]; omega
      · obtain rfl : k = 8 * n := by omega
        have e := (Hfin cl).out hJ
        rw [e] at hown1
        clear e hJ HA HB Hfin Hst
        go_wp2_with fail
        go_ret2
        exact ⟨_, rfl, by rw [joinN_length]; exact hown1, hb1⟩
  · simp only [joinL, joinE, he, if_false]
    have hne : ((a.length : Int) != (b.length : Int)) = true := by simp; omega
    clear he
    go_enter Try.func37, Try.ntmps37
    go_wp2_with fail
    go_ret2
    exact ⟨_, rfl, World.ownsRow_nil _ _ _ _, Below.refl _ _⟩

def withinB (a b : List Nat) : Bool := (List.range (8 * a.length)).all fun i => !bitB a i || bitB b i
theorem within_yes {a b : List Nat} (h : ∀ i, i < 8 * a.length → bitB a i = true → bitB b i = true) : withinB a b = true := by
  unfold withinB
  rw [List.all_eq_true]
  intro i hi
  have := h i (by simpa using hi)
  cases h1 : bitB a i <;> simp_all
theorem within_no {a b : List Nat} {i : Nat} (hi : i < 8 * a.length) (h1 : bitB a i = true) (h2 : bitB b i = false) : withinB a b = false := by
  unfold withinB
  rw [List.all_eq_false]
  exact ⟨i, by simpa using hi, by simp [h1, h2]⟩

/-- What is left of a byte without another one. -/
theorem byte_in {x y : Nat} (hx : x < 256) (hy : y < 256) (h : x &&& (255 - y) = 0) : ∀ k, k < 8 → x.testBit k = true → y.testBit k = true := by
  intro k hk h1
  have h2 := (bitwise_sub x y hx hy).2 k hk
  simp only [h, Nat.zero_testBit] at h2
  rw [h1] at h2
  cases h3 : y.testBit k
  · rw [h3] at h2; simp at h2
  · rfl
theorem byte_out {x y : Nat} (hx : x < 256) (hy : y < 256) (h : x &&& (255 - y) ≠ 0) : ∃ k, k < 8 ∧ x.testBit k = true ∧ y.testBit k = false := by
  refine Classical.byContradiction fun hn => h ?_
  apply byte_ext (bitwise_sub x y hx hy).1 (by omega)
  intro k hk
  have h2 := (bitwise_sub x y hx hy).2 k hk
  simp only at h2
  rw [h2, Nat.zero_testBit]
  cases h3 : x.testBit k
  · rfl
  · cases h4 : y.testBit k
    · exact absurd ⟨k, hk, h3, h4⟩ hn
    · rfl
theorem within_byte {a b : List Nat} (ha : ∀ x ∈ a, x < 256) (hb : ∀ x ∈ b, x < 256) {k : Nat} (h : a.getD k 0 &&& (255 - b.getD k 0) = 0) (hk : ∀ i, i < 8 * k → bitB a i = true → bitB b i = true) : ∀ i, i < 8 * (k + 1) → bitB a i = true → bitB b i = true := by
  intro i hi h1
  by_cases h2 : i < 8 * k
  · exact hk i h2 h1
  · have e : i / 8 = k := by omega
    unfold bitB at h1 ⊢
    rw [e] at h1 ⊢
    exact byte_in (getD_lt ha k) (getD_lt hb k) h _ (by omega) h1
theorem within_not {a b : List Nat} (ha : ∀ x ∈ a, x < 256) (hb : ∀ x ∈ b, x < 256) {k : Nat} (hk : k < a.length) (h : a.getD k 0 &&& (255 - b.getD k 0) ≠ 0) : withinB a b = false := by
  obtain ⟨j, hj, h1, h2⟩ := byte_out (getD_lt ha k) (getD_lt hb k) h
  refine within_no (i := 8 * k + j) (by omega) ?_ ?_
  · unfold bitB
    rw [show (8 * k + j) / 8 = k by omega, show (8 * k + j) % 8 = j by omega]; exact h1
  · unfold bitB
    rw [show (8 * k + j) / 8 = k by omega, show (8 * k + j) % 8 = j by omega]; exact h2

set_option maxRecDepth 100000 in
set_option maxHeartbeats 1000000 in
theorem within_any (va vb : Value) (a b : List Nat) (w : World) (ha : Bs w va a) (hb : Bs w vb b) (la : a.length ≤ 140737488355328) (lb : b.length ≤ 140737488355328) :
    Calls Try.prog 38 #[va, vb] w fun e w' => e = .returned (.bool (withinB a b)) ∧ w = w' := by
  have xa := ha.lt
  have xb := hb.lt
  obtain ⟨aoa, capa, rfl, hla, _, _, hca⟩ := ha
  obtain ⟨aob, capb, rfl, hlb, _, _, hcb⟩ := hb
  have Hca := hide hca
  have Hcb := hide hcb
  clear hca hcb
  go_enter Try.func38, Try.ntmps38
  go_wp2_with fail
  go_loop [9] (fun i => ∃ k : Nat, k ≤ a.length ∧ i = .int .i64 k ∧ ∀ i, i < 8 * k → bitB a i = true → bitB b i = true) (fun i => a.length - (intOf i).toNat)
  case atStart => exact ⟨0, Nat.zero_le _, rfl, by simp⟩
  case round =>
    obtain ⟨k, hk, rfl, hall⟩ := hrel
    have Hall := hide hall
    clear hall
    by_cases hkn : k < a.length
    · obtain ⟨ba, offa, rfl, hcella⟩ := Hca.out (by omega)
      have hwa := hcella k hkn
      have hax := getD_lt xa k
      have hbx := getD_lt xb k
      have Hno := hide (@within_not a b xa xb k hkn)
      have Hyes := hide (fun h => @within_byte a b xa xb k h Hall.out)
      by_cases hkb : k < b.length
      · obtain ⟨bb, offb, rfl, hcellb⟩ := Hcb.out (by omega)
        have hwb := hcellb k hkb
        generalize a.getD k 0 = x at *
        generalize b.getD k 0 = y at *
        have Hs := hide (u8_andNot_nat x y hax hbx)
        clear hcella hcellb Hca Hcb Hall
        by_cases hz : x &&& (255 - y) = 0
        · have hd : (bits BinOp.andNot IntKind.u8 (x : Int) (y : Int) != 0) = false := by rw [Hs.out, hz]; rfl
          have Hz := hide (Hyes.out hz)
          clear hz Hyes Hno Hs
          go_wp2_with fail
          go_round
          case rel => exact ⟨k + 1, by omega, by go_num, Hz.out⟩
          case measure => simp [intOf]; omega
        · have hd : (bits BinOp.andNot IntKind.u8 (x : Int) (y : Int) != 0) = true := by rw [Hs.out]; simp; omega
          have Hz := hide (Hno.out hz)
          clear hz Hyes Hno Hs
          go_wp2_with fail
          go_ret
          exact ⟨by rw [Hz.out]; rfl, rfl⟩
      · have e : b.getD k 0 = 0 := by rw [List.getD_eq_getElem?_getD, List.getElem?_eq_none (by omega)]; rfl
        rw [e] at Hno Hyes
        generalize a.getD k 0 = x at *
        have e2 : x &&& (255 - 0) = x := by
          have := Nat.and_two_pow_sub_one_eq_mod x 8
          rw [show 255 - 0 = 2 ^ 8 - 1 from rfl, this]; omega
        rw [e2] at Hno Hyes
        clear hcella Hca Hcb Hall e e2 hbx
        by_cases hz : x = 0
        · have Hz := hide (Hyes.out hz)
          subst hz
          clear Hyes Hno
          go_wp2_with fail
          go_round
          case rel => exact ⟨k + 1, by omega, by go_num, Hz.out⟩
          case measure => simp [intOf]; omega
        · have hd : ((x : Int) != 0) = true := by simp; omega
          have Hz := hide (Hno.out hz)
          clear hz Hyes Hno
          go_wp2_with fail
          go_ret
          exact ⟨by rw [Hz.out]; rfl, rfl⟩
    · obtain rfl : k = a.length := by omega
      have Hz := hide (within_yes Hall.out)
      clear Hall Hca Hcb
      go_wp2_with fail
      go_ret
      exact ⟨by rw [Hz.out]; rfl, rfl⟩

set_option maxRecDepth 100000 in
set_option maxHeartbeats 1000000 in
theorem rwithin_any (va vb : Value) (a b : List Nat) (w : World) (ha : Bs w va a) (hb : Bs w vb b) (la : a.length ≤ 140737488355328) (lb : b.length ≤ 140737488355328) :
    Calls Try.prog 39 #[va, vb] w fun e w' => e = .returned (.bool (withinB a b)) ∧ w = w' := by
  have HA := hide (fun (k : Nat) hk => rget_any va a k w ha la hk)
  have HB := hide (fun (k : Nat) hk => rget_any vb b k w hb lb hk)
  obtain ⟨aoa, capa, rfl, hla, _, _, hca⟩ := ha
  clear hca hb
  go_enter Try.func39, Try.ntmps39
  go_wp2_with fail
  go_loop [5] (fun i => ∃ k : Nat, k ≤ 8 * a.length ∧ i = .int .i64 k ∧ ∀ i, i < k → bitB a i = true → bitB b i = true) (fun i => 8 * a.length - (intOf i).toNat)
  case atStart => exact ⟨0, Nat.zero_le _, rfl, by simp⟩
  case round =>
    obtain ⟨k, hk, rfl, hall⟩ := hrel
    have Hall := hide hall
    clear hall
    by_cases hkn : k < 8 * a.length
    · have hga := HA.out k (by omega)
      have hgb := HB.out k (by omega)
      rw [getI_nat] at hga hgb
      have Hno := hide (@within_no a b k hkn)
      have Hyes : Hid ((bitB a k = true → bitB b k = true) → ∀ i, i < k + 1 → bitB a i = true → bitB b i = true) := by
        intro h i hi h1
        by_cases e : i = k
        · subst e; exact h h1
        · exact Hall.out i (by omega) h1
      clear HA HB Hall
      generalize bitB a k = p at *
      generalize bitB b k = q at *
      cases p
      · have Hz := hide (Hyes.out (by simp))
        clear Hyes Hno hgb
        go_wp2_with (go_at_call 23; refine hga.mono ?_; rintro e w' ⟨rfl, rfl⟩)
        go_round
        case rel => exact ⟨k + 1, by omega, by go_num, Hz.out⟩
        case measure => simp [intOf]; omega
      · cases q
        · have Hz := hide (Hno.out rfl rfl)
          clear Hyes Hno
          go_wp2_with fail
          refine hga.mono ?_
          rintro e w' ⟨rfl, rfl⟩
          go_wp2_with fail
          refine hgb.mono ?_
          rintro e w' ⟨rfl, rfl⟩
          go_wp2_with fail
          go_ret
          exact ⟨by rw [Hz.out]; rfl, rfl⟩
        · have Hz := hide (Hyes.out (by simp))
          clear Hyes Hno
          go_wp2_with fail
          refine hga.mono ?_
          rintro e w' ⟨rfl, rfl⟩
          go_wp2_with fail
          refine hgb.mono ?_
          rintro e w' ⟨rfl, rfl⟩
          go_wp2_with fail
          go_round
          case rel => exact ⟨k + 1, by omega, by go_num, Hz.out⟩
          case measure => simp [intOf]; omega
    · obtain rfl : k = 8 * a.length := by omega
      have Hz := hide (within_yes Hall.out)
      clear Hall HA HB
      go_wp2_with fail
      go_ret
      exact ⟨by rw [Hz.out]; rfl, rfl⟩

end Go.Proofs.Ytkdajahcadjpfaa
