/- A record's sector as a list of bytes; what stands in it. Contracts: summed, the sixty bytes ahead of a record's sum. Contracts: Check of a record, and the document's. -/
import Derived.Test.YtjhbljkoapbkfaaGreatM2
import Derived.Deep.RegionHeld3
import Derived.Deep.RegionHeldLaw
import Derived.Laws.IdiomCopy
set_option linter.unusedSimpArgs false
set_option linter.unusedVariables false

namespace Go.Proofs.YtjhbljkoapbkfaaGreat
open Go.RowKit Go.Attic

def zerosL (n : Nat) : List Nat := List.replicate n 0
theorem zerosL_lt (n : Nat) : ∀ x ∈ zerosL n, x < 256 := fun x hx => by rw [List.eq_of_mem_replicate hx]; decide
theorem zerosL_length (n : Nat) : (zerosL n).length = n := List.length_replicate
theorem zerosL_take (n k : Nat) : (zerosL n).take k = zerosL (min k n) := List.take_replicate
theorem zerosL_drop (n k : Nat) : (zerosL n).drop k = zerosL (n - k) := List.drop_replicate
theorem zerosL_succ (n : Nat) : zerosL (n + 1) = zerosL n ++ [0] := List.replicate_succ'

theorem getN_left (a b : List Nat) (p k : Nat) (h : p + k ≤ a.length) : getN (a ++ b) p k = getN a p k := by
  induction k with
  | zero => rfl
  | succ k ih =>
    simp only [getN]
    rw [ih (by omega), List.getD_eq_getElem?_getD, List.getD_eq_getElem?_getD, List.getElem?_append_left (by omega)]
theorem getN_right (a b : List Nat) (p k : Nat) : getN (a ++ b) (a.length + p) k = getN b p k := by
  induction k with
  | zero => rfl
  | succ k ih =>
    simp only [getN]
    rw [ih, List.getD_eq_getElem?_getD, List.getD_eq_getElem?_getD, List.getElem?_append_right (by omega), show a.length + p + k - a.length = p + k by omega]
theorem getN_of_num (n v k : Nat) (hk : k ≤ n) : getN (numN n v) 0 k = v % 2 ^ (8 * k) := by
  induction k with
  | zero => simp [getN, Nat.mod_one]
  | succ k ih =>
    simp only [getN]
    rw [ih (by omega)]
    have e : (numN n v).getD (0 + k) 0 = v / 2 ^ (8 * k) % 256 := by
      rw [Nat.zero_add, List.getD_eq_getElem?_getD]
      simp [numN, show k < n by omega]
    rw [e, show 8 * (k + 1) = 8 * k + 8 by omega, Nat.pow_add, Nat.mod_mul, show (2 : Nat) ^ 8 = 256 from rfl, Nat.mul_comm (2 ^ (8 * k))]
theorem getN_num8 (v : Nat) (h : v < 2 ^ 64) : getN (numN 8 v) 0 8 = v := by rw [getN_of_num 8 v 8 (Nat.le_refl _)]; exact Nat.mod_eq_of_lt h
theorem getN_num4 (v : Nat) (h : v < 2 ^ 32) : getN (numN 4 v) 0 4 = v := by rw [getN_of_num 4 v 4 (Nat.le_refl _)]; exact Nat.mod_eq_of_lt h
theorem getN_skip (a b : List Nat) (m p k : Nat) (h : a.length = m) (hp : m ≤ p) : getN (a ++ b) p k = getN b (p - m) k := by
  have := getN_right a b (p - m) k
  rw [h, show m + (p - m) = p by omega] at this
  exact this
theorem getD_skip (a b : List Nat) (m p : Nat) (h : a.length = m) (hp : m ≤ p) : (a ++ b).getD p 0 = b.getD (p - m) 0 := by
  rw [List.getD_eq_getElem?_getD, List.getD_eq_getElem?_getD, List.getElem?_append_right (by omega), h]
/-- The number of the bytes from a place on, as the number of those bytes alone. -/
theorem getN_take (l : List Nat) (p k : Nat) : getN ((l.drop p).take k) 0 k = getN l p k := by
  have h : ∀ j, j ≤ k → getN ((l.drop p).take k) 0 j = getN l p j := by
    intro j
    induction j with
    | zero => intro _; rfl
    | succ j ih =>
      intro hj
      simp only [getN]
      rw [ih (by omega)]
      have e : ((l.drop p).take k).getD (0 + j) 0 = l.getD (p + j) 0 := by
        rw [Nat.zero_add, List.getD_eq_getElem?_getD, List.getD_eq_getElem?_getD, List.getElem?_take_of_lt (by omega), List.getElem?_drop]
      rw [e]
  exact h k (Nat.le_refl _)

/-- The sixty bytes ahead of the sum. -/
def bodyR (p k q o : Nat) (l : List Nat) : List Nat := [k, l.length] ++ (numN 8 p ++ (numN 4 q ++ ([o, 0] ++ (l ++ zerosL (44 - l.length)))))
theorem bodyR_length (p k q o : Nat) (l : List Nat) (h : l.length ≤ 44) : (bodyR p k q o l).length = 60 := by
  unfold bodyR
  simp only [List.length_append, numN_length, zerosL_length, List.length_cons, List.length_nil]
  omega
theorem bodyR_lt (p k q o : Nat) (l : List Nat) (hk : k < 256) (ho : o < 256) (h : l.length ≤ 44) (hx : ∀ x ∈ l, x < 256) : ∀ y ∈ bodyR p k q o l, y < 256 := by
  unfold bodyR
  intro y hy
  simp only [List.mem_append] at hy
  rcases hy with hy | hy | hy | hy | hy | hy
  · simp at hy; omega
  · exact numN_lt _ _ y hy
  · exact numN_lt _ _ y hy
  · simp at hy; omega
  · exact hx y hy
  · exact zerosL_lt _ y hy
def numR (k b m : Nat) : Nat := if k = 2 then m else b
/-- A record's sector. -/
def secR (p k b o m : Nat) (l : List Nat) : List Nat := sealN (bodyR p k (numR k b m) o l)
theorem secR_length (p k b o m : Nat) (l : List Nat) (h : l.length ≤ 44) : (secR p k b o m l).length = 64 := by
  unfold secR; rw [sealN_length, bodyR_length _ _ _ _ _ h]
theorem secR_lt (p k b o m : Nat) (l : List Nat) (hk : k < 256) (ho : o < 256) (h : l.length ≤ 44) (hx : ∀ x ∈ l, x < 256) : ∀ y ∈ secR p k b o m l, y < 256 := sealN_lt (bodyR_lt _ _ _ _ _ hk ho h hx)
theorem secR_form (p k b o m : Nat) (l : List Nat) : ∃ t, secR p k b o m l = [k, l.length] ++ (numN 8 p ++ (numN 4 (numR k b m) ++ ([o, 0] ++ (l ++ t)))) := by
  refine ⟨zerosL (44 - l.length) ++ numN 4 (sumN (bodyR p k (numR k b m) o l)), ?_⟩
  unfold secR sealN
  conv => lhs; lhs; unfold bodyR
  simp only [List.append_assoc]

/-- What stands where a record's fields stand. -/
theorem sec_fields (p k b o m : Nat) (l : List Nat) (hp : p < 2 ^ 64) (hq : numR k b m < 2 ^ 32) :
    (secR p k b o m l).getD 0 0 = k ∧ (secR p k b o m l).getD 1 0 = l.length ∧ getN (secR p k b o m l) 2 8 = p ∧ getN (secR p k b o m l) 10 4 = numR k b m ∧ (secR p k b o m l).getD 14 0 = o ∧ ((secR p k b o m l).drop 16).take l.length = l := by
  obtain ⟨t, e⟩ := secR_form p k b o m l
  generalize secR p k b o m l = L at *
  subst e
  have h8 := numN_length 8
  have h4 := numN_length 4
  refine ⟨rfl, rfl, ?_, ?_, ?_, ?_⟩
  · rw [getN_skip _ _ 2 2 8 rfl (by omega), getN_left _ _ _ 8 (by rw [h8]; omega)]
    exact getN_num8 p hp
  · rw [getN_skip _ _ 2 10 4 rfl (by omega), getN_skip _ _ 8 _ 4 (h8 _) (by omega), getN_left _ _ _ 4 (by rw [h4]; omega)]
    exact getN_num4 _ hq
  · rw [getD_skip _ _ 2 14 rfl (by omega), getD_skip _ _ 8 _ (h8 _) (by omega), getD_skip _ _ 4 _ (h4 _) (by omega)]
    rfl
  · rw [← List.append_assoc, ← List.append_assoc, ← List.append_assoc, List.drop_left' (by simp [h8, h4]), List.take_left' rfl]

theorem okR_nat {k b o m : Int} {n : Nat} (h : okR k b o m n) : ∃ k' b' o' m' : Nat, k = k' ∧ b = b' ∧ o = o' ∧ m = m' := by
  unfold okR okP okC at h
  exact ⟨k.toNat, b.toNat, o.toNat, m.toNat, by omega, by omega, by omega, by omega⟩
theorem okR_range {k b o m n : Nat} (h : okR k b o m n) : 1 ≤ k ∧ k ≤ 2 ∧ b < 2048 ∧ o < 256 ∧ m ≤ 65536 ∧ n ≤ 44 := by
  unfold okR okP okC at h
  omega
theorem numR_lt {k b o m n : Nat} (h : okR k b o m n) : numR k b m < 2 ^ 32 := by
  have := okR_range h
  unfold numR
  split <;> omega
theorem okR_patch {k b o m n : Nat} (h : okR k b o m n) (h1 : k = 1) : m = 0 := by
  unfold okR okP okC at h
  omega
theorem okR_commit {k b o m n : Nat} (h : okR k b o m n) (h1 : k = 2) : b = 0 ∧ o = 0 ∧ n = 0 := by
  unfold okR okP okC at h
  omega

/-- Bytes are the sector of a record that may be, at a place that may be. -/
def IsR (L : List Nat) (p k b o m : Nat) (l : List Nat) : Prop := okR k b o m l.length ∧ p ≤ 2305843009213693952 ∧ (∀ x ∈ l, x < 256) ∧ L = secR p k b o m l
def NoR (L : List Nat) : Prop := ∀ (p k b o m : Nat) (l : List Nat), ¬ IsR L p k b o m l

theorem IsR.len {L : List Nat} {p k b o m : Nat} {l : List Nat} (h : IsR L p k b o m l) : L.length = 64 := by
  rw [h.2.2.2, secR_length _ _ _ _ _ _ (okR_range h.1).2.2.2.2.2]
theorem IsR.fields {L : List Nat} {p k b o m : Nat} {l : List Nat} (h : IsR L p k b o m l) :
    L.getD 0 0 = k ∧ L.getD 1 0 = l.length ∧ getN L 2 8 = p ∧ getN L 10 4 = numR k b m ∧ L.getD 14 0 = o ∧ (L.drop 16).take l.length = l := by
  obtain ⟨h1, h2, h3, rfl⟩ := h
  exact sec_fields p k b o m l (by omega) (numR_lt h1)
theorem IsR.one {L : List Nat} {p k b o m p' k' b' o' m' : Nat} {l l' : List Nat} (h : IsR L p k b o m l) (h' : IsR L p' k' b' o' m' l') : p = p' ∧ k = k' ∧ b = b' ∧ o = o' ∧ m = m' ∧ l = l' := by
  obtain ⟨e0, e1, e2, e3, e4, e5⟩ := h.fields
  obtain ⟨e0', e1', e2', e3', e4', e5'⟩ := h'.fields
  have hl : l = l' := by rw [← e5, ← e5', ← e1, ← e1']
  subst hl
  have hk : k = k' := by omega
  subst hk
  rw [e3] at e3'
  have r := okR_range h.1
  refine ⟨by omega, rfl, ?_, by omega, ?_, rfl⟩
  · by_cases h2 : k = 2
    · rw [(okR_commit h.1 h2).1, (okR_commit h'.1 h2).1]
    · unfold numR at e3'
      rw [if_neg h2, if_neg h2] at e3'
      exact e3'
  · by_cases h2 : k = 2
    · unfold numR at e3'
      rw [if_pos h2, if_pos h2] at e3'
      exact e3'
    · rw [okR_patch h.1 (by omega), okR_patch h'.1 (by omega)]


end Go.Proofs.YtjhbljkoapbkfaaGreat

namespace Go.Proofs.YtjhbljkoapbkfaaGreat
open Go.RowKit Go.Attic

/-- What stands while the sixty bytes are laid. -/
structure Sm (w w1 : World) (k b o : Int) (v : Value) (m : Int) (X : List Nat) : Prop where
  rcd : RecAt w1 w.heap.size k b o v m
  own : w1.ownsRow w.heap.size 5 1 (.slice (some ⟨w.heap.size + 1, 0, none⟩) 60 60) 60 (cellsB X)
  bel : Below w.heap.size w w1
  lt : w.heap.size + 1 < w1.heap.size

theorem Sm.mono {w w1 w2 : World} {k b o m : Int} {v : Value} {X : List Nat} (h : Sm w w1 k b o v m X) (hb : Below w1.heap.size w1 w2) : Sm w w2 k b o v m X :=
  ⟨h.rcd.mono hb, owns_below h.own hb (Nat.le_refl _), h.bel.trans (hb.mono h.bel.size), Nat.lt_of_lt_of_le h.lt hb.size⟩
theorem Sm.drew {w w1 : World} {k b o m : Int} {v : Value} {X : List Nat} (h : Sm w w1 k b o v m X) : Sm w w1.drew k b o v m X := h.mono (Below.refl _ _).drew
theorem Sm.turn {w w1 w2 : World} {k b o m : Int} {v : Value} {X Y : List Nat} (h : Sm w w1 k b o v m X) (hk : Keeps (fun j => j = w.heap.size + 1) w1 w2) (ho : w2.ownsRow w.heap.size 5 1 (.slice (some ⟨w.heap.size + 1, 0, none⟩) 60 60) 60 (cellsB Y)) : Sm w w2 k b o v m Y :=
  ⟨h.rcd.keeps hk (by omega), ho, h.bel.trans (hk.below (fun j hj => by have e : j = w.heap.size + 1 := hj; omega) h.bel.size), Nat.lt_of_lt_of_le h.lt hk.size⟩
theorem zeros_mid (A : List Nat) (c : Nat) : (A ++ zerosL (c + 1))[A.length]? = some 0 := by
  rw [List.getElem?_append_right (Nat.le_refl _), Nat.sub_self, zerosL, List.getElem?_replicate, if_pos (by omega)]
theorem set_mid (A : List Nat) (c y : Nat) : (cellsB (A ++ zerosL (c + 1))).set A.length (.int .u8 (y : Int)) = cellsB ((A ++ [y]) ++ zerosL c) := by
  rw [cellsB_append, List.set_append_right _ _ (by rw [cellsB_length]; omega), cellsB_length, Nat.sub_self, show zerosL (c + 1) = 0 :: zerosL c from rfl, cellsB_append, cellsB_append]
  simp [cellsB]
/-- A byte is stored behind what is laid. -/
theorem Sm.store {w w1 : World} {k b o m : Int} {v : Value} {A : List Nat} {c n : Nat} (hn : A.length = n) (h : Sm w w1 k b o v m (A ++ zerosL (c + 1))) (y : Nat) (z : Int) (hz : z = y) : Sm w (w1.setCell ⟨w.heap.size + 1, n, none⟩ (.int .u8 z)) k b o v m ((A ++ [y]) ++ zerosL c) := by
  subst hn hz
  refine h.turn (Keeps.setCell (S := fun j => j = w.heap.size + 1) _ rfl _) ?_
  have := h.own.stored A.length (.int .u8 (y : Int))
  rw [set_mid] at this
  exact this.1
theorem Sm.cell {w w1 : World} {k b o m : Int} {v : Value} {A : List Nat} {c n : Nat} (hn : A.length = n) (h : Sm w w1 k b o v m (A ++ zerosL (c + 1))) (h60 : n < 60) : w1.cell? ⟨w.heap.size + 1, n, none⟩ = some (.int .u8 0) := by
  subst hn
  rw [h.own.cellAt A.length (by omega), cellsB, List.getElem?_map, zeros_mid]
  rfl
theorem splice_mid (A x : List Nat) (c : Nat) : splice (cellsB (A ++ zerosL c)) A.length (cellsB x) = cellsB ((A ++ x) ++ zerosL (c - x.length)) := by
  unfold splice
  have e1 : (cellsB (A ++ zerosL c)).take A.length = cellsB A := by rw [cellsB_append, List.take_left' (cellsB_length A)]
  have e2 : (cellsB (A ++ zerosL c)).drop (A.length + (cellsB x).length) = cellsB (zerosL (c - x.length)) := by
    rw [cellsB_length, cellsB_append, ← cellsB_length A, List.drop_length_add_append]
    unfold cellsB
    rw [← List.map_drop, zerosL_drop]
  rw [e1, e2, ← cellsB_append, ← cellsB_append, List.append_assoc]

theorem owns_raise {w : World} {base base' : Nat} {e : TypeId} {m n cap : Nat} {xs : List Value} (h : w.ownsRow base e 1 (.slice (some ⟨m, 0, none⟩) n cap) n xs) (hB : base' ≤ m) : w.ownsRow base' e 1 (.slice (some ⟨m, 0, none⟩) n cap) n xs := by
  refine ⟨h.1, ?_⟩
  rcases h.2 with ⟨hn, _⟩ | ⟨g, cap', cur, hv, hb', rest⟩
  · cases hn
  · injection hv with e1 e2 e3
    injection e1 with e1
    injection e1 with e1
    exact .inr ⟨g, cap', cur, by rw [e1, e3], by omega, rest⟩
theorem Sm.copied {w w1 w2 : World} {k b o m : Int} {v : Value} {A x : List Nat} {c c' n : Nat} (h : Sm w w1 k b o v m (A ++ zerosL c)) (hn : A.length = n) (hk : Keeps (fun j => j = w.heap.size + 1) w1 w2) (ho : w2.ownsRow 0 5 1 (.slice (some ⟨w.heap.size + 1, 0, none⟩) 60 60) 60 (splice (cellsB (A ++ zerosL c)) n (cellsB x))) (hc : c - x.length = c') : Sm w w2 k b o v m ((A ++ x) ++ zerosL c') := by
  subst hn hc
  rw [splice_mid] at ho
  exact h.turn hk (owns_raise ho (by omega))

theorem num8' (v : Nat) (w : World) (h : v < 2 ^ 64) : Calls Tryz.prog 96 #[.int .i64 8, .int .u64 v] w (NewBs w (numN 8 v)) := num_yes 8 v w (by decide) (by decide) h
theorem num4' (v : Nat) (w : World) (h : v < 2 ^ 64) : Calls Tryz.prog 96 #[.int .i64 4, .int .u64 v] w (NewBs w (numN 4 v)) := num_yes 4 v w (by decide) (by decide) h
theorem num_form {w : World} {base : Nat} {v : Value} {n x : Nat} (hn : 0 < n) (h : w.ownsRow base 5 1 v (numN n x).length (cellsB (numN n x))) : ∃ g cap, v = .slice (some ⟨g, 0, none⟩) n cap ∧ ∀ j u, (cellsB (numN n x))[j]? = some u → w.cell? ((⟨g, 0, none⟩ : Addr).add j) = some u := by
  rw [numN_length] at h
  obtain ⟨ao, cap, rfl, -, hg⟩ := owns_form h
  obtain ⟨g, rfl, -⟩ := hg hn
  exact ⟨g, cap, rfl, h.cells (g := g) rfl⟩

set_option maxRecDepth 100000 in
set_option maxHeartbeats 400000 in
theorem summed_P (p b o : Nat) (l : List Nat) (v : Value) (w : World) (hv : Bs w v l) (hp : p ≤ 2305843009213693952) (hb : b < 2048) (ho : o < 256) (h1 : 1 ≤ l.length) (h44 : l.length ≤ 44) :
    Calls Tryz.prog 89 #[.int .i64 (p : Nat), .agg #[.int .i64 1, .int .i64 (b : Nat), .int .i64 (o : Nat), v, .int .i64 0]] w (NewBs w (bodyR p 1 b o l)) := by
  obtain ⟨i0, hi, hz0, hz1, hz2⟩ := info_parts Tryz.info5
  have hinf : (Tryz.prog.info? 5).map (·.size) = some 1 := by kernel_rfl
  obtain ⟨ao, cap, rfl, -, -, -, hc⟩ := id hv
  obtain ⟨vb, voff, rfl, hcell⟩ := hc (by omega)
  clear hc
  have hR0 := RecAt.new w 1 (b : Nat) (o : Nat) (.slice (some ⟨vb, voff, none⟩) l.length cap) 0
  have hwp : IntKind.u64.wrap (p : Int) = p := wrap_u64 _ (by omega)
  have hwq : IntKind.u64.wrap (b : Int) = b := wrap_u64 _ (by omega)
  go_enter Tryz.func89, Tryz.ntmps89
  go_wp2_with (at_make; refine wpList_make_full _ rfl (.const (.int .i64 60)) (.const (.int .i64 60)) 30 rfl (w.heap.size + 1) 5 i0 (.int .u8 0) 1 Tryz.underlying30 hi hz0 hz1 .i64 .i64 60 60 60 rfl rfl rfl rfl (by rw [hz2]; omega) (by unfold maxLen; omega) (by simp) ?_; intro w1 hown hgrow; have hb1 := (Below.refl (w.alloc (.cells #[.int .i64 1, .int .i64 (b : Nat), .int .i64 (o : Nat), .slice (some ⟨vb, voff, none⟩) l.length cap, .int .i64 0] 52)).heap.size _).grown hgrow (Nat.le_refl _) (by intro k hk; cases hk); have hm0 : Sm w w1 1 (b : Nat) (o : Nat) (.slice (some ⟨vb, voff, none⟩) l.length cap) 0 ([] ++ zerosL 60) := ⟨hR0.mono hb1, by rw [made_zeros] at hown; exact owns_base (by simpa [zerosL] using hown) (by omega), ((Below.refl _ w).alloc (Nat.le_refl _) _).trans (hb1.mono (by simp)), by have h1 := owns_lt' hown _ rfl; simpa using h1⟩; clear hgrow hown hb1 hR0; obtain ⟨c0, c1, c2, c3, c4, f0, f1, f2, f3, f4, lp⟩ := hm0.rcd; have q0 := hm0.cell (n := 0) rfl (by decide); have g0 := fun j => hm0.own.frozenAt j; have hm1 := hm0.store (n := 0) rfl 1 1 rfl; have q1 := hm1.cell (n := 1) rfl (by decide); have hm2 := hm1.store (n := 1) rfl l.length l.length rfl; clear hm0 hm1)
  clear c0 c1 c2 c3 c4 f0 f1 f2 f3 f4 lp q0 q1 g0
  generalize ((w1.setCell ⟨w.heap.size + 1, 0, none⟩ (.int .u8 1)).setCell ⟨w.heap.size + 1, 1, none⟩ (.int .u8 l.length)) = w2 at hm2 ⊢
  obtain ⟨A2, hA2⟩ : ∃ A, A = [] ++ [1] ++ [l.length] := ⟨_, rfl⟩
  rw [← hA2] at hm2
  have hl2 : A2.length = 2 := by rw [hA2]; rfl
  have HA2 := hide hA2
  have Hl2 := hide hl2
  clear hA2 hl2
  have hd2 := hm2.drew
  clear hm2
  go_region_held3 (fun _ => True) (trivial) (first
    | (go_at_call 96; refine (num8' p _ (by omega)).mono ?_; rintro r u2 ⟨vv, rfl, ho3, hb3⟩; obtain ⟨g3, cap3, rfl, hs3⟩ := num_form (by decide) ho3; have he2 := hd2.mono hb3; clear ho3 hb3)
    | (refine step_copy_own rfl (.tmp 27) (.tmp 30) 30 30 rfl 5 Tryz.underlying30 hinf (w.heap.size + 1) 2 8 8 ⟨g3, 0, none⟩ 8 cap3 rfl rfl 60 60 _ (owns_base he2.own (Nat.zero_le _)) (cellsB (numN 8 p)) (by rw [cellsB_length, numN_length]; rfl) hs3 (by rw [cellsB_length, numN_length]; decide) (cellsB_oneCell _) ?_; intro y2 o5 k5; rw [cellsB_length, numN_length]))
  have hm3 := he2.copied (c' := 50) Hl2.out k5 o5 (by rw [numN_length])
  clear o5 k5 hs3 he2
  obtain ⟨A3, hA3⟩ : ∃ A, A = A2 ++ numN 8 p := ⟨_, rfl⟩
  rw [← hA3] at hm3
  have hl3 : A3.length = 10 := by rw [hA3, List.length_append, Hl2.out, numN_length]
  have HA3 := hide hA3
  have Hl3 := hide hl3
  clear hA3 hl3
  go_wp2_with fail
  have hd3 := hm3.drew
  clear hm3
  go_region_held3 (fun _ => True) (trivial) (first
    | (go_at_call 96; refine (num4' b _ (by omega)).mono ?_; rintro r u3 ⟨vv, rfl, ho3, hb3⟩; obtain ⟨g3, cap3, rfl, hs3⟩ := num_form (by decide) ho3; have he3 := hd3.mono hb3; clear ho3 hb3)
    | (refine step_copy_own rfl (.tmp 33) (.tmp 36) 30 30 rfl 5 Tryz.underlying30 hinf (w.heap.size + 1) 10 4 4 ⟨g3, 0, none⟩ 4 cap3 rfl rfl 60 60 _ (owns_base he3.own (Nat.zero_le _)) (cellsB (numN 4 b)) (by rw [cellsB_length, numN_length]; rfl) hs3 (by rw [cellsB_length, numN_length]; decide) (cellsB_oneCell _) ?_; intro y3 o5 k5; rw [cellsB_length, numN_length]))
  have hm4 := he3.copied (c' := 46) Hl3.out k5 o5 (by rw [numN_length])
  clear o5 k5 hs3 he3
  obtain ⟨A4, hA4⟩ : ∃ A, A = A3 ++ numN 4 b := ⟨_, rfl⟩
  rw [← hA4] at hm4
  have hl4 : A4.length = 14 := by rw [hA4, List.length_append, Hl3.out, numN_length]
  have HA4 := hide hA4
  have Hl4 := hide hl4
  clear hA4 hl4
  obtain ⟨c0, c1, c2, c3, c4, f0, f1, f2, f3, f4, lp⟩ := hm4.rcd
  have q0 := hm4.cell (n := 14) Hl4.out (by decide)
  have g0 := fun j => hm4.own.frozenAt j
  have hm5 := hm4.store (n := 14) Hl4.out o o rfl
  clear hm4
  go_wp2_with fail
  clear c0 c1 c2 c3 c4 f0 f1 f2 f3 f4 lp q0 g0
  generalize (y3.setCell ⟨w.heap.size + 1, 14, none⟩ (.int .u8 o)) = w5 at hm5 ⊢
  obtain ⟨A5, hA5⟩ : ∃ A, A = A4 ++ [o, 0] := ⟨_, rfl⟩
  have ha5 : A4 ++ [o] ++ zerosL 45 = A5 ++ zerosL 44 := by
    rw [hA5, show zerosL 45 = 0 :: zerosL 44 from rfl, List.append_assoc, List.append_assoc]; rfl
  rw [ha5] at hm5
  have hl5 : A5.length = 16 := by rw [hA5, List.length_append, Hl4.out]; rfl
  have HA5 := hide hA5
  have Hl5 := hide hl5
  clear hA5 hl5 ha5
  have hd5 := hm5.drew
  clear hm5
  have S0 := hd5.rcd.c3
  have hsrc := (hv.mono hd5.bel).cells ⟨vb, voff, none⟩ rfl
  have hq1 : (cellsB l).length = Nat.min l.length 44 := by rw [cellsB_length]; exact (Nat.min_eq_left h44).symm
  have hne : ¬ (w.heap.size = w.heap.size + 1) := by omega
  have hq2 : 16 + (cellsB l).length ≤ 60 := by rw [cellsB_length]; omega
  go_region_held3 (fun w' => w'.cell? ⟨w.heap.size, 3, none⟩ = some (.slice (some ⟨vb, voff, none⟩) l.length cap)) (first | exact S0 | exact k7.cell S0 hne)
    (first | (refine step_copy_own rfl (.tmp 44) (.tmp 46) 30 30 rfl 5 Tryz.underlying30 hinf (w.heap.size + 1) 16 44 44 ⟨vb, voff, none⟩ l.length cap rfl rfl 60 60 _ (owns_base hd5.own (Nat.zero_le _)) (cellsB l) hq1 hsrc hq2 (cellsB_oneCell _) ?_; intro y5 o7 k7; rw [cellsB_length]))
  have hm6 := hd5.copied (c' := 44 - l.length) Hl5.out k7 o7 rfl
  have O := hide hm6.own
  have B := hm6.bel
  clear hm6 o7 k7 hsrc S0 hd5
  go_wp2_with fail
  go_ret
  refine ⟨_, rfl, ?_, B⟩
  rw [bodyR_length _ _ _ _ _ h44]
  have e : A5 ++ l ++ zerosL (44 - l.length) = bodyR p 1 b o l := by
    rw [HA5.out, HA4.out, HA3.out, HA2.out]
    unfold bodyR
    simp only [List.append_assoc, List.nil_append]
    rfl
  rw [← e]
  exact O.out

set_option maxRecDepth 100000 in
set_option maxHeartbeats 400000 in
theorem summed_C (p m : Nat) (v : Value) (w : World) (hv : Bs w v []) (hp : p ≤ 2305843009213693952) (hm : m ≤ 65536) :
    Calls Tryz.prog 89 #[.int .i64 (p : Nat), .agg #[.int .i64 2, .int .i64 0, .int .i64 0, v, .int .i64 (m : Nat)]] w (NewBs w (bodyR p 2 m 0 [])) := by
  obtain ⟨i0, hi, hz0, hz1, hz2⟩ := info_parts Tryz.info5
  have hinf : (Tryz.prog.info? 5).map (·.size) = some 1 := by kernel_rfl
  obtain ⟨ao, cap, rfl, -, -, -, hc⟩ := id hv
  simp only [List.length_nil] at hv ⊢
  clear hc
  have hR0 := RecAt.new w 2 0 0 (.slice ao 0 cap) (m : Nat)
  have hwp : IntKind.u64.wrap (p : Int) = p := wrap_u64 _ (by omega)
  have hwq : IntKind.u64.wrap (m : Int) = m := wrap_u64 _ (by omega)
  go_enter Tryz.func89, Tryz.ntmps89
  go_wp2_with (at_make; refine wpList_make_full _ rfl (.const (.int .i64 60)) (.const (.int .i64 60)) 30 rfl (w.heap.size + 1) 5 i0 (.int .u8 0) 1 Tryz.underlying30 hi hz0 hz1 .i64 .i64 60 60 60 rfl rfl rfl rfl (by rw [hz2]; omega) (by unfold maxLen; omega) (by simp) ?_; intro w1 hown hgrow; have hb1 := (Below.refl (w.alloc (.cells #[.int .i64 2, .int .i64 0, .int .i64 0, .slice ao 0 cap, .int .i64 (m : Nat)] 52)).heap.size _).grown hgrow (Nat.le_refl _) (by intro k hk; cases hk); have hm0 : Sm w w1 2 0 0 (.slice ao 0 cap) (m : Nat) ([] ++ zerosL 60) := ⟨hR0.mono hb1, by rw [made_zeros] at hown; exact owns_base (by simpa [zerosL] using hown) (by omega), ((Below.refl _ w).alloc (Nat.le_refl _) _).trans (hb1.mono (by simp)), by have h1 := owns_lt' hown _ rfl; simpa using h1⟩; clear hgrow hown hb1 hR0; obtain ⟨c0, c1, c2, c3, c4, f0, f1, f2, f3, f4, lp⟩ := hm0.rcd; have q0 := hm0.cell (n := 0) rfl (by decide); have g0 := fun j => hm0.own.frozenAt j; have hm1 := hm0.store (n := 0) rfl 2 2 rfl; have q1 := hm1.cell (n := 1) rfl (by decide); have hm2 := hm1.store (n := 1) rfl 0 0 rfl; clear hm0 hm1)
  clear c0 c1 c2 c3 c4 f0 f1 f2 f3 f4 lp q0 q1 g0
  generalize ((w1.setCell ⟨w.heap.size + 1, 0, none⟩ (.int .u8 2)).setCell ⟨w.heap.size + 1, 1, none⟩ (.int .u8 0)) = w2 at hm2 ⊢
  obtain ⟨A2, hA2⟩ : ∃ A, A = [] ++ [2] ++ [0] := ⟨_, rfl⟩
  rw [← hA2] at hm2
  have hl2 : A2.length = 2 := by rw [hA2]; rfl
  have HA2 := hide hA2
  have Hl2 := hide hl2
  clear hA2 hl2
  have hd2 := hm2.drew
  clear hm2
  go_region_held3 (fun _ => True) (trivial) (first
    | (go_at_call 96; refine (num8' p _ (by omega)).mono ?_; rintro r u2 ⟨vv, rfl, ho3, hb3⟩; obtain ⟨g3, cap3, rfl, hs3⟩ := num_form (by decide) ho3; have he2 := hd2.mono hb3; clear ho3 hb3)
    | (refine step_copy_own rfl (.tmp 27) (.tmp 30) 30 30 rfl 5 Tryz.underlying30 hinf (w.heap.size + 1) 2 8 8 ⟨g3, 0, none⟩ 8 cap3 rfl rfl 60 60 _ (owns_base he2.own (Nat.zero_le _)) (cellsB (numN 8 p)) (by rw [cellsB_length, numN_length]; rfl) hs3 (by rw [cellsB_length, numN_length]; decide) (cellsB_oneCell _) ?_; intro y2 o5 k5; rw [cellsB_length, numN_length]))
  have hm3 := he2.copied (c' := 50) Hl2.out k5 o5 (by rw [numN_length])
  clear o5 k5 hs3 he2
  obtain ⟨A3, hA3⟩ : ∃ A, A = A2 ++ numN 8 p := ⟨_, rfl⟩
  rw [← hA3] at hm3
  have hl3 : A3.length = 10 := by rw [hA3, List.length_append, Hl2.out, numN_length]
  have HA3 := hide hA3
  have Hl3 := hide hl3
  clear hA3 hl3
  go_wp2_with fail
  have hd3 := hm3.drew
  clear hm3
  go_region_held3 (fun _ => True) (trivial) (first
    | (go_at_call 96; refine (num4' m _ (by omega)).mono ?_; rintro r u3 ⟨vv, rfl, ho3, hb3⟩; obtain ⟨g3, cap3, rfl, hs3⟩ := num_form (by decide) ho3; have he3 := hd3.mono hb3; clear ho3 hb3)
    | (refine step_copy_own rfl (.tmp 33) (.tmp 36) 30 30 rfl 5 Tryz.underlying30 hinf (w.heap.size + 1) 10 4 4 ⟨g3, 0, none⟩ 4 cap3 rfl rfl 60 60 _ (owns_base he3.own (Nat.zero_le _)) (cellsB (numN 4 m)) (by rw [cellsB_length, numN_length]; rfl) hs3 (by rw [cellsB_length, numN_length]; decide) (cellsB_oneCell _) ?_; intro y3 o5 k5; rw [cellsB_length, numN_length]))
  have hm4 := he3.copied (c' := 46) Hl3.out k5 o5 (by rw [numN_length])
  clear o5 k5 hs3 he3
  obtain ⟨A4, hA4⟩ : ∃ A, A = A3 ++ numN 4 m := ⟨_, rfl⟩
  rw [← hA4] at hm4
  have hl4 : A4.length = 14 := by rw [hA4, List.length_append, Hl3.out, numN_length]
  have HA4 := hide hA4
  have Hl4 := hide hl4
  clear hA4 hl4
  obtain ⟨c0, c1, c2, c3, c4, f0, f1, f2, f3, f4, lp⟩ := hm4.rcd
  have q0 := hm4.cell (n := 14) Hl4.out (by decide)
  have g0 := fun j => hm4.own.frozenAt j
  have hm5 := hm4.store (n := 14) Hl4.out 0 0 rfl
  clear hm4
  go_wp2_with fail
  clear c0 c1 c2 c3 c4 f0 f1 f2 f3 f4 lp q0 g0
  generalize (y3.setCell ⟨w.heap.size + 1, 14, none⟩ (.int .u8 0)) = w5 at hm5 ⊢
  obtain ⟨A5, hA5⟩ : ∃ A, A = A4 ++ [0, 0] := ⟨_, rfl⟩
  have ha5 : A4 ++ [0] ++ zerosL 45 = A5 ++ zerosL 44 := by
    rw [hA5, show zerosL 45 = 0 :: zerosL 44 from rfl, List.append_assoc, List.append_assoc]; rfl
  rw [ha5] at hm5
  have hl5 : A5.length = 16 := by rw [hA5, List.length_append, Hl4.out]; rfl
  have HA5 := hide hA5
  have Hl5 := hide hl5
  clear hA5 hl5 ha5
  have hd5 := hm5.drew
  clear hm5
  have S0 := hd5.rcd.c3
  have hce : ∀ (W : World) (ty : TypeId), (Builtin.copy_ #[30, 30] ty #[.slice (some ⟨w.heap.size + 1, 16, none⟩) 44 44, .slice ao 0 cap]).run Tryz.prog W = .ok (goInt 0) W := fun W ty => run_copy_none W 30 30 ty 5 _ ao 44 44 0 cap Tryz.underlying30 hinf rfl
  have O := hide hd5.own
  have B := hd5.bel
  clear hd5 hv
  go_region
  go_wp2_with fail
  go_ret
  refine ⟨_, rfl, ?_, B⟩
  rw [bodyR_length _ _ _ _ _ (by simp)]
  have e : A5 ++ zerosL 44 = bodyR p 2 m 0 [] := by
    rw [HA5.out, HA4.out, HA3.out, HA2.out]
    unfold bodyR
    simp only [List.append_assoc, List.nil_append]
    rfl
  rw [← e]
  exact O.out



end Go.Proofs.YtjhbljkoapbkfaaGreat

namespace Go.Proofs.YtjhbljkoapbkfaaGreat
open Go.RowKit Go.Attic

set_option maxRecDepth 100000 in
set_option maxHeartbeats 400000 in
theorem check_any (k b o m : Int) (n cap : Nat) (ao : Option Addr) (w : World) (hn : n ≤ 140737488355328) :
    Calls Tryz.prog 47 #[.agg #[.int .i64 k, .int .i64 b, .int .i64 o, .slice ao n cap, .int .i64 m]] w fun e w' => e = .returned (.int .i64 (chkR k b o m n)) ∧ Below w.heap.size w w' := by
  have Hs := RecAt.new w k b o (.slice ao n cap) m
  by_cases hp : okP k b o m n
  · have hc := fun w => isPatch_yes k b o m n cap ao w hn hp
    rw [chkR_ok (.inl hp)]
    clear hp
    go_enter Tryz.func47, Tryz.ntmps47
    go_wp2_with (go_at_call 71; refine (hc _).mono ?_; rintro e w1 ⟨rfl, hb1⟩)
    go_ret
    exact ⟨rfl, ((Below.refl _ w).alloc (Nat.le_refl _) _).trans (hb1.mono (by simp))⟩
  · have hc := fun w => isPatch_no k b o m n cap ao w hn hp
    by_cases hq : okC k b o m n
    · have hd := fun w => isCommit_yes k b o m n cap ao w hn hq
      rw [chkR_ok (.inr hq)]
      clear hp hq
      go_enter Tryz.func47, Tryz.ntmps47
      go_wp2_with (first | (go_at_call 71; refine (hc _).mono ?_; rintro e w1 ⟨rfl, hb1⟩; obtain ⟨c0, c1, c2, c3, c4, f0, f1, f2, f3, f4, lp⟩ := Hs.mono hb1; have B1 : Below w.heap.size w w1 := ((Below.refl _ w).alloc (Nat.le_refl _) _).trans (hb1.mono (by simp)); clear hb1) | (go_at_call 72; refine (hd _).mono ?_; rintro e w2 ⟨rfl, hb2⟩))
      go_ret
      exact ⟨rfl, B1.trans (hb2.mono B1.size)⟩
    · have hd := fun w => isCommit_no k b o m n cap ao w hn hq
      rw [chkR_no (fun h => h.elim hp hq)]
      clear hp hq
      go_enter Tryz.func47, Tryz.ntmps47
      go_wp2_with (first | (go_at_call 71; refine (hc _).mono ?_; rintro e w1 ⟨rfl, hb1⟩; obtain ⟨c0, c1, c2, c3, c4, f0, f1, f2, f3, f4, lp⟩ := Hs.mono hb1; have B1 : Below w.heap.size w w1 := ((Below.refl _ w).alloc (Nat.le_refl _) _).trans (hb1.mono (by simp)); clear hb1) | (go_at_call 72; refine (hd _).mono ?_; rintro e w2 ⟨rfl, hb2⟩))
      go_ret
      exact ⟨rfl, B1.trans (hb2.mono B1.size)⟩

set_option maxRecDepth 100000 in
set_option maxHeartbeats 400000 in
theorem rcheck_yesP (k b o m : Int) (n cap : Nat) (ao : Option Addr) (w : World) (hn : n ≤ 140737488355328) (h : okP k b o m n) :
    Calls Tryz.prog 50 #[.agg #[.int .i64 k, .int .i64 b, .int .i64 o, .slice ao n cap, .int .i64 m]] w fun e w' => e = .returned (.int .i64 0) ∧ Below w.heap.size w w' := by
  obtain ⟨rfl, h1, h2, h3, h4, h5, h6, rfl⟩ := h
  go_enter Tryz.func50, Tryz.ntmps50
  go_wp2_with fail
  go_ret
  exact ⟨by simp <;> omega, (Below.refl _ w).alloc (Nat.le_refl _) _⟩

set_option maxRecDepth 100000 in
set_option maxHeartbeats 400000 in
theorem rcheck_yesC (k b o m : Int) (n cap : Nat) (ao : Option Addr) (w : World) (hn : n ≤ 140737488355328) (h : okC k b o m n) :
    Calls Tryz.prog 50 #[.agg #[.int .i64 k, .int .i64 b, .int .i64 o, .slice ao n cap, .int .i64 m]] w fun e w' => e = .returned (.int .i64 0) ∧ Below w.heap.size w w' := by
  obtain ⟨rfl, h1, h2, rfl, rfl, rfl⟩ := h
  go_enter Tryz.func50, Tryz.ntmps50
  go_wp2_with fail
  go_ret
  exact ⟨by simp <;> omega, (Below.refl _ w).alloc (Nat.le_refl _) _⟩

set_option maxRecDepth 100000 in
set_option maxHeartbeats 400000 in
theorem rcheck_noP (k b o m : Int) (n cap : Nat) (ao : Option Addr) (w : World) (hn : n ≤ 140737488355328) (h : ¬ okP k b o m n) (hk : k = 1) :
    Calls Tryz.prog 50 #[.agg #[.int .i64 k, .int .i64 b, .int .i64 o, .slice ao n cap, .int .i64 m]] w fun e w' => e = .returned (.int .i64 60) ∧ Below w.heap.size w w' := by
  unfold okP at h
  subst hk
  by_cases h1 : 0 ≤ b
  case neg =>
    clear h
    have hq : b < 0 := by omega
    clear h1
    go_enter Tryz.func50, Tryz.ntmps50
    go_wp2_with fail
    go_ret
    exact ⟨by simp <;> omega, (Below.refl _ w).alloc (Nat.le_refl _) _⟩
  by_cases h2 : b < 2048
  case neg =>
    clear h
    have hq : 2048 ≤ b := by omega
    clear h2
    go_enter Tryz.func50, Tryz.ntmps50
    go_wp2_with fail
    go_ret
    exact ⟨by simp <;> omega, (Below.refl _ w).alloc (Nat.le_refl _) _⟩
  by_cases h3 : 1 ≤ n
  case neg =>
    clear h
    have hq : n < 1 := by omega
    clear h3
    go_enter Tryz.func50, Tryz.ntmps50
    go_wp2_with fail
    go_ret
    exact ⟨by simp <;> omega, (Below.refl _ w).alloc (Nat.le_refl _) _⟩
  by_cases h4 : n ≤ 44
  case neg =>
    clear h
    have hq : 44 < n := by omega
    clear h4
    go_enter Tryz.func50, Tryz.ntmps50
    go_wp2_with fail
    go_ret
    exact ⟨by simp <;> omega, (Below.refl _ w).alloc (Nat.le_refl _) _⟩
  by_cases h5 : 0 ≤ o
  case neg =>
    clear h
    have hq : o < 0 := by omega
    clear h5
    go_enter Tryz.func50, Tryz.ntmps50
    go_wp2_with fail
    go_ret
    exact ⟨by simp <;> omega, (Below.refl _ w).alloc (Nat.le_refl _) _⟩
  by_cases h6 : o ≤ 256 - (n : Int)
  case neg =>
    clear h
    have hq : 256 - (n : Int) < o := by omega
    clear h6
    go_enter Tryz.func50, Tryz.ntmps50
    go_wp2_with fail
    go_ret
    exact ⟨by simp <;> omega, (Below.refl _ w).alloc (Nat.le_refl _) _⟩
  by_cases h7 : m = 0
  case neg =>
    clear h
    have hq : (m == 0) = false := by simp [h7]
    go_enter Tryz.func50, Tryz.ntmps50
    go_wp2_with fail
    go_ret
    exact ⟨by simp <;> omega, (Below.refl _ w).alloc (Nat.le_refl _) _⟩
  subst h7
  exact absurd ⟨rfl, h1, h2, h3, h4, h5, h6, rfl⟩ h

set_option maxRecDepth 100000 in
set_option maxHeartbeats 400000 in
theorem rcheck_noC (k b o m : Int) (n cap : Nat) (ao : Option Addr) (w : World) (hn : n ≤ 140737488355328) (h : ¬ okC k b o m n) (hk : k = 2) :
    Calls Tryz.prog 50 #[.agg #[.int .i64 k, .int .i64 b, .int .i64 o, .slice ao n cap, .int .i64 m]] w fun e w' => e = .returned (.int .i64 60) ∧ Below w.heap.size w w' := by
  unfold okC at h
  subst hk
  by_cases h1 : 0 ≤ m
  case neg =>
    clear h
    have hq : m < 0 := by omega
    clear h1
    go_enter Tryz.func50, Tryz.ntmps50
    go_wp2_with fail
    go_ret
    exact ⟨by simp <;> omega, (Below.refl _ w).alloc (Nat.le_refl _) _⟩
  by_cases h2 : m ≤ 65536
  case neg =>
    clear h
    have hq : 65536 < m := by omega
    clear h2
    go_enter Tryz.func50, Tryz.ntmps50
    go_wp2_with fail
    go_ret
    exact ⟨by simp <;> omega, (Below.refl _ w).alloc (Nat.le_refl _) _⟩
  by_cases h3 : b = 0
  case neg =>
    clear h
    have hq : (b == 0) = false := by simp [h3]
    go_enter Tryz.func50, Tryz.ntmps50
    go_wp2_with fail
    go_ret
    exact ⟨by simp <;> omega, (Below.refl _ w).alloc (Nat.le_refl _) _⟩
  subst h3
  by_cases h4 : o = 0
  case neg =>
    clear h
    have hq : (o == 0) = false := by simp [h4]
    go_enter Tryz.func50, Tryz.ntmps50
    go_wp2_with fail
    go_ret
    exact ⟨by simp <;> omega, (Below.refl _ w).alloc (Nat.le_refl _) _⟩
  subst h4
  by_cases h5 : n = 0
  case neg =>
    clear h
    have hq : 0 < n := by omega
    clear h5
    go_enter Tryz.func50, Tryz.ntmps50
    go_wp2_with fail
    go_ret
    exact ⟨by simp <;> omega, (Below.refl _ w).alloc (Nat.le_refl _) _⟩
  exact absurd ⟨rfl, h1, h2, rfl, rfl, h5⟩ h

set_option maxRecDepth 100000 in
set_option maxHeartbeats 400000 in
theorem rcheck_no (k b o m : Int) (n cap : Nat) (ao : Option Addr) (w : World) (hn : n ≤ 140737488355328) (h1 : (k == 1) = false) (h2 : (k == 2) = false) :
    Calls Tryz.prog 50 #[.agg #[.int .i64 k, .int .i64 b, .int .i64 o, .slice ao n cap, .int .i64 m]] w fun e w' => e = .returned (.int .i64 60) ∧ Below w.heap.size w w' := by
  go_enter Tryz.func50, Tryz.ntmps50
  go_wp2_with fail
  go_ret
  exact ⟨by simp <;> omega, (Below.refl _ w).alloc (Nat.le_refl _) _⟩

theorem rcheck_any (k b o m : Int) (n cap : Nat) (ao : Option Addr) (w : World) (hn : n ≤ 140737488355328) :
    Calls Tryz.prog 50 #[.agg #[.int .i64 k, .int .i64 b, .int .i64 o, .slice ao n cap, .int .i64 m]] w fun e w' => e = .returned (.int .i64 (chkR k b o m n)) ∧ Below w.heap.size w w' := by
  by_cases hp : okP k b o m n
  · rw [chkR_ok (.inl hp)]; exact rcheck_yesP k b o m n cap ao w hn hp
  · by_cases hq : okC k b o m n
    · rw [chkR_ok (.inr hq)]; exact rcheck_yesC k b o m n cap ao w hn hq
    · rw [chkR_no (fun h => h.elim hp hq)]
      by_cases h1 : k = 1
      · exact rcheck_noP k b o m n cap ao w hn hp h1
      · by_cases h2 : k = 2
        · exact rcheck_noC k b o m n cap ao w hn hq h2
        · exact rcheck_no k b o m n cap ao w hn (by simp [h1]) (by simp [h2])


end Go.Proofs.YtjhbljkoapbkfaaGreat
