/- A slice of bytes as a list of numbers below 256; what append, make and the conversion to a string do with it. Nothing here speaks of one program. The plain mathematics of layer 1: numbers as bytes, short numbers, sums. No program is named here. Contracts of the small functions of words: isWidth, bytes.Equal, Get, Num, Sum, and the document's. -/
import Derived.WalkKit
import Derived.WalkSpells
import Derived.WalkLawsBesides
import Derived.Laws.AppendOwnNone
import Derived.Laws.BitsAllLaws
import Derived.Lib.BitFns
import Derived.Test.YtjhbljkoapbkfaaGreatRows
import Derived.BigQuiet
set_option linter.unusedSimpArgs false
set_option linter.unusedVariables false

namespace Go.Attic
open Go.RowKit

theorem hide {p : Prop} (h : p) : Hid p := h
theorem unhide {p : Prop} (h : Hid p) : p := h

/-- A list of numbers as cells of bytes. -/
def cellsB (l : List Nat) : List Value := l.map fun x : Nat => Value.int .u8 (x : Int)

/-- The slice value v holds the bytes l in the world w. -/
def Bs (w : World) (v : Value) (l : List Nat) : Prop :=
  ∃ ao cap, v = .slice ao l.length cap ∧ l.length ≤ cap ∧ (ao = none → cap = 0) ∧ (∀ x ∈ l, x < 256) ∧
    (0 < l.length → ∃ b off, ao = some ⟨b, off, none⟩ ∧ ∀ i, i < l.length → w.cell? ⟨b, off + i, none⟩ = some (.int .u8 ((l.getD i 0 : Nat) : Int)))

theorem Bs.nil (w : World) : Bs w (.slice none 0 0) [] := ⟨none, 0, rfl, Nat.le_refl _, fun _ => rfl, by simp, by simp⟩

theorem Bs.lt {w : World} {v : Value} {l : List Nat} (h : Bs w v l) : ∀ x ∈ l, x < 256 := by
  obtain ⟨_, _, _, _, _, h, _⟩ := h; exact h

theorem getD_lt {l : List Nat} (h : ∀ x ∈ l, x < 256) (i : Nat) : l.getD i 0 < 256 := by
  by_cases hi : i < l.length
  · rw [List.getD_eq_getElem?_getD, List.getElem?_eq_getElem hi]; exact h _ (List.getElem_mem hi)
  · rw [List.getD_eq_getElem?_getD, List.getElem?_eq_none (by omega)]; simp

/-- What is below a bound stays. -/
theorem Bs.below {w w' : World} {v : Value} {l : List Nat} (h : Bs w v l) {B : Nat} (hb : Below B w w') (hB : w.heap.size ≤ B) : Bs w' v l := by
  obtain ⟨ao, cap, hv, hl, hn, hx, hc⟩ := h
  refine ⟨ao, cap, hv, hl, hn, hx, fun hp => ?_⟩
  obtain ⟨b, off, hao, hcell⟩ := hc hp
  refine ⟨b, off, hao, fun i hi => ?_⟩
  have hlt := World.block_lt_of_cell? w _ (hcell i hi)
  rw [hb.cell (p := ⟨b, off + i, none⟩) (by simp at hlt ⊢; omega)]
  exact hcell i hi

theorem Bs.mono {w w' : World} {v : Value} {l : List Nat} (h : Bs w v l) (hb : Below w.heap.size w w') : Bs w' v l := h.below hb (Nat.le_refl _)

theorem Bs.alloc {w : World} {v : Value} {l : List Nat} (h : Bs w v l) (o : Obj) : Bs (w.alloc o) v l :=
  h.mono ((Below.refl _ _).alloc (Nat.le_refl _) o)

theorem Bs.drew {w : World} {v : Value} {l : List Nat} (h : Bs w v l) : Bs w.drew v l := h.mono (Below.refl _ _).drew

/-- The cells, as append's laws ask for them. -/
theorem Bs.cells {w : World} {ao : Option Addr} {n cap : Nat} {l : List Nat} (h : Bs w (.slice ao n cap) l) :
    ∀ ad, ao = some ad → ∀ j u, (cellsB l)[j]? = some u → w.cell? (ad.add j) = some u := by
  intro ad had j u hu
  obtain ⟨ao', cap', hv, hl, hn, hx, hc⟩ := h
  injection hv with h1 h2 h3
  have hj : j < l.length := by
    have := (List.getElem?_eq_some_iff.1 hu).1
    simpa [cellsB] using this
  obtain ⟨b, off, hao, hcell⟩ := hc (by omega)
  rw [← h1, had] at hao
  obtain rfl := Option.some.inj hao
  rw [Addr.add_lit, hcell j hj]
  have e : (cellsB l)[j]? = some (.int .u8 ((l.getD j 0 : Nat) : Int)) := by
    simp [cellsB, List.getD, hj]
  rw [e] at hu
  exact hu

theorem Bs.len {w : World} {ao : Option Addr} {n cap : Nat} {l : List Nat} (h : Bs w (.slice ao n cap) l) : n = l.length := by
  obtain ⟨_, _, hv, _⟩ := h
  injection hv

theorem Bs.cap {w : World} {ao : Option Addr} {n cap : Nat} {l : List Nat} (h : Bs w (.slice ao n cap) l) : l.length ≤ cap := by
  obtain ⟨_, _, hv, h, _⟩ := h
  injection hv with h1 h2 h3
  omega

theorem Bs.none {w : World} {n cap : Nat} {l : List Nat} (h : Bs w (.slice none n cap) l) : n = 0 ∧ cap = 0 ∧ l = [] := by
  obtain ⟨ao, cap', hv, hl, hn, _⟩ := h
  injection hv with h1 h2 h3
  have := hn h1.symm
  have h0 : l.length = 0 := by omega
  exact ⟨by omega, by omega, List.eq_nil_of_length_eq_zero h0⟩

theorem cellsB_length (l : List Nat) : (cellsB l).length = l.length := by simp [cellsB]

theorem cellsB_oneCell (l : List Nat) : ∀ u ∈ cellsB l, u.oneCell' = true := by
  intro u hu
  obtain ⟨_, _, rfl⟩ := List.mem_map.1 hu
  rfl

theorem cellsB_append (a b : List Nat) : cellsB (a ++ b) = cellsB a ++ cellsB b := by simp [cellsB]

/-- What a call has made by make or append is such a slice. -/
theorem Bs.of_owns {w : World} {base : Nat} {e : TypeId} {v : Value} {n : Nat} {l : List Nat} (h : w.ownsRow base e 1 v n (cellsB l)) (hx : ∀ x ∈ l, x < 256) : Bs w v l := by
  have hlen : l.length = n := by have := h.1; simp [cellsB] at this; omega
  rcases h.2 with ⟨rfl, h0⟩ | ⟨g, cap, cur, rfl, hb, hg, hnc, hm, hs, htake⟩
  · have : l = [] := List.eq_nil_of_length_eq_zero (by omega)
    subst this
    exact Bs.nil w
  · refine ⟨some ⟨g, 0, Option.none⟩, cap, by rw [hlen], by omega, by simp, hx, fun _ => ⟨g, 0, rfl, fun i hi => ?_⟩⟩
    have := h.cells (g := g) rfl i (.int .u8 ((l.getD i 0 : Nat) : Int)) (by simp [cellsB, List.getD, hi])
    rwa [Addr.add_lit] at this

/-- The bytes as a string. -/
def strB (l : List Nat) : ByteArray := ⟨(l.map fun x => UInt8.ofNat x).toArray⟩

theorem strB_toList (l : List Nat) : (strB l).data.toList = l.map fun x => UInt8.ofNat x := by simp [strB]

theorem strB_size (l : List Nat) : (strB l).size = l.length := by simp [strB, ByteArray.size]

theorem strB_inj {a b : List Nat} (ha : ∀ x ∈ a, x < 256) (hb : ∀ x ∈ b, x < 256) (h : strB a = strB b) : a = b := by
  have h' : a.map (fun x => UInt8.ofNat x) = b.map (fun x => UInt8.ofNat x) := by rw [← strB_toList, ← strB_toList, h]
  have back : ∀ l : List Nat, (∀ x ∈ l, x < 256) → (l.map (fun x => UInt8.ofNat x)).map UInt8.toNat = l := by
    intro l hl
    rw [List.map_map]
    conv => rhs; rw [← List.map_id l]
    apply List.map_congr_left
    intro x hx
    have := hl x hx
    simp [Nat.mod_eq_of_lt this]
  rw [← back a ha, ← back b hb, h']

/-- 'string(b)' of such a slice. -/
theorem Bs.convert {P : Program} {w : World} {v : Value} {l : List Nat} (h : Bs w v l) (src e dst : TypeId) (hs : P.underlying src = some (.slice e)) (he : P.underlying e = some (.int .u8))
    (hd : P.underlying dst = some .string) : (Go.convert src dst v).run P w = .ok (.string (strB l)) w := by
  have hh := h
  obtain ⟨ao, cap, rfl, hl, hn, hx, hc⟩ := h
  cases ao with
  | none =>
    obtain ⟨_, _, rfl⟩ := hh.none
    rw [run_convert_bytes_nil w src e hs he _ _ dst hd]
    rfl
  | some ad =>
    have hld : (loadCells ad l.length).run P w = .ok ((l.map fun x : Nat => (x : Int)).map (Value.int .u8)).toArray w := by
      have := run_loadCells_list (P := P) w ad (cellsB l) (hh.cells ad rfl)
      rw [cellsB_length] at this
      rw [this]
      simp [cellsB]
    rw [run_convert_bytes_string w src dst e _ _ cap hs he hd, run_bytesToString w _ l.length cap _ hld, foldl_push_bytes]
    congr 2
    simp [strB]

/-- 'append(out, b...)', out the call's own, b whatever: nil, empty or not. -/
theorem wpList_append_bs {P : Program} (w : World) {ops : Array Oper} {rest : List Oper} {o : Oper} {a : Act} {Q : Exit → Act → World → Prop}
    (hg : o.guard = Option.none) (s x : Operand) (t : TypeId) (hop : o.op = Op.call { callee := Callee.builtin Builtin.append, args := #[s, x], argTypes := #[t, t] })
    (base : Nat) (e : TypeId) (i : TypeInfo) (z : Value) (h1 : P.underlying t = some (.slice e)) (h2 : P.info? e = some i) (h3 : i.zero = some z) (h4 : i.size = 1) (h5 : i.bytes = 1) (h6 : z.cells.size = 1)
    (v : Value) (n : Nat) (xs : List Nat) (hs : a.eval s = v) (hown : w.ownsRow base e 1 v n (cellsB xs)) (vx : Value) (l : List Nat) (hx : a.eval x = vx) (hb : Bs w vx l)
    (b1 : n + l.length ≤ 140737488355328) (b2 : base ≤ w.heap.size)
    (hK : ∀ v' w', w'.ownsRow base e 1 v' (n + l.length) (cellsB (xs ++ l)) → w.grownBy w' v.ownBlock → wpList P ops Q rest (a.put o.dst v') w') :
    wpList P ops Q (o :: rest) a w := by
  have hb' := hb
  obtain ⟨ao, cap, rfl, hl, hn, hlt, hc⟩ := hb
  cases ao with
  | some ad =>
    refine wpList_append_own w hg s x t hop base e i z 1 1 h1 h2 h3 h4 h5 h6 (by decide) v n (cellsB xs) hs hown ad l.length cap (cellsB l) hx (by simp [cellsB_length]) (hb'.cells ad rfl) (cellsB_oneCell l) (by unfold maxLen; omega) (by omega) b2 ?_
    intro v' w' hown' hgrow _
    exact hK v' w' (by rw [cellsB_append]; exact hown') hgrow
  | none =>
    obtain ⟨_, rfl, rfl⟩ := hb'.none
    refine wpList_append_own_none hg s x t hop base e i 1 h1 h2 v n (cellsB xs) hs hown hx ?_
    exact hK v w (by simpa using hown) (World.grownBy.refl _ _)

/-- The slice of one byte that 'append(out, x)' lays first. -/
theorem Bs.one (w : World) (e : TypeId) (y : Int) (x : Nat) (hy : y = (x : Int)) (hx : x < 256) : Bs (w.alloc (.cells #[.int .u8 y] e)) (.slice (some ⟨w.heap.size, 0, Option.none⟩) 1 1) [x] := by
  refine ⟨some ⟨w.heap.size, 0, Option.none⟩, 1, rfl, by simp, by simp, by simpa using hx, fun _ => ⟨w.heap.size, 0, rfl, fun i hi => ?_⟩⟩
  have : i = 0 := by simpa using hi
  subst this
  subst hy
  simp

theorem owns_lt {w : World} {base : Nat} {e : TypeId} {size : Nat} {v : Value} {n : Nat} {xs : List Value} (h : w.ownsRow base e size v n xs) : ∀ k, v.ownBlock = some k → base ≤ k := fun k hk => (h.lt k hk).1

theorem Bs.take {w : World} {ao : Option Addr} {n cap h : Nat} {l : List Nat} (hb : Bs w (.slice ao n cap) l) (hh : h ≤ l.length) : Bs w (.slice ao h cap) (l.take h) := by
  have hn := hb.len
  have hc := hb.cap
  obtain ⟨ao', cap', hv, hl, hnn, hx, hcell⟩ := hb
  injection hv with e1 e2 e3
  subst e1 e3
  have ht : (l.take h).length = h := by simp; omega
  refine ⟨ao, cap, by rw [ht], by omega, hnn, fun x hx' => hx x (List.mem_of_mem_take hx'), fun hp => ?_⟩
  rw [ht] at hp ⊢
  obtain ⟨b, off, ha, hcc⟩ := hcell (by omega)
  refine ⟨b, off, ha, fun i hi => ?_⟩
  rw [hcc i (by omega)]
  simp [List.getD, hi]

theorem Bs.drop {w : World} {ao : Option Addr} {n cap lo : Nat} {l : List Nat} (hb : Bs w (.slice ao n cap) l) (hh : lo ≤ l.length) :
    Bs w (.slice (if cap = lo then ao else ao.map (·.add lo)) (l.length - lo) (cap - lo)) (l.drop lo) := by
  have hn := hb.len
  have hc := hb.cap
  obtain ⟨ao', cap', hv, hl, hnn, hx, hcell⟩ := hb
  injection hv with e1 e2 e3
  subst e1 e3
  have ht : (l.drop lo).length = l.length - lo := by simp
  refine ⟨_, cap - lo, by rw [ht], by omega, ?_, fun x hx' => hx x (List.mem_of_mem_drop hx'), fun hp => ?_⟩
  · intro h0
    split at h0
    · have := hnn h0; omega
    · cases ao with
      | none => have := hnn rfl; omega
      | some a => simp at h0
  · rw [ht] at hp ⊢
    obtain ⟨b, off, ha, hcc⟩ := hcell (by omega)
    refine ⟨b, off + lo, ?_, fun i hi => ?_⟩
    · rw [if_neg (by omega), ha, Option.map_some, Addr.add_lit]
    · rw [Nat.add_assoc, hcc (lo + i) (by omega)]
      simp [List.getD]

end Go.Attic

namespace Go.Attic

theorem wrap_u64 (n : Nat) (h : n < 2 ^ 64) : IntKind.u64.wrap (n : Int) = (n : Int) := by rw [IntKind.wrap_u64]; omega
theorem wrap_u64_mod (n : Nat) : IntKind.u64.wrap (n : Int) = ((n % 2 ^ 64 : Nat) : Int) := by rw [IntKind.wrap_u64]; omega
theorem wrap_u8_mod (n : Nat) : IntKind.u8.wrap (n : Int) = ((n % 256 : Nat) : Int) := by rw [IntKind.wrap_u8]; omega
theorem or_u64 (a b : Nat) (ha : a < 2 ^ 64) (hb : b < 2 ^ 64) : bits .or .u64 (a : Int) (b : Int) = ((a ||| b : Nat) : Int) := u64_or_nat a b (by omega) (by omega)

/-- The number whose k bytes stand in l from place p on. -/
def getN (l : List Nat) (p : Nat) : Nat → Nat
  | 0 => 0
  | k + 1 => getN l p k + l.getD (p + k) 0 * 2 ^ (8 * k)

theorem pow8 (k : Nat) : 2 ^ (8 * (k + 1)) = 256 * 2 ^ (8 * k) := by rw [show 8 * (k + 1) = 8 * k + 8 by omega, Nat.pow_add]; omega

theorem getN_lt {l : List Nat} (h : ∀ x ∈ l, x < 256) (a k : Nat) : getN l a k < 2 ^ (8 * k) := by
  induction k with
  | zero => simp [getN]
  | succ k ih =>
    have h1 := getD_lt h (a + k)
    have h2 : l.getD (a + k) 0 * 2 ^ (8 * k) ≤ 255 * 2 ^ (8 * k) := Nat.mul_le_mul_right _ (by omega)
    simp only [getN]
    have h3 := pow8 k
    omega

theorem pow_le64 {k : Nat} (h : k < 8) : 2 ^ (8 * (k + 1)) ≤ 2 ^ 64 := Nat.pow_le_pow_right (by omega) (by omega)

/-- One round of Get, as the walk spells it: by or. -/
theorem getN_or {l : List Nat} (h : ∀ x ∈ l, x < 256) (p k : Nat) (hk : k < 8) :
    bits .or .u64 (getN l p k : Int) (IntKind.u64.wrap (IntKind.u64.wrap ((l[p + k]?.getD 0 : Nat) : Int) * 2 ^ (8 * k))) = ((getN l p (k + 1) : Nat) : Int) := by
  have h1 : l[p + k]?.getD 0 < 256 := by have := getD_lt h (p + k); rwa [List.getD_eq_getElem?_getD] at this
  have h2 := getN_lt h p k
  have h3 := pow8 k
  have h4 := pow_le64 hk
  have h5 : l[p + k]?.getD 0 * 2 ^ (8 * k) ≤ 255 * 2 ^ (8 * k) := Nat.mul_le_mul_right _ (by omega)
  rw [wrap_u64 _ (by omega)]
  have e : ((l[p + k]?.getD 0 : Nat) : Int) * 2 ^ (8 * k) = ((l[p + k]?.getD 0 * 2 ^ (8 * k) : Nat) : Int) := by simp
  rw [e, wrap_u64 _ (by omega), or_u64 _ _ (by omega) (by omega)]
  rw [Nat.or_comm, nat_join (8 * k) _ _ (by simp) h2]
  simp only [getN, List.getD_eq_getElem?_getD]
  omega

/-- One round of Get, as the walk spells it: by plus. -/
theorem getN_add {l : List Nat} (h : ∀ x ∈ l, x < 256) (p k : Nat) (hk : k < 8) :
    IntKind.u64.wrap ((getN l p k : Int) + IntKind.u64.wrap (IntKind.u64.wrap ((l[p + k]?.getD 0 : Nat) : Int) * 2 ^ (8 * k))) = ((getN l p (k + 1) : Nat) : Int) := by
  have h1 : l[p + k]?.getD 0 < 256 := by have := getD_lt h (p + k); rwa [List.getD_eq_getElem?_getD] at this
  have h2 := getN_lt h p k
  have h3 := pow8 k
  have h4 := pow_le64 hk
  have h5 : l[p + k]?.getD 0 * 2 ^ (8 * k) ≤ 255 * 2 ^ (8 * k) := Nat.mul_le_mul_right _ (by omega)
  rw [wrap_u64 _ (by omega)]
  have e : ((l[p + k]?.getD 0 : Nat) : Int) * 2 ^ (8 * k) = ((l[p + k]?.getD 0 * 2 ^ (8 * k) : Nat) : Int) := by simp
  rw [e, wrap_u64 _ (by omega)]
  have e2 : (getN l p k : Int) + ((l[p + k]?.getD 0 * 2 ^ (8 * k) : Nat) : Int) = ((getN l p k + l[p + k]?.getD 0 * 2 ^ (8 * k) : Nat) : Int) := by omega
  rw [e2, wrap_u64 _ (by omega)]
  simp only [getN, List.getD_eq_getElem?_getD]

def widthB (n : Int) : Bool := decide (1 ≤ n ∧ n ≤ 8)
def getB (l : List Nat) (p n : Int) : Bool := widthB n && decide (0 ≤ p ∧ p + n ≤ l.length)
def getV (l : List Nat) (p n : Int) : Nat := if getB l p n then getN l p.toNat n.toNat else 0

/-- The lowest n bytes of v. -/
def numN (n v : Nat) : List Nat := (List.range n).map fun i => v / 2 ^ (8 * i) % 256
def numL (n : Int) (v : Nat) : List Nat := if widthB n then numN n.toNat v else []

theorem numN_lt (n v : Nat) : ∀ x ∈ numN n v, x < 256 := by
  intro x hx
  simp [numN] at hx
  obtain ⟨i, _, rfl⟩ := hx
  omega
theorem numN_length (n v : Nat) : (numN n v).length = n := by simp [numN]

/-- CRC-32C, bit by bit. -/
def stepN (s : Nat) : Nat := s / 2 ^^^ (if s % 2 = 1 then 2197175160 else 0)
def stepsN : Nat → Nat → Nat
  | 0, s => s
  | k + 1, s => stepN (stepsN k s)
def crcN (s : Nat) (l : List Nat) : Nat := l.foldl (fun s c => stepsN 8 (s ^^^ c)) s
def sumN (l : List Nat) : Nat := 4294967295 - crcN 4294967295 l

theorem stepN_lt {s : Nat} (h : s < 2 ^ 32) : stepN s < 2 ^ 32 := by
  unfold stepN
  apply Nat.xor_lt_two_pow
  · omega
  · split <;> omega
theorem stepsN_lt {s : Nat} (h : s < 2 ^ 32) (k : Nat) : stepsN k s < 2 ^ 32 := by
  induction k with
  | zero => exact h
  | succ k ih => exact stepN_lt ih
theorem xor_lt32 {a b : Nat} (ha : a < 2 ^ 32) (hb : b < 2 ^ 32) : a ^^^ b < 2 ^ 32 := Nat.xor_lt_two_pow ha hb
theorem crcN_lt {s : Nat} (h : s < 2 ^ 32) (l : List Nat) (hl : ∀ x ∈ l, x < 256) : crcN s l < 2 ^ 32 := by
  induction l generalizing s with
  | nil => exact h
  | cons c l ih =>
    simp only [crcN, List.foldl_cons]
    exact ih (stepsN_lt (xor_lt32 h (by have := hl c (by simp); omega)) 8) (fun x hx => hl x (by simp [hx]))
theorem crcN_append (s : Nat) (a b : List Nat) : crcN s (a ++ b) = crcN (crcN s a) b := by simp [crcN]
theorem sumN_lt (l : List Nat) : sumN l < 2 ^ 32 := by unfold sumN; omega

/-- One step with the mask, as word.Sum takes it. -/
theorem step_mask (s : Nat) (h : s < 2 ^ 32) :
    bits .xor .u32 ((s : Int) / 2) (bits .and .u32 2197175160 (-(bits .and .u32 (s : Int) 1) % 4294967296)) = ((stepN s : Nat) : Int) := by
  have e1 : bits .and .u32 (s : Int) 1 = ((s % 2 : Nat) : Int) := by
    have := u32_and_nat s 1 (by omega) (by omega)
    rw [nat_mask1] at this
    exact this
  rw [e1]
  have e2 : -((s % 2 : Nat) : Int) % 4294967296 = (((if s % 2 = 1 then 4294967295 else 0) : Nat) : Int) := by
    split <;> omega
  rw [e2]
  have e3 : bits .and .u32 2197175160 (((if s % 2 = 1 then 4294967295 else 0) : Nat) : Int) = (((if s % 2 = 1 then 2197175160 else 0) : Nat) : Int) := by
    have := u32_and_nat 2197175160 (if s % 2 = 1 then 4294967295 else 0) (by omega) (by split <;> omega)
    rw [show ((2197175160 : Nat) : Int) = 2197175160 from rfl] at this
    rw [this]
    split <;> rfl
  rw [e3]
  have e4 : (s : Int) / 2 = ((s / 2 : Nat) : Int) := by omega
  rw [e4, u32_xor_nat _ _ (by omega) (by split <;> omega)]
  rfl

theorem step_one (s : Nat) (h : s < 2 ^ 32) (h1 : s % 2 = 1) : bits .xor .u32 ((s : Int) / 2) 2197175160 = ((stepN s : Nat) : Int) := by
  have e4 : (s : Int) / 2 = ((s / 2 : Nat) : Int) := by omega
  have := u32_xor_nat (s / 2) 2197175160 (by omega) (by omega)
  rw [show ((2197175160 : Nat) : Int) = 2197175160 from rfl] at this
  rw [e4, this]
  simp [stepN, h1]
theorem step_zero (s : Nat) (h1 : s % 2 = 0) : (s : Int) / 2 = ((stepN s : Nat) : Int) := by
  have : stepN s = s / 2 := by simp [stepN, h1]
  rw [this]; omega

theorem xor_byte (s c : Nat) (hs : s < 2 ^ 32) (hc : c < 256) : bits .xor .u32 (s : Int) (c : Int) = ((s ^^^ c : Nat) : Int) := by
  rw [u32_xor_nat _ _ (by omega) (by omega)]
theorem all_xor (s : Nat) (hs : s < 2 ^ 32) : 4294967295 ^^^ s = 4294967295 - s := by
  apply Nat.eq_of_testBit_eq
  intro i
  have h := Nat.testBit_two_pow_sub_succ (x := s) (n := 32) hs i
  rw [show 2 ^ 32 - (s + 1) = 4294967295 - s by omega] at h
  rw [h, Nat.testBit_xor, show (4294967295 : Nat) = 2 ^ 32 - 1 by omega, Nat.testBit_two_pow_sub_one]
  by_cases hi : i < 32
  · simp [hi]
  · simp [hi]
    rw [Nat.testBit_lt_two_pow]
    exact Nat.lt_of_lt_of_le hs (Nat.pow_le_pow_right (by omega) (by omega))
theorem not_u32 (s : Nat) (hs : s < 2 ^ 32) : bits .xor .u32 IntKind.u32.max (s : Int) = ((4294967295 - s : Nat) : Int) := by
  have e : IntKind.u32.max = ((4294967295 : Nat) : Int) := by decide
  rw [e, u32_xor_nat _ _ (by omega) (by omega), all_xor s hs]

theorem crcN_snoc (l : List Nat) (k : Nat) (hk : k < l.length) : crcN 4294967295 (l.take (k + 1)) = stepsN 8 (crcN 4294967295 (l.take k) ^^^ l.getD k 0) := by
  rw [List.take_succ_eq_append_getElem hk, crcN_append]
  simp [crcN, List.getD, hk]

theorem bitLenAux_up : ∀ (f x : Nat), x < 2 ^ f → x < 2 ^ Lib.bitLenAux f x
  | 0, x, h => by simpa [Lib.bitLenAux] using h
  | f + 1, x, h => by
    simp only [Lib.bitLenAux]
    split
    · omega
    · have := bitLenAux_up f (x / 2) (by rw [Nat.pow_succ] at h; omega)
      rw [Nat.add_comm 1, Nat.pow_succ]; omega

/-- How many groups of seven bits. -/
def ulen (v : Nat) : Nat := (Lib.bitLen (v ||| 1) + 6) / 7

theorem or_one_le (v : Nat) : v ≤ v ||| 1 := Nat.left_le_or
theorem or_one_lt {v m : Nat} (h : v < 2 ^ m) (hm : 1 ≤ m) : v ||| 1 < 2 ^ m := Nat.or_lt_two_pow h (Nat.lt_of_lt_of_le (by omega) (Nat.pow_le_pow_right (n := 2) (by omega) hm))

theorem ulen_up {v : Nat} (h : v < 2 ^ 64) : v < 2 ^ (7 * ulen v) := by
  have h1 := bitLenAux_up 64 (v ||| 1) (or_one_lt h (by omega))
  have h2 := or_one_le v
  have h3 : 2 ^ Lib.bitLenAux 64 (v ||| 1) ≤ 2 ^ (7 * ulen v) := Nat.pow_le_pow_right (by omega) (by unfold ulen Lib.bitLen; omega)
  omega
theorem ulen_pos {v : Nat} (h : v < 2 ^ 64) : 1 ≤ ulen v := by
  have h1 := bitLenAux_up 64 (v ||| 1) (or_one_lt h (by omega))
  have h2 : 1 ≤ v ||| 1 := Nat.right_le_or
  have h3 : 1 ≤ Lib.bitLen (v ||| 1) := by
    unfold Lib.bitLen
    rcases Nat.eq_zero_or_pos (Lib.bitLenAux 64 (v ||| 1)) with h | h
    · rw [h] at h1; omega
    · exact h
  unfold ulen; omega
theorem ulen_le {v m : Nat} (h : v < 2 ^ (7 * m)) (hm : 1 ≤ m) (hm2 : m ≤ 9) : ulen v ≤ m := by
  have := Lib.bitLen_le (v ||| 1) (7 * m) (by omega) (or_one_lt h (by omega))
  unfold ulen; omega
theorem ulen_le10 {v : Nat} (h : v < 2 ^ 64) : ulen v ≤ 10 := by
  have := Lib.bitLen_le (v ||| 1) 64 (by omega) (or_one_lt h (by omega))
  unfold ulen; omega

/-- The groups of seven bits, each with 128 more. -/
def grp (k v : Nat) : List Nat := (List.range k).map fun i => v / 2 ^ (7 * i) % 128 + 128
/-- A number in as few bytes as can be. -/
def uvarN (v : Nat) : List Nat := grp (ulen v - 1) v ++ [v / 2 ^ (7 * (ulen v - 1))]

theorem grp_length (k v : Nat) : (grp k v).length = k := by simp [grp]
theorem grp_succ (k v : Nat) : grp (k + 1) v = grp k v ++ [v / 2 ^ (7 * k) % 128 + 128] := by simp [grp, List.range_succ]
theorem grp_lt (k v : Nat) : ∀ x ∈ grp k v, x < 256 := by
  intro x hx
  simp [grp] at hx
  obtain ⟨i, _, rfl⟩ := hx
  omega
theorem uvar_last {v : Nat} (h : v < 2 ^ 64) : v / 2 ^ (7 * (ulen v - 1)) < 128 := by
  have h1 := ulen_up h
  have h2 := ulen_pos h
  rw [Nat.div_lt_iff_lt_mul (Nat.two_pow_pos _)]
  have e : 128 * 2 ^ (7 * (ulen v - 1)) = 2 ^ (7 * ulen v) := by
    rw [show (128 : Nat) = 2 ^ 7 from rfl, ← Nat.pow_add]; congr 1; omega
  omega
theorem uvarN_lt {v : Nat} (h : v < 2 ^ 64) : ∀ x ∈ uvarN v, x < 256 := by
  intro x hx
  rcases List.mem_append.1 hx with hx | hx
  · exact grp_lt _ _ x hx
  · simp at hx; have := uvar_last h; omega
theorem uvarN_length {v : Nat} (h : v < 2 ^ 64) : (uvarN v).length = ulen v := by
  have := ulen_pos h
  simp [uvarN, grp_length]; omega
/-- Where the groups end. -/
theorem ulen_eq {v k : Nat} (h : v < 2 ^ 64) (hk : k ≤ 9) (h1 : v / 2 ^ (7 * k) < 128) (h2 : k = 0 ∨ 128 ≤ v / 2 ^ (7 * (k - 1))) : ulen v = k + 1 := by
  have hp := ulen_pos h
  have a : ulen v ≤ k + 1 := by
    rcases Nat.lt_or_ge k 9 with h9 | h9
    · refine ulen_le ?_ (by omega) (by omega)
      rw [Nat.div_lt_iff_lt_mul (Nat.two_pow_pos _)] at h1
      have e : 128 * 2 ^ (7 * k) = 2 ^ (7 * (k + 1)) := by rw [show (128 : Nat) = 2 ^ 7 from rfl, ← Nat.pow_add]; congr 1; omega
      omega
    · have := ulen_le10 h; omega
  have b : k + 1 ≤ ulen v := by
    rcases h2 with h2 | h2
    · omega
    · rcases Nat.lt_or_ge (ulen v) (k + 1) with hlt | hge
      · have h3 := ulen_up h
        have h4 : v < 2 ^ (7 * k) := Nat.lt_of_lt_of_le h3 (Nat.pow_le_pow_right (by omega) (by omega))
        have h5 : v / 2 ^ (7 * (k - 1)) < 128 := by
          rw [Nat.div_lt_iff_lt_mul (Nat.two_pow_pos _)]
          have e : 128 * 2 ^ (7 * (k - 1)) = 2 ^ (7 * k) := by rw [show (128 : Nat) = 2 ^ 7 from rfl, ← Nat.pow_add]; congr 1; omega
          omega
        omega
      · exact hge
  omega

/-- The first k groups of seven bits, as one number. -/
def takeV (l : List Nat) : Nat → Nat
  | 0 => 0
  | k + 1 => takeV l k + l.getD k 0 % 128 * 2 ^ (7 * k)

/-- What TakeUvar answers: from byte k on, at most f bytes more. -/
def takeA (l : List Nat) : Nat → Nat → Nat × Nat × Int
  | 0, k => (0, 0, 10)
  | f + 1, k =>
    if l.length ≤ k then (0, 0, 10)
    else if (k = 9 ∧ 1 < l.getD k 0) ∨ (0 < k ∧ l.getD k 0 = 0) then (0, 0, 13)
    else if l.getD k 0 < 128 then (takeV l (k + 1), k + 1, 0)
    else takeA l f (k + 1)
def takeN (l : List Nat) : Nat × Nat × Int := takeA l 10 0

theorem pow7 (k : Nat) : 2 ^ (7 * (k + 1)) = 128 * 2 ^ (7 * k) := by rw [show 7 * (k + 1) = 7 * k + 7 by omega, Nat.pow_add]; omega
theorem takeV_lt (l : List Nat) (k : Nat) : takeV l k < 2 ^ (7 * k) := by
  induction k with
  | zero => simp [takeV]
  | succ k ih =>
    have h2 : l.getD k 0 % 128 * 2 ^ (7 * k) ≤ 127 * 2 ^ (7 * k) := Nat.mul_le_mul_right _ (by omega)
    simp only [takeV]
    have h3 := pow7 k
    omega
/-- The number fits, as long as the tenth byte is at most 1. -/
theorem takeV_lt64 (l : List Nat) (k : Nat) (hk : k ≤ 9) (h9 : k = 9 → l.getD k 0 ≤ 1) : takeV l k + l.getD k 0 % 128 * 2 ^ (7 * k) < 2 ^ 64 := by
  have h1 := takeV_lt l k
  rcases Nat.lt_or_ge k 9 with h | h
  · have h2 := takeV_lt l (k + 1)
    have h3 : 2 ^ (7 * (k + 1)) ≤ 2 ^ 64 := Nat.pow_le_pow_right (by omega) (by omega)
    simp only [takeV] at h2
    omega
  · obtain rfl : k = 9 := by omega
    have h2 := h9 rfl
    have h3 : l.getD 9 0 % 128 * 2 ^ (7 * 9) ≤ 1 * 2 ^ (7 * 9) := Nat.mul_le_mul_right _ (by omega)
    omega

theorem and127 (c : Nat) (hc : c < 256) : bits .andNot .u8 (c : Int) 128 = ((c % 128 : Nat) : Int) := by
  have h := u8_andNot_nat c 128 (by omega) (by omega)
  rw [show (128 : Int) = ((128 : Nat) : Int) from rfl, h]
  have : ∀ y : Fin 256, y.val &&& (255 - 128) = y.val % 128 := by decide +kernel
  have := this ⟨c, hc⟩
  simp only at this
  rw [this]

/-- One round of TakeUvar, as the walk spells it, once its byte is cut: by or. -/
theorem take_or (a c k : Nat) (ha : a < 2 ^ (7 * k)) (hs : a + c * 2 ^ (7 * k) < 2 ^ 64) :
    bits .or .u64 (a : Int) (IntKind.u64.wrap ((c : Int) * 2 ^ (7 * k))) = ((a + c * 2 ^ (7 * k) : Nat) : Int) := by
  have e : (c : Int) * 2 ^ (7 * k) = ((c * 2 ^ (7 * k) : Nat) : Int) := by simp
  rw [e, wrap_u64 _ (by omega), or_u64 _ _ (by omega) (by omega), Nat.or_comm, nat_join (7 * k) _ _ (by simp) ha, Nat.add_comm]
theorem take_add (a c k : Nat) (hs : a + c * 2 ^ (7 * k) < 2 ^ 64) :
    IntKind.u64.wrap ((a : Int) + IntKind.u64.wrap ((c : Int) * 2 ^ (7 * k))) = ((a + c * 2 ^ (7 * k) : Nat) : Int) := by
  have e : (c : Int) * 2 ^ (7 * k) = ((c * 2 ^ (7 * k) : Nat) : Int) := by simp
  rw [e, wrap_u64 _ (by omega)]
  have e2 : (a : Int) + ((c * 2 ^ (7 * k) : Nat) : Int) = ((a + c * 2 ^ (7 * k) : Nat) : Int) := by omega
  rw [e2, wrap_u64 _ hs]

theorem take_or9 (a c : Nat) (ha : a < 2 ^ (7 * 9)) (hc : c ≤ 1) : bits .or .u64 (a : Int) ((c : Int) % 128 * 9223372036854775808) = ((a + c % 128 * 2 ^ (7 * 9) : Nat) : Int) := by
  have h1 : c % 128 * 2 ^ (7 * 9) ≤ 1 * 2 ^ (7 * 9) := Nat.mul_le_mul_right _ (by omega)
  have h := take_or a (c % 128) 9 ha (by omega)
  rw [← h]
  have e : ((c % 128 : Nat) : Int) * 2 ^ (7 * 9) = ((c % 128 * 2 ^ (7 * 9) : Nat) : Int) := by simp
  rw [e, wrap_u64 _ (by omega)]
  congr 1
theorem take_add9 (a c : Nat) (ha : a < 2 ^ (7 * 9)) (hc : c ≤ 1) : (a : Int) + (c : Int) % 128 * 9223372036854775808 = ((a + c % 128 * 2 ^ (7 * 9) : Nat) : Int) := by
  omega

end Go.Attic

namespace Go.Proofs.YtjhbljkoapbkfaaGreat
open Go.RowKit Go.Attic

theorem Tryz.own : ownKnob Tryz.prog.godebug = none := by kernel_rfl
theorem Tryz.laidOut : laidOutB Tryz.prog = true := by kernel_rfl

set_option maxHeartbeats 400000 in
theorem isWidth_any (n : Int) (w : World) : Calls Tryz.prog 103 #[.int .i64 n] w fun e w' => e = .returned (.bool (widthB n)) ∧ w = w' := by
  by_cases h1 : 1 ≤ n
  · by_cases h2 : n ≤ 8
    · have h3 : widthB n = true := by simp [widthB, h1, h2]
      rw [h3]; clear h3
      go_enter Tryz.func103, Tryz.ntmps103
      go_wp2
      go_ret
      exact ⟨by simp, rfl⟩
    · have h3 : widthB n = false := by simp [widthB]; omega
      rw [h3]; clear h3
      go_enter Tryz.func103, Tryz.ntmps103
      go_wp2
      go_ret
      exact ⟨by simp, rfl⟩
  · have h3 : widthB n = false := by simp [widthB]; omega
    rw [h3]; clear h3
    go_enter Tryz.func103, Tryz.ntmps103
    go_wp2
    go_ret
    exact ⟨by simp, rfl⟩

theorem strB_beq {xs ys : List Nat} (hx : ∀ x ∈ xs, x < 256) (hy : ∀ x ∈ ys, x < 256) : ((strB xs).toList == (strB ys).toList) = decide (xs = ys) := by
  rw [Bool.eq_iff_iff]
  simp only [beq_iff_eq, decide_eq_true_eq]
  constructor
  · intro h
    apply strB_inj hx hy
    rw [ByteArray.toList_eq, ByteArray.toList_eq] at h
    rw [ByteArray.ext_iff]
    exact Array.toList_inj.1 h
  · intro h; rw [h]

set_option maxHeartbeats 400000 in
theorem equal_any (v1 v2 : Value) (xs ys : List Nat) (w : World) (h1 : Bs w v1 xs) (h2 : Bs w v2 ys) :
    Calls Tryz.prog 35 #[v1, v2] w fun e w' => e = .returned (.bool (decide (xs = ys))) ∧ w = w' := by
  have c1 := h1.convert (P := Tryz.prog) 30 5 9 Tryz.underlying30 Tryz.underlying5 Tryz.underlying9
  have c2 := h2.convert (P := Tryz.prog) 30 5 9 Tryz.underlying30 Tryz.underlying5 Tryz.underlying9
  have hb := strB_beq h1.lt h2.lt
  clear h1 h2
  go_enter Tryz.func35, Tryz.ntmps35
  go_wp2
  go_ret
  exact ⟨by simp, rfl⟩

set_option maxHeartbeats 400000 in
theorem get_yes (v : Value) (l : List Nat) (p n : Nat) (w : World) (h : Bs w v l) (hn : 1 ≤ n) (hn8 : n ≤ 8) (hp : p + n ≤ l.length) (hlen : l.length ≤ 140737488355328) :
    Calls Tryz.prog 101 #[v, .int .i64 p, .int .i64 n] w fun e w' => e = .returned (.tuple #[.int .u64 (getN l p n : Nat), .bool true]) ∧ w = w' := by
  have hlt := h.lt
  obtain ⟨ao, cap, rfl, hl, hnn, hx, hc⟩ := h
  obtain ⟨b, off, rfl, hcell⟩ := hc (by omega)
  have hw : widthB n = true := by simp [widthB]; omega
  go_enter Tryz.func101, Tryz.ntmps101
  go_wp2_with (go_at_call 103; refine (isWidth_any _ _).mono ?_; rintro e w' ⟨rfl, rfl⟩)
  go_loop [8, 26] (fun v i => ∃ k : Nat, k ≤ n ∧ i = .int .i64 k ∧ v = .int .u64 (getN l p k : Nat)) (fun _ i => n - (intOf i).toNat)
  case atStart => exact ⟨0, Nat.zero_le _, rfl, rfl⟩
  case round =>
    obtain ⟨k, hk, rfl, rfl⟩ := hrel
    by_cases hkn : k < n
    · have hck := hcell (p + k) (by omega)
      go_wp2
      go_round
      case rel => exact ⟨k + 1, by omega, by go_num, by rw [getN_or hlt p k (by omega)]⟩
      case measure => simp [intOf]; omega
    · go_wp2
      go_ret2
      obtain rfl : k = n := by omega
      exact ⟨rfl, rfl⟩

set_option maxHeartbeats 400000 in
theorem get_no (v : Value) (l : List Nat) (p n : Int) (w : World) (h : Bs w v l) (hlen : l.length ≤ 140737488355328) (hb : getB l p n = false) :
    Calls Tryz.prog 101 #[v, .int .i64 p, .int .i64 n] w fun e w' => e = .returned (.tuple #[.int .u64 0, .bool false]) ∧ w = w' := by
  obtain ⟨ao, cap, rfl, hl, hnn, hx, hc⟩ := h
  cases hw : widthB n with
  | false =>
    clear hb
    go_enter Tryz.func101, Tryz.ntmps101
    go_wp2_with (go_at_call 103; refine (isWidth_any _ _).mono ?_; rintro e w' ⟨rfl, rfl⟩)
    go_ret2
    exact ⟨rfl, rfl⟩
  | true =>
    have hw2 : 1 ≤ n ∧ n ≤ 8 := by simpa [widthB] using hw
    have hb2 : ¬ (0 ≤ p ∧ p + n ≤ l.length) := by simpa [getB, hw] using hb
    clear hb
    by_cases hp : p < 0
    · go_enter Tryz.func101, Tryz.ntmps101
      go_wp2_with (go_at_call 103; refine (isWidth_any _ _).mono ?_; rintro e w' ⟨rfl, rfl⟩)
      go_ret2
      exact ⟨rfl, rfl⟩
    · have hp2 : (l.length : Int) - n < p := by omega
      go_enter Tryz.func101, Tryz.ntmps101
      go_wp2_with (go_at_call 103; refine (isWidth_any _ _).mono ?_; rintro e w' ⟨rfl, rfl⟩)
      go_ret2
      exact ⟨rfl, rfl⟩

theorem get_any (v : Value) (l : List Nat) (p n : Int) (w : World) (h : Bs w v l) (hlen : l.length ≤ 140737488355328) :
    Calls Tryz.prog 101 #[v, .int .i64 p, .int .i64 n] w fun e w' => e = .returned (.tuple #[.int .u64 (getV l p n : Nat), .bool (getB l p n)]) ∧ w = w' := by
  cases hb : getB l p n with
  | false => simp only [getV, hb]; exact get_no v l p n w h hlen hb
  | true =>
    have hb2 := hb
    simp [getB, widthB] at hb2
    obtain ⟨⟨h1, h2⟩, h3, h4⟩ := hb2
    obtain ⟨p', rfl⟩ := Int.eq_ofNat_of_zero_le h3
    obtain ⟨n', rfl⟩ := Int.eq_ofNat_of_zero_le (show 0 ≤ n by omega)
    simp only [getV, hb, if_true, Int.toNat_natCast]
    exact get_yes v l p' n' w h (by omega) (by omega) (by omega) hlen
theorem Tryz.info5 : (Tryz.prog.info? 5).map (fun i => (i.zero, i.size, i.bytes)) = some (some (.int .u8 0), 1, 1) := by kernel_rfl

/-- A new slice of bytes, the call's own. -/
def NewBs (w : World) (l : List Nat) (e : Ending) (w' : World) : Prop :=
  ∃ v, e = .returned v ∧ w'.ownsRow w.heap.size 5 1 v l.length (cellsB l) ∧ Below w.heap.size w w'

theorem numN_set (n v k : Nat) (hk : k < n) : (cellsB (numN k v) ++ List.replicate (n - k) (Value.int .u8 0)).set k (.int .u8 ((v / 2 ^ (8 * k) % 256 : Nat) : Int)) = cellsB (numN (k + 1) v) ++ List.replicate (n - (k + 1)) (Value.int .u8 0) := by
  have h1 : (cellsB (numN k v)).length = k := by rw [cellsB_length, numN_length]
  rw [show n - k = (n - (k + 1)) + 1 by omega, List.replicate_succ]
  rw [List.set_append_right _ _ (by omega), h1, Nat.sub_self]
  simp only [List.set_cons_zero]
  have h2 : numN (k + 1) v = numN k v ++ [v / 2 ^ (8 * k) % 256] := by simp [numN, List.range_succ]
  rw [h2, cellsB_append]
  simp [cellsB]

set_option maxHeartbeats 400000 in
theorem num_yes (n v : Nat) (w : World) (hn : 1 ≤ n) (hn8 : n ≤ 8) (hv : v < 2 ^ 64) :
    Calls Tryz.prog 96 #[.int .i64 n, .int .u64 v] w (NewBs w (numN n v)) := by
  obtain ⟨i0, hi, hz0, hz1, hz2⟩ := info_parts Tryz.info5
  have hw : widthB n = true := by simp [widthB]; omega
  go_enter Tryz.func96, Tryz.ntmps96
  go_wp2_with (first
    | (go_at_call 103; refine (isWidth_any _ _).mono ?_; rintro e w' ⟨rfl, rfl⟩)
    | (at_make; refine wpList_make_full _ rfl (.tmp 10) (.tmp 10) 30 rfl w.heap.size 5 i0 (.int .u8 0) 1 Tryz.underlying30 hi hz0 hz1 .i64 .i64 n n n rfl rfl rfl rfl (by rw [hz2]; omega) (by unfold maxLen; omega) (Nat.le_refl _) ?_; intro w1 hown hgrow))
  have hown0 : w1.ownsRow w.heap.size 5 1 (.slice (some ⟨w.heap.size, 0, none⟩) n n) n (cellsB (numN 0 v) ++ List.replicate (n - 0) (Value.int .u8 0)) := by
    have e : (madeCells (Value.int .u8 0).cells (n * 1)).toList = cellsB (numN 0 v) ++ List.replicate (n - 0) (Value.int .u8 0) := by
      simp only [madeCells, numN, cellsB, Value.cells, Nat.mul_one, Array.toList_map, Array.toList_range, List.range_zero, List.map_nil, List.nil_append, Nat.sub_zero]
      apply List.ext_getElem (by simp)
      intro i h1 h2
      simp [Nat.mod_one]
    rw [← e]; exact hown
  have hb0 : Below w.heap.size w w1 := (Below.refl _ _).grown hgrow (Nat.le_refl _) (by intro k hk; cases hk)
  clear hown hgrow
  go_loopw [13] (fun i wr => ∃ k : Nat, k ≤ n ∧ i = .int .i64 k ∧ wr.ownsRow w.heap.size 5 1 (.slice (some ⟨w.heap.size, 0, none⟩) n n) n (cellsB (numN k v) ++ List.replicate (n - k) (Value.int .u8 0)) ∧ Below w.heap.size w wr) (fun i _ => n - (intOf i).toNat)
  case atStart => exact ⟨0, Nat.zero_le _, rfl, hown0, hb0⟩
  case round =>
    obtain ⟨k, hk, rfl, hown, hb⟩ := hrel
    by_cases hkn : k < n
    · have hc : wr.cell? ⟨w.heap.size, k, none⟩ = some (.int .u8 0) := by
        rw [hown.cellAt k (by omega), List.getElem?_append_right (by simp [cellsB_length, numN_length])]
        rw [cellsB_length, numN_length, Nat.sub_self, List.getElem?_replicate, if_pos (by omega)]
      have hf := hown.frozenAt k
      have hst := hown.stored k (.int .u8 ((v / 2 ^ (8 * k) % 256 : Nat) : Int))
      rw [numN_set n v k hkn] at hst
      have Hst : Hid (World.ownsRow _ _ _ _ _ _ _) := hst.1
      have Hb : Hid _ := hb.setCell (p := ⟨w.heap.size, k, none⟩) (Nat.le_refl _) (.int .u8 ((v / 2 ^ (8 * k) % 256 : Nat) : Int))
      clear hown hst hb
      go_wp2
      go_roundw
      case rel =>
        rw [show ((v : Int) / 2 ^ (8 * k) % 256) = ((v / 2 ^ (8 * k) % 256 : Nat) : Int) by simp]
        exact ⟨k + 1, by omega, by go_num, Hst.out, Hb.out⟩
      case measure => simp [intOf]; omega
    · obtain rfl : k = n := by omega
      go_wp2
      go_ret
      refine ⟨_, rfl, ?_, hb⟩
      rw [numN_length]
      simpa using hown

set_option maxHeartbeats 400000 in
theorem num_no (n : Int) (v : Nat) (w : World) (hw : widthB n = false) :
    Calls Tryz.prog 96 #[.int .i64 n, .int .u64 v] w (NewBs w []) := by
  go_enter Tryz.func96, Tryz.ntmps96
  go_wp2_with (go_at_call 103; refine (isWidth_any _ _).mono ?_; rintro e w' ⟨rfl, rfl⟩)
  go_ret
  exact ⟨_, rfl, World.ownsRow_nil _ _ _ _, Below.refl _ _⟩

theorem num_any (n : Int) (v : Nat) (w : World) (hv : v < 2 ^ 64) :
    Calls Tryz.prog 96 #[.int .i64 n, .int .u64 v] w (NewBs w (numL n v)) := by
  cases hw : widthB n with
  | false => simp only [numL, hw]; exact num_no n v w hw
  | true =>
    have hw2 : 1 ≤ n ∧ n ≤ 8 := by simpa [widthB] using hw
    obtain ⟨n', rfl⟩ := Int.eq_ofNat_of_zero_le (show 0 ≤ n by omega)
    simp only [numL, hw, if_true, Int.toNat_natCast]
    exact num_yes n' v w (by omega) (by omega) hv

theorem numN_succ (k v : Nat) : numN (k + 1) v = numN k v ++ [v / 2 ^ (8 * k) % 256] := by simp [numN, List.range_succ]


set_option maxHeartbeats 400000 in
theorem sum_any (v : Value) (l : List Nat) (w : World) (h : Bs w v l) (hlen : l.length ≤ 140737488355328) :
    Calls Tryz.prog 97 #[v] w fun e w' => e = .returned (.int .u32 (sumN l : Nat)) ∧ w = w' := by
  have hlt := h.lt
  obtain ⟨ao, cap, rfl, hl, hnn, hx, hc⟩ := h
  go_enter Tryz.func97, Tryz.ntmps97
  go_wp2
  go_loop [3, 8] (fun s i => ∃ k : Nat, k ≤ l.length ∧ i = .int .i64 k ∧ s = .int .u32 (crcN 4294967295 (l.take k) : Nat)) (fun _ i => l.length - (intOf i).toNat)
  case atStart => exact ⟨0, Nat.zero_le _, rfl, by simp [crcN]⟩
  case round =>
    obtain ⟨k, hk, rfl, rfl⟩ := hrel
    have hs : crcN 4294967295 (l.take k) < 2 ^ 32 := crcN_lt (by omega) _ (fun x hx => hlt x (List.mem_of_mem_take hx))
    generalize hcs : crcN 4294967295 (l.take k) = s at *
    have Hcs : Hid _ := hcs
    clear hcs
    by_cases hkn : k < l.length
    · obtain ⟨b, off, rfl, hcell⟩ := hc (by omega)
      have hck := hcell k hkn
      have hcl := getD_lt hlt k
      have hsn := crcN_snoc l k hkn
      rw [Hcs.out] at hsn
      generalize l.getD k 0 = c at hck hcl hsn
      have Hsn : Hid _ := hsn
      clear hsn hcell hc
      go_wp2
      rw [xor_byte s c hs hcl]
      go_loop [3, 16] (fun t i => ∃ j : Nat, j ≤ 8 ∧ i = .int .i64 j ∧ t = .int .u32 (stepsN j (s ^^^ c) : Nat)) (fun _ i => 8 - (intOf i).toNat)
      case atStart => exact ⟨0, Nat.zero_le _, rfl, rfl⟩
      case round =>
        obtain ⟨j, hj, rfl, rfl⟩ := hrel
        have ht := stepsN_lt (xor_lt32 hs (show c < 2 ^ 32 by omega)) j
        by_cases hj8 : j < 8
        · go_wp2
          go_round
          case rel => exact ⟨j + 1, by omega, by go_num, by rw [step_mask _ ht]; rfl⟩
          case measure => simp [intOf]; omega
        · obtain rfl : j = 8 := by omega
          go_wp2
          go_round
          case rel => exact ⟨k + 1, by omega, by go_num, by rw [Hsn.out]⟩
          case measure => simp [intOf]; omega
    · go_wp2
      go_ret
      refine ⟨?_, rfl⟩
      obtain rfl : k = l.length := by omega
      have e : s = crcN 4294967295 l := by rw [← Hcs.out, List.take_length]
      show Ending.returned (Value.int .u32 (bits BinOp.xor IntKind.u32 IntKind.u32.max (s : Int))) = _
      rw [not_u32 s hs, e]
      rfl

set_option maxHeartbeats 400000 in
theorem rsum_any (v : Value) (l : List Nat) (w : World) (h : Bs w v l) (hlen : l.length ≤ 140737488355328) :
    Calls Tryz.prog 77 #[v] w fun e w' => e = .returned (.int .u32 (sumN l : Nat)) ∧ w = w' := by
  have hlt := h.lt
  obtain ⟨ao, cap, rfl, hl, hnn, hx, hc⟩ := h
  go_enter Tryz.func77, Tryz.ntmps77
  go_wp2
  go_loop [3, 4] (fun s i => ∃ k : Nat, k ≤ l.length ∧ i = .int .i64 k ∧ s = .int .u32 (crcN 4294967295 (l.take k) : Nat)) (fun _ i => l.length - (intOf i).toNat)
  case atStart => exact ⟨0, Nat.zero_le _, rfl, by simp [crcN]⟩
  case round =>
    obtain ⟨k, hk, rfl, rfl⟩ := hrel
    have hs : crcN 4294967295 (l.take k) < 2 ^ 32 := crcN_lt (by omega) _ (fun x hx => hlt x (List.mem_of_mem_take hx))
    generalize hcs : crcN 4294967295 (l.take k) = s at *
    have Hcs : Hid _ := hcs
    clear hcs
    by_cases hkn : k < l.length
    · obtain ⟨b, off, rfl, hcell⟩ := hc (by omega)
      have hck := hcell k hkn
      have hcl := getD_lt hlt k
      have hsn := crcN_snoc l k hkn
      rw [Hcs.out] at hsn
      generalize l.getD k 0 = c at hck hcl hsn
      have Hsn : Hid _ := hsn
      clear hsn hcell hc
      go_wp2
      rw [xor_byte s c hs hcl]
      go_loop [3, 5] (fun t i => ∃ j : Nat, j ≤ 8 ∧ i = .int .i64 j ∧ t = .int .u32 (stepsN j (s ^^^ c) : Nat)) (fun _ i => 8 - (intOf i).toNat)
      case atStart => exact ⟨0, Nat.zero_le _, rfl, rfl⟩
      case round =>
        obtain ⟨j, hj, rfl, rfl⟩ := hrel
        have ht := stepsN_lt (xor_lt32 hs (show c < 2 ^ 32 by omega)) j
        by_cases hj8 : j < 8
        · by_cases h2 : stepsN j (s ^^^ c) % 2 = 1
          · go_wp2
            go_round
            case rel => exact ⟨j + 1, by omega, by go_num, by rw [step_one _ ht h2]; rfl⟩
            case measure => simp [intOf]; omega
          · go_wp2
            go_round
            case rel => exact ⟨j + 1, by omega, by go_num, by rw [step_zero _ (by omega)]; rfl⟩
            case measure => simp [intOf]; omega
        · obtain rfl : j = 8 := by omega
          go_wp2
          go_round
          case rel => exact ⟨k + 1, by omega, by go_num, by rw [Hsn.out]⟩
          case measure => simp [intOf]; omega
    · go_wp2
      go_ret
      refine ⟨?_, rfl⟩
      obtain rfl : k = l.length := by omega
      have e : s = crcN 4294967295 l := by rw [← Hcs.out, List.take_length]
      show Ending.returned (Value.int .u32 (bits BinOp.xor IntKind.u32 IntKind.u32.max (s : Int))) = _
      rw [not_u32 s hs, e]
      rfl



end Go.Proofs.YtjhbljkoapbkfaaGreat
