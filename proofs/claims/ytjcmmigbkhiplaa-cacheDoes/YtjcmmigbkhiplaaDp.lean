/- A disk as plain lists: its medium, what is pending, what is armed; what the calls do with it. Nothing here speaks of one program. -/
import Derived.Test.YtjcmmigbkhiplaaBase
set_option linter.unusedVariables false
namespace Go.Attic
open Go.RowKit

structure St where
  med : List Nat
  pend : List (Nat × List Nat)
  left : Nat
  picks : List Nat
  ops : Nat
  on : Bool

/-- A disk of n blocks that may be. -/
structure St.Ok (s : St) (n : Nat) : Prop where
  len : s.med.length = 256 * n
  n1 : 1 ≤ n
  n2 : n ≤ 2048
  lt : ∀ x ∈ s.med, x < 256
  pend : ∀ x ∈ s.pend, x.1 < n ∧ x.2.length = 256 ∧ ∀ y ∈ x.2, y < 256
  left : s.left ≤ 9223372036854775807
  picks : s.picks.length ≤ 140737488355328

/-- The medium behind the sectors below K of a write. -/
def reachK (med : List Nat) (b : Nat) (bytes : List Nat) (pick K : Nat) : List Nat :=
  (List.range med.length).map fun j => if j / 256 = b ∧ j % 256 / 64 < K ∧ pick.testBit (j % 256 / 64) = true then bytes.getD (j % 256) 0 else med.getD j 0
def reachL (med : List Nat) (b : Nat) (bytes : List Nat) (pick : Nat) : List Nat := reachK med b bytes pick 4

theorem reachK_length (med : List Nat) (b : Nat) (bytes : List Nat) (pick K : Nat) : (reachK med b bytes pick K).length = med.length := by simp [reachK]
theorem reachL_length (med : List Nat) (b : Nat) (bytes : List Nat) (pick : Nat) : (reachL med b bytes pick).length = med.length := reachK_length _ _ _ _ _

theorem reachK_getD (med : List Nat) (b : Nat) (bytes : List Nat) (pick K j : Nat) (hj : j < med.length) :
    (reachK med b bytes pick K).getD j 0 = if j / 256 = b ∧ j % 256 / 64 < K ∧ pick.testBit (j % 256 / 64) = true then bytes.getD (j % 256) 0 else med.getD j 0 := by
  simp [reachK, List.getD_eq_getElem?_getD, hj]

theorem ext_getD {a b : List Nat} (h : a.length = b.length) (he : ∀ i, i < a.length → a.getD i 0 = b.getD i 0) : a = b := by
  apply List.ext_getElem h
  intro i h1 h2
  have := he i h1
  simpa [List.getD_eq_getElem?_getD, h1, h2] using this

theorem reachK_zero (med : List Nat) (b : Nat) (bytes : List Nat) (pick : Nat) : reachK med b bytes pick 0 = med := by
  refine ext_getD (reachK_length _ _ _ _ _) fun i hi => ?_
  rw [reachK_length] at hi
  rw [reachK_getD _ _ _ _ _ _ hi, if_neg (by omega)]

theorem reachK_skip (med : List Nat) (b : Nat) (bytes : List Nat) (pick K : Nat) (h : pick.testBit K = false) : reachK med b bytes pick (K + 1) = reachK med b bytes pick K := by
  refine ext_getD (by rw [reachK_length, reachK_length]) fun i hi => ?_
  rw [reachK_length] at hi
  rw [reachK_getD _ _ _ _ _ _ hi, reachK_getD _ _ _ _ _ _ hi]
  by_cases hk : i % 256 / 64 = K
  · rw [if_neg (by rw [hk, h]; simp), if_neg (by omega)]
  · congr 1
    have : i % 256 / 64 < K + 1 ↔ i % 256 / 64 < K := by omega
    rw [this]

theorem splice_getD (L cs : List Nat) (off i : Nat) (hf : off + cs.length ≤ L.length) : (splice L off cs).getD i 0 = if off ≤ i ∧ i < off + cs.length then cs.getD (i - off) 0 else L.getD i 0 := by
  unfold splice
  simp only [List.getD_eq_getElem?_getD]
  have hl : (L.take off).length = off := by simp; omega
  by_cases h1 : i < off
  · rw [if_neg (by omega), List.getElem?_append_left (by omega), List.getElem?_take, if_pos h1]
  · rw [List.getElem?_append_right (by omega), hl]
    by_cases h2 : i < off + cs.length
    · rw [if_pos (by omega), List.getElem?_append_left (by omega)]
    · rw [if_neg (by omega), List.getElem?_append_right (by omega), List.getElem?_drop]
      congr 2
      omega

theorem reachK_copy (med : List Nat) (b : Nat) (bytes : List Nat) (pick K n : Nat) (h : pick.testBit K = true) (hK : K < 4) (hb : b < n) (hm : med.length = 256 * n) (hl : bytes.length = 256) :
    reachK med b bytes pick (K + 1) = splice (reachK med b bytes pick K) (b * 256 + K * 64) ((bytes.drop (K * 64)).take 64) := by
  have hcs : ((bytes.drop (K * 64)).take 64).length = 64 := by simp; omega
  have hf : b * 256 + K * 64 + ((bytes.drop (K * 64)).take 64).length ≤ (reachK med b bytes pick K).length := by rw [hcs, reachK_length, hm]; omega
  refine ext_getD (by rw [reachK_length, length_splice _ _ _ hf, reachK_length]) fun i hi => ?_
  rw [reachK_length] at hi
  rw [splice_getD _ _ _ _ hf, reachK_getD _ _ _ _ _ _ hi, reachK_getD _ _ _ _ _ _ hi, hcs]
  by_cases h1 : b * 256 + K * 64 ≤ i ∧ i < b * 256 + K * 64 + 64
  · have h2 : i % 256 / 64 = K := by omega
    rw [if_pos h1, if_pos ⟨by omega, by omega, by rw [h2]; exact h⟩]
    have h3 : i - (b * 256 + K * 64) < 64 := by omega
    simp only [List.getD_eq_getElem?_getD, List.getElem?_take, if_pos h3, List.getElem?_drop]
    congr 2
    omega
  · rw [if_neg h1]
    have : (i / 256 = b ∧ i % 256 / 64 < K + 1 ∧ pick.testBit (i % 256 / 64) = true) ↔ (i / 256 = b ∧ i % 256 / 64 < K ∧ pick.testBit (i % 256 / 64) = true) := by
      constructor
      · rintro ⟨a1, a2, a3⟩; exact ⟨a1, by omega, a3⟩
      · rintro ⟨a1, a2, a3⟩; exact ⟨a1, by omega, a3⟩
    simp only [this]

theorem cellsB_splice (L : List Nat) (off : Nat) (cs : List Nat) : splice (cellsB L) off (cellsB cs) = cellsB (splice L off cs) := by
  simp [splice, cellsB]

theorem mem_getD {l : List Nat} {x : Nat} (h : x ∈ l) : ∃ i, i < l.length ∧ l.getD i 0 = x := by
  obtain ⟨i, hi, rfl⟩ := List.getElem_of_mem h
  exact ⟨i, hi, by simp [List.getD_eq_getElem?_getD, hi]⟩

theorem reachK_lt (med : List Nat) (b : Nat) (bytes : List Nat) (pick K : Nat) (h : ∀ x ∈ med, x < 256) (hb : ∀ x ∈ bytes, x < 256) : ∀ x ∈ reachK med b bytes pick K, x < 256 := by
  intro x hx
  obtain ⟨i, hi, rfl⟩ := mem_getD hx
  rw [reachK_length] at hi
  rw [reachK_getD _ _ _ _ _ _ hi]
  split
  · exact getD_lt hb _
  · exact getD_lt h _

/-- The pending writes reach the medium, with their picks. -/
def settleL (med : List Nat) : List (Nat × List Nat) → List Nat → List Nat
  | w :: ps, k :: ks => settleL (reachL med w.1 w.2 k) ps ks
  | _, _ => med

theorem settleL_length (med : List Nat) (ps : List (Nat × List Nat)) (ks : List Nat) : (settleL med ps ks).length = med.length := by
  induction ps generalizing med ks with
  | nil => simp [settleL]
  | cons w ps ih =>
    cases ks with
    | nil => simp [settleL]
    | cons k ks => rw [settleL, ih, reachL_length]

theorem settleL_lt (med : List Nat) (ps : List (Nat × List Nat)) (ks : List Nat) (h : ∀ x ∈ med, x < 256) (hp : ∀ p ∈ ps, ∀ y ∈ p.2, y < 256) : ∀ x ∈ settleL med ps ks, x < 256 := by
  induction ps generalizing med ks with
  | nil => simpa [settleL] using h
  | cons w ps ih =>
    cases ks with
    | nil => simpa [settleL] using h
    | cons k ks =>
      rw [settleL]
      exact ih _ _ (reachK_lt _ _ _ _ _ h (hp w (by simp))) (fun p hp' => hp p (by simp [hp']))

/-- One more write reaches it. -/
theorem settleL_take (med : List Nat) (ps : List (Nat × List Nat)) (ks : List Nat) (i : Nat) (h1 : i < ps.length) (h2 : i < ks.length) :
    settleL med (ps.take (i + 1)) (ks.take (i + 1)) = reachL (settleL med (ps.take i) (ks.take i)) (ps[i]).1 (ps[i]).2 (ks.getD i 0) := by
  induction ps generalizing med ks i with
  | nil => simp at h1
  | cons w ps ih =>
    cases ks with
    | nil => simp at h2
    | cons k ks =>
      cases i with
      | zero => simp [settleL]
      | succ i =>
        simp only [List.take_succ_cons, settleL]
        rw [ih _ _ _ (by simpa using h1) (by simpa using h2)]
        simp

theorem settleL_min (med : List Nat) (ps : List (Nat × List Nat)) (ks : List Nat) : settleL med (ps.take (min ps.length ks.length)) (ks.take (min ps.length ks.length)) = settleL med ps ks := by
  induction ps generalizing med ks with
  | nil => simp [settleL]
  | cons w ps ih =>
    cases ks with
    | nil => simp [settleL]
    | cons k ks =>
      have e : min (w :: ps).length (k :: ks).length = min ps.length ks.length + 1 := by simp
      rw [e]
      simp only [List.take_succ_cons, settleL]
      exact ih _ _

def crashed (s : St) (picks : List Nat) : St := { med := settleL s.med s.pend picks, pend := [], left := 0, picks := [], ops := s.ops, on := false }

/-- An operation is counted; the power may go in its midst. -/
def operS (s : St) : St × Int :=
  if s.left = 0 then ({ s with ops := s.ops + 1 }, 0)
  else if s.left = 1 then (crashed { s with ops := s.ops + 1 } s.picks, 5)
  else ({ s with ops := s.ops + 1, left := s.left - 1 }, 0)

def inS (n : Nat) (i : Int) : Bool := decide (0 ≤ i ∧ i < (n : Int))

def lastW : List (Nat × List Nat) → Nat → Option (List Nat)
  | [], _ => none
  | w :: ps, i => match lastW ps i with
    | some l => some l
    | none => if w.1 = i then some w.2 else none

def blockL (med : List Nat) (i : Nat) : List Nat := (med.drop (256 * i)).take 256

def readL (s : St) (i : Nat) : List Nat := (lastW s.pend i).getD (blockL s.med i)

def readS (s : St) (n : Nat) (i : Int) : List Nat × Int := if s.on = false then ([], 5) else if inS n i = false then ([], 30) else (readL s i.toNat, 0)

def writeS (s : St) (n : Nat) (i : Int) (b : List Nat) : St × Int :=
  if s.on = false then (s, 5) else if inS n i = false then (s, 30) else if b.length ≠ 256 then (s, 31) else operS { s with pend := s.pend ++ [(i.toNat, b)] }

def flushS (s : St) : St × Int :=
  if s.on = false then (s, 5) else if (operS s).2 ≠ 0 then operS s else ({ (operS s).1 with med := settleL s.med s.pend (List.replicate s.pend.length 15), pend := [] }, 0)

def armS (s : St) (n : Int) (picks : List Nat) : St × Int :=
  if s.on = false then (s, 5) else if n < 0 then (s, 1) else if n = 0 then ({ s with left := 0, picks := [] }, 0) else ({ s with left := n.toNat, picks := picks }, 0)

def crashS (s : St) (picks : List Nat) : St × Int := if s.on = false then (s, 5) else (crashed s picks, 0)

def restartS (s : St) : St × Int := if s.on = true then (s, 7) else ({ s with on := true }, 0)

theorem St.Ok.med {s : St} {n : Nat} (h : s.Ok n) {m : List Nat} (hl : m.length = s.med.length) (hx : ∀ x ∈ m, x < 256) : ({ s with med := m } : St).Ok n :=
  ⟨hl.trans h.len, h.n1, h.n2, hx, h.pend, h.left, h.picks⟩

theorem St.Ok.crashed {s : St} {n : Nat} (h : s.Ok n) (picks : List Nat) : (crashed s picks).Ok n :=
  ⟨(settleL_length _ _ _).trans h.len, h.n1, h.n2, settleL_lt _ _ _ h.lt (fun p hp => (h.pend p hp).2.2), by simp [Attic.crashed], by simp [Attic.crashed], by simp [Attic.crashed]⟩

end Go.Attic
