/- Bytes of any record on both sides; what parse answers of any bytes. A disk as plain lists: its medium, what is pending, what is armed; what the calls do with it. Nothing here speaks of one program. The disk in memory (Dk); contracts of its small readers: isSize, isMade, powered, Len, On, Ops, findable, own, Image, bytes.Equal, block, sector. -/
import Derived.Test.YtjhbljkoapbkfaaGreatM4
import Derived.Test.YtjhbljkoapbkfaaGreatM5
import Derived.Test.YtjhbljkoapbkfaaGreatM2
import Derived.Test.YtjhbljkoapbkfaaGreatRows
import Derived.BigQuiet
import Derived.Lib.SlBytesConst
set_option linter.unusedSimpArgs false
set_option linter.unusedVariables false

namespace Go.Proofs.YtjhbljkoapbkfaaGreat
open Go.RowKit Go.Attic

/-- What Bytes answers: the sector, or an error. -/
def BytesR (p k b o m : Int) (l M : List Nat) (er : Int) : Prop :=
  (er = 0 ∧ ∃ p' k' b' o' m' : Nat, p = p' ∧ k = k' ∧ b = b' ∧ o = o' ∧ m = m' ∧ IsR M p' k' b' o' m' l) ∨ ((er = 1 ∨ er = 60) ∧ M = [])

theorem BytesR.lt {p k b o m : Int} {l M : List Nat} {er : Int} (h : BytesR p k b o m l M er) : ∀ y ∈ M, y < 256 := by
  rcases h with ⟨_, p', k', b', o', m', _, _, _, _, _, h⟩ | ⟨_, rfl⟩
  · have r := okR_range h.1
    rw [h.2.2.2]
    exact secR_lt _ _ _ _ _ _ (by omega) (by omega) (by omega) h.2.2.1
  · simp

theorem bytes_both (p k b o m : Int) (l : List Nat) (hx : ∀ x ∈ l, x < 256) (hlen : l.length ≤ 140737488355328) : ∃ M er, BytesR p k b o m l M er ∧
    (∀ v w, Bs w v l → Calls Tryz.prog 73 #[.int .i64 p, .agg #[.int .i64 k, .int .i64 b, .int .i64 o, v, .int .i64 m]] w (NewBsE w M er)) := by
  cases hp : placeB p with
  | false => exact ⟨[], 1, .inr ⟨.inl rfl, rfl⟩, fun v w hv => bytes_arg p k b o m v l w hv hp⟩
  | true =>
    by_cases h : okR k b o m l.length
    · have hp2 : 0 ≤ p ∧ p ≤ 2305843009213693952 := by simpa [placeB] using hp
      obtain ⟨k', b', o', m', rfl, rfl, rfl, rfl⟩ := okR_nat h
      obtain ⟨p', rfl⟩ := Int.eq_ofNat_of_zero_le hp2.1
      have hp3 : p' ≤ 2305843009213693952 := by omega
      exact ⟨secR p' k' b' o' m' l, 0, .inl ⟨rfl, p', k', b', o', m', rfl, rfl, rfl, rfl, rfl, h, hp3, hx, rfl⟩, fun v w hv => bytes_yes p' k' b' o' m' v l w hv hp3 h⟩
    · have hc : chkR k b o m l.length ≠ 0 := fun e => h (chkR_zero e)
      refine ⟨[], chkR k b o m l.length, .inr ⟨.inr (chkR_no h), rfl⟩, fun v w hv => bytes_rec p k b o m v l w hv hlen hp hc⟩

/-- What any bytes are told to be. -/
def Par (L : List Nat) (p k b o m : Int) (l : List Nat) (er : Int) : Prop :=
  (er = 0 ∧ ∃ p' k' b' o' m' : Nat, p = p' ∧ k = k' ∧ b = b' ∧ o = o' ∧ m = m' ∧ IsR L p' k' b' o' m' l) ∨ (er = 61 ∧ NoR L ∧ p = 0 ∧ k = 0 ∧ b = 0 ∧ o = 0 ∧ m = 0 ∧ l = [])

theorem par_ex (L : List Nat) : ∃ p k b o m l er, Par L p k b o m l er := by
  by_cases h : ∃ (p k b o m : Nat) (l : List Nat), IsR L p k b o m l
  · obtain ⟨p, k, b, o, m, l, h⟩ := h
    exact ⟨p, k, b, o, m, l, 0, .inl ⟨rfl, p, k, b, o, m, rfl, rfl, rfl, rfl, rfl, h⟩⟩
  · exact ⟨0, 0, 0, 0, 0, [], 61, .inr ⟨rfl, fun p k b o m l hh => h ⟨p, k, b, o, m, l, hh⟩, rfl, rfl, rfl, rfl, rfl, rfl⟩⟩

theorem wrap_small {x : Nat} (h : x ≤ 2305843009213693952) : IntKind.i64.wrap (x : Int) = (x : Int) := by rw [IntKind.wrap_i64]; omega

theorem parse_yes (v : Value) (L : List Nat) (p k b o m : Nat) (l : List Nat) (h : IsR L p k b o m l) : ∃ vr, (∀ w, Bs w v L → Bs w vr l) ∧
    ∀ w, Bs w v L → Calls Tryz.prog 87 #[v] w fun e w' => e = .returned (.tuple #[.int .i64 (p : Nat), .agg #[.int .i64 (k : Nat), .int .i64 (b : Nat), .int .i64 (o : Nat), vr, .int .i64 (m : Nat)], .int .i64 0]) ∧ Below w.heap.size w w' := by
  have hl := h.len
  have r := okR_range h.1
  obtain ⟨e0, e1, e2, e3, e4, e5⟩ := h.fields
  have hM : ∀ y ∈ secR p k b o m l, y < 256 := secR_lt _ _ _ _ _ _ (by omega) (by omega) (by omega) h.2.2.1
  have hpi : IntKind.i64.wrap ((getN L 2 8 : Nat) : Int) = (p : Int) := by rw [e2]; exact wrap_small h.2.1
  by_cases h2 : k = 2
  · obtain ⟨rfl, rfl, hl0⟩ := okR_commit h.1 h2
    subst h2
    obtain rfl : l = [] := List.eq_nil_of_length_eq_zero hl0
    rw [show numR 2 0 m = m from rfl] at e3
    refine ⟨.slice none 0 0, fun w _ => Bs.nil w, fun w hv => ?_⟩
    refine parse_eq v L w hv hl (by omega) p 2 0 0 m [] (.slice none 0 0) (fun w _ => Bs.nil w) (fun w hv => ?_) (secR p 2 0 0 m []) 0 (fun w hb => bytes_yes p 2 0 0 m _ [] w hb h.2.1 h.1) hM rfl (decide_eq_true h.2.2.2)
    have := fields_C v L w hv hl e0 p hpi
    rw [e3, e4] at this
    exact this
  · obtain rfl : k = 1 := by omega
    obtain rfl := okR_patch h.1 rfl
    rw [show numR 1 b 0 = b from rfl] at e3
    have hvr : ∀ w, Bs w v L → Bs w (dataV v l.length) l := fun w hv => by
      have := dataV_bs hv hl l.length (by omega)
      rw [e5] at this
      exact this
    refine ⟨dataV v l.length, hvr, fun w hv => ?_⟩
    refine parse_eq v L w hv hl (by omega) p 1 b o 0 l (dataV v l.length) hvr (fun w hv => ?_) (secR p 1 b o 0 l) 0 (fun w hb => bytes_yes p 1 b o 0 _ l w hb h.2.1 h.1) hM rfl (decide_eq_true h.2.2.2)
    have := fields_P v L w hv hl (by omega) (by omega) p hpi
    rw [e0, e1, e3, e4] at this
    exact this

theorem parse_no (v : Value) (L : List Nat) (hlen : L.length ≤ 140737488355328) (h : NoR L) (w : World) (hv : Bs w v L) :
    Calls Tryz.prog 87 #[v] w fun e w' => e = .returned (.tuple #[.int .i64 0, .agg #[.int .i64 0, .int .i64 0, .int .i64 0, .slice none 0 0, .int .i64 0], .int .i64 61]) ∧ Below w.heap.size w w' := by
  have hx := hv.lt
  by_cases hl : L.length = 64
  · by_cases h1 : L.getD 1 0 ≤ 44
    · have go : ∀ (pi k b o m : Int) (l : List Nat) (vr : Value) (hvr : ∀ w, Bs w v L → Bs w vr l) (hlx : ∀ x ∈ l, x < 256) (hl44 : l.length ≤ 140737488355328)
          (hf : ∀ w, Bs w v L → Calls Tryz.prog 94 #[v] w fun e w' => e = .returned (.tuple #[.int .i64 pi, .agg #[.int .i64 k, .int .i64 b, .int .i64 o, vr, .int .i64 m]]) ∧ Below w.heap.size w w'),
          Calls Tryz.prog 87 #[v] w fun e w' => e = .returned (.tuple #[.int .i64 0, .agg #[.int .i64 0, .int .i64 0, .int .i64 0, .slice none 0 0, .int .i64 0], .int .i64 61]) ∧ Below w.heap.size w w' := by
        intro pi k b o m l vr hvr hlx hl44 hf
        obtain ⟨M, er, hM, h9⟩ := bytes_both pi k b o m l hlx hl44
        have hMx := hM.lt
        rcases hM with ⟨he, p', k', b', o', m', -, -, -, -, -, hi⟩ | ⟨he, -⟩
        · exact parse_ne v L w hv hl h1 pi k b o m l vr hvr hf M er (fun w hb => h9 _ w hb) hMx he (decide_eq_false (fun e => h p' k' b' o' m' l (e ▸ hi)))
        · exact parse_err v L w hv hl h1 pi k b o m l vr hvr hf M er (fun w hb => h9 _ w hb) hMx (by simp; omega)
      by_cases h0 : L.getD 0 0 = 2
      · exact go _ 2 0 _ _ [] (.slice none 0 0) (fun w _ => Bs.nil w) (by simp) (by simp) (fun w hv => fields_C v L w hv hl h0 _ rfl)
      · exact go _ _ _ _ 0 _ (dataV v (L.getD 1 0)) (fun w hv => dataV_bs hv hl _ h1) (fun x hx' => hx x (List.mem_of_mem_drop (List.mem_of_mem_take hx'))) (by simp; omega) (fun w hv => fields_P v L w hv hl h0 h1 _ rfl)
    · exact parse_big v L w hv hl (by omega)
  · exact parse_short v L w hv hlen hl

theorem parse_par (v : Value) (L : List Nat) (hlen : L.length ≤ 140737488355328) {p k b o m : Int} {l : List Nat} {er : Int} (h : Par L p k b o m l er) : ∃ vr, (∀ w, Bs w v L → Bs w vr l) ∧
    ∀ w, Bs w v L → Calls Tryz.prog 87 #[v] w fun e w' => e = .returned (.tuple #[.int .i64 p, .agg #[.int .i64 k, .int .i64 b, .int .i64 o, vr, .int .i64 m], .int .i64 er]) ∧ Below w.heap.size w w' := by
  rcases h with ⟨rfl, p', k', b', o', m', rfl, rfl, rfl, rfl, rfl, h⟩ | ⟨rfl, h, rfl, rfl, rfl, rfl, rfl, rfl⟩
  · exact parse_yes v L p' k' b' o' m' l h
  · exact ⟨.slice none 0 0, fun w _ => Bs.nil w, fun w hv => parse_no v L hlen h w hv⟩


/-- What Take answers of any bytes at any place. -/
def TakeR (L : List Nat) (q k b o m : Int) (l : List Nat) (er : Int) : Prop :=
  (er = 0 ∧ ∃ p' k' b' o' m' : Nat, q = p' ∧ k = k' ∧ b = b' ∧ o = o' ∧ m = m' ∧ IsR L p' k' b' o' m' l) ∨
  ((er = 1 ∨ er = 61) ∧ l = [] ∧ ∀ (p' k' b' o' m' : Nat) (l' : List Nat), IsR L p' k' b' o' m' l' → q ≠ p')

theorem take_both (L : List Nat) (q : Int) (hx : ∀ x ∈ L, x < 256) (hlen : L.length ≤ 140737488355328) : ∃ (k b o m : Int) (l : List Nat) (er : Int), TakeR L q k b o m l er ∧
    (∀ v w, Bs w v L → Calls Tryz.prog 67 #[v, .int .i64 q] w (TakeE w k b o l m er)) := by
  cases hp : placeB q with
  | false =>
    have hp2 : ¬ (0 ≤ q ∧ q ≤ 2305843009213693952) := by simpa [placeB] using hp
    refine ⟨0, 0, 0, 0, [], 1, .inr ⟨.inl rfl, rfl, fun p' k' b' o' m' l' hi e => ?_⟩, fun v w hv => take_arg v L q w hv hp⟩
    have := hi.2.1; omega
  | true =>
    have hp2 : 0 ≤ q ∧ q ≤ 2305843009213693952 := by simpa [placeB] using hp
    by_cases h : ∃ (p k b o m : Nat) (l : List Nat), IsR L p k b o m l
    · obtain ⟨p, k, b, o, m, l, h⟩ := h
      have r := okR_range h.1
      by_cases hq : (p : Int) = q
      · refine ⟨k, b, o, m, l, 0, .inl ⟨rfl, p, k, b, o, m, hq.symm, rfl, rfl, rfl, rfl, h⟩, fun v w hv => ?_⟩
        obtain ⟨vr, hvr, hc⟩ := parse_yes v L p k b o m l h
        exact take_yes v L q w hv hp p k b o m 0 l vr hvr hc (by omega) rfl (by simp [hq])
      · refine ⟨0, 0, 0, 0, [], 61, .inr ⟨.inr rfl, rfl, fun p' k' b' o' m' l' hi e => ?_⟩, fun v w hv => ?_⟩
        · have := (h.one hi).1; omega
        · obtain ⟨vr, hvr, hc⟩ := parse_yes v L p k b o m l h
          exact take_other v L q w hv hp p k b o m 0 l vr hvr hc rfl (by simpa using hq)
    · have hno : NoR L := fun p k b o m l hh => h ⟨p, k, b, o, m, l, hh⟩
      refine ⟨0, 0, 0, 0, [], 61, .inr ⟨.inr rfl, rfl, fun p' k' b' o' m' l' hi => absurd hi (hno _ _ _ _ _ _)⟩, fun v w hv => ?_⟩
      exact take_stale v L q w hv hp 0 0 0 0 0 61 [] (.slice none 0 0) (fun w _ => Bs.nil w) (fun w hv => parse_no v L hlen hno w hv) (by decide)


end Go.Proofs.YtjhbljkoapbkfaaGreat

namespace Go.Attic
open Go.RowKit

structure St where
  med : List Nat
  pend : List (Nat × List Nat)
  left : Nat
  picks : List Nat
  ops : Nat
  on : Bool

/-- A disk of n blocks that may be. -/
structure St.Ok (s : St) (n : Nat) : Prop where
  len : s.med.length = 256 * n
  n1 : 1 ≤ n
  n2 : n ≤ 2048
  lt : ∀ x ∈ s.med, x < 256
  pend : ∀ x ∈ s.pend, x.1 < n ∧ x.2.length = 256 ∧ ∀ y ∈ x.2, y < 256
  left : s.left ≤ 9223372036854775807
  picks : s.picks.length ≤ 140737488355328

/-- The medium behind the sectors below K of a write. -/
def reachK (med : List Nat) (b : Nat) (bytes : List Nat) (pick K : Nat) : List Nat :=
  (List.range med.length).map fun j => if j / 256 = b ∧ j % 256 / 64 < K ∧ pick.testBit (j % 256 / 64) = true then bytes.getD (j % 256) 0 else med.getD j 0
def reachL (med : List Nat) (b : Nat) (bytes : List Nat) (pick : Nat) : List Nat := reachK med b bytes pick 4

theorem reachK_length (med : List Nat) (b : Nat) (bytes : List Nat) (pick K : Nat) : (reachK med b bytes pick K).length = med.length := by simp [reachK]
theorem reachL_length (med : List Nat) (b : Nat) (bytes : List Nat) (pick : Nat) : (reachL med b bytes pick).length = med.length := reachK_length _ _ _ _ _

theorem reachK_getD (med : List Nat) (b : Nat) (bytes : List Nat) (pick K j : Nat) (hj : j < med.length) :
    (reachK med b bytes pick K).getD j 0 = if j / 256 = b ∧ j % 256 / 64 < K ∧ pick.testBit (j % 256 / 64) = true then bytes.getD (j % 256) 0 else med.getD j 0 := by
  simp [reachK, List.getD_eq_getElem?_getD, hj]

theorem ext_getD {a b : List Nat} (h : a.length = b.length) (he : ∀ i, i < a.length → a.getD i 0 = b.getD i 0) : a = b := by
  apply List.ext_getElem h
  intro i h1 h2
  have := he i h1
  simpa [List.getD_eq_getElem?_getD, h1, h2] using this

theorem reachK_zero (med : List Nat) (b : Nat) (bytes : List Nat) (pick : Nat) : reachK med b bytes pick 0 = med := by
  refine ext_getD (reachK_length _ _ _ _ _) fun i hi => ?_
  rw [reachK_length] at hi
  rw [reachK_getD _ _ _ _ _ _ hi, if_neg (by omega)]

theorem reachK_skip (med : List Nat) (b : Nat) (bytes : List Nat) (pick K : Nat) (h : pick.testBit K = false) : reachK med b bytes pick (K + 1) = reachK med b bytes pick K := by
  refine ext_getD (by rw [reachK_length, reachK_length]) fun i hi => ?_
  rw [reachK_length] at hi
  rw [reachK_getD _ _ _ _ _ _ hi, reachK_getD _ _ _ _ _ _ hi]
  by_cases hk : i % 256 / 64 = K
  · rw [if_neg (by rw [hk, h]; simp), if_neg (by omega)]
  · congr 1
    have : i % 256 / 64 < K + 1 ↔ i % 256 / 64 < K := by omega
    rw [this]

theorem splice_getD (L cs : List Nat) (off i : Nat) (hf : off + cs.length ≤ L.length) : (splice L off cs).getD i 0 = if off ≤ i ∧ i < off + cs.length then cs.getD (i - off) 0 else L.getD i 0 := by
  unfold splice
  simp only [List.getD_eq_getElem?_getD]
  have hl : (L.take off).length = off := by simp; omega
  by_cases h1 : i < off
  · rw [if_neg (by omega), List.getElem?_append_left (by omega), List.getElem?_take, if_pos h1]
  · rw [List.getElem?_append_right (by omega), hl]
    by_cases h2 : i < off + cs.length
    · rw [if_pos (by omega), List.getElem?_append_left (by omega)]
    · rw [if_neg (by omega), List.getElem?_append_right (by omega), List.getElem?_drop]
      congr 2
      omega

theorem reachK_copy (med : List Nat) (b : Nat) (bytes : List Nat) (pick K n : Nat) (h : pick.testBit K = true) (hK : K < 4) (hb : b < n) (hm : med.length = 256 * n) (hl : bytes.length = 256) :
    reachK med b bytes pick (K + 1) = splice (reachK med b bytes pick K) (b * 256 + K * 64) ((bytes.drop (K * 64)).take 64) := by
  have hcs : ((bytes.drop (K * 64)).take 64).length = 64 := by simp; omega
  have hf : b * 256 + K * 64 + ((bytes.drop (K * 64)).take 64).length ≤ (reachK med b bytes pick K).length := by rw [hcs, reachK_length, hm]; omega
  refine ext_getD (by rw [reachK_length, length_splice _ _ _ hf, reachK_length]) fun i hi => ?_
  rw [reachK_length] at hi
  rw [splice_getD _ _ _ _ hf, reachK_getD _ _ _ _ _ _ hi, reachK_getD _ _ _ _ _ _ hi, hcs]
  by_cases h1 : b * 256 + K * 64 ≤ i ∧ i < b * 256 + K * 64 + 64
  · have h2 : i % 256 / 64 = K := by omega
    rw [if_pos h1, if_pos ⟨by omega, by omega, by rw [h2]; exact h⟩]
    have h3 : i - (b * 256 + K * 64) < 64 := by omega
    simp only [List.getD_eq_getElem?_getD, List.getElem?_take, if_pos h3, List.getElem?_drop]
    congr 2
    omega
  · rw [if_neg h1]
    have : (i / 256 = b ∧ i % 256 / 64 < K + 1 ∧ pick.testBit (i % 256 / 64) = true) ↔ (i / 256 = b ∧ i % 256 / 64 < K ∧ pick.testBit (i % 256 / 64) = true) := by
      constructor
      · rintro ⟨a1, a2, a3⟩; exact ⟨a1, by omega, a3⟩
      · rintro ⟨a1, a2, a3⟩; exact ⟨a1, by omega, a3⟩
    simp only [this]

theorem cellsB_splice (L : List Nat) (off : Nat) (cs : List Nat) : splice (cellsB L) off (cellsB cs) = cellsB (splice L off cs) := by
  simp [splice, cellsB]

theorem mem_getD {l : List Nat} {x : Nat} (h : x ∈ l) : ∃ i, i < l.length ∧ l.getD i 0 = x := by
  obtain ⟨i, hi, rfl⟩ := List.getElem_of_mem h
  exact ⟨i, hi, by simp [List.getD_eq_getElem?_getD, hi]⟩

theorem reachK_lt (med : List Nat) (b : Nat) (bytes : List Nat) (pick K : Nat) (h : ∀ x ∈ med, x < 256) (hb : ∀ x ∈ bytes, x < 256) : ∀ x ∈ reachK med b bytes pick K, x < 256 := by
  intro x hx
  obtain ⟨i, hi, rfl⟩ := mem_getD hx
  rw [reachK_length] at hi
  rw [reachK_getD _ _ _ _ _ _ hi]
  split
  · exact getD_lt hb _
  · exact getD_lt h _

/-- The pending writes reach the medium, with their picks. -/
def settleL (med : List Nat) : List (Nat × List Nat) → List Nat → List Nat
  | w :: ps, k :: ks => settleL (reachL med w.1 w.2 k) ps ks
  | _, _ => med

theorem settleL_length (med : List Nat) (ps : List (Nat × List Nat)) (ks : List Nat) : (settleL med ps ks).length = med.length := by
  induction ps generalizing med ks with
  | nil => simp [settleL]
  | cons w ps ih =>
    cases ks with
    | nil => simp [settleL]
    | cons k ks => rw [settleL, ih, reachL_length]

theorem settleL_lt (med : List Nat) (ps : List (Nat × List Nat)) (ks : List Nat) (h : ∀ x ∈ med, x < 256) (hp : ∀ p ∈ ps, ∀ y ∈ p.2, y < 256) : ∀ x ∈ settleL med ps ks, x < 256 := by
  induction ps generalizing med ks with
  | nil => simpa [settleL] using h
  | cons w ps ih =>
    cases ks with
    | nil => simpa [settleL] using h
    | cons k ks =>
      rw [settleL]
      exact ih _ _ (reachK_lt _ _ _ _ _ h (hp w (by simp))) (fun p hp' => hp p (by simp [hp']))

/-- One more write reaches it. -/
theorem settleL_take (med : List Nat) (ps : List (Nat × List Nat)) (ks : List Nat) (i : Nat) (h1 : i < ps.length) (h2 : i < ks.length) :
    settleL med (ps.take (i + 1)) (ks.take (i + 1)) = reachL (settleL med (ps.take i) (ks.take i)) (ps[i]).1 (ps[i]).2 (ks.getD i 0) := by
  induction ps generalizing med ks i with
  | nil => simp at h1
  | cons w ps ih =>
    cases ks with
    | nil => simp at h2
    | cons k ks =>
      cases i with
      | zero => simp [settleL]
      | succ i =>
        simp only [List.take_succ_cons, settleL]
        rw [ih _ _ _ (by simpa using h1) (by simpa using h2)]
        simp

theorem settleL_min (med : List Nat) (ps : List (Nat × List Nat)) (ks : List Nat) : settleL med (ps.take (min ps.length ks.length)) (ks.take (min ps.length ks.length)) = settleL med ps ks := by
  induction ps generalizing med ks with
  | nil => simp [settleL]
  | cons w ps ih =>
    cases ks with
    | nil => simp [settleL]
    | cons k ks =>
      have e : min (w :: ps).length (k :: ks).length = min ps.length ks.length + 1 := by simp
      rw [e]
      simp only [List.take_succ_cons, settleL]
      exact ih _ _

def crashed (s : St) (picks : List Nat) : St := { med := settleL s.med s.pend picks, pend := [], left := 0, picks := [], ops := s.ops, on := false }

/-- An operation is counted; the power may go in its midst. -/
def operS (s : St) : St × Int :=
  if s.left = 0 then ({ s with ops := s.ops + 1 }, 0)
  else if s.left = 1 then (crashed { s with ops := s.ops + 1 } s.picks, 5)
  else ({ s with ops := s.ops + 1, left := s.left - 1 }, 0)

def inS (n : Nat) (i : Int) : Bool := decide (0 ≤ i ∧ i < (n : Int))

def lastW : List (Nat × List Nat) → Nat → Option (List Nat)
  | [], _ => none
  | w :: ps, i => match lastW ps i with
    | some l => some l
    | none => if w.1 = i then some w.2 else none

def blockL (med : List Nat) (i : Nat) : List Nat := (med.drop (256 * i)).take 256

def readL (s : St) (i : Nat) : List Nat := (lastW s.pend i).getD (blockL s.med i)

def readS (s : St) (n : Nat) (i : Int) : List Nat × Int := if s.on = false then ([], 5) else if inS n i = false then ([], 30) else (readL s i.toNat, 0)

def writeS (s : St) (n : Nat) (i : Int) (b : List Nat) : St × Int :=
  if s.on = false then (s, 5) else if inS n i = false then (s, 30) else if b.length ≠ 256 then (s, 31) else operS { s with pend := s.pend ++ [(i.toNat, b)] }

def flushS (s : St) : St × Int :=
  if s.on = false then (s, 5) else if (operS s).2 ≠ 0 then operS s else ({ (operS s).1 with med := settleL s.med s.pend (List.replicate s.pend.length 15), pend := [] }, 0)

def armS (s : St) (n : Int) (picks : List Nat) : St × Int :=
  if s.on = false then (s, 5) else if n < 0 then (s, 1) else if n = 0 then ({ s with left := 0, picks := [] }, 0) else ({ s with left := n.toNat, picks := picks }, 0)

def crashS (s : St) (picks : List Nat) : St × Int := if s.on = false then (s, 5) else (crashed s picks, 0)

def restartS (s : St) : St × Int := if s.on = true then (s, 7) else ({ s with on := true }, 0)

theorem St.Ok.med {s : St} {n : Nat} (h : s.Ok n) {m : List Nat} (hl : m.length = s.med.length) (hx : ∀ x ∈ m, x < 256) : ({ s with med := m } : St).Ok n :=
  ⟨hl.trans h.len, h.n1, h.n2, hx, h.pend, h.left, h.picks⟩

theorem St.Ok.crashed {s : St} {n : Nat} (h : s.Ok n) (picks : List Nat) : (crashed s picks).Ok n :=
  ⟨(settleL_length _ _ _).trans h.len, h.n1, h.n2, settleL_lt _ _ _ h.lt (fun p hp => (h.pend p hp).2.2), by simp [Attic.crashed], by simp [Attic.crashed], by simp [Attic.crashed]⟩

end Go.Attic

namespace Go.Proofs.YtjhbljkoapbkfaaGreat
open Go.RowKit Go.Attic
theorem Tryz.info131 : (Tryz.prog.info? 131).map (fun i => (i.zero, i.size, i.bytes)) = some (some (.agg #[.int .i64 0, .slice none 0 0]), 2, 32) := by kernel_rfl

theorem ret_int {k : IntKind} {a b : Int} (h : a = b) : Ending.returned (.int k a) = .returned (.int k b) := by rw [h]
theorem ret_bool {a b : Bool} (h : a = b) : Ending.returned (.bool a) = .returned (.bool b) := by rw [h]

/-- Pending writes as cells: a number and a slice each. -/
def cellsW (ps : List (Nat × List Nat)) (vs : List Value) : List Value := (ps.zip vs).flatMap fun x => [Value.int .i64 (x.1.1 : Int), x.2]

/-- The writes ps, whose bytes the slices vs have, stand in the row v; its block is p; the bytes lie in F, and not in that block. -/
structure Ws (e : TypeId) (w : World) (p : Option Nat) (F : Nat → Prop) (v : Value) (ps : List (Nat × List Nat)) (vs : List Value) : Prop where
  row : w.ownsRow 0 e 2 v ps.length (cellsW ps vs)
  own : v.ownBlock = p
  len : vs.length = ps.length
  pF : ∀ b, p = some b → F b
  bs : ∀ i (hi : i < ps.length) (hv : i < vs.length), Bs w vs[i] (ps[i]).2 ∧ ∀ b, vs[i].ownBlock = some b → F b ∧ p ≠ some b

/-- A disk stands in block g, its medium in block m, its pending writes in block p; what else it reads lies in F. -/
structure Dk (w : World) (g m : Nat) (p : Option Nat) (F : Nat → Prop) (n : Nat) (s : St) : Prop where
  c0 : ∃ cap, w.cell? ⟨g, 0, none⟩ = some (.slice (some ⟨m, 0, none⟩) s.med.length cap) ∧ w.ownsRow 0 5 1 (.slice (some ⟨m, 0, none⟩) s.med.length cap) s.med.length (cellsB s.med)
  c1 : ∃ v vs, w.cell? ⟨g, 1, none⟩ = some v ∧ Ws 131 w p F v s.pend vs
  c2 : w.cell? ⟨g, 2, none⟩ = some (.int .i64 (s.left : Int))
  c3 : ∃ v, w.cell? ⟨g, 3, none⟩ = some v ∧ Bs w v s.picks ∧ ∀ b, v.ownBlock = some b → F b ∧ p ≠ some b
  c4 : w.cell? ⟨g, 4, none⟩ = some (.int .i64 (s.ops : Int))
  c5 : w.cell? ⟨g, 5, none⟩ = some (.bool s.on)
  f0 : w.frozen? ⟨g, 0, none⟩ = false
  f1 : w.frozen? ⟨g, 1, none⟩ = false
  f2 : w.frozen? ⟨g, 2, none⟩ = false
  f3 : w.frozen? ⟨g, 3, none⟩ = false
  f4 : w.frozen? ⟨g, 4, none⟩ = false
  f5 : w.frozen? ⟨g, 5, none⟩ = false
  ne : g ≠ m
  Fg : ¬ F g
  Fm : ¬ F m
  Fl : ∀ k, F k → k < w.heap.size
  ok : s.Ok n

theorem Dk.gl {w : World} {g m : Nat} {p : Option Nat} {F : Nat → Prop} {n : Nat} {s : St} (h : Dk w g m p F n s) : g < w.heap.size := by
  have := World.block_lt_of_cell? w _ h.c2; simpa using this
theorem Dk.ml {w : World} {g m : Nat} {p : Option Nat} {F : Nat → Prop} {n : Nat} {s : St} (h : Dk w g m p F n s) : m < w.heap.size := by
  obtain ⟨cap, _, h2⟩ := h.c0
  exact owns_lt' h2 m rfl

theorem Ws.keeps {e : TypeId} {w w' : World} {p : Option Nat} {F S : Nat → Prop} {v : Value} {ps : List (Nat × List Nat)} {vs : List Value} (h : Ws e w p F v ps vs) (hk : Keeps S w w') (hS : ∀ k, F k → ¬ S k) : Ws e w' p F v ps vs :=
  ⟨hk.owns h.row (fun b hb => hS b (h.pF b (h.own ▸ hb))), h.own, h.len, h.pF, fun i hi hv => ⟨hk.bs (h.bs i hi hv).1 (fun b hb => hS b ((h.bs i hi hv).2 b hb).1), (h.bs i hi hv).2⟩⟩

/-- What nobody of it turns leaves a disk as it is. -/
theorem Dk.keeps {w w' : World} {g m : Nat} {p : Option Nat} {F S : Nat → Prop} {n : Nat} {s : St} (h : Dk w g m p F n s) (hk : Keeps S w w') (hg : ¬ S g) (hm : ¬ S m) (hS : ∀ k, F k → ¬ S k) : Dk w' g m p F n s := by
  obtain ⟨cap, a1, a2⟩ := h.c0
  obtain ⟨v, vs, b1, b2⟩ := h.c1
  obtain ⟨v3, d1, d2, d3⟩ := h.c3
  have hl := h.gl
  exact ⟨⟨cap, hk.cell a1 hg, hk.owns a2 (fun b hb => by cases hb; exact hm)⟩, ⟨v, vs, hk.cell b1 hg, b2.keeps hk hS⟩, hk.cell h.c2 hg, ⟨v3, hk.cell d1 hg, hk.bs d2 (fun b hb => hS b (d3 b hb).1), d3⟩, hk.cell h.c4 hg, hk.cell h.c5 hg,
    by rw [hk.frozen (a := ⟨g, 0, none⟩) hl hg]; exact h.f0, by rw [hk.frozen (a := ⟨g, 1, none⟩) hl hg]; exact h.f1, by rw [hk.frozen (a := ⟨g, 2, none⟩) hl hg]; exact h.f2, by rw [hk.frozen (a := ⟨g, 3, none⟩) hl hg]; exact h.f3, by rw [hk.frozen (a := ⟨g, 4, none⟩) hl hg]; exact h.f4, by rw [hk.frozen (a := ⟨g, 5, none⟩) hl hg]; exact h.f5,
    h.ne, h.Fg, h.Fm, fun k hk' => Nat.lt_of_lt_of_le (h.Fl k hk') hk.size, h.ok⟩

theorem Dk.mono {w w' : World} {g m : Nat} {p : Option Nat} {F : Nat → Prop} {n : Nat} {s : St} (h : Dk w g m p F n s) (hb : Below w.heap.size w w') : Dk w' g m p F n s :=
  h.keeps (S := fun _ => False) (Keeps.of_below hb) id id (fun _ _ => id)

/-- All blocks of a disk. -/
def Own (g m : Nat) (F : Nat → Prop) (k : Nat) : Prop := k = g ∨ k = m ∨ F k

/-- What becomes of the disk in block g: its state is s; only blocks of its own have turned. -/
def Turn (w : World) (g m : Nat) (F : Nat → Prop) (n : Nat) (s : St) (w' : World) : Prop :=
  ∃ p' F', Dk w' g m p' F' n s ∧ Keeps (Own g m F) w w' ∧ ∀ k, F' k → F k ∨ w.heap.size ≤ k

theorem Turn.trans {w w1 w2 : World} {g m : Nat} {p1 : Option Nat} {F F1 : Nat → Prop} {n : Nat} {s1 s2 : St} (k1 : Keeps (Own g m F) w w1) (f1 : ∀ k, F1 k → F k ∨ w.heap.size ≤ k) (h2 : Turn w1 g m F1 n s2 w2) : Turn w g m F n s2 w2 := by
  obtain ⟨p', F', d2, k2, f2⟩ := h2
  refine ⟨p', F', d2, k1.trans' k2 ?_, ?_⟩
  · rintro k (h | h | h)
    · exact .inl (.inl h)
    · exact .inl (.inr (.inl h))
    · rcases f1 k h with h | h
      · exact .inl (.inr (.inr h))
      · exact .inr h
  · intro k hk
    have := k1.size
    rcases f2 k hk with h | h
    · exact f1 k h
    · exact .inr (by omega)

theorem sizeB_def (n : Int) : True := trivial

set_option maxHeartbeats 400000 in
theorem isSize_any (n : Int) (w : World) : Calls Tryz.prog 41 #[.int .i64 n] w fun e w' => e = .returned (.bool (decide (1 ≤ n ∧ n ≤ 2048))) ∧ w = w' := by
  by_cases h1 : 1 ≤ n
  · by_cases h2 : n ≤ 2048
    · have h3 : decide (1 ≤ n ∧ n ≤ 2048) = true := by simp [h1, h2]
      rw [h3]; clear h3
      go_enter Tryz.func41, Tryz.ntmps41
      go_wp2
      go_ret
      exact ⟨by simp, rfl⟩
    · have h3 : decide (1 ≤ n ∧ n ≤ 2048) = false := by simp; omega
      rw [h3]; clear h3
      go_enter Tryz.func41, Tryz.ntmps41
      go_wp2
      go_ret
      exact ⟨by simp, rfl⟩
  · have h3 : decide (1 ≤ n ∧ n ≤ 2048) = false := by simp; omega
    rw [h3]; clear h3
    go_enter Tryz.func41, Tryz.ntmps41
    go_wp2
    go_ret
    exact ⟨by simp, rfl⟩

set_option maxRecDepth 100000 in
set_option maxHeartbeats 400000 in
theorem isMade_yes {w : World} {g m : Nat} {p : Option Nat} {F : Nat → Prop} {n : Nat} {s : St} (h : Dk w g m p F n s) :
    Calls Tryz.prog 62 #[.pointer (some ⟨g, 0, none⟩)] w fun e w' => e = .returned (.bool true) ∧ w = w' := by
  obtain ⟨cap, c0, _⟩ := h.c0
  have hl := h.ok.len
  have hn := h.ok.n1
  have hp : 0 < s.med.length := by omega
  clear h hl hn
  go_enter Tryz.func62, Tryz.ntmps62
  go_wp2
  go_ret
  exact ⟨by simp, rfl⟩

set_option maxRecDepth 100000 in
set_option maxHeartbeats 400000 in
theorem powered_yes {w : World} {g m : Nat} {p : Option Nat} {F : Nat → Prop} {n : Nat} {s : St} (h : Dk w g m p F n s) :
    Calls Tryz.prog 58 #[.pointer (some ⟨g, 0, none⟩)] w fun e w' => e = .returned (.int .i64 (if s.on = false then 5 else 0)) ∧ w = w' := by
  have c5 := h.c5
  cases hon : s.on with
  | true =>
    rw [hon] at c5
    rw [if_neg (by simp)]
    go_enter Tryz.func58, Tryz.ntmps58
    go_wp2_with fail
    refine (isMade_yes h).mono ?_
    rintro e w' ⟨rfl, rfl⟩
    go_wp2
    go_ret
    exact ⟨by simp, rfl⟩
  | false =>
    rw [hon] at c5
    rw [if_pos rfl]
    go_enter Tryz.func58, Tryz.ntmps58
    go_wp2_with fail
    refine (isMade_yes h).mono ?_
    rintro e w' ⟨rfl, rfl⟩
    go_wp2
    go_ret
    exact ⟨by simp, rfl⟩

set_option maxRecDepth 100000 in
set_option maxHeartbeats 400000 in
theorem len_yes {w : World} {g m : Nat} {p : Option Nat} {F : Nat → Prop} {n : Nat} {s : St} (h : Dk w g m p F n s) :
    Calls Tryz.prog 43 #[.pointer (some ⟨g, 0, none⟩)] w fun e w' => e = .returned (.int .i64 (n : Int)) ∧ w = w' := by
  obtain ⟨cap, c0, _⟩ := h.c0
  have hl := h.ok.len
  have hn := h.ok.n2
  rw [hl] at c0
  go_enter Tryz.func43, Tryz.ntmps43
  go_wp2_with fail
  refine (isMade_yes h).mono ?_
  rintro e w' ⟨rfl, rfl⟩
  go_wp2
  go_ret
  exact ⟨ret_int (by omega), rfl⟩

/-- What stands against a call that needs the power and a block. -/
def findS (s : St) (n : Nat) (i : Int) : Int := if s.on = false then 5 else if inS n i = false then 30 else 0

set_option maxRecDepth 100000 in
set_option maxHeartbeats 400000 in
theorem findable_yes {w : World} {g m : Nat} {p : Option Nat} {F : Nat → Prop} {n : Nat} {s : St} (i : Int) (h : Dk w g m p F n s) :
    Calls Tryz.prog 83 #[.pointer (some ⟨g, 0, none⟩), .int .i64 i] w fun e w' => e = .returned (.int .i64 (findS s n i)) ∧ w = w' := by
  have hp := powered_yes h
  cases hon : s.on with
  | false =>
    have e : findS s n i = 5 := by simp [findS, hon]
    rw [e]; clear e
    rw [hon] at hp
    go_enter Tryz.func83, Tryz.ntmps83
    go_wp2_with fail
    refine hp.mono ?_
    rintro e w' ⟨rfl, rfl⟩
    go_wp2
    go_ret
    exact ⟨by simp, rfl⟩
  | true =>
    rw [hon] at hp
    by_cases h1 : i < 0
    · have e : findS s n i = 30 := by simp [findS, hon, inS]; omega
      rw [e]; clear e
      go_enter Tryz.func83, Tryz.ntmps83
      go_wp2_with fail
      refine hp.mono ?_
      rintro e w' ⟨rfl, rfl⟩
      go_wp2
      go_ret
      exact ⟨by simp, rfl⟩
    · by_cases h2 : i < (n : Int)
      · have e : findS s n i = 0 := by simp [findS, hon, inS]; omega
        rw [e]; clear e
        go_enter Tryz.func83, Tryz.ntmps83
        go_wp2_with fail
        refine hp.mono ?_
        rintro e w' ⟨rfl, rfl⟩
        go_wp2_with fail
        refine (len_yes h).mono ?_
        rintro e w' ⟨rfl, rfl⟩
        go_wp2
        go_ret
        exact ⟨by simp, rfl⟩
      · have e : findS s n i = 30 := by simp [findS, hon, inS]; omega
        rw [e]; clear e
        go_enter Tryz.func83, Tryz.ntmps83
        go_wp2_with fail
        refine hp.mono ?_
        rintro e w' ⟨rfl, rfl⟩
        go_wp2_with fail
        refine (len_yes h).mono ?_
        rintro e w' ⟨rfl, rfl⟩
        go_wp2
        go_ret
        exact ⟨by simp, rfl⟩

set_option maxRecDepth 100000 in
set_option maxHeartbeats 400000 in
theorem own_any (v : Value) (l : List Nat) (w : World) (h : Bs w v l) (hlen : l.length ≤ 140737488355328) :
    Calls Tryz.prog 59 #[v] w (NewBs w l) := by
  obtain ⟨i0, hi, hz0, hz1, hz2⟩ := info_parts Tryz.info5
  go_enter Tryz.func59, Tryz.ntmps59
  go_wp2_with (at_builtin; refine wpList_append_bs _ rfl (.const (.slice none 0 0)) (.tmp 3) 30 rfl w.heap.size 5 i0 (.int .u8 0) Tryz.underlying30 hi hz0 hz1 hz2 rfl _ 0 [] rfl (World.ownsRow_nil _ _ _ _) _ l rfl h (by omega) (Nat.le_refl _) ?_; intro v' w1 hown hgrow)
  have hb : Below w.heap.size w w1 := (Below.refl _ _).grown hgrow (Nat.le_refl _) (by intro k hk; cases hk)
  rw [Nat.zero_add, List.nil_append] at hown
  go_ret
  exact ⟨_, rfl, hown, hb⟩

theorem Dk.medBs {w : World} {g m : Nat} {p : Option Nat} {F : Nat → Prop} {n : Nat} {s : St} (h : Dk w g m p F n s) : ∃ cap, w.cell? ⟨g, 0, none⟩ = some (.slice (some ⟨m, 0, none⟩) s.med.length cap) ∧ Bs w (.slice (some ⟨m, 0, none⟩) s.med.length cap) s.med := by
  obtain ⟨cap, c0, ho⟩ := h.c0
  exact ⟨cap, c0, Bs.of_owns ho h.ok.lt⟩



end Go.Proofs.YtjhbljkoapbkfaaGreat
