/- What a log's sectors are behind what is laid. No function of the program is called here. -/
import Derived.Test.YtjhbljkoapbkfaaL5
set_option linter.unusedSimpArgs false
set_option linter.unusedVariables false
namespace Go.Proofs.Ytjhbljkoapbkfaa
open Go.RowKit Go.Attic Go.Shelf

theorem blockL_getD (med : List Nat) (i j : Nat) (hj : j < 256) : (blockL med i).getD j 0 = med.getD (256 * i + j) 0 := by
  simp [blockL, List.getD_eq_getElem?_getD, List.getElem?_take, hj, List.getElem?_drop]
theorem blockL_length (med : List Nat) (i n : Nat) (hi : i < n) (hl : med.length = 256 * n) : (blockL med i).length = 256 := by
  simp [blockL]; omega

theorem testBit15 (k : Nat) (hk : k < 4) : (15 : Nat).testBit k = true := by
  match k, hk with
  | 0, _ => rfl
  | 1, _ => rfl
  | 2, _ => rfl
  | 3, _ => rfl

theorem blockL_reach (med : List Nat) (b : Nat) (bytes : List Nat) (i n : Nat) (hi : i < n) (hl : med.length = 256 * n) (hb : bytes.length = 256) : blockL (reachL med b bytes 15) i = if b = i then bytes else blockL med i := by
  have hlen : (blockL (reachL med b bytes 15) i).length = 256 := blockL_length _ _ n hi (by rw [reachL_length, hl])
  refine ext_getD ?_ fun j hj => ?_
  · rw [hlen]
    split
    · exact hb.symm
    · exact (blockL_length _ _ n hi hl).symm
  · rw [hlen] at hj
    rw [blockL_getD _ _ _ hj]
    unfold reachL
    rw [reachK_getD _ _ _ _ _ _ (by omega)]
    have e1 : (256 * i + j) / 256 = i := by omega
    have e2 : (256 * i + j) % 256 = j := by omega
    rw [e1, e2]
    by_cases h : b = i
    · rw [if_pos h, if_pos ⟨h.symm, by omega, testBit15 _ (by omega)⟩]
    · rw [if_neg h, if_neg (by intro hh; exact h hh.1.symm), blockL_getD _ _ _ hj]

theorem blockL_settle (ps : List (Nat × List Nat)) (med : List Nat) (i n : Nat) (hi : i < n) (hl : med.length = 256 * n) (hp : ∀ x ∈ ps, x.2.length = 256) : blockL (settleL med ps (List.replicate ps.length 15)) i = (lastW ps i).getD (blockL med i) := by
  induction ps generalizing med with
  | nil => simp [settleL, lastW]
  | cons x ps ih =>
    simp only [List.length_cons, List.replicate_succ, settleL]
    rw [ih _ (by rw [reachL_length, hl]) (fun y hy => hp y (by simp [hy])), blockL_reach _ _ _ _ n hi hl (hp x (by simp))]
    simp only [lastW]
    cases lastW ps i with
    | some l => rfl
    | none =>
      by_cases h : x.1 = i
      · simp [h]
      · simp [h]

theorem readL_push (s : St) (o b : Nat) (x : List Nat) (i : Nat) : readL { s with ops := o, pend := s.pend ++ [(b, x)] } i = if b = i then x else readL s i := by
  simp only [readL, lastW_append]
  split <;> simp_all

theorem secOf_getD (bytes : List Nat) (m i : Nat) (hi : i < 64) : (secOf bytes m).getD i 0 = bytes.getD (m % 4 * 64 + i) 0 := by
  simp [secOf, List.getD_eq_getElem?_getD, List.getElem?_take, hi, List.getElem?_drop]
theorem secOf_mod (bytes : List Nat) (m : Nat) : secOf bytes (m % 4) = secOf bytes m := by simp [secOf]
theorem secOf_splice (bytes sec : List Nat) (t m : Nat) (hb : bytes.length = 256) (hs : sec.length = 64) : secOf (splice bytes (t % 4 * 64) sec) m = if t % 4 = m % 4 then sec else secOf bytes m := by
  have hl : (splice bytes (t % 4 * 64) sec).length = 256 := by rw [length_splice _ _ _ (by omega)]; exact hb
  have h64 : ∀ m', (secOf bytes m').length = 64 := fun m' => secOf_length hb m'
  have h2 := secOf_length hl m
  refine ext_getD (by rw [h2]; split; exact hs.symm; exact (h64 _).symm) fun i hi => ?_
  rw [h2] at hi
  rw [secOf_getD _ _ _ hi, splice_getD _ _ _ _ (by omega)]
  by_cases he : t % 4 = m % 4
  · rw [if_pos he, if_pos (by omega)]
    congr 1; omega
  · rw [if_neg he, if_neg (by omega), secOf_getD _ _ _ hi]

theorem secOf_layB (rs : List Rc) (bytes : List Nat) (t : Nat) (hb : bytes.length = 256) (hok : ∀ r ∈ rs, okRc r) (h4 : t % 4 + rs.length ≤ 4) :
    (∀ i (h : i < rs.length), secOf (layB bytes t rs) (t + i) = secRc (t + i) rs[i]) ∧ ∀ m, (∀ i, i < rs.length → (t + i) % 4 ≠ m % 4) → secOf (layB bytes t rs) m = secOf bytes m := by
  induction rs generalizing bytes t with
  | nil => exact ⟨fun i h => by simp at h, fun m _ => rfl⟩
  | cons r rs ih =>
    have hs := secRc_length (n := t) (hok r (by simp))
    have hl : (splice bytes (t % 4 * 64) (secRc t r)).length = 256 := by rw [length_splice _ _ _ (by omega)]; exact hb
    simp only [List.length_cons] at h4
    have h4' : (t + 1) % 4 + rs.length ≤ 4 := by
      rcases Nat.eq_zero_or_pos rs.length with h0 | h0 <;> omega
    obtain ⟨i1, i2⟩ := ih (splice bytes (t % 4 * 64) (secRc t r)) (t + 1) hl (fun x hx => hok x (by simp [hx])) h4'
    refine ⟨fun i hi => ?_, fun m hm => ?_⟩
    · cases i with
      | zero =>
        show secOf (layB (splice bytes (t % 4 * 64) (secRc t r)) (t + 1) rs) t = _
        rw [i2 t (fun j hj => by simp only [List.length_cons] at hi; omega), secOf_splice _ _ _ _ hb hs, if_pos rfl]
        rfl
      | succ i =>
        have := i1 i (by simpa using hi)
        simp only [List.getElem_cons_succ]
        rw [show t + (i + 1) = t + 1 + i by omega]
        exact this
    · show secOf (layB (splice bytes (t % 4 * 64) (secRc t r)) (t + 1) rs) m = _
      rw [i2 m (fun j hj => by have := hm (j + 1) (by simp; omega); rw [show t + 1 + j = t + (j + 1) by omega]; exact this), secOf_splice _ _ _ _ hb hs, if_neg (by have := hm 0 (by simp); simpa using this)]

theorem pos_eq (b m m' : Nat) : m % (4 * b) = m' % (4 * b) ↔ m / 4 % b = m' / 4 % b ∧ m % 4 = m' % 4 := by
  rw [Nat.mod_mul, Nat.mod_mul]
  constructor
  · intro h; constructor <;> omega
  · rintro ⟨h1, h2⟩; rw [h1, h2]

theorem mod_ne (b x y : Nat) (h1 : x < y) (h2 : y < x + b) : x % b ≠ y % b := by
  intro h
  have hb : 0 < b := by omega
  have e1 := Nat.div_add_mod x b
  have e2 := Nat.div_add_mod y b
  have : b * (y / b) - b * (x / b) = y - x := by omega
  have h3 : b * (y / b) = b * (x / b) + (y - x) := by omega
  have h4 : x / b < y / b := by
    rcases Nat.lt_or_ge (x / b) (y / b) with h | h
    · exact h
    · have := Nat.mul_le_mul_left b h; omega
  have := Nat.mul_le_mul_left b h4
  rw [Nat.mul_succ] at this
  omega

theorem secAt_mod {s : St} {base blocks m m' : Nat} (h : m % (4 * blocks) = m' % (4 * blocks)) : secAt s base blocks m = secAt s base blocks m' := by
  obtain ⟨h1, h2⟩ := (pos_eq _ _ _).1 h
  unfold secAt secOf
  rw [h1, h2]

/-- A log laid on a disk that has the power and is not armed. -/
theorem lay_view {n base blocks : Nat} (hb1 : 1 ≤ blocks) (hfit : base + blocks ≤ n) : ∀ (f : Nat) (s : St) (t : Nat) (rs : List Rc), rs.length ≤ f → s.Ok n → s.on = true → s.left = 0 → (∀ r ∈ rs, okRc r) → (∀ r ∈ rs, ∀ x ∈ r.l, x < 256) → rs.length ≤ 4 * blocks →
    ∃ s', layN n base blocks f s t rs = (s', 0) ∧ s'.Ok n ∧ s'.on = true ∧ s'.left = 0 ∧ s'.med = s.med ∧ s'.pend.length ≤ s.pend.length + rs.length ∧ s'.ops ≤ s.ops + rs.length ∧
      (∀ i (h : i < rs.length), secAt s' base blocks (t + i) = secRc (t + i) rs[i]) ∧ ∀ m, (∀ i, i < rs.length → (t + i) % (4 * blocks) ≠ m % (4 * blocks)) → secAt s' base blocks m = secAt s base blocks m := by
  intro f
  induction f with
  | zero =>
    intro s t rs hf hs hon hl hok hlt hr
    have : rs = [] := List.eq_nil_of_length_eq_zero (by omega)
    subst this
    exact ⟨s, rfl, hs, hon, hl, rfl, by simp, by simp, fun i h => by simp at h, fun m _ => rfl⟩
  | succ f ih =>
    intro s t rs hf hs hon hl hok hlt hr
    by_cases h0 : rs.length = 0
    · have : rs = [] := List.eq_nil_of_length_eq_zero h0
      subst this
      exact ⟨s, layN_nil rfl, hs, hon, hl, rfl, by simp, by simp, fun i h => by simp at h, fun m _ => rfl⟩
    · obtain ⟨c, hc⟩ : ∃ c, min rs.length (4 - t % 4) = c := ⟨_, rfl⟩
      have hc1 : 1 ≤ c ∧ c ≤ rs.length ∧ t % 4 + c ≤ 4 := by omega
      obtain ⟨b0, hb0⟩ : ∃ b0, base + t / 4 % blocks = b0 := ⟨_, rfl⟩
      have hb0n : b0 < n := by have : t / 4 % blocks < blocks := Nat.mod_lt _ (by omega)
                               omega
      obtain ⟨hR1, hR2⟩ := readL_ok hs hb0n
      have htl : (rs.take c).length = c := by simp; omega
      have hok1 : ∀ r ∈ rs.take c, okRc r := fun r hr => hok r (List.mem_of_mem_take hr)
      have hlt1 : ∀ r ∈ rs.take c, ∀ x ∈ r.l, x < 256 := fun r hr => hlt r (List.mem_of_mem_take hr)
      have hxl := layB_length (readL s b0) t (rs.take c) hR1 hok1
      have hxlt := layB_lt (readL s b0) t (rs.take c) hR2 hok1 hlt1
      obtain ⟨k1, k2⟩ := secOf_layB (rs.take c) (readL s b0) t hR1 hok1 (by omega)
      obtain ⟨x, hx⟩ : ∃ x, layB (readL s b0) t (rs.take c) = x := ⟨_, rfl⟩
      rw [hx] at hxl hxlt k1 k2
      have hw : writeS s n ((b0 : Nat) : Int) x = ({ s with ops := s.ops + 1, pend := s.pend ++ [(b0, x)] }, 0) := by
        have hin : inS n (b0 : Int) = true := by simp [inS]; omega
        simp [writeS, hon, hin, hxl, operS, hl]
      have hgo := layN_go (n := n) (f := f) (base := base) (blocks := blocks) (t := t) (s := s) (rs := rs) (c := c) (b := x) (by omega) hon hc (by rw [hb0]; exact hx) (by rw [hb0, hw])
      rw [hb0, hw] at hgo
      have hs1 : ({ s with ops := s.ops + 1, pend := s.pend ++ [(b0, x)] } : St).Ok n := ⟨hs.len, hs.n1, hs.n2, hs.lt, fun y hy => by
        simp only [List.mem_append, List.mem_singleton] at hy
        rcases hy with hy | rfl
        · exact hs.pend y hy
        · exact ⟨hb0n, hxl, hxlt⟩, hs.left, hs.picks⟩
      obtain ⟨s', e1, e2, e3, e4, e5, e6, e7, e8, e9⟩ := ih { s with ops := s.ops + 1, pend := s.pend ++ [(b0, x)] } (t + c) (rs.drop c) (by simp; omega) hs1 hon hl (fun r hr => hok r (List.mem_of_mem_drop hr)) (fun r hr => hlt r (List.mem_of_mem_drop hr)) (by simp; omega)
      have hdl : (rs.drop c).length = rs.length - c := by simp
      have hview : ∀ m, secAt { s with ops := s.ops + 1, pend := s.pend ++ [(b0, x)] } base blocks m = if m / 4 % blocks = t / 4 % blocks then secOf x m else secAt s base blocks m := by
        intro m
        unfold secAt
        rw [readL_push]
        by_cases he : m / 4 % blocks = t / 4 % blocks
        · rw [if_pos he, if_pos (by omega)]
        · rw [if_neg he, if_neg (by omega)]
      refine ⟨s', by rw [hgo]; exact e1, e2, e3, e4, e5, ?_, ?_, ?_, ?_⟩
      · simp only [List.length_append, List.length_singleton] at e6; omega
      · simp only at e7; omega
      · intro i hi
        by_cases hic : i < c
        · rw [e9 (t + i) (fun j hj => (mod_ne _ _ _ (by omega) (by omega)).symm), hview, if_pos (by rw [show (t + i) / 4 = t / 4 by omega]), k1 i (by omega)]
          congr 1
          simp
        · have := e8 (i - c) (by omega)
          rw [show t + c + (i - c) = t + i by omega] at this
          rw [this]
          congr 1
          simp only [List.getElem_drop]
          congr 1
          omega
      · intro m hm
        rw [e9 m (fun j hj => by have := hm (c + j) (by omega); rw [show t + c + j = t + (c + j) by omega]; exact this), hview]
        by_cases he : m / 4 % blocks = t / 4 % blocks
        · rw [if_pos he, k2 m (fun i hi e => hm i (by omega) ((pos_eq _ _ _).2 ⟨by rw [show (t + i) / 4 = t / 4 by omega]; exact he.symm, e⟩))]
          unfold secAt
          rw [he, hb0]
        · rw [if_neg he]

end Go.Proofs.Ytjhbljkoapbkfaa
