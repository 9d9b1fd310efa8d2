/- What a disk reads, behind a write and behind a flush. -/
import Derived.Test.YtjcobealnjkkcaaG1
set_option linter.unusedSimpArgs false
set_option linter.unusedVariables false
namespace Go.Proofs.Ytjcobealnjkkcaa
open Go.RowKit Go.Attic

theorem blockL_getD (med : List Nat) (i j : Nat) (hj : j < 256) : (blockL med i).getD j 0 = med.getD (256 * i + j) 0 := by
  simp [blockL, List.getD_eq_getElem?_getD, List.getElem?_take, hj, List.getElem?_drop]
theorem blockL_length (med : List Nat) (i n : Nat) (hi : i < n) (hl : med.length = 256 * n) : (blockL med i).length = 256 := by
  simp [blockL]; omega

theorem testBit15 (k : Nat) (hk : k < 4) : (15 : Nat).testBit k = true := by
  match k, hk with
  | 0, _ => rfl
  | 1, _ => rfl
  | 2, _ => rfl
  | 3, _ => rfl

theorem blockL_reach (med : List Nat) (b : Nat) (bytes : List Nat) (i n : Nat) (hi : i < n) (hl : med.length = 256 * n) (hb : bytes.length = 256) : blockL (reachL med b bytes 15) i = if b = i then bytes else blockL med i := by
  have hlen : (blockL (reachL med b bytes 15) i).length = 256 := blockL_length _ _ n hi (by rw [reachL_length, hl])
  refine ext_getD ?_ fun j hj => ?_
  · rw [hlen]
    split
    · exact hb.symm
    · exact (blockL_length _ _ n hi hl).symm
  · rw [hlen] at hj
    rw [blockL_getD _ _ _ hj]
    unfold reachL
    rw [reachK_getD _ _ _ _ _ _ (by omega)]
    have e1 : (256 * i + j) / 256 = i := by omega
    have e2 : (256 * i + j) % 256 = j := by omega
    rw [e1, e2]
    by_cases h : b = i
    · rw [if_pos h, if_pos ⟨h.symm, by omega, testBit15 _ (by omega)⟩]
    · rw [if_neg h, if_neg (by intro hh; exact h hh.1.symm), blockL_getD _ _ _ hj]

theorem blockL_settle (ps : List (Nat × List Nat)) (med : List Nat) (i n : Nat) (hi : i < n) (hl : med.length = 256 * n) (hp : ∀ x ∈ ps, x.2.length = 256) : blockL (settleL med ps (List.replicate ps.length 15)) i = (lastW ps i).getD (blockL med i) := by
  induction ps generalizing med with
  | nil => simp [settleL, lastW]
  | cons x ps ih =>
    simp only [List.length_cons, List.replicate_succ, settleL]
    rw [ih _ (by rw [reachL_length, hl]) (fun y hy => hp y (by simp [hy])), blockL_reach _ _ _ _ n hi hl (hp x (by simp))]
    simp only [lastW]
    cases lastW ps i with
    | some l => rfl
    | none =>
      by_cases h : x.1 = i
      · simp [h]
      · simp [h]

theorem flushS_read {s : St} {n k : Nat} (hok : s.Ok n) (hc : Calm s k) (i : Nat) (hi : i < n) : readL (flushS s).1 i = readL s i := by
  have h1 := hc.on
  have h2 := hc.left
  have e : (flushS s).1 = { s with ops := s.ops + 1, med := settleL s.med s.pend (List.replicate s.pend.length 15), pend := [] } := by simp [flushS, operS, h1, h2]
  rw [e]
  simp only [readL, lastW, Option.getD_none]
  exact blockL_settle _ _ _ n hi hok.len (fun x hx => (hok.pend x hx).2.1)

theorem flushS_ok {s : St} {k : Nat} (hc : Calm s k) : (flushS s).2 = 0 := by
  have h1 := hc.on
  have h2 := hc.left
  simp [flushS, operS, h1, h2]

theorem writeS_ok {s : St} {n k : Nat} (hc : Calm s k) (i : Int) (b : List Nat) (h : (writeS s n i b).2 = 0) :
    inS n i = true ∧ b.length = 256 ∧ (writeS s n i b).1 = { s with pend := s.pend ++ [(i.toNat, b)], ops := s.ops + 1 } := by
  have h1 := hc.on
  have h2 := hc.left
  cases hin : inS n i with
  | false => simp [writeS, h1, hin] at h
  | true =>
    by_cases hb : b.length = 256
    · exact ⟨rfl, hb, by simp [writeS, h1, hin, hb, operS, h2]⟩
    · simp [writeS, h1, hin, hb] at h
theorem writeS_no {s : St} {n k : Nat} (hc : Calm s k) (i : Int) (b : List Nat) (h : (writeS s n i b).2 ≠ 0) : (writeS s n i b).1 = s := by
  have h1 := hc.on
  have h2 := hc.left
  cases hin : inS n i with
  | false => simp [writeS, h1, hin]
  | true =>
    by_cases hb : b.length = 256
    · exfalso; apply h; simp [writeS, h1, hin, hb, operS, h2]
    · simp [writeS, h1, hin, hb]

theorem readL_push (s : St) (i : Nat) (b : List Nat) (o j : Nat) : readL { s with pend := s.pend ++ [(i, b)], ops := o } j = if i = j then b else readL s j := by
  simp only [readL, lastW_append]
  split
  · rfl
  · rfl

theorem readS_calm {s : St} {n k : Nat} (hc : Calm s k) (i : Nat) (hi : i < n) : readS s n (i : Int) = (readL s i, 0) := by
  have h1 := hc.on
  simp [readS, h1, inS, hi]

theorem readL_length {s : St} {n : Nat} (hok : s.Ok n) (i : Nat) (hi : i < n) : (readL s i).length = 256 := by
  simp only [readL]
  have : ∀ ps : List (Nat × List Nat), (∀ x ∈ ps, x.2.length = 256) → ((lastW ps i).getD (blockL s.med i)).length = 256 := by
    intro ps
    induction ps with
    | nil => intro _; simpa [lastW] using blockL_length _ _ n hi hok.len
    | cons x ps ih =>
      intro h
      simp only [lastW]
      have := ih (fun y hy => h y (by simp [hy]))
      cases hl : lastW ps i with
      | some l => rw [hl] at this; exact this
      | none =>
        by_cases hx : x.1 = i
        · simpa [hx] using h x (by simp)
        · simpa [hx] using blockL_length _ _ n hi hok.len
  exact this _ (fun x hx => (hok.pend x hx).2.1)

theorem newS_read (n i : Nat) (hi : i < n) : readL (newS n) i = List.replicate 256 0 := by
  simp only [readL, newS, ofS, lastW, Option.getD_none]
  refine ext_getD ?_ fun j hj => ?_
  · rw [blockL_length _ _ n hi (by rw [List.length_replicate]; omega), List.length_replicate]
  · rw [blockL_length _ _ n hi (by rw [List.length_replicate]; omega)] at hj
    rw [blockL_getD _ _ _ hj]
    simp only [List.getD_eq_getElem?_getD, List.getElem?_replicate]
    rw [if_pos (by omega), if_pos hj]

end Go.Proofs.Ytjcobealnjkkcaa
