/- Which buffers are dirty, behind a block's coming in and a write. Pure but for its namespace. -/
import Derived.Test.YtjcmmigbkhiplaaL2
set_option linter.unusedSimpArgs false
set_option linter.unusedVariables false
namespace Go.Proofs.Ytjcmmigbkhiplaa
open Go.RowKit Go.Attic

def dirtyAt (A : List En) (j : Nat) : Bool := A.any fun x => x.i == j && x.d
def hasAt (A : List En) (j : Nat) : Bool := A.any fun x => x.i == j

theorem dirtyAt_has {A : List En} {j : Nat} (h : dirtyAt A j = true) : hasAt A j = true := by
  obtain ⟨x, hx, hd⟩ := List.any_eq_true.1 h
  exact List.any_eq_true.2 ⟨x, hx, by simp at hd; simp [hd.1]⟩
theorem dirtyAt_iff (A : List En) (j : Nat) : dirtyAt A j = true ↔ ∃ x ∈ A, x.i = j ∧ x.d = true := by
  unfold dirtyAt
  rw [List.any_eq_true]
  constructor
  · rintro ⟨x, hx, h⟩; exact ⟨x, hx, by simpa using h⟩
  · rintro ⟨x, hx, h⟩; exact ⟨x, hx, by simpa using h⟩

theorem same_en : ∀ {A : List En}, A.Pairwise (fun x y => x.i ≠ y.i) → ∀ {x y : En}, x ∈ A → y ∈ A → x.i = y.i → x = y
  | [], _, _, _, hx, _, _ => by simp at hx
  | a :: r, hp, x, y, hx, hy, h => by
    obtain ⟨h1, h2⟩ := List.pairwise_cons.1 hp
    rcases List.mem_cons.1 hx with ex | hx'
    · rcases List.mem_cons.1 hy with ey | hy'
      · rw [ex, ey]
      · exact absurd (ex ▸ h) (h1 y hy')
    · rcases List.mem_cons.1 hy with ey | hy'
      · exact absurd (ey ▸ h).symm (h1 x hx')
      · exact same_en h2 hx' hy' h

/-- What a block's coming in is made of. -/
theorem comeL_ok {room : Nat} {s : St} {A : List En} {i : Nat} {A1 : List En} {y : En} (h : comeL room s A i = (A1, y, 0)) :
    (y ∈ A ∧ y.i = i ∧ A1 = A.filter (fun x => x.i != i)) ∨
    ((∀ x ∈ A, x.i ≠ i) ∧ y = ⟨i, readL s i, false⟩ ∧ s.on = true ∧ ((A1 = A ∧ A.length < room) ∨ ∃ o ∈ A, o.d = false ∧ A1 = A.filter (fun x => x.i != o.i) ∧ room ≤ A.length)) := by
  unfold comeL at h
  cases hf : A.find? (fun x => x.i == i) with
  | some x =>
    rw [hf] at h
    simp only [Prod.mk.injEq, and_true] at h
    have h1 := List.mem_of_find?_eq_some hf
    have h2 := List.find?_some hf
    obtain ⟨rfl, rfl⟩ := h
    exact .inl ⟨h1, by simpa using h2, rfl⟩
  | none =>
    rw [hf] at h
    have hno : ∀ x ∈ A, x.i ≠ i := fun x hx e => by have := List.find?_eq_none.1 hf x hx; simp [e] at this
    simp only at h
    by_cases hr : room ≤ A.length
    · rw [if_pos hr] at h
      cases ho : A.find? (fun x => !x.d) with
      | none => rw [ho] at h; simp at h
      | some o =>
        rw [ho] at h
        have h1 := List.mem_of_find?_eq_some ho
        have h2 := List.find?_some ho
        cases hon : s.on with
        | false => simp [hon] at h
        | true =>
          simp only [hon, Bool.true_eq_false, if_false, Prod.mk.injEq, and_true] at h
          exact .inr ⟨hno, h.2.symm, rfl, .inr ⟨o, h1, by simpa using h2, h.1.symm, hr⟩⟩
    · rw [if_neg hr] at h
      cases hon : s.on with
      | false => simp [hon] at h
      | true =>
        simp only [hon, Bool.true_eq_false, if_false, Prod.mk.injEq, and_true] at h
        exact .inr ⟨hno, h.2.symm, rfl, .inl ⟨h.1.symm, by omega⟩⟩

theorem comeL_i {room : Nat} {s : St} {A : List En} {i : Nat} {A1 : List En} {y : En} (h : comeL room s A i = (A1, y, 0)) : y.i = i := by
  rcases comeL_ok h with ⟨_, h2, _⟩ | ⟨_, rfl, _⟩
  · exact h2
  · rfl

/-- Who stands there behind it: the newest one, and others that stood there. -/
theorem comeL_sub {room : Nat} {s : St} {A : List En} {i : Nat} {A1 : List En} {y : En} (h : comeL room s A i = (A1, y, 0)) : ∀ x ∈ A1, x ∈ A ∧ x.i ≠ i := by
  intro x hx
  rcases comeL_ok h with ⟨_, _, rfl⟩ | ⟨hno, _, _, ⟨rfl, _⟩ | ⟨o, _, _, rfl, _⟩⟩
  · have := List.mem_filter.1 hx; exact ⟨this.1, by simpa using this.2⟩
  · exact ⟨hx, hno x hx⟩
  · have := List.mem_filter.1 hx; exact ⟨this.1, hno x this.1⟩

theorem come_dirty {room : Nat} {s : St} {A : List En} {i : Nat} {A1 : List En} {y : En} (hA : A.Pairwise fun x y => x.i ≠ y.i) (h : comeL room s A i = (A1, y, 0)) (j : Nat) : dirtyAt (A1 ++ [y]) j = dirtyAt A j := by
  rw [Bool.eq_iff_iff, dirtyAt_iff, dirtyAt_iff]
  rcases comeL_ok h with ⟨hy, hyi, rfl⟩ | ⟨hno, rfl, _, ⟨rfl, _⟩ | ⟨o, ho, hod, rfl, _⟩⟩
  · constructor
    · rintro ⟨x, hx, hxj⟩
      rcases List.mem_append.1 hx with hm | hm
      · exact ⟨x, (List.mem_filter.1 hm).1, hxj⟩
      · obtain rfl : x = y := by simpa using hm
        exact ⟨x, hy, hxj⟩
    · rintro ⟨x, hx, hxj⟩
      by_cases e : x.i = i
      · have := same_en hA hx hy (e.trans hyi.symm)
        exact ⟨y, by simp, this ▸ hxj⟩
      · exact ⟨x, List.mem_append.2 (.inl (List.mem_filter.2 ⟨hx, by simpa using e⟩)), hxj⟩
  · constructor
    · rintro ⟨x, hx, hxj⟩
      rcases List.mem_append.1 hx with hm | hm
      · exact ⟨x, hm, hxj⟩
      · obtain rfl : x = ⟨i, readL s i, false⟩ := by simpa using hm
        simp at hxj
    · rintro ⟨x, hx, hxj⟩
      exact ⟨x, by simp [hx], hxj⟩
  · constructor
    · rintro ⟨x, hx, hxj⟩
      rcases List.mem_append.1 hx with hm | hm
      · exact ⟨x, (List.mem_filter.1 hm).1, hxj⟩
      · obtain rfl : x = ⟨i, readL s i, false⟩ := by simpa using hm
        simp at hxj
    · rintro ⟨x, hx, hxj⟩
      have hne : x.i ≠ o.i := fun e => by
        have := same_en hA hx ho e
        rw [this, hod] at hxj
        simp at hxj
      exact ⟨x, List.mem_append.2 (.inl (List.mem_filter.2 ⟨hx, by simpa using hne⟩)), hxj⟩

theorem putE_i (y : En) (off : Nat) (b : List Nat) : (putE y off b).i = y.i := by unfold putE; split <;> rfl
theorem dirtyAt_snoc (A : List En) (y : En) (j : Nat) : dirtyAt (A ++ [y]) j = (dirtyAt A j || (y.i == j && y.d)) := by
  simp [dirtyAt]
theorem put_dirty {room : Nat} {s : St} {A : List En} {i : Nat} {A1 : List En} {y : En} {off : Nat} {b : List Nat} (hA : A.Pairwise fun x y => x.i ≠ y.i) (h : comeL room s A i = (A1, y, 0)) (j : Nat) :
    dirtyAt (A1 ++ [putE y off b]) j = (dirtyAt A j || (!b.isEmpty && i == j)) := by
  have h1 := come_dirty hA h j
  have hi := comeL_i h
  cases b with
  | nil => simp only [putE, if_pos]; rw [h1]; simp
  | cons z b =>
    have e : putE y off (z :: b) = ⟨y.i, splice y.l off (z :: b), true⟩ := by unfold putE; rw [if_neg (by simp)]
    rw [e]
    rw [dirtyAt_snoc] at h1 ⊢
    simp only [List.isEmpty_cons, Bool.not_false, Bool.true_and, Bool.and_true]
    rw [← h1, hi]
    cases dirtyAt A1 j <;> cases (i == j) <;> simp

theorem range_dirty {A : List En} {n : Nat} (hA : A.Pairwise fun x y => x.i ≠ y.i) (hn : ∀ x ∈ A, x.i < n) : dirtyL A = ((List.range n).filter fun j => dirtyAt A j).map fun j : Nat => (j : Int) := by
  refine rise_one (sortN_rise (dirty_nodup hA)) ?_ fun z => ?_
  · unfold Rise
    rw [List.pairwise_map]
    exact (List.pairwise_lt_range.filter _).imp (fun h => by omega)
  · rw [dirtyL_mem]
    constructor
    · rintro ⟨x, hx, hd, rfl⟩
      exact List.mem_map.2 ⟨x.i, List.mem_filter.2 ⟨by simpa using hn x hx, (dirtyAt_iff _ _).2 ⟨x, hx, rfl, hd⟩⟩, rfl⟩
    · intro h
      obtain ⟨j, hj, rfl⟩ := List.mem_map.1 h
      obtain ⟨x, hx, hxi, hd⟩ := (dirtyAt_iff _ _).1 (List.mem_filter.1 hj).2
      exact ⟨x, hx, hd, by rw [hxi]⟩

theorem has_any_nat (A : List En) (j : Nat) : (A.any fun x => (x.i : Int) == (j : Int)) = hasAt A j := by
  unfold hasAt
  congr 1
  funext x
  rw [Bool.eq_iff_iff]; simp; omega

theorem readC_lt {room n : Nat} {s : St} {A : List En} {i : Int} (hn : ∀ x ∈ A, x.i < n) : ∀ x ∈ (readC room n s A i).1, x.i < n := by
  unfold readC
  split
  · exact hn
  · rename_i hin
    split
    · rename_i h0
      intro x hx
      have hc : comeL room s A i.toNat = ((comeL room s A i.toNat).1, (comeL room s A i.toNat).2.1, 0) := by rw [← h0]
      have hi : i.toNat < n := by simp [inS] at hin; omega
      rcases List.mem_append.1 hx with hm | hm
      · exact hn x (comeL_sub hc x hm).1
      · obtain rfl : x = (comeL room s A i.toNat).2.1 := by simpa using hm
        rw [comeL_i hc]; exact hi
    · exact hn
theorem writeC_lt {room n : Nat} {s : St} {A : List En} {i off : Int} {b : List Nat} (hn : ∀ x ∈ A, x.i < n) : ∀ x ∈ (writeC room n s A i off b).1, x.i < n := by
  unfold writeC
  split
  · exact hn
  · rename_i hin
    split
    · exact hn
    · split
      · rename_i h0
        intro x hx
        have hc : comeL room s A i.toNat = ((comeL room s A i.toNat).1, (comeL room s A i.toNat).2.1, 0) := by rw [← h0]
        have hi : i.toNat < n := by simp [inS] at hin; omega
        rcases List.mem_append.1 hx with hm | hm
        · exact hn x (comeL_sub hc x hm).1
        · obtain rfl : x = putE (comeL room s A i.toNat).2.1 off.toNat b := by simpa using hm
          rw [putE_i, comeL_i hc]; exact hi
      · exact hn
theorem readC_dirty {room n : Nat} {s : St} {A : List En} {i : Int} (hA : A.Pairwise fun x y => x.i ≠ y.i) (j : Nat) : dirtyAt (readC room n s A i).1 j = dirtyAt A j := by
  unfold readC
  split
  · rfl
  · split
    · rename_i h0
      exact come_dirty hA (by rw [← h0]) j
    · rfl
theorem writeC_dirty {room n : Nat} {s : St} {A : List En} {i : Nat} {off : Int} {b : List Nat} (hi : i < n) (hA : A.Pairwise fun x y => x.i ≠ y.i) (j : Nat) :
    dirtyAt (writeC room n s A (i : Int) off b).1 j = (dirtyAt A j || (decide ((writeC room n s A (i : Int) off b).2 = 0) && !b.isEmpty && i == j)) := by
  have hin : inS n (i : Int) = true := by simp [inS, hi]
  unfold writeC
  rw [if_neg (by simp [hin])]
  split
  · simp
  · split
    · rename_i h0
      rw [put_dirty (i := i) hA (by rw [← h0]; rfl) j]
      simp
    · rename_i h0
      have h1 : ¬ (comeL room s A i).2.2 = 0 := h0
      simp [h1]

end Go.Proofs.Ytjcmmigbkhiplaa
