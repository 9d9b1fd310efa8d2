/- What the cache answers is what was written: the buffers and the disk together hold one content. Pure but for its namespace. -/
import Derived.Test.YtjcmmigbkhiplaaCr
set_option linter.unusedSimpArgs false
set_option linter.unusedVariables false
namespace Go.Proofs.Ytjcmmigbkhiplaa
open Go.RowKit Go.Attic

/-- The content W of nine blocks: each buffer has it, and the disk has it of those that are not dirty. -/
structure Inv (s : St) (A : List En) (W : Nat → List Nat) : Prop where
  buf : ∀ x ∈ A, x.i < 9 ∧ x.l = W x.i
  dsk : ∀ i, i < 9 → dirtyAt A i = false → readL s i = W i

def upW (W : Nat → List Nat) (i off : Nat) (b : List Nat) : Nat → List Nat := fun j => if j = i then splice (W i) off b else W j
theorem upW_nil (W : Nat → List Nat) (i off : Nat) : upW W i off [] = W := by
  funext j
  unfold upW
  split
  · rename_i e; rw [e]; simp [splice]
  · rfl

theorem Inv.come {room : Nat} {s : St} {A : List En} {W : Nat → List Nat} {i : Nat} {A1 : List En} {y : En} (h : Inv s A W) (hA : A.Pairwise fun x y => x.i ≠ y.i) (hi : i < 9) (hc : comeL room s A i = (A1, y, 0)) : Inv s (A1 ++ [y]) W ∧ y.l = W i := by
  have hyl : y.l = W i := by
    rcases comeL_ok hc with ⟨hy, hyi, rfl⟩ | ⟨hno, rfl, _, _⟩
    · rw [(h.buf y hy).2, hyi]
    · refine h.dsk i hi ?_
      cases hd : dirtyAt A i with
      | false => rfl
      | true => obtain ⟨x, hx, hxi, _⟩ := (dirtyAt_iff _ _).1 hd; exact absurd hxi (hno x hx)
  refine ⟨⟨fun x hx => ?_, fun j hj hd => h.dsk j hj (by rw [← come_dirty hA hc j]; exact hd)⟩, hyl⟩
  rcases List.mem_append.1 hx with hm | hm
  · exact h.buf x (comeL_sub hc x hm).1
  · obtain rfl : x = y := by simpa using hm
    rw [comeL_i hc]; exact ⟨hi, hyl⟩

theorem Inv.put {room : Nat} {s : St} {A : List En} {W : Nat → List Nat} {i off : Nat} {b : List Nat} {A1 : List En} {y : En} (h : Inv s A W) (hA : A.Pairwise fun x y => x.i ≠ y.i) (hi : i < 9) (hc : comeL room s A i = (A1, y, 0)) : Inv s (A1 ++ [putE y off b]) (upW W i off b) := by
  obtain ⟨h1, h2⟩ := h.come hA hi hc
  have hyi := comeL_i hc
  have hpd := put_dirty (off := off) (b := b) hA hc
  refine ⟨fun x hx => ?_, fun j hj hd => ?_⟩
  · rcases List.mem_append.1 hx with hm | hm
    · have hxi := (comeL_sub hc x hm).2
      have := h1.buf x (by simp [hm])
      exact ⟨this.1, by unfold upW; rw [if_neg hxi]; exact this.2⟩
    · obtain rfl : x = putE y off b := by simpa using hm
      rw [putE_i, hyi]
      refine ⟨hi, ?_⟩
      unfold putE upW
      rw [if_pos rfl]
      by_cases hb : b = []
      · rw [if_pos hb, hb, h2]; simp [splice]
      · rw [if_neg hb, h2]
  · rw [hpd j] at hd
    cases hb : b with
    | nil =>
      rw [upW_nil]
      rw [hb] at hd
      exact h.dsk j hj (by simpa using hd)
    | cons z t =>
      rw [hb] at hd
      simp at hd
      unfold upW
      rw [if_neg (fun e => hd.2 e.symm)]
      exact h.dsk j hj hd.1

theorem Inv.read {room : Nat} {s : St} {A : List En} {W : Nat → List Nat} {i : Nat} (h : Inv s A W) (hA : A.Pairwise fun x y => x.i ≠ y.i) (hi : i < 9) :
    Inv s (readC room 9 s A (i : Int)).1 W ∧ ((readC room 9 s A (i : Int)).2.2 = 0 → (readC room 9 s A (i : Int)).2.1 = W i) := by
  have hin : inS 9 (i : Int) = true := by simp [inS]; omega
  unfold readC
  rw [if_neg (by simp [hin])]
  by_cases h0 : (comeL room s A (i : Int).toNat).2.2 = 0
  · rw [if_pos h0]
    obtain ⟨h1, h2⟩ := h.come (room := room) (i := i) (A1 := (comeL room s A (i : Int).toNat).1) (y := (comeL room s A (i : Int).toNat).2.1) hA hi (by rw [← h0]; rfl)
    exact ⟨h1, fun _ => h2⟩
  · rw [if_neg h0]
    exact ⟨h, fun e => absurd e h0⟩

theorem Inv.write {room : Nat} {s : St} {A : List En} {W : Nat → List Nat} {i : Nat} {off : Int} {b : List Nat} (h : Inv s A W) (hA : A.Pairwise fun x y => x.i ≠ y.i) (hi : i < 9) :
    ((writeC room 9 s A (i : Int) off b).2 ≠ 0 → Inv s (writeC room 9 s A (i : Int) off b).1 W) ∧
    ((writeC room 9 s A (i : Int) off b).2 = 0 → (0 ≤ off ∧ off ≤ 256 - (b.length : Int)) ∧ Inv s (writeC room 9 s A (i : Int) off b).1 (upW W i off.toNat b)) := by
  have hin : inS 9 (i : Int) = true := by simp [inS]; omega
  unfold writeC
  rw [if_neg (by simp [hin])]
  by_cases ho : off < 0 ∨ 256 - (b.length : Int) < off
  · rw [if_pos ho]
    exact ⟨fun _ => h, fun e => by simp at e⟩
  · rw [if_neg ho]
    by_cases h0 : (comeL room s A (i : Int).toNat).2.2 = 0
    · rw [if_pos h0]
      exact ⟨fun e => absurd rfl e, fun _ => ⟨by omega, h.put hA hi (by rw [← h0]; rfl)⟩⟩
    · rw [if_neg h0]
      exact ⟨fun _ => h, fun e => absurd e h0⟩

/-- Which errors there may be while the power is there: and full is full of dirty ones. -/
theorem come_errs {room : Nat} {s : St} {A : List En} {i : Nat} (hon : s.on = true) : (comeL room s A i).2.2 = 0 ∨ ((comeL room s A i).2.2 = 6 ∧ room ≤ (dirtyL A).length) := by
  unfold comeL
  cases hf : A.find? (fun x => x.i == i) with
  | some x => exact .inl rfl
  | none =>
    simp only
    by_cases hr : room ≤ A.length
    · rw [if_pos hr]
      cases ho : A.find? (fun x => !x.d) with
      | none =>
        refine .inr ⟨rfl, ?_⟩
        have hall : A.filter (fun x => x.d) = A := List.filter_eq_self.2 (fun x hx => by have := List.find?_eq_none.1 ho x hx; simpa using this)
        rw [dirtyL_len, hall]; exact hr
      | some o => simp [hon]
    · rw [if_neg hr]; simp [hon]
theorem read_errs {room : Nat} {s : St} {A : List En} {i : Nat} (hon : s.on = true) (hi : i < 9) : (readC room 9 s A (i : Int)).2.2 = 0 ∨ ((readC room 9 s A (i : Int)).2.2 = 6 ∧ room ≤ (dirtyL A).length) := by
  have hin : inS 9 (i : Int) = true := by simp [inS]; omega
  unfold readC
  rw [if_neg (by simp [hin])]
  rcases come_errs (room := room) (A := A) (i := (i : Int).toNat) hon with h | h
  · rw [if_pos h]; exact .inl rfl
  · rw [if_neg (by rw [h.1]; decide)]; exact .inr h
theorem write_errs {room : Nat} {s : St} {A : List En} {i : Nat} {off : Int} {b : List Nat} (hon : s.on = true) (hi : i < 9) : (writeC room 9 s A (i : Int) off b).2 = 0 ∨ (writeC room 9 s A (i : Int) off b).2 = 1 ∨ ((writeC room 9 s A (i : Int) off b).2 = 6 ∧ room ≤ (dirtyL A).length) := by
  have hin : inS 9 (i : Int) = true := by simp [inS]; omega
  unfold writeC
  rw [if_neg (by simp [hin])]
  by_cases ho : off < 0 ∨ 256 - (b.length : Int) < off
  · rw [if_pos ho]; exact .inr (.inl rfl)
  · rw [if_neg ho]
    rcases come_errs (room := room) (A := A) (i := (i : Int).toNat) hon with h | h
    · rw [if_pos h]; exact .inl rfl
    · rw [if_neg (by rw [h.1]; decide)]; exact .inr (.inr h)

/-! ### Clean -/
theorem calm_write {s : St} {k n i : Nat} {l : List Nat} (h : Calm s k) (hi : i < n) (hl : l.length = 256) : writeS s n (i : Int) l = ({ s with pend := s.pend ++ [(i, l)], ops := s.ops + 1 }, 0) := by
  have h1 := h.on
  have h2 := h.left
  unfold writeS operS
  simp [h1, h2, inS, hi, hl]
theorem calm_next {s : St} {k i : Nat} {l : List Nat} (h : Calm s k) : Calm { s with pend := s.pend ++ [(i, l)], ops := s.ops + 1 } (k + 1) :=
  ⟨h.on, h.left, by have := h.pend; simp; omega, by have := h.ops; simp; omega⟩

theorem findI_some {A : List En} {z : Int} {x : En} (h : findI A z = some x) : x ∈ A ∧ (x.i : Int) = z := by
  unfold findI at h
  exact ⟨List.mem_of_find?_eq_some h, by simpa using List.find?_some h⟩
theorem mark_dirty (A : List En) (z : Int) (j : Nat) : dirtyAt (markC A z) j = (dirtyAt A j && !((j : Int) == z)) := by
  rw [Bool.eq_iff_iff, dirtyAt_iff, Bool.and_eq_true, dirtyAt_iff]
  unfold markC
  constructor
  · rintro ⟨y, hy, hyj, hd⟩
    obtain ⟨x, hx, rfl⟩ := List.mem_map.1 hy
    by_cases e : (x.i : Int) = z
    · rw [if_pos e] at hd; simp at hd
    · rw [if_neg e] at hyj hd
      exact ⟨⟨x, hx, hyj, hd⟩, by rw [← hyj]; simpa using e⟩
  · rintro ⟨⟨x, hx, hxj, hd⟩, hz⟩
    have e : ¬ (x.i : Int) = z := by rw [hxj]; simpa using hz
    exact ⟨x, List.mem_map.2 ⟨x, hx, by rw [if_neg e]⟩, hxj, hd⟩

/-- What stands while it is cleaned. -/
theorem clean_step {s : St} {A : List En} {W : Nat → List Nat} {k : Nat} (h : Inv s A W) (hc : Calm s k) (hl : ∀ i, i < 9 → (W i).length = 256) (z : Int) :
    ∃ s' A', cleanStep 9 (s, A, 0) z = (s', A', 0) ∧ Inv s' A' W ∧ Calm s' (k + 1) ∧ ∀ j, dirtyAt A' j = (dirtyAt A j && !((j : Int) == z)) ∨ (dirtyAt A' j = dirtyAt A j ∧ ∀ x ∈ A, (x.i : Int) ≠ z) := by
  unfold cleanStep
  simp only [ne_eq, not_true_eq_false, if_false]
  cases hf : findI A z with
  | none =>
    refine ⟨s, A, rfl, h, ⟨hc.on, hc.left, Nat.le_succ_of_le hc.pend, Nat.le_succ_of_le hc.ops⟩, fun j => .inr ⟨rfl, fun x hx e => ?_⟩⟩
    unfold findI at hf
    have := List.find?_eq_none.1 hf x hx
    simp [e] at this
  | some x =>
    obtain ⟨hx, hxz⟩ := findI_some hf
    obtain ⟨hx9, hxl⟩ := h.buf x hx
    have hw := calm_write (n := 9) (i := x.i) (l := x.l) hc hx9 (by rw [hxl]; exact hl _ hx9)
    rw [hxz] at hw
    simp only [hw, if_true]
    refine ⟨_, _, rfl, ⟨fun y hy => ?_, fun j hj hd => ?_⟩, calm_next hc, fun j => .inl (mark_dirty A z j)⟩
    · unfold markC at hy
      obtain ⟨u, hu, rfl⟩ := List.mem_map.1 hy
      have := h.buf u hu
      split <;> exact this
    · rw [readL_push]
      by_cases e : x.i = j
      · rw [if_pos e, hxl, e]
      · rw [if_neg e]
        rw [mark_dirty] at hd
        refine h.dsk j hj ?_
        have : ((j : Int) == z) = false := by rw [← hxz]; simp; omega
        rw [this] at hd
        simpa using hd

theorem clean_all (W : Nat → List Nat) (hl : ∀ i, i < 9 → (W i).length = 256) : ∀ (zs : List Int) (s : St) (A : List En) (k : Nat), Inv s A W → Calm s k → ∃ s' A', zs.foldl (cleanStep 9) (s, A, 0) = (s', A', 0) ∧ Inv s' A' W ∧ Calm s' (k + zs.length) ∧
    (∀ j, dirtyAt A' j = true → dirtyAt A j = true ∧ (j : Int) ∉ zs)
  | [], s, A, k, h, hc => ⟨s, A, rfl, h, hc, fun j hj => ⟨hj, by simp⟩⟩
  | z :: zs, s, A, k, h, hc => by
    obtain ⟨s1, A1, e1, h1, c1, d1⟩ := clean_step h hc hl z
    obtain ⟨s2, A2, e2, h2, c2, d2⟩ := clean_all W hl zs s1 A1 (k + 1) h1 c1
    refine ⟨s2, A2, by rw [List.foldl_cons, e1, e2], h2, ?_, fun j hj => ?_⟩
    · have e : k + (z :: zs).length = k + 1 + zs.length := by simp only [List.length_cons]; omega
      rw [e]; exact c2
    · obtain ⟨a, b⟩ := d2 j hj
      rcases d1 j with e | ⟨e, hno⟩
      · rw [e] at a
        simp at a
        exact ⟨a.1, by simp [a.2, b]⟩
      · rw [e] at a
        refine ⟨a, ?_⟩
        simp only [List.mem_cons, not_or]
        obtain ⟨x, hx, hxj, _⟩ := (dirtyAt_iff _ _).1 a
        exact ⟨fun ez => hno x hx (by rw [hxj]; exact ez), b⟩

theorem Inv.clean {s : St} {A : List En} {W : Nat → List Nat} {k : Nat} (h : Inv s A W) (hc : Calm s k) (hl : ∀ i, i < 9 → (W i).length = 256) (hm : (dirtyL A).length ≤ 256) :
    ∃ s' A', cleanC 9 s A = (s', A', 0) ∧ Inv s' A' W ∧ Calm s' (k + 256) ∧ ∀ j, dirtyAt A' j = false := by
  obtain ⟨s', A', e, h1, c1, d1⟩ := clean_all W hl (dirtyL A) s A k h hc
  refine ⟨s', A', e, h1, ⟨c1.on, c1.left, by have := c1.pend; omega, by have := c1.ops; omega⟩, fun j => ?_⟩
  cases hd : dirtyAt A' j with
  | false => rfl
  | true =>
    obtain ⟨a, b⟩ := d1 j hd
    obtain ⟨x, hx, hxj, hxd⟩ := (dirtyAt_iff _ _).1 a
    exact absurd ((dirtyL_mem A _).2 ⟨x, hx, hxd, by rw [hxj]⟩) b

end Go.Proofs.Ytjcmmigbkhiplaa
