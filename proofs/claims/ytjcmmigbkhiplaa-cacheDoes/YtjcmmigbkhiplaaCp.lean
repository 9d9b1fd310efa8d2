/- The cache as a list of buffers, the oldest first: what comes in, what goes, what is dirty. Nothing here speaks of one program. -/
import Derived.Test.YtjcmmigbkhiplaaDp
set_option linter.unusedVariables false
namespace Go.Attic
open Go.RowKit

structure En where
  i : Nat
  l : List Nat
  d : Bool

/-- A buffer in memory: its own block, its row's block, when it was asked for. -/
structure Bu where
  i : Nat
  l : List Nat
  d : Bool
  p : Nat
  r : Nat
  cap : Nat
  a : Nat

def Bu.en (x : Bu) : En := ⟨x.i, x.l, x.d⟩

def En.none : En := ⟨0, [], false⟩

/-- What a block's coming in leaves: the others, the newest one, the error. -/
def comeL (room : Nat) (s : St) (A : List En) (i : Nat) : List En × En × Int :=
  match A.find? (fun x => x.i == i) with
  | some x => (A.filter (fun y => y.i != i), x, 0)
  | none =>
    if room ≤ A.length then
      match A.find? (fun x => !x.d) with
      | none => (A, En.none, 6)
      | some o => if s.on = false then (A, En.none, 5) else (A.filter (fun y => y.i != o.i), ⟨i, readL s i, false⟩, 0)
    else if s.on = false then (A, En.none, 5) else (A, ⟨i, readL s i, false⟩, 0)

/-- What is asked for later stands later. -/
def Asc (B : List Bu) (q : Nat) : Prop := B.Pairwise (fun x y => x.a < y.a) ∧ ∀ x ∈ B, x.a ≤ q

theorem Asc.filter {B : List Bu} {q : Nat} (h : Asc B q) (f : Bu → Bool) : Asc (B.filter f) q := ⟨h.1.filter _, fun x hx => h.2 x (List.mem_filter.1 hx).1⟩
theorem Asc.snoc {B : List Bu} {q : Nat} (h : Asc B q) (x : Bu) (hx : x.a = q + 1) : Asc (B ++ [x]) (q + 1) := by
  refine ⟨?_, fun y hy => ?_⟩
  · rw [List.pairwise_append]
    refine ⟨h.1, by simp, fun y hy z hz => ?_⟩
    obtain rfl : z = x := by simpa using hz
    have := h.2 y hy
    omega
  · rcases List.mem_append.1 hy with hm | hm
    · have := h.2 y hm; omega
    · obtain rfl : y = x := by simpa using hm
      omega

/-- No number stands twice, no block. -/
def Apart1 (B : List Bu) : Prop := B.Pairwise (fun x y => x.i ≠ y.i ∧ x.p ≠ y.p ∧ x.r ≠ y.r)

theorem pull_perm {B : List Bu} (h : B.Pairwise (fun x y => x.i ≠ y.i)) {x : Bu} (hx : x ∈ B) : B.Perm (B.filter (fun y => y.i != x.i) ++ [x]) := by
  induction B with
  | nil => simp at hx
  | cons y r ih =>
    obtain ⟨h1, h2⟩ := List.pairwise_cons.1 h
    rcases List.mem_cons.1 hx with e | hm
    · subst e
      have hr : r.filter (fun y => y.i != x.i) = r := List.filter_eq_self.2 (fun z hz => by have := h1 z hz; simp; omega)
      simp only [List.filter_cons, bne_self_eq_false, Bool.false_eq_true, if_false, hr]
      exact (List.perm_append_comm (l₁ := [x]) (l₂ := r))
    · have hy : (y.i != x.i) = true := by have := h1 x hm; simpa using this
      simp only [List.filter_cons, hy, if_true, List.cons_append]
      exact (ih h2 hm).cons y

theorem en_find (B : List Bu) (f : En → Bool) : (B.map Bu.en).find? f = (B.find? (fun x => f x.en)).map Bu.en := by
  rw [List.find?_map]; rfl
theorem en_filter (B : List Bu) (f : En → Bool) : (B.map Bu.en).filter f = (B.filter (fun x => f x.en)).map Bu.en := by
  rw [List.filter_map]; rfl

theorem find_i {B : List Bu} (i : Nat) : (∃ x ∈ B, x.i = i ∧ B.find? (fun y => y.i == i) = some x) ∨ ((∀ x ∈ B, x.i ≠ i) ∧ B.find? (fun y => y.i == i) = none) := by
  cases h : B.find? (fun y => y.i == i) with
  | none =>
    refine .inr ⟨fun x hx e => ?_, rfl⟩
    have := List.find?_eq_none.1 h x hx
    simp [e] at this
  | some x =>
    refine .inl ⟨x, List.mem_of_find?_eq_some h, ?_, rfl⟩
    have := List.find?_some h
    simpa using this

theorem same_i : ∀ {B : List Bu}, B.Pairwise (fun x y => x.i ≠ y.i) → ∀ {x y : Bu}, x ∈ B → y ∈ B → x.i = y.i → x = y
  | [], _, _, _, hx, _, _ => by simp at hx
  | a :: r, hp, x, y, hx, hy, h => by
    obtain ⟨h1, h2⟩ := List.pairwise_cons.1 hp
    rcases List.mem_cons.1 hx with ex | hx'
    · rcases List.mem_cons.1 hy with ey | hy'
      · rw [ex, ey]
      · exact absurd (ex ▸ h) (h1 y hy')
    · rcases List.mem_cons.1 hy with ey | hy'
      · exact absurd (ey ▸ h).symm (h1 x hx')
      · exact same_i h2 hx' hy' h

/-- The oldest clean buffer, as far as one has looked: L says who is still to be looked at. -/
def Best (B : List Bu) (L : Int → Bool) : Option Bu → Prop
  | none => ∀ x ∈ B, L x.i = false → x.d = true
  | some b => b ∈ B ∧ b.d = false ∧ L b.i = false ∧ ∀ x ∈ B, L x.i = false → x.d = false → b.a ≤ x.a

theorem Best.all {B : List Bu} {q : Nat} {L : Int → Bool} {o : Option Bu} (h : Best B L o) (hA : Asc B q) (hL : ∀ i, L i = false) : B.find? (fun x => !x.d) = o := by
  cases o with
  | none => exact List.find?_eq_none.2 (fun x hx => by simp [h x hx (hL _)])
  | some b =>
    obtain ⟨h1, h2, -, h4⟩ := h
    have hs : (B.find? (fun x => !x.d)).isSome = true := List.find?_isSome.2 ⟨b, h1, by simp [h2]⟩
    obtain ⟨x, hx⟩ := Option.isSome_iff_exists.1 hs
    rw [hx]
    obtain ⟨hxd, B0, B1, rfl, hno⟩ := List.find?_eq_some_iff_append.1 hx
    have hxd : x.d = false := by simpa using hxd
    have hle := h4 x (by simp) (hL _) hxd
    have hp := List.pairwise_append.1 hA.1
    have hp2 := List.pairwise_cons.1 hp.2.1
    rcases List.mem_append.1 h1 with hm | hm
    · have := hno b hm
      simp [h2] at this
    · rcases List.mem_cons.1 hm with e | hm
      · rw [e]
      · have := hp2.1 b hm
        omega

theorem Best.skip {B : List Bu} {L : Int → Bool} {o : Option Bu} (h : Best B L o) (hi : B.Pairwise (fun x y => x.i ≠ y.i)) {x : Bu} (hx : x ∈ B) (hL : L x.i = true) (hd : x.d = true) : Best B (fun j => L j && !(j == (x.i : Int))) o := by
  have key : ∀ y ∈ B, (L y.i && !((y.i : Int) == (x.i : Int))) = false → L y.i = false ∨ y = x := by
    intro y hy he
    by_cases e : (y.i : Int) = x.i
    · refine .inr ?_
      have e' : y.i = x.i := by omega
      have := same_i hi hy hx e'
      exact this
    · have : ((y.i : Int) == (x.i : Int)) = false := by simpa using e
      rw [this] at he
      exact .inl (by simpa using he)
  cases o with
  | none =>
    intro y hy he
    rcases key y hy he with h' | rfl
    · exact h y hy h'
    · exact hd
  | some b =>
    obtain ⟨h1, h2, h3, h4⟩ := h
    refine ⟨h1, h2, by simp [h3], fun y hy he hyd => ?_⟩
    rcases key y hy he with h' | rfl
    · exact h4 y hy h' hyd
    · rw [hd] at hyd; cases hyd

theorem Best.keep {B : List Bu} {L : Int → Bool} {b : Bu} (h : Best B L (some b)) (hi : B.Pairwise (fun x y => x.i ≠ y.i)) {x : Bu} (hx : x ∈ B) (hL : L x.i = true) (hd : x.d = false) (hle : b.a ≤ x.a) : Best B (fun j => L j && !(j == (x.i : Int))) (some b) := by
  obtain ⟨h1, h2, h3, h4⟩ := h
  refine ⟨h1, h2, by simp [h3], fun y hy he hyd => ?_⟩
  by_cases e : (y.i : Int) = x.i
  · have e' : y.i = x.i := by omega
    have := same_i hi hy hx e'
    rw [this]
    exact hle
  · have he : (L y.i && !((y.i : Int) == (x.i : Int))) = false := he
    have : ((y.i : Int) == (x.i : Int)) = false := by simpa using e
    rw [this] at he
    exact h4 y hy (by simpa using he) hyd

theorem Best.take {B : List Bu} {L : Int → Bool} {o : Option Bu} (h : Best B L o) (hi : B.Pairwise (fun x y => x.i ≠ y.i)) {x : Bu} (hx : x ∈ B) (hL : L x.i = true) (hd : x.d = false) (hle : ∀ b, o = some b → x.a ≤ b.a) : Best B (fun j => L j && !(j == (x.i : Int))) (some x) := by
  refine ⟨hx, hd, by simp, fun y hy he hyd => ?_⟩
  by_cases e : (y.i : Int) = x.i
  · have e' : y.i = x.i := by omega
    have := same_i hi hy hx e'
    rw [this]
    exact Nat.le_refl _
  · have he : (L y.i && !((y.i : Int) == (x.i : Int))) = false := he
    have : ((y.i : Int) == (x.i : Int)) = false := by simpa using e
    rw [this] at he
    have hLy : L y.i = false := by simpa using he
    cases o with
    | none => have := h y hy hLy; rw [hyd] at this; cases this
    | some b => exact Nat.le_trans (hle b rfl) (h.2.2.2 y hy hLy hyd)

end Go.Attic
