/- What patches make of a page, as plain lists. No function of the program is called here. -/
import Derived.Test.YtgdlbfoihpdlhaaP1
set_option linter.unusedSimpArgs false
set_option linter.unusedVariables false
namespace Go.Proofs.Ytgdlbfoihpdlhaa
open Go.RowKit Go.Attic

/-- A page with bytes laid over it from o on. -/
def over (p : List Nat) (o : Nat) (l : List Nat) : List Nat := p.take o ++ (l ++ p.drop (o + l.length))
theorem over_length {p l : List Nat} {o : Nat} (h : o + l.length ≤ p.length) : (over p o l).length = p.length := by simp [over]; omega
theorem over_at {p l : List Nat} {o : Nat} (h : o + l.length ≤ p.length) (i : Nat) : (over p o l).getD i 0 = if o ≤ i ∧ i < o + l.length then l.getD (i - o) 0 else p.getD i 0 := by
  unfold over
  simp only [List.getD_eq_getElem?_getD]
  by_cases h1 : i < o
  · rw [List.getElem?_append_left (by simp; omega), if_neg (by omega), List.getElem?_take_of_lt h1]
  · rw [List.getElem?_append_right (by simp; omega)]
    have e : (p.take o).length = o := by simp; omega
    rw [e]
    by_cases h2 : i < o + l.length
    · rw [List.getElem?_append_left (by omega), if_pos (by omega)]
    · rw [List.getElem?_append_right (by omega), if_neg (by omega), List.getElem?_drop]
      congr 2
      omega
theorem over_lt {p l : List Nat} {o : Nat} (hp : ∀ x ∈ p, x < 256) (hl : ∀ x ∈ l, x < 256) : ∀ x ∈ over p o l, x < 256 := by
  intro x hx
  simp only [over, List.mem_append] at hx
  rcases hx with hx | hx | hx
  · exact hp x (List.mem_of_mem_take hx)
  · exact hl x hx
  · exact hp x (List.mem_of_mem_drop hx)

def step1 (block : Int) (p : List Nat) (r : Rc) : List Nat := if r.k = 1 ∧ r.b = block then over p r.o.toNat r.l else p
def redoL (block : Int) (p : List Nat) (rs : List Rc) : List Nat := rs.foldl (step1 block) p
def redoR (p : List Nat) (block : Int) (rs : List Rc) : List Nat × Int :=
  if p.length = 256 then (if rs.all okb = true then (redoL block p rs, 0) else ([], 60)) else ([], 1)

theorem ok_fits {r : Rc} (h : okb r = true) (hk : r.k = 1) : 0 ≤ r.o ∧ r.o.toNat + r.l.length ≤ 256 ∧ 1 ≤ r.l.length ∧ r.l.length ≤ 44 ∧ r.m = 0 := by
  rcases okb_ok h with ⟨_, _, _, h3, h4, h5, h6, h7⟩ | ⟨h1, _⟩
  · exact ⟨h5, by omega, h3, h4, h7⟩
  · omega
theorem ok_commit {r : Rc} (h : okb r = true) (hk : r.k ≠ 1) : r.l = [] ∧ r.k = 2 ∧ r.b = 0 ∧ r.o = 0 ∧ 0 ≤ r.m ∧ r.m ≤ 65536 := by
  rcases okb_ok h with ⟨h1, _⟩ | ⟨h1, h2, h3, h4, h5, h6⟩
  · exact absurd h1 hk
  · exact ⟨List.eq_nil_of_length_eq_zero h6, h1, h4, h5, h2, h3⟩

theorem step1_length {block : Int} {p : List Nat} {r : Rc} (h : okb r = true) (hp : p.length = 256) : (step1 block p r).length = 256 := by
  unfold step1
  split
  · rename_i hc
    rw [over_length (by have := ok_fits h hc.1; omega)]; exact hp
  · exact hp
theorem step1_lt {block : Int} {p : List Nat} {r : Rc} (hp : ∀ x ∈ p, x < 256) (hr : ∀ x ∈ r.l, x < 256) : ∀ x ∈ step1 block p r, x < 256 := by
  unfold step1
  split
  · exact over_lt hp hr
  · exact hp
theorem redoL_length {block : Int} (rs : List Rc) : ∀ {p : List Nat}, (∀ r ∈ rs, okb r = true) → p.length = 256 → (redoL block p rs).length = 256 := by
  induction rs with
  | nil => intro p _ hp; exact hp
  | cons r rs ih =>
    intro p h hp
    exact ih (p := step1 block p r) (fun x hx => h x (by simp [hx])) (step1_length (h r (by simp)) hp)
theorem redoL_lt {block : Int} (rs : List Rc) : ∀ {p : List Nat}, (∀ r ∈ rs, ∀ x ∈ r.l, x < 256) → (∀ x ∈ p, x < 256) → ∀ x ∈ redoL block p rs, x < 256 := by
  induction rs with
  | nil => intro p _ hp; exact hp
  | cons r rs ih =>
    intro p h hp
    exact ih (p := step1 block p r) (fun x hx => h x (by simp [hx])) (step1_lt hp (h r (by simp)))
theorem redoL_append (block : Int) (p : List Nat) (a b : List Rc) : redoL block p (a ++ b) = redoL block (redoL block p a) b := by simp [redoL]
theorem redoL_snoc (block : Int) (p : List Nat) (a : List Rc) (r : Rc) : redoL block p (a ++ [r]) = step1 block (redoL block p a) r := by simp [redoL]
theorem redoL_other (block : Int) (rs : List Rc) : ∀ p, (∀ r ∈ rs, ¬ (r.k = 1 ∧ r.b = block)) → redoL block p rs = p := by
  induction rs with
  | nil => intro p _; rfl
  | cons r rs ih =>
    intro p h
    show redoL block (step1 block p r) rs = p
    rw [show step1 block p r = p from if_neg (h r (by simp))]
    exact ih p (fun x hx => h x (by simp [hx]))

/-- What becomes of a byte. -/
def byte1 (block : Int) (i : Nat) (x : Nat) (r : Rc) : Nat := if (r.k = 1 ∧ r.b = block) ∧ (r.o.toNat ≤ i ∧ i < r.o.toNat + r.l.length) then r.l.getD (i - r.o.toNat) 0 else x
def byteL (block : Int) (i : Nat) (x : Nat) (rs : List Rc) : Nat := rs.foldl (byte1 block i) x
theorem redoL_at (block : Int) (i : Nat) (rs : List Rc) : ∀ p : List Nat, (∀ r ∈ rs, okb r = true) → p.length = 256 → (redoL block p rs).getD i 0 = byteL block i (p.getD i 0) rs := by
  induction rs with
  | nil => intro p _ _; rfl
  | cons r rs ih =>
    intro p h hp
    have hr := h r (by simp)
    show (redoL block (step1 block p r) rs).getD i 0 = byteL block i (byte1 block i (p.getD i 0) r) rs
    rw [ih _ (fun x hx => h x (by simp [hx])) (step1_length hr hp)]
    congr 1
    unfold step1 byte1
    by_cases hc : r.k = 1 ∧ r.b = block
    · rw [if_pos hc, over_at (by have := ok_fits hr hc.1; omega)]
      by_cases hi : r.o.toNat ≤ i ∧ i < r.o.toNat + r.l.length
      · rw [if_pos hi, if_pos ⟨hc, hi⟩]
      · rw [if_neg hi, if_neg (fun x => hi x.2)]
    · rw [if_neg hc, if_neg (fun x => hc x.1)]
theorem byteL_is (block : Int) (i : Nat) (rs : List Rc) : (∀ x, byteL block i x rs = x) ∨ ∃ c, ∀ x, byteL block i x rs = c := by
  induction rs with
  | nil => exact .inl fun x => rfl
  | cons r rs ih =>
    rcases ih with h | ⟨c, h⟩
    · by_cases hc : (r.k = 1 ∧ r.b = block) ∧ (r.o.toNat ≤ i ∧ i < r.o.toNat + r.l.length)
      · refine .inr ⟨r.l.getD (i - r.o.toNat) 0, fun x => ?_⟩
        show byteL block i (byte1 block i x r) rs = _
        rw [h, byte1, if_pos hc]
      · refine .inl fun x => ?_
        show byteL block i (byte1 block i x r) rs = _
        rw [h, byte1, if_neg hc]
    · exact .inr ⟨c, fun x => h _⟩
theorem getD_ext {a b : List Nat} (hl : a.length = b.length) (h : ∀ i, i < a.length → a.getD i 0 = b.getD i 0) : a = b := by
  apply List.ext_getElem hl
  intro i h1 h2
  have := h i h1
  simpa [List.getD_eq_getElem?_getD, h1, h2] using this
/-- Twice is once. -/
theorem redoL_twice (block : Int) (p : List Nat) (rs : List Rc) (h : ∀ r ∈ rs, okb r = true) (hp : p.length = 256) : redoL block (redoL block p rs) rs = redoL block p rs := by
  have hl := redoL_length (block := block) rs h hp
  refine getD_ext (by rw [redoL_length rs h hl, hl]) fun i hi => ?_
  rw [redoL_at block i rs _ h hl, redoL_at block i rs p h hp]
  rcases byteL_is block i rs with h1 | ⟨c, h1⟩
  · rw [h1, h1]
  · rw [h1, h1]

end Go.Proofs.Ytgdlbfoihpdlhaa
