/- By which patches a page becomes another one, as plain lists. No function of the program is called here. -/
import Derived.Test.YtgdlbfoihpdlhaaP2
set_option linter.unusedSimpArgs false
set_option linter.unusedVariables false
namespace Go.Proofs.Ytgdlbfoihpdlhaa
open Go.RowKit Go.Attic

def dif (a b : List Nat) (i : Nat) : Bool := decide (a.getD i 0 ≠ b.getD i 0)
theorem dif_no {a b : List Nat} {i : Nat} (h : dif a b i = false) : a.getD i 0 = b.getD i 0 := by simpa [dif] using h
def firstN (a b : List Nat) (lo : Nat) : Nat → Option Nat
  | 0 => none
  | n + 1 => match firstN a b lo n with
    | some f => some f
    | none => if dif a b (lo + n) = true then some (lo + n) else none
def lastE (a b : List Nat) : Nat → Nat
  | 0 => 0
  | t + 1 => if dif a b t = true then t + 1 else lastE a b t
def toN (j : Nat) : Nat := min (44 * j + 44) 256
def piece (a b : List Nat) (j : Nat) : Option (Nat × Nat) := (firstN a b (44 * j) (toN j - 44 * j)).map fun f => (f, lastE a b (toN j))
def cutP (block : Int) (b : List Nat) (x : Nat × Nat) : Rc := ⟨1, block, x.1, 0, (b.take x.2).drop x.1⟩
def cutU (block : Int) (a b : List Nat) (j : Nat) : List Rc := (List.range j).filterMap fun i => (piece a b i).map (cutP block b)
def cutR (block : Int) (a b : List Nat) : List Rc × Int := if (0 ≤ block ∧ block < 2048) ∧ a.length = 256 ∧ b.length = 256 then (cutU block a b 6, 0) else ([], 1)

theorem firstN_is (a b : List Nat) (lo n : Nat) : (firstN a b lo n = none ∧ ∀ i, lo ≤ i → i < lo + n → dif a b i = false) ∨
    ∃ f, firstN a b lo n = some f ∧ lo ≤ f ∧ f < lo + n ∧ dif a b f = true ∧ ∀ i, lo ≤ i → i < f → dif a b i = false := by
  induction n with
  | zero => exact .inl ⟨rfl, fun i h1 h2 => by omega⟩
  | succ n ih =>
    rcases ih with ⟨h1, h2⟩ | ⟨f, h1, h2, h3, h4, h5⟩
    · cases hd : dif a b (lo + n) with
      | true => exact .inr ⟨lo + n, by simp [firstN, h1, hd], by omega, by omega, hd, fun i x y => h2 i x (by omega)⟩
      | false =>
        refine .inl ⟨by simp [firstN, h1, hd], fun i x y => ?_⟩
        by_cases e : i = lo + n
        · rw [e]; exact hd
        · exact h2 i x (by omega)
    · exact .inr ⟨f, by simp [firstN, h1], h2, by omega, h4, h5⟩
theorem firstN_some {a b : List Nat} {lo n f : Nat} (h1 : lo ≤ f) (h2 : f < lo + n) (h3 : dif a b f = true) (h4 : ∀ i, lo ≤ i → i < f → dif a b i = false) : firstN a b lo n = some f := by
  rcases firstN_is a b lo n with ⟨_, g⟩ | ⟨g, e, g1, g2, g3, g4⟩
  · rw [g f h1 h2] at h3; cases h3
  · rw [e]
    by_cases h : g < f
    · rw [h4 g g1 h] at g3; cases g3
    · by_cases h' : f < g
      · rw [g4 f h1 h'] at h3; cases h3
      · rw [show g = f by omega]
theorem firstN_none {a b : List Nat} {lo n : Nat} (h : ∀ i, lo ≤ i → i < lo + n → dif a b i = false) : firstN a b lo n = none := by
  rcases firstN_is a b lo n with ⟨e, _⟩ | ⟨g, e, g1, g2, g3, g4⟩
  · exact e
  · rw [h g g1 g2] at g3; cases g3
theorem lastE_is (a b : List Nat) (t : Nat) : lastE a b t ≤ t ∧ (0 < lastE a b t → dif a b (lastE a b t - 1) = true) ∧ ∀ i, lastE a b t ≤ i → i < t → dif a b i = false := by
  induction t with
  | zero => exact ⟨Nat.le_refl _, fun h => by simp [lastE] at h, fun i h1 h2 => by omega⟩
  | succ t ih =>
    obtain ⟨h1, h2, h3⟩ := ih
    cases hd : dif a b t with
    | true =>
      have e : lastE a b (t + 1) = t + 1 := by simp [lastE, hd]
      rw [e]
      exact ⟨Nat.le_refl _, fun _ => hd, fun i x y => by omega⟩
    | false =>
      have e : lastE a b (t + 1) = lastE a b t := by simp [lastE, hd]
      rw [e]
      refine ⟨by omega, h2, fun i x y => ?_⟩
      by_cases e2 : i = t
      · rw [e2]; exact hd
      · exact h3 i x (by omega)
theorem lastE_of {a b : List Nat} {t l : Nat} (h1 : l < t) (h2 : dif a b l = true) (h3 : ∀ i, l < i → i < t → dif a b i = false) : lastE a b t = l + 1 := by
  obtain ⟨g1, g2, g3⟩ := lastE_is a b t
  generalize lastE a b t = e at *
  by_cases h : e ≤ l
  · rw [g3 l h h1] at h2; cases h2
  · by_cases h' : e = l + 1
    · exact h'
    · have := g2 (by omega)
      rw [h3 (e - 1) (by omega) (by omega)] at this
      cases this
theorem lastE_take (a b : List Nat) (t : Nat) : ∀ s, s ≤ t → lastE (a.take t) (b.take t) s = lastE a b s := by
  intro s
  induction s with
  | zero => intro _; rfl
  | succ s ih =>
    intro hs
    have e : dif (a.take t) (b.take t) s = dif a b s := by
      unfold dif
      simp only [List.getD_eq_getElem?_getD, List.getElem?_take_of_lt (show s < t by omega)]
    simp only [lastE, e, ih (by omega)]

theorem piece_is (a b : List Nat) (j : Nat) (hj : j < 6) : (piece a b j = none ∧ ∀ i, 44 * j ≤ i → i < toN j → dif a b i = false) ∨
    ∃ f e, piece a b j = some (f, e) ∧ 44 * j ≤ f ∧ f < e ∧ e ≤ toN j ∧ (∀ i, 44 * j ≤ i → i < f → dif a b i = false) ∧ ∀ i, e ≤ i → i < toN j → dif a b i = false := by
  have ht : 44 * j ≤ toN j := by unfold toN; omega
  rcases firstN_is a b (44 * j) (toN j - 44 * j) with ⟨h1, h2⟩ | ⟨f, h1, h2, h3, h4, h5⟩
  · exact .inl ⟨by simp [piece, h1], fun i x y => h2 i x (by omega)⟩
  · obtain ⟨g1, g2, g3⟩ := lastE_is a b (toN j)
    refine .inr ⟨f, lastE a b (toN j), by simp [piece, h1], h2, ?_, g1, h5, g3⟩
    refine Nat.lt_of_not_le fun h => ?_
    rw [g3 f h (by omega)] at h4
    cases h4

theorem cutU_none {block : Int} {a b : List Nat} {j : Nat} (h : piece a b j = none) : cutU block a b (j + 1) = cutU block a b j := by
  unfold cutU; rw [List.range_succ, List.filterMap_append]; simp [h]
theorem cutU_some {block : Int} {a b : List Nat} {j : Nat} {x : Nat × Nat} (h : piece a b j = some x) : cutU block a b (j + 1) = cutU block a b j ++ [cutP block b x] := by
  unfold cutU; rw [List.range_succ, List.filterMap_append]; simp [h]
theorem cutU_len (block : Int) (a b : List Nat) (j : Nat) : (cutU block a b j).length ≤ j := by
  unfold cutU
  have := List.length_filterMap_le (fun i => (piece a b i).map (cutP block b)) (List.range j)
  simpa using this
theorem cutP_len {block : Int} {b : List Nat} {f e : Nat} (hb : b.length = 256) (he : e ≤ 256) : (cutP block b (f, e)).l.length = e - f := by
  simp [cutP]; omega
theorem cutU_ok {block : Int} {a b : List Nat} (hblock : 0 ≤ block ∧ block < 2048) (hb : b.length = 256) : ∀ j, j ≤ 6 → ∀ r ∈ cutU block a b j, okb r = true ∧ r.k = 1 ∧ r.b = block := by
  intro j
  induction j with
  | zero => intro _ r hr; simp [cutU] at hr
  | succ j ih =>
    intro hj r hr
    rcases piece_is a b j (by omega) with ⟨h, _⟩ | ⟨f, e, h, h1, h2, h3, _⟩
    · rw [cutU_none h] at hr; exact ih (by omega) r hr
    · rw [cutU_some h, List.mem_append] at hr
      rcases hr with hr | hr
      · exact ih (by omega) r hr
      · simp only [List.mem_singleton] at hr
        subst hr
        have ht : toN j ≤ 256 ∧ toN j ≤ 44 * j + 44 := by unfold toN; omega
        have hl := cutP_len (block := block) (f := f) hb (show e ≤ 256 by omega)
        refine ⟨?_, rfl, rfl⟩
        unfold okb
        rw [hl]
        refine decide_eq_true (chkR_ok (.inl ⟨rfl, hblock.1, hblock.2, by omega, by omega, ?_, ?_, rfl⟩))
        · show 0 ≤ (f : Int); omega
        · show (f : Int) ≤ 256 - ((e - f : Nat) : Int); omega
/-- A page of which each byte is the old one's or the new one's becomes the new one. -/
theorem redo_cut {block : Int} {a b p : List Nat} (hblock : 0 ≤ block ∧ block < 2048) (ha : a.length = 256) (hb : b.length = 256) (hp : p.length = 256) (hm : ∀ i, i < 256 → p.getD i 0 = a.getD i 0 ∨ p.getD i 0 = b.getD i 0) :
    ∀ j, j ≤ 6 → ∀ i, i < 256 → (i < 44 * j → (redoL block p (cutU block a b j)).getD i 0 = b.getD i 0) ∧ (44 * j ≤ i → (redoL block p (cutU block a b j)).getD i 0 = p.getD i 0) := by
  intro j
  induction j with
  | zero => intro _ i hi; exact ⟨fun h => by omega, fun _ => rfl⟩
  | succ j ih =>
    intro hj i hi
    have ih := ih (by omega) i hi
    have same : ∀ i, i < 256 → dif a b i = false → p.getD i 0 = b.getD i 0 := fun i hi hd => by
      rcases hm i hi with h | h
      · rw [h, dif_no hd]
      · exact h
    rcases piece_is a b j (by omega) with ⟨h, hd⟩ | ⟨f, e, h, h1, h2, h3, h4, h5⟩
    · rw [cutU_none h]
      refine ⟨fun h7 => ?_, fun h7 => ih.2 (by omega)⟩
      by_cases h8 : i < 44 * j
      · exact ih.1 h8
      · rw [ih.2 (by omega)]
        exact same i hi (hd i (by omega) (by unfold toN; omega))
    · rw [cutU_some h, redoL_snoc]
      have ht : toN j ≤ 256 ∧ toN j ≤ 44 * j + 44 := by unfold toN; omega
      have hl := cutP_len (block := block) (f := f) hb (show e ≤ 256 by omega)
      have hql := redoL_length (block := block) (cutU block a b j) (fun r hr => (cutU_ok hblock hb j (by omega) r hr).1) hp
      generalize redoL block p (cutU block a b j) = q at *
      have hst : step1 block q (cutP block b (f, e)) = over q f (cutP block b (f, e)).l := by
        unfold step1
        rw [if_pos ⟨rfl, rfl⟩]
        rfl
      rw [hst, over_at (by rw [hl, hql]; omega), hl]
      by_cases hin : f ≤ i ∧ i < f + (e - f)
      · rw [if_pos hin]
        have hv : (cutP block b (f, e)).l.getD (i - f) 0 = b.getD i 0 := by
          simp only [cutP, List.getD_eq_getElem?_getD, List.getElem?_drop]
          rw [show f + (i - f) = i by omega, List.getElem?_take_of_lt (by omega)]
        rw [hv]
        exact ⟨fun _ => rfl, fun h7 => by omega⟩
      · rw [if_neg hin]
        refine ⟨fun h7 => ?_, fun h7 => ih.2 (by omega)⟩
        by_cases h8 : i < 44 * j
        · exact ih.1 h8
        · rw [ih.2 (by omega)]
          refine same i hi ?_
          by_cases h9 : i < f
          · exact h4 i (by omega) h9
          · exact h5 i (by omega) (by unfold toN; omega)
theorem redo_cut_all {block : Int} {a b p : List Nat} (hblock : 0 ≤ block ∧ block < 2048) (ha : a.length = 256) (hb : b.length = 256) (hp : p.length = 256) (hm : ∀ i, i < 256 → p.getD i 0 = a.getD i 0 ∨ p.getD i 0 = b.getD i 0) :
    redoL block p (cutU block a b 6) = b := by
  have hql := redoL_length (block := block) (cutU block a b 6) (fun r hr => (cutU_ok hblock hb 6 (by omega) r hr).1) hp
  exact getD_ext (by omega) fun i hi => (redo_cut hblock ha hb hp hm 6 (by omega) i (by omega)).1 (by omega)
theorem cutU_same (block : Int) (a : List Nat) : cutU block a a 6 = [] := by
  have : ∀ j, j ≤ 6 → cutU block a a j = [] := by
    intro j
    induction j with
    | zero => intro _; rfl
    | succ j ih =>
      intro hj
      rcases piece_is a a j (by omega) with ⟨h, _⟩ | ⟨f, e, h, h1, h2, h3, h4, h5⟩
      · rw [cutU_none h]; exact ih (by omega)
      · have : firstN a a (44 * j) (toN j - 44 * j) = none := firstN_none fun i _ _ => by simp [dif]
        simp [piece, this] at h
  exact this 6 (Nat.le_refl _)
theorem cutU_nil {block : Int} {a b : List Nat} (hblock : 0 ≤ block ∧ block < 2048) (ha : a.length = 256) (hb : b.length = 256) : cutU block a b 6 = [] ↔ a = b := by
  refine ⟨fun h => ?_, fun h => by rw [h]; exact cutU_same block b⟩
  have := redo_cut_all (p := a) hblock ha hb ha (fun i _ => .inl rfl)
  rwa [h] at this

end Go.Proofs.Ytgdlbfoihpdlhaa
