/- Blocks, sorted, each once, as plain lists. No function of the program is called here. -/
import Derived.Test.YtgdlbfoihpdlhaaP1
import Derived.Lib.SlicesCompact
set_option linter.unusedSimpArgs false
set_option linter.unusedVariables false
namespace Go.Proofs.Ytgdlbfoihpdlhaa
open Go.RowKit Go.Attic

/-- Strictly rising. -/
def Rise (l : List Int) : Prop := l.Pairwise (· < ·)
theorem rise_one : ∀ {a b : List Int}, Rise a → Rise b → (∀ x, x ∈ a ↔ x ∈ b) → a = b
  | [], [], _, _, _ => rfl
  | [], y :: b, _, _, h => by have := (h y).2 (by simp); simp at this
  | x :: a, [], _, _, h => by have := (h x).1 (by simp); simp at this
  | x :: a, y :: b, ha, hb, h => by
    obtain ⟨ha1, ha2⟩ := List.pairwise_cons.1 ha
    obtain ⟨hb1, hb2⟩ := List.pairwise_cons.1 hb
    have e : x = y := by
      rcases List.mem_cons.1 ((h x).1 (by simp)) with e | e
      · exact e
      · rcases List.mem_cons.1 ((h y).2 (by simp)) with e2 | e2
        · exact e2.symm
        · have := hb1 x e; have := ha1 y e2; omega
    subst e
    congr 1
    refine rise_one ha2 hb2 fun z => ⟨fun hz => ?_, fun hz => ?_⟩
    · rcases List.mem_cons.1 ((h z).1 (by simp [hz])) with e | e
      · subst e; have := ha1 z hz; omega
      · exact e
    · rcases List.mem_cons.1 ((h z).2 (by simp [hz])) with e | e
      · subst e; have := hb1 z hz; omega
      · exact e

/-- With a number at its place, once. -/
def ins (n : Int) : List Int → List Int
  | [] => [n]
  | x :: l => if x = n then x :: l else if n < x then n :: x :: l else x :: ins n l
theorem ins_mem (n z : Int) : ∀ l, z ∈ ins n l ↔ z = n ∨ z ∈ l
  | [] => by simp [ins]
  | x :: l => by
    unfold ins
    split
    · rename_i h; subst h; simp
    · split
      · simp
      · simp [ins_mem n z l]
        constructor
        · rintro (h | h | h)
          · exact .inr (.inl h)
          · exact .inl h
          · exact .inr (.inr h)
        · rintro (h | h | h)
          · exact .inr (.inl h)
          · exact .inl h
          · exact .inr (.inr h)
theorem ins_rise (n : Int) : ∀ l, Rise l → Rise (ins n l)
  | [], _ => by simp [ins, Rise]
  | x :: l, h => by
    obtain ⟨h1, h2⟩ := List.pairwise_cons.1 h
    unfold ins
    split
    · exact h
    · split
      · rename_i h3 h4
        refine List.pairwise_cons.2 ⟨fun y hy => ?_, h⟩
        rcases List.mem_cons.1 hy with e | e
        · omega
        · have := h1 y e; omega
      · rename_i h3 h4
        refine List.pairwise_cons.2 ⟨fun y hy => ?_, ins_rise n l h2⟩
        rcases (ins_mem n y l).1 hy with e | e
        · omega
        · exact h1 y e

/-- One element more, as the document puts: what is out, and whether the number is done. -/
def putS (n : Int) (s : List Int × Bool) (x : Int) : List Int × Bool :=
  if (s.2 || decide (x = n)) = true then (s.1 ++ [x], true) else if n < x then (s.1 ++ [n] ++ [x], true) else (s.1 ++ [x], false)
def putL (l : List Int) (n : Int) : List Int := if (l.foldl (putS n) ([], false)).2 = true then (l.foldl (putS n) ([], false)).1 else (l.foldl (putS n) ([], false)).1 ++ [n]
theorem putS_done (n : Int) : ∀ (l out : List Int), l.foldl (putS n) (out, true) = (out ++ l, true)
  | [], out => by simp
  | x :: l, out => by
    rw [List.foldl_cons, show putS n (out, true) x = (out ++ [x], true) by simp [putS], putS_done n l]
    simp
theorem putS_all (n : Int) : ∀ (l out : List Int), (if (l.foldl (putS n) (out, false)).2 = true then (l.foldl (putS n) (out, false)).1 else (l.foldl (putS n) (out, false)).1 ++ [n]) = out ++ ins n l
  | [], out => by simp [ins]
  | x :: l, out => by
    rw [List.foldl_cons]
    by_cases h : x = n
    · rw [show putS n (out, false) x = (out ++ [x], true) by simp [putS, h], putS_done]
      simp [ins, h]
    · by_cases h2 : n < x
      · rw [show putS n (out, false) x = (out ++ [n] ++ [x], true) by simp [putS, h, h2], putS_done]
        simp [ins, h, h2]
      · rw [show putS n (out, false) x = (out ++ [x], false) by simp [putS, h, h2], putS_all n l]
        simp [ins, h, h2]
theorem putL_ins (l : List Int) (n : Int) : putL l n = ins n l := by
  have := putS_all n l []
  simpa [putL] using this

theorem fold_put (zs : List Int) : ∀ l, Rise l → Rise (zs.foldl putL l) ∧ ∀ z, z ∈ zs.foldl putL l ↔ z ∈ zs ∨ z ∈ l := by
  induction zs with
  | nil => intro l h; exact ⟨h, by simp⟩
  | cons x zs ih =>
    intro l h
    rw [List.foldl_cons]
    obtain ⟨h1, h2⟩ := ih (putL l x) (by rw [putL_ins]; exact ins_rise x l h)
    refine ⟨h1, fun z => ?_⟩
    rw [h2, putL_ins, ins_mem]
    simp only [List.mem_cons]
    constructor
    · rintro (h | h | h)
      · exact .inl (.inr h)
      · exact .inl (.inl h)
      · exact .inr h
    · rintro ((h | h) | h)
      · exact .inr (.inl h)
      · exact .inl h
      · exact .inr (.inr h)

def sortN (zs : List Int) : List Int := zs.mergeSort fun x y => decide (x ≤ y)
theorem sortN_len (zs : List Int) : (sortN zs).length = zs.length := List.length_mergeSort zs
theorem sortN_mem (zs : List Int) (x : Int) : x ∈ sortN zs ↔ x ∈ zs := (List.mergeSort_perm zs _).mem_iff
theorem sortN_le (zs : List Int) : ∀ i j (hi : i < (sortN zs).length) (hj : j < (sortN zs).length), i ≤ j → (sortN zs)[i] ≤ (sortN zs)[j] := by
  have h := List.pairwise_mergeSort (le := fun x y : Int => decide (x ≤ y)) (by intro a b c h1 h2; simp at *; omega) (by intro a b; simp; omega) zs
  intro i j hi hj hij
  by_cases e : i = j
  · subst e; exact Int.le_refl _
  · have := List.pairwise_iff_getElem.1 h i j hi hj (by omega)
    exact of_decide_eq_true this

theorem compact_upto (zs : List Int) (hs : ∀ i j (hi : i < zs.length) (hj : j < zs.length), i ≤ j → zs[i] ≤ zs[j]) : ∀ m, m ≤ zs.length → Rise (Lib.compactUpTo zs.toArray m) ∧ ∀ x, x ∈ Lib.compactUpTo zs.toArray m ↔ x ∈ zs.take m := by
  intro m
  induction m with
  | zero => intro _; exact ⟨by simp [Lib.compactUpTo, Rise], by simp [Lib.compactUpTo]⟩
  | succ m ih =>
    intro hm
    obtain ⟨h1, h2⟩ := ih (by omega)
    have hml : m < zs.length := by omega
    have ev : ∀ i (hi : i < zs.length), zs.toArray[i]! = zs[i] := fun i hi => by simp [getElem!_pos, hi]
    rw [Lib.compactUpTo_succ, List.take_succ_eq_append_getElem hml]
    by_cases hk : Lib.keeps zs.toArray m = true
    · rw [if_pos hk, ev m hml]
      refine ⟨List.pairwise_append.2 ⟨h1, by simp, fun x hx y hy => ?_⟩, fun x => by rw [List.mem_append, List.mem_append, h2]⟩
      simp only [List.mem_singleton] at hy
      subst hy
      obtain ⟨i, hi, rfl⟩ := List.getElem_of_mem ((h2 x).1 hx)
      simp only [List.length_take] at hi
      rw [List.getElem_take]
      have hk2 : m = 0 ∨ zs.toArray[m]! ≠ zs.toArray[m - 1]! := by simpa [Lib.keeps] using hk
      rcases hk2 with hk2 | hk2
      · omega
      · rw [ev m hml, ev (m - 1) (by omega)] at hk2
        have a1 := hs i (m - 1) (by omega) (by omega) (by omega)
        have a2 := hs (m - 1) m (by omega) hml (by omega)
        omega
    · rw [if_neg hk]
      have hk2 : ¬ (m = 0 ∨ zs.toArray[m]! ≠ zs.toArray[m - 1]!) := by simpa [Lib.keeps] using hk
      have hm0 : m ≠ 0 := fun e => hk2 (.inl e)
      have hme : zs.toArray[m]! = zs.toArray[m - 1]! := Classical.byContradiction fun e => hk2 (.inr e)
      rw [ev m hml, ev (m - 1) (by omega)] at hme
      refine ⟨by simpa using h1, fun x => ?_⟩
      rw [List.append_nil, h2, List.mem_append, List.mem_singleton]
      refine ⟨.inl, fun h => h.elim id fun e => ?_⟩
      rw [e, hme]
      refine List.mem_take_iff_getElem.2 ⟨m - 1, by omega, rfl⟩

theorem compact_put (zs : List Int) : Lib.compact (sortN zs) = zs.foldl putL [] := by
  obtain ⟨h1, h2⟩ := compact_upto (sortN zs) (sortN_le zs) _ (Nat.le_refl _)
  obtain ⟨h3, h4⟩ := fold_put zs [] (by simp [Rise])
  refine rise_one h1 h3 fun x => ?_
  show x ∈ Lib.compactUpTo (sortN zs).toArray (sortN zs).length ↔ _
  rw [h2, h4, List.take_length, sortN_mem]
  simp

/-- The blocks of the patches. -/
def blks (rs : List Rc) : List Int := (rs.filter fun r => decide (r.k = 1)).map Rc.b
def blocksN (rs : List Rc) : List Int := (blks rs).foldl putL []
theorem blks_snoc (rs : List Rc) (r : Rc) : blks (rs ++ [r]) = blks rs ++ (if r.k = 1 then [r.b] else []) := by
  unfold blks
  rw [List.filter_append, List.map_append]
  congr 1
  by_cases h : r.k = 1 <;> simp [h]
theorem blks_len (rs : List Rc) : (blks rs).length ≤ rs.length := by
  unfold blks
  rw [List.length_map]
  exact List.length_filter_le _ _
theorem blocksN_mem (rs : List Rc) (b : Int) : b ∈ blocksN rs ↔ ∃ r ∈ rs, r.k = 1 ∧ r.b = b := by
  have := (fold_put (blks rs) [] (by simp [Rise])).2 b
  unfold blocksN
  rw [this]
  simp only [blks, List.not_mem_nil, or_false, List.mem_map, List.mem_filter, decide_eq_true_eq]
  constructor
  · rintro ⟨r, ⟨h1, h2⟩, h3⟩; exact ⟨r, h1, h2, h3⟩
  · rintro ⟨r, h1, h2, h3⟩; exact ⟨r, ⟨h1, h2⟩, h3⟩
theorem ins_len (n : Int) : ∀ l, (ins n l).length ≤ l.length + 1
  | [] => by simp [ins]
  | x :: l => by
    unfold ins
    split
    · simp
    · split
      · simp
      · have := ins_len n l; simp; omega
theorem fold_len (zs : List Int) : ∀ l, (zs.foldl putL l).length ≤ l.length + zs.length := by
  induction zs with
  | nil => intro l; simp
  | cons x zs ih =>
    intro l
    rw [List.foldl_cons]
    have := ih (putL l x)
    have := ins_len x l
    rw [← putL_ins] at this
    simp; omega
theorem blocksN_len (rs : List Rc) : (blocksN rs).length ≤ rs.length := by
  have := fold_len (blks rs) []
  have := blks_len rs
  unfold blocksN
  simp at *
  omega

end Go.Proofs.Ytgdlbfoihpdlhaa
