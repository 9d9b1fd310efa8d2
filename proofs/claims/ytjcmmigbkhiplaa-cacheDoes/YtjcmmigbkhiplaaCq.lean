/- What Clean makes of a cache and its disk. Nothing here speaks of one program. -/
import Derived.Test.YtjcmmigbkhiplaaCp
set_option linter.unusedVariables false
namespace Go.Attic
open Go.RowKit

def findI (A : List En) (z : Int) : Option En := A.find? (fun x => (x.i : Int) == z)
def markC (A : List En) (z : Int) : List En := A.map fun y => if (y.i : Int) = z then { y with d := false } else y
def cleanStep (n : Nat) (t : St × List En × Int) (z : Int) : St × List En × Int :=
  if t.2.2 ≠ 0 then t else
  match findI t.2.1 z with
  | none => t
  | some x => if (writeS t.1 n z x.l).2 = 0 then ((writeS t.1 n z x.l).1, markC t.2.1 z, 0) else ((writeS t.1 n z x.l).1, t.2.1, (writeS t.1 n z x.l).2)
def cleanF (n : Nat) (s : St) (A : List En) (zs : List Int) : St × List En × Int := zs.foldl (cleanStep n) (s, A, 0)

theorem cleanF_snoc (n : Nat) (s : St) (A : List En) (zs : List Int) (z : Int) : cleanF n s A (zs ++ [z]) = cleanStep n (cleanF n s A zs) z := by
  unfold cleanF; rw [List.foldl_append]; rfl

theorem cleanStep_err {n : Nat} {t : St × List En × Int} {z : Int} (h : t.2.2 ≠ 0) : cleanStep n t z = t := by
  unfold cleanStep; rw [if_pos h]
theorem cleanFold_err {n : Nat} : ∀ (zs : List Int) {t : St × List En × Int}, t.2.2 ≠ 0 → zs.foldl (cleanStep n) t = t
  | [], _, _ => rfl
  | z :: zs, t, h => by rw [List.foldl_cons, cleanStep_err h]; exact cleanFold_err zs h
theorem cleanF_pre {n : Nat} {s : St} {A : List En} {pre zs : List Int} (hp : pre <+: zs) (h : (cleanF n s A pre).2.2 ≠ 0) : cleanF n s A zs = cleanF n s A pre := by
  obtain ⟨t, rfl⟩ := hp
  unfold cleanF at h ⊢
  rw [List.foldl_append]
  exact cleanFold_err t h

theorem markC_i (A : List En) (z : Int) : (markC A z).map En.i = A.map En.i := by
  unfold markC
  rw [List.map_map]
  apply List.map_congr_left
  intro y _
  simp only [Function.comp]
  split <;> rfl
theorem cleanStep_i (n : Nat) (t : St × List En × Int) (z : Int) : (cleanStep n t z).2.1.map En.i = t.2.1.map En.i := by
  unfold cleanStep
  split
  · rfl
  · split
    · rfl
    · split
      · exact markC_i _ _
      · rfl
theorem cleanFold_i (n : Nat) : ∀ (zs : List Int) (t : St × List En × Int), (zs.foldl (cleanStep n) t).2.1.map En.i = t.2.1.map En.i
  | [], _ => rfl
  | z :: zs, t => by rw [List.foldl_cons, cleanFold_i n zs, cleanStep_i]
theorem cleanF_i (n : Nat) (s : St) (A : List En) (zs : List Int) : (cleanF n s A zs).2.1.map En.i = A.map En.i := cleanFold_i n zs _

theorem operS_pend (s : St) : (operS s).1.pend.length ≤ s.pend.length := by
  unfold operS
  split
  · exact Nat.le_refl _
  · split
    · simp [crashed]
    · exact Nat.le_refl _
theorem operS_ops (s : St) : (operS s).1.ops ≤ s.ops + 1 := by
  unfold operS
  split
  · exact Nat.le_refl _
  · split
    · simp [crashed]
    · exact Nat.le_refl _
theorem writeS_pend (s : St) (n : Nat) (i : Int) (b : List Nat) : (writeS s n i b).1.pend.length ≤ s.pend.length + 1 := by
  unfold writeS
  split
  · simp
  · split
    · simp
    · split
      · simp
      · refine Nat.le_trans (operS_pend _) ?_; simp
theorem writeS_ops (s : St) (n : Nat) (i : Int) (b : List Nat) : (writeS s n i b).1.ops ≤ s.ops + 1 := by
  unfold writeS
  split
  · simp
  · split
    · simp
    · split
      · simp
      · exact operS_ops _

theorem cleanStep_pend (n : Nat) (t : St × List En × Int) (z : Int) : (cleanStep n t z).1.pend.length ≤ t.1.pend.length + 1 ∧ (cleanStep n t z).1.ops ≤ t.1.ops + 1 := by
  unfold cleanStep
  split
  · simp
  · split
    · simp
    · split
      · exact ⟨writeS_pend _ _ _ _, writeS_ops _ _ _ _⟩
      · exact ⟨writeS_pend _ _ _ _, writeS_ops _ _ _ _⟩
theorem cleanFold_pend (n : Nat) : ∀ (zs : List Int) (t : St × List En × Int), (zs.foldl (cleanStep n) t).1.pend.length ≤ t.1.pend.length + zs.length ∧ (zs.foldl (cleanStep n) t).1.ops ≤ t.1.ops + zs.length
  | [], _ => by simp
  | z :: zs, t => by
    rw [List.foldl_cons]
    have h1 := cleanFold_pend n zs (cleanStep n t z)
    have h2 := cleanStep_pend n t z
    simp only [List.length_cons]
    omega
theorem cleanF_pend (n : Nat) (s : St) (A : List En) (zs : List Int) : (cleanF n s A zs).1.pend.length ≤ s.pend.length + zs.length ∧ (cleanF n s A zs).1.ops ≤ s.ops + zs.length := cleanFold_pend n zs _

end Go.Attic
