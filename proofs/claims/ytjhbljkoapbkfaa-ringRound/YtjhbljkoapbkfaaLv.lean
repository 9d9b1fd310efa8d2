/- What the disk of a ring holds on which nothing crashed: just its records, each at its place. -/
import Derived.Test.YtjhbljkoapbkfaaLl
set_option linter.unusedSimpArgs false
set_option linter.unusedVariables false
namespace Go.Proofs.Ytjhbljkoapbkfaa
open Go.RowKit Go.Attic Go.ChangeShapes Go.WideShapes Go.Shelf

structure Cal (s : St) (nb head : Nat) (rs : List Rc) : Prop where
  on : s.on = true
  left : s.left = 0
  lt : ∀ x ∈ rs, ∀ y ∈ x.l, y < 256
  at_ : ∀ i (h : i < rs.length), secAt s 1 nb (head + i) = secRc (head + i) rs[i]
  low : AllSec 8 (Low (head + rs.length)) s

theorem mod_apart {a b c : Nat} (h : a < b) (hc : b - a < c) : b % c ≠ a % c := fun e => by
  have h1 : (b - a) % c = 0 := Nat.sub_mod_eq_zero_of_mod_eq e
  rw [Nat.mod_eq_of_lt hc] at h1
  omega

theorem Cal.new (nb head : Nat) : Cal (newS 8) nb head [] := ⟨rfl, rfl, by simp, by simp, low_new 8 _⟩

theorem Cal.scan {s : St} {nb head : Nat} {rs rs' : List Rc} (h : Cal s nb head rs) (h1 : 1 ≤ nb) (h2 : 1 + nb ≤ 8) (hl : rs.length ≤ 4 * nb) (hok : ∀ r ∈ rs, okRc r) (hh : head + rs.length ≤ 2305843009213693952) (hsc : Scanned (secAt s 1 nb) head (4 * nb) rs') : rs' = rs := by
  refine scanned_laid (s := s) hl hok h.lt hh h.at_ (.inr ?_) hsc
  have hlt : (head + rs.length) / 4 % nb < nb := Nat.mod_lt _ (by omega)
  unfold secAt
  rw [← secOf_mod]
  exact view_all h.low (b := 1 + (head + rs.length) / 4 % nb) (k := (head + rs.length) % 4) (by omega) (by omega) _ (by omega)

theorem Cal.app {s s' : St} {nb head : Nat} {rs l : List Rc} (h : Cal s nb head rs) (hs : s.Ok 8) (h1 : 1 ≤ nb) (h2 : 1 + nb ≤ 8) (hok : ∀ x ∈ l, okRc x) (hlt : ∀ x ∈ l, ∀ y ∈ x.l, y < 256) (hl : rs.length + l.length ≤ 4 * nb) (hh : head + rs.length + l.length ≤ 2305843009213693952) (e : layN 8 1 nb l.length s (head + rs.length) l = (s', 0)) :
    Cal s' nb head (rs ++ l) ∧ s'.pend.length ≤ s.pend.length + l.length ∧ s'.ops ≤ s.ops + l.length := by
  obtain ⟨s1, q1, q2, q3, q4, q5, q6, q7, q8, q9⟩ := lay_view (n := 8) (base := 1) (blocks := nb) h1 h2 l.length s (head + rs.length) l (Nat.le_refl _) hs h.on h.left hok hlt (by omega)
  rw [e] at q1
  injection q1 with q1 _
  subst q1
  have hA := lay_all (n := 8) (base := 1) (blocks := nb) (Q := Low (head + (rs ++ l).length)) h1 h2 l.length s (head + rs.length) l hs (h.low.low (by simp)) hok hlt (fun i hi N hN r' hr' => by
    have := (hr'.one (secRc_is (n := head + rs.length + i) (hok _ (List.getElem_mem hi)) (by omega) (hlt _ (List.getElem_mem hi)))).1
    simp at hN
    omega)
  rw [e] at hA
  refine ⟨⟨q3, q4, fun x hx => ?_, fun i hi => ?_, hA⟩, q6, q7⟩
  · rcases List.mem_append.1 hx with hx | hx
    · exact h.lt x hx
    · exact hlt x hx
  · by_cases hii : i < rs.length
    · rw [List.getElem_append_left hii, q9 (head + i) (fun j hj => mod_apart (by omega) (by omega))]
      exact h.at_ i hii
    · simp only [List.length_append] at hi
      rw [List.getElem_append_right (by omega)]
      have := q8 (i - rs.length) (by omega)
      rw [show head + rs.length + (i - rs.length) = head + i by omega] at this
      exact this

theorem Cal.cut {s : St} {nb head : Nat} {rs : List Rc} (h : Cal s nb head rs) (k : Nat) (hk : k ≤ rs.length) : Cal s nb (head + k) (rs.drop k) := by
  refine ⟨h.on, h.left, fun x hx => h.lt x (List.mem_of_mem_drop hx), fun i hi => ?_, h.low.low (by simp; omega)⟩
  simp only [List.length_drop] at hi
  simp only [List.getElem_drop, Nat.add_assoc]
  exact h.at_ (k + i) (by omega)

end Go.Proofs.Ytjhbljkoapbkfaa
