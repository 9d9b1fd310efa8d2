/- A log in which no number is as great as the next lap's. -/
import Derived.Test.YtjhbljkoapbkfaaLt
import Derived.Test.YtjhbljkoapbkfaaL14
import Derived.Test.YtjhbljkoapbkfaaS0
set_option linter.unusedSimpArgs false
set_option linter.unusedVariables false
namespace Go.Proofs.Ytjhbljkoapbkfaa
open Go.RowKit Go.Attic Go.Shelf

/-- No number from T on stands in a sector. -/
def Low (T : Nat) (_ _ : Nat) (c : List Nat) : Prop := ∀ n, T ≤ n → NoRc c n
theorem Low.mono {T T' b k : Nat} {c : List Nat} (h : Low T b k c) (hT : T ≤ T') : Low T' b k c := fun n hn => h n (by omega)

theorem layN_grows {n base blocks : Nat} : ∀ (f : Nat) (s : St) (t : Nat) (rs : List Rc), (layN n base blocks f s t rs).1.pend.length ≤ s.pend.length + rs.length ∧ (layN n base blocks f s t rs).1.ops ≤ s.ops + rs.length := by
  intro f
  induction f with
  | zero => intro s t rs; simp [layN]
  | succ f ih =>
    intro s t rs
    by_cases h0 : rs.length = 0
    · rw [layN_nil h0]; simp
    · cases hon : s.on with
      | false => rw [layN_off (by omega) hon]; simp
      | true =>
        obtain ⟨c, hc⟩ : ∃ c, min rs.length (4 - t % 4) = c := ⟨_, rfl⟩
        obtain ⟨b, hb⟩ : ∃ b, layB (readL s (base + t / 4 % blocks)) t (rs.take c) = b := ⟨_, rfl⟩
        have hg := writeS_grows s n ((base + t / 4 % blocks : Nat) : Int) b
        by_cases he : (writeS s n ((base + t / 4 % blocks : Nat) : Int) b).2 = 0
        · rw [layN_go (by omega) hon hc hb he]
          have := ih (writeS s n ((base + t / 4 % blocks : Nat) : Int) b).1 (t + c) (rs.drop c)
          simp only [List.length_drop] at this
          omega
        · rw [layN_err (by omega) hon hc hb he]
          omega

/-- Append, whatever the power does: no number is written that is as great as the next lap's. -/
theorem app_low {w : World} {r g m : Nat} {p : Option Nat} {F Fr : Nat → Prop} {n base blocks head : Nat} {s : St} {rs : List Rc} (h : RD w r g m p F Fr n base blocks head s rs) (v : Value) (l : List Rc) (Fl : Nat → Prop) (hL : Rs w Fl v l) (hlen : l.length ≤ 140737488355328) (hlens : ∀ x ∈ l, x.l.length ≤ 140737488355328)
    (hFl : ∀ k, Fl k → k < w.heap.size ∧ ¬ OwnR r g m F Fr k) (hpl : s.pend.length + 2000 ≤ 1000000) (hops : s.ops + 2000 ≤ 1000000) (hall : AllSec n (Low (head + 4 * blocks)) s) :
    ∃ (er : Int) (s' : St) (rs' : List Rc), AllSec n (Low (head + 4 * blocks)) s' ∧ s'.pend.length ≤ s.pend.length + 1024 ∧ s'.ops ≤ s.ops + 1024 ∧ Calls Try.prog 10 #[.pointer (some ⟨r, 0, none⟩), v] w fun e w' => e = .returned (.int .i64 er) ∧ RTurn w r g m F Fr n base blocks head s' rs' w' := by
  rcases first_bad l with hok | ⟨j, hj, h1, h2⟩
  · by_cases hro : 4 * blocks < rs.length + l.length
    · exact ⟨70, s, rs, hall, by omega, by omega, (app_ring h v l Fl hL hlen hok hro).mono (fun e w' hh => ⟨hh.1, h.still hh.2⟩)⟩
    · by_cases hlo : 1152921504606846976 < head + rs.length + l.length
      · exact ⟨3, s, rs, hall, by omega, by omega, (app_long h v l Fl hL hlen hok (by omega) hlo).mono (fun e w' hh => ⟨hh.1, h.still hh.2⟩)⟩
      · have hb2 := h.rk.b2
        have hA := lay_all (n := n) (base := base) (blocks := blocks) (Q := Low (head + 4 * blocks)) h.rk.b1 h.fit l.length s (head + rs.length) l h.dk.ok hall hok hL.lt (fun i hi N hN r' hr' => by
          have := (hr'.one (secRc_is (n := head + rs.length + i) (hok _ (List.getElem_mem hi)) (by omega) (hL.lt _ (List.getElem_mem hi)))).1
          omega)
        have hG := layN_grows (n := n) (base := base) (blocks := blocks) l.length s (head + rs.length) l
        by_cases hz : (layN n base blocks l.length s (head + rs.length) l).2 = 0
        · exact ⟨0, _, rs ++ l, hA, by omega, by omega, app_ok h v l Fl hL hlen hFl hpl hops hok (by omega) (by omega) hz⟩
        · exact ⟨_, _, rs, hA, by omega, by omega, app_err h v l Fl hL hlen hFl hpl hops hok (by omega) (by omega) hz⟩
  · exact ⟨60, s, rs, hall, by omega, by omega, (app_bad h v l Fl hL hlen j hj h1 h2 hlens).mono (fun e w' hh => ⟨hh.1, h.still hh.2⟩)⟩

theorem low_new (n T : Nat) : AllSec n (Low T) (newS n) := newS_all n _ (fun b k hb hk N hN => zeros_no N)
theorem AllSec.low {n T T' : Nat} {s : St} (h : AllSec n (Low T) s) (hT : T ≤ T') : AllSec n (Low T') s := h.mono (fun b k c hc => Low.mono (b := b) (k := k) hc hT)

/-- From T on nothing is held. -/
theorem scanned_low {n base blocks T head : Nat} {s : St} {rs : List Rc} (h : AllSec n (Low T) s) (hT : T ≤ head) (hb : 1 ≤ blocks) (hfit : base + blocks ≤ n) (hsc : Scanned (secAt s base blocks) head (4 * blocks) rs) : rs = [] := by
  refine hsc.one ⟨fun i hi => by simp at hi, by simp, .inr ?_⟩
  have hlt : (head + 0) / 4 % blocks < blocks := Nat.mod_lt _ (by omega)
  show NoRc (secAt s base blocks (head + 0)) (head + 0)
  unfold secAt
  rw [← secOf_mod]
  exact view_all h (b := base + (head + 0) / 4 % blocks) (k := (head + 0) % 4) (by omega) (by omega) _ (by omega)

end Go.Proofs.Ytjhbljkoapbkfaa
