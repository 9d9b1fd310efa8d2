/- What every sector of a disk may be, whatever is done with it. -/
import Derived.Test.YtjhbljkoapbkfaaLq
set_option linter.unusedSimpArgs false
set_option linter.unusedVariables false
namespace Go.Proofs.Ytjhbljkoapbkfaa
open Go.RowKit Go.Attic Go.Shelf

/-- Whatever sector the disk holds, in its medium or pending, is one that may be there. -/
def AllSec (n : Nat) (Q : Nat → Nat → List Nat → Prop) (s : St) : Prop :=
  (∀ b, b < n → ∀ k, k < 4 → Q b k (secOf (blockL s.med b) k)) ∧ ∀ x ∈ s.pend, ∀ k, k < 4 → Q x.1 k (secOf x.2 k)

theorem lastW_mem {ps : List (Nat × List Nat)} {i : Nat} {l : List Nat} (h : lastW ps i = some l) : (i, l) ∈ ps := by
  induction ps with
  | nil => cases h
  | cons w ps ih =>
    simp only [lastW] at h
    cases hw : lastW ps i with
    | some l' => rw [hw] at h; injection h with h; subst h; simp [ih hw]
    | none =>
      rw [hw] at h
      by_cases hb : w.1 = i
      · simp only [hb] at h; injection h with h; obtain ⟨a, c⟩ := w; dsimp only at hb h; subst hb h; simp
      · simp [hb] at h

theorem view_all {n : Nat} {Q : Nat → Nat → List Nat → Prop} {s : St} (h : AllSec n Q s) {b k : Nat} (hb : b < n) (hk : k < 4) : Q b k (secOf (readL s b) k) := by
  unfold readL
  cases hw : lastW s.pend b with
  | some l => exact h.2 _ (lastW_mem hw) k hk
  | none => exact h.1 b hb k hk

theorem sec_reach (med : List Nat) (b : Nat) (bytes : List Nat) (pick n i k : Nat) (hi : i < n) (hk : k < 4) (hl : med.length = 256 * n) (hb : bytes.length = 256) :
    secOf (blockL (reachL med b bytes pick) i) k = if b = i ∧ pick.testBit k = true then secOf bytes k else secOf (blockL med i) k := by
  have hl' : (reachL med b bytes pick).length = 256 * n := by rw [reachL_length]; exact hl
  have hB := blockL_length _ i n hi hl'
  have hM := blockL_length _ i n hi hl
  refine ext_getD ?_ fun j hj => ?_
  · rw [secOf_length hB]; split
    · rw [secOf_length hb]
    · rw [secOf_length hM]
  · rw [secOf_length hB] at hj
    have e1 : 256 * i + (k % 4 * 64 + j) < med.length := by omega
    rw [secOf_getD _ _ _ hj, blockL_getD _ _ _ (by omega)]
    unfold reachL
    rw [reachK_getD _ _ _ _ _ _ e1]
    have e2 : (256 * i + (k % 4 * 64 + j)) / 256 = i := by omega
    have e3 : (256 * i + (k % 4 * 64 + j)) % 256 = k * 64 + j := by omega
    have e4 : (k * 64 + j) / 64 = k := by omega
    rw [e2, e3, e4]
    by_cases hc : b = i ∧ pick.testBit k = true
    · rw [if_pos ⟨hc.1.symm, hk, hc.2⟩, if_pos hc, secOf_getD _ _ _ hj]
      congr 1; omega
    · rw [if_neg (fun h => hc ⟨h.1.symm, h.2.2⟩), if_neg hc, secOf_getD _ _ _ hj, blockL_getD _ _ _ (by omega)]

theorem settle_all {n : Nat} {Q : Nat → Nat → List Nat → Prop} (ps : List (Nat × List Nat)) : ∀ (med : List Nat) (ks : List Nat), med.length = 256 * n → (∀ x ∈ ps, x.2.length = 256) → (∀ b, b < n → ∀ k, k < 4 → Q b k (secOf (blockL med b) k)) → (∀ x ∈ ps, ∀ k, k < 4 → Q x.1 k (secOf x.2 k)) →
    ∀ b, b < n → ∀ k, k < 4 → Q b k (secOf (blockL (settleL med ps ks) b) k) := by
  induction ps with
  | nil => intro med ks _ _ h1 _; simpa [settleL] using h1
  | cons w ps ih =>
    intro med ks hl hp h1 h2
    cases ks with
    | nil => simpa [settleL] using h1
    | cons k0 ks =>
      rw [settleL]
      refine ih _ ks (by rw [reachL_length]; exact hl) (fun x hx => hp x (by simp [hx])) (fun b hb k hk => ?_) (fun x hx => h2 x (by simp [hx]))
      rw [sec_reach _ _ _ _ n _ _ hb hk hl (hp w (by simp))]
      split
      · rename_i h; rw [← h.1]; exact h2 w (by simp) k hk
      · exact h1 b hb k hk

theorem crashed_all {n : Nat} {Q : Nat → Nat → List Nat → Prop} {s : St} (h : AllSec n Q s) (hs : s.Ok n) (picks : List Nat) : AllSec n Q (crashed s picks) :=
  ⟨settle_all s.pend s.med picks hs.len (fun x hx => (hs.pend x hx).2.1) h.1 h.2, fun x hx => by simp [crashed] at hx⟩
theorem operS_all {n : Nat} {Q : Nat → Nat → List Nat → Prop} {s : St} (h : AllSec n Q s) (hs : s.Ok n) : AllSec n Q (operS s).1 ∧ (operS s).1.Ok n := by
  unfold operS
  split
  · exact ⟨h, ⟨hs.len, hs.n1, hs.n2, hs.lt, hs.pend, hs.left, hs.picks⟩⟩
  · split
    · exact ⟨crashed_all (s := { s with ops := s.ops + 1 }) h ⟨hs.len, hs.n1, hs.n2, hs.lt, hs.pend, hs.left, hs.picks⟩ _, St.Ok.crashed (s := { s with ops := s.ops + 1 }) ⟨hs.len, hs.n1, hs.n2, hs.lt, hs.pend, hs.left, hs.picks⟩ _⟩
    · exact ⟨h, ⟨hs.len, hs.n1, hs.n2, hs.lt, hs.pend, by have := hs.left; simp only; omega, hs.picks⟩⟩
theorem writeS_all {n : Nat} {Q : Nat → Nat → List Nat → Prop} {s : St} (h : AllSec n Q s) (hs : s.Ok n) (b : Nat) (x : List Nat) (hb : b < n) (hlt : ∀ y ∈ x, y < 256) (hx : ∀ k, k < 4 → Q b k (secOf x k)) : AllSec n Q (writeS s n (b : Int) x).1 ∧ (writeS s n (b : Int) x).1.Ok n := by
  unfold writeS
  split
  · exact ⟨h, hs⟩
  · split
    · exact ⟨h, hs⟩
    · split
      · exact ⟨h, hs⟩
      · rename_i hl
        refine operS_all (s := { s with pend := s.pend ++ [((b : Int).toNat, x)] }) ⟨h.1, fun y hy k hk => ?_⟩ ⟨hs.len, hs.n1, hs.n2, hs.lt, fun y hy => ?_, hs.left, hs.picks⟩
        · simp only [Int.toNat_natCast, List.mem_append, List.mem_singleton] at hy
          rcases hy with hy | rfl
          · exact h.2 y hy k hk
          · exact hx k hk
        · simp only [Int.toNat_natCast, List.mem_append, List.mem_singleton] at hy
          rcases hy with hy | rfl
          · exact hs.pend y hy
          · exact ⟨hb, by simpa using hl, hlt⟩
theorem flushS_all {n : Nat} {Q : Nat → Nat → List Nat → Prop} {s : St} (h : AllSec n Q s) (hs : s.Ok n) : AllSec n Q (flushS s).1 := by
  unfold flushS
  split
  · exact h
  · split
    · exact (operS_all h hs).1
    · exact ⟨settle_all s.pend s.med _ hs.len (fun x hx => (hs.pend x hx).2.1) h.1 h.2, fun x hx => by simp at hx⟩
theorem armS_all {n : Nat} {Q : Nat → Nat → List Nat → Prop} {s : St} (h : AllSec n Q s) (i : Int) (picks : List Nat) : AllSec n Q (armS s i picks).1 := by
  unfold armS
  split
  · exact h
  · split
    · exact h
    · split <;> exact h
theorem crashS_all {n : Nat} {Q : Nat → Nat → List Nat → Prop} {s : St} (h : AllSec n Q s) (hs : s.Ok n) (picks : List Nat) : AllSec n Q (crashS s picks).1 := by
  unfold crashS
  split
  · exact h
  · exact crashed_all h hs picks
theorem restartS_all {n : Nat} {Q : Nat → Nat → List Nat → Prop} {s : St} (h : AllSec n Q s) : AllSec n Q (restartS s).1 := by
  unfold restartS
  split <;> exact h
theorem AllSec.mono {n : Nat} {Q Q' : Nat → Nat → List Nat → Prop} {s : St} (h : AllSec n Q s) (hQ : ∀ b k c, Q b k c → Q' b k c) : AllSec n Q' s :=
  ⟨fun b hb k hk => hQ _ _ _ (h.1 b hb k hk), fun x hx k hk => hQ _ _ _ (h.2 x hx k hk)⟩

theorem lay_all {n base blocks : Nat} {Q : Nat → Nat → List Nat → Prop} (hb1 : 1 ≤ blocks) (hfit : base + blocks ≤ n) : ∀ (f : Nat) (s : St) (t : Nat) (rs : List Rc), s.Ok n → AllSec n Q s → (∀ r ∈ rs, okRc r) → (∀ r ∈ rs, ∀ x ∈ r.l, x < 256) →
    (∀ i (h : i < rs.length), Q (base + (t + i) / 4 % blocks) ((t + i) % 4) (secRc (t + i) rs[i])) → AllSec n Q (layN n base blocks f s t rs).1 := by
  intro f
  induction f with
  | zero => intro s t rs hs h _ _ _; exact h
  | succ f ih =>
    intro s t rs hs h hok hlt hQ
    by_cases h0 : rs.length = 0
    · rw [layN_nil h0]; exact h
    · cases hon : s.on with
      | false => rw [layN_off (by omega) hon]; exact h
      | true =>
        obtain ⟨c, hc⟩ : ∃ c, min rs.length (4 - t % 4) = c := ⟨_, rfl⟩
        have hc1 : 1 ≤ c ∧ c ≤ rs.length ∧ t % 4 + c ≤ 4 := by omega
        obtain ⟨b0, hb0⟩ : ∃ b0, base + t / 4 % blocks = b0 := ⟨_, rfl⟩
        have hb0n : b0 < n := by have : t / 4 % blocks < blocks := Nat.mod_lt _ (by omega)
                                 omega
        obtain ⟨hR1, hR2⟩ := readL_ok hs hb0n
        have htl : (rs.take c).length = c := by simp; omega
        have hok1 : ∀ r ∈ rs.take c, okRc r := fun r hr => hok r (List.mem_of_mem_take hr)
        have hlt1 : ∀ r ∈ rs.take c, ∀ x ∈ r.l, x < 256 := fun r hr => hlt r (List.mem_of_mem_take hr)
        have hxlt := layB_lt (readL s b0) t (rs.take c) hR2 hok1 hlt1
        obtain ⟨k1, k2⟩ := secOf_layB (rs.take c) (readL s b0) t hR1 hok1 (by omega)
        obtain ⟨x, hx⟩ : ∃ x, layB (readL s b0) t (rs.take c) = x := ⟨_, rfl⟩
        rw [hx] at hxlt k1 k2
        have hxQ : ∀ k, k < 4 → Q b0 k (secOf x k) := by
          intro k hk
          by_cases he : ∃ i, i < c ∧ (t + i) % 4 = k
          · obtain ⟨i, hi, rfl⟩ := he
            rw [secOf_mod, k1 i (by omega)]
            have := hQ i (by omega)
            rw [show (t + i) / 4 = t / 4 by omega, hb0] at this
            simpa using this
          · rw [k2 k (fun i hi e => he ⟨i, by omega, by omega⟩)]
            exact view_all h hb0n hk
        obtain ⟨hA, hA2⟩ := writeS_all h hs b0 x hb0n hxlt hxQ
        by_cases he : (writeS s n (b0 : Int) x).2 = 0
        · have hgo := layN_go (n := n) (f := f) (base := base) (blocks := blocks) (t := t) (s := s) (rs := rs) (c := c) (b := x) (by omega) hon hc (by rw [hb0]; exact hx) (by rw [hb0]; exact he)
          rw [hgo, hb0]
          refine ih _ _ _ hA2 hA (fun r hr => hok r (List.mem_of_mem_drop hr)) (fun r hr => hlt r (List.mem_of_mem_drop hr)) (fun i hi => ?_)
          have := hQ (c + i) (by simp at hi; omega)
          rw [show t + (c + i) = t + c + i by omega] at this
          simpa using this
        · have hgo := layN_err (n := n) (f := f) (base := base) (blocks := blocks) (t := t) (s := s) (rs := rs) (c := c) (b := x) (by omega) hon hc (by rw [hb0]; exact hx) (by rw [hb0]; exact he)
          rw [hgo, hb0]
          exact hA

/-- Noughts are no record. -/
theorem zeros_no (n : Nat) : NoRc (List.replicate 64 0) n := by
  rintro r ⟨k, b, o, m, l, rfl, h⟩
  have h1 := h.fields.1
  have h2 := (okR_range h.1).1
  have : (List.replicate 64 0).getD 0 0 = 0 := rfl
  omega
theorem blockL_new (n b : Nat) (hb : b < n) (k : Nat) : secOf (blockL (newS n).med b) k = List.replicate 64 0 := by
  have hl : (newS n).med.length = 256 * n := by simp [newS, ofS]; omega
  have hB := blockL_length (newS n).med b n hb hl
  refine ext_getD (by rw [secOf_length hB]; rfl) fun j hj => ?_
  rw [secOf_length hB] at hj
  rw [secOf_getD _ _ _ hj, blockL_getD _ _ _ (by omega)]
  have : ∀ (N i : Nat), (List.replicate N 0).getD i 0 = 0 := by
    intro N i
    rw [List.getD_eq_getElem?_getD, List.getElem?_replicate]
    split <;> rfl
  rw [this 64]
  exact this _ _
theorem newS_all (n : Nat) (Q : Nat → Nat → List Nat → Prop) (hQ : ∀ b k, b < n → k < 4 → Q b k (List.replicate 64 0)) : AllSec n Q (newS n) :=
  ⟨fun b hb k hk => by rw [blockL_new n b hb]; exact hQ b k hb hk, fun x hx => by simp [newS, ofS] at hx⟩

end Go.Proofs.Ytjhbljkoapbkfaa
