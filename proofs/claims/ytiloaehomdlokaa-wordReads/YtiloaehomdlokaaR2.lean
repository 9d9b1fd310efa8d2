/- Contracts of the reader: Read, Num, Bytes, Uvar. -/
import Derived.Test.YtiloaehomdlokaaR1
set_option linter.unusedSimpArgs false
set_option linter.unusedVariables false
namespace Go.Proofs.Ytiloaehomdlokaa
open Go.RowKit Go.Attic

set_option maxRecDepth 100000 in
set_option maxHeartbeats 400000 in
theorem read_any (v : Value) (l : List Nat) (w : World) (h : Bs w v l) (hlen : l.length ≤ 140737488355328) :
    Calls Try.prog 27 #[v] w fun e w' => ∃ g d, e = .returned (.pointer (some ⟨g, 0, none⟩)) ∧ Rd w' g d l 0 ∧ Below w.heap.size w w' ∧ w.heap.size ≤ g ∧ g < w'.heap.size ∧ ∀ b, d = some b → w.heap.size ≤ b ∧ b < w'.heap.size := by
  go_enter Try.func27, Try.ntmps27
  go_wp2_with fail
  refine (own_any v l w h hlen).mono ?_
  rintro e w1 ⟨v1, rfl, ho, hb⟩
  have hs := Bs.of_owns ho h.lt
  have hlt := ho.lt
  obtain ⟨ao, cap, rfl, hcap, hao⟩ := owns_form ho
  clear ho
  go_wp2
  go_ret
  have hz := hb.size
  refine ⟨w1.heap.size, (Value.slice ao l.length cap).ownBlock, rfl, ⟨⟨ao, cap, by simp, hs.alloc _, ?_⟩, by simp, by simp, by simp, by simp, ?_⟩, hb.alloc hz _, hz, by simp, ?_⟩
  · intro a ha
    subst ha
    rfl
  · intro e
    have := hlt _ e
    omega
  · intro b e
    have := hlt _ e
    simp
    omega

/-- What is asked of a reader, on lists. -/
def numS (l : List Nat) (x n : Int) : Nat × List Nat × Int := if x ≠ 0 then (0, l, x) else if widthB n = false then (0, l, 1) else if getB l 0 n = false then (0, l, 10) else (getV l 0 n, l.drop n.toNat, 0)
def bytesS (l : List Nat) (x n : Int) : List Nat × List Nat × Int := if x ≠ 0 then ([], l, x) else if n < 0 then ([], l, 1) else if (l.length : Int) < n then ([], l, 10) else (l.take n.toNat, l.drop n.toNat, 0)
def uvarS (l : List Nat) (x : Int) : Nat × List Nat × Int := if x ≠ 0 then (0, l, x) else if (takeN l).2.2 ≠ 0 then (0, l, (takeN l).2.2) else ((takeN l).1, l.drop (takeN l).2.1, 0)

/-- What becomes of the reader in block g. -/
def Then (w : World) (g : Nat) (d : Option Nat) (l : List Nat) (x : Int) (w' : World) : Prop := Rd w' g d l x ∧ w.grownBy w' (some g)

set_option maxRecDepth 100000 in
set_option maxHeartbeats 400000 in
theorem rdNum_any {w : World} {g : Nat} {d : Option Nat} {l : List Nat} {x : Int} (n : Int) (h : Rd w g d l x) (hlen : l.length ≤ 140737488355328) :
    Calls Try.prog 29 #[.pointer (some ⟨g, 0, none⟩), .int .i64 n] w fun e w' => e = .returned (.int .u64 ((numS l x n).1 : Nat)) ∧ Then w g d (numS l x n).2.1 (numS l x n).2.2 w' := by
  by_cases hx : x = 0
  · subst hx
    cases hw : widthB n with
    | false =>
      have e : numS l 0 n = (0, l, 1) := by simp [numS, hw]
      rw [e]; clear e
      go_enter Try.func29, Try.ntmps29
      go_wp2_with fail
      refine (reads_yes h).mono ?_
      rintro e w' ⟨rfl, rfl⟩
      go_wp2_with fail
      refine (isWidth_any _ _).mono ?_
      rintro e w' ⟨rfl, rfl⟩
      rw [hw]
      go_wp2_with fail
      refine (fail_yes h).mono ?_
      rintro e w1 ⟨rfl, h1, hg1⟩
      go_wp2
      go_ret
      exact ⟨rfl, h1, hg1⟩
    | true =>
      obtain ⟨ao, cap, c0, hbs, hd⟩ := h.ex
      cases hgb : getB l 0 n with
      | false =>
        have e : numS l 0 n = (0, l, 10) := by simp [numS, hw, hgb]
        rw [e]; clear e
        have Hgb := hide hgb
        clear hgb
        go_enter Try.func29, Try.ntmps29
        go_wp2_with fail
        refine (reads_yes h).mono ?_
        rintro e w' ⟨rfl, rfl⟩
        go_wp2_with fail
        refine (isWidth_any _ _).mono ?_
        rintro e w' ⟨rfl, rfl⟩
        rw [hw]
        go_wp2_with fail
        refine (get_any _ l _ _ _ hbs hlen).mono ?_
        rintro e w' ⟨rfl, rfl⟩
        rw [Hgb.out]
        go_wp2_with fail
        refine (fail_yes h).mono ?_
        rintro e w1 ⟨rfl, h1, hg1⟩
        go_wp2
        go_ret
        exact ⟨rfl, h1, hg1⟩
      | true =>
        have e : numS l 0 n = (getV l 0 n, l.drop n.toNat, 0) := by simp [numS, hw, hgb]
        rw [e]; clear e
        have hb2 := hgb
        simp [getB, widthB] at hb2
        obtain ⟨n', rfl⟩ := Int.eq_ofNat_of_zero_le (show 0 ≤ n by omega)
        have hn : n' ≤ l.length := by omega
        rw [Int.toNat_natCast]
        have Hgb := hide hgb
        clear hgb hb2
        go_enter Try.func29, Try.ntmps29
        go_wp2_with fail
        refine (reads_yes h).mono ?_
        rintro e w' ⟨rfl, rfl⟩
        go_wp2_with fail
        refine (isWidth_any _ _).mono ?_
        rintro e w' ⟨rfl, rfl⟩
        rw [hw]
        go_wp2_with fail
        refine (get_any _ l _ _ _ hbs hlen).mono ?_
        rintro e w' ⟨rfl, rfl⟩
        rw [Hgb.out]
        go_wp2_with fail
        refine (skip_yes h hn).mono ?_
        rintro e w1 ⟨rfl, h1, hg1⟩
        go_wp2
        go_ret
        exact ⟨rfl, h1, hg1⟩
  · have e : numS l x n = (0, l, x) := by simp [numS, hx]
    rw [e]; clear e
    have hx' : (x == 0) = false := by simp [hx]
    clear hx
    go_enter Try.func29, Try.ntmps29
    go_wp2_with fail
    refine (reads_yes h).mono ?_
    rintro e w' ⟨rfl, rfl⟩
    go_wp2
    go_ret
    exact ⟨rfl, h, World.grownBy.refl _ _⟩

set_option maxRecDepth 100000 in
set_option maxHeartbeats 400000 in
theorem rdBytes_any {w : World} {g : Nat} {d : Option Nat} {l : List Nat} {x : Int} (n : Int) (h : Rd w g d l x) (hlen : l.length ≤ 140737488355328) :
    Calls Try.prog 31 #[.pointer (some ⟨g, 0, none⟩), .int .i64 n] w fun e w' => ∃ v, e = .returned v ∧ w'.ownsRow w.heap.size 5 1 v (bytesS l x n).1.length (cellsB (bytesS l x n).1) ∧ Then w g d (bytesS l x n).2.1 (bytesS l x n).2.2 w' := by
  by_cases hx : x = 0
  · subst hx
    by_cases hn0 : n < 0
    · have e : bytesS l 0 n = ([], l, 1) := by simp [bytesS, hn0]
      rw [e]; clear e
      go_enter Try.func31, Try.ntmps31
      go_wp2_with fail
      refine (reads_yes h).mono ?_
      rintro e w' ⟨rfl, rfl⟩
      go_wp2_with fail
      refine (fail_yes h).mono ?_
      rintro e w1 ⟨rfl, h1, hg1⟩
      go_wp2
      go_ret
      exact ⟨_, rfl, World.ownsRow_nil _ _ _ _, h1, hg1⟩
    · obtain ⟨ao, cap, c0, hbs, hd⟩ := h.ex
      by_cases hnl : (l.length : Int) < n
      · have e : bytesS l 0 n = ([], l, 10) := by simp [bytesS, hn0, hnl]
        rw [e]; clear e
        go_enter Try.func31, Try.ntmps31
        go_wp2_with fail
        refine (reads_yes h).mono ?_
        rintro e w' ⟨rfl, rfl⟩
        go_wp2_with fail
        refine (fail_yes h).mono ?_
        rintro e w1 ⟨rfl, h1, hg1⟩
        go_wp2
        go_ret
        exact ⟨_, rfl, World.ownsRow_nil _ _ _ _, h1, hg1⟩
      · have e : bytesS l 0 n = (l.take n.toNat, l.drop n.toNat, 0) := by simp [bytesS, hn0, hnl]
        rw [e]; clear e
        obtain ⟨n', rfl⟩ := Int.eq_ofNat_of_zero_le (show 0 ≤ n by omega)
        have hn : n' ≤ l.length := by omega
        have hcap := hbs.cap
        rw [Int.toNat_natCast]
        have ht := hbs.take hn
        clear hn0 hnl
        go_enter Try.func31, Try.ntmps31
        go_wp2_with fail
        refine (reads_yes h).mono ?_
        rintro e w' ⟨rfl, rfl⟩
        go_wp2_with fail
        refine (own_any _ _ _ ht (by simp; omega)).mono ?_
        rintro e w1 ⟨v1, rfl, ho, hb⟩
        go_wp2_with fail
        refine (skip_yes (h.mono hb) hn).mono ?_
        rintro e w2 ⟨rfl, h2, hg2⟩
        have hz := World.block_lt_of_cell? w _ c0
        simp at hz
        have ho2 : w2.ownsRow w.heap.size 5 1 v1 (l.take n').length (cellsB (l.take n')) := ho.kept hg2 (by
          cases hv : v1.ownBlock with
          | none => exact .inl rfl
          | some k =>
            right
            intro e
            injection e with e
            have := (ho.lt k hv).1
            omega)
        clear ho
        go_wp2
        go_ret
        exact ⟨_, rfl, ho2, h2, grown_trans (grown_below hb) hg2⟩
  · have e : bytesS l x n = ([], l, x) := by simp [bytesS, hx]
    rw [e]; clear e
    have hx' : (x == 0) = false := by simp [hx]
    clear hx
    go_enter Try.func31, Try.ntmps31
    go_wp2_with fail
    refine (reads_yes h).mono ?_
    rintro e w' ⟨rfl, rfl⟩
    go_wp2
    go_ret
    exact ⟨_, rfl, World.ownsRow_nil _ _ _ _, h, World.grownBy.refl _ _⟩

end Go.Proofs.Ytiloaehomdlokaa
