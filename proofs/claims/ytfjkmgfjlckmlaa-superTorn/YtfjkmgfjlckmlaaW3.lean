/- Contracts of the reader: isMade, Err, reads, fail, skip, Read, Num, Bytes. -/
import Derived.Test.YtfjkmgfjlckmlaaW2
set_option linter.unusedSimpArgs false
set_option linter.unusedVariables false
namespace Go.Proofs.Ytfjkmgfjlckmlaa
open Go.RowKit Go.Attic

/-- A reader stands in block g; its bytes, what is left of them being l, in block d; its error is e. -/
structure Rd (w : World) (g : Nat) (d : Option Nat) (l : List Nat) (e : Int) : Prop where
  ex : ∃ ao cap, w.cell? ⟨g, 0, none⟩ = some (.slice ao l.length cap) ∧ Bs w (.slice ao l.length cap) l ∧ ∀ a, ao = some a → d = some a.block
  c1 : w.cell? ⟨g, 1, none⟩ = some (.int .i64 e)
  c2 : w.cell? ⟨g, 2, none⟩ = some (.bool true)
  f0 : w.frozen? ⟨g, 0, none⟩ = false
  f1 : w.frozen? ⟨g, 1, none⟩ = false
  ne : d ≠ some g

set_option maxRecDepth 100000 in
set_option maxHeartbeats 400000 in
theorem isMade_yes {w : World} {g : Nat} {d : Option Nat} {l : List Nat} {e : Int} (h : Rd w g d l e) :
    Calls Try.prog 54 #[.pointer (some ⟨g, 0, none⟩)] w fun e w' => e = .returned (.bool true) ∧ w = w' := by
  have c2 := h.c2
  clear h
  go_enter Try.func54, Try.ntmps54
  go_wp2
  go_ret
  exact ⟨by simp, rfl⟩

set_option maxRecDepth 100000 in
set_option maxHeartbeats 400000 in
theorem err_yes {w : World} {g : Nat} {d : Option Nat} {l : List Nat} {x : Int} (h : Rd w g d l x) :
    Calls Try.prog 53 #[.pointer (some ⟨g, 0, none⟩)] w fun e w' => e = .returned (.int .i64 x) ∧ w = w' := by
  have c1 := h.c1
  go_enter Try.func53, Try.ntmps53
  go_wp2_with fail
  refine (isMade_yes h).mono ?_
  rintro e w' ⟨rfl, rfl⟩
  go_wp2
  go_ret
  exact ⟨by simp, rfl⟩

set_option maxRecDepth 100000 in
set_option maxHeartbeats 400000 in
theorem reads_yes {w : World} {g : Nat} {d : Option Nat} {l : List Nat} {x : Int} (h : Rd w g d l x) :
    Calls Try.prog 49 #[.pointer (some ⟨g, 0, none⟩)] w fun e w' => e = .returned (.bool (x == 0)) ∧ w = w' := by
  go_enter Try.func49, Try.ntmps49
  go_wp2_with fail
  refine (err_yes h).mono ?_
  rintro e w' ⟨rfl, rfl⟩
  go_wp2
  go_ret
  exact ⟨by simp, rfl⟩

theorem grown_setCell (w : World) (g o : Nat) (u : Value) : w.grownBy (w.setCell ⟨g, o, none⟩ u) (some g) :=
  ⟨rfl, rfl, rfl, by simp [World.setCell], fun k _ hk => Below.heap_setCell _ _ _ _ (by simpa using hk)⟩

theorem grown_trans {a b c : World} {r : Option Nat} (h : a.grownBy b r) (k : b.grownBy c r) : a.grownBy c r :=
  ⟨k.os.trans h.os, k.tape.trans h.tape, k.output.trans h.output, Nat.le_trans h.size k.size, fun i hi hr => (k.block i (Nat.lt_of_lt_of_le hi h.size) hr).trans (h.block i hi hr)⟩

theorem grown_below {w w' : World} {r : Option Nat} (h : Below w.heap.size w w') : w.grownBy w' r := ⟨h.os, h.tape, h.output, h.size, fun k hk _ => h.block k hk⟩

/-- Bytes that lie in another block stay. -/
theorem Bs_grown {w w' : World} {ao : Option Addr} {n cap g : Nat} {d : Option Nat} {l : List Nat} (h : Bs w (.slice ao n cap) l) (hd : ∀ a, ao = some a → d = some a.block) (hg : w.grownBy w' (some g)) (hne : d ≠ some g) : Bs w' (.slice ao n cap) l := by
  obtain ⟨ao', cap', hv, hl, hnn, hx, hc⟩ := h
  injection hv with e1 e2 e3
  subst e1 e3
  refine ⟨ao, cap, by rw [e2], hl, hnn, hx, fun hp => ?_⟩
  obtain ⟨b, off, ha, hcc⟩ := hc hp
  refine ⟨b, off, ha, fun i hi => ?_⟩
  have hb := hd _ ha
  exact hg.cell (hcc i hi) (by intro e; exact hne (hb.trans e))

theorem Rd.kept {w w' : World} {g g' : Nat} {d : Option Nat} {l : List Nat} {x : Int} (h : Rd w g d l x) (hg : w.grownBy w' (some g')) (h1 : g ≠ g') (h2 : d ≠ some g') : Rd w' g d l x := by
  obtain ⟨ao, cap, c0, hbs, hd⟩ := h.ex
  have hlt := World.block_lt_of_cell? w _ c0
  simp at hlt
  have hb := hg.block g hlt (by simp; omega)
  refine ⟨⟨ao, cap, hg.cell c0 (by simp; omega), Bs_grown hbs hd hg h2, hd⟩, hg.cell h.c1 (by simp; omega), hg.cell h.c2 (by simp; omega), ?_, ?_, h.ne⟩
  · rw [World.frozen?_of_block (w := w) (a := ⟨g, 0, none⟩) hb]; exact h.f0
  · rw [World.frozen?_of_block (w := w) (a := ⟨g, 1, none⟩) hb]; exact h.f1

theorem Rd.mono {w w' : World} {g : Nat} {d : Option Nat} {l : List Nat} {x : Int} (h : Rd w g d l x) (hb : Below w.heap.size w w') : Rd w' g d l x := by
  obtain ⟨ao, cap, c0, hbs, hd⟩ := h.ex
  have hlt := World.block_lt_of_cell? w _ c0
  simp at hlt
  exact ⟨⟨ao, cap, by rw [hb.cell (p := ⟨g, 0, none⟩) hlt]; exact c0, hbs.mono hb, hd⟩, by rw [hb.cell (p := ⟨g, 1, none⟩) hlt]; exact h.c1, by rw [hb.cell (p := ⟨g, 2, none⟩) hlt]; exact h.c2,
    by rw [hb.frozen (p := ⟨g, 0, none⟩) hlt]; exact h.f0, by rw [hb.frozen (p := ⟨g, 1, none⟩) hlt]; exact h.f1, h.ne⟩

theorem cell_set_other {w : World} {g o o' : Nat} {u v : Value} (h : w.cell? ⟨g, o', none⟩ = some v) (hne : o ≠ o') : (w.setCell ⟨g, o, none⟩ u).cell? ⟨g, o', none⟩ = some v := by
  rw [World.cell?_setCell_other _ _ _ _ (by intro e; injection e with e1 e2; omega)]
  exact h

theorem cell_set_same {w : World} {g o : Nat} {u v : Value} (h : w.cell? ⟨g, o, none⟩ = some v) : (w.setCell ⟨g, o, none⟩ u).cell? ⟨g, o, none⟩ = some u := by
  exact World.cell?_setCell_same _ _ _ h

theorem Rd.store1 {w : World} {g : Nat} {d : Option Nat} {l : List Nat} {x y : Int} (h : Rd w g d l x) : Rd (w.setCell ⟨g, 1, none⟩ (.int .i64 y)) g d l y := by
  obtain ⟨ao, cap, c0, hbs, hd⟩ := h.ex
  exact ⟨⟨ao, cap, cell_set_other c0 (by omega), Bs_grown hbs hd (grown_setCell w g 1 _) h.ne, hd⟩, cell_set_same h.c1, cell_set_other h.c2 (by omega), by simpa using h.f0, by simpa using h.f1, h.ne⟩

theorem Rd.store0 {w : World} {g : Nat} {d : Option Nat} {l l' : List Nat} {x : Int} {ao' : Option Addr} {cap' : Nat} (h : Rd w g d l x) (hbs : Bs w (.slice ao' l'.length cap') l') (hd : ∀ a, ao' = some a → d = some a.block) :
    Rd (w.setCell ⟨g, 0, none⟩ (.slice ao' l'.length cap')) g d l' x := by
  obtain ⟨ao, cap, c0, _, _⟩ := h.ex
  exact ⟨⟨ao', cap', cell_set_same c0, Bs_grown hbs hd (grown_setCell w g 0 _) h.ne, hd⟩, cell_set_other h.c1 (by omega), cell_set_other h.c2 (by omega), by simpa using h.f0, by simpa using h.f1, h.ne⟩

set_option maxRecDepth 100000 in
set_option maxHeartbeats 400000 in
theorem fail_yes {w : World} {g : Nat} {d : Option Nat} {l : List Nat} {x y : Int} (h : Rd w g d l x) :
    Calls Try.prog 50 #[.pointer (some ⟨g, 0, none⟩), .int .i64 y] w fun e w' => e = .returned (.tuple #[]) ∧ Rd w' g d l y ∧ w.grownBy w' (some g) := by
  have c1 := h.c1
  have f1 := h.f1
  have HR := hide (h.store1 (y := y))
  clear h
  go_enter Try.func50, Try.ntmps50
  go_wp2
  go_end0
  exact ⟨rfl, HR.out, grown_setCell _ _ _ _⟩

set_option maxRecDepth 100000 in
set_option maxHeartbeats 400000 in
theorem skip_yes {w : World} {g : Nat} {d : Option Nat} {l : List Nat} {x : Int} {n : Nat} (h : Rd w g d l x) (hn : n ≤ l.length) :
    Calls Try.prog 51 #[.pointer (some ⟨g, 0, none⟩), .int .i64 n] w fun e w' => e = .returned (.tuple #[]) ∧ Rd w' g d (l.drop n) x ∧ w.grownBy w' (some g) := by
  obtain ⟨ao, cap, c0, hbs, hd⟩ := h.ex
  have f0 := h.f0
  have hdr := hbs.drop hn
  have hld : (l.drop n).length = l.length - n := by simp
  by_cases hcn : cap = n
  · rw [if_pos hcn, ← hld] at hdr
    have HR := h.store0 hdr hd
    rw [hld] at HR
    have hz : cap - n = 0 := by omega
    rw [hz] at HR
    have HR2 := hide HR
    clear HR h hdr hld hbs
    go_enter Try.func51, Try.ntmps51
    go_wp2
    go_end0
    exact ⟨rfl, HR2.out, grown_setCell _ _ _ _⟩
  · rw [if_neg hcn, ← hld] at hdr
    have HR := h.store0 hdr (by
      intro a ha
      cases ao with
      | none => simp at ha
      | some a0 =>
        simp at ha
        subst ha
        have := hd a0 rfl
        unfold Addr.add
        split <;> simpa using this)
    rw [hld] at HR
    have HR2 := hide HR
    clear HR h hdr hld hbs
    go_enter Try.func51, Try.ntmps51
    go_wp2
    go_end0
    exact ⟨rfl, HR2.out, grown_setCell _ _ _ _⟩


set_option maxRecDepth 100000 in
set_option maxHeartbeats 400000 in
theorem read_any (v : Value) (l : List Nat) (w : World) (h : Bs w v l) (hlen : l.length ≤ 140737488355328) :
    Calls Try.prog 41 #[v] w fun e w' => ∃ g d, e = .returned (.pointer (some ⟨g, 0, none⟩)) ∧ Rd w' g d l 0 ∧ Below w.heap.size w w' ∧ w.heap.size ≤ g ∧ g < w'.heap.size ∧ ∀ b, d = some b → w.heap.size ≤ b ∧ b < w'.heap.size := by
  go_enter Try.func41, Try.ntmps41
  go_wp2_with fail
  refine (own_any v l w h hlen).mono ?_
  rintro e w1 ⟨v1, rfl, ho, hb⟩
  have hs := Bs.of_owns ho h.lt
  have hlt := ho.lt
  obtain ⟨ao, cap, rfl, hcap, hao⟩ := owns_form ho
  clear ho
  go_wp2
  go_ret
  have hz := hb.size
  refine ⟨w1.heap.size, (Value.slice ao l.length cap).ownBlock, rfl, ⟨⟨ao, cap, by simp, hs.alloc _, ?_⟩, by simp, by simp, by simp, by simp, ?_⟩, hb.alloc hz _, hz, by simp, ?_⟩
  · intro a ha
    subst ha
    rfl
  · intro e
    have := hlt _ e
    omega
  · intro b e
    have := hlt _ e
    simp
    omega

/-- What is asked of a reader, on lists. -/
def numS (l : List Nat) (x n : Int) : Nat × List Nat × Int := if x ≠ 0 then (0, l, x) else if widthB n = false then (0, l, 1) else if getB l 0 n = false then (0, l, 10) else (getV l 0 n, l.drop n.toNat, 0)
def bytesS (l : List Nat) (x n : Int) : List Nat × List Nat × Int := if x ≠ 0 then ([], l, x) else if n < 0 then ([], l, 1) else if (l.length : Int) < n then ([], l, 10) else (l.take n.toNat, l.drop n.toNat, 0)
/-- What becomes of the reader in block g. -/
def Then (w : World) (g : Nat) (d : Option Nat) (l : List Nat) (x : Int) (w' : World) : Prop := Rd w' g d l x ∧ w.grownBy w' (some g)

set_option maxRecDepth 100000 in
set_option maxHeartbeats 400000 in
theorem rdNum_any {w : World} {g : Nat} {d : Option Nat} {l : List Nat} {x : Int} (n : Int) (h : Rd w g d l x) (hlen : l.length ≤ 140737488355328) :
    Calls Try.prog 43 #[.pointer (some ⟨g, 0, none⟩), .int .i64 n] w fun e w' => e = .returned (.int .u64 ((numS l x n).1 : Nat)) ∧ Then w g d (numS l x n).2.1 (numS l x n).2.2 w' := by
  by_cases hx : x = 0
  · subst hx
    cases hw : widthB n with
    | false =>
      have e : numS l 0 n = (0, l, 1) := by simp [numS, hw]
      rw [e]; clear e
      go_enter Try.func43, Try.ntmps43
      go_wp2_with fail
      refine (reads_yes h).mono ?_
      rintro e w' ⟨rfl, rfl⟩
      go_wp2_with fail
      refine (isWidth_any _ _).mono ?_
      rintro e w' ⟨rfl, rfl⟩
      rw [hw]
      go_wp2_with fail
      refine (fail_yes h).mono ?_
      rintro e w1 ⟨rfl, h1, hg1⟩
      go_wp2
      go_ret
      exact ⟨rfl, h1, hg1⟩
    | true =>
      obtain ⟨ao, cap, c0, hbs, hd⟩ := h.ex
      cases hgb : getB l 0 n with
      | false =>
        have e : numS l 0 n = (0, l, 10) := by simp [numS, hw, hgb]
        rw [e]; clear e
        have Hgb := hide hgb
        clear hgb
        go_enter Try.func43, Try.ntmps43
        go_wp2_with fail
        refine (reads_yes h).mono ?_
        rintro e w' ⟨rfl, rfl⟩
        go_wp2_with fail
        refine (isWidth_any _ _).mono ?_
        rintro e w' ⟨rfl, rfl⟩
        rw [hw]
        go_wp2_with fail
        refine (get_any _ l _ _ _ hbs hlen).mono ?_
        rintro e w' ⟨rfl, rfl⟩
        rw [Hgb.out]
        go_wp2_with fail
        refine (fail_yes h).mono ?_
        rintro e w1 ⟨rfl, h1, hg1⟩
        go_wp2
        go_ret
        exact ⟨rfl, h1, hg1⟩
      | true =>
        have e : numS l 0 n = (getV l 0 n, l.drop n.toNat, 0) := by simp [numS, hw, hgb]
        rw [e]; clear e
        have hb2 := hgb
        simp [getB, widthB] at hb2
        obtain ⟨n', rfl⟩ := Int.eq_ofNat_of_zero_le (show 0 ≤ n by omega)
        have hn : n' ≤ l.length := by omega
        rw [Int.toNat_natCast]
        have Hgb := hide hgb
        clear hgb hb2
        go_enter Try.func43, Try.ntmps43
        go_wp2_with fail
        refine (reads_yes h).mono ?_
        rintro e w' ⟨rfl, rfl⟩
        go_wp2_with fail
        refine (isWidth_any _ _).mono ?_
        rintro e w' ⟨rfl, rfl⟩
        rw [hw]
        go_wp2_with fail
        refine (get_any _ l _ _ _ hbs hlen).mono ?_
        rintro e w' ⟨rfl, rfl⟩
        rw [Hgb.out]
        go_wp2_with fail
        refine (skip_yes h hn).mono ?_
        rintro e w1 ⟨rfl, h1, hg1⟩
        go_wp2
        go_ret
        exact ⟨rfl, h1, hg1⟩
  · have e : numS l x n = (0, l, x) := by simp [numS, hx]
    rw [e]; clear e
    have hx' : (x == 0) = false := by simp [hx]
    clear hx
    go_enter Try.func43, Try.ntmps43
    go_wp2_with fail
    refine (reads_yes h).mono ?_
    rintro e w' ⟨rfl, rfl⟩
    go_wp2
    go_ret
    exact ⟨rfl, h, World.grownBy.refl _ _⟩

set_option maxRecDepth 100000 in
set_option maxHeartbeats 400000 in
theorem rdBytes_any {w : World} {g : Nat} {d : Option Nat} {l : List Nat} {x : Int} (n : Int) (h : Rd w g d l x) (hlen : l.length ≤ 140737488355328) :
    Calls Try.prog 42 #[.pointer (some ⟨g, 0, none⟩), .int .i64 n] w fun e w' => ∃ v, e = .returned v ∧ w'.ownsRow w.heap.size 5 1 v (bytesS l x n).1.length (cellsB (bytesS l x n).1) ∧ Then w g d (bytesS l x n).2.1 (bytesS l x n).2.2 w' := by
  by_cases hx : x = 0
  · subst hx
    by_cases hn0 : n < 0
    · have e : bytesS l 0 n = ([], l, 1) := by simp [bytesS, hn0]
      rw [e]; clear e
      go_enter Try.func42, Try.ntmps42
      go_wp2_with fail
      refine (reads_yes h).mono ?_
      rintro e w' ⟨rfl, rfl⟩
      go_wp2_with fail
      refine (fail_yes h).mono ?_
      rintro e w1 ⟨rfl, h1, hg1⟩
      go_wp2
      go_ret
      exact ⟨_, rfl, World.ownsRow_nil _ _ _ _, h1, hg1⟩
    · obtain ⟨ao, cap, c0, hbs, hd⟩ := h.ex
      by_cases hnl : (l.length : Int) < n
      · have e : bytesS l 0 n = ([], l, 10) := by simp [bytesS, hn0, hnl]
        rw [e]; clear e
        go_enter Try.func42, Try.ntmps42
        go_wp2_with fail
        refine (reads_yes h).mono ?_
        rintro e w' ⟨rfl, rfl⟩
        go_wp2_with fail
        refine (fail_yes h).mono ?_
        rintro e w1 ⟨rfl, h1, hg1⟩
        go_wp2
        go_ret
        exact ⟨_, rfl, World.ownsRow_nil _ _ _ _, h1, hg1⟩
      · have e : bytesS l 0 n = (l.take n.toNat, l.drop n.toNat, 0) := by simp [bytesS, hn0, hnl]
        rw [e]; clear e
        obtain ⟨n', rfl⟩ := Int.eq_ofNat_of_zero_le (show 0 ≤ n by omega)
        have hn : n' ≤ l.length := by omega
        have hcap := hbs.cap
        rw [Int.toNat_natCast]
        have ht := hbs.take hn
        clear hn0 hnl
        go_enter Try.func42, Try.ntmps42
        go_wp2_with fail
        refine (reads_yes h).mono ?_
        rintro e w' ⟨rfl, rfl⟩
        go_wp2_with fail
        refine (own_any _ _ _ ht (by simp; omega)).mono ?_
        rintro e w1 ⟨v1, rfl, ho, hb⟩
        go_wp2_with fail
        refine (skip_yes (h.mono hb) hn).mono ?_
        rintro e w2 ⟨rfl, h2, hg2⟩
        have hz := World.block_lt_of_cell? w _ c0
        simp at hz
        have ho2 : w2.ownsRow w.heap.size 5 1 v1 (l.take n').length (cellsB (l.take n')) := ho.kept hg2 (by
          cases hv : v1.ownBlock with
          | none => exact .inl rfl
          | some k =>
            right
            intro e
            injection e with e
            have := (ho.lt k hv).1
            omega)
        clear ho
        go_wp2
        go_ret
        exact ⟨_, rfl, ho2, h2, grown_trans (grown_below hb) hg2⟩
  · have e : bytesS l x n = ([], l, x) := by simp [bytesS, hx]
    rw [e]; clear e
    have hx' : (x == 0) = false := by simp [hx]
    clear hx
    go_enter Try.func42, Try.ntmps42
    go_wp2_with fail
    refine (reads_yes h).mono ?_
    rintro e w' ⟨rfl, rfl⟩
    go_wp2
    go_ret
    exact ⟨_, rfl, World.ownsRow_nil _ _ _ _, h, World.grownBy.refl _ _⟩


end Go.Proofs.Ytfjkmgfjlckmlaa
