/- Contracts of the document's own reader: Read, Num, Bytes, Uvar, End. -/
import Derived.Test.YtiloaehomdlokaaR3
set_option linter.unusedSimpArgs false
set_option linter.unusedVariables false
namespace Go.Proofs.Ytiloaehomdlokaa
open Go.RowKit Go.Attic

/-- The document's reader stands in block g; its bytes, what is left of them being l, in block d; its error is e. -/
structure Rr (w : World) (g : Nat) (d : Option Nat) (l : List Nat) (e : Int) : Prop where
  ex : ∃ ao cap, w.cell? ⟨g, 0, none⟩ = some (.slice ao l.length cap) ∧ Bs w (.slice ao l.length cap) l ∧ ∀ a, ao = some a → d = some a.block
  c1 : w.cell? ⟨g, 1, none⟩ = some (.int .i64 e)
  f0 : w.frozen? ⟨g, 0, none⟩ = false
  f1 : w.frozen? ⟨g, 1, none⟩ = false
  ne : d ≠ some g

theorem Rr.kept {w w' : World} {g g' : Nat} {d : Option Nat} {l : List Nat} {x : Int} (h : Rr w g d l x) (hg : w.grownBy w' (some g')) (h1 : g ≠ g') (h2 : d ≠ some g') : Rr w' g d l x := by
  obtain ⟨ao, cap, c0, hbs, hd⟩ := h.ex
  have hlt := World.block_lt_of_cell? w _ c0
  simp at hlt
  have hb := hg.block g hlt (by simp; omega)
  refine ⟨⟨ao, cap, hg.cell c0 (by simp; omega), Bs_grown hbs hd hg h2, hd⟩, hg.cell h.c1 (by simp; omega), ?_, ?_, h.ne⟩
  · rw [World.frozen?_of_block (w := w) (a := ⟨g, 0, none⟩) hb]; exact h.f0
  · rw [World.frozen?_of_block (w := w) (a := ⟨g, 1, none⟩) hb]; exact h.f1

theorem Rr.mono {w w' : World} {g : Nat} {d : Option Nat} {l : List Nat} {x : Int} (h : Rr w g d l x) (hb : Below w.heap.size w w') : Rr w' g d l x := by
  obtain ⟨ao, cap, c0, hbs, hd⟩ := h.ex
  have hlt := World.block_lt_of_cell? w _ c0
  simp at hlt
  exact ⟨⟨ao, cap, by rw [hb.cell (p := ⟨g, 0, none⟩) hlt]; exact c0, hbs.mono hb, hd⟩, by rw [hb.cell (p := ⟨g, 1, none⟩) hlt]; exact h.c1,
    by rw [hb.frozen (p := ⟨g, 0, none⟩) hlt]; exact h.f0, by rw [hb.frozen (p := ⟨g, 1, none⟩) hlt]; exact h.f1, h.ne⟩

theorem Rr.store1 {w : World} {g : Nat} {d : Option Nat} {l : List Nat} {x y : Int} (h : Rr w g d l x) : Rr (w.setCell ⟨g, 1, none⟩ (.int .i64 y)) g d l y := by
  obtain ⟨ao, cap, c0, hbs, hd⟩ := h.ex
  exact ⟨⟨ao, cap, cell_set_other c0 (by omega), Bs_grown hbs hd (grown_setCell w g 1 _) h.ne, hd⟩, cell_set_same h.c1, by simpa using h.f0, by simpa using h.f1, h.ne⟩

theorem Rr.store0 {w : World} {g : Nat} {d : Option Nat} {l l' : List Nat} {x : Int} {ao' : Option Addr} {cap' : Nat} (h : Rr w g d l x) (hbs : Bs w (.slice ao' l'.length cap') l') (hd : ∀ a, ao' = some a → d = some a.block) :
    Rr (w.setCell ⟨g, 0, none⟩ (.slice ao' l'.length cap')) g d l' x := by
  obtain ⟨ao, cap, c0, _, _⟩ := h.ex
  exact ⟨⟨ao', cap', cell_set_same c0, Bs_grown hbs hd (grown_setCell w g 0 _) h.ne, hd⟩, cell_set_other h.c1 (by omega), by simpa using h.f0, by simpa using h.f1, h.ne⟩

/-- What 'r.B = r.B[n:]' leaves, in both of the walk's spellings. -/
theorem Rr.skip {w : World} {g : Nat} {d : Option Nat} {l : List Nat} {x : Int} {n cap : Nat} {ao : Option Addr} (h : Rr w g d l x) (hbs : Bs w (.slice ao l.length cap) l) (hd : ∀ a, ao = some a → d = some a.block) (hn : n ≤ l.length) :
    (cap = n → Rr (w.setCell ⟨g, 0, none⟩ (.slice ao (l.length - n) 0)) g d (l.drop n) x) ∧ (¬ cap = n → Rr (w.setCell ⟨g, 0, none⟩ (.slice (Option.map (fun y => y.add n) ao) (l.length - n) (cap - n))) g d (l.drop n) x) := by
  have hdr := hbs.drop hn
  have hld : (l.drop n).length = l.length - n := by simp
  constructor
  · intro hcn
    rw [if_pos hcn, ← hld] at hdr
    have HR := h.store0 hdr hd
    rw [hld, show cap - n = 0 by omega] at HR
    exact HR
  · intro hcn
    rw [if_neg hcn, ← hld] at hdr
    have HR := h.store0 hdr (by
      intro a ha
      cases ao with
      | none => simp at ha
      | some a0 =>
        simp at ha
        subst ha
        have := hd a0 rfl
        unfold Addr.add
        split <;> simpa using this)
    rw [hld] at HR
    exact HR

/-- What becomes of the document's reader in block g. -/
def ThenR (w : World) (g : Nat) (d : Option Nat) (l : List Nat) (x : Int) (w' : World) : Prop := Rr w' g d l x ∧ w.grownBy w' (some g)

set_option maxRecDepth 100000 in
set_option maxHeartbeats 400000 in
theorem rread_any (v : Value) (l : List Nat) (w : World) (h : Bs w v l) (hlen : l.length ≤ 140737488355328) :
    Calls Try.prog 28 #[v] w fun e w' => ∃ g d, e = .returned (.pointer (some ⟨g, 0, none⟩)) ∧ Rr w' g d l 0 ∧ Below w.heap.size w w' ∧ w.heap.size ≤ g ∧ g < w'.heap.size ∧ ∀ b, d = some b → w.heap.size ≤ b ∧ b < w'.heap.size := by
  obtain ⟨i0, hi, hz0, hz1, hz2⟩ := info_parts Try.info5
  go_enter Try.func28, Try.ntmps28
  go_wp2_with (first | (at_builtin; refine wpList_append_bs _ rfl (.const (.slice none 0 0)) (.tmp 3) 22 rfl w.heap.size 5 i0 (.int .u8 0) Try.underlying22 hi hz0 hz1 hz2 rfl _ 0 [] rfl (World.ownsRow_nil _ _ _ _) _ l rfl h (by omega) (Nat.le_refl _) ?_; intro v1 w1 ho hgrow; rw [Nat.zero_add, List.nil_append] at ho; obtain ⟨ao, cap, rfl, hcap, hao⟩ := owns_form ho) | fail)
  have hb : Below w.heap.size w w1 := (Below.refl _ _).grown hgrow (Nat.le_refl _) (by intro k hk; cases hk)
  have hs := Bs.of_owns ho h.lt
  have hlt := ho.lt
  clear ho hgrow
  go_ret
  have hz := hb.size
  refine ⟨w1.heap.size, (Value.slice ao l.length cap).ownBlock, rfl, ⟨⟨ao, cap, by simp, hs.alloc _, ?_⟩, by simp, by simp, by simp, ?_⟩, hb.alloc hz _, hz, by simp, ?_⟩
  · intro a ha
    subst ha
    rfl
  · intro e
    have := hlt _ e
    omega
  · intro b e
    have := hlt _ e
    simp
    omega

set_option maxRecDepth 100000 in
set_option maxHeartbeats 400000 in
theorem rrEnd_any {w : World} {g : Nat} {d : Option Nat} {l : List Nat} {x : Int} (h : Rr w g d l x) :
    Calls Try.prog 38 #[.pointer (some ⟨g, 0, none⟩)] w fun e w' => e = .returned (.int .i64 (endE l x)) ∧ w = w' := by
  obtain ⟨ao, cap, c0, hbs, hd⟩ := h.ex
  have c1 := h.c1
  clear h hbs hd
  by_cases hx : x = 0
  · subst hx
    by_cases hl : l.length = 0
    · have e : endE l 0 = 0 := by simp [endE, hl]
      rw [e]; clear e
      rw [hl] at c0
      go_enter Try.func38, Try.ntmps38
      go_wp2
      go_ret
      exact ⟨by simp, rfl⟩
    · have e : endE l 0 = 12 := by simp [endE, hl]
      rw [e]; clear e
      have hp : 0 < l.length := by omega
      clear hl
      go_enter Try.func38, Try.ntmps38
      go_wp2
      go_ret
      exact ⟨by simp, rfl⟩
  · have e : endE l x = x := by simp [endE, hx]
    rw [e]; clear e
    have hx' : (x == 0) = false := by simp [hx]
    clear hx
    go_enter Try.func38, Try.ntmps38
    go_wp2
    go_ret
    exact ⟨by simp, rfl⟩

set_option maxRecDepth 100000 in
set_option maxHeartbeats 400000 in
theorem rrNum_any {w : World} {g : Nat} {d : Option Nat} {l : List Nat} {x : Int} (n : Int) (h : Rr w g d l x) (hlen : l.length ≤ 140737488355328) :
    Calls Try.prog 30 #[.pointer (some ⟨g, 0, none⟩), .int .i64 n] w fun e w' => e = .returned (.int .u64 ((numS l x n).1 : Nat)) ∧ ThenR w g d (numS l x n).2.1 (numS l x n).2.2 w' := by
  obtain ⟨ao, cap, c0, hbs, hd⟩ := h.ex
  have c1 := h.c1
  have f0 := h.f0
  have f1 := h.f1
  by_cases hx : x = 0
  · subst hx
    cases hw : widthB n with
    | false =>
      have e : numS l 0 n = (0, l, 1) := by simp [numS, hw]
      rw [e]; clear e
      have HR := hide (h.store1 (y := 1))
      have hw2 : ¬ (1 ≤ n ∧ n ≤ 8) := by intro hh; simp [widthB, hh] at hw
      clear hw
      by_cases h2 : n < 1
      · go_enter Try.func30, Try.ntmps30
        go_wp2
        go_ret
        exact ⟨rfl, HR.out, grown_setCell _ _ _ _⟩
      · have h3 : 8 < n := by omega
        go_enter Try.func30, Try.ntmps30
        go_wp2
        go_ret
        exact ⟨rfl, HR.out, grown_setCell _ _ _ _⟩
    | true =>
      have hw2 : 1 ≤ n ∧ n ≤ 8 := by simpa [widthB] using hw
      cases hgb : getB l 0 n with
      | false =>
        have e : numS l 0 n = (0, l, 10) := by simp [numS, hw, hgb]
        rw [e]; clear e
        have HR := hide (h.store1 (y := 10))
        have Hgb := hide hgb
        obtain ⟨hw3, hw4⟩ := hw2
        clear hgb hw
        go_enter Try.func30, Try.ntmps30
        go_wp2_with fail
        refine (rget_any _ l _ _ _ hbs hlen).mono ?_
        rintro e w' ⟨rfl, rfl⟩
        rw [Hgb.out]
        go_wp2
        go_ret
        exact ⟨rfl, HR.out, grown_setCell _ _ _ _⟩
      | true =>
        have e : numS l 0 n = (getV l 0 n, l.drop n.toNat, 0) := by simp [numS, hw, hgb]
        rw [e]; clear e
        have hb2 := hgb
        simp [getB, widthB] at hb2
        obtain ⟨n', rfl⟩ := Int.eq_ofNat_of_zero_le (show 0 ≤ n by omega)
        have hn : n' ≤ l.length := by omega
        rw [Int.toNat_natCast]
        have Hgb := hide hgb
        have HS := hide (h.skip hbs hd hn)
        obtain ⟨hw3, hw4⟩ := hw2
        clear hgb hb2 hw
        go_enter Try.func30, Try.ntmps30
        go_wp2_with fail
        refine (rget_any _ l _ _ _ hbs hlen).mono ?_
        rintro e w' ⟨rfl, rfl⟩
        rw [Hgb.out]
        go_wp2
        all_goals
          go_ret
          refine ⟨rfl, ?_, grown_setCell _ _ _ _⟩
          first | exact HS.out.1 (by assumption) | exact HS.out.2 (by assumption)
  · have e : numS l x n = (0, l, x) := by simp [numS, hx]
    rw [e]; clear e
    have hx' : (x != 0) = true := by simp [hx]
    clear hx
    go_enter Try.func30, Try.ntmps30
    go_wp2
    go_ret
    exact ⟨rfl, h, World.grownBy.refl _ _⟩

set_option maxRecDepth 100000 in
set_option maxHeartbeats 400000 in
theorem rrUvar_any {w : World} {g : Nat} {d : Option Nat} {l : List Nat} {x : Int} (h : Rr w g d l x) (hlen : l.length ≤ 140737488355328) :
    Calls Try.prog 34 #[.pointer (some ⟨g, 0, none⟩)] w fun e w' => e = .returned (.int .u64 ((uvarS l x).1 : Nat)) ∧ ThenR w g d (uvarS l x).2.1 (uvarS l x).2.2 w' := by
  obtain ⟨ao, cap, c0, hbs, hd⟩ := h.ex
  have c1 := h.c1
  have f0 := h.f0
  have f1 := h.f1
  by_cases hx : x = 0
  · subst hx
    obtain ⟨y, m, er, hr⟩ : ∃ y m er, takeN l = (y, m, er) := ⟨_, _, _, rfl⟩
    have ht := rtake_any _ l _ hbs hlen
    rw [hr] at ht
    have Ht := hide ht
    clear ht
    by_cases her : er = 0
    · subst her
      have e : uvarS l 0 = (y, l.drop m, 0) := by simp [uvarS, hr]
      have hm := takeN_le l hr
      have HS := hide (h.skip hbs hd hm)
      rw [e]; clear e hr
      go_enter Try.func34, Try.ntmps34
      go_wp2_with fail
      refine (Ht.out).mono ?_
      rintro e w' ⟨rfl, rfl⟩
      simp only [takeE]
      go_wp2
      all_goals
        go_ret
        refine ⟨rfl, ?_, grown_setCell _ _ _ _⟩
        first | exact HS.out.1 (by assumption) | exact HS.out.2 (by assumption)
    · have e : uvarS l 0 = (0, l, er) := by simp [uvarS, hr, her]
      rw [e]; clear e hr
      have her' : (er != 0) = true := by simp [her]
      have HR := hide (h.store1 (y := er))
      clear her
      go_enter Try.func34, Try.ntmps34
      go_wp2_with fail
      refine (Ht.out).mono ?_
      rintro e w' ⟨rfl, rfl⟩
      simp only [takeE]
      go_wp2
      go_ret
      exact ⟨rfl, HR.out, grown_setCell _ _ _ _⟩
  · have e : uvarS l x = (0, l, x) := by simp [uvarS, hx]
    rw [e]; clear e
    have hx' : (x != 0) = true := by simp [hx]
    clear hx
    go_enter Try.func34, Try.ntmps34
    go_wp2
    go_ret
    exact ⟨rfl, h, World.grownBy.refl _ _⟩

set_option maxRecDepth 100000 in
set_option maxHeartbeats 400000 in
theorem rrBytes_any {w : World} {g : Nat} {d : Option Nat} {l : List Nat} {x : Int} (n : Int) (h : Rr w g d l x) (hlen : l.length ≤ 140737488355328) :
    Calls Try.prog 32 #[.pointer (some ⟨g, 0, none⟩), .int .i64 n] w fun e w' => ∃ v, e = .returned v ∧ w'.ownsRow w.heap.size 5 1 v (bytesS l x n).1.length (cellsB (bytesS l x n).1) ∧ ThenR w g d (bytesS l x n).2.1 (bytesS l x n).2.2 w' := by
  obtain ⟨i0, hi, hz0, hz1, hz2⟩ := info_parts Try.info5
  obtain ⟨ao, cap, c0, hbs, hd⟩ := h.ex
  have c1 := h.c1
  have f0 := h.f0
  have f1 := h.f1
  by_cases hx : x = 0
  · subst hx
    by_cases hn0 : n < 0
    · have e : bytesS l 0 n = ([], l, 1) := by simp [bytesS, hn0]
      rw [e]; clear e
      have HR := hide (h.store1 (y := 1))
      go_enter Try.func32, Try.ntmps32
      go_wp2
      go_ret
      exact ⟨_, rfl, World.ownsRow_nil _ _ _ _, HR.out, grown_setCell _ _ _ _⟩
    · by_cases hnl : (l.length : Int) < n
      · have e : bytesS l 0 n = ([], l, 10) := by simp [bytesS, hn0, hnl]
        rw [e]; clear e
        have HR := hide (h.store1 (y := 10))
        go_enter Try.func32, Try.ntmps32
        go_wp2
        go_ret
        exact ⟨_, rfl, World.ownsRow_nil _ _ _ _, HR.out, grown_setCell _ _ _ _⟩
      · have e : bytesS l 0 n = (l.take n.toNat, l.drop n.toNat, 0) := by simp [bytesS, hn0, hnl]
        rw [e]; clear e
        obtain ⟨n', rfl⟩ := Int.eq_ofNat_of_zero_le (show 0 ≤ n by omega)
        have hn : n' ≤ l.length := by omega
        have hcap := hbs.cap
        rw [Int.toNat_natCast]
        have ht := hbs.take hn
        have htl : (l.take n').length = n' := by simp; omega
        have Htl := hide htl
        clear hn0 hnl htl
        have hz := World.block_lt_of_cell? w _ c0
        simp at hz
        go_enter Try.func32, Try.ntmps32
        go_wp2_with (first | (at_builtin; refine wpList_append_bs _ rfl (.const (.slice none 0 0)) (.tmp 31) 22 rfl w.heap.size 5 i0 (.int .u8 0) Try.underlying22 hi hz0 hz1 hz2 rfl _ 0 [] rfl (World.ownsRow_nil _ _ _ _) _ _ rfl ht (by rw [Htl.out]; omega) (Nat.le_refl _) ?_; intro v1 w1 ho hgrow; have hb : Below w.heap.size w w1 := (Below.refl _ _).grown hgrow (Nat.le_refl _) (by intro k hk; cases hk); have c0' : w1.cell? ⟨g, 0, none⟩ = some (.slice ao l.length cap) := (by rw [hb.cell (p := ⟨g, 0, none⟩) hz]; exact c0); have f0' : w1.frozen? ⟨g, 0, none⟩ = false := (by rw [hb.frozen (p := ⟨g, 0, none⟩) hz]; exact f0); clear c0 f0 c1 f1) | fail)
        all_goals
          rw [Nat.zero_add, List.nil_append, Htl.out] at ho
          have HS := hide ((Rr.mono ‹Rr w g d l 0› hb).skip (hbs.mono hb) hd hn)
          have hne : v1.ownBlock = none ∨ v1.ownBlock ≠ some g := by
            cases hv : v1.ownBlock with
            | none => exact .inl rfl
            | some k =>
              right
              intro e
              injection e with e
              have := (ho.lt k hv).1
              omega
          go_ret
          refine ⟨v1, rfl, ho.kept (grown_setCell w1 g 0 _) hne, ?_, grown_trans (grown_below hb) (grown_setCell _ _ _ _)⟩
          first | exact HS.out.1 (by assumption) | exact HS.out.2 (by assumption)
  · have e : bytesS l x n = ([], l, x) := by simp [bytesS, hx]
    rw [e]; clear e
    have hx' : (x != 0) = true := by simp [hx]
    clear hx
    go_enter Try.func32, Try.ntmps32
    go_wp2
    go_ret
    exact ⟨_, rfl, World.ownsRow_nil _ _ _ _, h, World.grownBy.refl _ _⟩

end Go.Proofs.Ytiloaehomdlokaa
