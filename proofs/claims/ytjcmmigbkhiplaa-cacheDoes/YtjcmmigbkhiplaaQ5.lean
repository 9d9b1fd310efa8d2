/- Stores into the document's disk; contracts: goes, Restart, Arm. -/
import Derived.Test.YtjcmmigbkhiplaaQ3
set_option linter.unusedSimpArgs false
set_option linter.unusedVariables false
namespace Go.Proofs.Ytjcmmigbkhiplaa
open Go.RowKit Go.Attic

/-- All blocks of a disk of the document. -/
def OwnR (g : Nat) (F : Nat → Prop) (k : Nat) : Prop := k = g ∨ F k

/-- What becomes of the document's disk in block g. -/
def TurnR (w : World) (g : Nat) (F : Nat → Prop) (n : Nat) (s : St) (w' : World) : Prop :=
  ∃ q' p' F', Dr w' g q' p' F' n s ∧ Keeps (OwnR g F) w w' ∧ ∀ k, F' k → F k ∨ w.heap.size ≤ k

theorem Dr.ownLt {w : World} {g : Nat} {q p : Option Nat} {F : Nat → Prop} {n : Nat} {s : St} (h : Dr w g q p F n s) : ∀ k, OwnR g F k → k < w.heap.size := by
  rintro k (e | e)
  · subst e; exact h.gl
  · exact h.Fl k e

theorem BRows.widen {w : World} {q p : Option Nat} {F F' : Nat → Prop} {v : Value} {n : Nat} {med : List Nat} {vs : List Value} (h : BRows w q p F v n med vs) (hF : ∀ k, F k → F' k) : BRows w q p F' v n med vs :=
  ⟨h.row, h.own, fun i hv => ⟨(h.bs i hv).1, fun b hb => ⟨hF b ((h.bs i hv).2 b hb).1, ((h.bs i hv).2 b hb).2⟩⟩⟩

theorem Dr.widen {w : World} {g : Nat} {q p : Option Nat} {F F' : Nat → Prop} {n : Nat} {s : St} (h : Dr w g q p F n s) (hF : ∀ k, F k → F' k) (hg : ¬ F' g) (hl : ∀ k, F' k → k < w.heap.size) : Dr w g q p F' n s := by
  obtain ⟨v, vs, a1, a2⟩ := h.c0
  obtain ⟨v1, vs1, b1, b2, b3⟩ := h.c1
  obtain ⟨v5, pk, d1, d2, d3, d4, d5⟩ := h.c5
  exact ⟨⟨v, vs, a1, a2.widen hF⟩, ⟨v1, vs1, b1, b2.widen hF, b3⟩, h.c2, h.c3, h.c4, ⟨v5, pk, d1, d2, d3, d4, fun b hb => ⟨hF b (d5 b hb).1, (d5 b hb).2⟩⟩, h.f0, h.f1, h.f2, h.f3, h.f4, h.f5, fun b hb => ⟨hF b (h.qF b hb).1, (h.qF b hb).2⟩, hg, hl, h.ok⟩

theorem Dr.store2 {w : World} {g : Nat} {q p : Option Nat} {F : Nat → Prop} {n : Nat} {s : St} {b : Bool} (h : Dr w g q p F n s)  : Dr (w.setCell ⟨g, 2, none⟩ (.bool (!b))) g q p F n { s with on := b } := by
  obtain ⟨v, vs, a1, a2⟩ := h.c0
  obtain ⟨v1, vs1, b1, b2, b3⟩ := h.c1
  obtain ⟨v5, pk, d1, d2, d3, d4, d5⟩ := h.c5
  have hk : Keeps (fun k => k = g) w (w.setCell ⟨g, 2, none⟩ (.bool (!b))) := keeps_set w g 2 _
  have hS : ∀ k, F k → ¬ (fun k => k = g) k := fun k hk e => h.Fg (by have e' : k = g := e; exact e' ▸ hk)
  exact ⟨⟨v, vs, cell_set_other a1 (by omega), a2.keeps hk (fun b hb => hS b (h.qF b hb).1) hS⟩, ⟨v1, vs1, cell_set_other b1 (by omega), b2.keeps hk hS, b3⟩, cell_set_same h.c2, cell_set_other h.c3 (by omega), cell_set_other h.c4 (by omega), ⟨v5, pk, cell_set_other d1 (by omega), hk.bs d2 (fun b hb => hS b (d5 b hb).1), d3, d4, d5⟩,
    by simpa using h.f0, by simpa using h.f1, by simpa using h.f2, by simpa using h.f3, by simpa using h.f4, by simpa using h.f5,
    h.qF, h.Fg, fun k hk' => Nat.lt_of_lt_of_le (h.Fl k hk') hk.size, ⟨h.ok.len, h.ok.n1, h.ok.n2, h.ok.lt, h.ok.pend, h.ok.left, h.ok.picks⟩⟩

theorem Dr.store3 {w : World} {g : Nat} {q p : Option Nat} {F : Nat → Prop} {n : Nat} {s : St} {l : Nat} (h : Dr w g q p F n s)  : Dr (w.setCell ⟨g, 3, none⟩ (.int .i64 (l : Int))) g q p F n { s with ops := l } := by
  obtain ⟨v, vs, a1, a2⟩ := h.c0
  obtain ⟨v1, vs1, b1, b2, b3⟩ := h.c1
  obtain ⟨v5, pk, d1, d2, d3, d4, d5⟩ := h.c5
  have hk : Keeps (fun k => k = g) w (w.setCell ⟨g, 3, none⟩ (.int .i64 (l : Int))) := keeps_set w g 3 _
  have hS : ∀ k, F k → ¬ (fun k => k = g) k := fun k hk e => h.Fg (by have e' : k = g := e; exact e' ▸ hk)
  exact ⟨⟨v, vs, cell_set_other a1 (by omega), a2.keeps hk (fun b hb => hS b (h.qF b hb).1) hS⟩, ⟨v1, vs1, cell_set_other b1 (by omega), b2.keeps hk hS, b3⟩, cell_set_other h.c2 (by omega), cell_set_same h.c3, cell_set_other h.c4 (by omega), ⟨v5, pk, cell_set_other d1 (by omega), hk.bs d2 (fun b hb => hS b (d5 b hb).1), d3, d4, d5⟩,
    by simpa using h.f0, by simpa using h.f1, by simpa using h.f2, by simpa using h.f3, by simpa using h.f4, by simpa using h.f5,
    h.qF, h.Fg, fun k hk' => Nat.lt_of_lt_of_le (h.Fl k hk') hk.size, ⟨h.ok.len, h.ok.n1, h.ok.n2, h.ok.lt, h.ok.pend, h.ok.left, h.ok.picks⟩⟩

theorem Dr.store4 {w : World} {g : Nat} {q p : Option Nat} {F : Nat → Prop} {n : Nat} {s : St} {l : Nat} (h : Dr w g q p F n s) (hl : l ≤ 9223372036854775807) : ∃ pk, Dr (w.setCell ⟨g, 4, none⟩ (.int .i64 (l : Int))) g q p F n { s with left := l, picks := pk } ∧ (0 < s.left → pk = s.picks) := by
  obtain ⟨v, vs, a1, a2⟩ := h.c0
  obtain ⟨v1, vs1, b1, b2, b3⟩ := h.c1
  obtain ⟨v5, pk, d1, d2, d3, d4, d5⟩ := h.c5
  have hk : Keeps (fun k => k = g) w (w.setCell ⟨g, 4, none⟩ (.int .i64 (l : Int))) := keeps_set w g 4 _
  have hS : ∀ k, F k → ¬ (fun k => k = g) k := fun k hk e => h.Fg (by have e' : k = g := e; exact e' ▸ hk)
  exact ⟨pk, ⟨⟨v, vs, cell_set_other a1 (by omega), a2.keeps hk (fun b hb => hS b (h.qF b hb).1) hS⟩, ⟨v1, vs1, cell_set_other b1 (by omega), b2.keeps hk hS, b3⟩, cell_set_other h.c2 (by omega), cell_set_other h.c3 (by omega), cell_set_same h.c4, ⟨v5, pk, cell_set_other d1 (by omega), hk.bs d2 (fun b hb => hS b (d5 b hb).1), fun _ => rfl, d4, d5⟩,
    by simpa using h.f0, by simpa using h.f1, by simpa using h.f2, by simpa using h.f3, by simpa using h.f4, by simpa using h.f5,
    h.qF, h.Fg, fun k hk' => Nat.lt_of_lt_of_le (h.Fl k hk') hk.size, ⟨h.ok.len, h.ok.n1, h.ok.n2, h.ok.lt, h.ok.pend, hl, d4⟩⟩, d3⟩

theorem Dr.store5 {w : World} {g : Nat} {q p : Option Nat} {F : Nat → Prop} {n : Nat} {s : St} {u : Value} {l : List Nat} (h : Dr w g q p F n s) (hu : Bs w u l) (hl : l.length ≤ 140737488355328) (hb : ∀ b, u.ownBlock = some b → F b ∧ p ≠ some b ∧ q ≠ some b) : Dr (w.setCell ⟨g, 5, none⟩ u) g q p F n { s with picks := l } := by
  obtain ⟨v, vs, a1, a2⟩ := h.c0
  obtain ⟨v1, vs1, b1, b2, b3⟩ := h.c1
  obtain ⟨v5, pk, d1, d2, d3, d4, d5⟩ := h.c5
  have hk : Keeps (fun k => k = g) w (w.setCell ⟨g, 5, none⟩ u) := keeps_set w g 5 _
  have hS : ∀ k, F k → ¬ (fun k => k = g) k := fun k hk e => h.Fg (by have e' : k = g := e; exact e' ▸ hk)
  exact ⟨⟨v, vs, cell_set_other a1 (by omega), a2.keeps hk (fun b hb => hS b (h.qF b hb).1) hS⟩, ⟨v1, vs1, cell_set_other b1 (by omega), b2.keeps hk hS, b3⟩, cell_set_other h.c2 (by omega), cell_set_other h.c3 (by omega), cell_set_other h.c4 (by omega), ⟨u, l, cell_set_same d1, hk.bs hu (fun b hb' => hS b (hb b hb').1), fun _ => rfl, hl, hb⟩,
    by simpa using h.f0, by simpa using h.f1, by simpa using h.f2, by simpa using h.f3, by simpa using h.f4, by simpa using h.f5,
    h.qF, h.Fg, fun k hk' => Nat.lt_of_lt_of_le (h.Fl k hk') hk.size, ⟨h.ok.len, h.ok.n1, h.ok.n2, h.ok.lt, h.ok.pend, h.ok.left, hl⟩⟩

theorem Dr.store1 {w : World} {g : Nat} {q p : Option Nat} {F : Nat → Prop} {n : Nat} {s : St} (h : Dr w g q p F n s) : Dr (w.setCell ⟨g, 1, none⟩ (.slice none 0 0)) g q none F n { s with pend := [] } := by
  obtain ⟨v, vs, a1, a2⟩ := h.c0
  obtain ⟨v1, vs1, b1, b2, b3⟩ := h.c1
  obtain ⟨v5, pk, d1, d2, d3, d4, d5⟩ := h.c5
  have hk : Keeps (fun k => k = g) w (w.setCell ⟨g, 1, none⟩ (.slice none 0 0)) := keeps_set w g 1 _
  have hS : ∀ k, F k → ¬ (fun k => k = g) k := fun k hk e => h.Fg (by have e' : k = g := e; exact e' ▸ hk)
  have a3 := a2.keeps hk (fun b hb => hS b (h.qF b hb).1) hS
  exact ⟨⟨v, vs, cell_set_other a1 (by omega), ⟨a3.row, a3.own, fun i hv => ⟨(a3.bs i hv).1, fun b hb => ⟨((a3.bs i hv).2 b hb).1, by simp, ((a3.bs i hv).2 b hb).2.2⟩⟩⟩⟩, ⟨_, [], cell_set_same b1, ⟨World.ownsRow_nil _ _ _ _, rfl, rfl, by simp, by simp⟩, by simp⟩, cell_set_other h.c2 (by omega), cell_set_other h.c3 (by omega), cell_set_other h.c4 (by omega), ⟨v5, pk, cell_set_other d1 (by omega), hk.bs d2 (fun b hb => hS b (d5 b hb).1), d3, d4, fun b hb => ⟨(d5 b hb).1, by simp, (d5 b hb).2.2⟩⟩,
    by simpa using h.f0, by simpa using h.f1, by simpa using h.f2, by simpa using h.f3, by simpa using h.f4, by simpa using h.f5,
    fun b hb => ⟨(h.qF b hb).1, by simp⟩, h.Fg, fun k hk' => Nat.lt_of_lt_of_le (h.Fl k hk') hk.size, ⟨h.ok.len, h.ok.n1, h.ok.n2, h.ok.lt, by simp, h.ok.left, h.ok.picks⟩⟩

theorem Dr.picks {w : World} {g : Nat} {q p : Option Nat} {F : Nat → Prop} {n : Nat} {s : St} (h : Dr w g q p F n s) (l : List Nat) (hl : s.left = 0) (hp : l.length ≤ 140737488355328) : Dr w g q p F n { s with picks := l } := by
  obtain ⟨v5, pk, d1, d2, d3, d4, d5⟩ := h.c5
  exact ⟨h.c0, h.c1, h.c2, h.c3, h.c4, ⟨v5, pk, d1, d2, fun h' => by dsimp only at h'; omega, d4, d5⟩, h.f0, h.f1, h.f2, h.f3, h.f4, h.f5, h.qF, h.Fg, h.Fl, ⟨h.ok.len, h.ok.n1, h.ok.n2, h.ok.lt, h.ok.pend, h.ok.left, hp⟩⟩

set_option maxRecDepth 100000 in
set_option maxHeartbeats 400000 in
theorem rrestart_yes {w : World} {g : Nat} {q p : Option Nat} {F : Nat → Prop} {n : Nat} {s : St} (h : Dr w g q p F n s) :
    Calls Try.prog 25 #[.pointer (some ⟨g, 0, none⟩)] w fun e w' => e = .returned (.int .i64 (restartS s).2) ∧ TurnR w g F n (restartS s).1 w' := by
  have c2 := h.c2
  have f2 := h.f2
  cases hon : s.on with
  | true =>
    have e : restartS s = (s, 7) := by simp [restartS, hon]
    rw [e]; clear e
    rw [hon] at c2
    clear hon
    go_enter Try.func25, Try.ntmps25
    go_wp2
    go_ret
    exact ⟨rfl, q, p, F, h, Keeps.refl _ _, fun _ h => .inl h⟩
  | false =>
    have e : restartS s = ({ s with on := true }, 0) := by simp [restartS, hon]
    rw [e]; clear e
    rw [hon] at c2
    clear hon
    have H2 := hide (h.store2 (b := true))
    go_enter Try.func25, Try.ntmps25
    go_wp2
    go_ret
    exact ⟨rfl, q, p, F, H2.out, (keeps_set _ _ _ _).mono (fun _ h => .inl h), fun _ h => .inl h⟩

/-- Whether the power goes in an operation's midst, and what is left. -/
def goesS (s : St) : St × Bool := if s.left = 0 then ({ s with ops := s.ops + 1 }, false) else ({ s with ops := s.ops + 1, left := s.left - 1 }, decide (s.left = 1))

/-- The picks that are armed stand in their cell. -/
def PkAt (w : World) (g : Nat) (q p : Option Nat) (F : Nat → Prop) (s : St) : Prop :=
  ∃ v, w.cell? ⟨g, 5, none⟩ = some v ∧ (0 < s.left → Bs w v s.picks) ∧ ∀ b, v.ownBlock = some b → F b ∧ p ≠ some b ∧ q ≠ some b

set_option maxRecDepth 100000 in
set_option maxHeartbeats 400000 in
theorem goes_yes {w : World} {g : Nat} {q p : Option Nat} {F : Nat → Prop} {n : Nat} {s : St} (h : Dr w g q p F n s) (ho : s.ops ≤ 1000000) :
    Calls Try.prog 45 #[.pointer (some ⟨g, 0, none⟩)] w fun e w' => e = .returned (.bool (goesS s).2) ∧ Dr w' g q p F n (goesS s).1 ∧ Keeps (fun k => k = g) w w' ∧ PkAt w' g q p F s := by
  obtain ⟨v5, pk5, d1, d2, d3, d4, d5⟩ := h.c5
  have hp3 : ∀ u, PkAt (w.setCell ⟨g, 3, none⟩ u) g q p F s := fun u => ⟨v5, cell_set_other d1 (by omega), fun h' => by rw [← d3 h']; exact (keeps_set w g 3 u).bs d2 (fun b hb e => h.Fg ((show b = g from e) ▸ (d5 b hb).1)), d5⟩
  have hp34 : ∀ u u', PkAt ((w.setCell ⟨g, 3, none⟩ u).setCell ⟨g, 4, none⟩ u') g q p F s := fun u u' => ⟨v5, cell_set_other (cell_set_other d1 (by omega)) (by omega), fun h' => by rw [← d3 h']; exact ((keeps_set w g 3 u).trans (keeps_set _ g 4 u')).bs d2 (fun b hb e => h.Fg ((show b = g from e) ▸ (d5 b hb).1)), d5⟩
  clear d1 d2 d3 d4 d5
  have Hp3 := hide hp3
  have Hp34 := hide hp34
  clear hp3 hp34
  have c3 := h.c3
  have c4 := h.c4
  have f3 := h.f3
  have f4 := h.f4
  have hleft := h.ok.left
  have h3 := h.store3 (l := s.ops + 1)
  have e3 : ((s.ops + 1 : Nat) : Int) = (s.ops : Int) + 1 := by omega
  rw [e3] at h3
  have H3 := hide h3
  clear h3 e3
  by_cases h0 : s.left = 0
  · have e : goesS s = ({ s with ops := s.ops + 1 }, false) := by simp [goesS, h0]
    rw [e]; clear e
    rw [h0] at c4
    clear h0
    go_enter Try.func45, Try.ntmps45
    go_wp2
    go_ret
    exact ⟨rfl, H3.out, keeps_set _ _ _ _, Hp3.out _⟩
  · have e : goesS s = ({ s with ops := s.ops + 1, left := s.left - 1 }, decide (s.left = 1)) := by simp [goesS, h0]
    obtain ⟨pk, h4, hpk⟩ := H3.out.store4 (l := s.left - 1) (by omega)
    have e5 : ((s.left - 1 : Nat) : Int) = (s.left : Int) - 1 := by omega
    rw [e5] at h4
    dsimp only at h4 hpk
    rw [hpk (by omega)] at h4
    have H4 := hide h4
    have h1 : ((s.left : Int) == 0) = false := by simp; omega
    rw [e]; clear e h4 e5 hpk
    by_cases h2 : s.left = 1
    · have d : decide (s.left = 1) = true := by simp [h2]
      rw [d]; clear d
      have h5 : ((s.left : Int) - 1 == 0) = true := by simp; omega
      clear h0 h2
      go_enter Try.func45, Try.ntmps45
      go_wp2
      go_ret
      exact ⟨by simp [h5], H4.out, (keeps_set _ _ _ _).trans (keeps_set _ _ _ _), Hp34.out _ _⟩
    · have d : decide (s.left = 1) = false := by simp [h2]
      rw [d]; clear d
      have h5 : ((s.left : Int) - 1 == 0) = false := by simp; omega
      clear h0 h2
      go_enter Try.func45, Try.ntmps45
      go_wp2
      go_ret
      exact ⟨by simp [h5], H4.out, (keeps_set _ _ _ _).trans (keeps_set _ _ _ _), Hp34.out _ _⟩

set_option maxRecDepth 100000 in
set_option maxHeartbeats 1000000 in
theorem rarm_yes {w : World} {g : Nat} {q p : Option Nat} {F : Nat → Prop} {n : Nat} {s : St} (h : Dr w g q p F n s) (i : Int) (vp : Value) (picks : List Nat) (hv : Bs w vp picks) (hvg : ∀ b, vp.ownBlock = some b → b ≠ g) (hpk : picks.length ≤ 140737488355328) (hi' : i ≤ 9223372036854775807) :
    Calls Try.prog 23 #[.pointer (some ⟨g, 0, none⟩), .int .i64 i, vp] w fun e w' => e = .returned (.int .i64 (armS s i picks).2) ∧ TurnR w g F n (armS s i picks).1 w' := by
  obtain ⟨i0, hi, hz0, hz1, hz2⟩ := info_parts Try.info5
  have c2 := h.c2
  cases hon : s.on with
  | false =>
    have e : armS s i picks = (s, 5) := by simp [armS, hon]
    rw [e]; clear e
    rw [hon] at c2
    clear hon
    go_enter Try.func23, Try.ntmps23
    go_wp2
    go_ret
    exact ⟨rfl, q, p, F, h, Keeps.refl _ _, fun _ h => .inl h⟩
  | true =>
    rw [hon] at c2
    by_cases h0 : i < 0
    · have e : armS s i picks = (s, 1) := by simp [armS, hon, h0]
      rw [e]; clear e
      clear hon
      go_enter Try.func23, Try.ntmps23
      go_wp2
      go_ret
      exact ⟨rfl, q, p, F, h, Keeps.refl _ _, fun _ h => .inl h⟩
    · obtain ⟨k, rfl⟩ := Int.eq_ofNat_of_zero_le (show 0 ≤ i by omega)
      obtain ⟨st, hst⟩ : ∃ st, (armS s (k : Int) picks).1 = st := ⟨_, rfl⟩
      have he : (armS s (k : Int) picks).2 = 0 := by
        have h3 : ¬ ((k : Int) < 0) := by omega
        by_cases hk : k = 0
        · simp [armS, hon, hk]
        · simp [armS, hon, hk, h3]
      have c4 := h.c4
      have f4 := h.f4
      have f5 := h.f5
      obtain ⟨pk, h4, _⟩ := h.store4 (l := k) (by omega)
      have k4 := keeps_set w g 4 (.int .i64 ((k : Nat) : Int))
      have hv4 := k4.bs hv hvg
      have hgl := h.gl
      obtain ⟨v5, pk5, c5, _⟩ := h4.c5
      have f54 := h4.f5
      have H4 := hide h4
      have Hst := hide hst
      have Hon := hide hon
      rw [hst, he]
      clear hst he h4 hon
      have hz4 : (w.setCell ⟨g, 4, none⟩ (.int .i64 ((k : Nat) : Int))).heap.size = w.heap.size := by simp
      obtain ⟨w4, hw4⟩ : ∃ w4, w.setCell ⟨g, 4, none⟩ (.int .i64 ((k : Nat) : Int)) = w4 := ⟨_, rfl⟩
      rw [hw4] at hv4 c5 f54 H4 k4 hz4
      have hfz : w4.frozen? ⟨g, 5, none⟩ = false := f54
      have hgl4 : g < w4.heap.size := by omega
      go_enter Try.func23, Try.ntmps23
      go_wp2_with (at_builtin; refine wpList_append_bs _ rfl (.const (.slice none 0 0)) (.tmp 18) 37 rfl w.heap.size 5 i0 (.int .u8 0) Try.underlying37 hi hz0 hz1 hz2 rfl _ 0 [] rfl (World.ownsRow_nil _ _ _ _) _ picks rfl hv4 (by omega) (by omega) ?_; intro v1 w1 hown hgrow; have hb1 := (show Below w4.heap.size w4 w1 from (Below.refl _ _).grown hgrow (Nat.le_refl _) (by intro k hk; cases hk)); have c51 := (Keeps.of_below (S := fun _ => False) hb1).cell c5 id; have f51 := (show w1.frozen? ⟨g, 5, none⟩ = false by rw [hb1.frozen (p := ⟨g, 5, none⟩) hgl4]; exact f54); rw [Nat.zero_add, List.nil_append] at hown; obtain ⟨ao1, cap1, rfl⟩ := owns_slice hown)
      have hlt1 := hown.lt
      have h1 := H4.out.mono hb1
      have hs1 := hb1.size
      have h2 := h1.widen (F' := fun k => F k ∨ (Value.slice ao1 picks.length cap1).ownBlock = some k) (fun _ h => .inl h) (by rintro (e | e); exact h.Fg e; have := hlt1 _ e; omega) (by rintro k (e | e); exact h1.Fl k e; exact (hlt1 _ e).2)
      obtain ⟨v1', vs1', _, hW1, _⟩ := h.c1
      have h3 := h2.store5 (u := .slice ao1 picks.length cap1) (l := picks) (Bs.of_owns hown hv.lt) hpk (fun b hb => ⟨.inr hb, fun e => by have := h.Fl b (hW1.pF b e); have := hlt1 _ hb; omega, fun e => by have := h.Fl b (h.qF b e).1; have := hlt1 _ hb; omega⟩)
      have hfin : Dr (w1.setCell ⟨g, 5, none⟩ (.slice ao1 picks.length cap1)) g q p (fun k => F k ∨ (Value.slice ao1 picks.length cap1).ownBlock = some k) n st := by
        rw [← Hst.out]
        by_cases hk : k = 0
        · subst hk
          have e : (armS s ((0 : Nat) : Int) picks).1 = { s with left := 0, picks := [] } := by simp [armS, Hon.out]
          rw [e]
          exact h3.picks [] rfl (by simp)
        · have h9 : ¬ ((k : Int) < 0) := by omega
          have e : (armS s ((k : Nat) : Int) picks).1 = { s with left := k, picks := picks } := by simp [armS, Hon.out, hk, h9]
          rw [e]
          exact h3
      have kf : Keeps (OwnR g F) w (w1.setCell ⟨g, 5, none⟩ (.slice ao1 picks.length cap1)) := ((k4.trans (Keeps.of_below hb1)).trans (keeps_set w1 g 5 _)).mono (fun _ h => .inl h)
      have Hfin := hide hfin
      have Kf := hide kf
      clear hfin kf h3 h2 h1 hown hgrow
      go_wp2
      go_ret
      exact ⟨rfl, q, p, _, Hfin.out, Kf.out, fun k hk => hk.imp id (fun h => by have := (hlt1 _ h).1; omega)⟩


end Go.Proofs.Ytjcmmigbkhiplaa
