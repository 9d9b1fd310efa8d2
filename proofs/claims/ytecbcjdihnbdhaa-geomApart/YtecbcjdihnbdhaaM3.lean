/- GeomApart's walk. -/
import Derived.Test.YtecbcjdihnbdhaaM2
set_option linter.unusedSimpArgs false
set_option linter.unusedVariables false
namespace Go.Proofs.Ytecbcjdihnbdhaa
open Go.RowKit Go.Attic Go.Maps

/-- The bytes of an extent's entry, of its marks, of its slots. -/
def tabB (tt e t : Int) : Prop := 256 * tt + 8 * e ≤ t ∧ t < 256 * tt + 8 * e + 8
def marB (mm e t : Int) : Prop := 256 * mm + 4 * e ≤ t ∧ t < 256 * mm + 4 * e + 4
def sloB (hp e z t : Int) : Prop := 256 * hp + 1024 * e ≤ t ∧ t < 256 * hp + 1024 * e + z
def UL (tt mm hp : Int) (L : List Int) (t : Int) : Prop := ∃ e ∈ L, tabB tt e t ∨ marB mm e t ∨ sloB hp e 1024 t

structure Sizes (x tt mm dd hp bb : Int) : Prop where
  x1 : 1 ≤ x
  x2 : x ≤ 256
  t0 : 0 ≤ tt
  m0 : 8 * x ≤ 256 * (mm - tt)
  d0 : 4 * x ≤ 256 * (dd - mm)
  h0 : dd ≤ hp
  b0 : bb = hp + 4 * x
  b1 : bb ≤ 2048

theorem fresh_tab {x tt mm dd hp bb E : Int} (S : Sizes x tt mm dd hp bb) (hE : 0 ≤ E ∧ E < x) {L : List Int} (hL : ∀ e ∈ L, 0 ≤ e ∧ e < x ∧ e ≠ E) {t : Int} (ht : tabB tt E t) : ¬ UL tt mm hp L t := by
  rintro ⟨e, he, h⟩
  obtain ⟨x1, x2, t0, m0, d0, h0, b0, b1⟩ := S
  obtain ⟨k0, k1, k2⟩ := hL e he
  unfold tabB marB sloB at *
  omega

theorem fresh_mar {x tt mm dd hp bb E : Int} (S : Sizes x tt mm dd hp bb) (hE : 0 ≤ E ∧ E < x) {L : List Int} (hL : ∀ e ∈ L, 0 ≤ e ∧ e < x ∧ e ≠ E) {t : Int} (ht : marB mm E t) : ¬ (UL tt mm hp L t ∨ tabB tt E t) := by
  rintro (⟨e, he, h⟩ | h)
  · obtain ⟨x1, x2, t0, m0, d0, h0, b0, b1⟩ := S
    obtain ⟨k0, k1, k2⟩ := hL e he
    unfold tabB marB sloB at *
    omega
  · obtain ⟨x1, x2, t0, m0, d0, h0, b0, b1⟩ := S
    unfold tabB marB at *
    omega

theorem fresh_slo {x tt mm dd hp bb E z : Int} (S : Sizes x tt mm dd hp bb) (hE : 0 ≤ E ∧ E < x) {L : List Int} (hL : ∀ e ∈ L, 0 ≤ e ∧ e < x ∧ e ≠ E) {t : Int} (h1 : 256 * hp + 1024 * E + z ≤ t) (h2 : t < 256 * hp + 1024 * E + 1024) (hz : 0 ≤ z) :
    ¬ (((UL tt mm hp L t ∨ tabB tt E t) ∨ marB mm E t) ∨ sloB hp E z t) := by
  obtain ⟨x1, x2, t0, m0, d0, h0, b0, b1⟩ := S
  rintro (((⟨e, he, h⟩ | h) | h) | h)
  · obtain ⟨k0, k1, k2⟩ := hL e he
    unfold tabB marB sloB at *
    omega
  · unfold tabB at *
    omega
  · unfold marB at *
    omega
  · unfold sloB at *
    omega

theorem UL_snoc {tt mm hp E t : Int} {L : List Int} (h : ((UL tt mm hp L t ∨ tabB tt E t) ∨ marB mm E t) ∨ sloB hp E 1024 t) : UL tt mm hp (L ++ [E]) t := by
  rcases h with ((⟨e, he, h⟩ | h) | h) | h
  · exact ⟨e, by simp [he], h⟩
  · exact ⟨E, by simp, Or.inl h⟩
  · exact ⟨E, by simp, Or.inr (Or.inl h)⟩
  · exact ⟨E, by simp, Or.inr (Or.inr h)⟩

/-- What stands in the rounds of the statement's loop. -/
structure Stand (w wr : World) (gb pb ub mb sg n : Nat) (b l d x tt mm dd hp bb : Int) (L : List Int) (U : Int → Prop) : Prop where
  tk : Taken wr gb ub mb n b l d x U
  pl : PlanAt wr pb 3 tt mm dd hp bb
  sl : ∀ j, j < L.length → wr.cell? ⟨sg, j, none⟩ = some (.int .i64 (L.getD j 0))
  bl : Below w.heap.size w wr
  pm : pb ≠ mb
  sm : sg ≠ mb
  wm : w.heap.size ≤ mb

theorem Stand.below {w wr wr' : World} {gb pb ub mb sg n : Nat} {b l d x tt mm dd hp bb : Int} {L : List Int} {U : Int → Prop} (h : Stand w wr gb pb ub mb sg n b l d x tt mm dd hp bb L U) (hb : Below wr.heap.size wr wr') : Stand w wr' gb pb ub mb sg n b l d x tt mm dd hp bb L U :=
  ⟨h.tk.below hb, h.pl.mono hb, fun j hj => by rw [hb.cell (p := ⟨sg, j, none⟩) (World.block_lt_of_cell? wr _ (h.sl j hj))]; exact h.sl j hj, h.bl.trans (hb.mono h.bl.size), h.pm, h.sm, h.wm⟩

theorem Stand.put {w wr wr' : World} {gb pb ub mb sg n n' : Nat} {b l d x tt mm dd hp bb : Int} {L : List Int} {U V : Int → Prop} (h : Stand w wr gb pb ub mb sg n b l d x tt mm dd hp bb L U) (ht : Taken wr' gb ub mb n' b l d x V) (hg : wr.grownBy wr' (some mb)) : Stand w wr' gb pb ub mb sg n' b l d x tt mm dd hp bb L V :=
  ⟨ht, h.pl.grown hg h.pm, fun j hj => cell_grown (h.sl j hj) hg h.sm, h.bl.grown hg h.bl.size (fun k hk => by cases hk; exact h.wm), h.pm, h.sm, h.wm⟩

theorem Stand.weak {w wr : World} {gb pb ub mb sg n n' : Nat} {b l d x tt mm dd hp bb : Int} {L : List Int} {U V : Int → Prop} (h : Stand w wr gb pb ub mb sg n b l d x tt mm dd hp bb L U) (hn : n = n') (hUV : ∀ t, U t → V t) : Stand w wr gb pb ub mb sg n' b l d x tt mm dd hp bb L V := by
  subst hn
  exact ⟨⟨h.tk.geo, h.tk.var, h.tk.map.weak hUV, h.tk.gm, h.tk.um⟩, h.pl, h.sl, h.bl, h.pm, h.sm, h.wm⟩

/-- The areas' blocks, as Where tells them. -/
def WhereIs (b l d x lo hi ar : Int) : Prop := ∀ k : Int, lo ≤ k → k < hi → ∀ w, Calls Try.prog 25 #[.agg #[.int .i64 b, .int .i64 l, .int .i64 d, .int .i64 x], .int .i64 k] w fun r w' => (∃ y : Int, r = .returned (.tuple #[.int .i64 ar, .int .i64 y, .int .i64 0])) ∧ Below w.heap.size w w'

theorem place_stand {w wr : World} {gb pb ub mb sg n M : Nat} {b l d x tt mm dd hp bb blk off ar lo hi : Int} {L : List Int} {U V : Int → Prop} (S : Stand w wr gb pb ub mb sg n b l d x tt mm dd hp bb L U)
    (hoff : 0 ≤ off) (hoff2 : off ≤ 100000) (hblk : 0 ≤ blk) (hblk2 : blk ≤ 100000) (hM : M ≤ 100000) (hn : n ≤ 100000000) (hW : WhereIs b l d x lo hi ar) (hlo : lo ≤ blk) (hhi : 256 * blk + off + M ≤ 256 * hi)
    (hfree : ∀ t, 256 * blk + off ≤ t → t < 256 * blk + off + M → ¬ U t) (hV : ∀ t, (U t ∨ (256 * blk + off ≤ t ∧ t < 256 * blk + off + M)) → V t) :
    Calls Try.prog 27 #[.int .i64 blk, .int .i64 off, .int .i64 (M : Nat), .int .i64 ar, .pointer (some ⟨gb, 0, none⟩), .pointer (some ⟨ub, 0, none⟩)] wr fun r w' => r = .returned (.bool true) ∧ Stand w w' gb pb ub mb sg (n + M) b l d x tt mm dd hp bb L V := by
  refine (place_yes gb ub mb n M b l d x blk off ar U wr hoff hoff2 hblk hblk2 hM hn S.tk (fun i hi => hfree _ (by omega) (by omega)) (fun i hi w => hW _ (by omega) (by omega) w)).mono ?_
  rintro r w' ⟨rfl, h1, h2⟩
  exact ⟨rfl, (S.put h1 h2).weak rfl hV⟩

theorem class_all (a0 a1 a2 a3 a4 a5 c : Int) (h0 : 0 ≤ c) (h1 : c < 6) : ∃ m q : Nat, m * q = 1024 ∧ 1 ≤ q ∧ 1 ≤ m ∧ m ≤ 32 ∧ q ≤ 1024 ∧
    (∀ w, Calls Try.prog 21 #[.int .i64 c] w fun r w' => r = .returned (.int .i64 (m : Nat)) ∧ w = w') ∧ (∀ w, Calls Try.prog 23 #[.int .i64 c] w fun r w' => r = .returned (.int .i64 (q : Nat)) ∧ w = w') ∧
    (∀ e, okE a4 e → ∀ s : Nat, s < m → ∀ w, Calls Try.prog 19 #[.agg #[.int .i64 a0, .int .i64 a1, .int .i64 a2, .int .i64 a3, .int .i64 a4, .int .i64 a5], .int .i64 e, .int .i64 c, .int .i64 (s : Nat)] w fun r w' => r = .returned (.tuple #[.int .i64 (a4 + 4 * e + ((s * q : Nat) : Int) / 256), .int .i64 (((s * q : Nat) : Int) % 256)]) ∧ Below w.heap.size w w') := by
  have hs := fun w => slots_any c w
  have hb := fun w => slotBytes_any c w
  have ha := fun e s w => slotAt_yes a0 a1 a2 a3 a4 a5 e c s w
  have key : ∀ m q : Nat, sb c = (q : Int) → sl c = (m : Int) → m * q = 1024 → 1 ≤ q → 1 ≤ m → m ≤ 32 → q ≤ 1024 → ∃ m q : Nat, m * q = 1024 ∧ 1 ≤ q ∧ 1 ≤ m ∧ m ≤ 32 ∧ q ≤ 1024 ∧
    (∀ w, Calls Try.prog 21 #[.int .i64 c] w fun r w' => r = .returned (.int .i64 (m : Nat)) ∧ w = w') ∧ (∀ w, Calls Try.prog 23 #[.int .i64 c] w fun r w' => r = .returned (.int .i64 (q : Nat)) ∧ w = w') ∧
    (∀ e, okE a4 e → ∀ s : Nat, s < m → ∀ w, Calls Try.prog 19 #[.agg #[.int .i64 a0, .int .i64 a1, .int .i64 a2, .int .i64 a3, .int .i64 a4, .int .i64 a5], .int .i64 e, .int .i64 c, .int .i64 (s : Nat)] w fun r w' => r = .returned (.tuple #[.int .i64 (a4 + 4 * e + ((s * q : Nat) : Int) / 256), .int .i64 (((s * q : Nat) : Int) % 256)]) ∧ Below w.heap.size w w') := by
    intro m q e1 e2 e3 e4 e5 e6 e7
    rw [e1] at hb ha
    rw [e2] at hs ha
    refine ⟨m, q, e3, e4, e5, e6, e7, hs, hb, fun e he s hsm w => ?_⟩
    have := ha e (s : Nat) w he (by omega) (by omega)
    rw [Int.natCast_mul]
    exact this
  rcases class_ways c h0 h1 with ⟨_, e1, e2⟩ | ⟨_, e1, e2⟩ | ⟨_, e1, e2⟩ | ⟨_, e1, e2⟩ | ⟨_, e1, e2⟩ | ⟨_, e1, e2⟩
  · exact key 32 32 e1 e2 (by decide) (by decide) (by decide) (by decide) (by decide)
  · exact key 16 64 e1 e2 (by decide) (by decide) (by decide) (by decide) (by decide)
  · exact key 8 128 e1 e2 (by decide) (by decide) (by decide) (by decide) (by decide)
  · exact key 4 256 e1 e2 (by decide) (by decide) (by decide) (by decide) (by decide)
  · exact key 2 512 e1 e2 (by decide) (by decide) (by decide) (by decide) (by decide)
  · exact key 1 1024 e1 e2 (by decide) (by decide) (by decide) (by decide) (by decide)

end Go.Proofs.Ytecbcjdihnbdhaa
