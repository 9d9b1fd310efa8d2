/- GeomApart's walk: its parts. -/
import Derived.Test.YtecbcjdihnbdhaaM3
set_option linter.unusedSimpArgs false
set_option linter.unusedVariables false
namespace Go.Proofs.Ytecbcjdihnbdhaa
open Go.RowKit Go.Attic Go.Maps

theorem stand0 {w w2 wq : World} {gb pb : Nat} {b l d x tt mm dd hp bb : Int} (hB : Below w.heap.size w w2) (hG : GeoAt w2 gb b l d x) (hP : PlanAt w2 pb 3 tt mm dd hp bb) (hq : Below w2.heap.size w2 wq) (hs : wq.heap.size = w2.heap.size) :
    Stand w ((wq.alloc (.map #[] 0)).alloc (.cells #[.map (some w2.heap.size)] 41)) gb pb (w2.heap.size + 1) w2.heap.size (w2.heap.size + 2) 0 b l d x tt mm dd hp bb [] (fun _ => False) := by
  have hb1 : Below w2.heap.size w2 (wq.alloc (.map #[] 0)) := hq.alloc hq.size _
  have hb2 : Below w2.heap.size w2 ((wq.alloc (.map #[] 0)).alloc (.cells #[.map (some w2.heap.size)] 41)) := hb1.alloc hb1.size _
  refine ⟨⟨hG.mono hb2, ?_, ?_, ?_, ?_⟩, hP.mono hb2, fun j hj => by simp at hj, hB.trans (hb2.mono hB.size), ?_, ?_, hB.size⟩
  · rw [show w2.heap.size + 1 = (wq.alloc (.map #[] 0)).heap.size from by simp [hs]]
    simp
  · have := MpAt.made wq
    rw [hs] at this
    exact this.kept (World.grownBy_alloc _ _ none) (by simp)
  · have := hG.lt; omega
  · omega
  · have := hP.lt; omega
  · omega

theorem Stand.row {w wr wr' : World} {gb pb ub mb sg sg' n : Nat} {b l d x tt mm dd hp bb : Int} {L L' : List Int} {U V : Int → Prop} (h : Stand w wr gb pb ub mb sg n b l d x tt mm dd hp bb L U) (hb : Below wr.heap.size wr wr') (hs : sg' ≠ mb)
    (hc : ∀ j, j < L'.length → wr'.cell? ⟨sg', j, none⟩ = some (.int .i64 (L'.getD j 0))) (hU : ∀ t, U t → V t) : Stand w wr' gb pb ub mb sg' n b l d x tt mm dd hp bb L' V :=
  have k := (h.below hb).weak rfl hU
  ⟨k.tk, k.pl, hc, k.bl, k.pm, hs, k.wm⟩

theorem cell_new1 (W : World) (n : Nat) (hn : n = W.heap.size) (v : Value) (h : v.cells = #[v]) : (W.alloc (.cells #[v] 3)).cell? ⟨n, 0, none⟩ = some v := by
  subst hn
  simp

theorem cell_new2 (W : World) (n : Nat) (hn : n = W.heap.size) (a b : Int) (zs : Array Value) : ((W.alloc (.cells (#[.int .i64 a, .int .i64 b] ++ zs) 3)).drew).cell? ⟨n, 0, none⟩ = some (.int .i64 a) ∧ ((W.alloc (.cells (#[.int .i64 a, .int .i64 b] ++ zs) 3)).drew).cell? ⟨n, 1, none⟩ = some (.int .i64 b) := by
  subst hn
  constructor <;> simp [Array.getElem?_append]

theorem place_tab {w wr : World} {gb pb ub mb sg n : Nat} {b l d x tt mm dd hp bb E : Int} {L pre : List Int} (S : Sizes x tt mm dd hp bb) (hE : 0 ≤ E ∧ E < x) (hL : ∀ e ∈ pre, 0 ≤ e ∧ e < x ∧ e ≠ E) (hW : WhereIs b l d x tt mm 3)
    (hS : Stand w wr gb pb ub mb sg n b l d x tt mm dd hp bb L (UL tt mm hp pre)) (hn : n ≤ 100000) :
    Calls Try.prog 27 #[.int .i64 (tt + E / 32), .int .i64 (8 * (E % 32)), .int .i64 8, .int .i64 3, .pointer (some ⟨gb, 0, none⟩), .pointer (some ⟨ub, 0, none⟩)] wr fun r w' => r = .returned (.bool true) ∧ Stand w w' gb pb ub mb sg (n + 8) b l d x tt mm dd hp bb L (fun t => UL tt mm hp pre t ∨ tabB tt E t) := by
  have S' := S
  obtain ⟨x1, x2, t0, m0, d0, h0, b0, b1⟩ := S'
  exact place_stand (M := 8) (lo := tt) (hi := mm) hS (by omega) (by omega) (by omega) (by omega) (by omega) (by omega) hW (by omega) (by omega) (fun t h1 h2 => fresh_tab S hE hL (by unfold tabB; omega)) (fun t h => h.imp_right (fun h => by unfold tabB; omega))

theorem place_mar {w wr : World} {gb pb ub mb sg n : Nat} {b l d x tt mm dd hp bb E : Int} {L pre : List Int} (S : Sizes x tt mm dd hp bb) (hE : 0 ≤ E ∧ E < x) (hL : ∀ e ∈ pre, 0 ≤ e ∧ e < x ∧ e ≠ E) (hW : WhereIs b l d x mm dd 4)
    (hS : Stand w wr gb pb ub mb sg n b l d x tt mm dd hp bb L (fun t => UL tt mm hp pre t ∨ tabB tt E t)) (hn : n ≤ 100000) :
    Calls Try.prog 27 #[.int .i64 (mm + E / 64), .int .i64 (4 * (E % 64)), .int .i64 4, .int .i64 4, .pointer (some ⟨gb, 0, none⟩), .pointer (some ⟨ub, 0, none⟩)] wr fun r w' => r = .returned (.bool true) ∧ Stand w w' gb pb ub mb sg (n + 4) b l d x tt mm dd hp bb L (fun t => (UL tt mm hp pre t ∨ tabB tt E t) ∨ marB mm E t) := by
  have S' := S
  obtain ⟨x1, x2, t0, m0, d0, h0, b0, b1⟩ := S'
  exact place_stand (M := 4) (lo := mm) (hi := dd) hS (by omega) (by omega) (by omega) (by omega) (by omega) (by omega) hW (by omega) (by omega) (fun t h1 h2 => fresh_mar S hE hL (by unfold marB; omega)) (fun t h => h.imp_right (fun h => by unfold marB; omega))

theorem place_slo {w wr : World} {gb pb ub mb sg n z q : Nat} {b l d x tt mm dd hp bb E : Int} {L pre : List Int} (S : Sizes x tt mm dd hp bb) (hE : 0 ≤ E ∧ E < x) (hL : ∀ e ∈ pre, 0 ≤ e ∧ e < x ∧ e ≠ E) (hW : WhereIs b l d x hp bb 6) (hz : z + q ≤ 1024)
    (hS : Stand w wr gb pb ub mb sg n b l d x tt mm dd hp bb L (fun t => ((UL tt mm hp pre t ∨ tabB tt E t) ∨ marB mm E t) ∨ sloB hp E (z : Nat) t)) (hn : n ≤ 100000) :
    Calls Try.prog 27 #[.int .i64 (hp + 4 * E + (z : Int) / 256), .int .i64 ((z : Int) % 256), .int .i64 (q : Nat), .int .i64 6, .pointer (some ⟨gb, 0, none⟩), .pointer (some ⟨ub, 0, none⟩)] wr fun r w' => r = .returned (.bool true) ∧ Stand w w' gb pb ub mb sg (n + q) b l d x tt mm dd hp bb L (fun t => ((UL tt mm hp pre t ∨ tabB tt E t) ∨ marB mm E t) ∨ sloB hp E ((z + q : Nat) : Int) t) := by
  have S' := S
  obtain ⟨x1, x2, t0, m0, d0, h0, b0, b1⟩ := S'
  refine place_stand (M := q) (lo := hp) (hi := bb) hS (by omega) (by omega) (by omega) (by omega) (by omega) (by omega) hW (by omega) (by omega) (fun t h1 h2 => fresh_slo S hE hL (by omega) (by omega) (by omega)) (fun t h => ?_)
  rcases h with (h | h) | h
  · exact Or.inl h
  · exact Or.inr (by unfold sloB at *; omega)
  · exact Or.inr (by unfold sloB at *; omega)

end Go.Proofs.Ytecbcjdihnbdhaa
