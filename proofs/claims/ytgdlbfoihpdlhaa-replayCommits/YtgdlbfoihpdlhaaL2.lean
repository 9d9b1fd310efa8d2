/- Contracts: SameAll, patch. -/
import Derived.Test.YtgdlbfoihpdlhaaL1
import Derived.Deep.RegionHeld3
set_option linter.unusedSimpArgs false
set_option linter.unusedVariables false
namespace Go.Proofs.Ytgdlbfoihpdlhaa
open Go.RowKit Go.Attic Go.Shelf
set_option maxRecDepth 100000 in
set_option maxHeartbeats 1000000 in
theorem sameAll_yes (w : World) (F1 F2 : Nat → Prop) (v1 v2 : Value) (rs : List Rc) (h1 : Rs w F1 v1 rs) (h2 : Rs w F2 v2 rs) (hlen : rs.length ≤ 140737488355328) :
    Calls Try.prog 14 #[v1, v2] w fun e w' => e = .returned (.bool true) ∧ Below w.heap.size w w' := by
  obtain ⟨a1, c1, e1, hc1⟩ := h1.slice
  obtain ⟨a2, c2, e2, hc2⟩ := h2.slice
  obtain ⟨L, hL⟩ : ∃ L, rs.length = L := ⟨_, rfl⟩
  rw [hL] at e1 e2 hlen hc1 hc2
  subst e1 e2
  have HL := hide hL
  have H1 := hide h1
  have H2 := hide h2
  clear h1 h2 hL
  go_enter Try.func14, Try.ntmps14
  go_wp2_with fail
  go_loopw [5] (fun i wr => ∃ k : Nat, k ≤ L ∧ i = .int .i64 (k : Int) ∧ Below w.heap.size w wr) (fun i _ => L - (intOf i).toNat)
  case atStart => exact ⟨0, Nat.zero_le _, rfl, Below.refl _ _⟩
  case round =>
    obtain ⟨k, hk, rfl, hbr⟩ := hrel
    by_cases hkL : k < L
    · have hkl : k < rs.length := by have := HL.out; omega
      obtain ⟨-, b1, o1, u1, rfl, -, hat1, hub1, -⟩ := (H1.out.mono hbr).at k hkl
      obtain ⟨-, b2, o2, u2, rfl, -, hat2, hub2, -⟩ := (H2.out.mono hbr).at k hkl
      generalize rs[k] = x at *
      have hsm : sameB x.k x.b x.o x.m x.l x.k x.b x.o x.m x.l = true := by simp [sameB]
      obtain ⟨ua1, uc1, rfl, -⟩ := id hub1
      obtain ⟨ua2, uc2, rfl, -⟩ := id hub2
      have x0 := hat1.c0
      have x1 := hat1.c1
      have x2 := hat1.c2
      have x3 := hat1.c3
      have x4 := hat1.c4
      have y0 := hat2.c0
      have y1 := hat2.c1
      have y2 := hat2.c2
      have y3 := hat2.c3
      have y4 := hat2.c4
      have hcall := rsame_any x.k x.b x.o x.m x.k x.b x.o x.m (.slice ua1 x.l.length uc1) (.slice ua2 x.l.length uc2) x.l x.l wr.drew hub1.drew hub2.drew
      rw [hsm] at hcall
      have Ht1 := hide hat1
      have Ht2 := hide hat2
      clear hat1 hat2 hsm
      go_wp2_with fail
      go_region_held3 (fun w' => (w'.cell? ⟨b1, o1 + k * 5, none⟩ = some (.int .i64 x.k) ∧ w'.cell? ⟨b1, o1 + k * 5 + 1, none⟩ = some (.int .i64 x.b) ∧ w'.cell? ⟨b1, o1 + k * 5 + 2, none⟩ = some (.int .i64 x.o) ∧ w'.cell? ⟨b1, o1 + k * 5 + 3, none⟩ = some (.slice ua1 x.l.length uc1) ∧ w'.cell? ⟨b1, o1 + k * 5 + 4, none⟩ = some (.int .i64 x.m)) ∧ (w'.cell? ⟨b2, o2 + k * 5, none⟩ = some (.int .i64 x.k) ∧ w'.cell? ⟨b2, o2 + k * 5 + 1, none⟩ = some (.int .i64 x.b) ∧ w'.cell? ⟨b2, o2 + k * 5 + 2, none⟩ = some (.int .i64 x.o) ∧ w'.cell? ⟨b2, o2 + k * 5 + 3, none⟩ = some (.slice ua2 x.l.length uc2) ∧ w'.cell? ⟨b2, o2 + k * 5 + 4, none⟩ = some (.int .i64 x.m)))
        (first | exact ⟨Ht1.out.held, Ht2.out.held⟩ | exact ⟨(Ht1.out.mono hb4').held, (Ht2.out.mono hb4').held⟩)
        (first | (go_at_call 33; refine hcall.mono ?_; rintro e w4 ⟨rfl, hb4⟩; have hb4' : Below wr.heap.size wr w4 := ⟨hb4.os, hb4.tape, hb4.output, hb4.size, hb4.block⟩))
      rename_i hHeld
      clear hHeld hcall
      go_wp2_with fail
      go_roundw
      case rel => exact ⟨k + 1, by omega, by go_num, hbr.trans (hb4'.mono hbr.size)⟩
      case measure => simp [intOf]; omega
    · obtain rfl : k = L := by omega
      go_wp2_with fail
      go_ret
      exact ⟨by simp, hbr⟩


end Go.Proofs.Ytgdlbfoihpdlhaa
