/- Contracts: the statement's own function that takes bytes one by one. -/
import Derived.Test.YtecbcjdihnbdhaaM1
set_option linter.unusedSimpArgs false
set_option linter.unusedVariables false
namespace Go.Proofs.Ytecbcjdihnbdhaa
open Go.RowKit Go.Attic Go.Maps

/-- What stands while bytes are taken: the geometry, the variable that has the map, the map. -/
structure Taken (w : World) (gb ub mb n : Nat) (b l d x : Int) (U : Int → Prop) : Prop where
  geo : GeoAt w gb b l d x
  var : w.cell? ⟨ub, 0, none⟩ = some (.map (some mb))
  map : MpAt w mb n U
  gm : gb ≠ mb
  um : ub ≠ mb

theorem Taken.below {w w' : World} {gb ub mb n : Nat} {b l d x : Int} {U : Int → Prop} (h : Taken w gb ub mb n b l d x U) (hb : Below w.heap.size w w') : Taken w' gb ub mb n b l d x U :=
  ⟨h.geo.mono hb, by rw [hb.cell (p := ⟨ub, 0, none⟩) (World.block_lt_of_cell? w _ h.var)]; exact h.var, h.map.kept (grown_below hb none) (by simp), h.gm, h.um⟩

theorem Taken.put {w w' : World} {gb ub mb n n' : Nat} {b l d x : Int} {U V : Int → Prop} (h : Taken w gb ub mb n b l d x U) (hg : w.grownBy w' (some mb)) (hm : MpAt w' mb n' V) : Taken w' gb ub mb n' b l d x V :=
  ⟨h.geo.grown hg h.gm, cell_grown h.var hg h.um, hm, h.gm, h.um⟩

set_option maxRecDepth 100000 in
set_option maxHeartbeats 1000000 in
theorem place_yes (gb ub mb n M : Nat) (b l d x blk off ar : Int) (U : Int → Prop) (w : World)
    (hoff : 0 ≤ off) (hoff2 : off ≤ 100000) (hblk : 0 ≤ blk) (hblk2 : blk ≤ 100000) (hM : M ≤ 100000) (hn : n ≤ 100000000)
    (hT : Taken w gb ub mb n b l d x U) (hfree : ∀ i : Nat, i < M → ¬ U (256 * blk + off + i))
    (hW : ∀ i : Nat, i < M → ∀ w, Calls Try.prog 25 #[.agg #[.int .i64 b, .int .i64 l, .int .i64 d, .int .i64 x], .int .i64 (blk + (off + i) / 256)] w fun r w' => (∃ y : Int, r = .returned (.tuple #[.int .i64 ar, .int .i64 y, .int .i64 0])) ∧ Below w.heap.size w w') :
    Calls Try.prog 27 #[.int .i64 blk, .int .i64 off, .int .i64 (M : Nat), .int .i64 ar, .pointer (some ⟨gb, 0, none⟩), .pointer (some ⟨ub, 0, none⟩)] w fun r w' => r = .returned (.bool true) ∧
      Taken w' gb ub mb (n + M) b l d x (fun s => U s ∨ (256 * blk + off ≤ s ∧ s < 256 * blk + off + M)) ∧ w.grownBy w' (some mb) := by
  have HF := hide hfree
  have HW := hide hW
  have H0 := hide (And.intro (show Taken w gb ub mb (n + 0) b l d x (fun s => U s ∨ (256 * blk + off ≤ s ∧ s < 256 * blk + off + (0 : Nat))) from ⟨hT.geo, hT.var, hT.map.weak (fun t h => Or.inl h), hT.gm, hT.um⟩) (grown_refl w (some mb)))
  clear hfree hW hT
  go_enter Try.func27, Try.ntmps27
  go_wp2_with fail
  go_loopw [17] (fun v wr => ∃ i : Nat, i ≤ M ∧ v = .int .i64 i ∧ Hid (Taken wr gb ub mb (n + i) b l d x (fun s => U s ∨ (256 * blk + off ≤ s ∧ s < 256 * blk + off + i)) ∧ w.grownBy wr (some mb))) (fun v _ => M - (intOf v).toNat)
  case atStart => exact ⟨0, Nat.zero_le _, rfl, H0.out⟩
  case round =>
    clear H0
    obtain ⟨i, hiM, rfl, HR⟩ := hrel
    rcases Nat.lt_or_ge i M with hi | hi
    · have hWi := HW.out i hi
      have hFi := HF.out i hi
      generalize hA : blk + (off + (i : Int)) / 256 = A at *
      generalize hO : (off + (i : Int)) % 256 = O at *
      have HA := hide hA
      have HO := hide hO
      have ha0 : 0 ≤ A := by omega
      have ha1 : A ≤ 100000000 := by omega
      have hpl : (Value.agg #[.int .i64 A, .int .i64 O]) = placeV (256 * blk + off + i) := place_eq (by omega) (by omega)
      have hnU : ¬ (U (256 * blk + off + i) ∨ (256 * blk + off ≤ 256 * blk + off + (i : Int) ∧ 256 * blk + off + (i : Int) < 256 * blk + off + i)) := by
        intro h
        rcases h with h | h
        · exact hFi h
        · omega
      have HU := hide hnU
      have Hpl := hide hpl
      clear hFi hnU hpl
      have hT1 := HR.out.1.below ((Below.refl _ wr).alloc (Nat.le_refl _) (.cells #[.int .i64 A, .int .i64 O] 42))
      have g0 := hT1.geo.c0
      have g1 := hT1.geo.c1
      have g2 := hT1.geo.c2
      have g3 := hT1.geo.c3
      have k0 : (wr.alloc (.cells #[.int .i64 A, .int .i64 O] 42)).cell? ⟨wr.heap.size, 0, none⟩ = some (.int .i64 A) := by simp
      have k1 : (wr.alloc (.cells #[.int .i64 A, .int .i64 O] 42)).cell? ⟨wr.heap.size, 1, none⟩ = some (.int .i64 O) := by simp
      have HT1 := hide hT1
      clear hT1
      go_wp2_with (go_at_call 25; refine (hWi _).mono ?_; rintro r w5 ⟨⟨y, rfl⟩, hb5⟩; have hT5 := HT1.out.below hb5; have v5 := hT5.var; have hlk := hT5.map.look (256 * blk + off + i) (by omega) HU.out; rw [← Hpl.out] at hlk; have q0 : w5.cell? ⟨wr.heap.size, 0, none⟩ = some (.int .i64 A) := (by rw [hb5.cell (p := ⟨wr.heap.size, 0, none⟩) (by simp)]; exact k0); have q1 : w5.cell? ⟨wr.heap.size, 1, none⟩ = some (.int .i64 O) := (by rw [hb5.cell (p := ⟨wr.heap.size, 1, none⟩) (by simp)]; exact k1); obtain ⟨w6, hput, hM6, hg6⟩ := hT5.map.put (256 * blk + off + i) (by omega) HU.out (by omega); rw [← Hpl.out] at hput; have HT6 := hide (hT5.put hg6 hM6); have HB5 := hide hb5; have HG6 := hide hg6; clear hM6 hg6 hb5 hT5 g0 g1 g2 g3 k0 k1)
      go_roundw
      case rel =>
        refine ⟨i + 1, by omega, by simp, ?_, ?_⟩
        · refine ⟨HT6.out.geo, HT6.out.var, HT6.out.map.weak (fun t h => ?_), HT6.out.gm, HT6.out.um⟩
          rcases h with (h | h) | h
          · exact Or.inl h
          · exact Or.inr ⟨h.1, by have := h.2; push_cast; omega⟩
          · exact Or.inr ⟨by omega, by push_cast; omega⟩
        · exact grown_trans HR.out.2 (grown_trans (World.grownBy_alloc wr _ _) (grown_trans (grown_below HB5.out _) HG6.out))
      case measure => simp [intOf]; omega
    · have hii : i = M := by omega
      go_wp2_with fail
      go_ret
      subst hii
      exact ⟨rfl, HR.out⟩

end Go.Proofs.Ytecbcjdihnbdhaa
