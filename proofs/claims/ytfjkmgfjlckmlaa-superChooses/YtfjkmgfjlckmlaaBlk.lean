/- Contracts: the two rows of bytes that two blocks make. -/
import Derived.Test.YtfjkmgfjlckmlaaTwo
set_option linter.unusedSimpArgs false
set_option linter.unusedVariables false
namespace Go.Proofs.Ytfjkmgfjlckmlaa
open Go.RowKit Go.Attic

/-- Two rows of bytes, whichever. -/
def TwoBs (w : World) (e : Ending) (w' : World) : Prop := ∃ (v u : Value) (P Q : List Nat), e = .returned (.tuple #[v, u]) ∧ Bs w' v P ∧ Bs w' u Q ∧ P.length ≤ 140737488355328 ∧ Q.length ≤ 140737488355328 ∧ Below w.heap.size w w'

theorem TwoAt.new (w : World) (x0 x1 x2 x3 x4 x5 x6 x7 x8 x9 x10 x11 x12 x13 x14 x15 : Value) : TwoAt (w.alloc (.cells #[x0, x1, x2, x3, x4, x5, x6, x7, x8, x9, x10, x11, x12, x13, x14, x15] 41)) w.heap.size x0 x1 x2 x3 x4 x5 x6 x7 x8 x9 x10 x11 x12 x13 x14 x15 := by
  constructor <;> simp

theorem cellsB_set (l : List Nat) (k z : Nat) : (cellsB l).set k (.int .u8 ((z : Nat) : Int)) = cellsB (l.set k z) := by
  unfold cellsB
  rw [List.map_set]
theorem set_lt {l : List Nat} {k z : Nat} (h : ∀ x ∈ l, x < 256) (hz : z < 256) : ∀ x ∈ l.set k z, x < 256 := fun x hx => by
  rcases List.mem_or_eq_of_mem_set hx with h1 | h1
  · exact h x h1
  · omega
set_option maxRecDepth 100000 in
set_option maxHeartbeats 1000000 in
theorem blk_sys (a0 a1 a2 a3 a4 a5 b0 b1 b2 b3 b4 b5 : Int) (ix by_ : Nat) (vs : Value) (L : List Nat) (w : World) (hix : ix < 256) (hby : by_ < 256) (hv : Bs w vs L) (hlen : L.length ≤ 140737488355328) (MA MB : List Nat) (nA nB : Nat) (eA eB : Int)
    (h18 : ∀ w, Calls Try.prog 18 #[.agg #[.int .i64 a0, .int .i64 a1, .int .i64 a2, .int .i64 a3, .int .i64 a4, .int .i64 a5]] w (NewBsE w MA eA)) (k18 : ∀ w, Calls Try.prog 18 #[.agg #[.int .i64 b0, .int .i64 b1, .int .i64 b2, .int .i64 b3, .int .i64 b4, .int .i64 b5]] w (NewBsE w MB eB)) (hMA : ∀ y ∈ MA, y < 256) (hMB : ∀ y ∈ MB, y < 256) (hB : MB.length = nB) (hnA : nA ≤ 256) (hnB : nB ≤ 256) (hA : MA.length = 256) (hL : 0 < L.length) (hs : (slotS a0 == 1) = true) :
    Calls Try.prog 22 #[.agg #[.int .i64 a0, .int .i64 a1, .int .i64 a2, .int .i64 a3, .int .i64 a4, .int .i64 a5, .int .i64 b0, .int .i64 b1, .int .i64 b2, .int .i64 b3, .int .i64 b4, .int .i64 b5, .bool true, .int .u8 (ix : Nat), .int .u8 (by_ : Nat), vs]] w (TwoBs w) := by
  have hT := TwoAt.new w (.int .i64 a0) (.int .i64 a1) (.int .i64 a2) (.int .i64 a3) (.int .i64 a4) (.int .i64 a5) (.int .i64 b0) (.int .i64 b1) (.int .i64 b2) (.int .i64 b3) (.int .i64 b4) (.int .i64 b5) (.bool true) (.int .u8 (ix : Nat)) (.int .u8 (by_ : Nat)) (vs)
  have hv0 := hv.alloc (.cells #[.int .i64 a0, .int .i64 a1, .int .i64 a2, .int .i64 a3, .int .i64 a4, .int .i64 a5, .int .i64 b0, .int .i64 b1, .int .i64 b2, .int .i64 b3, .int .i64 b4, .int .i64 b5, .bool true, .int .u8 (ix : Nat), .int .u8 (by_ : Nat), vs] 41)
  have hz0 : (w.alloc (.cells #[.int .i64 a0, .int .i64 a1, .int .i64 a2, .int .i64 a3, .int .i64 a4, .int .i64 a5, .int .i64 b0, .int .i64 b1, .int .i64 b2, .int .i64 b3, .int .i64 b4, .int .i64 b5, .bool true, .int .u8 (ix : Nat), .int .u8 (by_ : Nat), vs] 41)).heap.size = w.heap.size + 1 := by simp
  have HA := hide hA
  have HB := hide hB
  obtain ⟨ao, cap, rfl, -, -, -, hvc⟩ := id hv
  obtain ⟨vb, vo, rfl, hvd⟩ := hvc hL
  have hvlt : vb < w.heap.size := by have := World.block_lt_of_cell? w _ (hvd 0 hL); simpa using this
  clear hvc hvd
  go_enter Try.func22, Try.ntmps22
  go_wp2_with fail
  refine (h18 _).mono ?_
  rintro e w1 ⟨va, rfl, hoa, hb1⟩
  have hsa := Bs.of_owns hoa hMA
  rw [HA.out] at hoa
  have hla := hoa.lt
  obtain ⟨aa, pa, rfl, -, haa⟩ := owns_form hoa
  have hT1 := hT.mono hb1
  have hv1 := hv0.mono hb1
  have hB1 : Below w.heap.size w w1 := ((Below.refl _ w).alloc (Nat.le_refl _) _).trans (hb1.mono (by simp))
  rw [hz0] at hla
  obtain ⟨c0, c1, c2, c3, c4, c5, c6, c7, c8, c9, c10, c11, c12, c13, c14, c15, cl⟩ := id hT1
  clear hb1 hT hv0 hv
  go_wp2_with fail
  refine (k18 _).mono ?_
  rintro e w2 ⟨vb2, rfl, hob, hb2⟩
  have hsb := Bs.of_owns hob hMB
  rw [HB.out] at hob
  have hlb := hob.lt
  obtain ⟨ab, pb, rfl, -, hab⟩ := owns_form hob
  have hT2 := hT1.mono hb2
  have hv2 := hv1.mono hb2
  have hsa2 := hsa.mono hb2
  have hoa2 := owns_below hoa hb2 (Nat.le_refl _)
  have hB2 := hB1.trans (hb2.mono hB1.size)
  clear c0 c1 c2 c3 c4 c5 c6 c7 c8 c9 c10 c11 c12 c13 c14 c15 cl
  clear hb2 hT1 hv1 hsa hoa hob
  obtain ⟨c0, c1, c2, c3, c4, c5, c6, c7, c8, c9, c10, c11, c12, c13, c14, c15, cl⟩ := id hT2
  obtain ⟨ga, rfl, hga⟩ := haa (by decide)
  have hc : w2.drew.cell? ⟨ga, ix, none⟩ = some (.int .u8 ((MA.getD ix 0 : Nat) : Int)) := by
    have := (World.ownsRow.drew hoa2).cellAt ix (by omega)
    rw [this]
    have hix2 : ix < MA.length := by rw [HA.out]; exact hix
    simp [cellsB, List.getD, hix2]
  have hcf := (World.ownsRow.drew hoa2).frozenAt ix
  have hx1 := getD_lt hMA ix
  have hxr : bits .xor .u8 ((MA.getD ix 0 : Nat) : Int) (by_ : Int) = ((MA.getD ix 0 ^^^ by_ : Nat) : Int) := u8_xor_nat _ _ (by omega) (by omega)
  have hxl : MA.getD ix 0 ^^^ by_ < 256 := Nat.xor_lt_two_pow (n := 8) hx1 hby
  have hst := (World.ownsRow.drew hoa2).stored ix (.int .u8 ((MA.getD ix 0 ^^^ by_ : Nat) : Int))
  rw [cellsB_set] at hst
  have hsN := Bs.of_owns (w := (w2.setCell ⟨ga, ix, none⟩ (.int .u8 ((MA.getD ix 0 ^^^ by_ : Nat) : Int))).drew) hst.1 (set_lt hMA hxl)
  have hgl := hla ga rfl
  have kk : Keeps (fun k => k = ga) w2 (w2.setCell ⟨ga, ix, none⟩ (.int .u8 ((MA.getD ix 0 ^^^ by_ : Nat) : Int))).drew := (Keeps.setCell (S := fun k => k = ga) w2 rfl _).trans (Keeps.drew _)
  have hTN := hT2.keeps kk (by intro e; omega)
  have hvN := kk.bs hv2 (by intro b hb e; have e1 : vb = b := (by simpa [Value.ownBlock] using hb); have e2 : b = ga := e; omega)
  have hsbN := kk.bs hsb (by intro b hb e; have h1 := hlb b hb; have e2 : b = ga := e; omega)
  have hBN : Below w.heap.size w (w2.setCell ⟨ga, ix, none⟩ (.int .u8 ((MA.getD ix 0 ^^^ by_ : Nat) : Int))).drew := hB2.trans (kk.below (fun j hj => by have e : j = ga := hj; omega) hB2.size)
  have hlN : (MA.set ix (MA.getD ix 0 ^^^ by_)).length ≤ 256 := by rw [List.length_set, HA.out]; decide
  obtain ⟨g0, g1, g2, g3, g4, g5, g6, g7, g8, g9, g10, g11, g12, g13, g14, g15, gl⟩ := hT2.mono (Below.refl _ _).drew
  clear hst hoa2 hsa2 hsb hv2
  generalize MA.getD ix 0 ^^^ by_ = nz at *
  generalize MA.getD ix 0 = oz at *
  go_wp2_with fail
  go_region
  all_goals generalize (w2.setCell ⟨ga, ix, none⟩ (.int .u8 ((nz : Nat) : Int))).drew = w3 at *
  all_goals clear g0 g1 g2 g3 g4 g5 g6 g7 g8 g9 g10 g11 g12 g13 g14 g15 gl c0 c1 c2 c3 c4 c5 c6 c7 c8 c9 c10 c11 c12 c13 c14 c15 cl hc hcf
  all_goals obtain ⟨c0, c1, c2, c3, c4, c5, c6, c7, c8, c9, c10, c11, c12, c13, c14, c15, cl⟩ := id hTN
  all_goals go_wp2_with fail
  all_goals refine (rslot_any a0 a1 a2 a3 a4 a5 _).mono ?_
  all_goals rintro e w4 ⟨rfl, hb4⟩
  all_goals generalize slotS a0 = sq at *
  all_goals go_wp2_with fail
  all_goals go_ret2
  all_goals exact ⟨_, _, _, _, rfl, hvN.mono hb4, hsN.mono hb4, hlen, (by omega), hBN.trans (hb4.mono hBN.size)⟩

set_option maxRecDepth 100000 in
set_option maxHeartbeats 1000000 in
theorem blk_syo (a0 a1 a2 a3 a4 a5 b0 b1 b2 b3 b4 b5 : Int) (ix by_ : Nat) (vs : Value) (L : List Nat) (w : World) (hix : ix < 256) (hby : by_ < 256) (hv : Bs w vs L) (hlen : L.length ≤ 140737488355328) (MA MB : List Nat) (nA nB : Nat) (eA eB : Int)
    (h18 : ∀ w, Calls Try.prog 18 #[.agg #[.int .i64 a0, .int .i64 a1, .int .i64 a2, .int .i64 a3, .int .i64 a4, .int .i64 a5]] w (NewBsE w MA eA)) (k18 : ∀ w, Calls Try.prog 18 #[.agg #[.int .i64 b0, .int .i64 b1, .int .i64 b2, .int .i64 b3, .int .i64 b4, .int .i64 b5]] w (NewBsE w MB eB)) (hMA : ∀ y ∈ MA, y < 256) (hMB : ∀ y ∈ MB, y < 256) (hB : MB.length = nB) (hnA : nA ≤ 256) (hnB : nB ≤ 256) (hA : MA.length = 256) (hL : 0 < L.length) (hs : (slotS a0 == 1) = false) :
    Calls Try.prog 22 #[.agg #[.int .i64 a0, .int .i64 a1, .int .i64 a2, .int .i64 a3, .int .i64 a4, .int .i64 a5, .int .i64 b0, .int .i64 b1, .int .i64 b2, .int .i64 b3, .int .i64 b4, .int .i64 b5, .bool true, .int .u8 (ix : Nat), .int .u8 (by_ : Nat), vs]] w (TwoBs w) := by
  have hT := TwoAt.new w (.int .i64 a0) (.int .i64 a1) (.int .i64 a2) (.int .i64 a3) (.int .i64 a4) (.int .i64 a5) (.int .i64 b0) (.int .i64 b1) (.int .i64 b2) (.int .i64 b3) (.int .i64 b4) (.int .i64 b5) (.bool true) (.int .u8 (ix : Nat)) (.int .u8 (by_ : Nat)) (vs)
  have hv0 := hv.alloc (.cells #[.int .i64 a0, .int .i64 a1, .int .i64 a2, .int .i64 a3, .int .i64 a4, .int .i64 a5, .int .i64 b0, .int .i64 b1, .int .i64 b2, .int .i64 b3, .int .i64 b4, .int .i64 b5, .bool true, .int .u8 (ix : Nat), .int .u8 (by_ : Nat), vs] 41)
  have hz0 : (w.alloc (.cells #[.int .i64 a0, .int .i64 a1, .int .i64 a2, .int .i64 a3, .int .i64 a4, .int .i64 a5, .int .i64 b0, .int .i64 b1, .int .i64 b2, .int .i64 b3, .int .i64 b4, .int .i64 b5, .bool true, .int .u8 (ix : Nat), .int .u8 (by_ : Nat), vs] 41)).heap.size = w.heap.size + 1 := by simp
  have HA := hide hA
  have HB := hide hB
  obtain ⟨ao, cap, rfl, -, -, -, hvc⟩ := id hv
  obtain ⟨vb, vo, rfl, hvd⟩ := hvc hL
  have hvlt : vb < w.heap.size := by have := World.block_lt_of_cell? w _ (hvd 0 hL); simpa using this
  clear hvc hvd
  go_enter Try.func22, Try.ntmps22
  go_wp2_with fail
  refine (h18 _).mono ?_
  rintro e w1 ⟨va, rfl, hoa, hb1⟩
  have hsa := Bs.of_owns hoa hMA
  rw [HA.out] at hoa
  have hla := hoa.lt
  obtain ⟨aa, pa, rfl, -, haa⟩ := owns_form hoa
  have hT1 := hT.mono hb1
  have hv1 := hv0.mono hb1
  have hB1 : Below w.heap.size w w1 := ((Below.refl _ w).alloc (Nat.le_refl _) _).trans (hb1.mono (by simp))
  rw [hz0] at hla
  obtain ⟨c0, c1, c2, c3, c4, c5, c6, c7, c8, c9, c10, c11, c12, c13, c14, c15, cl⟩ := id hT1
  clear hb1 hT hv0 hv
  go_wp2_with fail
  refine (k18 _).mono ?_
  rintro e w2 ⟨vb2, rfl, hob, hb2⟩
  have hsb := Bs.of_owns hob hMB
  rw [HB.out] at hob
  have hlb := hob.lt
  obtain ⟨ab, pb, rfl, -, hab⟩ := owns_form hob
  have hT2 := hT1.mono hb2
  have hv2 := hv1.mono hb2
  have hsa2 := hsa.mono hb2
  have hoa2 := owns_below hoa hb2 (Nat.le_refl _)
  have hB2 := hB1.trans (hb2.mono hB1.size)
  clear c0 c1 c2 c3 c4 c5 c6 c7 c8 c9 c10 c11 c12 c13 c14 c15 cl
  clear hb2 hT1 hv1 hsa hoa hob
  obtain ⟨c0, c1, c2, c3, c4, c5, c6, c7, c8, c9, c10, c11, c12, c13, c14, c15, cl⟩ := id hT2
  obtain ⟨ga, rfl, hga⟩ := haa (by decide)
  have hc : w2.drew.cell? ⟨ga, ix, none⟩ = some (.int .u8 ((MA.getD ix 0 : Nat) : Int)) := by
    have := (World.ownsRow.drew hoa2).cellAt ix (by omega)
    rw [this]
    have hix2 : ix < MA.length := by rw [HA.out]; exact hix
    simp [cellsB, List.getD, hix2]
  have hcf := (World.ownsRow.drew hoa2).frozenAt ix
  have hx1 := getD_lt hMA ix
  have hxr : bits .xor .u8 ((MA.getD ix 0 : Nat) : Int) (by_ : Int) = ((MA.getD ix 0 ^^^ by_ : Nat) : Int) := u8_xor_nat _ _ (by omega) (by omega)
  have hxl : MA.getD ix 0 ^^^ by_ < 256 := Nat.xor_lt_two_pow (n := 8) hx1 hby
  have hst := (World.ownsRow.drew hoa2).stored ix (.int .u8 ((MA.getD ix 0 ^^^ by_ : Nat) : Int))
  rw [cellsB_set] at hst
  have hsN := Bs.of_owns (w := (w2.setCell ⟨ga, ix, none⟩ (.int .u8 ((MA.getD ix 0 ^^^ by_ : Nat) : Int))).drew) hst.1 (set_lt hMA hxl)
  have hgl := hla ga rfl
  have kk : Keeps (fun k => k = ga) w2 (w2.setCell ⟨ga, ix, none⟩ (.int .u8 ((MA.getD ix 0 ^^^ by_ : Nat) : Int))).drew := (Keeps.setCell (S := fun k => k = ga) w2 rfl _).trans (Keeps.drew _)
  have hTN := hT2.keeps kk (by intro e; omega)
  have hvN := kk.bs hv2 (by intro b hb e; have e1 : vb = b := (by simpa [Value.ownBlock] using hb); have e2 : b = ga := e; omega)
  have hsbN := kk.bs hsb (by intro b hb e; have h1 := hlb b hb; have e2 : b = ga := e; omega)
  have hBN : Below w.heap.size w (w2.setCell ⟨ga, ix, none⟩ (.int .u8 ((MA.getD ix 0 ^^^ by_ : Nat) : Int))).drew := hB2.trans (kk.below (fun j hj => by have e : j = ga := hj; omega) hB2.size)
  have hlN : (MA.set ix (MA.getD ix 0 ^^^ by_)).length ≤ 256 := by rw [List.length_set, HA.out]; decide
  obtain ⟨g0, g1, g2, g3, g4, g5, g6, g7, g8, g9, g10, g11, g12, g13, g14, g15, gl⟩ := hT2.mono (Below.refl _ _).drew
  clear hst hoa2 hsa2 hsb hv2
  generalize MA.getD ix 0 ^^^ by_ = nz at *
  generalize MA.getD ix 0 = oz at *
  go_wp2_with fail
  go_region
  all_goals generalize (w2.setCell ⟨ga, ix, none⟩ (.int .u8 ((nz : Nat) : Int))).drew = w3 at *
  all_goals clear g0 g1 g2 g3 g4 g5 g6 g7 g8 g9 g10 g11 g12 g13 g14 g15 gl c0 c1 c2 c3 c4 c5 c6 c7 c8 c9 c10 c11 c12 c13 c14 c15 cl hc hcf
  all_goals obtain ⟨c0, c1, c2, c3, c4, c5, c6, c7, c8, c9, c10, c11, c12, c13, c14, c15, cl⟩ := id hTN
  all_goals go_wp2_with fail
  all_goals refine (rslot_any a0 a1 a2 a3 a4 a5 _).mono ?_
  all_goals rintro e w4 ⟨rfl, hb4⟩
  all_goals generalize slotS a0 = sq at *
  all_goals go_wp2_with fail
  all_goals go_ret2
  all_goals exact ⟨_, _, _, _, rfl, hsN.mono hb4, hvN.mono hb4, (by omega), hlen, hBN.trans (hb4.mono hBN.size)⟩

set_option maxRecDepth 100000 in
set_option maxHeartbeats 1000000 in
theorem blk_sns (a0 a1 a2 a3 a4 a5 b0 b1 b2 b3 b4 b5 : Int) (ix by_ : Nat) (vs : Value) (L : List Nat) (w : World) (hix : ix < 256) (hby : by_ < 256) (hv : Bs w vs L) (hlen : L.length ≤ 140737488355328) (MA MB : List Nat) (nA nB : Nat) (eA eB : Int)
    (h18 : ∀ w, Calls Try.prog 18 #[.agg #[.int .i64 a0, .int .i64 a1, .int .i64 a2, .int .i64 a3, .int .i64 a4, .int .i64 a5]] w (NewBsE w MA eA)) (k18 : ∀ w, Calls Try.prog 18 #[.agg #[.int .i64 b0, .int .i64 b1, .int .i64 b2, .int .i64 b3, .int .i64 b4, .int .i64 b5]] w (NewBsE w MB eB)) (hMA : ∀ y ∈ MA, y < 256) (hMB : ∀ y ∈ MB, y < 256) (hB : MB.length = nB) (hnA : nA ≤ 256) (hnB : nB ≤ 256) (hA : MA.length = 256) (hL : L.length = 0) (hs : (slotS a0 == 1) = true) :
    Calls Try.prog 22 #[.agg #[.int .i64 a0, .int .i64 a1, .int .i64 a2, .int .i64 a3, .int .i64 a4, .int .i64 a5, .int .i64 b0, .int .i64 b1, .int .i64 b2, .int .i64 b3, .int .i64 b4, .int .i64 b5, .bool true, .int .u8 (ix : Nat), .int .u8 (by_ : Nat), vs]] w (TwoBs w) := by
  have hT := TwoAt.new w (.int .i64 a0) (.int .i64 a1) (.int .i64 a2) (.int .i64 a3) (.int .i64 a4) (.int .i64 a5) (.int .i64 b0) (.int .i64 b1) (.int .i64 b2) (.int .i64 b3) (.int .i64 b4) (.int .i64 b5) (.bool true) (.int .u8 (ix : Nat)) (.int .u8 (by_ : Nat)) (vs)
  have hv0 := hv.alloc (.cells #[.int .i64 a0, .int .i64 a1, .int .i64 a2, .int .i64 a3, .int .i64 a4, .int .i64 a5, .int .i64 b0, .int .i64 b1, .int .i64 b2, .int .i64 b3, .int .i64 b4, .int .i64 b5, .bool true, .int .u8 (ix : Nat), .int .u8 (by_ : Nat), vs] 41)
  have hz0 : (w.alloc (.cells #[.int .i64 a0, .int .i64 a1, .int .i64 a2, .int .i64 a3, .int .i64 a4, .int .i64 a5, .int .i64 b0, .int .i64 b1, .int .i64 b2, .int .i64 b3, .int .i64 b4, .int .i64 b5, .bool true, .int .u8 (ix : Nat), .int .u8 (by_ : Nat), vs] 41)).heap.size = w.heap.size + 1 := by simp
  have HA := hide hA
  have HB := hide hB
  obtain ⟨ao, cap, rfl, -, -, -, hvc⟩ := id hv
  clear hvc
  rw [hL] at hT hv0 hz0 ⊢
  go_enter Try.func22, Try.ntmps22
  go_wp2_with fail
  refine (h18 _).mono ?_
  rintro e w1 ⟨va, rfl, hoa, hb1⟩
  have hsa := Bs.of_owns hoa hMA
  rw [HA.out] at hoa
  have hla := hoa.lt
  obtain ⟨aa, pa, rfl, -, haa⟩ := owns_form hoa
  have hT1 := hT.mono hb1
  have hv1 := hv0.mono hb1
  have hB1 : Below w.heap.size w w1 := ((Below.refl _ w).alloc (Nat.le_refl _) _).trans (hb1.mono (by simp))
  rw [hz0] at hla
  obtain ⟨c0, c1, c2, c3, c4, c5, c6, c7, c8, c9, c10, c11, c12, c13, c14, c15, cl⟩ := id hT1
  clear hb1 hT hv0 hv
  go_wp2_with fail
  refine (k18 _).mono ?_
  rintro e w2 ⟨vb2, rfl, hob, hb2⟩
  have hsb := Bs.of_owns hob hMB
  rw [HB.out] at hob
  have hlb := hob.lt
  obtain ⟨ab, pb, rfl, -, hab⟩ := owns_form hob
  have hT2 := hT1.mono hb2
  have hv2 := hv1.mono hb2
  have hsa2 := hsa.mono hb2
  have hoa2 := owns_below hoa hb2 (Nat.le_refl _)
  have hB2 := hB1.trans (hb2.mono hB1.size)
  clear c0 c1 c2 c3 c4 c5 c6 c7 c8 c9 c10 c11 c12 c13 c14 c15 cl
  clear hb2 hT1 hv1 hsa hoa hob
  obtain ⟨c0, c1, c2, c3, c4, c5, c6, c7, c8, c9, c10, c11, c12, c13, c14, c15, cl⟩ := id hT2
  obtain ⟨ga, rfl, hga⟩ := haa (by decide)
  have hc : w2.drew.cell? ⟨ga, ix, none⟩ = some (.int .u8 ((MA.getD ix 0 : Nat) : Int)) := by
    have := (World.ownsRow.drew hoa2).cellAt ix (by omega)
    rw [this]
    have hix2 : ix < MA.length := by rw [HA.out]; exact hix
    simp [cellsB, List.getD, hix2]
  have hcf := (World.ownsRow.drew hoa2).frozenAt ix
  have hx1 := getD_lt hMA ix
  have hxr : bits .xor .u8 ((MA.getD ix 0 : Nat) : Int) (by_ : Int) = ((MA.getD ix 0 ^^^ by_ : Nat) : Int) := u8_xor_nat _ _ (by omega) (by omega)
  have hxl : MA.getD ix 0 ^^^ by_ < 256 := Nat.xor_lt_two_pow (n := 8) hx1 hby
  have hst := (World.ownsRow.drew hoa2).stored ix (.int .u8 ((MA.getD ix 0 ^^^ by_ : Nat) : Int))
  rw [cellsB_set] at hst
  have hsN := Bs.of_owns (w := (w2.setCell ⟨ga, ix, none⟩ (.int .u8 ((MA.getD ix 0 ^^^ by_ : Nat) : Int))).drew) hst.1 (set_lt hMA hxl)
  have hgl := hla ga rfl
  have kk : Keeps (fun k => k = ga) w2 (w2.setCell ⟨ga, ix, none⟩ (.int .u8 ((MA.getD ix 0 ^^^ by_ : Nat) : Int))).drew := (Keeps.setCell (S := fun k => k = ga) w2 rfl _).trans (Keeps.drew _)
  have hTN := hT2.keeps kk (by intro e; omega)
  have hsbN := kk.bs hsb (by intro b hb e; have h1 := hlb b hb; have e2 : b = ga := e; omega)
  have hBN : Below w.heap.size w (w2.setCell ⟨ga, ix, none⟩ (.int .u8 ((MA.getD ix 0 ^^^ by_ : Nat) : Int))).drew := hB2.trans (kk.below (fun j hj => by have e : j = ga := hj; omega) hB2.size)
  have hlN : (MA.set ix (MA.getD ix 0 ^^^ by_)).length ≤ 256 := by rw [List.length_set, HA.out]; decide
  obtain ⟨g0, g1, g2, g3, g4, g5, g6, g7, g8, g9, g10, g11, g12, g13, g14, g15, gl⟩ := hT2.mono (Below.refl _ _).drew
  clear hst hoa2 hsa2 hsb hv2
  generalize MA.getD ix 0 ^^^ by_ = nz at *
  generalize MA.getD ix 0 = oz at *
  go_wp2_with fail
  go_region
  all_goals generalize (w2.setCell ⟨ga, ix, none⟩ (.int .u8 ((nz : Nat) : Int))).drew = w3 at *
  all_goals clear g0 g1 g2 g3 g4 g5 g6 g7 g8 g9 g10 g11 g12 g13 g14 g15 gl c0 c1 c2 c3 c4 c5 c6 c7 c8 c9 c10 c11 c12 c13 c14 c15 cl hc hcf
  all_goals obtain ⟨c0, c1, c2, c3, c4, c5, c6, c7, c8, c9, c10, c11, c12, c13, c14, c15, cl⟩ := id hTN
  all_goals go_wp2_with fail
  all_goals refine (rslot_any a0 a1 a2 a3 a4 a5 _).mono ?_
  all_goals rintro e w4 ⟨rfl, hb4⟩
  all_goals generalize slotS a0 = sq at *
  all_goals go_wp2_with fail
  all_goals go_ret2
  all_goals exact ⟨_, _, _, _, rfl, hsbN.mono hb4, hsN.mono hb4, (by rw [HB.out]; omega), (by omega), hBN.trans (hb4.mono hBN.size)⟩

set_option maxRecDepth 100000 in
set_option maxHeartbeats 1000000 in
theorem blk_sno (a0 a1 a2 a3 a4 a5 b0 b1 b2 b3 b4 b5 : Int) (ix by_ : Nat) (vs : Value) (L : List Nat) (w : World) (hix : ix < 256) (hby : by_ < 256) (hv : Bs w vs L) (hlen : L.length ≤ 140737488355328) (MA MB : List Nat) (nA nB : Nat) (eA eB : Int)
    (h18 : ∀ w, Calls Try.prog 18 #[.agg #[.int .i64 a0, .int .i64 a1, .int .i64 a2, .int .i64 a3, .int .i64 a4, .int .i64 a5]] w (NewBsE w MA eA)) (k18 : ∀ w, Calls Try.prog 18 #[.agg #[.int .i64 b0, .int .i64 b1, .int .i64 b2, .int .i64 b3, .int .i64 b4, .int .i64 b5]] w (NewBsE w MB eB)) (hMA : ∀ y ∈ MA, y < 256) (hMB : ∀ y ∈ MB, y < 256) (hB : MB.length = nB) (hnA : nA ≤ 256) (hnB : nB ≤ 256) (hA : MA.length = 256) (hL : L.length = 0) (hs : (slotS a0 == 1) = false) :
    Calls Try.prog 22 #[.agg #[.int .i64 a0, .int .i64 a1, .int .i64 a2, .int .i64 a3, .int .i64 a4, .int .i64 a5, .int .i64 b0, .int .i64 b1, .int .i64 b2, .int .i64 b3, .int .i64 b4, .int .i64 b5, .bool true, .int .u8 (ix : Nat), .int .u8 (by_ : Nat), vs]] w (TwoBs w) := by
  have hT := TwoAt.new w (.int .i64 a0) (.int .i64 a1) (.int .i64 a2) (.int .i64 a3) (.int .i64 a4) (.int .i64 a5) (.int .i64 b0) (.int .i64 b1) (.int .i64 b2) (.int .i64 b3) (.int .i64 b4) (.int .i64 b5) (.bool true) (.int .u8 (ix : Nat)) (.int .u8 (by_ : Nat)) (vs)
  have hv0 := hv.alloc (.cells #[.int .i64 a0, .int .i64 a1, .int .i64 a2, .int .i64 a3, .int .i64 a4, .int .i64 a5, .int .i64 b0, .int .i64 b1, .int .i64 b2, .int .i64 b3, .int .i64 b4, .int .i64 b5, .bool true, .int .u8 (ix : Nat), .int .u8 (by_ : Nat), vs] 41)
  have hz0 : (w.alloc (.cells #[.int .i64 a0, .int .i64 a1, .int .i64 a2, .int .i64 a3, .int .i64 a4, .int .i64 a5, .int .i64 b0, .int .i64 b1, .int .i64 b2, .int .i64 b3, .int .i64 b4, .int .i64 b5, .bool true, .int .u8 (ix : Nat), .int .u8 (by_ : Nat), vs] 41)).heap.size = w.heap.size + 1 := by simp
  have HA := hide hA
  have HB := hide hB
  obtain ⟨ao, cap, rfl, -, -, -, hvc⟩ := id hv
  clear hvc
  rw [hL] at hT hv0 hz0 ⊢
  go_enter Try.func22, Try.ntmps22
  go_wp2_with fail
  refine (h18 _).mono ?_
  rintro e w1 ⟨va, rfl, hoa, hb1⟩
  have hsa := Bs.of_owns hoa hMA
  rw [HA.out] at hoa
  have hla := hoa.lt
  obtain ⟨aa, pa, rfl, -, haa⟩ := owns_form hoa
  have hT1 := hT.mono hb1
  have hv1 := hv0.mono hb1
  have hB1 : Below w.heap.size w w1 := ((Below.refl _ w).alloc (Nat.le_refl _) _).trans (hb1.mono (by simp))
  rw [hz0] at hla
  obtain ⟨c0, c1, c2, c3, c4, c5, c6, c7, c8, c9, c10, c11, c12, c13, c14, c15, cl⟩ := id hT1
  clear hb1 hT hv0 hv
  go_wp2_with fail
  refine (k18 _).mono ?_
  rintro e w2 ⟨vb2, rfl, hob, hb2⟩
  have hsb := Bs.of_owns hob hMB
  rw [HB.out] at hob
  have hlb := hob.lt
  obtain ⟨ab, pb, rfl, -, hab⟩ := owns_form hob
  have hT2 := hT1.mono hb2
  have hv2 := hv1.mono hb2
  have hsa2 := hsa.mono hb2
  have hoa2 := owns_below hoa hb2 (Nat.le_refl _)
  have hB2 := hB1.trans (hb2.mono hB1.size)
  clear c0 c1 c2 c3 c4 c5 c6 c7 c8 c9 c10 c11 c12 c13 c14 c15 cl
  clear hb2 hT1 hv1 hsa hoa hob
  obtain ⟨c0, c1, c2, c3, c4, c5, c6, c7, c8, c9, c10, c11, c12, c13, c14, c15, cl⟩ := id hT2
  obtain ⟨ga, rfl, hga⟩ := haa (by decide)
  have hc : w2.drew.cell? ⟨ga, ix, none⟩ = some (.int .u8 ((MA.getD ix 0 : Nat) : Int)) := by
    have := (World.ownsRow.drew hoa2).cellAt ix (by omega)
    rw [this]
    have hix2 : ix < MA.length := by rw [HA.out]; exact hix
    simp [cellsB, List.getD, hix2]
  have hcf := (World.ownsRow.drew hoa2).frozenAt ix
  have hx1 := getD_lt hMA ix
  have hxr : bits .xor .u8 ((MA.getD ix 0 : Nat) : Int) (by_ : Int) = ((MA.getD ix 0 ^^^ by_ : Nat) : Int) := u8_xor_nat _ _ (by omega) (by omega)
  have hxl : MA.getD ix 0 ^^^ by_ < 256 := Nat.xor_lt_two_pow (n := 8) hx1 hby
  have hst := (World.ownsRow.drew hoa2).stored ix (.int .u8 ((MA.getD ix 0 ^^^ by_ : Nat) : Int))
  rw [cellsB_set] at hst
  have hsN := Bs.of_owns (w := (w2.setCell ⟨ga, ix, none⟩ (.int .u8 ((MA.getD ix 0 ^^^ by_ : Nat) : Int))).drew) hst.1 (set_lt hMA hxl)
  have hgl := hla ga rfl
  have kk : Keeps (fun k => k = ga) w2 (w2.setCell ⟨ga, ix, none⟩ (.int .u8 ((MA.getD ix 0 ^^^ by_ : Nat) : Int))).drew := (Keeps.setCell (S := fun k => k = ga) w2 rfl _).trans (Keeps.drew _)
  have hTN := hT2.keeps kk (by intro e; omega)
  have hsbN := kk.bs hsb (by intro b hb e; have h1 := hlb b hb; have e2 : b = ga := e; omega)
  have hBN : Below w.heap.size w (w2.setCell ⟨ga, ix, none⟩ (.int .u8 ((MA.getD ix 0 ^^^ by_ : Nat) : Int))).drew := hB2.trans (kk.below (fun j hj => by have e : j = ga := hj; omega) hB2.size)
  have hlN : (MA.set ix (MA.getD ix 0 ^^^ by_)).length ≤ 256 := by rw [List.length_set, HA.out]; decide
  obtain ⟨g0, g1, g2, g3, g4, g5, g6, g7, g8, g9, g10, g11, g12, g13, g14, g15, gl⟩ := hT2.mono (Below.refl _ _).drew
  clear hst hoa2 hsa2 hsb hv2
  generalize MA.getD ix 0 ^^^ by_ = nz at *
  generalize MA.getD ix 0 = oz at *
  go_wp2_with fail
  go_region
  all_goals generalize (w2.setCell ⟨ga, ix, none⟩ (.int .u8 ((nz : Nat) : Int))).drew = w3 at *
  all_goals clear g0 g1 g2 g3 g4 g5 g6 g7 g8 g9 g10 g11 g12 g13 g14 g15 gl c0 c1 c2 c3 c4 c5 c6 c7 c8 c9 c10 c11 c12 c13 c14 c15 cl hc hcf
  all_goals obtain ⟨c0, c1, c2, c3, c4, c5, c6, c7, c8, c9, c10, c11, c12, c13, c14, c15, cl⟩ := id hTN
  all_goals go_wp2_with fail
  all_goals refine (rslot_any a0 a1 a2 a3 a4 a5 _).mono ?_
  all_goals rintro e w4 ⟨rfl, hb4⟩
  all_goals generalize slotS a0 = sq at *
  all_goals go_wp2_with fail
  all_goals go_ret2
  all_goals exact ⟨_, _, _, _, rfl, hsN.mono hb4, hsbN.mono hb4, (by omega), (by rw [HB.out]; omega), hBN.trans (hb4.mono hBN.size)⟩

set_option maxRecDepth 100000 in
set_option maxHeartbeats 1000000 in
theorem blk_eys (a0 a1 a2 a3 a4 a5 b0 b1 b2 b3 b4 b5 : Int) (ix by_ : Nat) (vs : Value) (L : List Nat) (w : World) (hix : ix < 256) (hby : by_ < 256) (hv : Bs w vs L) (hlen : L.length ≤ 140737488355328) (MA MB : List Nat) (nA nB : Nat) (eA eB : Int)
    (h18 : ∀ w, Calls Try.prog 18 #[.agg #[.int .i64 a0, .int .i64 a1, .int .i64 a2, .int .i64 a3, .int .i64 a4, .int .i64 a5]] w (NewBsE w MA eA)) (k18 : ∀ w, Calls Try.prog 18 #[.agg #[.int .i64 b0, .int .i64 b1, .int .i64 b2, .int .i64 b3, .int .i64 b4, .int .i64 b5]] w (NewBsE w MB eB)) (hMA : ∀ y ∈ MA, y < 256) (hMB : ∀ y ∈ MB, y < 256) (hB : MB.length = nB) (hnA : nA ≤ 256) (hnB : nB ≤ 256) (hA : MA.length = 0) (hL : 0 < L.length) (hs : (slotS a0 == 1) = true) :
    Calls Try.prog 22 #[.agg #[.int .i64 a0, .int .i64 a1, .int .i64 a2, .int .i64 a3, .int .i64 a4, .int .i64 a5, .int .i64 b0, .int .i64 b1, .int .i64 b2, .int .i64 b3, .int .i64 b4, .int .i64 b5, .bool true, .int .u8 (ix : Nat), .int .u8 (by_ : Nat), vs]] w (TwoBs w) := by
  have hT := TwoAt.new w (.int .i64 a0) (.int .i64 a1) (.int .i64 a2) (.int .i64 a3) (.int .i64 a4) (.int .i64 a5) (.int .i64 b0) (.int .i64 b1) (.int .i64 b2) (.int .i64 b3) (.int .i64 b4) (.int .i64 b5) (.bool true) (.int .u8 (ix : Nat)) (.int .u8 (by_ : Nat)) (vs)
  have hv0 := hv.alloc (.cells #[.int .i64 a0, .int .i64 a1, .int .i64 a2, .int .i64 a3, .int .i64 a4, .int .i64 a5, .int .i64 b0, .int .i64 b1, .int .i64 b2, .int .i64 b3, .int .i64 b4, .int .i64 b5, .bool true, .int .u8 (ix : Nat), .int .u8 (by_ : Nat), vs] 41)
  have hz0 : (w.alloc (.cells #[.int .i64 a0, .int .i64 a1, .int .i64 a2, .int .i64 a3, .int .i64 a4, .int .i64 a5, .int .i64 b0, .int .i64 b1, .int .i64 b2, .int .i64 b3, .int .i64 b4, .int .i64 b5, .bool true, .int .u8 (ix : Nat), .int .u8 (by_ : Nat), vs] 41)).heap.size = w.heap.size + 1 := by simp
  have HA := hide hA
  have HB := hide hB
  obtain ⟨ao, cap, rfl, -, -, -, hvc⟩ := id hv
  obtain ⟨vb, vo, rfl, hvd⟩ := hvc hL
  have hvlt : vb < w.heap.size := by have := World.block_lt_of_cell? w _ (hvd 0 hL); simpa using this
  clear hvc hvd
  go_enter Try.func22, Try.ntmps22
  go_wp2_with fail
  refine (h18 _).mono ?_
  rintro e w1 ⟨va, rfl, hoa, hb1⟩
  have hsa := Bs.of_owns hoa hMA
  rw [HA.out] at hoa
  have hla := hoa.lt
  obtain ⟨aa, pa, rfl, -, haa⟩ := owns_form hoa
  have hT1 := hT.mono hb1
  have hv1 := hv0.mono hb1
  have hB1 : Below w.heap.size w w1 := ((Below.refl _ w).alloc (Nat.le_refl _) _).trans (hb1.mono (by simp))
  rw [hz0] at hla
  obtain ⟨c0, c1, c2, c3, c4, c5, c6, c7, c8, c9, c10, c11, c12, c13, c14, c15, cl⟩ := id hT1
  clear hb1 hT hv0 hv
  go_wp2_with fail
  refine (k18 _).mono ?_
  rintro e w2 ⟨vb2, rfl, hob, hb2⟩
  have hsb := Bs.of_owns hob hMB
  rw [HB.out] at hob
  have hlb := hob.lt
  obtain ⟨ab, pb, rfl, -, hab⟩ := owns_form hob
  have hT2 := hT1.mono hb2
  have hv2 := hv1.mono hb2
  have hsa2 := hsa.mono hb2
  have hoa2 := owns_below hoa hb2 (Nat.le_refl _)
  have hB2 := hB1.trans (hb2.mono hB1.size)
  clear c0 c1 c2 c3 c4 c5 c6 c7 c8 c9 c10 c11 c12 c13 c14 c15 cl
  clear hb2 hT1 hv1 hsa hoa hob
  obtain ⟨c0, c1, c2, c3, c4, c5, c6, c7, c8, c9, c10, c11, c12, c13, c14, c15, cl⟩ := id hT2
  have hTN := hT2
  go_wp2_with fail
  refine (rslot_any a0 a1 a2 a3 a4 a5 _).mono ?_
  rintro e w4 ⟨rfl, hb4⟩
  generalize slotS a0 = sq at *
  go_wp2_with fail
  go_ret2
  exact ⟨_, _, _, _, rfl, hv2.mono hb4, hsa2.mono hb4, hlen, (by rw [HA.out]; omega), hB2.trans (hb4.mono hB2.size)⟩

set_option maxRecDepth 100000 in
set_option maxHeartbeats 1000000 in
theorem blk_eyo (a0 a1 a2 a3 a4 a5 b0 b1 b2 b3 b4 b5 : Int) (ix by_ : Nat) (vs : Value) (L : List Nat) (w : World) (hix : ix < 256) (hby : by_ < 256) (hv : Bs w vs L) (hlen : L.length ≤ 140737488355328) (MA MB : List Nat) (nA nB : Nat) (eA eB : Int)
    (h18 : ∀ w, Calls Try.prog 18 #[.agg #[.int .i64 a0, .int .i64 a1, .int .i64 a2, .int .i64 a3, .int .i64 a4, .int .i64 a5]] w (NewBsE w MA eA)) (k18 : ∀ w, Calls Try.prog 18 #[.agg #[.int .i64 b0, .int .i64 b1, .int .i64 b2, .int .i64 b3, .int .i64 b4, .int .i64 b5]] w (NewBsE w MB eB)) (hMA : ∀ y ∈ MA, y < 256) (hMB : ∀ y ∈ MB, y < 256) (hB : MB.length = nB) (hnA : nA ≤ 256) (hnB : nB ≤ 256) (hA : MA.length = 0) (hL : 0 < L.length) (hs : (slotS a0 == 1) = false) :
    Calls Try.prog 22 #[.agg #[.int .i64 a0, .int .i64 a1, .int .i64 a2, .int .i64 a3, .int .i64 a4, .int .i64 a5, .int .i64 b0, .int .i64 b1, .int .i64 b2, .int .i64 b3, .int .i64 b4, .int .i64 b5, .bool true, .int .u8 (ix : Nat), .int .u8 (by_ : Nat), vs]] w (TwoBs w) := by
  have hT := TwoAt.new w (.int .i64 a0) (.int .i64 a1) (.int .i64 a2) (.int .i64 a3) (.int .i64 a4) (.int .i64 a5) (.int .i64 b0) (.int .i64 b1) (.int .i64 b2) (.int .i64 b3) (.int .i64 b4) (.int .i64 b5) (.bool true) (.int .u8 (ix : Nat)) (.int .u8 (by_ : Nat)) (vs)
  have hv0 := hv.alloc (.cells #[.int .i64 a0, .int .i64 a1, .int .i64 a2, .int .i64 a3, .int .i64 a4, .int .i64 a5, .int .i64 b0, .int .i64 b1, .int .i64 b2, .int .i64 b3, .int .i64 b4, .int .i64 b5, .bool true, .int .u8 (ix : Nat), .int .u8 (by_ : Nat), vs] 41)
  have hz0 : (w.alloc (.cells #[.int .i64 a0, .int .i64 a1, .int .i64 a2, .int .i64 a3, .int .i64 a4, .int .i64 a5, .int .i64 b0, .int .i64 b1, .int .i64 b2, .int .i64 b3, .int .i64 b4, .int .i64 b5, .bool true, .int .u8 (ix : Nat), .int .u8 (by_ : Nat), vs] 41)).heap.size = w.heap.size + 1 := by simp
  have HA := hide hA
  have HB := hide hB
  obtain ⟨ao, cap, rfl, -, -, -, hvc⟩ := id hv
  obtain ⟨vb, vo, rfl, hvd⟩ := hvc hL
  have hvlt : vb < w.heap.size := by have := World.block_lt_of_cell? w _ (hvd 0 hL); simpa using this
  clear hvc hvd
  go_enter Try.func22, Try.ntmps22
  go_wp2_with fail
  refine (h18 _).mono ?_
  rintro e w1 ⟨va, rfl, hoa, hb1⟩
  have hsa := Bs.of_owns hoa hMA
  rw [HA.out] at hoa
  have hla := hoa.lt
  obtain ⟨aa, pa, rfl, -, haa⟩ := owns_form hoa
  have hT1 := hT.mono hb1
  have hv1 := hv0.mono hb1
  have hB1 : Below w.heap.size w w1 := ((Below.refl _ w).alloc (Nat.le_refl _) _).trans (hb1.mono (by simp))
  rw [hz0] at hla
  obtain ⟨c0, c1, c2, c3, c4, c5, c6, c7, c8, c9, c10, c11, c12, c13, c14, c15, cl⟩ := id hT1
  clear hb1 hT hv0 hv
  go_wp2_with fail
  refine (k18 _).mono ?_
  rintro e w2 ⟨vb2, rfl, hob, hb2⟩
  have hsb := Bs.of_owns hob hMB
  rw [HB.out] at hob
  have hlb := hob.lt
  obtain ⟨ab, pb, rfl, -, hab⟩ := owns_form hob
  have hT2 := hT1.mono hb2
  have hv2 := hv1.mono hb2
  have hsa2 := hsa.mono hb2
  have hoa2 := owns_below hoa hb2 (Nat.le_refl _)
  have hB2 := hB1.trans (hb2.mono hB1.size)
  clear c0 c1 c2 c3 c4 c5 c6 c7 c8 c9 c10 c11 c12 c13 c14 c15 cl
  clear hb2 hT1 hv1 hsa hoa hob
  obtain ⟨c0, c1, c2, c3, c4, c5, c6, c7, c8, c9, c10, c11, c12, c13, c14, c15, cl⟩ := id hT2
  have hTN := hT2
  go_wp2_with fail
  refine (rslot_any a0 a1 a2 a3 a4 a5 _).mono ?_
  rintro e w4 ⟨rfl, hb4⟩
  generalize slotS a0 = sq at *
  go_wp2_with fail
  go_ret2
  exact ⟨_, _, _, _, rfl, hsa2.mono hb4, hv2.mono hb4, (by rw [HA.out]; omega), hlen, hB2.trans (hb4.mono hB2.size)⟩

set_option maxRecDepth 100000 in
set_option maxHeartbeats 1000000 in
theorem blk_ens (a0 a1 a2 a3 a4 a5 b0 b1 b2 b3 b4 b5 : Int) (ix by_ : Nat) (vs : Value) (L : List Nat) (w : World) (hix : ix < 256) (hby : by_ < 256) (hv : Bs w vs L) (hlen : L.length ≤ 140737488355328) (MA MB : List Nat) (nA nB : Nat) (eA eB : Int)
    (h18 : ∀ w, Calls Try.prog 18 #[.agg #[.int .i64 a0, .int .i64 a1, .int .i64 a2, .int .i64 a3, .int .i64 a4, .int .i64 a5]] w (NewBsE w MA eA)) (k18 : ∀ w, Calls Try.prog 18 #[.agg #[.int .i64 b0, .int .i64 b1, .int .i64 b2, .int .i64 b3, .int .i64 b4, .int .i64 b5]] w (NewBsE w MB eB)) (hMA : ∀ y ∈ MA, y < 256) (hMB : ∀ y ∈ MB, y < 256) (hB : MB.length = nB) (hnA : nA ≤ 256) (hnB : nB ≤ 256) (hA : MA.length = 0) (hL : L.length = 0) (hs : (slotS a0 == 1) = true) :
    Calls Try.prog 22 #[.agg #[.int .i64 a0, .int .i64 a1, .int .i64 a2, .int .i64 a3, .int .i64 a4, .int .i64 a5, .int .i64 b0, .int .i64 b1, .int .i64 b2, .int .i64 b3, .int .i64 b4, .int .i64 b5, .bool true, .int .u8 (ix : Nat), .int .u8 (by_ : Nat), vs]] w (TwoBs w) := by
  have hT := TwoAt.new w (.int .i64 a0) (.int .i64 a1) (.int .i64 a2) (.int .i64 a3) (.int .i64 a4) (.int .i64 a5) (.int .i64 b0) (.int .i64 b1) (.int .i64 b2) (.int .i64 b3) (.int .i64 b4) (.int .i64 b5) (.bool true) (.int .u8 (ix : Nat)) (.int .u8 (by_ : Nat)) (vs)
  have hv0 := hv.alloc (.cells #[.int .i64 a0, .int .i64 a1, .int .i64 a2, .int .i64 a3, .int .i64 a4, .int .i64 a5, .int .i64 b0, .int .i64 b1, .int .i64 b2, .int .i64 b3, .int .i64 b4, .int .i64 b5, .bool true, .int .u8 (ix : Nat), .int .u8 (by_ : Nat), vs] 41)
  have hz0 : (w.alloc (.cells #[.int .i64 a0, .int .i64 a1, .int .i64 a2, .int .i64 a3, .int .i64 a4, .int .i64 a5, .int .i64 b0, .int .i64 b1, .int .i64 b2, .int .i64 b3, .int .i64 b4, .int .i64 b5, .bool true, .int .u8 (ix : Nat), .int .u8 (by_ : Nat), vs] 41)).heap.size = w.heap.size + 1 := by simp
  have HA := hide hA
  have HB := hide hB
  obtain ⟨ao, cap, rfl, -, -, -, hvc⟩ := id hv
  clear hvc
  rw [hL] at hT hv0 hz0 ⊢
  go_enter Try.func22, Try.ntmps22
  go_wp2_with fail
  refine (h18 _).mono ?_
  rintro e w1 ⟨va, rfl, hoa, hb1⟩
  have hsa := Bs.of_owns hoa hMA
  rw [HA.out] at hoa
  have hla := hoa.lt
  obtain ⟨aa, pa, rfl, -, haa⟩ := owns_form hoa
  have hT1 := hT.mono hb1
  have hv1 := hv0.mono hb1
  have hB1 : Below w.heap.size w w1 := ((Below.refl _ w).alloc (Nat.le_refl _) _).trans (hb1.mono (by simp))
  rw [hz0] at hla
  obtain ⟨c0, c1, c2, c3, c4, c5, c6, c7, c8, c9, c10, c11, c12, c13, c14, c15, cl⟩ := id hT1
  clear hb1 hT hv0 hv
  go_wp2_with fail
  refine (k18 _).mono ?_
  rintro e w2 ⟨vb2, rfl, hob, hb2⟩
  have hsb := Bs.of_owns hob hMB
  rw [HB.out] at hob
  have hlb := hob.lt
  obtain ⟨ab, pb, rfl, -, hab⟩ := owns_form hob
  have hT2 := hT1.mono hb2
  have hv2 := hv1.mono hb2
  have hsa2 := hsa.mono hb2
  have hoa2 := owns_below hoa hb2 (Nat.le_refl _)
  have hB2 := hB1.trans (hb2.mono hB1.size)
  clear c0 c1 c2 c3 c4 c5 c6 c7 c8 c9 c10 c11 c12 c13 c14 c15 cl
  clear hb2 hT1 hv1 hsa hoa hob
  obtain ⟨c0, c1, c2, c3, c4, c5, c6, c7, c8, c9, c10, c11, c12, c13, c14, c15, cl⟩ := id hT2
  have hTN := hT2
  go_wp2_with fail
  refine (rslot_any a0 a1 a2 a3 a4 a5 _).mono ?_
  rintro e w4 ⟨rfl, hb4⟩
  generalize slotS a0 = sq at *
  go_wp2_with fail
  go_ret2
  exact ⟨_, _, _, _, rfl, hsb.mono hb4, hsa2.mono hb4, (by rw [HB.out]; omega), (by rw [HA.out]; omega), hB2.trans (hb4.mono hB2.size)⟩

set_option maxRecDepth 100000 in
set_option maxHeartbeats 1000000 in
theorem blk_eno (a0 a1 a2 a3 a4 a5 b0 b1 b2 b3 b4 b5 : Int) (ix by_ : Nat) (vs : Value) (L : List Nat) (w : World) (hix : ix < 256) (hby : by_ < 256) (hv : Bs w vs L) (hlen : L.length ≤ 140737488355328) (MA MB : List Nat) (nA nB : Nat) (eA eB : Int)
    (h18 : ∀ w, Calls Try.prog 18 #[.agg #[.int .i64 a0, .int .i64 a1, .int .i64 a2, .int .i64 a3, .int .i64 a4, .int .i64 a5]] w (NewBsE w MA eA)) (k18 : ∀ w, Calls Try.prog 18 #[.agg #[.int .i64 b0, .int .i64 b1, .int .i64 b2, .int .i64 b3, .int .i64 b4, .int .i64 b5]] w (NewBsE w MB eB)) (hMA : ∀ y ∈ MA, y < 256) (hMB : ∀ y ∈ MB, y < 256) (hB : MB.length = nB) (hnA : nA ≤ 256) (hnB : nB ≤ 256) (hA : MA.length = 0) (hL : L.length = 0) (hs : (slotS a0 == 1) = false) :
    Calls Try.prog 22 #[.agg #[.int .i64 a0, .int .i64 a1, .int .i64 a2, .int .i64 a3, .int .i64 a4, .int .i64 a5, .int .i64 b0, .int .i64 b1, .int .i64 b2, .int .i64 b3, .int .i64 b4, .int .i64 b5, .bool true, .int .u8 (ix : Nat), .int .u8 (by_ : Nat), vs]] w (TwoBs w) := by
  have hT := TwoAt.new w (.int .i64 a0) (.int .i64 a1) (.int .i64 a2) (.int .i64 a3) (.int .i64 a4) (.int .i64 a5) (.int .i64 b0) (.int .i64 b1) (.int .i64 b2) (.int .i64 b3) (.int .i64 b4) (.int .i64 b5) (.bool true) (.int .u8 (ix : Nat)) (.int .u8 (by_ : Nat)) (vs)
  have hv0 := hv.alloc (.cells #[.int .i64 a0, .int .i64 a1, .int .i64 a2, .int .i64 a3, .int .i64 a4, .int .i64 a5, .int .i64 b0, .int .i64 b1, .int .i64 b2, .int .i64 b3, .int .i64 b4, .int .i64 b5, .bool true, .int .u8 (ix : Nat), .int .u8 (by_ : Nat), vs] 41)
  have hz0 : (w.alloc (.cells #[.int .i64 a0, .int .i64 a1, .int .i64 a2, .int .i64 a3, .int .i64 a4, .int .i64 a5, .int .i64 b0, .int .i64 b1, .int .i64 b2, .int .i64 b3, .int .i64 b4, .int .i64 b5, .bool true, .int .u8 (ix : Nat), .int .u8 (by_ : Nat), vs] 41)).heap.size = w.heap.size + 1 := by simp
  have HA := hide hA
  have HB := hide hB
  obtain ⟨ao, cap, rfl, -, -, -, hvc⟩ := id hv
  clear hvc
  rw [hL] at hT hv0 hz0 ⊢
  go_enter Try.func22, Try.ntmps22
  go_wp2_with fail
  refine (h18 _).mono ?_
  rintro e w1 ⟨va, rfl, hoa, hb1⟩
  have hsa := Bs.of_owns hoa hMA
  rw [HA.out] at hoa
  have hla := hoa.lt
  obtain ⟨aa, pa, rfl, -, haa⟩ := owns_form hoa
  have hT1 := hT.mono hb1
  have hv1 := hv0.mono hb1
  have hB1 : Below w.heap.size w w1 := ((Below.refl _ w).alloc (Nat.le_refl _) _).trans (hb1.mono (by simp))
  rw [hz0] at hla
  obtain ⟨c0, c1, c2, c3, c4, c5, c6, c7, c8, c9, c10, c11, c12, c13, c14, c15, cl⟩ := id hT1
  clear hb1 hT hv0 hv
  go_wp2_with fail
  refine (k18 _).mono ?_
  rintro e w2 ⟨vb2, rfl, hob, hb2⟩
  have hsb := Bs.of_owns hob hMB
  rw [HB.out] at hob
  have hlb := hob.lt
  obtain ⟨ab, pb, rfl, -, hab⟩ := owns_form hob
  have hT2 := hT1.mono hb2
  have hv2 := hv1.mono hb2
  have hsa2 := hsa.mono hb2
  have hoa2 := owns_below hoa hb2 (Nat.le_refl _)
  have hB2 := hB1.trans (hb2.mono hB1.size)
  clear c0 c1 c2 c3 c4 c5 c6 c7 c8 c9 c10 c11 c12 c13 c14 c15 cl
  clear hb2 hT1 hv1 hsa hoa hob
  obtain ⟨c0, c1, c2, c3, c4, c5, c6, c7, c8, c9, c10, c11, c12, c13, c14, c15, cl⟩ := id hT2
  have hTN := hT2
  go_wp2_with fail
  refine (rslot_any a0 a1 a2 a3 a4 a5 _).mono ?_
  rintro e w4 ⟨rfl, hb4⟩
  generalize slotS a0 = sq at *
  go_wp2_with fail
  go_ret2
  exact ⟨_, _, _, _, rfl, hsa2.mono hb4, hsb.mono hb4, (by rw [HA.out]; omega), (by rw [HB.out]; omega), hB2.trans (hb4.mono hB2.size)⟩

set_option maxRecDepth 100000 in
set_option maxHeartbeats 1000000 in
theorem blk_fys (a0 a1 a2 a3 a4 a5 b0 b1 b2 b3 b4 b5 : Int) (ix by_ : Nat) (vs : Value) (L : List Nat) (w : World) (hix : ix < 256) (hby : by_ < 256) (hv : Bs w vs L) (hlen : L.length ≤ 140737488355328) (MA MB : List Nat) (nA nB : Nat) (eA eB : Int)
    (h18 : ∀ w, Calls Try.prog 18 #[.agg #[.int .i64 a0, .int .i64 a1, .int .i64 a2, .int .i64 a3, .int .i64 a4, .int .i64 a5]] w (NewBsE w MA eA)) (k18 : ∀ w, Calls Try.prog 18 #[.agg #[.int .i64 b0, .int .i64 b1, .int .i64 b2, .int .i64 b3, .int .i64 b4, .int .i64 b5]] w (NewBsE w MB eB)) (hMA : ∀ y ∈ MA, y < 256) (hMB : ∀ y ∈ MB, y < 256) (hB : MB.length = nB) (hnA : nA ≤ 256) (hnB : nB ≤ 256) (hA : MA.length = nA) (hL : 0 < L.length) (hs : (slotS a0 == 1) = true) :
    Calls Try.prog 22 #[.agg #[.int .i64 a0, .int .i64 a1, .int .i64 a2, .int .i64 a3, .int .i64 a4, .int .i64 a5, .int .i64 b0, .int .i64 b1, .int .i64 b2, .int .i64 b3, .int .i64 b4, .int .i64 b5, .bool false, .int .u8 (ix : Nat), .int .u8 (by_ : Nat), vs]] w (TwoBs w) := by
  have hT := TwoAt.new w (.int .i64 a0) (.int .i64 a1) (.int .i64 a2) (.int .i64 a3) (.int .i64 a4) (.int .i64 a5) (.int .i64 b0) (.int .i64 b1) (.int .i64 b2) (.int .i64 b3) (.int .i64 b4) (.int .i64 b5) (.bool false) (.int .u8 (ix : Nat)) (.int .u8 (by_ : Nat)) (vs)
  have hv0 := hv.alloc (.cells #[.int .i64 a0, .int .i64 a1, .int .i64 a2, .int .i64 a3, .int .i64 a4, .int .i64 a5, .int .i64 b0, .int .i64 b1, .int .i64 b2, .int .i64 b3, .int .i64 b4, .int .i64 b5, .bool false, .int .u8 (ix : Nat), .int .u8 (by_ : Nat), vs] 41)
  have hz0 : (w.alloc (.cells #[.int .i64 a0, .int .i64 a1, .int .i64 a2, .int .i64 a3, .int .i64 a4, .int .i64 a5, .int .i64 b0, .int .i64 b1, .int .i64 b2, .int .i64 b3, .int .i64 b4, .int .i64 b5, .bool false, .int .u8 (ix : Nat), .int .u8 (by_ : Nat), vs] 41)).heap.size = w.heap.size + 1 := by simp
  have HA := hide hA
  have HB := hide hB
  obtain ⟨ao, cap, rfl, -, -, -, hvc⟩ := id hv
  obtain ⟨vb, vo, rfl, hvd⟩ := hvc hL
  have hvlt : vb < w.heap.size := by have := World.block_lt_of_cell? w _ (hvd 0 hL); simpa using this
  clear hvc hvd
  go_enter Try.func22, Try.ntmps22
  go_wp2_with fail
  refine (h18 _).mono ?_
  rintro e w1 ⟨va, rfl, hoa, hb1⟩
  have hsa := Bs.of_owns hoa hMA
  rw [HA.out] at hoa
  have hla := hoa.lt
  obtain ⟨aa, pa, rfl, -, haa⟩ := owns_form hoa
  have hT1 := hT.mono hb1
  have hv1 := hv0.mono hb1
  have hB1 : Below w.heap.size w w1 := ((Below.refl _ w).alloc (Nat.le_refl _) _).trans (hb1.mono (by simp))
  rw [hz0] at hla
  obtain ⟨c0, c1, c2, c3, c4, c5, c6, c7, c8, c9, c10, c11, c12, c13, c14, c15, cl⟩ := id hT1
  clear hb1 hT hv0 hv
  go_wp2_with fail
  refine (k18 _).mono ?_
  rintro e w2 ⟨vb2, rfl, hob, hb2⟩
  have hsb := Bs.of_owns hob hMB
  rw [HB.out] at hob
  have hlb := hob.lt
  obtain ⟨ab, pb, rfl, -, hab⟩ := owns_form hob
  have hT2 := hT1.mono hb2
  have hv2 := hv1.mono hb2
  have hsa2 := hsa.mono hb2
  have hoa2 := owns_below hoa hb2 (Nat.le_refl _)
  have hB2 := hB1.trans (hb2.mono hB1.size)
  clear c0 c1 c2 c3 c4 c5 c6 c7 c8 c9 c10 c11 c12 c13 c14 c15 cl
  clear hb2 hT1 hv1 hsa hoa hob
  obtain ⟨c0, c1, c2, c3, c4, c5, c6, c7, c8, c9, c10, c11, c12, c13, c14, c15, cl⟩ := id hT2
  have hTN := hT2
  go_wp2_with fail
  refine (rslot_any a0 a1 a2 a3 a4 a5 _).mono ?_
  rintro e w4 ⟨rfl, hb4⟩
  generalize slotS a0 = sq at *
  go_wp2_with fail
  go_ret2
  exact ⟨_, _, _, _, rfl, hv2.mono hb4, hsa2.mono hb4, hlen, (by rw [HA.out]; omega), hB2.trans (hb4.mono hB2.size)⟩

set_option maxRecDepth 100000 in
set_option maxHeartbeats 1000000 in
theorem blk_fyo (a0 a1 a2 a3 a4 a5 b0 b1 b2 b3 b4 b5 : Int) (ix by_ : Nat) (vs : Value) (L : List Nat) (w : World) (hix : ix < 256) (hby : by_ < 256) (hv : Bs w vs L) (hlen : L.length ≤ 140737488355328) (MA MB : List Nat) (nA nB : Nat) (eA eB : Int)
    (h18 : ∀ w, Calls Try.prog 18 #[.agg #[.int .i64 a0, .int .i64 a1, .int .i64 a2, .int .i64 a3, .int .i64 a4, .int .i64 a5]] w (NewBsE w MA eA)) (k18 : ∀ w, Calls Try.prog 18 #[.agg #[.int .i64 b0, .int .i64 b1, .int .i64 b2, .int .i64 b3, .int .i64 b4, .int .i64 b5]] w (NewBsE w MB eB)) (hMA : ∀ y ∈ MA, y < 256) (hMB : ∀ y ∈ MB, y < 256) (hB : MB.length = nB) (hnA : nA ≤ 256) (hnB : nB ≤ 256) (hA : MA.length = nA) (hL : 0 < L.length) (hs : (slotS a0 == 1) = false) :
    Calls Try.prog 22 #[.agg #[.int .i64 a0, .int .i64 a1, .int .i64 a2, .int .i64 a3, .int .i64 a4, .int .i64 a5, .int .i64 b0, .int .i64 b1, .int .i64 b2, .int .i64 b3, .int .i64 b4, .int .i64 b5, .bool false, .int .u8 (ix : Nat), .int .u8 (by_ : Nat), vs]] w (TwoBs w) := by
  have hT := TwoAt.new w (.int .i64 a0) (.int .i64 a1) (.int .i64 a2) (.int .i64 a3) (.int .i64 a4) (.int .i64 a5) (.int .i64 b0) (.int .i64 b1) (.int .i64 b2) (.int .i64 b3) (.int .i64 b4) (.int .i64 b5) (.bool false) (.int .u8 (ix : Nat)) (.int .u8 (by_ : Nat)) (vs)
  have hv0 := hv.alloc (.cells #[.int .i64 a0, .int .i64 a1, .int .i64 a2, .int .i64 a3, .int .i64 a4, .int .i64 a5, .int .i64 b0, .int .i64 b1, .int .i64 b2, .int .i64 b3, .int .i64 b4, .int .i64 b5, .bool false, .int .u8 (ix : Nat), .int .u8 (by_ : Nat), vs] 41)
  have hz0 : (w.alloc (.cells #[.int .i64 a0, .int .i64 a1, .int .i64 a2, .int .i64 a3, .int .i64 a4, .int .i64 a5, .int .i64 b0, .int .i64 b1, .int .i64 b2, .int .i64 b3, .int .i64 b4, .int .i64 b5, .bool false, .int .u8 (ix : Nat), .int .u8 (by_ : Nat), vs] 41)).heap.size = w.heap.size + 1 := by simp
  have HA := hide hA
  have HB := hide hB
  obtain ⟨ao, cap, rfl, -, -, -, hvc⟩ := id hv
  obtain ⟨vb, vo, rfl, hvd⟩ := hvc hL
  have hvlt : vb < w.heap.size := by have := World.block_lt_of_cell? w _ (hvd 0 hL); simpa using this
  clear hvc hvd
  go_enter Try.func22, Try.ntmps22
  go_wp2_with fail
  refine (h18 _).mono ?_
  rintro e w1 ⟨va, rfl, hoa, hb1⟩
  have hsa := Bs.of_owns hoa hMA
  rw [HA.out] at hoa
  have hla := hoa.lt
  obtain ⟨aa, pa, rfl, -, haa⟩ := owns_form hoa
  have hT1 := hT.mono hb1
  have hv1 := hv0.mono hb1
  have hB1 : Below w.heap.size w w1 := ((Below.refl _ w).alloc (Nat.le_refl _) _).trans (hb1.mono (by simp))
  rw [hz0] at hla
  obtain ⟨c0, c1, c2, c3, c4, c5, c6, c7, c8, c9, c10, c11, c12, c13, c14, c15, cl⟩ := id hT1
  clear hb1 hT hv0 hv
  go_wp2_with fail
  refine (k18 _).mono ?_
  rintro e w2 ⟨vb2, rfl, hob, hb2⟩
  have hsb := Bs.of_owns hob hMB
  rw [HB.out] at hob
  have hlb := hob.lt
  obtain ⟨ab, pb, rfl, -, hab⟩ := owns_form hob
  have hT2 := hT1.mono hb2
  have hv2 := hv1.mono hb2
  have hsa2 := hsa.mono hb2
  have hoa2 := owns_below hoa hb2 (Nat.le_refl _)
  have hB2 := hB1.trans (hb2.mono hB1.size)
  clear c0 c1 c2 c3 c4 c5 c6 c7 c8 c9 c10 c11 c12 c13 c14 c15 cl
  clear hb2 hT1 hv1 hsa hoa hob
  obtain ⟨c0, c1, c2, c3, c4, c5, c6, c7, c8, c9, c10, c11, c12, c13, c14, c15, cl⟩ := id hT2
  have hTN := hT2
  go_wp2_with fail
  refine (rslot_any a0 a1 a2 a3 a4 a5 _).mono ?_
  rintro e w4 ⟨rfl, hb4⟩
  generalize slotS a0 = sq at *
  go_wp2_with fail
  go_ret2
  exact ⟨_, _, _, _, rfl, hsa2.mono hb4, hv2.mono hb4, (by rw [HA.out]; omega), hlen, hB2.trans (hb4.mono hB2.size)⟩

set_option maxRecDepth 100000 in
set_option maxHeartbeats 1000000 in
theorem blk_fns (a0 a1 a2 a3 a4 a5 b0 b1 b2 b3 b4 b5 : Int) (ix by_ : Nat) (vs : Value) (L : List Nat) (w : World) (hix : ix < 256) (hby : by_ < 256) (hv : Bs w vs L) (hlen : L.length ≤ 140737488355328) (MA MB : List Nat) (nA nB : Nat) (eA eB : Int)
    (h18 : ∀ w, Calls Try.prog 18 #[.agg #[.int .i64 a0, .int .i64 a1, .int .i64 a2, .int .i64 a3, .int .i64 a4, .int .i64 a5]] w (NewBsE w MA eA)) (k18 : ∀ w, Calls Try.prog 18 #[.agg #[.int .i64 b0, .int .i64 b1, .int .i64 b2, .int .i64 b3, .int .i64 b4, .int .i64 b5]] w (NewBsE w MB eB)) (hMA : ∀ y ∈ MA, y < 256) (hMB : ∀ y ∈ MB, y < 256) (hB : MB.length = nB) (hnA : nA ≤ 256) (hnB : nB ≤ 256) (hA : MA.length = nA) (hL : L.length = 0) (hs : (slotS a0 == 1) = true) :
    Calls Try.prog 22 #[.agg #[.int .i64 a0, .int .i64 a1, .int .i64 a2, .int .i64 a3, .int .i64 a4, .int .i64 a5, .int .i64 b0, .int .i64 b1, .int .i64 b2, .int .i64 b3, .int .i64 b4, .int .i64 b5, .bool false, .int .u8 (ix : Nat), .int .u8 (by_ : Nat), vs]] w (TwoBs w) := by
  have hT := TwoAt.new w (.int .i64 a0) (.int .i64 a1) (.int .i64 a2) (.int .i64 a3) (.int .i64 a4) (.int .i64 a5) (.int .i64 b0) (.int .i64 b1) (.int .i64 b2) (.int .i64 b3) (.int .i64 b4) (.int .i64 b5) (.bool false) (.int .u8 (ix : Nat)) (.int .u8 (by_ : Nat)) (vs)
  have hv0 := hv.alloc (.cells #[.int .i64 a0, .int .i64 a1, .int .i64 a2, .int .i64 a3, .int .i64 a4, .int .i64 a5, .int .i64 b0, .int .i64 b1, .int .i64 b2, .int .i64 b3, .int .i64 b4, .int .i64 b5, .bool false, .int .u8 (ix : Nat), .int .u8 (by_ : Nat), vs] 41)
  have hz0 : (w.alloc (.cells #[.int .i64 a0, .int .i64 a1, .int .i64 a2, .int .i64 a3, .int .i64 a4, .int .i64 a5, .int .i64 b0, .int .i64 b1, .int .i64 b2, .int .i64 b3, .int .i64 b4, .int .i64 b5, .bool false, .int .u8 (ix : Nat), .int .u8 (by_ : Nat), vs] 41)).heap.size = w.heap.size + 1 := by simp
  have HA := hide hA
  have HB := hide hB
  obtain ⟨ao, cap, rfl, -, -, -, hvc⟩ := id hv
  clear hvc
  rw [hL] at hT hv0 hz0 ⊢
  go_enter Try.func22, Try.ntmps22
  go_wp2_with fail
  refine (h18 _).mono ?_
  rintro e w1 ⟨va, rfl, hoa, hb1⟩
  have hsa := Bs.of_owns hoa hMA
  rw [HA.out] at hoa
  have hla := hoa.lt
  obtain ⟨aa, pa, rfl, -, haa⟩ := owns_form hoa
  have hT1 := hT.mono hb1
  have hv1 := hv0.mono hb1
  have hB1 : Below w.heap.size w w1 := ((Below.refl _ w).alloc (Nat.le_refl _) _).trans (hb1.mono (by simp))
  rw [hz0] at hla
  obtain ⟨c0, c1, c2, c3, c4, c5, c6, c7, c8, c9, c10, c11, c12, c13, c14, c15, cl⟩ := id hT1
  clear hb1 hT hv0 hv
  go_wp2_with fail
  refine (k18 _).mono ?_
  rintro e w2 ⟨vb2, rfl, hob, hb2⟩
  have hsb := Bs.of_owns hob hMB
  rw [HB.out] at hob
  have hlb := hob.lt
  obtain ⟨ab, pb, rfl, -, hab⟩ := owns_form hob
  have hT2 := hT1.mono hb2
  have hv2 := hv1.mono hb2
  have hsa2 := hsa.mono hb2
  have hoa2 := owns_below hoa hb2 (Nat.le_refl _)
  have hB2 := hB1.trans (hb2.mono hB1.size)
  clear c0 c1 c2 c3 c4 c5 c6 c7 c8 c9 c10 c11 c12 c13 c14 c15 cl
  clear hb2 hT1 hv1 hsa hoa hob
  obtain ⟨c0, c1, c2, c3, c4, c5, c6, c7, c8, c9, c10, c11, c12, c13, c14, c15, cl⟩ := id hT2
  have hTN := hT2
  go_wp2_with fail
  refine (rslot_any a0 a1 a2 a3 a4 a5 _).mono ?_
  rintro e w4 ⟨rfl, hb4⟩
  generalize slotS a0 = sq at *
  go_wp2_with fail
  go_ret2
  exact ⟨_, _, _, _, rfl, hsb.mono hb4, hsa2.mono hb4, (by rw [HB.out]; omega), (by rw [HA.out]; omega), hB2.trans (hb4.mono hB2.size)⟩

set_option maxRecDepth 100000 in
set_option maxHeartbeats 1000000 in
theorem blk_fno (a0 a1 a2 a3 a4 a5 b0 b1 b2 b3 b4 b5 : Int) (ix by_ : Nat) (vs : Value) (L : List Nat) (w : World) (hix : ix < 256) (hby : by_ < 256) (hv : Bs w vs L) (hlen : L.length ≤ 140737488355328) (MA MB : List Nat) (nA nB : Nat) (eA eB : Int)
    (h18 : ∀ w, Calls Try.prog 18 #[.agg #[.int .i64 a0, .int .i64 a1, .int .i64 a2, .int .i64 a3, .int .i64 a4, .int .i64 a5]] w (NewBsE w MA eA)) (k18 : ∀ w, Calls Try.prog 18 #[.agg #[.int .i64 b0, .int .i64 b1, .int .i64 b2, .int .i64 b3, .int .i64 b4, .int .i64 b5]] w (NewBsE w MB eB)) (hMA : ∀ y ∈ MA, y < 256) (hMB : ∀ y ∈ MB, y < 256) (hB : MB.length = nB) (hnA : nA ≤ 256) (hnB : nB ≤ 256) (hA : MA.length = nA) (hL : L.length = 0) (hs : (slotS a0 == 1) = false) :
    Calls Try.prog 22 #[.agg #[.int .i64 a0, .int .i64 a1, .int .i64 a2, .int .i64 a3, .int .i64 a4, .int .i64 a5, .int .i64 b0, .int .i64 b1, .int .i64 b2, .int .i64 b3, .int .i64 b4, .int .i64 b5, .bool false, .int .u8 (ix : Nat), .int .u8 (by_ : Nat), vs]] w (TwoBs w) := by
  have hT := TwoAt.new w (.int .i64 a0) (.int .i64 a1) (.int .i64 a2) (.int .i64 a3) (.int .i64 a4) (.int .i64 a5) (.int .i64 b0) (.int .i64 b1) (.int .i64 b2) (.int .i64 b3) (.int .i64 b4) (.int .i64 b5) (.bool false) (.int .u8 (ix : Nat)) (.int .u8 (by_ : Nat)) (vs)
  have hv0 := hv.alloc (.cells #[.int .i64 a0, .int .i64 a1, .int .i64 a2, .int .i64 a3, .int .i64 a4, .int .i64 a5, .int .i64 b0, .int .i64 b1, .int .i64 b2, .int .i64 b3, .int .i64 b4, .int .i64 b5, .bool false, .int .u8 (ix : Nat), .int .u8 (by_ : Nat), vs] 41)
  have hz0 : (w.alloc (.cells #[.int .i64 a0, .int .i64 a1, .int .i64 a2, .int .i64 a3, .int .i64 a4, .int .i64 a5, .int .i64 b0, .int .i64 b1, .int .i64 b2, .int .i64 b3, .int .i64 b4, .int .i64 b5, .bool false, .int .u8 (ix : Nat), .int .u8 (by_ : Nat), vs] 41)).heap.size = w.heap.size + 1 := by simp
  have HA := hide hA
  have HB := hide hB
  obtain ⟨ao, cap, rfl, -, -, -, hvc⟩ := id hv
  clear hvc
  rw [hL] at hT hv0 hz0 ⊢
  go_enter Try.func22, Try.ntmps22
  go_wp2_with fail
  refine (h18 _).mono ?_
  rintro e w1 ⟨va, rfl, hoa, hb1⟩
  have hsa := Bs.of_owns hoa hMA
  rw [HA.out] at hoa
  have hla := hoa.lt
  obtain ⟨aa, pa, rfl, -, haa⟩ := owns_form hoa
  have hT1 := hT.mono hb1
  have hv1 := hv0.mono hb1
  have hB1 : Below w.heap.size w w1 := ((Below.refl _ w).alloc (Nat.le_refl _) _).trans (hb1.mono (by simp))
  rw [hz0] at hla
  obtain ⟨c0, c1, c2, c3, c4, c5, c6, c7, c8, c9, c10, c11, c12, c13, c14, c15, cl⟩ := id hT1
  clear hb1 hT hv0 hv
  go_wp2_with fail
  refine (k18 _).mono ?_
  rintro e w2 ⟨vb2, rfl, hob, hb2⟩
  have hsb := Bs.of_owns hob hMB
  rw [HB.out] at hob
  have hlb := hob.lt
  obtain ⟨ab, pb, rfl, -, hab⟩ := owns_form hob
  have hT2 := hT1.mono hb2
  have hv2 := hv1.mono hb2
  have hsa2 := hsa.mono hb2
  have hoa2 := owns_below hoa hb2 (Nat.le_refl _)
  have hB2 := hB1.trans (hb2.mono hB1.size)
  clear c0 c1 c2 c3 c4 c5 c6 c7 c8 c9 c10 c11 c12 c13 c14 c15 cl
  clear hb2 hT1 hv1 hsa hoa hob
  obtain ⟨c0, c1, c2, c3, c4, c5, c6, c7, c8, c9, c10, c11, c12, c13, c14, c15, cl⟩ := id hT2
  have hTN := hT2
  go_wp2_with fail
  refine (rslot_any a0 a1 a2 a3 a4 a5 _).mono ?_
  rintro e w4 ⟨rfl, hb4⟩
  generalize slotS a0 = sq at *
  go_wp2_with fail
  go_ret2
  exact ⟨_, _, _, _, rfl, hsa2.mono hb4, hsb.mono hb4, (by rw [HA.out]; omega), (by rw [HB.out]; omega), hB2.trans (hb4.mono hB2.size)⟩

end Go.Proofs.Ytfjkmgfjlckmlaa
