/- SuperTorn: where the next super is written over the other slot, and whichever of its sectors reach the disk, the old one or the new one counts, and the new one, if all do (P5.5, P5.6). -/
import Derived.Test.YtfjkmgfjlckmlaaS14
import Derived.Test.YtfjkmgfjlckmlaaCameS
import Derived.Test.YtfjkmgfjlckmlaaS3
import Derived.Deep.RegionHeld3
set_option linter.unusedSimpArgs false
set_option linter.unusedVariables false
namespace Go.Proofs.Ytfjkmgfjlckmlaa
open Go.RowKit Go.Attic Go.ChangeShapes Go.WideShapes Go.ChangeAt

set_option maxRecDepth 100000 in
set_option maxHeartbeats 1000000 in
theorem torn_no (ep b l d x h head : Int) (pick : Nat) (w : World) (M : List Nat) (er en : Int) (hMx : ∀ y ∈ M, y < 256)
    (h10 : ∀ w, Calls Try.prog 10 #[.agg #[.int .i64 ep, .int .i64 b, .int .i64 l, .int .i64 d, .int .i64 x, .int .i64 h], .int .i64 head] w fun e w' => e = .returned (.tuple #[.agg #[.int .i64 0, .int .i64 0, .int .i64 0, .int .i64 0, .int .i64 0, .int .i64 0], .int .i64 en]) ∧ Below w.heap.size w w')
    (h17 : ∀ w, Calls Try.prog 17 #[.agg #[.int .i64 ep, .int .i64 b, .int .i64 l, .int .i64 d, .int .i64 x, .int .i64 h]] w (NewBsE w M er)) (hen : (en != 0) = true) :
    Calls Try.prog 7 #[.agg #[.int .i64 ep, .int .i64 b, .int .i64 l, .int .i64 d, .int .i64 x, .int .i64 h], .int .i64 head, .int .u8 (pick : Nat)] w fun r w' => r = .returned (.bool true) ∧ Below w.heap.size w w' := by
  have hS := SupAt.new w ep b l d x h
  go_enter Try.func7, Try.ntmps7
  go_wp2_with fail
  refine (h10 _).mono ?_
  rintro r w1 ⟨rfl, hb1⟩
  have hS1 := (hS.mono hb1).alloc (.cells #[.int .i64 0, .int .i64 0, .int .i64 0, .int .i64 0, .int .i64 0, .int .i64 0] 25)
  have hB1 : Below w.heap.size w w1 := ((Below.refl _ w).alloc (Nat.le_refl _) _).trans (hb1.mono (by simp))
  have hB1' := hB1.alloc hB1.size (.cells #[.int .i64 0, .int .i64 0, .int .i64 0, .int .i64 0, .int .i64 0, .int .i64 0] 25)
  obtain ⟨c0, c1, c2, c3, c4, c5, -, -, -, -, -, -, -⟩ := id hS1
  clear hb1 hS hB1
  go_wp2_with fail
  refine (h17 _).mono ?_
  rintro r w2 ⟨v2, rfl, ho2, hb2⟩
  have hB2 := hB1'.trans (hb2.mono hB1'.size)
  obtain ⟨a2, p2, rfl, -, -⟩ := owns_form ho2
  clear ho2 hb2 hB1' c0 c1 c2 c3 c4 c5
  go_wp2_with fail
  refine (live_any _).mono ?_
  rintro r w3 ⟨rfl, hb3⟩
  have hB3 := hB2.trans (hb3.mono hB2.size)
  clear hb3 hB2
  go_wp2_with fail
  refine (live_any _).mono ?_
  rintro r w4 ⟨rfl, hb4⟩
  have hB4 := hB3.trans (hb4.mono hB3.size)
  go_wp2_with fail
  go_ret
  exact ⟨rfl, hB4⟩

theorem bit_val (pick k : Nat) (hp : pick < 256) : bits .and .u8 ((pick : Int) / 2 ^ (k / 64)) 1 = ((pick / 2 ^ (k / 64) % 2 : Nat) : Int) := by
  have e : (pick : Int) / 2 ^ (k / 64) = ((pick / 2 ^ (k / 64) : Nat) : Int) := by simp
  have hl : pick / 2 ^ (k / 64) < 256 := Nat.lt_of_le_of_lt (Nat.div_le_self _ _) hp
  have := u8_and_nat (pick / 2 ^ (k / 64)) 1 hl (by omega)
  rw [e]
  rw [Nat.and_one_is_mod] at this
  exact this
theorem bit_one (pick k : Nat) (hp : pick < 256) (h : pick / 2 ^ (k / 64) % 2 = 1) : bits .and .u8 ((pick : Int) / 2 ^ (k / 64)) 1 = 1 := by rw [bit_val pick k hp, h]; rfl
theorem bit_zero (pick k : Nat) (hp : pick < 256) (h : ¬ pick / 2 ^ (k / 64) % 2 = 1) : bits .and .u8 ((pick : Int) / 2 ^ (k / 64)) 1 = 0 := by rw [bit_val pick k hp, show pick / 2 ^ (k / 64) % 2 = 0 by omega]; rfl
theorem cellsB_setN (l : List Nat) (k z : Nat) : (cellsB l).set k (.int .u8 ((z : Nat) : Int)) = cellsB (l.set k z) := by
  unfold cellsB
  rw [List.map_set]
theorem neg_of' {X : Result Bool} {B : Bool} {w : World} (h : (X.andThen fun b w' => Result.ok (Value.bool b) w') = Result.ok (Value.bool B) w) : (X.andThen fun b w' => Result.ok (Value.bool (!b)) w') = Result.ok (Value.bool (!B)) w := by
  cases X <;> simp_all [Result.andThen]
theorem neqS (a b c d e f a' b' c' d' e' f' : Int) (w : World) : (binOp .neq 25 (.agg #[.int .i64 a, .int .i64 b, .int .i64 c, .int .i64 d, .int .i64 e, .int .i64 f]) (.agg #[.int .i64 a', .int .i64 b', .int .i64 c', .int .i64 d', .int .i64 e', .int .i64 f'])).run Try.prog w = .ok (.bool (!(a == a' && b == b' && c == c' && d == d' && e == e' && f == f'))) w := by
  have h := eqlS a b c d e f a' b' c' d' e' f' w
  rw [run_eql_struct] at h
  rw [run_neq_struct]
  exact neg_of' h
theorem neqS_same (a b c d e f : Int) (w : World) : (binOp .neq 25 (.agg #[.int .i64 a, .int .i64 b, .int .i64 c, .int .i64 d, .int .i64 e, .int .i64 f]) (.agg #[.int .i64 a, .int .i64 b, .int .i64 c, .int .i64 d, .int .i64 e, .int .i64 f])).run Try.prog w = .ok (.bool false) w := by
  rw [neqS]; simp
theorem neqS_diff {ep en b l d x h hd : Nat} (k : ep < en) (w : World) : (binOp .neq 25 (.agg #[.int .i64 (en : Nat), .int .i64 (b : Nat), .int .i64 (l : Nat), .int .i64 (d : Nat), .int .i64 (x : Nat), .int .i64 (hd : Nat)]) (.agg #[.int .i64 (ep : Nat), .int .i64 (b : Nat), .int .i64 (l : Nat), .int .i64 (d : Nat), .int .i64 (x : Nat), .int .i64 (h : Nat)])).run Try.prog w = .ok (.bool true) w := by
  rw [neqS]
  have : ((en : Int) == (ep : Int)) = false := by simp; omega
  rw [this]
  rfl

/-- What stands ahead of each round: the two supers, the two blocks, the two bools. -/
structure RI (w W : World) (gn gb : Nat) (vo vn : Value) (own nx : List Nat) (ep b l d x h en hd : Nat) : Prop where
  s : SupAt W w.heap.size ep b l d x h
  n : SupAt W gn en b l d x hd
  o : Bs W vo own
  x : Bs W vn nx
  b0 : W.cell? ⟨gb, 0, none⟩ = some (.bool false)
  b1 : W.cell? ⟨gb, 1, none⟩ = some (.bool true)
  bel : Below w.heap.size w W
theorem RI.mono {w W W' : World} {gn gb : Nat} {vo vn : Value} {own nx : List Nat} {ep b l d x h en hd : Nat} (p : RI w W gn gb vo vn own nx ep b l d x h en hd) (hb : Below W.heap.size W W') : RI w W' gn gb vo vn own nx ep b l d x h en hd := by
  have k := Keeps.of_below (S := fun _ => False) hb
  exact ⟨p.s.mono hb, p.n.mono hb, p.o.mono hb, p.x.mono hb, k.cell p.b0 id, k.cell p.b1 id, p.bel.trans (hb.mono p.bel.size)⟩

theorem torn_held {w' : World} {g p : Nat} {ep b l d x h en hd : Nat} (H : SupAt w' g ep b l d x h) (K : SupAt w' p en b l d x hd) : w'.cell? ⟨g, 0, none⟩ = some (.int .i64 (ep : Nat)) ∧ w'.cell? ⟨g, 1, none⟩ = some (.int .i64 (b : Nat)) ∧ w'.cell? ⟨g, 2, none⟩ = some (.int .i64 (l : Nat)) ∧ w'.cell? ⟨g, 3, none⟩ = some (.int .i64 (d : Nat)) ∧ w'.cell? ⟨g, 4, none⟩ = some (.int .i64 (x : Nat)) ∧ w'.cell? ⟨g, 5, none⟩ = some (.int .i64 (h : Nat)) ∧ w'.cell? ⟨p, 0, none⟩ = some (.int .i64 (en : Nat)) ∧ w'.cell? ⟨p, 1, none⟩ = some (.int .i64 (b : Nat)) ∧ w'.cell? ⟨p, 2, none⟩ = some (.int .i64 (l : Nat)) ∧ w'.cell? ⟨p, 3, none⟩ = some (.int .i64 (d : Nat)) ∧ w'.cell? ⟨p, 4, none⟩ = some (.int .i64 (x : Nat)) ∧ w'.cell? ⟨p, 5, none⟩ = some (.int .i64 (hd : Nat)) :=
  ⟨H.c0, H.c1, H.c2, H.c3, H.c4, H.c5, K.c0, K.c1, K.c2, K.c3, K.c4, K.c5⟩

set_option maxRecDepth 100000 in
set_option maxHeartbeats 40000000 in
theorem torn_yes (ep b l d x h en hd pick : Nat) (w : World) (own nx : List Nat) (hen : en = ep + 1) (hpick : pick < 256) (kep : 1 ≤ ep) (kep2 : ep ≤ 1152921504606846976) (lown : own.length = 256) (lnx : nx.length = 256)
    (xown : ∀ y ∈ own, y < 256) (xnx : ∀ y ∈ nx, y < 256)
    (h10 : ∀ w, Calls Try.prog 10 #[.agg #[.int .i64 (ep : Nat), .int .i64 (b : Nat), .int .i64 (l : Nat), .int .i64 (d : Nat), .int .i64 (x : Nat), .int .i64 (h : Nat)], .int .i64 (hd : Nat)] w fun e w' => e = .returned (.tuple #[.agg #[.int .i64 (en : Nat), .int .i64 (b : Nat), .int .i64 (l : Nat), .int .i64 (d : Nat), .int .i64 (x : Nat), .int .i64 (hd : Nat)], .int .i64 0]) ∧ Below w.heap.size w w')
    (h17 : ∀ w, Calls Try.prog 17 #[.agg #[.int .i64 (ep : Nat), .int .i64 (b : Nat), .int .i64 (l : Nat), .int .i64 (d : Nat), .int .i64 (x : Nat), .int .i64 (h : Nat)]] w (NewBsE w own 0)) (k17 : ∀ w, Calls Try.prog 17 #[.agg #[.int .i64 (en : Nat), .int .i64 (b : Nat), .int .i64 (l : Nat), .int .i64 (d : Nat), .int .i64 (x : Nat), .int .i64 (hd : Nat)]] w (NewBsE w nx 0))
    (hnxH : Head1 nx) (cN : Counts own nx ep en hd b l d x) (cZ : Counts own (zerosL 256) ep ep h b l d x)
    (pq : Nat) (pv : List Nat) (hp : 1 < ep → (ep : Int) - 1 = (pq : Int) ∧ (∀ w, Calls Try.prog 17 #[.agg #[.int .i64 (pq : Nat), .int .i64 (b : Nat), .int .i64 (l : Nat), .int .i64 (d : Nat), .int .i64 (x : Nat), .int .i64 (h : Nat)]] w (NewBsE w pv 0)) ∧ Counts own pv ep ep h b l d x ∧ Head1 pv ∧ ∀ y ∈ pv, y < 256) :
    Calls Try.prog 7 #[.agg #[.int .i64 (ep : Nat), .int .i64 (b : Nat), .int .i64 (l : Nat), .int .i64 (d : Nat), .int .i64 (x : Nat), .int .i64 (h : Nat)], .int .i64 (hd : Nat), .int .u8 (pick : Nat)] w fun r w' => r = .returned (.bool true) ∧ Below w.heap.size w w' := by
  obtain ⟨i0, hi, hz0, hz1, hz2⟩ := info_parts Try.info5
  have hgu := fun op x y xs ys w => run_eqGuard_agg (P := Try.prog) w op 25 x y xs ys (by kernel_rfl)
  have hS := SupAt.new w ep b l d x h
  have hsl : (slotS (en : Int) == slotS (ep : Int)) = false := by
    rw [slotS_nat, slotS_nat, hen]; simp; omega
  have hle : decide ((en : Int) ≤ (ep : Int)) = false := decide_eq_false (by omega)
  have hleN : decide (en ≤ ep) = false := decide_eq_false (by omega)
  have Hen := hide hen
  have Lown := hide lown
  have Lnx := hide lnx
  have hep2 : ep < en := by omega
  clear hen lown lnx
  go_enter Try.func7, Try.ntmps7
  go_wp2_with fail
  refine (h10 _).mono ?_
  rintro r w1 ⟨rfl, hb1⟩
  have hS1 := (hS.mono hb1).alloc (.cells #[.int .i64 (en : Nat), .int .i64 (b : Nat), .int .i64 (l : Nat), .int .i64 (d : Nat), .int .i64 (x : Nat), .int .i64 (hd : Nat)] 25)
  have hN1 := SupAt.new w1 en b l d x hd
  have hB1 : Below w.heap.size w w1 := ((Below.refl _ w).alloc (Nat.le_refl _) _).trans (hb1.mono (by simp))
  have hB1' := hB1.alloc hB1.size (.cells #[.int .i64 (en : Nat), .int .i64 (b : Nat), .int .i64 (l : Nat), .int .i64 (d : Nat), .int .i64 (x : Nat), .int .i64 (hd : Nat)] 25)
  have hne1 : w.heap.size < w1.heap.size := by have := hb1.size; simp at this; omega
  obtain ⟨c0, c1, c2, c3, c4, c5, -, -, -, -, -, -, -⟩ := id hS1
  clear hb1 hS hB1
  go_wp2_with fail
  refine (h17 _).mono ?_
  rintro r w2 ⟨v2, rfl, ho2, hb2⟩
  have hO2 := Bs.of_owns ho2 xown
  rw [Lown.out] at ho2
  obtain ⟨a2, p2, rfl, -, -⟩ := owns_form ho2
  have hS2 := hS1.mono hb2
  have hN2 := hN1.mono hb2
  have hB2 := hB1'.trans (hb2.mono hB1'.size)
  clear ho2 hb2 hB1' hS1 hN1 c0 c1 c2 c3 c4 c5
  go_wp2_with fail
  refine (live_any _).mono ?_
  rintro r w3 ⟨rfl, hb3⟩
  have hO3 := hO2.mono hb3
  have hS3 := hS2.mono hb3
  have hN3 := hN2.mono hb3
  have hB3 := hB2.trans (hb3.mono hB2.size)
  obtain ⟨c0, c1, c2, c3, c4, c5, -, -, -, -, -, -, -⟩ := id hN3
  clear hb3 hB2 hO2 hS2 hN2
  go_wp2_with fail
  refine (k17 _).mono ?_
  rintro r w4 ⟨v4, rfl, ho4, hb4⟩
  have hX4 := Bs.of_owns ho4 xnx
  rw [Lnx.out] at ho4
  obtain ⟨a4, p4, rfl, -, -⟩ := owns_form ho4
  have hO4 := hO3.mono hb4
  have hS4 := hS3.mono hb4
  have hN4 := hN3.mono hb4
  have hB4 := hB3.trans (hb4.mono hB3.size)
  clear ho4 hb4 hB3 hO3 hS3 hN3 c0 c1 c2 c3 c4 c5
  go_wp2_with fail
  have hB5 : Below w.heap.size w w4.drew := hB4.drew
  have sA := hS4.mono (Below.refl _ _).drew
  have nA := hN4.mono (Below.refl _ _).drew
  have oA := hO4.drew
  have xA := hX4.drew
  have SA := torn_held sA nA
  clear hB4 hO4 hS4 hN4 hX4
  go_region_held3 (fun w' => w'.cell? ⟨w.heap.size, 0, none⟩ = some (.int .i64 (ep : Nat)) ∧ w'.cell? ⟨w.heap.size, 1, none⟩ = some (.int .i64 (b : Nat)) ∧ w'.cell? ⟨w.heap.size, 2, none⟩ = some (.int .i64 (l : Nat)) ∧ w'.cell? ⟨w.heap.size, 3, none⟩ = some (.int .i64 (d : Nat)) ∧ w'.cell? ⟨w.heap.size, 4, none⟩ = some (.int .i64 (x : Nat)) ∧ w'.cell? ⟨w.heap.size, 5, none⟩ = some (.int .i64 (h : Nat)) ∧ w'.cell? ⟨w1.heap.size, 0, none⟩ = some (.int .i64 (en : Nat)) ∧ w'.cell? ⟨w1.heap.size, 1, none⟩ = some (.int .i64 (b : Nat)) ∧ w'.cell? ⟨w1.heap.size, 2, none⟩ = some (.int .i64 (l : Nat)) ∧ w'.cell? ⟨w1.heap.size, 3, none⟩ = some (.int .i64 (d : Nat)) ∧ w'.cell? ⟨w1.heap.size, 4, none⟩ = some (.int .i64 (x : Nat)) ∧ w'.cell? ⟨w1.heap.size, 5, none⟩ = some (.int .i64 (hd : Nat)))
    (first | exact SA | exact SB | exact SC)
    (first
      | (go_at_call 15; refine (slot_any _ _ _ _ _ _ _).mono ?_; rintro r uB ⟨rfl, hbB⟩
         skip
         first
           | (have hBC := hBB.trans (hbB.mono hBB.size); have sC := sB.mono hbB; have nC := nB.mono hbB; have oC := oB.mono hbB; have xC := xB.mono hbB; have SC := torn_held sC nC; skip)
           | (have hBB := hB5.trans (hbB.mono hB5.size); have sB := sA.mono hbB; have nB := nA.mono hbB; have oB := oA.mono hbB; have xB := xA.mono hbB; have SB := torn_held sB nB; skip)))
  have hbb : Below uB.heap.size uB (uB.alloc (.cells #[.bool false, .bool true] 4)) := (Below.refl _ uB).alloc (Nat.le_refl _) _
  have hR0 : RI w (uB.alloc (.cells #[.bool false, .bool true] 4)) w1.heap.size uB.heap.size (.slice a2 256 p2) (.slice a4 256 p4) own nx ep b l d x h en hd := ⟨sC.mono hbb, nC.mono hbb, oC.mono hbb, xC.mono hbb, by simp, by simp, hBC.trans (hbb.mono hBC.size)⟩
  obtain ⟨vo4, vb4, rfl⟩ : ∃ bb oo, a4 = some ⟨bb, oo, none⟩ := by
    obtain ⟨ao, cc, e, -, -, -, hc⟩ := xC
    obtain ⟨bb, oo, rfl, -⟩ := hc (by rw [Lnx.out]; decide)
    injection e with e1
    exact ⟨bb, oo, e1⟩
  clear SA SB SC sA nA oA xA sB nB oB xB hBB hbB hB5 h10 h17 k17 hsl hle hleN sC nC oC xC hbb hBC
  rename_i hHeld
  clear hHeld
  go_wp2_with fail
  generalize uB.heap.size = gb at *
  generalize slotS (ep : Int) = sq61
  go_loopw [73] (fun i wr => ∃ k : Nat, k ≤ 2 ∧ i = .int .i64 k ∧ RI w wr w1.heap.size gb (.slice a2 256 p2) (.slice (some ⟨vo4, vb4, none⟩) 256 p4) own nx ep b l d x h en hd) (fun i _ => 2 - (intOf i).toNat)
  case atStart => exact ⟨0, by omega, rfl, hR0⟩
  case round =>
    clear hR0
    obtain ⟨k, hk, rfl, hR⟩ := hrel
    generalize wr = W0 at *
    have hk3 : k = 0 ∨ k = 1 ∨ k = 2 := by omega
    rcases hk3 with rfl | rfl | rfl
    · have bb := hR.b0
      go_wp2_with (at_make; refine wpList_make_full _ rfl (.const (.int .i64 256)) (.const (.int .i64 256)) 34 rfl W0.heap.size 5 i0 (.int .u8 0) 1 Try.underlying34 hi hz0 hz1 .i64 .i64 256 256 256 rfl rfl rfl rfl (by rw [hz2]; omega) (by unfold maxLen; omega) (Nat.le_refl _) ?_; intro w5 hown hgrow; rw [zerosL_made] at hown; have hb5 : Below W0.heap.size W0 w5 := (Below.refl _ _).grown hgrow (Nat.le_refl _) (by intro k hk; cases hk); clear hgrow bb)
      obtain ⟨o, ho⟩ : ∃ o, o = zerosL 256 := ⟨_, rfl⟩
      have Ho : Hid (Head1 o) := hide (by rw [ho]; exact head_zeros)
      have Xo : Hid (∀ y ∈ o, y < 256) := hide (by rw [ho]; exact zerosL_lt 256)
      rw [← ho] at hown cZ
      go_loopw [99] (fun i wr => ∃ k : Nat, k ≤ 256 ∧ i = .int .i64 k ∧ wr.ownsRow W0.heap.size 5 1 (.slice (some ⟨W0.heap.size, 0, none⟩) 256 256) 256 (cellsB (mixK pick nx o k)) ∧ Below W0.heap.size W0 wr) (fun i _ => 256 - (intOf i).toNat)
      case atStart => exact ⟨0, by omega, rfl, by rw [mixK_zero _ _ _ Ho.out.1]; exact hown, hb5⟩
      case round =>
        clear hown hb5
        obtain ⟨k, hk, rfl, hown, hb5⟩ := hrel
        by_cases hkn : k < 256
        · by_cases hbt : pick / 2 ^ (k / 64) % 2 = 1
          · have hand := bit_one pick k hpick hbt
            have hcx : wr.cell? ⟨vo4, vb4 + k, none⟩ = some (.int .u8 ((nx.getD k 0 : Nat) : Int)) := by
              have := (hR.mono hb5).x.cells ⟨vo4, vb4, none⟩ rfl k (.int .u8 ((nx.getD k 0 : Nat) : Int)) (by
                have hk2 : k < nx.length := by rw [Lnx.out]; exact hkn
                simp [cellsB, List.getD, hk2])
              rwa [Addr.add_lit] at this
            have hcd : wr.cell? ⟨W0.heap.size, k, none⟩ = some (.int .u8 (((mixK pick nx o k).getD k 0 : Nat) : Int)) := by
              rw [hown.cellAt k (by omega)]
              have hk2 : k < (mixK pick nx o k).length := by rw [mixK_length]; exact hkn
              simp [cellsB, List.getD, hk2]
            have hfd := hown.frozenAt k
            have hst := (hown.stored k (.int .u8 ((nx.getD k 0 : Nat) : Int))).1
            rw [cellsB_setN, mixK_yes pick nx o k hkn hbt] at hst
            have hgo := owns_lt hown W0.heap.size rfl
            have hb6 := hb5.setCell (p := ⟨W0.heap.size, k, none⟩) hgo (.int .u8 ((nx.getD k 0 : Nat) : Int))
            have Hst := hide hst
            have Hb6 := hide hb6
            generalize nx.getD k 0 = nv at *
            generalize (mixK pick nx o k).getD k 0 = ov at *
            clear hst hb6 hbt hown hb5
            go_wp2_with fail
            go_roundw
            case rel => exact ⟨k + 1, by omega, by go_num, Hst.out, Hb6.out⟩
            case measure => simp [intOf]; omega
          · have hand := bit_zero pick k hpick hbt
            have hst := hown
            rw [mixK_no pick nx o k hbt] at hst
            have Hst := hide hst
            clear hst hbt hown
            go_wp2_with fail
            go_roundw
            case rel => exact ⟨k + 1, by omega, by go_num, Hst.out, hb5⟩
            case measure => simp [intOf]; omega
        obtain rfl : k = 256 := by omega
        clear hkn hk
        by_cases hp1 : pick % 2 = 1 <;> by_cases hs1 : ep % 2 = 0
        · -- bit True slot 0
          have hsq : slotS (ep : Int) = 0 := by rw [slotS_nat]; omega
          have hot := Bs.of_owns hown (mixK_lt pick xnx Xo.out 256)
          rw [mixK_all pick hnxH Ho.out, if_pos hp1] at hot
          have hR5 := hR.mono hb5
          have hch := cN.1 hsq
          have HR5 := hide hR5
          obtain ⟨c0, c1, c2, c3, c4, c5, -, -, -, -, -, -, -⟩ := id hR5.s
          clear hown
          go_wp2_with fail
          refine (slot_any _ _ _ _ _ _ _).mono ?_
          rintro e w6 ⟨rfl, hb6⟩
          rw [hsq]
          have hR6 := hR5.mono hb6
          have hot6 := hot.mono hb6
          have hB6 := hb5.trans (hb6.mono hb5.size)
          clear hb6 hot hR5 HR5 c0 c1 c2 c3 c4 c5
          go_wp2_with fail
          refine (hch _ _ _ hR6.o hot6).mono ?_
          rintro e w7 ⟨rfl, hb7⟩
          have hR7 := (hR6.mono hb7).mono ((Below.refl _ _).alloc (Nat.le_refl _) (.cells #[.int .i64 (en : Nat), .int .i64 (b : Nat), .int .i64 (l : Nat), .int .i64 (d : Nat), .int .i64 (x : Nat), .int .i64 (hd : Nat)] 25))
          have hB7 := hB6.trans (hb7.mono hB6.size)
          obtain ⟨c0, c1, c2, c3, c4, c5, -, -, -, -, -, -, -⟩ := id hR7.s
          obtain ⟨d0, d1, d2, d3, d4, d5, -, -, -, -, -, -, -⟩ := id hR7.n
          have HR7 := hide hR7
          clear hb7 hR6 hot6 hB6 hch hR7 hb5
          have hnq1 := fun w => neqS_diff (ep := ep) (en := en) (b := b) (l := l) (d := d) (x := x) (h := h) (hd := hd) hep2 w
          have hnq2 := fun w => neqS_same (en : Int) b l d x hd w
          by_cases h15 : pick % 16 = 15
          · have e15 : ((pick : Int) % 16 == 15) = true := by simp; omega
            clear h15
            go_wp2_with fail
            go_roundw
            case rel => exact ⟨0 + 1, by omega, by go_num, HR7.out⟩
            case measure => simp [intOf]
          · have e15 : ((pick : Int) % 16 == 15) = false := by simp; omega
            clear h15
            go_wp2_with fail
            go_roundw
            case rel => exact ⟨0 + 1, by omega, by go_num, HR7.out⟩
            case measure => simp [intOf]
        · -- bit True slot 1
          have hsq : slotS (ep : Int) = 1 := by rw [slotS_nat]; omega
          have hot := Bs.of_owns hown (mixK_lt pick xnx Xo.out 256)
          rw [mixK_all pick hnxH Ho.out, if_pos hp1] at hot
          have hR5 := hR.mono hb5
          have hch := cN.2 hsq
          have HR5 := hide hR5
          obtain ⟨c0, c1, c2, c3, c4, c5, -, -, -, -, -, -, -⟩ := id hR5.s
          clear hown
          go_wp2_with fail
          refine (slot_any _ _ _ _ _ _ _).mono ?_
          rintro e w6 ⟨rfl, hb6⟩
          rw [hsq]
          have hR6 := hR5.mono hb6
          have hot6 := hot.mono hb6
          have hB6 := hb5.trans (hb6.mono hb5.size)
          clear hb6 hot hR5 HR5 c0 c1 c2 c3 c4 c5
          go_wp2_with fail
          refine (hch _ _ _ hot6 hR6.o).mono ?_
          rintro e w7 ⟨rfl, hb7⟩
          have hR7 := (hR6.mono hb7).mono ((Below.refl _ _).alloc (Nat.le_refl _) (.cells #[.int .i64 (en : Nat), .int .i64 (b : Nat), .int .i64 (l : Nat), .int .i64 (d : Nat), .int .i64 (x : Nat), .int .i64 (hd : Nat)] 25))
          have hB7 := hB6.trans (hb7.mono hB6.size)
          obtain ⟨c0, c1, c2, c3, c4, c5, -, -, -, -, -, -, -⟩ := id hR7.s
          obtain ⟨d0, d1, d2, d3, d4, d5, -, -, -, -, -, -, -⟩ := id hR7.n
          have HR7 := hide hR7
          clear hb7 hR6 hot6 hB6 hch hR7 hb5
          have hnq1 := fun w => neqS_diff (ep := ep) (en := en) (b := b) (l := l) (d := d) (x := x) (h := h) (hd := hd) hep2 w
          have hnq2 := fun w => neqS_same (en : Int) b l d x hd w
          by_cases h15 : pick % 16 = 15
          · have e15 : ((pick : Int) % 16 == 15) = true := by simp; omega
            clear h15
            go_wp2_with fail
            go_roundw
            case rel => exact ⟨0 + 1, by omega, by go_num, HR7.out⟩
            case measure => simp [intOf]
          · have e15 : ((pick : Int) % 16 == 15) = false := by simp; omega
            clear h15
            go_wp2_with fail
            go_roundw
            case rel => exact ⟨0 + 1, by omega, by go_num, HR7.out⟩
            case measure => simp [intOf]
        · -- bit False slot 0
          have hsq : slotS (ep : Int) = 0 := by rw [slotS_nat]; omega
          have hot := Bs.of_owns hown (mixK_lt pick xnx Xo.out 256)
          rw [mixK_all pick hnxH Ho.out, if_neg hp1] at hot
          have hR5 := hR.mono hb5
          have hch := cZ.1 hsq
          have HR5 := hide hR5
          obtain ⟨c0, c1, c2, c3, c4, c5, -, -, -, -, -, -, -⟩ := id hR5.s
          clear hown
          go_wp2_with fail
          refine (slot_any _ _ _ _ _ _ _).mono ?_
          rintro e w6 ⟨rfl, hb6⟩
          rw [hsq]
          have hR6 := hR5.mono hb6
          have hot6 := hot.mono hb6
          have hB6 := hb5.trans (hb6.mono hb5.size)
          clear hb6 hot hR5 HR5 c0 c1 c2 c3 c4 c5
          go_wp2_with fail
          refine (hch _ _ _ hR6.o hot6).mono ?_
          rintro e w7 ⟨rfl, hb7⟩
          have hR7 := (hR6.mono hb7).mono ((Below.refl _ _).alloc (Nat.le_refl _) (.cells #[.int .i64 (ep : Nat), .int .i64 (b : Nat), .int .i64 (l : Nat), .int .i64 (d : Nat), .int .i64 (x : Nat), .int .i64 (h : Nat)] 25))
          have hB7 := hB6.trans (hb7.mono hB6.size)
          obtain ⟨c0, c1, c2, c3, c4, c5, -, -, -, -, -, -, -⟩ := id hR7.s
          obtain ⟨d0, d1, d2, d3, d4, d5, -, -, -, -, -, -, -⟩ := id hR7.n
          have HR7 := hide hR7
          clear hb7 hR6 hot6 hB6 hch hR7 hb5
          have hnq1 := fun w => neqS_same (ep : Int) b l d x h w
          have e15 : ((pick : Int) % 16 == 15) = false := by simp; omega
          go_wp2_with fail
          go_roundw
          case rel => exact ⟨0 + 1, by omega, by go_num, HR7.out⟩
          case measure => simp [intOf]
        · -- bit False slot 1
          have hsq : slotS (ep : Int) = 1 := by rw [slotS_nat]; omega
          have hot := Bs.of_owns hown (mixK_lt pick xnx Xo.out 256)
          rw [mixK_all pick hnxH Ho.out, if_neg hp1] at hot
          have hR5 := hR.mono hb5
          have hch := cZ.2 hsq
          have HR5 := hide hR5
          obtain ⟨c0, c1, c2, c3, c4, c5, -, -, -, -, -, -, -⟩ := id hR5.s
          clear hown
          go_wp2_with fail
          refine (slot_any _ _ _ _ _ _ _).mono ?_
          rintro e w6 ⟨rfl, hb6⟩
          rw [hsq]
          have hR6 := hR5.mono hb6
          have hot6 := hot.mono hb6
          have hB6 := hb5.trans (hb6.mono hb5.size)
          clear hb6 hot hR5 HR5 c0 c1 c2 c3 c4 c5
          go_wp2_with fail
          refine (hch _ _ _ hot6 hR6.o).mono ?_
          rintro e w7 ⟨rfl, hb7⟩
          have hR7 := (hR6.mono hb7).mono ((Below.refl _ _).alloc (Nat.le_refl _) (.cells #[.int .i64 (ep : Nat), .int .i64 (b : Nat), .int .i64 (l : Nat), .int .i64 (d : Nat), .int .i64 (x : Nat), .int .i64 (h : Nat)] 25))
          have hB7 := hB6.trans (hb7.mono hB6.size)
          obtain ⟨c0, c1, c2, c3, c4, c5, -, -, -, -, -, -, -⟩ := id hR7.s
          obtain ⟨d0, d1, d2, d3, d4, d5, -, -, -, -, -, -, -⟩ := id hR7.n
          have HR7 := hide hR7
          clear hb7 hR6 hot6 hB6 hch hR7 hb5
          have hnq1 := fun w => neqS_same (ep : Int) b l d x h w
          have e15 : ((pick : Int) % 16 == 15) = false := by simp; omega
          go_wp2_with fail
          go_roundw
          case rel => exact ⟨0 + 1, by omega, by go_num, HR7.out⟩
          case measure => simp [intOf]
    · by_cases hep1 : 1 < ep
      · have bb := hR.b1
        obtain ⟨e1, hp17, cP, hpH, hpX⟩ := hp hep1
        go_wp2_with (at_make; refine wpList_make_full _ rfl (.const (.int .i64 256)) (.const (.int .i64 256)) 34 rfl W0.heap.size 5 i0 (.int .u8 0) 1 Try.underlying34 hi hz0 hz1 .i64 .i64 256 256 256 rfl rfl rfl rfl (by rw [hz2]; omega) (by unfold maxLen; omega) (Nat.le_refl _) ?_; intro w5 hown hgrow; rw [zerosL_made] at hown; have hb5 : Below W0.heap.size W0 w5 := (Below.refl _ _).grown hgrow (Nat.le_refl _) (by intro k hk; cases hk); clear hgrow bb; obtain ⟨c0, c1, c2, c3, c4, c5, -, -, -, -, -, -, -⟩ := id (hR.mono hb5).s)
        clear c0 c1 c2 c3 c4 c5
        refine (hp17 _).mono ?_
        rintro e w6 ⟨v6, rfl, ho6, hb6⟩
        rw [hpH.1] at ho6
        obtain ⟨ao6, pc, rfl, -, hg6⟩ := owns_form ho6
        obtain ⟨gQ, rfl, -⟩ := hg6 (by decide)
        have hz5 := hb5.size
        have hown2 : w6.ownsRow W0.heap.size 5 1 (.slice (some ⟨gQ, 0, none⟩) 256 pc) 256 (cellsB pv) := owns_base ho6 (by simp; omega)
        have hb7 : Below W0.heap.size W0 w6 := (hb5.alloc hz5 _).trans (hb6.mono (by simp; omega))
        clear hown ho6 hb5 hb6 hz5
        have hown := hown2
        have hb5 := hb7
        clear hown2 hb7
        obtain ⟨o, ho⟩ : ∃ o, o = pv := ⟨_, rfl⟩
        have Ho : Hid (Head1 o) := hide (by rw [ho]; exact hpH)
        have Xo : Hid (∀ y ∈ o, y < 256) := hide (by rw [ho]; exact hpX)
        rw [← ho] at hown cP
        clear hp17 hpH hpX
        go_wp2_with fail
        go_loopw [99] (fun i wr => ∃ k : Nat, k ≤ 256 ∧ i = .int .i64 k ∧ wr.ownsRow W0.heap.size 5 1 (.slice (some ⟨gQ, 0, none⟩) 256 pc) 256 (cellsB (mixK pick nx o k)) ∧ Below W0.heap.size W0 wr) (fun i _ => 256 - (intOf i).toNat)
        case atStart => exact ⟨0, by omega, rfl, by rw [mixK_zero _ _ _ Ho.out.1]; exact hown, hb5⟩
        case round =>
          clear hown hb5
          obtain ⟨k, hk, rfl, hown, hb5⟩ := hrel
          by_cases hkn : k < 256
          · by_cases hbt : pick / 2 ^ (k / 64) % 2 = 1
            · have hand := bit_one pick k hpick hbt
              have hcx : wr.cell? ⟨vo4, vb4 + k, none⟩ = some (.int .u8 ((nx.getD k 0 : Nat) : Int)) := by
                have := (hR.mono hb5).x.cells ⟨vo4, vb4, none⟩ rfl k (.int .u8 ((nx.getD k 0 : Nat) : Int)) (by
                  have hk2 : k < nx.length := by rw [Lnx.out]; exact hkn
                  simp [cellsB, List.getD, hk2])
                rwa [Addr.add_lit] at this
              have hcd : wr.cell? ⟨gQ, k, none⟩ = some (.int .u8 (((mixK pick nx o k).getD k 0 : Nat) : Int)) := by
                rw [hown.cellAt k (by omega)]
                have hk2 : k < (mixK pick nx o k).length := by rw [mixK_length]; exact hkn
                simp [cellsB, List.getD, hk2]
              have hfd := hown.frozenAt k
              have hst := (hown.stored k (.int .u8 ((nx.getD k 0 : Nat) : Int))).1
              rw [cellsB_setN, mixK_yes pick nx o k hkn hbt] at hst
              have hgo := owns_lt hown gQ rfl
              have hb6 := hb5.setCell (p := ⟨gQ, k, none⟩) hgo (.int .u8 ((nx.getD k 0 : Nat) : Int))
              have Hst := hide hst
              have Hb6 := hide hb6
              generalize nx.getD k 0 = nv at *
              generalize (mixK pick nx o k).getD k 0 = ov at *
              clear hst hb6 hbt hown hb5
              go_wp2_with fail
              go_roundw
              case rel => exact ⟨k + 1, by omega, by go_num, Hst.out, Hb6.out⟩
              case measure => simp [intOf]; omega
            · have hand := bit_zero pick k hpick hbt
              have hst := hown
              rw [mixK_no pick nx o k hbt] at hst
              have Hst := hide hst
              clear hst hbt hown
              go_wp2_with fail
              go_roundw
              case rel => exact ⟨k + 1, by omega, by go_num, Hst.out, hb5⟩
              case measure => simp [intOf]; omega
          obtain rfl : k = 256 := by omega
          clear hkn hk
          by_cases hp1 : pick % 2 = 1 <;> by_cases hs1 : ep % 2 = 0
          · -- bit True slot 0
            have hsq : slotS (ep : Int) = 0 := by rw [slotS_nat]; omega
            have hot := Bs.of_owns hown (mixK_lt pick xnx Xo.out 256)
            rw [mixK_all pick hnxH Ho.out, if_pos hp1] at hot
            have hR5 := hR.mono hb5
            have hch := cN.1 hsq
            have HR5 := hide hR5
            obtain ⟨c0, c1, c2, c3, c4, c5, -, -, -, -, -, -, -⟩ := id hR5.s
            clear hown
            go_wp2_with fail
            refine (slot_any _ _ _ _ _ _ _).mono ?_
            rintro e w6 ⟨rfl, hb6⟩
            rw [hsq]
            have hR6 := hR5.mono hb6
            have hot6 := hot.mono hb6
            have hB6 := hb5.trans (hb6.mono hb5.size)
            clear hb6 hot hR5 HR5 c0 c1 c2 c3 c4 c5
            go_wp2_with fail
            refine (hch _ _ _ hR6.o hot6).mono ?_
            rintro e w7 ⟨rfl, hb7⟩
            have hR7 := (hR6.mono hb7).mono ((Below.refl _ _).alloc (Nat.le_refl _) (.cells #[.int .i64 (en : Nat), .int .i64 (b : Nat), .int .i64 (l : Nat), .int .i64 (d : Nat), .int .i64 (x : Nat), .int .i64 (hd : Nat)] 25))
            have hB7 := hB6.trans (hb7.mono hB6.size)
            obtain ⟨c0, c1, c2, c3, c4, c5, -, -, -, -, -, -, -⟩ := id hR7.s
            obtain ⟨d0, d1, d2, d3, d4, d5, -, -, -, -, -, -, -⟩ := id hR7.n
            have HR7 := hide hR7
            clear hb7 hR6 hot6 hB6 hch hR7 hb5
            have hnq1 := fun w => neqS_diff (ep := ep) (en := en) (b := b) (l := l) (d := d) (x := x) (h := h) (hd := hd) hep2 w
            have hnq2 := fun w => neqS_same (en : Int) b l d x hd w
            by_cases h15 : pick % 16 = 15
            · have e15 : ((pick : Int) % 16 == 15) = true := by simp; omega
              clear h15
              go_wp2_with fail
              go_roundw
              case rel => exact ⟨1 + 1, by omega, by go_num, HR7.out⟩
              case measure => simp [intOf]
            · have e15 : ((pick : Int) % 16 == 15) = false := by simp; omega
              clear h15
              go_wp2_with fail
              go_roundw
              case rel => exact ⟨1 + 1, by omega, by go_num, HR7.out⟩
              case measure => simp [intOf]
          · -- bit True slot 1
            have hsq : slotS (ep : Int) = 1 := by rw [slotS_nat]; omega
            have hot := Bs.of_owns hown (mixK_lt pick xnx Xo.out 256)
            rw [mixK_all pick hnxH Ho.out, if_pos hp1] at hot
            have hR5 := hR.mono hb5
            have hch := cN.2 hsq
            have HR5 := hide hR5
            obtain ⟨c0, c1, c2, c3, c4, c5, -, -, -, -, -, -, -⟩ := id hR5.s
            clear hown
            go_wp2_with fail
            refine (slot_any _ _ _ _ _ _ _).mono ?_
            rintro e w6 ⟨rfl, hb6⟩
            rw [hsq]
            have hR6 := hR5.mono hb6
            have hot6 := hot.mono hb6
            have hB6 := hb5.trans (hb6.mono hb5.size)
            clear hb6 hot hR5 HR5 c0 c1 c2 c3 c4 c5
            go_wp2_with fail
            refine (hch _ _ _ hot6 hR6.o).mono ?_
            rintro e w7 ⟨rfl, hb7⟩
            have hR7 := (hR6.mono hb7).mono ((Below.refl _ _).alloc (Nat.le_refl _) (.cells #[.int .i64 (en : Nat), .int .i64 (b : Nat), .int .i64 (l : Nat), .int .i64 (d : Nat), .int .i64 (x : Nat), .int .i64 (hd : Nat)] 25))
            have hB7 := hB6.trans (hb7.mono hB6.size)
            obtain ⟨c0, c1, c2, c3, c4, c5, -, -, -, -, -, -, -⟩ := id hR7.s
            obtain ⟨d0, d1, d2, d3, d4, d5, -, -, -, -, -, -, -⟩ := id hR7.n
            have HR7 := hide hR7
            clear hb7 hR6 hot6 hB6 hch hR7 hb5
            have hnq1 := fun w => neqS_diff (ep := ep) (en := en) (b := b) (l := l) (d := d) (x := x) (h := h) (hd := hd) hep2 w
            have hnq2 := fun w => neqS_same (en : Int) b l d x hd w
            by_cases h15 : pick % 16 = 15
            · have e15 : ((pick : Int) % 16 == 15) = true := by simp; omega
              clear h15
              go_wp2_with fail
              go_roundw
              case rel => exact ⟨1 + 1, by omega, by go_num, HR7.out⟩
              case measure => simp [intOf]
            · have e15 : ((pick : Int) % 16 == 15) = false := by simp; omega
              clear h15
              go_wp2_with fail
              go_roundw
              case rel => exact ⟨1 + 1, by omega, by go_num, HR7.out⟩
              case measure => simp [intOf]
          · -- bit False slot 0
            have hsq : slotS (ep : Int) = 0 := by rw [slotS_nat]; omega
            have hot := Bs.of_owns hown (mixK_lt pick xnx Xo.out 256)
            rw [mixK_all pick hnxH Ho.out, if_neg hp1] at hot
            have hR5 := hR.mono hb5
            have hch := cP.1 hsq
            have HR5 := hide hR5
            obtain ⟨c0, c1, c2, c3, c4, c5, -, -, -, -, -, -, -⟩ := id hR5.s
            clear hown
            go_wp2_with fail
            refine (slot_any _ _ _ _ _ _ _).mono ?_
            rintro e w6 ⟨rfl, hb6⟩
            rw [hsq]
            have hR6 := hR5.mono hb6
            have hot6 := hot.mono hb6
            have hB6 := hb5.trans (hb6.mono hb5.size)
            clear hb6 hot hR5 HR5 c0 c1 c2 c3 c4 c5
            go_wp2_with fail
            refine (hch _ _ _ hR6.o hot6).mono ?_
            rintro e w7 ⟨rfl, hb7⟩
            have hR7 := (hR6.mono hb7).mono ((Below.refl _ _).alloc (Nat.le_refl _) (.cells #[.int .i64 (ep : Nat), .int .i64 (b : Nat), .int .i64 (l : Nat), .int .i64 (d : Nat), .int .i64 (x : Nat), .int .i64 (h : Nat)] 25))
            have hB7 := hB6.trans (hb7.mono hB6.size)
            obtain ⟨c0, c1, c2, c3, c4, c5, -, -, -, -, -, -, -⟩ := id hR7.s
            obtain ⟨d0, d1, d2, d3, d4, d5, -, -, -, -, -, -, -⟩ := id hR7.n
            have HR7 := hide hR7
            clear hb7 hR6 hot6 hB6 hch hR7 hb5
            have hnq1 := fun w => neqS_same (ep : Int) b l d x h w
            have e15 : ((pick : Int) % 16 == 15) = false := by simp; omega
            go_wp2_with fail
            go_roundw
            case rel => exact ⟨1 + 1, by omega, by go_num, HR7.out⟩
            case measure => simp [intOf]
          · -- bit False slot 1
            have hsq : slotS (ep : Int) = 1 := by rw [slotS_nat]; omega
            have hot := Bs.of_owns hown (mixK_lt pick xnx Xo.out 256)
            rw [mixK_all pick hnxH Ho.out, if_neg hp1] at hot
            have hR5 := hR.mono hb5
            have hch := cP.2 hsq
            have HR5 := hide hR5
            obtain ⟨c0, c1, c2, c3, c4, c5, -, -, -, -, -, -, -⟩ := id hR5.s
            clear hown
            go_wp2_with fail
            refine (slot_any _ _ _ _ _ _ _).mono ?_
            rintro e w6 ⟨rfl, hb6⟩
            rw [hsq]
            have hR6 := hR5.mono hb6
            have hot6 := hot.mono hb6
            have hB6 := hb5.trans (hb6.mono hb5.size)
            clear hb6 hot hR5 HR5 c0 c1 c2 c3 c4 c5
            go_wp2_with fail
            refine (hch _ _ _ hot6 hR6.o).mono ?_
            rintro e w7 ⟨rfl, hb7⟩
            have hR7 := (hR6.mono hb7).mono ((Below.refl _ _).alloc (Nat.le_refl _) (.cells #[.int .i64 (ep : Nat), .int .i64 (b : Nat), .int .i64 (l : Nat), .int .i64 (d : Nat), .int .i64 (x : Nat), .int .i64 (h : Nat)] 25))
            have hB7 := hB6.trans (hb7.mono hB6.size)
            obtain ⟨c0, c1, c2, c3, c4, c5, -, -, -, -, -, -, -⟩ := id hR7.s
            obtain ⟨d0, d1, d2, d3, d4, d5, -, -, -, -, -, -, -⟩ := id hR7.n
            have HR7 := hide hR7
            clear hb7 hR6 hot6 hB6 hch hR7 hb5
            have hnq1 := fun w => neqS_same (ep : Int) b l d x h w
            have e15 : ((pick : Int) % 16 == 15) = false := by simp; omega
            go_wp2_with fail
            go_roundw
            case rel => exact ⟨1 + 1, by omega, by go_num, HR7.out⟩
            case measure => simp [intOf]
      · have bb := hR.b1
        go_wp2_with (at_make; refine wpList_make_full _ rfl (.const (.int .i64 256)) (.const (.int .i64 256)) 34 rfl W0.heap.size 5 i0 (.int .u8 0) 1 Try.underlying34 hi hz0 hz1 .i64 .i64 256 256 256 rfl rfl rfl rfl (by rw [hz2]; omega) (by unfold maxLen; omega) (Nat.le_refl _) ?_; intro w5 hown hgrow; rw [zerosL_made] at hown; have hb5 : Below W0.heap.size W0 w5 := (Below.refl _ _).grown hgrow (Nat.le_refl _) (by intro k hk; cases hk); clear hgrow bb; have c0 := (hR.mono hb5).s.c0)
        obtain ⟨o, ho⟩ : ∃ o, o = zerosL 256 := ⟨_, rfl⟩
        have Ho : Hid (Head1 o) := hide (by rw [ho]; exact head_zeros)
        have Xo : Hid (∀ y ∈ o, y < 256) := hide (by rw [ho]; exact zerosL_lt 256)
        rw [← ho] at hown cZ
        clear c0
        go_loopw [99] (fun i wr => ∃ k : Nat, k ≤ 256 ∧ i = .int .i64 k ∧ wr.ownsRow W0.heap.size 5 1 (.slice (some ⟨W0.heap.size, 0, none⟩) 256 256) 256 (cellsB (mixK pick nx o k)) ∧ Below W0.heap.size W0 wr) (fun i _ => 256 - (intOf i).toNat)
        case atStart => exact ⟨0, by omega, rfl, by rw [mixK_zero _ _ _ Ho.out.1]; exact hown, hb5⟩
        case round =>
          clear hown hb5
          obtain ⟨k, hk, rfl, hown, hb5⟩ := hrel
          by_cases hkn : k < 256
          · by_cases hbt : pick / 2 ^ (k / 64) % 2 = 1
            · have hand := bit_one pick k hpick hbt
              have hcx : wr.cell? ⟨vo4, vb4 + k, none⟩ = some (.int .u8 ((nx.getD k 0 : Nat) : Int)) := by
                have := (hR.mono hb5).x.cells ⟨vo4, vb4, none⟩ rfl k (.int .u8 ((nx.getD k 0 : Nat) : Int)) (by
                  have hk2 : k < nx.length := by rw [Lnx.out]; exact hkn
                  simp [cellsB, List.getD, hk2])
                rwa [Addr.add_lit] at this
              have hcd : wr.cell? ⟨W0.heap.size, k, none⟩ = some (.int .u8 (((mixK pick nx o k).getD k 0 : Nat) : Int)) := by
                rw [hown.cellAt k (by omega)]
                have hk2 : k < (mixK pick nx o k).length := by rw [mixK_length]; exact hkn
                simp [cellsB, List.getD, hk2]
              have hfd := hown.frozenAt k
              have hst := (hown.stored k (.int .u8 ((nx.getD k 0 : Nat) : Int))).1
              rw [cellsB_setN, mixK_yes pick nx o k hkn hbt] at hst
              have hgo := owns_lt hown W0.heap.size rfl
              have hb6 := hb5.setCell (p := ⟨W0.heap.size, k, none⟩) hgo (.int .u8 ((nx.getD k 0 : Nat) : Int))
              have Hst := hide hst
              have Hb6 := hide hb6
              generalize nx.getD k 0 = nv at *
              generalize (mixK pick nx o k).getD k 0 = ov at *
              clear hst hb6 hbt hown hb5
              go_wp2_with fail
              go_roundw
              case rel => exact ⟨k + 1, by omega, by go_num, Hst.out, Hb6.out⟩
              case measure => simp [intOf]; omega
            · have hand := bit_zero pick k hpick hbt
              have hst := hown
              rw [mixK_no pick nx o k hbt] at hst
              have Hst := hide hst
              clear hst hbt hown
              go_wp2_with fail
              go_roundw
              case rel => exact ⟨k + 1, by omega, by go_num, Hst.out, hb5⟩
              case measure => simp [intOf]; omega
          obtain rfl : k = 256 := by omega
          clear hkn hk
          by_cases hp1 : pick % 2 = 1 <;> by_cases hs1 : ep % 2 = 0
          · -- bit True slot 0
            exact absurd hs1 (by omega)
          · -- bit True slot 1
            have hsq : slotS (ep : Int) = 1 := by rw [slotS_nat]; omega
            have hot := Bs.of_owns hown (mixK_lt pick xnx Xo.out 256)
            rw [mixK_all pick hnxH Ho.out, if_pos hp1] at hot
            have hR5 := hR.mono hb5
            have hch := cN.2 hsq
            have HR5 := hide hR5
            obtain ⟨c0, c1, c2, c3, c4, c5, -, -, -, -, -, -, -⟩ := id hR5.s
            clear hown
            go_wp2_with fail
            refine (slot_any _ _ _ _ _ _ _).mono ?_
            rintro e w6 ⟨rfl, hb6⟩
            rw [hsq]
            have hR6 := hR5.mono hb6
            have hot6 := hot.mono hb6
            have hB6 := hb5.trans (hb6.mono hb5.size)
            clear hb6 hot hR5 HR5 c0 c1 c2 c3 c4 c5
            go_wp2_with fail
            refine (hch _ _ _ hot6 hR6.o).mono ?_
            rintro e w7 ⟨rfl, hb7⟩
            have hR7 := (hR6.mono hb7).mono ((Below.refl _ _).alloc (Nat.le_refl _) (.cells #[.int .i64 (en : Nat), .int .i64 (b : Nat), .int .i64 (l : Nat), .int .i64 (d : Nat), .int .i64 (x : Nat), .int .i64 (hd : Nat)] 25))
            have hB7 := hB6.trans (hb7.mono hB6.size)
            obtain ⟨c0, c1, c2, c3, c4, c5, -, -, -, -, -, -, -⟩ := id hR7.s
            obtain ⟨d0, d1, d2, d3, d4, d5, -, -, -, -, -, -, -⟩ := id hR7.n
            have HR7 := hide hR7
            clear hb7 hR6 hot6 hB6 hch hR7 hb5
            have hnq1 := fun w => neqS_diff (ep := ep) (en := en) (b := b) (l := l) (d := d) (x := x) (h := h) (hd := hd) hep2 w
            have hnq2 := fun w => neqS_same (en : Int) b l d x hd w
            by_cases h15 : pick % 16 = 15
            · have e15 : ((pick : Int) % 16 == 15) = true := by simp; omega
              clear h15
              go_wp2_with fail
              go_roundw
              case rel => exact ⟨1 + 1, by omega, by go_num, HR7.out⟩
              case measure => simp [intOf]
            · have e15 : ((pick : Int) % 16 == 15) = false := by simp; omega
              clear h15
              go_wp2_with fail
              go_roundw
              case rel => exact ⟨1 + 1, by omega, by go_num, HR7.out⟩
              case measure => simp [intOf]
          · -- bit False slot 0
            exact absurd hs1 (by omega)
          · -- bit False slot 1
            have hsq : slotS (ep : Int) = 1 := by rw [slotS_nat]; omega
            have hot := Bs.of_owns hown (mixK_lt pick xnx Xo.out 256)
            rw [mixK_all pick hnxH Ho.out, if_neg hp1] at hot
            have hR5 := hR.mono hb5
            have hch := cZ.2 hsq
            have HR5 := hide hR5
            obtain ⟨c0, c1, c2, c3, c4, c5, -, -, -, -, -, -, -⟩ := id hR5.s
            clear hown
            go_wp2_with fail
            refine (slot_any _ _ _ _ _ _ _).mono ?_
            rintro e w6 ⟨rfl, hb6⟩
            rw [hsq]
            have hR6 := hR5.mono hb6
            have hot6 := hot.mono hb6
            have hB6 := hb5.trans (hb6.mono hb5.size)
            clear hb6 hot hR5 HR5 c0 c1 c2 c3 c4 c5
            go_wp2_with fail
            refine (hch _ _ _ hot6 hR6.o).mono ?_
            rintro e w7 ⟨rfl, hb7⟩
            have hR7 := (hR6.mono hb7).mono ((Below.refl _ _).alloc (Nat.le_refl _) (.cells #[.int .i64 (ep : Nat), .int .i64 (b : Nat), .int .i64 (l : Nat), .int .i64 (d : Nat), .int .i64 (x : Nat), .int .i64 (h : Nat)] 25))
            have hB7 := hB6.trans (hb7.mono hB6.size)
            obtain ⟨c0, c1, c2, c3, c4, c5, -, -, -, -, -, -, -⟩ := id hR7.s
            obtain ⟨d0, d1, d2, d3, d4, d5, -, -, -, -, -, -, -⟩ := id hR7.n
            have HR7 := hide hR7
            clear hb7 hR6 hot6 hB6 hch hR7 hb5
            have hnq1 := fun w => neqS_same (ep : Int) b l d x h w
            have e15 : ((pick : Int) % 16 == 15) = false := by simp; omega
            go_wp2_with fail
            go_roundw
            case rel => exact ⟨1 + 1, by omega, by go_num, HR7.out⟩
            case measure => simp [intOf]
    · go_wp2_with fail
      go_ret
      exact ⟨rfl, hR.bel⟩

theorem torn_any (ep b l d x h head : Int) (pick : Nat) (w : World) (kb : -9223372036854775808 ≤ b ∧ b ≤ 9223372036854775807) (hpick : pick < 256) :
    Calls Try.prog 7 #[.agg #[.int .i64 ep, .int .i64 b, .int .i64 l, .int .i64 d, .int .i64 x, .int .i64 h], .int .i64 head, .int .u8 (pick : Nat)] w fun r w' => r = .returned (.bool true) ∧ Below w.heap.size w w' := by
  by_cases k : nextE ep b l d x h head = 0
  · obtain ⟨k1, k2, k3, k4⟩ := nextE_zero k
    obtain ⟨ep', b', l', d', x', h', rfl, rfl, rfl, rfl, rfl, rfl⟩ := okS_nat k1
    obtain ⟨hd, rfl⟩ : ∃ hd : Nat, head = hd := ⟨head.toNat, by omega⟩
    have r := okS_range k1
    obtain ⟨e0, rfl⟩ : ∃ e, ep' = e + 1 := ⟨ep' - 1, by omega⟩
    have kn : okS ((e0 + 1 + 1 : Nat) : Int) b' l' d' x' hd := ⟨k1.1, by omega, by omega, by omega, by omega⟩
    have h10 := fun w => next_yes ((e0 + 1 : Nat) : Int) b' l' d' x' h' hd w kb k1 k2 k3 k4
    rw [show ((e0 + 1 : Nat) : Int) + 1 = ((e0 + 1 + 1 : Nat) : Int) by omega] at h10
    refine torn_yes (e0 + 1) b' l' d' x' h' (e0 + 1 + 1) hd pick w (blockL (e0 + 1) b' l' d' x' h') (blockL (e0 + 1 + 1) b' l' d' x' hd) rfl hpick (by omega) (by omega) (blockL_length _ _ _ _ _ _) (blockL_length _ _ _ _ _ _) (blockL_lt _ _ _ _ _ _) (blockL_lt _ _ _ _ _ _) h10 (fun w => bytes_yes _ _ _ _ _ _ w k1) (fun w => bytes_yes _ _ _ _ _ _ w kn) (head_block _ _ _ _ _ _) (counts_next k1 kn) (counts_zeros k1) e0 (blockL e0 b' l' d' x' h') (fun hp => ?_)
    have kp : okS (e0 : Int) b' l' d' x' h' := ⟨k1.1, by omega, by omega, by omega, by omega⟩
    exact ⟨by omega, fun w => bytes_yes _ _ _ _ _ _ w kp, counts_ahead k1 kp, head_block _ _ _ _ _ _, blockL_lt _ _ _ _ _ _⟩
  · have h10 := fun w => next_no ep b l d x h head w kb k
    by_cases k1 : okS ep b l d x h
    · obtain ⟨ep', b', l', d', x', h', rfl, rfl, rfl, rfl, rfl, rfl⟩ := okS_nat k1
      exact torn_no _ _ _ _ _ _ head pick w (blockL ep' b' l' d' x' h') 0 _ (blockL_lt _ _ _ _ _ _) h10 (fun w => bytes_yes _ _ _ _ _ _ w k1) (by simpa using k)
    · exact torn_no _ _ _ _ _ _ head pick w [] _ _ (by simp) h10 (fun w => bytes_no _ _ _ _ _ _ w kb (fun e => k1 (chkS_zero e))) (by simpa using k)

theorem superTorn_lifted (os : Os) (started : os.Started) (H : Type) (enc : TypeId × Value → H) :
    ReturnsInHanded {} Try.checked os 7 .any (Rows.superTornSpec.pre6 enc Try.prog Try.f7 Rows.superTornRow.domain false) (Rows.superTornSpec.post enc Try.prog Try.f7 false true false false) := by
  refine law_frame (C := Try.checked) rfl Try.own started (by kernel_rfl) Try.func7
    (ChangeSpec.witness6 (enc := enc) (C := Try.checked) false ⟨#[], #[.agg #[.int .i64 0, .int .i64 0, .int .i64 0, .int .i64 0, .int .i64 0, .int .i64 0], .int .i64 0, .int .u8 0], []⟩ 8 (by kernel_rfl) (by kernel_rfl) (by kernel_rfl) (by kernel_rfl))
    Try.laidOut ?_ 4 rfl Try.underlying4 ?_ ?_
  · rw [Try.params7]
    intro t ht
    simp at ht
    rcases ht with rfl | rfl | rfl <;> exact ⟨by kernel_rfl, of_decide_eq_true (by kernel_rfl)⟩
  · intro ds hn
    rw [Try.params7] at hn
    match ds, hn with
    | [d1, d2, d3], _ => rfl
  · intro W base args ds p hval0 hA hsz
    have hval : ∀ (j : Nat) t v, Try.f7.params[j]? = some t → args[j]? = some v → Value.okWide Try.prog W .any base t v := hval0
    rw [Try.params7] at hA hsz hval
    obtain ⟨v0, vs0, d0, ds0, p0, q0, hargs, rfl, rfl, h0, r0⟩ := trodAll_cons hA
    obtain ⟨v1, vs1, d1, ds1, p1, q1, rfl, rfl, rfl, h1, r1⟩ := trodAll_cons r0
    obtain ⟨v2, vs2, d2, ds2, p2, q2, rfl, rfl, rfl, h2, r2⟩ := trodAll_cons r1
    obtain ⟨rfl, rfl, rfl⟩ := trodAll_nil r2
    obtain rfl : args = #[v0, v1, v2] := by cases args; simp_all
    obtain ⟨ep, b, l, d, x, h, rfl, kep, kb, kl, kd, kx, kh⟩ := cameS (hval 0 25 v0 rfl rfl) h0
    obtain ⟨a1, rfl, rfl, rfl, w1⟩ := open_int Try.underlying2 (hval 1 2 v1 rfl rfl) h1
    have hb1 := bounds_i64 w1
    obtain ⟨a2, rfl, rfl, rfl, w2⟩ := open_int Try.underlying5 (hval 2 5 v2 rfl rfl) h2
    have hb2 := bounds_u8 w2
    obtain ⟨n2, rfl⟩ := Int.eq_ofNat_of_zero_le hb2.1
    exact torn_any ep b l d x h a1 n2 W kb (by omega)

theorem superTorn_holds : Rows.SuperTornSaid :=
  OpenClaim.holds_of_wide 7 Try.f7 rfl rfl rfl rfl rfl rfl rfl ⟨rfl, rfl, rfl, rfl, rfl⟩ rfl rfl rfl rfl rfl (by kernel_rfl) Try.func7 (by kernel_rfl)
    (of_decide_eq_true (by kernel_rfl)) (by unfold Func.isWrapper; first | (rw [if_pos (by decide +kernel)]; kernel_rfl) | (rw [if_neg (by decide +kernel)]; exact ⟨rfl, rfl⟩))
    (fun os started H enc _ => superTorn_lifted os started H enc)
#print axioms superTorn_holds
end Go.Proofs.Ytfjkmgfjlckmlaa
