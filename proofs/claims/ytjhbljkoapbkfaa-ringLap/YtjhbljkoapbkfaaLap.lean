/- RingLap: of a ring on a disk of noughts, behind each crash opened again from its head and then at the next lap, each new lap holds nothing, whatever was there. No conditions. -/
import Derived.Test.YtjhbljkoapbkfaaCameO
import Derived.Test.YtjhbljkoapbkfaaLl
set_option linter.unusedSimpArgs false
set_option linter.unusedVariables false
namespace Go.Proofs.Ytjhbljkoapbkfaa
open Go.RowKit Go.Attic Go.ChangeShapes Go.WideShapes Go.Shelf

/-- What stands between two operations of a script. -/
def LapI (w wr : World) (g m nb k : Nat) (rv : Value) : Prop :=
  ∃ r p F Fr head s rs, rv = .pointer (some ⟨r, 0, none⟩) ∧ RD wr r g m p F Fr 8 1 nb head s rs ∧ AllSec 8 (Low (head + 4 * nb)) s ∧ head ≤ 100 * (k + 1) ∧ s.pend.length ≤ 2000 * k ∧ s.ops ≤ 2000 * k ∧ (∀ b, OwnR r g m F Fr b → w.heap.size ≤ b) ∧ Below w.heap.size w wr

theorem RD.lt {w : World} {r g m : Nat} {p : Option Nat} {F Fr : Nat → Prop} {n base blocks head : Nat} {s : St} {rs : List Rc} (h : RD w r g m p F Fr n base blocks head s rs) (b : Nat) (hb : OwnR r g m F Fr b) : b < w.heap.size := by
  rcases hb with (e | e | e) | e | e
  · exact e ▸ h.dk.gl
  · exact e ▸ h.dk.ml
  · exact h.dk.Fl b e
  · exact e ▸ h.rk.rl
  · exact h.rk.Fl b e

theorem own_turn {w wr w' : World} {r g m : Nat} {F Fr F' Fr' : Nat → Prop} (hB : Below w.heap.size w wr) (hO : ∀ b, OwnR r g m F Fr b → w.heap.size ≤ b) (hk : Keeps (OwnR r g m F Fr) wr w') (hF : ∀ k, F' k ∨ Fr' k → F k ∨ Fr k ∨ wr.heap.size ≤ k) : (∀ b, OwnR r g m F' Fr' b → w.heap.size ≤ b) ∧ Below w.heap.size w w' := by
  refine ⟨fun b hb => ?_, hB.trans (hk.below hO hB.size)⟩
  have hz := hB.size
  have key : ∀ b, F' b ∨ Fr' b → w.heap.size ≤ b := fun b hb => by
    rcases hF b hb with h | h | h
    · exact hO b (.inl (.inr (.inr h)))
    · exact hO b (.inr (.inr h))
    · omega
  rcases hb with (h | h | h) | h | h
  · exact hO b (.inl (.inl h))
  · exact hO b (.inl (.inr (.inl h)))
  · exact key b (.inl h)
  · exact hO b (.inr (.inl h))
  · exact key b (.inr h)

theorem lap_turn {w wr w' : World} {r g m nb k head' : Nat} {F Fr : Nat → Prop} {s' : St} {rs' : List Rc} (hB : Below w.heap.size w wr) (hO : ∀ b, OwnR r g m F Fr b → w.heap.size ≤ b) (ht : RTurn wr r g m F Fr 8 1 nb head' s' rs' w') (hall : AllSec 8 (Low (head' + 4 * nb)) s') (hh : head' ≤ 100 * (k + 1)) (hp : s'.pend.length ≤ 2000 * k) (ho : s'.ops ≤ 2000 * k) : LapI w w' g m nb k (.pointer (some ⟨r, 0, none⟩)) := by
  obtain ⟨p', F', Fr', hRD, hk, hF⟩ := ht
  obtain ⟨h1, h2⟩ := own_turn hB hO hk hF
  exact ⟨r, p', F', Fr', head', s', rs', rfl, hRD, hall, hh, hp, ho, h1, h2⟩

theorem flushS_grows (s : St) : (flushS s).1.pend.length ≤ s.pend.length ∧ (flushS s).1.ops ≤ s.ops + 1 := by
  unfold flushS
  split
  · simp
  · split
    · unfold operS
      split
      · simp
      · split
        · simp [crashed]
        · simp
    · refine ⟨by simp, ?_⟩
      unfold operS
      split
      · simp
      · split
        · simp [crashed]
        · simp

theorem armS_grows (s : St) (i : Int) (picks : List Nat) : (armS s i picks).1.pend.length = s.pend.length ∧ (armS s i picks).1.ops = s.ops := by
  unfold armS
  split
  · simp
  · split
    · simp
    · split <;> simp

theorem crashS_off (s : St) (picks : List Nat) : (crashS s picks).1.on = false ∧ (crashS s picks).1.pend.length ≤ s.pend.length ∧ (crashS s picks).1.ops = s.ops := by
  unfold crashS
  split
  · rename_i h; exact ⟨h, Nat.le_refl _, rfl⟩
  · exact ⟨rfl, by simp [crashed], rfl⟩

theorem restartS_off {s : St} (h : s.on = false) : (restartS s).2 = 0 ∧ (restartS s).1.on = true ∧ (restartS s).1.pend = s.pend ∧ (restartS s).1.ops = s.ops := by
  unfold restartS
  rw [if_neg (by simp [h])]
  exact ⟨rfl, rfl, rfl, rfl⟩

set_option maxRecDepth 100000 in
set_option maxHeartbeats 2000000 in
theorem lap_walk (b0 : Nat) (hb0 : b0 < 256) (v : Value) (l : List OpX) (w : World) (hl : Ops w (fun k => k < w.heap.size) v l) (hll : l.length ≤ 140737488355328) :
    Calls Try.prog 4 #[.int .u8 (b0 : Int), v] w fun e w' => e = .returned (.bool true) ∧ Below w.heap.size w w' := by
  obtain ⟨ao, cap, rfl, hcap, hops⟩ := hl
  obtain ⟨q, hq⟩ : ∃ q, min l.length 60 = q := ⟨_, rfl⟩
  obtain ⟨nb, hnb⟩ : ∃ nb, 1 + b0 % 6 = nb := ⟨_, rfl⟩
  have hnb1 : 1 ≤ nb ∧ nb ≤ 6 := by omega
  have hnbi : 1 + (b0 : Int) % 6 = (nb : Int) := by omega
  have Hops := hide hops
  have Hq := hide hq
  clear hops hq
  go_enter Try.func4, Try.ntmps4
  go_wp2_with fail
  refine (new_yes 8 w (by omega) (by omega)).mono ?_
  rintro e w1 ⟨g, m, rfl, hD1, hb1, hg1, hm1⟩
  go_wp2_with fail
  refine (live_any _).mono ?_
  rintro e w2 ⟨rfl, hb2⟩
  have hb02 : Below w.heap.size w w2 := hb1.trans (hb2.mono hb1.size)
  have hz2 : w.heap.size ≤ w2.heap.size := hb02.size
  have hD2 := hD1.mono hb2
  have hlap0 : ∀ W, Calls Try.prog 16 #[.int .i64 0, .int .i64 (nb : Int)] W fun e w' => e = .returned (.int .i64 ((4 * nb : Nat) : Int)) ∧ W = w' := fun W => by
    have := lap_any 0 (nb : Int) W
    rw [show lapS 0 (nb : Int) = ((4 * nb : Nat) : Int) by unfold lapS; rw [if_pos (by omega)]; omega] at this
    exact this
  obtain ⟨h0, hh0⟩ : ∃ h0, 4 * nb = h0 := ⟨_, rfl⟩
  have hopen : Calls Try.prog 9 #[.pointer (some ⟨g, 0, none⟩), .int .i64 1, .int .i64 (nb : Int), .int .i64 (h0 : Int)] w2 _ := open_on hD2 rfl (Nat.zero_le _) 1 nb h0 (by omega) (by omega) (by omega) (by omega)
  rw [hh0] at hlap0
  have Hh0 := hide hh0
  clear hh0
  go_wp2_with fail
  refine (hlap0 _).mono ?_
  rintro e w' ⟨rfl, rfl⟩
  go_wp2_with fail
  refine hopen.mono ?_
  rintro e w3 ⟨rs, r, vt, Fr, rfl, hsc, hR3, hr3, hFr3, hRs3, hb3⟩
  obtain rfl := scanned_new (by omega) (by omega) hsc
  have hRD3 := RD.opened hD2 hb3 hR3 hr3 hFr3 (by omega)
  obtain ⟨ao3, cap3, hvt, -⟩ := hRs3.slice
  subst hvt
  have hb03 : Below w.heap.size w w3 := hb02.trans (hb3.mono hb02.size)
  have hI0 : LapI w w3 g m nb 0 (.pointer (some ⟨r, 0, none⟩)) := by
    refine ⟨r, none, _, Fr, h0, newS 8, [], rfl, hRD3, low_new 8 _, by have := Hh0.out; omega, Nat.le_refl _, Nat.le_refl _, fun k hk => ?_, hb03⟩
    rcases hk with (h | h | h) | h | h
    · omega
    · omega
    · exact h.elim
    · omega
    · have := hFr3 k h; omega
  have HI0 := hide hI0
  clear hopen hsc hRs3 hlap0 hI0 hR3 hRD3 hD2 hD1
  have hq60 : q ≤ 60 := by have := Hq.out; omega
  have hqc : q ≤ cap := by have := Hq.out; omega
  go_wp2_with fail
  case' inl => rw [show (max (60 : Int) 0) = ((q : Nat) : Int) by have := Hq.out; omega, show Value.slice ao 60 cap = Value.slice ao q cap by rw [show (60 : Nat) = q by have := Hq.out; omega]]
  case' inr => rw [show l.length = q by have := Hq.out; omega]
  all_goals
    go_loopw [8, 56] (fun rv i wr => ∃ k : Nat, k ≤ q ∧ i = .int .i64 (k : Int) ∧ Hid (LapI w wr g m nb k rv)) (fun _ i _ => q - (intOf i).toNat)
    case atStart => exact ⟨0, by omega, rfl, HI0⟩
    case round =>
      clear HI0
      obtain ⟨k, hk, rfl, HP⟩ := hrel
      by_cases hkq : k < q
      · have hkl : k < l.length := by have := Hq.out; omega
        obtain ⟨rr, p, F, Fr, hd, s, rs, rfl, hRD, hall, hhd, hpe, hop, hO, hB⟩ := HP.out
        obtain ⟨ob, oo, rfl, hoat⟩ := Hops.out (by omega)
        obtain ⟨vl, vp, hx⟩ := hoat k hkl
        have hzB := hB.size
        have hx1 := hx.keeps (S := fun b => w.heap.size ≤ b) ⟨hB.os, hB.tape, hB.output, hB.size, fun b hb hn => hB.block b (by omega)⟩ (fun b hb h => by omega)
        generalize l[k] = x at *
        have x0 := hx1.c0
        have x1 := hx1.c1
        have x2 := hx1.c2
        have x3 := hx1.c3
        obtain ⟨la, lc, rfl, hlc⟩ := hx1.rs.slice
        obtain ⟨pa, pc, rfl, -⟩ := id hx1.bs
        obtain ⟨wb, hwb⟩ : ∃ wb, wr.alloc (.cells #[.int .i64 x.d, .slice la x.L.length lc, .int .i64 x.n, .slice pa x.picks.length pc] 41) = wb := ⟨_, rfl⟩
        have kb : Below wr.heap.size wr wb := by rw [← hwb]; exact (Below.refl _ _).alloc (Nat.le_refl _) _
        have y0 : wb.cell? ⟨wr.heap.size, 0, none⟩ = some (.int .i64 x.d) := by rw [← hwb]; simp
        have y1 : wb.cell? ⟨wr.heap.size, 1, none⟩ = some (.slice la x.L.length lc) := by rw [← hwb]; simp
        have y2 : wb.cell? ⟨wr.heap.size, 2, none⟩ = some (.int .i64 x.n) := by rw [← hwb]; simp
        have y3 : wb.cell? ⟨wr.heap.size, 3, none⟩ = some (.slice pa x.picks.length pc) := by rw [← hwb]; simp
        have hnO : ¬ OwnR rr g m F Fr wr.heap.size := fun h => by have := hRD.lt _ h; omega
        have hBb : Below w.heap.size w wb := hB.trans (kb.mono hzB)
        have hRb := hRD.mono kb
        have hxb := hx1.keeps (Keeps.of_below (S := fun _ => False) kb) (fun _ _ => id)
        have hzb : wr.heap.size < wb.heap.size := by rw [← hwb]; simp
        have Hx := hide hxb
        have HRb := hide hRb
        have Hall := hide hall
        clear hx hx1 hxb hRD hRb hall hoat HP
        by_cases h0 : x.d = 0
        · obtain ⟨er, s', rs', a1, a2, a3, a4⟩ := app_low HRb.out _ x.L _ Hx.out.rs Hx.out.ll Hx.out.ls (fun b hb => ⟨by omega, fun h => by have := hO b h; omega⟩) (by omega) (by omega) Hall.out
          rw [h0] at x0 y0 hwb
          have A1 := hide a1
          clear a1
          go_wp2_with fail
          refine a4.mono ?_
          rintro e w4 ⟨rfl, ht⟩
          have HT := hide (lap_turn (k := k + 1) hBb hO ht A1.out (by omega) (by omega) (by omega))
          clear ht a4
          go_wp2_with fail
          go_roundw
          case rel => exact ⟨k + 1, by omega, by go_num, HT⟩
          case measure => simp [intOf]; omega
        · by_cases h1 : x.d = 1
          · have hs := sync_yes HRb.out (by omega) (by omega)
            have HA := hide (flushS_all Hall.out HRb.out.dk.ok)
            have hG := flushS_grows s
            rw [h1] at x0 y0 hwb
            clear h0 h1
            generalize flushS s = X at *
            go_wp2_with fail
            refine hs.mono ?_
            rintro e w4 ⟨rfl, ht⟩
            have HT := hide (lap_turn (k := k + 1) hBb hO ht HA.out (by omega) (by omega) (by omega))
            clear ht hs
            go_wp2_with fail
            go_roundw
            case rel => exact ⟨k + 1, by omega, by go_num, HT⟩
            case measure => simp [intOf]; omega
          · by_cases h2 : x.d = 2
            · rw [h2] at x0 y0 hwb
              clear h0 h1 h2
              have hln := HRb.out.rk.ln
              by_cases hn0 : 0 ≤ x.n
              · obtain ⟨c, hc⟩ : ∃ c : Nat, x.n = (c : Int) := ⟨x.n.toNat, by omega⟩
                rw [hc] at x2 y2 hwb
                have hmono : ∀ j, Below wb.heap.size wb (wb.drewN j) := fun j => below_drewN (Below.refl _ _) j
                have htl : ∀ j, Calls Try.prog 15 #[.pointer (some ⟨rr, 0, none⟩)] (wb.drewN j) fun e w' => e = .returned (.int .i64 ((hd + rs.length : Nat) : Int)) ∧ ∃ i, w' = (wb.drewN j).drewN i := fun j => (tail_yes (HRb.out.mono (hmono j)).rk).mono (fun e w' ⟨u1, n1, u2⟩ => ⟨u1, n1, u2.symm⟩)
                have hhd' : ∀ j, Calls Try.prog 17 #[.pointer (some ⟨rr, 0, none⟩)] (wb.drewN j) fun e w' => e = .returned (.int .i64 (hd : Int)) ∧ w' = wb.drewN j := fun j => (head_yes (HRb.out.mono (hmono j)).rk).mono (fun e w' ⟨u1, u2⟩ => ⟨u1, u2.symm⟩)
                have hwd : IntKind.i64.wrap (((hd + rs.length : Nat) : Int) - (hd : Int)) = ((rs.length : Nat) : Int) := by rw [show ((hd + rs.length : Nat) : Int) - (hd : Int) = ((rs.length : Nat) : Int) by omega]; exact wrap_small (by omega)
                by_cases hle : c ≤ rs.length
                · have hle' : decide (c ≤ rs.length) = true := by simp [hle]
                  have htr : ∀ j, Calls Try.prog 18 #[.pointer (some ⟨rr, 0, none⟩), .int .i64 ((hd + c : Nat) : Int)] (wb.drewN j) _ := fun j => trim_yes (HRb.out.mono (hmono j)) c hle (by omega)
                  have hwa : IntKind.i64.wrap ((hd : Int) + (c : Int)) = ((hd + c : Nat) : Int) := by rw [show (hd : Int) + (c : Int) = ((hd + c : Nat) : Int) by omega]; exact wrap_small (by omega)
                  generalize hdc : hd + c = hc' at *
                  have Hdc := hide hdc
                  clear hdc
                  generalize hdt : hd + rs.length = tl at *
                  have Hdt := hide hdt
                  clear hdt
                  go_wp2_with fail
                  go_quiet (first | (go_at_call 15; refine Calls.quiet_of (htl _)) | (go_at_call 17; refine Calls.quiet_of_same (hhd' _)))
                  go_wp2_with fail
                  obtain ⟨X, hX⟩ : ∃ X, wb.drewN nq = X := ⟨_, rfl⟩
                  have hbX : Below wb.heap.size wb X := hX ▸ hmono nq
                  have d2 : X.cell? ⟨wr.heap.size, 2, none⟩ = some (.int .i64 (c : Int)) := by rw [← hX]; exact y2
                  rw [hX]
                  clear hX
                  have hhX := head_yes (HRb.out.mono hbX.drew).rk
                  have htX := trim_yes (HRb.out.mono hbX.drew) c hle (by omega)
                  rw [Hdc.out] at htX
                  go_region_held3 (fun w' => w'.cell? ⟨wr.heap.size, 2, none⟩ = some (.int .i64 (c : Int)))
                    (first | exact d2 | exact hk4.cell d2 hnO)
                    (first
                    | (go_at_call 17; refine hhX.mono ?_; rintro e y1 ⟨rfl, rfl⟩)
                    | (go_at_call 18; refine htX.mono ?_; rintro e w4 ⟨rfl, p4, F4, Fr4, hRD4, hk4, hF4⟩))
                  have HT := hide (lap_turn (k := k + 1) (hBb.trans (hbX.drew.mono hBb.size)) hO ⟨p4, F4, Fr4, hRD4, hk4, hF4⟩ (Hall.out.low (by have := Hdc.out; omega)) (by have := Hdc.out; omega) (by omega) (by omega))
                  rename_i hHeld
                  clear hHeld hRD4 hk4 hF4 htX hhX
                  go_wp2_with fail
                  go_roundw
                  case rel => exact ⟨k + 1, by omega, by go_num, HT⟩
                  case measure => simp [intOf]; omega
                · have hle' : decide (c ≤ rs.length) = false := by simp; omega
                  generalize hdt : hd + rs.length = tl at *
                  have Hdt := hide hdt
                  clear hdt
                  go_wp2_with fail
                  go_quiet (first | (go_at_call 15; refine Calls.quiet_of (htl _)) | (go_at_call 17; refine Calls.quiet_of_same (hhd' _)))
                  have HT := hide (lap_turn (k := k + 1) hBb hO (HRb.out.still (hmono nq)) Hall.out (by omega) (by omega) (by omega))
                  go_wp2_with fail
                  go_roundw
                  case rel => exact ⟨k + 1, by omega, by go_num, HT⟩
                  case measure => simp [intOf]; omega
              · have hn0' : decide (0 ≤ x.n) = false := by simp; omega
                go_wp2_with fail
                go_quiet (fail)
                have HT := hide (lap_turn (k := k + 1) hBb hO (HRb.out.still (below_drewN (Below.refl _ _) nq)) Hall.out (by omega) (by omega) (by omega))
                go_wp2_with fail
                go_roundw
                case rel => exact ⟨k + 1, by omega, by go_num, HT⟩
                case measure => simp [intOf]; omega
            · by_cases h4 : x.d = 4
              · rw [h4] at x0 y0 hwb
                clear h0 h1 h2 h4
                have hn0 := Hx.out.n0
                have hn1 := Hx.out.n1
                have htm : x.n.tmod 50 < 50 := Int.tmod_lt_of_pos _ (by omega)
                have har := arm0_yes HRb.out.dk (x.n.tmod 50) _ x.picks Hx.out.bs (fun hp b hb => by have := Hx.out.bF hp b hb; have := hO g (.inl (.inl rfl)); omega) Hx.out.pl (by omega)
                have HA := hide (armS_all Hall.out (x.n.tmod 50) x.picks)
                have hG := armS_grows s (x.n.tmod 50) x.picks
                generalize armS s (x.n.tmod 50) x.picks = X at *
                go_wp2_with fail
                refine har.mono ?_
                rintro e w4 ⟨rfl, ht⟩
                have HT := hide (lap_turn (k := k + 1) hBb hO (HRb.out.turn ht) HA.out (by omega) (by omega) (by omega))
                clear ht har
                go_wp2_with fail
                go_roundw
                case rel => exact ⟨k + 1, by omega, by go_num, HT⟩
                case measure => simp [intOf]; omega
              · obtain ⟨c1, c2, c3⟩ := crashS_off s x.picks
                have hcr := crash_yes HRb.out.dk _ x.picks Hx.out.bs (fun hp b hb => by have := Hx.out.bF hp b hb; have := hO m (.inl (.inr (.inl rfl))); omega) (by omega) Hx.out.pl
                have HA := hide (crashS_all Hall.out HRb.out.dk.ok x.picks)
                obtain ⟨r1, r2, r3, r4⟩ := restartS_off c1
                have HA5 := hide (restartS_all HA.out)
                generalize crashS s x.picks = C at *
                go_wp2_with fail
                refine hcr.mono ?_
                rintro e w4 ⟨rfl, ht4⟩
                obtain ⟨p4, F4, Fr4, hRD4, hk4, hF4⟩ := HRb.out.turn ht4
                obtain ⟨hO4, hB4⟩ := own_turn hBb hO hk4 hF4
                have hre := restart_yes hRD4.dk
                rw [r1] at hre
                clear ht4 hcr hk4 hF4 HRb Hall HA
                have HRD4 := hide hRD4
                clear hRD4
                generalize restartS C.1 = R at *
                have hRp : R.1.pend.length ≤ 2000 * k := by rw [r3]; omega
                have hRo : R.1.ops ≤ 2000 * k := by rw [r4]; omega
                have Hon := hide r2
                clear r1 r2 r3 r4 c1
                go_wp2_with fail
                refine hre.mono ?_
                rintro e w5 ⟨rfl, ht5⟩
                obtain ⟨p5, F5, Fr5, hRD5, hk5, hF5⟩ := HRD4.out.turn ht5
                obtain ⟨hO5, hB5⟩ := own_turn hB4 hO4 hk5 hF5
                have hhd5 := head_yes hRD5.rk
                have hop5 := open_on hRD5.dk Hon.out (by omega) 1 nb hd (by omega) (by omega) (by omega) (by omega)
                have HD5 := hide hRD5.dk
                clear ht5 hre hk5 hF5 HRD4 hRD5
                go_wp2_with fail
                refine hhd5.mono ?_
                rintro e w' ⟨rfl, rfl⟩
                go_wp2_with fail
                refine hop5.mono ?_
                rintro e w6 ⟨rs6, r6, vt6, Fr6, rfl, hsc6, hR6, hr6, hFr6, hRs6, hb6⟩
                obtain ⟨ao6, cap6, rfl, -⟩ := hRs6.slice
                have HD6 := hide (HD5.out.mono hb6)
                have hln6 := hR6.ln
                have htl6 := tail_yes hR6
                have hB6 : Below w.heap.size w w6 := hB5.trans (hb6.mono hB5.size)
                clear hsc6 hRs6 hop5 hhd5 hR6 HD5
                obtain ⟨t6, ht6⟩ : ∃ t6, hd + rs6.length = t6 := ⟨_, rfl⟩
                rw [ht6] at htl6
                obtain ⟨H, hH⟩ : ∃ H, t6 + 4 * nb = H := ⟨_, rfl⟩
                have hlap6 : ∀ W, Calls Try.prog 16 #[.int .i64 (t6 : Int), .int .i64 (nb : Int)] W fun e w' => e = .returned (.int .i64 (H : Int)) ∧ W = w' := fun W => by
                  have := lap_any (t6 : Int) (nb : Int) W
                  rw [show lapS (t6 : Int) (nb : Int) = (H : Int) by unfold lapS; rw [if_pos (by omega)]; omega] at this
                  exact this
                have HH := hide (And.intro ht6 hH)
                have hHb : hd + 4 * nb ≤ H ∧ H ≤ 100 * (k + 1 + 1) := by omega
                clear ht6 hH
                go_wp2_with fail
                refine htl6.mono ?_
                rintro e w7 ⟨rfl, n7, hw7⟩
                have hb7 : Below w6.heap.size w6 w7 := hw7 ▸ below_drewN (Below.refl _ _) n7
                have HD7 := hide (HD6.out.mono hb7)
                have hB7 : Below w.heap.size w w7 := hB6.trans (hb7.mono hB6.size)
                clear hw7 htl6 HD6
                have hop7 := open_on HD7.out Hon.out (by omega) 1 nb H (by omega) (by omega) (by omega) (by omega)
                go_wp2_with fail
                refine (hlap6 _).mono ?_
                rintro e w' ⟨rfl, rfl⟩
                go_wp2_with fail
                refine hop7.mono ?_
                rintro e w8 ⟨rs8, r8, vt8, Fr8, rfl, hsc8, hR8, hr8, hFr8, hRs8, hb8⟩
                obtain rfl := scanned_low HA5.out hHb.1 (by omega) (by omega) hsc8
                obtain ⟨ao8, cap8, rfl, -⟩ := hRs8.slice
                have hrm8 := room_yes hR8
                have hB8 : Below w.heap.size w w8 := hB7.trans (hb8.mono hB7.size)
                have HRD8 := hide (RD.opened HD7.out hb8 hR8 hr8 hFr8 (by omega))
                have hz7 := hB7.size
                have hO8 : ∀ b, OwnR r8 g m F5 Fr8 b → w.heap.size ≤ b := fun b hb => by
                  rcases hb with h | h | h
                  · exact hO5 b (.inl h)
                  · omega
                  · have := hFr8 b h; omega
                clear hsc8 hRs8 hop7 hlap6 hR8 HD7
                rw [show ((4 * nb - ([] : List Rc).length : Nat) : Int) = 4 * (nb : Int) by simp] at hrm8
                go_wp2_with fail
                refine hrm8.mono ?_
                rintro e w9 ⟨rfl, n9, hw9⟩
                have hb9 : Below w8.heap.size w8 w9 := hw9 ▸ below_drewN (Below.refl _ _) n9
                clear hw9 hrm8
                have HT := hide (lap_turn (k := k + 1) hB8 hO8 (HRD8.out.still hb9) (HA5.out.low (by omega)) (by omega) (by omega) (by omega))
                go_wp2_with fail
                go_roundw
                case rel => exact ⟨k + 1, by omega, by go_num, HT⟩
                case measure => simp [intOf]; omega
      · obtain rfl : k = q := by omega
        obtain ⟨rr, p, F, Fr, hd, s, rs, rfl, hRD, hall, hhd, hpe, hop, hO, hB⟩ := HP.out
        clear HP hRD hall
        go_wp2_with fail
        go_ret
        exact ⟨by simp, hB⟩
set_option maxRecDepth 100000 in
theorem ringLap_lifted (os : Os) (started : os.Started) (H : Type) (enc : TypeId × Value → H) :
    ReturnsInHanded {} Try.checked os 4 .any (Rows.ringLapSpec.pre6 enc Try.prog Try.f4 Rows.ringLapRow.domain false) (Rows.ringLapSpec.post enc Try.prog Try.f4 false true false false) := by
  refine law_frame (C := Try.checked) rfl Try.own started (by kernel_rfl) Try.func4
    (ChangeSpec.witness6 (enc := enc) (C := Try.checked) false ⟨#[], #[.int .u8 0, .slice none 0 0], []⟩ 8 (by kernel_rfl) (by kernel_rfl) (by kernel_rfl) (by kernel_rfl))
    Try.laidOut ?_ 4 rfl Try.underlying4 ?_ ?_
  · rw [Try.params4]
    intro t ht
    simp at ht
    rcases ht with rfl | rfl <;> exact ⟨by kernel_rfl, of_decide_eq_true (by kernel_rfl)⟩
  · intro ds hn
    rw [Try.params4] at hn
    match ds, hn with
    | [d1, d2], _ => rfl
  · intro W base args ds p hval0 hA hsz
    have hval : ∀ (j : Nat) t v, Try.f4.params[j]? = some t → args[j]? = some v → Value.okWide Try.prog W .any base t v := hval0
    rw [Try.params4] at hA hsz hval
    obtain ⟨v0, vs0, d0, ds0, p0, q0, hargs, rfl, rfl, h0, r0⟩ := trodAll_cons hA
    obtain ⟨v1, vs1, d1, ds1, p1, q1, rfl, rfl, rfl, h1, r1⟩ := trodAll_cons r0
    obtain ⟨rfl, rfl, rfl⟩ := trodAll_nil r1
    obtain rfl : args = #[v0, v1] := by cases args; simp_all
    obtain ⟨a0, rfl, rfl, rfl, w0⟩ := open_int Try.underlying5 (hval 0 5 v0 rfl rfl) h0
    have hb0 := bounds_u8 w0
    obtain ⟨n0, rfl⟩ := Int.eq_ofNat_of_zero_le hb0.1
    obtain ⟨l1, hop1, hol1⟩ := Ops.came (hval 1 38 v1 rfl rfl) h1 hsz (j := 1) rfl rfl
    exact lap_walk n0 (by omega) v1 l1 W hop1 hol1

theorem ringLap_holds : Rows.RingLapSaid :=
  OpenClaim.holds_of_wide 4 Try.f4 rfl rfl rfl rfl rfl rfl rfl ⟨rfl, rfl, rfl, rfl, rfl⟩ rfl rfl rfl rfl rfl (by kernel_rfl) Try.func4 (by kernel_rfl)
    (of_decide_eq_true (by kernel_rfl)) (by unfold Func.isWrapper; first | (rw [if_pos (by decide +kernel)]; kernel_rfl) | (rw [if_neg (by decide +kernel)]; exact ⟨rfl, rfl⟩))
    (fun os started H enc _ => ringLap_lifted os started H enc)
#print axioms ringLap_holds

end Go.Proofs.Ytjhbljkoapbkfaa
