/- Contract: same, of a disk and the document's own, in the same state, where something is pending; and then wherever. -/
import Derived.Test.YtjcobealnjkkcaaR4
set_option linter.unusedSimpArgs false
set_option linter.unusedVariables false
namespace Go.Proofs.Ytjcobealnjkkcaa
open Go.RowKit Go.Attic

set_option maxRecDepth 100000 in
set_option maxHeartbeats 4000000 in
theorem same1_yes {w : World} {g m gr n : Nat} {p q pr : Option Nat} {F Fr : Nat → Prop} {s : St} (hD : Dk w g m p F n s) (hR : Dr w gr q pr Fr n s) (hpl : s.pend.length ≤ 1000000) (hp1 : 1 ≤ s.pend.length) :
    Calls Try.prog 13 #[.pointer (some ⟨g, 0, none⟩), .pointer (some ⟨gr, 0, none⟩)] w fun e w' => e = .returned (.bool true) ∧ Below w.heap.size w w' := by
  go_enter Try.func13, Try.ntmps13
  go_wp2_with fail
  refine (pendL_yes hD 1048576 hpl (by omega)).mono ?_
  rintro e w1 ⟨v1, xs, rfl, hxs, ho1, hn1, hb1⟩
  have z1 := hb1.size
  rw [List.take_of_length_le (by omega)] at hxs
  have hxl : xs.length = s.pend.length := by rw [← hxs]; simp
  rw [hxl] at ho1
  obtain ⟨ao1, cap1, rfl⟩ := owns_slice ho1
  have hD1 := hD.mono hb1
  have hR1 := hR.mono hb1
  obtain ⟨vb, vbs, c0, hB⟩ := hR1.c0
  obtain ⟨vp, vps, c1, hW, _⟩ := hR1.c1
  have c2 := hR1.c2
  have c3 := hR1.c3
  obtain ⟨bao, bcap, rfl⟩ := owns_slice hB.row
  obtain ⟨pao, pcap, rfl⟩ := owns_slice hW.row
  have hgr := hR1.gl
  have hon : (s.on == !s.on) = false := by cases s.on <;> rfl
  have hokk := hD.ok
  have hlt := hD.ok.lt
  obtain ⟨np, hnp⟩ : ∃ np, s.pend.length = np := ⟨_, rfl⟩
  obtain ⟨t1, ht1⟩ : ∃ t1, (s.pend.take 1).length = t1 := ⟨_, rfl⟩
  have ht1' : t1 = min 1 np := by rw [← ht1, ← hnp]; simp
  have hpt := fun (w' : World) (hb : Below w1.heap.size w1 w') => pendL_yes (hD1.mono hb) 1 hpl (by omega)
  rw [hnp] at ho1 c1 hxl hpl ⊢
  have Hxs := hide hxs
  have Hxl := hide hxl
  have Hnp := hide hnp
  have Ho1 := hide ho1
  have HW := hide hW
  have Hn1 := hide hn1
  have Hok := hide hokk
  have Sd : w1.drew.cell? ⟨gr, 0, none⟩ = some (.slice bao n bcap) ∧ w1.drew.cell? ⟨gr, 1, none⟩ = some (.slice pao np pcap) ∧ w1.drew.cell? ⟨gr, 2, none⟩ = some (.bool (!s.on)) ∧ w1.drew.cell? ⟨gr, 3, none⟩ = some (.int .i64 (s.ops : Int)) := ⟨c0, c1, c2, c3⟩
  have hDd := hD1.mono ((Below.refl _ w1).drew)
  have hRd := hR1.mono ((Below.refl _ w1).drew)
  have HDd := hide hDd
  have HRd := hide hRd
  have Hpt := hide hpt
  have Ht1 := hide ht1
  clear hxs hxl hnp ho1 hW hn1 hokk hDd hRd hpt ht1 hB hD1 hR1 hD hR
  have hnp2 : 1 ≤ np := by have := Hnp.out; omega
  have hmin : t1 = 1 := by omega
  subst hmin
  have hnp1 : ¬ (np < 1) := by omega
  clear ht1' hp1
  go_wp2_with fail
  go_region_held3 (fun w' => w'.cell? ⟨gr, 0, none⟩ = some (.slice bao n bcap) ∧ w'.cell? ⟨gr, 1, none⟩ = some (.slice pao np pcap) ∧ w'.cell? ⟨gr, 2, none⟩ = some (.bool (!s.on)) ∧ w'.cell? ⟨gr, 3, none⟩ = some (.int .i64 (s.ops : Int)))
    (first | exact Sd | exact S2 | exact S3 | exact S4)
    (first
      | (go_at_call 32; refine (len_yes HDd.out).mono ?_; rintro e wE ⟨rfl, rfl⟩)
      | (go_at_call 31; refine (on_yes HDd.out).mono ?_; rintro e wE ⟨rfl, rfl⟩)
      | (go_at_call 33; refine (ops_yes HDd.out).mono ?_; rintro e wE ⟨rfl, rfl⟩)
      | (go_at_call 25; refine (image_yes HDd.out).mono ?_; rintro e w2 ⟨v2, rfl, ho2, hb2⟩
         have k2 := Keeps.of_below (S := fun _ => False) hb2
         have S2 : w2.cell? ⟨gr, 0, none⟩ = some (.slice bao n bcap) ∧ w2.cell? ⟨gr, 1, none⟩ = some (.slice pao np pcap) ∧ w2.cell? ⟨gr, 2, none⟩ = some (.bool (!s.on)) ∧ w2.cell? ⟨gr, 3, none⟩ = some (.int .i64 (s.ops : Int)) := ⟨k2.cell Sd.1 id, k2.cell Sd.2.1 id, k2.cell Sd.2.2.1 id, k2.cell Sd.2.2.2 id⟩
         skip)
      | (go_at_call 40; refine (rimage_yes (HRd.out.mono hb2)).mono ?_; rintro e w3 ⟨v3, rfl, ho3, hb3⟩
         have k3 := Keeps.of_below (S := fun _ => False) hb3
         have S3 : w3.cell? ⟨gr, 0, none⟩ = some (.slice bao n bcap) ∧ w3.cell? ⟨gr, 1, none⟩ = some (.slice pao np pcap) ∧ w3.cell? ⟨gr, 2, none⟩ = some (.bool (!s.on)) ∧ w3.cell? ⟨gr, 3, none⟩ = some (.int .i64 (s.ops : Int)) := ⟨k3.cell S2.1 id, k3.cell S2.2.1 id, k3.cell S2.2.2.1 id, k3.cell S2.2.2.2 id⟩
         have hs3 := Bs.of_owns ho3 hlt
         have hs2 := (Bs.of_owns ho2 hlt).mono hb3
         skip)
      | (go_at_call 23; refine (equal_any _ _ _ _ _ hs2 hs3).mono ?_; rintro e wE ⟨rfl, rfl⟩; rw [decide_eq_true rfl])
      | (go_at_call 26; refine ((Hpt.out w3 (show Below w1.heap.size w1 w3 from ⟨(hb2.trans (hb3.mono hb2.size)).os, (hb2.trans (hb3.mono hb2.size)).tape, (hb2.trans (hb3.mono hb2.size)).output, (hb2.trans (hb3.mono hb2.size)).size, (hb2.trans (hb3.mono hb2.size)).block⟩))).mono ?_; rintro e w4 ⟨v4, ys, rfl, hys, ho4, _, hb4⟩
         have hyl : ys.length = 1 := (by have := congrArg List.length hys; rw [Ht1.out] at this; simpa using this)
         rw [hyl] at ho4
         obtain ⟨ao4, cap4, rfl⟩ := owns_slice ho4
         have k4 := Keeps.of_below (S := fun _ => False) hb4
         have S4 : w4.cell? ⟨gr, 0, none⟩ = some (.slice bao n bcap) ∧ w4.cell? ⟨gr, 1, none⟩ = some (.slice pao np pcap) ∧ w4.cell? ⟨gr, 2, none⟩ = some (.bool (!s.on)) ∧ w4.cell? ⟨gr, 3, none⟩ = some (.int .i64 (s.ops : Int)) := ⟨k4.cell S3.1 id, k4.cell S3.2.1 id, k4.cell S3.2.2.1 id, k4.cell S3.2.2.2 id⟩
         skip))
  all_goals
    have hbf : Below w1.heap.size w1 w4 := ((Below.refl _ w1).drew.trans hb2).trans ((hb3.mono (by have e0 : w1.drew.heap.size = w1.heap.size := rfl; have := hb2.size; omega)).trans (hb4.mono (by have e0 : w1.drew.heap.size = w1.heap.size := rfl; have := hb2.size; have := hb3.size; omega)))
    have c14 := S4.2.1
    clear S2 S3 S4 Sd hs2 hs3 ho2 ho3 ho4 k2 k3 k4
    go_wp2_with fail
    go_loopw [71] (fun i wr => ∃ k : Nat, k ≤ np ∧ i = .int .i64 k ∧ Below w1.heap.size w1 wr) (fun i _ => np - (intOf i).toNat)
    case atStart => exact ⟨0, by omega, rfl, hbf⟩
    case round =>
      obtain ⟨k, hk, rfl, hbr⟩ := hrel
      have zr := hbr.size
      by_cases hkn : k < np
      · have hks : k < s.pend.length := by have := Hnp.out; omega
        have hkx : k < xs.length := by have := Hxl.out; omega
        have hkv : k < vps.length := by have := HW.out.len; omega
        obtain ⟨pb, pcap', e1, _, cb, cv⟩ := HW.out.cells k hks
        have e1' := e1
        injection e1' with e1a _ e3
        subst e1a e3
        obtain ⟨hbk, _⟩ := HW.out.bs k hks hkv
        obtain ⟨d1, d2⟩ := cellsP_at xs k hkx
        obtain ⟨ao', cap', e2, _, hg⟩ := owns_form Ho1.out
        obtain ⟨xb, rfl, _⟩ := hg (by omega)
        injection e2 with e2 _ e3
        subst e2 e3
        have qk := Keeps.of_below (S := fun _ => False) hbr
        have x1 := qk.cell (Ho1.out.cells (g := xb) rfl _ _ d1) id
        have x2 := qk.cell (Ho1.out.cells (g := xb) rfl _ _ d2) id
        rw [Addr.add_lit, Nat.zero_add] at x1 x2
        have cb' := qk.cell cb id
        have cv' := qk.cell cv id
        have hbk' := hbk.mono hbr
        have hbx := (Bs.of_owns (Hn1.out _ (List.getElem_mem hkx)).1 (Hn1.out _ (List.getElem_mem hkx)).2).mono hbr
        have ex : pOf xs[k] = s.pend[k] := by
          have : (xs.map pOf)[k]'(by simpa using hkx) = s.pend[k] := by simp only [Hxs.out]
          simpa using this
        have ex1 : (xs[k]).1 = (s.pend[k]).1 := congrArg Prod.fst ex
        have ex2 : (xs[k]).2.1 = (s.pend[k]).2 := congrArg Prod.snd ex
        rw [ex1] at x1
        rw [ex2] at hbx
        generalize (vps[k]'hkv) = vk at *
        generalize (xs[k]).2.2 = vx at *
        generalize s.pend[k] = pk at *
        obtain ⟨blk, byt⟩ := pk
        dsimp only at *
        obtain ⟨vao, vcap, rfl, _⟩ := id hbk'
        obtain ⟨xao, xcap, rfl, _⟩ := id hbx
        clear d1 d2 hg cb cv hbk ex ex1 ex2
        obtain ⟨wb, hwb⟩ : ∃ wb, wr.alloc (.cells #[.int .i64 (blk : Int), .slice vao byt.length vcap] 55) = wb := ⟨_, rfl⟩
        have kb0 : Below wr.heap.size wr wb := by rw [← hwb]; exact (Below.refl _ _).alloc (Nat.le_refl _) _
        have kk := Keeps.of_below (S := fun _ => False) kb0
        have y0 : wb.cell? ⟨wr.heap.size, 0, none⟩ = some (.int .i64 (blk : Int)) := by rw [← hwb]; simp
        have y1 : wb.cell? ⟨wr.heap.size, 1, none⟩ = some (.slice vao byt.length vcap) := by rw [← hwb]; simp
        have y2 := kk.cell x1 id
        have y3 := kk.cell x2 id
        have heq : ∀ n, Calls Try.prog 23 #[.slice xao byt.length xcap, .slice vao byt.length vcap] (wb.drewN n) fun e w' => e = .returned (.bool true) ∧ w' = wb.drewN n := fun n => by
          refine (equal_any _ _ _ _ (wb.drewN n) ((hbx.mono kb0).mono (below_drewN (Below.refl _ _) n)) ((hbk'.mono kb0).mono (below_drewN (Below.refl _ _) n))).mono ?_
          rintro e w' ⟨h1, h2⟩
          rw [decide_eq_true rfl] at h1
          exact ⟨h1, h2.symm⟩
        have hki : (k : Int) < (np : Int) := by omega
        have hki0 : (0 : Int) ≤ (k : Int) := by omega
        have hbw : Below w1.heap.size w1 wb := hbr.trans (kb0.mono zr)
        clear hbk' hbx x1 x2 kk qk
        go_wp2_with fail
        go_quiet (first | (go_at_call 23; refine Calls.quiet_of_same (heq _)))
        go_wp2_with fail
        go_roundw
        case rel => exact ⟨k + 1, by omega, by go_num, below_drewN hbw _⟩
        case measure => simp [intOf]; omega
      · obtain rfl : k = np := by omega
        go_wp2_with fail
        go_ret
        exact ⟨by simp, hb1.trans (hbr.mono z1)⟩

theorem same_yes {w : World} {g m gr n : Nat} {p q pr : Option Nat} {F Fr : Nat → Prop} {s : St} (hD : Dk w g m p F n s) (hR : Dr w gr q pr Fr n s) (hpl : s.pend.length ≤ 1000000) :
    Calls Try.prog 13 #[.pointer (some ⟨g, 0, none⟩), .pointer (some ⟨gr, 0, none⟩)] w fun e w' => e = .returned (.bool true) ∧ Below w.heap.size w w' := by
  by_cases h : s.pend = []
  · exact same0_yes hD hR h
  · exact same1_yes hD hR hpl (by cases hs : s.pend with | nil => exact (h hs).elim | cons => simp)

end Go.Proofs.Ytjcobealnjkkcaa
