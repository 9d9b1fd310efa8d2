/- Contract: same, of a disk and the document's own, in the same state, where nothing is pending. -/
import Derived.Test.YtjcobealnjkkcaaR3
import Derived.Test.YtjcobealnjkkcaaSectors
set_option linter.unusedSimpArgs false
set_option linter.unusedVariables false
namespace Go.Proofs.Ytjcobealnjkkcaa
open Go.RowKit Go.Attic

set_option maxRecDepth 100000 in
set_option maxHeartbeats 4000000 in
theorem same0_yes {w : World} {g m gr n : Nat} {p q pr : Option Nat} {F Fr : Nat → Prop} {s : St} (hD : Dk w g m p F n s) (hR : Dr w gr q pr Fr n s) (hpe : s.pend = []) :
    Calls Try.prog 13 #[.pointer (some ⟨g, 0, none⟩), .pointer (some ⟨gr, 0, none⟩)] w fun e w' => e = .returned (.bool true) ∧ Below w.heap.size w w' := by
  have hpl : s.pend.length ≤ 1000000 := by rw [hpe]; simp
  go_enter Try.func13, Try.ntmps13
  go_wp2_with fail
  refine (pendL_yes hD 1048576 hpl (by omega)).mono ?_
  rintro e w1 ⟨v1, xs, rfl, hxs, ho1, hn1, hb1⟩
  have z1 := hb1.size
  rw [List.take_of_length_le (by omega)] at hxs
  have hxl : xs.length = s.pend.length := by rw [← hxs]; simp
  rw [hxl] at ho1
  obtain ⟨ao1, cap1, rfl⟩ := owns_slice ho1
  have hD1 := hD.mono hb1
  have hR1 := hR.mono hb1
  obtain ⟨vb, vbs, c0, hB⟩ := hR1.c0
  obtain ⟨vp, vps, c1, hW, _⟩ := hR1.c1
  have c2 := hR1.c2
  have c3 := hR1.c3
  obtain ⟨bao, bcap, rfl⟩ := owns_slice hB.row
  obtain ⟨pao, pcap, rfl⟩ := owns_slice hW.row
  have hgr := hR1.gl
  have hon : (s.on == !s.on) = false := by cases s.on <;> rfl
  have hokk := hD.ok
  have hlt := hD.ok.lt
  obtain ⟨np, hnp⟩ : ∃ np, s.pend.length = np := ⟨_, rfl⟩
  obtain ⟨t1, ht1⟩ : ∃ t1, (s.pend.take 1).length = t1 := ⟨_, rfl⟩
  have ht1' : t1 = min 1 np := by rw [← ht1, ← hnp]; simp
  have hpt := fun (w' : World) (hb : Below w1.heap.size w1 w') => pendL_yes (hD1.mono hb) 1 hpl (by omega)
  rw [hnp] at ho1 c1 hxl hpl ⊢
  have Hxs := hide hxs
  have Hxl := hide hxl
  have Hnp := hide hnp
  have Ho1 := hide ho1
  have HW := hide hW
  have Hn1 := hide hn1
  have Hok := hide hokk
  have Sd : w1.drew.cell? ⟨gr, 0, none⟩ = some (.slice bao n bcap) ∧ w1.drew.cell? ⟨gr, 1, none⟩ = some (.slice pao np pcap) ∧ w1.drew.cell? ⟨gr, 2, none⟩ = some (.bool (!s.on)) ∧ w1.drew.cell? ⟨gr, 3, none⟩ = some (.int .i64 (s.ops : Int)) := ⟨c0, c1, c2, c3⟩
  have hDd := hD1.mono ((Below.refl _ w1).drew)
  have hRd := hR1.mono ((Below.refl _ w1).drew)
  have HDd := hide hDd
  have HRd := hide hRd
  have Hpt := hide hpt
  have Ht1 := hide ht1
  clear hxs hxl hnp ho1 hW hn1 hokk hDd hRd hpt ht1 hB hD1 hR1 hD hR
  have hn0 : np = 0 := by rw [← Hnp.out, hpe]; rfl
  subst hn0
  have hmin : t1 = 0 := by omega
  subst hmin
  clear ht1' hpl
  have Hpe := hide hpe
  clear hpe
  go_wp2_with fail
  go_region_held3 (fun w' => w'.cell? ⟨gr, 0, none⟩ = some (.slice bao n bcap) ∧ w'.cell? ⟨gr, 1, none⟩ = some (.slice pao 0 pcap) ∧ w'.cell? ⟨gr, 2, none⟩ = some (.bool (!s.on)) ∧ w'.cell? ⟨gr, 3, none⟩ = some (.int .i64 (s.ops : Int)))
    (first | exact Sd | exact S2 | exact S3 | exact S4)
    (first
      | (go_at_call 32; refine (len_yes HDd.out).mono ?_; rintro e wE ⟨rfl, rfl⟩)
      | (go_at_call 31; refine (on_yes HDd.out).mono ?_; rintro e wE ⟨rfl, rfl⟩)
      | (go_at_call 33; refine (ops_yes HDd.out).mono ?_; rintro e wE ⟨rfl, rfl⟩)
      | (go_at_call 25; refine (image_yes HDd.out).mono ?_; rintro e w2 ⟨v2, rfl, ho2, hb2⟩
         have k2 := Keeps.of_below (S := fun _ => False) hb2
         have S2 : w2.cell? ⟨gr, 0, none⟩ = some (.slice bao n bcap) ∧ w2.cell? ⟨gr, 1, none⟩ = some (.slice pao 0 pcap) ∧ w2.cell? ⟨gr, 2, none⟩ = some (.bool (!s.on)) ∧ w2.cell? ⟨gr, 3, none⟩ = some (.int .i64 (s.ops : Int)) := ⟨k2.cell Sd.1 id, k2.cell Sd.2.1 id, k2.cell Sd.2.2.1 id, k2.cell Sd.2.2.2 id⟩
         skip)
      | (go_at_call 40; refine (rimage_yes (HRd.out.mono hb2)).mono ?_; rintro e w3 ⟨v3, rfl, ho3, hb3⟩
         have k3 := Keeps.of_below (S := fun _ => False) hb3
         have S3 : w3.cell? ⟨gr, 0, none⟩ = some (.slice bao n bcap) ∧ w3.cell? ⟨gr, 1, none⟩ = some (.slice pao 0 pcap) ∧ w3.cell? ⟨gr, 2, none⟩ = some (.bool (!s.on)) ∧ w3.cell? ⟨gr, 3, none⟩ = some (.int .i64 (s.ops : Int)) := ⟨k3.cell S2.1 id, k3.cell S2.2.1 id, k3.cell S2.2.2.1 id, k3.cell S2.2.2.2 id⟩
         have hs3 := Bs.of_owns ho3 hlt
         have hs2 := (Bs.of_owns ho2 hlt).mono hb3
         skip)
      | (go_at_call 23; refine (equal_any _ _ _ _ _ hs2 hs3).mono ?_; rintro e wE ⟨rfl, rfl⟩; rw [decide_eq_true rfl])
      | (go_at_call 26; refine ((Hpt.out w3 (show Below w1.heap.size w1 w3 from ⟨(hb2.trans (hb3.mono hb2.size)).os, (hb2.trans (hb3.mono hb2.size)).tape, (hb2.trans (hb3.mono hb2.size)).output, (hb2.trans (hb3.mono hb2.size)).size, (hb2.trans (hb3.mono hb2.size)).block⟩))).mono ?_; rintro e w4 ⟨v4, ys, rfl, hys, ho4, _, hb4⟩
         have hyl : ys.length = 0 := (by have := congrArg List.length hys; rw [Ht1.out] at this; simpa using this)
         rw [hyl] at ho4
         obtain ⟨ao4, cap4, rfl⟩ := owns_slice ho4
         have k4 := Keeps.of_below (S := fun _ => False) hb4
         have S4 : w4.cell? ⟨gr, 0, none⟩ = some (.slice bao n bcap) ∧ w4.cell? ⟨gr, 1, none⟩ = some (.slice pao 0 pcap) ∧ w4.cell? ⟨gr, 2, none⟩ = some (.bool (!s.on)) ∧ w4.cell? ⟨gr, 3, none⟩ = some (.int .i64 (s.ops : Int)) := ⟨k4.cell S3.1 id, k4.cell S3.2.1 id, k4.cell S3.2.2.1 id, k4.cell S3.2.2.2 id⟩
         skip))
  all_goals
    have hbf : Below w.heap.size w w4 := ((hb1.drew.trans (hb2.mono (by simp; omega))).trans (hb3.mono (by have := hb2.size; simp at this; omega))).trans (hb4.mono (by have := hb2.size; have := hb3.size; simp at *; omega))
    have c14 := S4.2.1
    clear S2 S3 S4 Sd hs2 hs3 ho2 ho3 ho4 k2 k3 k4
    go_wp2_with fail
    go_loop [71] (fun i => i = .int .i64 0) (fun _ => 0)
    case atStart => rfl
    case round =>
      subst hrel
      go_wp2_with fail
      go_ret
      exact ⟨by simp, hbf⟩

end Go.Proofs.Ytjcobealnjkkcaa
