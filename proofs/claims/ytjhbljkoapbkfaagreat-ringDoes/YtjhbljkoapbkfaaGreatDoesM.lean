/- RingDoes: whatever is appended, synced, trimmed, and whenever the power goes: each answer, each record, and each byte on the disk, are the document's. No conditions. -/
import Derived.Test.YtjhbljkoapbkfaaGreatM37
import Derived.Test.YtjhbljkoapbkfaaGreatM43
set_option linter.unusedSimpArgs false
set_option linter.unusedVariables false
namespace Go.Proofs.YtjhbljkoapbkfaaGreat
open Go.RowKit Go.Attic Go.ChangeShapes Go.WideShapes Go.Shelf

theorem Lv.still {W w w' : World} {tb g m gx n base blocks c : Nat} {head0 : Int} (h : Lv W w tb g m gx n base blocks head0 c) (hk : Below w.heap.size w w') : Lv W w' tb g m gx n base blocks head0 c := by
  obtain ⟨r, x, A, B, C, hd, s, rs, hT, a, b, d, e⟩ := h
  exact ⟨r, x, A, B, C, hd, s, rs, hT.still hk, a, b, d, e⟩
theorem Lv.bel {W w : World} {tb g m gx n base blocks c : Nat} {head0 : Int} (h : Lv W w tb g m gx n base blocks head0 c) : Below W.heap.size W w := by
  obtain ⟨r, x, A, B, C, hd, s, rs, hT, a, b, d, e⟩ := h
  exact hT.ap.bel

set_option maxRecDepth 100000 in
set_option maxHeartbeats 2000000 in
theorem does_walk (z0 z1 z2 z3 : Int) (v : Value) (l : List OpX) (w : World) (hl : Ops w (fun k => k < w.heap.size) v l) (hll : l.length ≤ 140737488355328) :
    Calls Tryz.prog 3 #[.agg #[.int .i64 z0, .int .i64 z1, .int .i64 z2, .int .i64 z3], v] w fun e w' => e = .returned (.bool true) ∧ Below w.heap.size w w' := by
  obtain ⟨ao, cap, rfl, hcap, hops⟩ := hl
  obtain ⟨q, hq⟩ : ∃ q, min l.length 60 = q := ⟨_, rfl⟩
  have Hops := hide hops
  have Hq := hide hq
  clear hops hq
  obtain ⟨T, hTe⟩ : ∃ T, w.heap.size = T := ⟨_, rfl⟩
  obtain ⟨w1, hw1⟩ : ∃ w1, w.alloc (.cells #[.int .i64 z0, .int .i64 z1, .int .i64 z2, .int .i64 z3] 23) = w1 := ⟨_, rfl⟩
  have hb1 : Below w.heap.size w w1 := by rw [← hw1]; exact (Below.refl _ _).alloc (Nat.le_refl _) _
  have c0 : w1.cell? ⟨T, 0, none⟩ = some (.int .i64 z0) := by rw [← hw1, ← hTe]; simp
  have c1 : w1.cell? ⟨T, 1, none⟩ = some (.int .i64 z1) := by rw [← hw1, ← hTe]; simp
  have c2 : w1.cell? ⟨T, 2, none⟩ = some (.int .i64 z2) := by rw [← hw1, ← hTe]; simp
  have c3 : w1.cell? ⟨T, 3, none⟩ = some (.int .i64 z3) := by rw [← hw1, ← hTe]; simp
  have hT1 : T < w1.heap.size := by rw [← hw1]; simp; omega
  have hz1 := hb1.size
  have hmade : Calls Tryz.prog 4 #[.agg #[.int .i64 z0, .int .i64 z1, .int .i64 z2, .int .i64 z3]] w1 (MadeE w1 z0 z1 z2 z3) := by
    by_cases hn : 1 ≤ z0 ∧ z0 ≤ 2048
    · obtain ⟨n, rfl⟩ := Int.eq_ofNat_of_zero_le (show 0 ≤ z0 by omega)
      exact made_yes w1 n z1 z2 z3 (by omega) (by omega)
    · exact made_no w1 z0 z1 z2 z3 hn
  have hP1 : ∀ V, Below w1.heap.size w1 V → V.cell? ⟨T, 2, none⟩ = some (.int .i64 z2) ∧ V.cell? ⟨T, 3, none⟩ = some (.int .i64 z3) := fun V hV => ⟨(hV.cell (p := ⟨T, 2, none⟩) hT1).trans c2, (hV.cell (p := ⟨T, 3, none⟩) hT1).trans c3⟩
  go_enter Tryz.func3, Tryz.ntmps3
  go_wp2_with fail
  refine hmade.mono ?_
  rintro e w2 ⟨pv, rfl, hres⟩
  rcases hres with ⟨tb, r, g, m, x, gx, n, base, blocks, hd, rs, A, B, C, rfl, rfl, rfl, rfl, hTw, hsc⟩ | ⟨rfl, hb2⟩
  · have hall0 : AllSec n (Low Max) (newS n) := low_new n _
    have hL2 : Lv w1 w2 tb g m gx n base blocks (hd : Int) 0 := by
      obtain ⟨p, F, Fr, a1, a2⟩ := hTw.a
      exact ⟨r, x, A, B, C, hd, newS n, rs, hTw, hall0, scanned_max hall0 a1.rk.hd a1.rk.b1 a1.fit hsc, Nat.zero_le _, Nat.zero_le _⟩
    have HL2 := hide hL2
    clear hTw hsc hmade hL2
    go_wp2_with fail
    refine (live_any _).mono ?_
    rintro e w3 ⟨rfl, hb3⟩
    have HI0 := hide (HL2.out.still hb3)
    have hq60 : q ≤ 60 := by have := Hq.out; omega
    have hqc : q ≤ cap := by have := Hq.out; omega
    clear HL2 c0 c1 c2 c3
    go_wp2_with fail
    case' inl => rw [show (max (60 : Int) 0) = ((q : Nat) : Int) by have := Hq.out; omega, show Value.slice ao 60 cap = Value.slice ao q cap by rw [show (60 : Nat) = q by have := Hq.out; omega]]
    case' inr => rw [show l.length = q by have := Hq.out; omega]
    all_goals
      go_loopw [34] (fun i wr => ∃ k : Nat, k ≤ q ∧ i = .int .i64 (k : Int) ∧ Hid (Lv w1 wr tb g m gx n base blocks (hd : Int) (1024 * k))) (fun i _ => q - (intOf i).toNat)
      case atStart => exact ⟨0, by omega, rfl, HI0⟩
      case round =>
        clear HI0
        obtain ⟨k, hk, rfl, HP⟩ := hrel
        have hB := HP.out.bel
        have hzB := hB.size
        by_cases hkq : k < q
        · have hkl : k < l.length := by have := Hq.out; omega
          obtain ⟨ob, oo, rfl, hoat⟩ := Hops.out (by omega)
          obtain ⟨vl, vp, hx⟩ := hoat k hkl
          have hx0 := hx.keeps (Keeps.of_below (S := fun b => w.heap.size ≤ b) ((Below.refl w.heap.size w).trans hb1)) (fun b hb h => by omega)
          have hx1 := hx0.keeps (S := fun b => w1.heap.size ≤ b) ⟨hB.os, hB.tape, hB.output, hB.size, fun b hb hn => hB.block b (by omega)⟩ (fun b hb h => by omega)
          generalize l[k] = op at *
          have x0 := hx1.c0
          have x1 := hx1.c1
          have x2 := hx1.c2
          have x3 := hx1.c3
          have hopv : OpV w1 wr op vl vp := ⟨hx1.rs.widen (fun k hk => by omega), hx1.bs, fun hp k hk => by have := hx1.bF hp k hk; omega, hx1.ll, hx1.ls, hx1.n0, hx1.n1, hx1.pl⟩
          obtain ⟨la, lc, rfl, hlc⟩ := hx1.rs.slice
          obtain ⟨pa, pc, rfl, -⟩ := id hx1.bs
          obtain ⟨wb, hwb⟩ : ∃ wb, wr.alloc (.cells #[.int .i64 op.d, .slice la op.L.length lc, .int .i64 op.n, .slice pa op.picks.length pc] 32) = wb := ⟨_, rfl⟩
          have kb : Below wr.heap.size wr wb := by rw [← hwb]; exact (Below.refl _ _).alloc (Nat.le_refl _) _
          have y0 : wb.cell? ⟨wr.heap.size, 0, none⟩ = some (.int .i64 op.d) := by rw [← hwb]; simp
          have y1 : wb.cell? ⟨wr.heap.size, 1, none⟩ = some (.slice la op.L.length lc) := by rw [← hwb]; simp
          have y2 : wb.cell? ⟨wr.heap.size, 2, none⟩ = some (.int .i64 op.n) := by rw [← hwb]; simp
          have y3 : wb.cell? ⟨wr.heap.size, 3, none⟩ = some (.slice pa op.picks.length pc) := by rw [← hwb]; simp
          have hdo := does_any (HP.out.still kb) (by omega) op _ _ (hopv.keeps (Keeps.of_below (S := fun _ => False) kb) (fun _ _ => id))
          clear hx hx0 hx1 hopv hoat HP
          go_wp2_with fail
          refine hdo.mono ?_
          rintro e w4 ⟨rfl, hor⟩
          rcases hor with hL4 | ⟨ht4, hb4⟩
          · obtain ⟨r4, x4, A4, B4, C4, hd4, s4, rs4, hT4, g1, g2, g3, g4⟩ := id hL4
            have q5 := hT4.t.t5
            have q7 := hT4.t.t7
            have hsm := same_yes hT4
            have HL4 := hide hL4
            clear hT4 hL4 hdo
            go_wp2_with fail
            refine hsm.mono ?_
            rintro e w5 ⟨rfl, hb5⟩
            have HE := hide (HL4.out.still hb5)
            clear hsm HL4
            go_wp2_with fail
            go_roundw
            case rel => exact ⟨k + 1, by omega, by go_num, by rw [show 1024 * (k + 1) = 1024 * k + 1024 by omega]; exact HE⟩
            case measure => simp [intOf]; omega
          · have q5 := ht4.t5
            have q7 := ht4.t7
            clear ht4 hdo
            go_wp2_with fail
            go_ret
            exact ⟨by simp, hb1.trans (hb4.mono hz1)⟩
        · obtain rfl : k = q := by omega
          obtain ⟨p2, p3⟩ := hP1 _ hB
          have hl1 := fun V => (lap_any (hd : Int) (blocks : Int) V).mono (fun e w' (h : _ ∧ _) => (⟨h.1, h.2.symm⟩ : e = .returned (.int .i64 (lapS (hd : Int) (blocks : Int))) ∧ w' = V))
          have hl2 := fun V => (rlap_any (hd : Int) (blocks : Int) V).mono (fun e w' (h : _ ∧ _) => (⟨h.1, h.2.symm⟩ : e = .returned (.int .i64 (lapS (hd : Int) (blocks : Int))) ∧ w' = V))
          generalize lapS (hd : Int) (blocks : Int) = LL at *
          clear HP
          go_wp2_with fail
          go_quiet (first | (go_at_call 8; refine Calls.quiet_of_same (hl1 _)) | (go_at_call 9; refine Calls.quiet_of_same (hl2 _)))
          go_wp2_with fail
          go_ret
          exact ⟨by simp, (hb1.trans (hB.mono hz1)).trans (below_drewN (Below.refl _ _) _ |>.mono (by omega))⟩
  · clear hmade
    go_wp2_with fail
    refine (live_any _).mono ?_
    rintro e w3 ⟨rfl, hb3⟩
    go_wp2_with fail
    refine (live_any _).mono ?_
    rintro e w4 ⟨rfl, hb4⟩
    go_wp2_with fail
    go_ret
    exact ⟨by simp, ((hb1.trans (hb2.mono hz1)).trans (hb3.mono (by have := hb2.size; omega))).trans (hb4.mono (by have := hb2.size; have := hb3.size; omega))⟩

set_option maxRecDepth 100000 in
theorem ringDoes_lifted (os : Os) (started : os.Started) (H : Type) (enc : TypeId × Value → H) :
    ReturnsInHanded {} Tryz.checked os 3 .any (Rows.ringDoesSpec.pre6 enc Tryz.prog Tryz.f3 Rows.ringDoesRow.domain false) (Rows.ringDoesSpec.post enc Tryz.prog Tryz.f3 false true false false) := by
  refine law_frame (C := Tryz.checked) rfl Tryz.own started (by kernel_rfl) Tryz.func3
    (ChangeSpec.witness6 (enc := enc) (C := Tryz.checked) false ⟨#[], #[.agg #[.int .i64 0, .int .i64 0, .int .i64 0, .int .i64 0], .slice none 0 0], []⟩ 8 (by kernel_rfl) (by kernel_rfl) (by kernel_rfl) (by kernel_rfl))
    Tryz.laidOut ?_ 4 rfl Tryz.underlying4 ?_ ?_
  · rw [Tryz.params3]
    intro t ht
    simp at ht
    rcases ht with rfl | rfl <;> exact ⟨by kernel_rfl, of_decide_eq_true (by kernel_rfl)⟩
  · intro ds hn
    rw [Tryz.params3] at hn
    match ds, hn with
    | [d1, d2], _ => rfl
  · intro W base args ds p hval0 hA hsz
    have hval : ∀ (j : Nat) t v, Tryz.f3.params[j]? = some t → args[j]? = some v → Value.okWide Tryz.prog W .any base t v := hval0
    rw [Tryz.params3] at hA hsz hval
    obtain ⟨v0, vs0, d0, ds0, p0, q0, hargs, rfl, rfl, h0, r0⟩ := trodAll_cons hA
    obtain ⟨v1, vs1, d1, ds1, p1, q1, rfl, rfl, rfl, h1, r1⟩ := trodAll_cons r0
    obtain ⟨rfl, rfl, rfl⟩ := trodAll_nil r1
    obtain rfl : args = #[v0, v1] := by cases args; simp_all
    obtain ⟨z0, z1, z2, z3, rfl, k0, k1, k2, k3⟩ := came4 Tryz.underlying23 (by kernel_rfl) (by kernel_rfl) (by intro f hf; simp at hf; rcases hf with rfl | rfl | rfl | rfl <;> first | exact Tryz.underlying3 | exact Tryz.underlying2) (hval 0 23 v0 rfl rfl) h0
    obtain ⟨l1, hop1, hol1⟩ := Ops.came (hval 1 24 v1 rfl rfl) h1 hsz (j := 1) rfl rfl
    exact does_walk z0 z1 z2 z3 v1 l1 W hop1 hol1

theorem ringDoes_holds : Rows.RingDoesSaid :=
  OpenClaim.holds_of_wide 3 Tryz.f3 rfl rfl rfl rfl rfl rfl rfl ⟨rfl, rfl, rfl, rfl, rfl⟩ rfl rfl rfl rfl rfl (by kernel_rfl) Tryz.func3 (by kernel_rfl)
    (of_decide_eq_true (by kernel_rfl)) (by unfold Func.isWrapper; first | (rw [if_pos (by decide +kernel)]; kernel_rfl) | (rw [if_neg (by decide +kernel)]; exact ⟨rfl, rfl⟩))
    (fun os started H enc _ => ringDoes_lifted os started H enc)
#print axioms ringDoes_holds

end Go.Proofs.YtjhbljkoapbkfaaGreat
