/- Proved: the statement of DiskDoes, for every number of blocks and every script: each answer, the medium, and what is pending, are the document's own; and a twin goes its own way. No condition. -/
import Derived.Test.YtjcobealnjkkcaaT1
import Derived.Test.YtjcobealnjkkcaaU0
import Derived.Test.YtjcobealnjkkcaaS1
import Derived.Test.YtjcobealnjkkcaaR3
set_option linter.unusedSimpArgs false
set_option linter.unusedVariables false
namespace Go.Proofs.Ytjcobealnjkkcaa
open Go.RowKit Go.Attic Go.ChangeShapes Go.WideShapes

set_option maxRecDepth 100000 in
set_option maxHeartbeats 1000000 in
theorem doesLaw_no (n : Int) (v : Value) (w : World) (h : ¬ (1 ≤ n ∧ n ≤ 2048)) :
    Calls Try.prog 3 #[.int .i64 n, v] w fun e w' => e = .returned (.bool true) ∧ Below w.heap.size w w' := by
  go_enter Try.func3, Try.ntmps3
  go_wp2_with fail
  refine (new_no n w h).mono ?_
  rintro e w' ⟨rfl, rfl⟩
  go_wp2_with fail
  refine (rnew_no n w h).mono ?_
  rintro e w' ⟨rfl, rfl⟩
  go_wp2_with fail
  refine (live_any w).mono ?_
  rintro e w3 ⟨rfl, hb3⟩
  go_wp2
  go_ret
  exact ⟨by simp, hb3⟩

set_option maxRecDepth 100000 in
set_option maxHeartbeats 4000000 in
theorem doesLaw_yes (n : Nat) (v : Value) (l : List OpX) (w : World) (h1 : 1 ≤ n) (h2 : n ≤ 2048) (h : Ops w v l) (hlen : l.length ≤ 140737488355328) :
    Calls Try.prog 3 #[.int .i64 (n : Int), v] w fun e w' => e = .returned (.bool true) ∧ Below w.heap.size w w' := by
  obtain ⟨ao, cap, rfl, hcap, hat⟩ := h
  obtain ⟨q, hq⟩ : ∃ q, min l.length 120 = q := ⟨_, rfl⟩
  have hq1 : q ≤ l.length := by omega
  have hq2 : q ≤ 120 := by omega
  have Hq := hide hq
  have Hat := hide hat
  clear hq hat
  go_enter Try.func3, Try.ntmps3
  go_wp2_with fail
  refine (new_yes n w h1 h2).mono ?_
  rintro e w1 ⟨g, m, rfl, hD1, hb1, hg1, hm1⟩
  have hd1 := hD1.ownLt
  have z1 := hb1.size
  go_wp2_with fail
  refine (rnew_yes n w1 h1 h2).mono ?_
  rintro e w2 ⟨gr, qr, Fr, rfl, hR2, hb2, hgr, hFr⟩
  have z2 := hb2.size
  go_wp2_with fail
  refine (live_any w2).mono ?_
  rintro e w3 ⟨rfl, hb3⟩
  have z3 := hb3.size
  have hB3 : Below w.heap.size w w3 := (hb1.trans (hb2.mono z1)).trans (hb3.mono (by omega))
  have hT3 : Two w3 (fun k => Own g m (fun _ => False) k ∨ OwnR gr Fr k) w w3 n (newS n) (newS n) g m gr none qr none (fun _ => False) Fr := by
    refine ⟨(hD1.mono hb2).mono hb3, hR2.mono hb3, ?_, ?_, ?_, hB3, hB3.size, Keeps.refl _ _, fun k e => .inl (.inl e), fun k e => .inl (.inr e)⟩
    · rintro k (e | e | e)
      · omega
      · omega
      · exact e.elim
    · rintro k (e | e)
      · omega
      · have := hFr k e; omega
    · intro k e e'
      have := hd1 k e
      rcases e' with e' | e'
      · omega
      · have := hFr k e'; omega
  have HT3 : Hid (Pair w n (newS n) g m gr w3) := hT3.pair
  clear hT3 hD1 hR2 hd1 hFr hb1 hb2 hb3
  go_wp2_with fail
  case' inl => rw [show (max (120 : Int) 0) = ((q : Nat) : Int) by have := Hq.out; omega, show (120 : Nat) = q by have := Hq.out; omega]
  case' inr => rw [show l.length = q by have := Hq.out; omega]
  all_goals
    go_loopw [44, 5] (fun i dv wr => ∃ k : Nat, k ≤ q ∧ i = .int .i64 k ∧ ∃ gd md, dv = .pointer (some ⟨gd, 0, none⟩) ∧ Hid (Pair w n (doK l n k) gd md gr wr)) (fun i _ _ => q - (intOf i).toNat)
    case atStart => exact ⟨0, by omega, rfl, g, m, rfl, by rw [doK_zero]; exact HT3⟩
    case round =>
      clear HT3 hB3
      obtain ⟨k, hk, rfl, gd, md, rfl, HP⟩ := hrel
      by_cases hkq : k < q
      · have hkl : k < l.length := by omega
        obtain ⟨Z0, S00, pd, qd, prd, Fd, Frd, hT⟩ := HP.out
        obtain ⟨ob, off, rfl, hop⟩ := Hat.out (by omega)
        obtain ⟨vp, hA⟩ := hop k hkl
        have hA1 := hA.mono (w' := wr) hT.bel
        have hsu := doK_succ l n k hkl
        have hlit := doK_lite l n k (by omega)
        have hlit2 := hlit.does n l[k]
        have hvp := hA.bs
        have hpk := hA.pl
        have hxn := hA.n1
        have hfill := hA.fill
        obtain ⟨s, hs⟩ : ∃ s, doK l n k = s := ⟨_, rfl⟩
        rw [hs] at hT hsu hlit hlit2
        obtain ⟨s2, hs2⟩ : ∃ s2, doesS s n l[k] = s2 := ⟨_, rfl⟩
        have hyes := fun (wb : World) (Z : World) (S0 : Nat → Prop) (hb : Both Z S0 w n s gd md gr wb) => does_yes hb l[k] vp hvp hfill hxn hpk (by have := hlit.pend; omega) (by have := hlit.ops; omega)
        rw [hs2] at hyes hsu hlit2
        generalize l[k] = x at *
        obtain ⟨xd, xb, xf, xl, xn, xp⟩ := x
        have a0 := hA1.c0
        have a1 := hA1.c1
        have a2 := hA1.c2
        have a3 := hA1.c3
        have a4 := hA1.c4
        have a5 := hA1.c5
        dsimp only at a0 a1 a2 a3 a4 a5 hfill hvp hyes
        obtain ⟨vao, vcap, rfl, _⟩ := id hvp
        have hwl := hT.bel.size
        obtain ⟨wb, hwb⟩ : ∃ wb, wr.alloc (.cells #[.int .i64 xd, .int .i64 xb, .int .u8 (xf : Int), .int .i64 xl, .int .i64 xn, .slice vao xp.length vcap] 33) = wb := ⟨_, rfl⟩
        have kb0 : Below wr.heap.size wr wb := by rw [← hwb]; exact (Below.refl _ _).alloc (Nat.le_refl _) _
        have hzb : wr.heap.size < wb.heap.size := by rw [← hwb]; simp
        have t0 : wb.cell? ⟨wr.heap.size, 0, none⟩ = some (.int .i64 xd) := by rw [← hwb]; simp
        have t1 : wb.cell? ⟨wr.heap.size, 1, none⟩ = some (.int .i64 xb) := by rw [← hwb]; simp
        have t2 : wb.cell? ⟨wr.heap.size, 2, none⟩ = some (.int .u8 (xf : Int)) := by rw [← hwb]; simp
        have t3 : wb.cell? ⟨wr.heap.size, 3, none⟩ = some (.int .i64 xl) := by rw [← hwb]; simp
        have t4 : wb.cell? ⟨wr.heap.size, 4, none⟩ = some (.int .i64 xn) := by rw [← hwb]; simp
        have t5 : wb.cell? ⟨wr.heap.size, 5, none⟩ = some (.slice vao xp.length vcap) := by rw [← hwb]; simp
        have hnd : ¬ Own gd md Fd wr.heap.size := fun e => by have := hT.d.ownLt _ e; omega
        have hnr : ¬ OwnR gr Frd wr.heap.size := fun e => by have := hT.r.ownLt _ e; omega
        have hTb := (hT.mono kb0).re
        have hyes2 := hyes wb wb _ ⟨_, _, _, _, _, hTb⟩
        have Hsu := hide hsu
        have Hlit2 := hide hlit2
        clear hT hTb hA hA1 hop HP hyes hsu hlit hs hs2 Hat hlit2
        go_wp2_with fail
        refine hyes2.mono ?_
        rintro e w4 ⟨rfl, hB4⟩
        obtain ⟨p4, q4, pr4, F4, Fr4, hT4⟩ := hB4
        have u0 : w4.cell? ⟨wr.heap.size, 0, none⟩ = some (.int .i64 xd) := hT4.kz.cell t0 (fun e => e.elim hnd hnr)
        have hsame := same_yes hT4.d hT4.r (by have := Hlit2.out.pend; omega)
        have HT4 := hide hT4
        clear hT4 hyes2
        go_wp2_with fail
        refine hsame.mono ?_
        rintro e w5 ⟨rfl, hb5⟩
        have v0 : w5.cell? ⟨wr.heap.size, 0, none⟩ = some (.int .i64 xd) := (Keeps.of_below (S := fun _ => False) hb5).cell u0 id
        have HT5 := hide (HT4.out.mono hb5)
        clear HT4 hsame hb5 u0
        by_cases hd6 : xd = 6
        · subst hd6
          go_wp2_with fail
          refine (clone_yes HT5.out.d (by have := Hlit2.out.pend; omega)).mono ?_
          rintro e w6 ⟨g', m', p', F', rfl, hD6, hn6, hb6⟩
          obtain ⟨hT6, h36⟩ := HT5.out.cloned hD6 hn6 hb6
          have HT6 := hide hT6
          have H36 := hide h36
          clear hT6 h36 hD6 hn6 hb6 HT5 a0 a1 a2 a3 a4 a5 t0 t1 t2 t3 t4 t5 v0 hwb
          go_wp2_with fail
          refine (filled_any 99 w6 (by omega)).mono ?_
          rintro e w7 ⟨v7, rfl, ho7, hb7⟩
          have HT7 := hide (HT6.out.mono hb7)
          have H37 := hide (H36.out.mono hb7)
          have hs7 := Bs.of_owns ho7 (filledL_lt 99)
          clear HT6 H36 hb7 ho7
          go_wp2_with fail
          refine (write_yes H37.out.d 0 _ (filledL 99) hs7 (by have := filledL_length 99; omega) (by have := Hlit2.out.pend; omega) (by have := Hlit2.out.ops; omega)).mono ?_
          rintro e w8 ⟨rfl, ht8⟩
          obtain ⟨p8, F8, h38, hT8⟩ := H37.out.turn HT7.out ht8
          have Hl3 := hide (Hlit2.out.write n 0 (filledL 99))
          obtain ⟨s3, hs3⟩ : ∃ s3, (writeS s2 n 0 (filledL 99)).1 = s3 := ⟨_, rfl⟩
          rw [hs3] at h38 Hl3
          generalize (writeS s2 n 0 (filledL 99)).2 = r8 at *
          have HT8 := hide hT8
          have H38 := hide h38
          clear hT8 h38 ht8 HT7 H37 hs7 hs3
          have hb9 : Below w8.heap.size w8 (w8.alloc (.cells #[.int .u8 ((15 : Nat) : Int)] 5)) := (Below.refl _ _).alloc (Nat.le_refl _) _
          have h39 := H38.out.mono hb9
          have hT9 := HT8.out.mono hb9
          have hs9 := Bs.one w8 5 15 (by omega)
          have hgl := H38.out.d.gl
          have harm := arm_yes h39.d 1 _ [15] hs9 (fun b e => by simp [Value.ownBlock] at e; omega) (by simp) (by omega)
          have H39 := hide h39
          have HT9 := hide hT9
          clear h39 hT9
          go_wp2_with fail
          refine harm.mono ?_
          rintro e w9 ⟨rfl, ht9⟩
          obtain ⟨p9, F9, h3a, hTa⟩ := H39.out.turn HT9.out ht9
          have Hl4 := hide (Hl3.out.arm 1 [15])
          obtain ⟨s4, hs4⟩ : ∃ s4, (armS s3 1 [15]).1 = s4 := ⟨_, rfl⟩
          rw [hs4] at h3a Hl4
          generalize (armS s3 1 [15]).2 = r9 at *
          have hfl := flush_yes h3a.d (by have := Hl4.out.pend; omega) (by have := Hl4.out.ops; omega)
          have HTa := hide hTa
          have H3a := hide h3a
          clear hTa h3a ht9 HT9 H39 hs9 harm hs4 HT8 H38
          go_wp2_with fail
          refine hfl.mono ?_
          rintro e wA ⟨rfl, htA⟩
          obtain ⟨pA, FA, h3b, hTb⟩ := H3a.out.turn HTa.out htA
          generalize (flushS s4).2 = rA at *
          have HTb := hide hTb.pair
          clear hTb h3b htA HTa H3a hfl
          go_wp2_with fail
          go_roundw
          case rel => exact ⟨k + 1, by omega, by go_num, g', m', rfl, by rw [Hsu.out]; exact HTb⟩
          case measure => simp [intOf]; omega
        · have e6 : (xd == 6) = false := by simp [hd6]
          clear hd6
          go_wp2_with fail
          go_roundw
          case rel => exact ⟨k + 1, by omega, by go_num, gd, md, rfl, by rw [Hsu.out]; exact HT5.out.pair⟩
          case measure => simp [intOf]; omega
      · obtain rfl : k = q := by omega
        obtain ⟨Z0, S00, pd, qd, prd, Fd, Frd, hT⟩ := HP.out
        have hlit := doK_lite l n k (by omega)
        have hsame := same_yes hT.d hT.r (by have := hlit.pend; omega)
        have hbel := hT.bel
        clear hT HP Hat
        go_wp2_with fail
        refine hsame.mono ?_
        rintro e w5 ⟨rfl, hb5⟩
        go_wp2
        go_ret
        exact ⟨by simp, hbel.trans (hb5.mono hbel.size)⟩

theorem doesLaw_any (n : Int) (v : Value) (l : List OpX) (w : World) (h : Ops w v l) (hlen : l.length ≤ 140737488355328) :
    Calls Try.prog 3 #[.int .i64 n, v] w fun e w' => e = .returned (.bool true) ∧ Below w.heap.size w w' := by
  by_cases h1 : 1 ≤ n ∧ n ≤ 2048
  · obtain ⟨k, rfl⟩ := Int.eq_ofNat_of_zero_le (show 0 ≤ n by omega)
    exact doesLaw_yes k v l w (by omega) (by omega) h hlen
  · exact doesLaw_no n v w h1

theorem diskDoes_lifted (os : Os) (started : os.Started) (H : Type) (enc : TypeId × Value → H) :
    ReturnsInHanded {} Try.checked os 3 .any (Rows.diskDoesSpec.pre6 enc Try.prog Try.f3 Rows.diskDoesRow.domain false) (Rows.diskDoesSpec.post enc Try.prog Try.f3 false true false false) := by
  refine law_frame (C := Try.checked) rfl Try.own started (by kernel_rfl) Try.func3
    (ChangeSpec.witness6 (enc := enc) (C := Try.checked) false ⟨#[], #[.int .i64 0, .slice none 0 0], []⟩ 8 (by kernel_rfl) (by kernel_rfl) (by kernel_rfl) (by kernel_rfl))
    Try.laidOut ?_ 4 rfl Try.underlying4 ?_ ?_
  · rw [Try.params3]
    intro t ht
    simp at ht
    rcases ht with rfl | rfl <;> exact ⟨by kernel_rfl, of_decide_eq_true (by kernel_rfl)⟩
  · intro ds hn
    rw [Try.params3] at hn
    match ds, hn with
    | [d1, d2], _ => rfl
  · intro W base args ds p hval0 hA hsz
    have hval : ∀ (j : Nat) t v, Try.f3.params[j]? = some t → args[j]? = some v → Value.okWide Try.prog W .any base t v := hval0
    rw [Try.params3] at hA hsz hval
    obtain ⟨v0, vs0, d0, ds0, p0, q0, hargs, rfl, rfl, h0, r0⟩ := trodAll_cons hA
    obtain ⟨v1, vs1, d1, ds1, p1, q1, rfl, rfl, rfl, h1, r1⟩ := trodAll_cons r0
    obtain ⟨rfl, rfl, rfl⟩ := trodAll_nil r1
    obtain rfl : args = #[v0, v1] := by cases args; simp_all
    obtain ⟨a0, rfl, rfl, rfl, w0⟩ := open_int Try.underlying3 (hval 0 3 v0 rfl rfl) h0
    have hb0 := bounds_i64 w0
    obtain ⟨l1, hop1, hol1⟩ := Ops.came (hval 1 22 v1 rfl rfl) h1 hsz (j := 1) rfl rfl
    exact doesLaw_any _ _ l1 W hop1 hol1

theorem diskDoes_holds : Rows.DiskDoesSaid :=
  OpenClaim.holds_of_wide 3 Try.f3 rfl rfl rfl rfl rfl rfl rfl ⟨rfl, rfl, rfl, rfl, rfl⟩ rfl rfl rfl rfl rfl (by kernel_rfl) Try.func3 (by kernel_rfl)
    (of_decide_eq_true (by kernel_rfl)) (by unfold Func.isWrapper; first | (rw [if_pos (by decide +kernel)]; kernel_rfl) | (rw [if_neg (by decide +kernel)]; exact ⟨rfl, rfl⟩))
    (fun os started H enc _ => diskDoes_lifted os started H enc)
#print axioms diskDoes_holds
end Go.Proofs.Ytjcobealnjkkcaa
