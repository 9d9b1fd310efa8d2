/- Contracts: settle, powerOff, Crash, operate, Arm, Restart. -/
import Derived.Test.YtjcmmigbkhiplaaD3
set_option linter.unusedSimpArgs false
set_option linter.unusedVariables false
namespace Go.Proofs.Ytjcmmigbkhiplaa
open Go.RowKit Go.Attic

theorem min_if (a b : Nat) : (if b < a then b else a) = min a b := by
  rw [Nat.min_def]; split <;> split <;> omega

set_option maxRecDepth 100000 in
set_option maxHeartbeats 1000000 in
theorem settle_yes {w : World} {g m : Nat} {p : Option Nat} {F : Nat → Prop} {n : Nat} {s : St} (h : Dk w g m p F n s) (vp : Value) (picks : List Nat) (hv : Bs w vp picks) (hvm : 0 < picks.length → ∀ b, vp.ownBlock = some b → b ≠ m) (hpl : s.pend.length ≤ 1000000) (hpk : picks.length ≤ 140737488355328) :
    Calls Try.prog 65 #[.pointer (some ⟨g, 0, none⟩), vp] w fun e w' => e = .returned (.tuple #[]) ∧ Dk w' g m none F n { s with med := settleL s.med s.pend picks, pend := [] } ∧ Keeps (fun k => k = g ∨ k = m) w w' := by
  obtain ⟨pv, vs, c1, hW⟩ := h.c1
  obtain ⟨pao, pcap, rfl, hpc, hpg⟩ := owns_form hW.row
  have hv' := hv
  have hvx := hv.lt
  obtain ⟨ao, vcap, rfl, hvc, hvn, _, hcell⟩ := hv
  have Hcell := hide hcell
  have H := hide h
  have HW := hide hW
  have Hpg := hide hpg
  have hgl := h.gl
  have f1 := h.f1
  obtain ⟨q, hq⟩ : ∃ q, min s.pend.length picks.length = q := ⟨_, rfl⟩
  have hq1 : q ≤ s.pend.length := by omega
  have hq2 : q ≤ picks.length := by omega
  have Hq := hide hq
  clear hcell h hW hpg hq hvn
  go_enter Try.func65, Try.ntmps65
  go_wp2_with fail
  go_quiet (fail)
  go_wp2_with fail
  case' inl => rw [show picks.length = q by have := Hq.out; omega]
  case' inr => rw [show s.pend.length = q by have := Hq.out; omega]
  all_goals
    go_loopw [20] (fun i wr => ∃ k : Nat, k ≤ q ∧ i = .int .i64 k ∧ Dk wr g m p F n { s with med := settleL s.med (s.pend.take k) (picks.take k) } ∧ Keeps (fun k => k = m) w wr) (fun i _ => q - (intOf i).toNat)
    case atStart => exact ⟨0, by omega, rfl, by simpa [settleL] using H.out.mono (below_drewN (Below.refl _ _) _), Keeps.drewN _ _⟩
    case round =>
      obtain ⟨k, hk, rfl, hD, k1⟩ := hrel
      have c1' := k1.cell c1 H.out.ne
      have f1' : wr.frozen? ⟨g, 1, none⟩ = false := by rw [k1.frozen (a := ⟨g, 1, none⟩) hgl H.out.ne]; exact f1
      by_cases hkq : k < q
      · have hks : k < s.pend.length := by omega
        have hkp : k < picks.length := by omega
        obtain ⟨pv, vs', c1r, hWr⟩ := hD.c1
        rw [c1'] at c1r
        obtain rfl := Option.some.inj c1r
        obtain ⟨pb, pcap', e1, hpb, cb, cv⟩ := hWr.cells k hks
        injection e1 with e1 _ e3
        subst e1
        subst e3
        obtain ⟨hbk, hbF⟩ := hWr.bs k hks (by have := hWr.len; omega)
        generalize (vs'[k]'(by have := hWr.len; omega)) = vk at *
        have hokk := hD.ok.pend (s.pend[k]) (List.getElem_mem hks)
        obtain ⟨kb, koff, rfl, hkc⟩ := Hcell.out (by omega)
        have hpk1 := k1.cell (hkc k hkp) (fun e => hvm (by omega) kb rfl e)
        have hpx := getD_lt hvx k
        have hst := settleL_take s.med s.pend picks k hks hkp
        obtain ⟨med1, hmed1⟩ : ∃ x, settleL s.med (s.pend.take k) (picks.take k) = x := ⟨_, rfl⟩
        rw [hmed1] at hD hst
        generalize picks.getD k 0 = pk at *
        generalize s.pend[k] = wk at *
        obtain ⟨blk, byt⟩ := wk
        obtain ⟨hok1, hok2, hok3⟩ := hokk
        dsimp only at hok1 hok2 hok3 hbk hst cb
        have hbk' := hbk
        obtain ⟨vao, vcap2, rfl, hbk2, _⟩ := hbk'
        rw [hok2] at hbk hbF cv
        have HD := hide hD
        have Hst := hide hst
        have Hbk := hide hbk
        have Hok2 := hide hok2
        clear hD hst hmed1 hbk hWr hkc c1r hok2
        obtain ⟨wb, hwb⟩ : ∃ wb, wr.alloc (.cells #[.int .i64 (blk : Int), .slice vao 256 vcap2] 93) = wb := ⟨_, rfl⟩
        have kb0 : Keeps (fun k => k = m) wr wb.drew := by rw [← hwb]; exact (Keeps.alloc wr _).trans (Keeps.drew _)
        have S0 : wb.drew.cell? ⟨wr.heap.size, 0, none⟩ = some (.int .i64 (blk : Int)) ∧ wb.drew.cell? ⟨wr.heap.size, 1, none⟩ = some (.slice vao 256 vcap2) ∧ wb.drew.cell? ⟨kb, koff + k, none⟩ = some (.int .u8 (pk : Int)) := by
          refine ⟨by rw [← hwb]; simp, by rw [← hwb]; simp, ?_⟩
          rw [← hwb]
          exact (((Keeps.alloc (S := fun _ => False) wr _).trans (Keeps.drew _)).cell hpk1 id)
        have hzm : wr.heap.size ≠ m := by have := H.out.ml; have := k1.size; omega
        have hkm : kb ≠ m := fun e => hvm (by omega) kb rfl e
        have hD1 : Dk wb.drew g m p F n { s with med := med1 } := HD.out.mono (by rw [← hwb]; exact ((Below.refl _ _).alloc (Nat.le_refl _) _).drew)
        have hb1 : Bs wb.drew (.slice vao 256 vcap2) byt := kb0.bs Hbk.out (fun b hb e => by have e' : b = m := e; exact HD.out.Fm (e' ▸ (hbF b hb).1))
        have HD1 := hide hD1
        have Hb1 := hide hb1
        clear hD1 hb1
        go_wp2_with fail
        go_region_held3 (fun w' => w'.cell? ⟨wr.heap.size, 0, none⟩ = some (.int .i64 (blk : Int)) ∧ w'.cell? ⟨wr.heap.size, 1, none⟩ = some (.slice vao 256 vcap2) ∧ w'.cell? ⟨kb, koff + k, none⟩ = some (.int .u8 (pk : Int)))
          (first | exact S0 | exact ⟨k2.cell S0.1 hzm, k2.cell S0.2.1 hzm, k2.cell S0.2.2 hkm⟩)
          (first
            | (go_at_call 77; refine (reach_yes HD1.out blk _ byt pk hok1 Hb1.out Hok2.out (fun e => HD.out.Fm (hbF m e).1) hpx).mono ?_; rintro e w2 ⟨rfl, hD2, k2⟩))
        have k3 : Keeps (fun k => k = m) w w2 := (k1.trans kb0).trans k2
        clear S0 HD1 Hb1 k2 kb0 hwb
        rw [← Hst.out] at hD2
        have HD2 := hide hD2
        clear hD2
        go_wp2_with fail
        go_roundw
        case rel => exact ⟨k + 1, by omega, by go_num, HD2.out, k3⟩
        case measure => simp [intOf]; omega
      · obtain rfl : k = q := by omega
        have HD := hide hD
        clear hD
        go_wp2_with fail
        go_end0
        refine ⟨rfl, ?_, ?_⟩
        · have hD := HD.out.store1
          dsimp only at hD
          rw [← Hq.out, settleL_min] at hD
          exact hD
        · exact (k1.mono (fun _ h => .inr h)).trans (Keeps.setCell wr (.inl rfl) _)

set_option maxRecDepth 100000 in
set_option maxHeartbeats 400000 in
theorem powerOff_yes {w : World} {g m : Nat} {p : Option Nat} {F : Nat → Prop} {n : Nat} {s : St} (h : Dk w g m p F n s) (vp : Value) (picks : List Nat) (hv : Bs w vp picks) (hvm : 0 < picks.length → ∀ b, vp.ownBlock = some b → b ≠ m) (hpl : s.pend.length ≤ 1000000) (hpk : picks.length ≤ 140737488355328) :
    Calls Try.prog 58 #[.pointer (some ⟨g, 0, none⟩), vp] w fun e w' => e = .returned (.tuple #[]) ∧ Dk w' g m none F n (crashed s picks) ∧ Keeps (fun k => k = g ∨ k = m) w w' := by
  go_enter Try.func58, Try.ntmps58
  go_wp2_with fail
  refine (settle_yes h vp picks hv hvm hpl hpk).mono ?_
  rintro e w1 ⟨rfl, h1, k1⟩
  have c2 := h1.c2
  obtain ⟨v3, c3, _⟩ := h1.c3
  have c5 := h1.c5
  have f2 := h1.f2
  have f3 := h1.f3
  have f5 := h1.f5
  have HD := hide (((h1.store2 (l := 0) (by omega)).store3 (u := .slice none 0 0) (l := []) (Bs.nil _) (by simp) (by simp [Value.ownBlock])).store5 (b := false))
  clear h1
  go_wp2
  go_end0
  refine ⟨rfl, HD.out, ?_⟩
  exact ((k1.trans (Keeps.setCell w1 (.inl rfl) _)).trans (Keeps.setCell _ (.inl rfl) _)).trans (Keeps.setCell _ (.inl rfl) _)

theorem Own.gm {g m : Nat} {F : Nat → Prop} : ∀ k, (k = g ∨ k = m) → Own g m F k := fun k h => h.elim .inl (fun h => .inr (.inl h))

/-- What an operation leaves. -/
def OperP (w : World) (g m : Nat) (p : Option Nat) (F : Nat → Prop) (n : Nat) (s : St × Int) (w' : World) : Prop :=
  ∃ p', Dk w' g m p' F n s.1 ∧ Keeps (fun k => k = g ∨ k = m) w w' ∧ (s.2 = 0 → p' = p)

set_option maxRecDepth 100000 in
set_option maxHeartbeats 400000 in
theorem operate_yes {w : World} {g m : Nat} {p : Option Nat} {F : Nat → Prop} {n : Nat} {s : St} (h : Dk w g m p F n s) (hpl : s.pend.length ≤ 1000000) (ho : s.ops ≤ 1000000) :
    Calls Try.prog 44 #[.pointer (some ⟨g, 0, none⟩)] w fun e w' => e = .returned (.int .i64 (operS s).2) ∧ OperP w g m p F n (operS s) w' := by
  have c2 := h.c2
  have c4 := h.c4
  have f2 := h.f2
  have f4 := h.f4
  have hleft := h.ok.left
  have h4 := h.store4 (l := s.ops + 1)
  have e4 : ((s.ops + 1 : Nat) : Int) = (s.ops : Int) + 1 := by omega
  rw [e4] at h4
  have k4 : Keeps (fun k => k = g ∨ k = m) w (w.setCell ⟨g, 4, none⟩ (.int .i64 ((s.ops : Int) + 1))) := Keeps.setCell w (.inl rfl) _
  have H4 := hide h4
  have K4 := hide k4
  clear h4 e4 k4
  by_cases h0 : s.left = 0
  · have e : operS s = ({ s with ops := s.ops + 1 }, 0) := by simp [operS, h0]
    rw [e]; clear e
    rw [h0] at c2
    go_enter Try.func44, Try.ntmps44
    go_wp2
    go_ret
    exact ⟨rfl, p, H4.out, K4.out, fun _ => rfl⟩
  · by_cases h1 : s.left = 1
    · have e : operS s = (crashed { s with ops := s.ops + 1 } s.picks, 5) := by simp [operS, h1]
      rw [e]; clear e
      rw [h1] at c2
      obtain ⟨v3, c3, b3, d3⟩ := h.c3
      have h2 : Dk ((w.setCell ⟨g, 4, none⟩ (.int .i64 ((s.ops : Int) + 1))).setCell ⟨g, 2, none⟩ (.int .i64 0)) g m p F n { s with ops := s.ops + 1, left := 0 } := H4.out.store2 (l := 0) (by omega)
      have k2 : Keeps (fun k => k = g ∨ k = m) w ((w.setCell ⟨g, 4, none⟩ (.int .i64 ((s.ops : Int) + 1))).setCell ⟨g, 2, none⟩ (.int .i64 0)) := K4.out.trans (Keeps.setCell _ (.inl rfl) _)
      have b3' := k2.bs b3 (fun b hb e => by rcases e with e | e; exact h.Fg (e ▸ (d3 b hb).1); exact h.Fm (e ▸ (d3 b hb).1))
      have Hp := hide (powerOff_yes h2 v3 s.picks b3' (fun _ b hb e => h2.Fm (e ▸ (d3 b hb).1)) (by simpa using hpl) h2.ok.picks)
      have K2 := hide k2
      clear b3' k2 d3 h2
      obtain ⟨ao3, cap3, rfl, _⟩ := b3
      go_enter Try.func44, Try.ntmps44
      go_wp2_with fail
      refine (Hp.out).mono ?_
      rintro e w1 ⟨rfl, h5, k5⟩
      go_wp2
      go_ret
      exact ⟨rfl, none, h5, K2.out.trans k5, fun h => by simp at h⟩
    · have e : operS s = ({ s with ops := s.ops + 1, left := s.left - 1 }, 0) := by simp [operS, h0, h1]
      rw [e]; clear e
      have h2 := H4.out.store2 (l := s.left - 1) (by omega)
      have e5 : ((s.left - 1 : Nat) : Int) = (s.left : Int) - 1 := by omega
      rw [e5] at h2
      have H2 := hide h2
      clear h2 e5
      have h2 : 2 ≤ s.left := by omega
      clear h0 h1
      have h3 : ((s.left : Int) == 0) = false := by simp; omega
      go_enter Try.func44, Try.ntmps44
      go_wp2
      go_ret
      exact ⟨rfl, p, H2.out, K4.out.trans (Keeps.setCell _ (.inl rfl) _), fun _ => rfl⟩

set_option maxRecDepth 100000 in
set_option maxHeartbeats 400000 in
theorem restart_yes {w : World} {g m : Nat} {p : Option Nat} {F : Nat → Prop} {n : Nat} {s : St} (h : Dk w g m p F n s) :
    Calls Try.prog 24 #[.pointer (some ⟨g, 0, none⟩)] w fun e w' => e = .returned (.int .i64 (restartS s).2) ∧ Turn w g m F n (restartS s).1 w' := by
  have c5 := h.c5
  have f5 := h.f5
  cases hon : s.on with
  | true =>
    have e : restartS s = (s, 7) := by simp [restartS, hon]
    rw [e]; clear e
    rw [hon] at c5
    go_enter Try.func24, Try.ntmps24
    go_wp2_with fail
    refine (isMade_yes h).mono ?_
    rintro e w' ⟨rfl, rfl⟩
    go_wp2
    go_ret
    exact ⟨rfl, p, F, h, Keeps.refl _ _, fun _ h => .inl h⟩
  | false =>
    have e : restartS s = ({ s with on := true }, 0) := by simp [restartS, hon]
    rw [e]; clear e
    rw [hon] at c5
    have H5 := hide (h.store5 (b := true))
    go_enter Try.func24, Try.ntmps24
    go_wp2_with fail
    refine (isMade_yes h).mono ?_
    rintro e w' ⟨rfl, rfl⟩
    go_wp2
    go_ret
    exact ⟨rfl, p, F, H5.out, Keeps.setCell _ (.inl rfl) _, fun _ h => .inl h⟩


end Go.Proofs.Ytjcmmigbkhiplaa
