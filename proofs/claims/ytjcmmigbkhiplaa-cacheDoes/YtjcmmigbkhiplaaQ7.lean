/- Contracts: the document's own Crash, Flush. -/
import Derived.Test.YtjcmmigbkhiplaaQ6
set_option linter.unusedSimpArgs false
set_option linter.unusedVariables false
namespace Go.Proofs.Ytjcmmigbkhiplaa
open Go.RowKit Go.Attic

theorem Dr.q {w : World} {g : Nat} {q p : Option Nat} {F : Nat → Prop} {n : Nat} {s : St} (h : Dr w g q p F n s) : ∃ qb, q = some qb := by
  obtain ⟨v, vs, _, hR⟩ := h.c0
  obtain ⟨b, _, _, e, _⟩ := hR.cell 0 h.ok.n1
  exact ⟨b, e⟩

set_option maxRecDepth 100000 in
set_option maxHeartbeats 2000000 in
theorem rcrash_yes {w : World} {g : Nat} {q p : Option Nat} {F : Nat → Prop} {n : Nat} {s : St} (h : Dr w g q p F n s) (vp : Value) (picks : List Nat) (hv : Bs w vp picks) (hvq : 0 < picks.length → ∀ b, vp.ownBlock = some b → q ≠ some b) (hpl : s.pend.length ≤ 1000000) (hpk : picks.length ≤ 140737488355328) :
    Calls Try.prog 46 #[.pointer (some ⟨g, 0, none⟩), vp] w fun e w' => e = .returned (.int .i64 (crashS s picks).2) ∧ TurnR w g F n (crashS s picks).1 w' := by
  have c2 := h.c2
  cases hon : s.on with
  | false =>
    have e : crashS s picks = (s, 5) := by simp [crashS, hon]
    rw [e]; clear e
    rw [hon] at c2
    clear hon
    go_enter Try.func46, Try.ntmps46
    go_wp2
    go_ret
    exact ⟨rfl, q, p, F, h, Keeps.refl _ _, fun _ h => .inl h⟩
  | true =>
    have e : crashS s picks = (crashed s picks, 0) := by simp [crashS, hon]
    rw [e]; clear e
    rw [hon] at c2
    clear hon
    obtain ⟨qb, rfl⟩ := h.q
    obtain ⟨pv, vs, c1, hW, hWq⟩ := h.c1
    obtain ⟨pao, pcap, rfl, hpc, hpg⟩ := owns_form hW.row
    have hvx := hv.lt
    obtain ⟨ao, vcap, rfl, hvc, hvn, _, hcell⟩ := hv
    have Hcell := hide hcell
    have H := hide h
    have HW := hide hW
    have HWq := hide hWq
    have hgl := h.gl
    have hgq : g ≠ qb := fun e => h.Fg (e ▸ (h.qF qb rfl).1)
    have hqp : p ≠ some qb := (h.qF qb rfl).2
    obtain ⟨t, ht⟩ : ∃ t, min s.pend.length picks.length = t := ⟨_, rfl⟩
    have Ht := hide ht
    have ht1 : t ≤ s.pend.length := by omega
    have ht2 : t ≤ picks.length := by omega
    clear hcell h hW hWq hvn ht hpg
    go_enter Try.func46, Try.ntmps46
    go_wp2_with fail
    go_loopw [5] (fun i wr => ∃ k : Nat, k ≤ t ∧ i = .int .i64 k ∧ ∃ F', Dr wr g (some qb) p F' n { s with med := settleL s.med (s.pend.take k) (picks.take k) } ∧ Keeps (fun k => k = qb) w wr ∧ (∀ k, F' k → F k ∨ w.heap.size ≤ k) ∧ ∀ k, F k → F' k) (fun i _ => t - (intOf i).toNat)
    case atStart => exact ⟨0, by omega, rfl, F, by simpa [settleL] using H.out, Keeps.refl _ _, fun _ h => .inl h, fun _ h => h⟩
    case round =>
      obtain ⟨k, hk, rfl, F', hD, k1, hf1, hf2⟩ := hrel
      have c1' := k1.cell c1 hgq
      by_cases hkt : k < t
      · have hks : k < s.pend.length := by omega
        have hkp : k < picks.length := by omega
        obtain ⟨pb, pcap', e1, hpb, cb, cv⟩ := HW.out.cells k hks
        injection e1 with e1 _ e3
        subst e1 e3
        have hkv : k < vs.length := by have := HW.out.len; omega
        obtain ⟨hbk, hbF⟩ := HW.out.bs k hks hkv
        have hbq := HWq.out k hkv
        have hpbq : pb ≠ qb := fun e => hqp (by rw [hpb, e])
        have cb' := k1.cell cb hpbq
        have cv' := k1.cell cv hpbq
        have hbk' := k1.bs hbk (fun b hb e => hbq b hb (by rw [show b = qb from e]))
        generalize (vs[k]'hkv) = vk at *
        have hokk := H.out.ok.pend (s.pend[k]) (List.getElem_mem hks)
        obtain ⟨kb, koff, rfl, hkc⟩ := Hcell.out (by omega)
        have hkbq : kb ≠ qb := fun e => hvq (by omega) kb rfl (by rw [e])
        have hpk1 := k1.cell (hkc k hkp) hkbq
        have hpx := getD_lt hvx k
        have hst := settleL_take s.med s.pend picks k hks hkp
        obtain ⟨med1, hmed1⟩ : ∃ x, settleL s.med (s.pend.take k) (picks.take k) = x := ⟨_, rfl⟩
        rw [hmed1] at hD hst
        generalize picks.getD k 0 = pk at *
        generalize s.pend[k] = wk at *
        obtain ⟨blk, byt⟩ := wk
        obtain ⟨hok1, hok2, hok3⟩ := hokk
        dsimp only at hok1 hok2 hok3 hbk' hst cb'
        have hbk2 := hbk'
        obtain ⟨vao, vcap2, rfl, hbk3, _⟩ := hbk2
        rw [hok2] at hbk' cv'
        have hDd := hD.mono ((Below.refl _ wr).drew)
        have HDd := hide hDd
        have Hst := hide hst
        have Hbk := hide (hbk'.drew)
        have Hok2 := hide hok2
        have hvkq : (Value.slice vao 256 vcap2).ownBlock ≠ some qb := fun e => by
          have := hbq qb (by rw [hok2]; exact e)
          exact this rfl
        have Sd : wr.drew.cell? ⟨g, 1, none⟩ = some (.slice (some ⟨pb, 0, none⟩) s.pend.length pcap) ∧ wr.drew.cell? ⟨pb, k * 2, none⟩ = some (.int .i64 (blk : Int)) ∧ wr.drew.cell? ⟨pb, k * 2 + 1, none⟩ = some (.slice vao 256 vcap2) ∧ wr.drew.cell? ⟨kb, koff + k, none⟩ = some (.int .u8 (pk : Int)) := ⟨c1', cb', cv', hpk1⟩
        have hki : (k : Int) < (s.pend.length : Int) := by omega
        have hki2 : (k : Int) < (picks.length : Int) := by omega
        clear hD hst hmed1 hbk hkc hok2 hDd hbk' hbF hbq
        go_wp2_with fail
        go_region_held3 (fun w' => w'.cell? ⟨g, 1, none⟩ = some (.slice (some ⟨pb, 0, none⟩) s.pend.length pcap) ∧ w'.cell? ⟨pb, k * 2, none⟩ = some (.int .i64 (blk : Int)) ∧ w'.cell? ⟨pb, k * 2 + 1, none⟩ = some (.slice vao 256 vcap2) ∧ w'.cell? ⟨kb, koff + k, none⟩ = some (.int .u8 (pk : Int)))
          (first | exact Sd | exact ⟨k2.cell Sd.1 hgq, k2.cell Sd.2.1 hpbq, k2.cell Sd.2.2.1 hpbq, k2.cell Sd.2.2.2 hkbq⟩)
          (first
            | (go_at_call 59; refine (rreach_yes HDd.out blk _ byt pk hok1 Hbk.out Hok2.out hvkq hpx).mono ?_; rintro e w2 ⟨rfl, F2, hD2, k2, hf3, hf4⟩))
        have k3 : Keeps (fun k => k = qb) w w2 := (k1.trans (Keeps.drew wr)).trans k2
        rw [← Hst.out] at hD2
        have HD2 := hide hD2
        have z1 := k1.size
        have hF2 : ∀ k, F2 k → F k ∨ w.heap.size ≤ k := fun j hj => by
          rcases hf3 j hj with e | e
          · exact hf1 j e
          · exact .inr (by have e' : wr.heap.size ≤ j := e; omega)
        clear Sd hD2 k2
        go_wp2_with fail
        go_roundw
        case rel => exact ⟨k + 1, by omega, by go_num, F2, HD2.out, k3, hF2, fun j hj => hf4 j (hf2 j hj)⟩
        case measure => simp [intOf]; omega
      · obtain rfl : k = t := by omega
        have hset : settleL s.med (s.pend.take k) (picks.take k) = settleL s.med s.pend picks := by rw [← Ht.out, settleL_min]
        rw [hset] at hD
        obtain ⟨pk4, h4, _⟩ := ((hD.store1).store2 (b := false)).store4 (l := 0) (by omega)
        have h5 := h4.store5 (u := .slice none 0 0) (l := []) (Bs.nil _) (by simp) (by simp [Value.ownBlock])
        have hf := h5
        have kf : Keeps (OwnR g F) w _ := ((((k1.mono (T := OwnR g F) (fun j e => .inr (by have e' : j = qb := e; rw [e']; exact (H.out.qF qb rfl).1))).trans ((keeps_set wr g 1 (.slice none 0 0)).mono (fun _ h => .inl h))).trans ((keeps_set _ g 2 (.bool (!false))).mono (fun _ h => .inl h))).trans ((keeps_set _ g 4 (.int .i64 ((0 : Nat) : Int))).mono (fun _ h => .inl h))).trans ((keeps_set _ g 5 (.slice none 0 0)).mono (fun _ h => .inl h))
        have hfin := (show Dr (((((wr.setCell ⟨g, 1, none⟩ (.slice none 0 0)).setCell ⟨g, 2, none⟩ (.bool true)).setCell ⟨g, 4, none⟩ (.int .i64 0)).setCell ⟨g, 5, none⟩ (.slice none 0 0))) g (some qb) none F' n (crashed s picks) from hf)
        have kfin := (show Keeps (OwnR g F) w (((((wr.setCell ⟨g, 1, none⟩ (.slice none 0 0)).setCell ⟨g, 2, none⟩ (.bool true)).setCell ⟨g, 4, none⟩ (.int .i64 0)).setCell ⟨g, 5, none⟩ (.slice none 0 0))) from kf)
        have f1 := hD.f1
        have f2 := hD.f2
        have f4 := hD.f4
        have f5 := hD.f5
        have c2' := hD.c2
        have c4' := hD.c4
        obtain ⟨v5, pk5, c5', _⟩ := hD.c5
        have Hfin := hide hfin
        have Kfin := hide kfin
        clear hfin kfin hf kf h5 h4 hD hset
        by_cases hkp : k < s.pend.length
        · have hkk : picks.length ≤ k := by have := Ht.out; omega
          have hkk2 : (picks.length : Int) ≤ (k : Int) := by omega
          go_wp2_with fail
          go_ret
          exact ⟨rfl, some qb, none, F', Hfin.out, Kfin.out, hf1⟩
        · have hkk : s.pend.length ≤ k := by omega
          go_wp2_with fail
          go_ret
          exact ⟨rfl, some qb, none, F', Hfin.out, Kfin.out, hf1⟩


end Go.Proofs.Ytjcmmigbkhiplaa
