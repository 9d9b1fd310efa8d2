/- Contracts: the document's own Flush, Write. -/
import Derived.Test.YtjcobealnjkkcaaR7
import Derived.Test.YtjcobealnjkkcaaD7
set_option linter.unusedSimpArgs false
set_option linter.unusedVariables false
namespace Go.Proofs.Ytjcobealnjkkcaa
open Go.RowKit Go.Attic

theorem goes_no {s : St} (h : (goesS s).2 = false) : operS s = ((goesS s).1, 0) := by
  simp only [goesS, operS] at h ⊢
  by_cases h0 : s.left = 0
  · simp [h0]
  · rw [if_neg h0] at h
    have h1 : ¬ (s.left = 1) := by simpa using h
    simp [h0, h1]
theorem goes_yes2 {s : St} (h : (goesS s).2 = true) : operS s = (crashed (goesS s).1 s.picks, 5) ∧ 0 < s.left := by
  simp only [goesS, operS] at h ⊢
  by_cases h0 : s.left = 0
  · rw [if_pos h0] at h; simp at h
  · rw [if_neg h0] at h
    have h1 : s.left = 1 := by simpa using h
    exact ⟨by simp [h1, crashed], by omega⟩
theorem goesS_same (s : St) : (goesS s).1.med = s.med ∧ (goesS s).1.pend = s.pend ∧ (goesS s).1.on = s.on := by
  simp only [goesS]
  split <;> exact ⟨rfl, rfl, rfl⟩

theorem TurnR.trans {w w1 w2 : World} {g n : Nat} {F F1 : Nat → Prop} {s2 : St} (k1 : Keeps (OwnR g F) w w1) (f1 : ∀ k, F1 k → F k ∨ w.heap.size ≤ k) (h2 : TurnR w1 g F1 n s2 w2) : TurnR w g F n s2 w2 := by
  obtain ⟨q', p', F', d2, k2, f2⟩ := h2
  have hz := k1.size
  refine ⟨q', p', F', d2, k1.trans' k2 ?_, ?_⟩
  · rintro k (h | h)
    · exact .inl (.inl h)
    · exact (f1 k h).imp (fun h => .inr h) id
  · intro k hk
    rcases f2 k hk with h | h
    · exact f1 k h
    · exact .inr (by omega)

set_option maxRecDepth 100000 in
set_option maxHeartbeats 2000000 in
theorem rflush_yes {w : World} {g : Nat} {q p : Option Nat} {F : Nat → Prop} {n : Nat} {s : St} (h : Dr w g q p F n s) (hpl : s.pend.length ≤ 1000000) (ho : s.ops ≤ 1000000) :
    Calls Try.prog 36 #[.pointer (some ⟨g, 0, none⟩)] w fun e w' => e = .returned (.int .i64 (flushS s).2) ∧ TurnR w g F n (flushS s).1 w' := by
  have c2 := h.c2
  cases hon : s.on with
  | false =>
    have e : flushS s = (s, 5) := by simp [flushS, hon]
    rw [e]; clear e
    rw [hon] at c2
    clear hon
    go_enter Try.func36, Try.ntmps36
    go_wp2
    go_ret
    exact ⟨rfl, q, p, F, h, Keeps.refl _ _, fun _ h => .inl h⟩
  | true =>
    rw [hon] at c2
    obtain ⟨em, ep, eo⟩ := goesS_same s
    have hgo := goes_yes h ho
    cases hg : (goesS s).2 with
    | true =>
      obtain ⟨hop, hleft⟩ := goes_yes2 hg
      have e : flushS s = (crashed (goesS s).1 s.picks, 5) := by simp [flushS, hon, hop]
      have hcr : crashS (goesS s).1 s.picks = (crashed (goesS s).1 s.picks, 0) := by simp [crashS, eo, hon]
      rw [e]; clear e
      rw [hg] at hgo
      have hpk := h.ok.picks
      obtain ⟨s1, hs1⟩ : ∃ s1, (goesS s).1 = s1 := ⟨_, rfl⟩
      rw [hs1] at hgo hcr em ep eo ⊢
      have hpl1 : s1.pend.length ≤ 1000000 := by rw [ep]; exact hpl
      clear hon hop hs1 hg em ep eo
      go_enter Try.func36, Try.ntmps36
      go_wp2_with fail
      refine hgo.mono ?_
      rintro e w1 ⟨rfl, h1, k1, v5, c5, b5, d5⟩
      have b5' := b5 hleft
      obtain ⟨ao5, cap5, rfl, _⟩ := id b5'
      have Hcr := hide (rcrash_yes h1 _ s.picks b5' (fun _ b hb => (d5 b hb).2.2) hpl1 hpk)
      rw [hcr] at Hcr
      clear b5' b5 d5
      go_wp2_with fail
      refine (Hcr.out).mono ?_
      rintro e w2 ⟨rfl, hT2⟩
      go_wp2
      go_ret
      exact ⟨rfl, TurnR.trans (k1.mono (fun _ h => .inl h)) (fun _ h => .inl h) hT2⟩
    | false =>
      have hop := goes_no hg
      have e : flushS s = ({ (goesS s).1 with med := settleL s.med s.pend (List.replicate s.pend.length 15), pend := [] }, 0) := by simp [flushS, hon, hop]
      rw [e]; clear e
      rw [hg] at hgo
      obtain ⟨s1, hs1⟩ : ∃ s1, (goesS s).1 = s1 := ⟨_, rfl⟩
      rw [hs1] at hgo em ep eo ⊢
      rw [← em, ← ep]
      have hpl1 : s1.pend.length ≤ 1000000 := by rw [ep]; exact hpl
      clear hon hop hs1 hg em ep eo
      obtain ⟨qb, rfl⟩ := h.q
      go_enter Try.func36, Try.ntmps36
      go_wp2_with fail
      refine hgo.mono ?_
      rintro e w1 ⟨rfl, h1, k1, _⟩
      obtain ⟨pv, vs, c1, hW, hWq⟩ := h1.c1
      obtain ⟨pao, pcap, rfl, hpc, _⟩ := owns_form hW.row
      have H := hide h1
      have HW := hide hW
      have HWq := hide hWq
      have hgl := h1.gl
      have hgq : g ≠ qb := fun e => h1.Fg (e ▸ (h1.qF qb rfl).1)
      have hqp : p ≠ some qb := (h1.qF qb rfl).2
      have hz1 := k1.size
      clear h1 hW hWq hgo c2
      go_wp2_with fail
      go_loopw [3] (fun i wr => ∃ k : Nat, k ≤ s1.pend.length ∧ i = .int .i64 k ∧ ∃ F', Dr wr g (some qb) p F' n { s1 with med := settleL s1.med (s1.pend.take k) ((List.replicate s1.pend.length 15).take k) } ∧ Keeps (fun k => k = qb) w1 wr ∧ (∀ k, F' k → F k ∨ w1.heap.size ≤ k) ∧ ∀ k, F k → F' k) (fun i _ => s1.pend.length - (intOf i).toNat)
      case atStart => exact ⟨0, by omega, rfl, F, by simpa [settleL] using H.out, Keeps.refl _ _, fun _ h => .inl h, fun _ h => h⟩
      case round =>
        obtain ⟨k, hk, rfl, F', hD, k2, hf1, hf2⟩ := hrel
        have c1' := k2.cell c1 hgq
        by_cases hks : k < s1.pend.length
        · obtain ⟨pb, pcap', e1, hpb, cb, cv⟩ := HW.out.cells k hks
          injection e1 with e1 _ e3
          subst e1 e3
          have hkv : k < vs.length := by have := HW.out.len; omega
          obtain ⟨hbk, hbF⟩ := HW.out.bs k hks hkv
          have hbq := HWq.out k hkv
          have hpbq : pb ≠ qb := fun e => hqp (by rw [hpb, e])
          have cb' := k2.cell cb hpbq
          have cv' := k2.cell cv hpbq
          have hbk' := k2.bs hbk (fun b hb e => hbq b hb (by rw [show b = qb from e]))
          generalize (vs[k]'hkv) = vk at *
          have hokk := H.out.ok.pend (s1.pend[k]) (List.getElem_mem hks)
          have hst := settleL_take s1.med s1.pend (List.replicate s1.pend.length 15) k hks (by rw [List.length_replicate]; exact hks)
          have hg15 : (List.replicate s1.pend.length 15).getD k 0 = 15 := by rw [List.getD_eq_getElem?_getD, List.getElem?_replicate, if_pos hks]; rfl
          rw [hg15] at hst
          obtain ⟨med1, hmed1⟩ : ∃ x, settleL s1.med (s1.pend.take k) ((List.replicate s1.pend.length 15).take k) = x := ⟨_, rfl⟩
          rw [hmed1] at hD hst
          generalize s1.pend[k] = wk at *
          obtain ⟨blk, byt⟩ := wk
          obtain ⟨hok1, hok2, hok3⟩ := hokk
          dsimp only at hok1 hok2 hok3 hbk' hst cb'
          have hbk2 := hbk'
          obtain ⟨vao, vcap2, rfl, hbk3, _⟩ := hbk2
          rw [hok2] at hbk' cv'
          have hvkq : (Value.slice vao 256 vcap2).ownBlock ≠ some qb := fun e => by
            have := hbq qb (by rw [hok2]; exact e)
            exact this rfl
          have HD := hide hD
          have Hst := hide hst
          have Hbk := hide hbk'
          have Hok2 := hide hok2
          clear hD hst hmed1 hbk hok2 hbk' hbF hbq hg15
          go_wp2_with fail
          refine (rreach_yes HD.out blk _ byt 15 hok1 Hbk.out Hok2.out hvkq (by omega)).mono ?_
          rintro e w2 ⟨rfl, F2, hD2, k3, hf3, hf4⟩
          have k4 : Keeps (fun k => k = qb) w1 w2 := k2.trans k3
          rw [← Hst.out] at hD2
          have HD2 := hide hD2
          have z2 := k2.size
          have hF2 : ∀ k, F2 k → F k ∨ w1.heap.size ≤ k := fun j hj => by
            rcases hf3 j hj with e | e
            · exact hf1 j e
            · exact .inr (by omega)
          clear hD2 k3
          go_wp2_with fail
          go_roundw
          case rel => exact ⟨k + 1, by omega, by go_num, F2, HD2.out, k4, hF2, fun j hj => hf4 j (hf2 j hj)⟩
          case measure => simp [intOf]; omega
        · obtain rfl : k = s1.pend.length := by omega
          rw [List.take_of_length_le (Nat.le_refl _), List.take_of_length_le (by rw [List.length_replicate]; exact Nat.le_refl _)] at hD
          have f1 := hD.f1
          have Hfin := hide hD.store1
          have Kfin := hide (((k1.mono (T := OwnR g F) (fun _ h => .inl h)).trans (k2.mono (fun j e => .inr (by rw [show j = qb from e]; exact (h.qF qb rfl).1)))).trans ((keeps_set _ g 1 (.slice none 0 0)).mono (fun _ h => .inl h)))
          clear hD
          go_wp2_with fail
          go_ret
          exact ⟨rfl, some qb, none, F', Hfin.out, Kfin.out, fun j hj => (hf1 j hj).imp id (fun e => by omega)⟩

end Go.Proofs.Ytjcobealnjkkcaa
