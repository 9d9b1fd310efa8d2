/- Contract: the document's own Write. -/
import Derived.Test.YtjcmmigbkhiplaaQ7
set_option linter.unusedSimpArgs false
set_option linter.unusedVariables false
namespace Go.Proofs.Ytjcmmigbkhiplaa
open Go.RowKit Go.Attic

theorem goes_no {s : St} (h : (goesS s).2 = false) : operS s = ((goesS s).1, 0) := by
  simp only [goesS, operS] at h ⊢
  by_cases h0 : s.left = 0
  · simp [h0]
  · rw [if_neg h0] at h
    have h1 : ¬ (s.left = 1) := by simpa using h
    simp [h0, h1]
theorem goes_yes2 {s : St} (h : (goesS s).2 = true) : operS s = (crashed (goesS s).1 s.picks, 5) ∧ 0 < s.left := by
  simp only [goesS, operS] at h ⊢
  by_cases h0 : s.left = 0
  · rw [if_pos h0] at h; simp at h
  · rw [if_neg h0] at h
    have h1 : s.left = 1 := by simpa using h
    exact ⟨by simp [h1, crashed], by omega⟩
theorem goesS_same (s : St) : (goesS s).1.med = s.med ∧ (goesS s).1.pend = s.pend ∧ (goesS s).1.on = s.on := by
  simp only [goesS]
  split <;> exact ⟨rfl, rfl, rfl⟩

theorem TurnR.trans {w w1 w2 : World} {g n : Nat} {F F1 : Nat → Prop} {s2 : St} (k1 : Keeps (OwnR g F) w w1) (f1 : ∀ k, F1 k → F k ∨ w.heap.size ≤ k) (h2 : TurnR w1 g F1 n s2 w2) : TurnR w g F n s2 w2 := by
  obtain ⟨q', p', F', d2, k2, f2⟩ := h2
  have hz := k1.size
  refine ⟨q', p', F', d2, k1.trans' k2 ?_, ?_⟩
  · rintro k (h | h)
    · exact .inl (.inl h)
    · exact (f1 k h).imp (fun h => .inr h) id
  · intro k hk
    rcases f2 k hk with h | h
    · exact f1 k h
    · exact .inr (by omega)


theorem Try.info95' : (Try.prog.info? 95).map (fun i => (i.zero, i.size, i.bytes)) = some (some (.agg #[.int .i64 0, .slice none 0 0]), 2, 32) := by kernel_rfl

/-- One more write is pending. -/
theorem Dr.pushed {w w2 : World} {g : Nat} {q p : Option Nat} {F : Nat → Prop} {n : Nat} {s : St} (h : Dr w g q p F n s) {v : Value} {vs : List Value} (c1 : w.cell? ⟨g, 1, none⟩ = some v) (hW : Ws 95 w p F v s.pend vs) (hWq : ∀ i (hv : i < vs.length) b, vs[i].ownBlock = some b → q ≠ some b)
    (k2 : Keeps (fun k => p = some k) w w2) {v' vb : Value} {i : Nat} {b : List Nat} (ho : w2.ownsRow 0 95 2 v' (s.pend.length + 1) (cellsW s.pend vs ++ [.int .i64 (i : Int), vb])) (hkin : ∀ k, v'.ownBlock = some k → (p = some k ∨ w.heap.size ≤ k) ∧ vb.ownBlock ≠ some k ∧ k < w2.heap.size)
    (hb : Bs w2 vb b) (hbk : ∀ k, vb.ownBlock = some k → w.heap.size ≤ k ∧ k < w2.heap.size) (hi : i < n) (hl : b.length = 256) :
    Dr (w2.setCell ⟨g, 1, none⟩ v') g q v'.ownBlock (fun k => F k ∨ vb.ownBlock = some k ∨ v'.ownBlock = some k) n { s with pend := s.pend ++ [(i, b)] } := by
  obtain ⟨rv, rvs, a1, a2⟩ := h.c0
  obtain ⟨v5, pk, d1, d2, d3, d4, d5⟩ := h.c5
  have hgl := h.gl
  have hpg : ¬ (fun k => p = some k) g := fun e => h.Fg (hW.pF g e)
  have hk : Keeps (fun k => k = g) w2 (w2.setCell ⟨g, 1, none⟩ v') := keeps_set w2 g 1 v'
  have hS : ∀ k, F k → ¬ (fun k => k = g) k := fun k hk e => h.Fg (by have e' : k = g := e; exact e' ▸ hk)
  have hbS : ∀ k, vb.ownBlock = some k → ¬ (fun k => k = g) k := fun k hk' e => by have e' : k = g := e; have := hbk k hk'; omega
  have hvS : ∀ k, v'.ownBlock = some k → ¬ (fun k => k = g) k := fun k hk' e => by
    have e' : k = g := e
    rcases (hkin k hk').1 with h1 | h1
    · exact hpg (by rw [← e']; exact h1)
    · omega
  have old : ∀ b, F b → p ≠ some b → v'.ownBlock ≠ some b := fun b hF hp e => by
    rcases (hkin b e).1 with h1 | h1
    · exact hp h1
    · have := h.Fl b hF; omega
  have hsz := k2.size
  refine ⟨⟨rv, rvs, cell_set_other (k2.cell a1 hpg) (by omega), ⟨hk.owns (k2.owns a2.row (fun b hb e => (h.qF b (a2.own ▸ hb)).2 e)) (fun b hb => hS b (h.qF b (a2.own ▸ hb)).1), a2.own, fun j hv => ?_⟩⟩,
    ⟨v', vs ++ [vb], cell_set_same (k2.cell c1 hpg), ⟨?_, rfl, by simp [hW.len], fun b hb => .inr (.inr hb), ?_⟩, ?_⟩,
    cell_set_other (k2.cell h.c2 hpg) (by omega), cell_set_other (k2.cell h.c3 hpg) (by omega), cell_set_other (k2.cell h.c4 hpg) (by omega),
    ⟨v5, pk, cell_set_other (k2.cell d1 hpg) (by omega), hk.bs (k2.bs d2 (fun b hb => (d5 b hb).2.1)) (fun b hb => hS b (d5 b hb).1), d3, d4, fun b hb => ⟨.inl (d5 b hb).1, old b (d5 b hb).1 (d5 b hb).2.1, (d5 b hb).2.2⟩⟩,
    ?_, ?_, ?_, ?_, ?_, ?_, fun b hb => ⟨.inl (h.qF b hb).1, old b (h.qF b hb).1 (h.qF b hb).2⟩, ?_, ?_, ⟨h.ok.len, h.ok.n1, h.ok.n2, h.ok.lt, ?_, h.ok.left, h.ok.picks⟩⟩
  · obtain ⟨x1, x2⟩ := a2.bs j hv
    exact ⟨hk.bs (k2.bs x1 (fun b hb => (x2 b hb).2.1)) (fun b hb => hS b (x2 b hb).1), fun b hb => ⟨.inl (x2 b hb).1, old b (x2 b hb).1 (x2 b hb).2.1, (x2 b hb).2.2⟩⟩
  · have e : cellsW (s.pend ++ [(i, b)]) (vs ++ [vb]) = cellsW s.pend vs ++ [.int .i64 (i : Int), vb] := by
      simp [cellsW, List.zip_append hW.len.symm]
    dsimp only
    rw [e]
    simpa using hk.owns ho hvS
  · intro j hj hv
    simp at hj hv
    by_cases hjl : j < s.pend.length
    · have h1 : j < vs.length := by have := hW.len; omega
      obtain ⟨q1, q2⟩ := hW.bs j hjl h1
      simp only [List.getElem_append_left hjl, List.getElem_append_left h1]
      exact ⟨hk.bs (k2.bs q1 (fun b hb => (q2 b hb).2)) (fun b hb => hS b (q2 b hb).1), fun b hb => ⟨.inl (q2 b hb).1, old b (q2 b hb).1 (q2 b hb).2⟩⟩
    · have e1 : j = s.pend.length := by omega
      subst e1
      have e2 : s.pend.length = vs.length := hW.len.symm
      have g1 : (s.pend ++ [(i, b)])[s.pend.length]'(by simp) = (i, b) := by simp
      have g2 : (vs ++ [vb])[s.pend.length]'(by simp [e2]) = vb := by simp [e2]
      dsimp only
      rw [g1, g2]
      exact ⟨hk.bs hb hbS, fun k hk' => ⟨.inr (.inl hk'), fun e => (hkin k e).2.1 hk'⟩⟩
  · intro j hv c hc e
    simp at hv
    by_cases hjl : j < vs.length
    · rw [List.getElem_append_left hjl] at hc
      exact hWq j hjl c hc e
    · have e1 : j = vs.length := by omega
      subst e1
      simp only [List.getElem_concat_length] at hc
      have := h.Fl c (h.qF c e).1
      have := (hbk c hc).1
      omega
  · simpa [k2.frozen (a := ⟨g, 0, none⟩) hgl hpg] using h.f0
  · simpa [k2.frozen (a := ⟨g, 1, none⟩) hgl hpg] using h.f1
  · simpa [k2.frozen (a := ⟨g, 2, none⟩) hgl hpg] using h.f2
  · simpa [k2.frozen (a := ⟨g, 3, none⟩) hgl hpg] using h.f3
  · simpa [k2.frozen (a := ⟨g, 4, none⟩) hgl hpg] using h.f4
  · simpa [k2.frozen (a := ⟨g, 5, none⟩) hgl hpg] using h.f5
  · rintro (e | e | e)
    · exact h.Fg e
    · have := hbk g e; omega
    · exact hvS g e rfl
  · rintro k (e | e | e)
    · have := h.Fl k e; simp; omega
    · have := hbk k e; simp; omega
    · have := (hkin k e).2.2; simpa using this
  · intro x hx
    simp only [List.mem_append, List.mem_singleton] at hx
    rcases hx with hx | rfl
    · exact h.ok.pend x hx
    · exact ⟨hi, hl, hb.lt⟩

set_option maxRecDepth 100000 in
set_option maxHeartbeats 2000000 in
theorem rwrite_yes {w : World} {g : Nat} {q p : Option Nat} {F : Nat → Prop} {n : Nat} {s : St} (h : Dr w g q p F n s) (i : Int) (vb : Value) (b : List Nat) (hv : Bs w vb b) (hbl : b.length ≤ 140737488355328) (hpl : s.pend.length < 1000000) (ho : s.ops ≤ 1000000) :
    Calls Try.prog 21 #[.pointer (some ⟨g, 0, none⟩), .int .i64 i, vb] w fun e w' => e = .returned (.int .i64 (writeS s n i b).2) ∧ TurnR w g F n (writeS s n i b).1 w' := by
  obtain ⟨i5, hi5, hy0, hy1, hy2⟩ := info_parts Try.info5
  obtain ⟨i0, hi, hz0, hz1, hz2⟩ := info_parts Try.info95'
  have c2 := h.c2
  have hn1 := h.ok.n1
  have hn2 := h.ok.n2
  cases hon : s.on with
  | false =>
    have e : writeS s n i b = (s, 5) := by simp [writeS, hon]
    rw [e]; clear e
    rw [hon] at c2
    clear hon
    go_enter Try.func21, Try.ntmps21
    go_wp2
    go_ret
    exact ⟨rfl, q, p, F, h, Keeps.refl _ _, fun _ h => .inl h⟩
  | true =>
    rw [hon] at c2
    obtain ⟨rv, rvs, c0, hR⟩ := h.c0
    obtain ⟨rb, rcap, rfl⟩ : ∃ rb rcap, rv = .slice (some ⟨rb, 0, none⟩) n rcap := by
      obtain ⟨b, cap, e, _⟩ := hR.cell 0 (by omega)
      exact ⟨b, cap, e⟩
    clear hR
    by_cases h1 : i < 0
    · have e : writeS s n i b = (s, 30) := by
        have : inS n i = false := by simp [inS]; omega
        simp [writeS, hon, this]
      rw [e]; clear e hon
      go_enter Try.func21, Try.ntmps21
      go_wp2
      go_ret
      exact ⟨rfl, q, p, F, h, Keeps.refl _ _, fun _ h => .inl h⟩
    · obtain ⟨k, rfl⟩ := Int.eq_ofNat_of_zero_le (show 0 ≤ i by omega)
      by_cases h2 : k < n
      · have hin : inS n (k : Int) = true := by simp [inS]; omega
        obtain ⟨ao, vcap, hve, hvc⟩ : ∃ ao vcap, vb = .slice ao b.length vcap ∧ b.length ≤ vcap := by obtain ⟨a, c, e, h, _⟩ := hv; exact ⟨a, c, e, h⟩
        subst hve
        by_cases hb256 : b.length = 256
        · have e : writeS s n (k : Int) b = operS { s with pend := s.pend ++ [(k, b)] } := by simp [writeS, hon, hin, hb256]
          rw [e]; clear e
          obtain ⟨pv, vs, c1, hW, hWq⟩ := h.c1
          obtain ⟨pao, pcap, rfl⟩ := owns_slice hW.row
          have f1 := h.f1
          have hgl := h.gl
          have hblt := hv.lt
          have Hb := hide hb256
          have H := hide h
          have HW := hide hW
          have HWq := hide hWq
          have Hon := hide hon
          rw [hb256] at hv hvc ⊢
          have hpg : some g ≠ (Value.slice pao s.pend.length pcap).ownBlock := by
            intro e
            rw [HW.out.own] at e
            exact H.out.Fg (HW.out.pF g e.symm)
          have hv2 : Bs w.drew (.slice ao 256 vcap) b := hv
          clear hb256 h hW hin hv hWq hon
          go_enter Try.func21, Try.ntmps21
          go_wp2_with fail
          go_region_law (first
            | (refine step_append_bs rfl (.const (.slice none 0 0)) (.tmp 31) 37 rfl w.heap.size 5 i5 (.int .u8 0) Try.underlying37 hi5 hy0 hy1 hy2 rfl (.slice none 0 0) 0 [] rfl (World.ownsRow_nil _ _ _ _) _ b rfl hv2 (by rw [Hb.out]; omega) (by simp) ?_
               intro v1 w1 ho1 hg1
               rw [Nat.zero_add, List.nil_append, Hb.out] at ho1
               obtain ⟨ao1, cap1, rfl, _, _⟩ := owns_form ho1
               have hb1' : Below w.heap.size w w1 := ⟨hg1.os, hg1.tape, hg1.output, hg1.size, fun k hk => hg1.block k hk (by simp [Value.ownBlock])⟩
               have hsz1 : w.heap.size ≤ w1.heap.size := hb1'.size
               have c1' : w1.cell? ⟨g, 1, none⟩ = some (.slice pao s.pend.length pcap) := (by rw [hb1'.cell (p := ⟨g, 1, none⟩) hgl]; exact c1)
               have f1' : w1.frozen? ⟨g, 1, none⟩ = false := (by rw [hb1'.frozen (p := ⟨g, 1, none⟩) hgl]; exact f1)
               have c1a := (Keeps.alloc (S := fun _ => False) w1 (.cells #[.int .i64 (k : Int), .slice ao1 256 cap1] 95)).cell c1' id
               have row1 := (Keeps.of_below (S := fun _ => False) hb1').owns HW.out.row (fun _ _ => id)
               skip)
            | (refine step_append_at rfl (.tmp 29) (.tmp 34) 72 rfl 0 95 i0 (.agg #[.int .i64 0, .slice none 0 0]) 2 32 Try.underlying72 hi hz0 hz1 hz2 rfl (by decide) (.slice pao s.pend.length pcap) s.pend.length (cellsW s.pend vs) rfl (row1.alloc _) ⟨w1.heap.size, 0, none⟩ 1 1 [.int .i64 (k : Int), .slice ao1 256 cap1] rfl rfl (cell_two_new _ _ _ _) (by simp [Value.oneCell']) (by unfold maxLen; omega) (by omega) (by omega) ?_
               intro v2 w2 ho2 hg2 hkin2
               obtain ⟨g2, cap2, rfl⟩ := owns_succ ho2
               have c1'' := hg2.cell (((Keeps.alloc (S := fun _ => False) w1 (.cells #[.int .i64 (k : Int), .slice ao1 256 cap1] 95))).cell c1' id) hpg
               have f1'' : w2.frozen? ⟨g, 1, none⟩ = false := (by rw [World.frozen?_of_block (w := w1) (a := ⟨g, 1, none⟩) ((hg2.block g (by simp; omega) hpg).trans (Below.heap_alloc _ _ _ (by omega)))]; exact f1')
               skip))
          all_goals
            have hlt1 := ho1.lt
            have z2 := hg2.size
            simp only [World.size_alloc] at z2
            have hK : Keeps (fun k => p = some k) w w2 := ((Keeps.of_below hb1').trans (Keeps.alloc w1 _)).trans (Keeps.of_grown hg2 (fun k hk => by rw [HW.out.own] at hk; exact hk))
            have hko : ∀ j, (Value.slice (some ⟨g2, 0, none⟩) (s.pend.length + 1) cap2).ownBlock = some j → (p = some j ∨ w.heap.size ≤ j) ∧ (Value.slice ao1 256 cap1).ownBlock ≠ some j ∧ j < w2.heap.size := by
              intro j hj
              have hj2 := owns_lt' ho2 j hj
              rcases hkin2 with e | e
              · rw [e, HW.out.own] at hj
                refine ⟨.inl hj, fun e2 => ?_, hj2⟩
                have := H.out.Fl j (HW.out.pF j hj)
                have := (hlt1 j e2).1
                omega
              · rw [e] at hj
                simp at hj
                refine ⟨.inr (by omega), fun e2 => ?_, hj2⟩
                have := (hlt1 j e2).2
                omega
            have hBs : Bs w2 (.slice ao1 256 cap1) b := by
              have q := Bs.of_owns ho1 hblt
              refine (((Keeps.alloc (S := fun k => p = some k) w1 _).trans (Keeps.of_grown hg2 (fun k hk => by rw [HW.out.own] at hk; exact hk))).bs q ?_)
              intro j hj e
              have := H.out.Fl j (HW.out.pF j e)
              have := (hlt1 j hj).1
              omega
            have hD := H.out.pushed c1 HW.out HWq.out hK (v' := .slice (some ⟨g2, 0, none⟩) (s.pend.length + 1) cap2) (vb := .slice ao1 256 cap1) (i := k) (b := b) ho2 hko hBs (fun j hj => by have := hlt1 j hj; omega) h2 Hb.out
            have hKD : Keeps (OwnR g F) w (w2.setCell ⟨g, 1, none⟩ (.slice (some ⟨g2, 0, none⟩) (s.pend.length + 1) cap2)) :=
              (hK.mono (fun k hk => .inr (HW.out.pF k hk))).trans (Keeps.setCell w2 (.inl rfl) _)
            have hFf : ∀ j, (F j ∨ (Value.slice ao1 256 cap1).ownBlock = some j ∨ (Value.slice (some ⟨g2, 0, none⟩) (s.pend.length + 1) cap2).ownBlock = some j) → F j ∨ w.heap.size ≤ j := by
              rintro j (e | e | e)
              · exact .inl e
              · exact .inr (hlt1 j e).1
              · rcases (hko j e).1 with e | e
                · exact .inl (HW.out.pF j e)
                · exact .inr e
            have hon2 : ({ s with pend := s.pend ++ [(k, b)] } : St).on = true := Hon.out
            have hpl2 : ({ s with pend := s.pend ++ [(k, b)] } : St).pend.length ≤ 1000000 := by simp; omega
            have hops2 : ({ s with pend := s.pend ++ [(k, b)] } : St).ops ≤ 1000000 := ho
            obtain ⟨s2, hs2⟩ : ∃ s2, ({ s with pend := s.pend ++ [(k, b)] } : St) = s2 := ⟨_, rfl⟩
            rw [hs2] at hD hon2 hpl2 hops2
            try rw [hs2]
            have HD := hide hD
            have HKD := hide hKD
            have HFf := hide hFf
            have Hs2 := hide hs2
            have Hon2 := hide hon2
            have hgo := goes_yes hD hops2
            clear hD hKD hFf hBs hko hK ho2 hg2 hkin2 ho1 hg1 hb1' row1 c1a c1' c1'' f1'' f1' hs2 hon2
            obtain ⟨em, ep, eo⟩ := goesS_same s2
            cases hg : (goesS s2).2 with
            | true =>
              obtain ⟨hop, hleft⟩ := goes_yes2 hg
              have hcr : crashS (goesS s2).1 s2.picks = (crashed (goesS s2).1 s2.picks, 0) := by simp [crashS, eo, Hon2.out]
              rw [hg] at hgo
              have hpk := HD.out.ok.picks
              obtain ⟨s3, hs3⟩ : ∃ s3, (goesS s2).1 = s3 := ⟨_, rfl⟩
              rw [hs3] at hgo hcr hop ep
              have hpl3 : s3.pend.length ≤ 1000000 := by rw [ep]; exact hpl2
              have Hop := hide hop
              clear hs3 hg em ep eo hop
              go_wp2_with fail
              refine hgo.mono ?_
              rintro e w4 ⟨rfl, h4, k4, v5, c5, b5, d5⟩
              have b5' := b5 hleft
              obtain ⟨ao5, cap5, rfl, _⟩ := id b5'
              have Hcr := hide (rcrash_yes h4 _ s2.picks b5' (fun _ b hb => (d5 b hb).2.2) hpl3 hpk)
              rw [hcr] at Hcr
              clear b5' b5 d5
              go_wp2_with fail
              refine (Hcr.out).mono ?_
              rintro e w5 ⟨rfl, hT5⟩
              go_wp2
              go_ret
              refine ⟨?_, ?_⟩
              · first | (rw [Hs2.out, Hop.out]; rfl) | (rw [Hop.out]; rfl)
              · first | rw [Hs2.out, Hop.out] | rw [Hop.out]
                exact TurnR.trans (HKD.out.trans' k4 (fun j e => .inl (.inl e))) HFf.out hT5
            | false =>
              have hop := goes_no hg
              rw [hg] at hgo
              obtain ⟨s3, hs3⟩ : ∃ s3, (goesS s2).1 = s3 := ⟨_, rfl⟩
              rw [hs3] at hgo hop
              have Hop := hide hop
              clear hs3 hg em ep eo hop
              go_wp2_with fail
              refine hgo.mono ?_
              rintro e w4 ⟨rfl, h4, k4, _⟩
              go_wp2
              go_ret
              refine ⟨?_, ?_⟩
              · first | (rw [Hs2.out, Hop.out]; rfl) | (rw [Hop.out]; rfl)
              · first | rw [Hs2.out, Hop.out] | rw [Hop.out]
                exact ⟨q, _, _, h4, HKD.out.trans' k4 (fun j e => .inl (.inl e)), HFf.out⟩
        · have e : writeS s n (k : Int) b = (s, 31) := by simp [writeS, hon, hin, hb256]
          rw [e]; clear e hon hin
          have hne : ((b.length : Int) != 256) = true := by simp; omega
          clear hb256
          go_enter Try.func21, Try.ntmps21
          go_wp2
          go_ret
          exact ⟨rfl, q, p, F, h, Keeps.refl _ _, fun _ h => .inl h⟩
      · have e : writeS s n (k : Int) b = (s, 30) := by
          have : inS n (k : Int) = false := by simp [inS]; omega
          simp [writeS, hon, this]
        rw [e]; clear e hon
        go_enter Try.func21, Try.ntmps21
        go_wp2
        go_ret
        exact ⟨rfl, q, p, F, h, Keeps.refl _ _, fun _ h => .inl h⟩


end Go.Proofs.Ytjcmmigbkhiplaa
