/- Contracts: Arm, Write. -/
import Derived.Test.YtjcmmigbkhiplaaD4
set_option linter.unusedSimpArgs false
set_option linter.unusedVariables false
namespace Go.Proofs.Ytjcmmigbkhiplaa
open Go.RowKit Go.Attic

theorem keeps_set (w : World) (g o : Nat) (v : Value) : Keeps (fun k => k = g) w (w.setCell ⟨g, o, none⟩ v) := Keeps.setCell (S := fun k => k = g) w rfl v

theorem owns_slice {w : World} {base : Nat} {e : TypeId} {size : Nat} {v : Value} {n : Nat} {xs : List Value} (h : w.ownsRow base e size v n xs) : ∃ ao cap, v = .slice ao n cap := by
  rcases h.2 with ⟨rfl, rfl⟩ | ⟨g, cap, cur, rfl, _⟩
  · exact ⟨_, _, rfl⟩
  · exact ⟨_, _, rfl⟩

set_option maxRecDepth 100000 in
set_option maxHeartbeats 400000 in
theorem arm_yes {w : World} {g m : Nat} {p : Option Nat} {F : Nat → Prop} {n : Nat} {s : St} (h : Dk w g m p F n s) (i : Int) (vp : Value) (picks : List Nat) (hv : Bs w vp picks) (hvg : ∀ b, vp.ownBlock = some b → b ≠ g) (hpk : picks.length ≤ 140737488355328) (hi : i ≤ 9223372036854775807) :
    Calls Try.prog 22 #[.pointer (some ⟨g, 0, none⟩), .int .i64 i, vp] w fun e w' => e = .returned (.int .i64 (armS s i picks).2) ∧ Turn w g m F n (armS s i picks).1 w' := by
  have hp := powered_yes h
  cases hon : s.on with
  | false =>
    have e : armS s i picks = (s, 5) := by simp [armS, hon]
    rw [e]; clear e
    rw [hon] at hp
    go_enter Try.func22, Try.ntmps22
    go_wp2_with fail
    refine hp.mono ?_
    rintro e w' ⟨rfl, rfl⟩
    go_wp2
    go_ret
    exact ⟨rfl, p, F, h, Keeps.refl _ _, fun _ h => .inl h⟩
  | true =>
    rw [hon] at hp
    by_cases h0 : i < 0
    · have e : armS s i picks = (s, 1) := by simp [armS, hon, h0]
      rw [e]; clear e
      go_enter Try.func22, Try.ntmps22
      go_wp2_with fail
      refine hp.mono ?_
      rintro e w' ⟨rfl, rfl⟩
      go_wp2
      go_ret
      exact ⟨rfl, p, F, h, Keeps.refl _ _, fun _ h => .inl h⟩
    · obtain ⟨k, rfl⟩ := Int.eq_ofNat_of_zero_le (show 0 ≤ i by omega)
      have c2 := h.c2
      obtain ⟨v3, c3, _⟩ := h.c3
      have f2 := h.f2
      have f3 := h.f3
      have h1 : Dk ((w.setCell ⟨g, 2, none⟩ (.int .i64 0)).setCell ⟨g, 3, none⟩ (.slice none 0 0)) g m p F n { s with left := 0, picks := [] } := (h.store2 (l := 0) (by omega)).store3 (u := .slice none 0 0) (l := []) (Bs.nil _) (by simp) (by simp [Value.ownBlock])
      have k1 : Keeps (fun k => k = g) w ((w.setCell ⟨g, 2, none⟩ (.int .i64 0)).setCell ⟨g, 3, none⟩ (.slice none 0 0)) := (keeps_set _ _ _ _).trans (keeps_set _ _ _ _)
      have hv1 := k1.bs hv hvg
      by_cases hk : k = 0
      · subst hk
        have e : armS s ((0 : Nat) : Int) picks = ({ s with left := 0, picks := [] }, 0) := by simp [armS, hon]
        rw [e]; clear e
        have H1 := hide h1
        have K1 := hide k1
        clear h1 k1 hv1
        go_enter Try.func22, Try.ntmps22
        go_wp2_with fail
        refine hp.mono ?_
        rintro e w' ⟨rfl, rfl⟩
        go_wp2
        go_ret
        exact ⟨rfl, p, F, H1.out, K1.out.mono (fun _ h => .inl h), fun _ h => .inl h⟩
      · have e : armS s ((k : Nat) : Int) picks = ({ s with left := k, picks := picks }, 0) := by simp [armS, hon, hk]
        rw [e]; clear e
        have hk1 : 0 < k := by omega
        have H1 := hide h1
        have K1 := hide k1
        have Hv1 := hide hv1
        clear h1 k1 hv1 hk
        go_enter Try.func22, Try.ntmps22
        go_wp2_with fail
        refine hp.mono ?_
        rintro e w' ⟨rfl, rfl⟩
        go_wp2_with fail
        refine (own_any _ _ _ Hv1.out hpk).mono ?_
        rintro e w1 ⟨v1, rfl, ho1, hb1⟩
        have hs1 := hb1.size
        have hlt1 := ho1.lt
        have h2 := H1.out.mono hb1
        have hgl := h.gl
        have hml := h.ml
        have hsz : ((w.setCell ⟨g, 2, none⟩ (.int .i64 0)).setCell ⟨g, 3, none⟩ (.slice none 0 0)).heap.size = w.heap.size := by simp
        rw [hsz] at hlt1 hs1
        have h3 := h2.widen (F' := fun k => F k ∨ v1.ownBlock = some k) (fun _ h => .inl h) (by rintro (e | e); exact h.Fg e; have := hlt1 _ e; omega) (by rintro (e | e); exact h.Fm e; have := hlt1 _ e; omega)
          (by rintro k (e | e); exact h2.Fl k e; exact (hlt1 _ e).2)
        have h4 := (h3.store2 (l := k) (by omega)).store3 (u := v1) (l := picks) ((Keeps.setCell (S := fun k => k = g) w1 rfl _).bs (Bs.of_owns ho1 hv.lt) (fun b hb e => by have := hlt1 _ hb; have e' : b = g := e; omega)) hpk
          (fun b hb => ⟨.inr hb, fun e => by
            obtain ⟨pv, pvs, _, hW⟩ := h.c1
            have := h.Fl b (hW.pF b e); have := hlt1 _ hb; omega⟩)
        have K4 := hide ((((K1.out.trans (Keeps.of_below hb1)).trans (keeps_set w1 g 2 (.int .i64 ((k : Nat) : Int)))).trans (keeps_set _ g 3 v1)).mono (T := Own g m F) (fun _ h => .inl h))
        have c2' := h3.c2
        obtain ⟨v3', c3', _⟩ := h3.c3
        have f2' := h3.f2
        have f3' := h3.f3
        have H4 := hide h4
        obtain ⟨ao1, cap1, rfl⟩ := owns_slice ho1
        clear h4 h3 h2 ho1 hb1
        go_wp2
        go_ret
        exact ⟨rfl, p, _, H4.out, K4.out, fun k hk => hk.imp id (fun h => (hlt1 _ h).1)⟩

/-- One more write is pending. -/
theorem Dk.pushed {w w2 : World} {g m : Nat} {p : Option Nat} {F : Nat → Prop} {n : Nat} {s : St} (h : Dk w g m p F n s) {v : Value} {vs : List Value} (c1 : w.cell? ⟨g, 1, none⟩ = some v) (hW : Ws 93 w p F v s.pend vs)
    (k2 : Keeps (fun k => p = some k) w w2) {v' vb : Value} {i : Nat} {b : List Nat} (ho : w2.ownsRow 0 93 2 v' (s.pend.length + 1) (cellsW s.pend vs ++ [.int .i64 (i : Int), vb])) (hkin : ∀ k, v'.ownBlock = some k → (p = some k ∨ w.heap.size ≤ k) ∧ vb.ownBlock ≠ some k ∧ k < w2.heap.size)
    (hb : Bs w2 vb b) (hbk : ∀ k, vb.ownBlock = some k → w.heap.size ≤ k ∧ k < w2.heap.size) (hi : i < n) (hl : b.length = 256) :
    Dk (w2.setCell ⟨g, 1, none⟩ v') g m v'.ownBlock (fun k => F k ∨ vb.ownBlock = some k ∨ v'.ownBlock = some k) n { s with pend := s.pend ++ [(i, b)] } := by
  obtain ⟨cap, a1, a2⟩ := h.c0
  obtain ⟨v3, d1, d2, d3⟩ := h.c3
  have hgl := h.gl
  have hml := h.ml
  have hpg : ¬ (fun k => p = some k) g := fun e => h.Fg (hW.pF g e)
  have hpm : ¬ (fun k => p = some k) m := fun e => h.Fm (hW.pF m e)
  have hk : Keeps (fun k => k = g) w2 (w2.setCell ⟨g, 1, none⟩ v') := Keeps.setCell (S := fun k => k = g) w2 rfl _
  have hm : ¬ (fun k => k = g) m := fun e => h.ne (by have e' : m = g := e; exact e'.symm)
  have hS : ∀ k, F k → ¬ (fun k => k = g) k := fun k hk e => h.Fg (by have e' : k = g := e; exact e' ▸ hk)
  have hbS : ∀ k, vb.ownBlock = some k → ¬ (fun k => k = g) k := fun k hk' e => by have e' : k = g := e; have := hbk k hk'; omega
  have hvS : ∀ k, v'.ownBlock = some k → ¬ (fun k => k = g) k := fun k hk' e => by
    have e' : k = g := e
    rcases (hkin k hk').1 with h1 | h1
    · exact hpg (by rw [← e']; exact h1)
    · omega
  have hsz := k2.size
  refine ⟨⟨cap, cell_set_other (k2.cell a1 hpg) (by omega), hk.owns (k2.owns a2 (fun b hb => by cases hb; exact hpm)) (fun b hb => by cases hb; exact hm)⟩,
    ⟨v', vs ++ [vb], cell_set_same (k2.cell c1 hpg), ⟨?_, rfl, by simp [hW.len], fun b hb => .inr (.inr hb), ?_⟩⟩,
    cell_set_other (k2.cell h.c2 hpg) (by omega),
    ⟨v3, cell_set_other (k2.cell d1 hpg) (by omega), hk.bs (k2.bs d2 (fun b hb => (d3 b hb).2)) (fun b hb => hS b (d3 b hb).1), fun b hb => ⟨.inl (d3 b hb).1, fun e => ?_⟩⟩,
    cell_set_other (k2.cell h.c4 hpg) (by omega), cell_set_other (k2.cell h.c5 hpg) (by omega), ?_, ?_, ?_, ?_, ?_, ?_,
    h.ne, ?_, ?_, ?_, ⟨h.ok.len, h.ok.n1, h.ok.n2, h.ok.lt, ?_, h.ok.left, h.ok.picks⟩⟩
  · have e : cellsW (s.pend ++ [(i, b)]) (vs ++ [vb]) = cellsW s.pend vs ++ [.int .i64 (i : Int), vb] := by
      simp [cellsW, List.zip_append hW.len.symm]
    dsimp only
    rw [e]
    simpa using hk.owns ho hvS
  · intro j hj hv
    simp at hj hv
    by_cases hjl : j < s.pend.length
    · have h1 : j < vs.length := by have := hW.len; omega
      obtain ⟨q1, q2⟩ := hW.bs j hjl h1
      simp only [List.getElem_append_left hjl, List.getElem_append_left h1]
      refine ⟨hk.bs (k2.bs q1 (fun b hb => (q2 b hb).2)) (fun b hb => hS b (q2 b hb).1), fun b hb => ⟨.inl (q2 b hb).1, fun e => ?_⟩⟩
      rcases (hkin b e).1 with h1 | h1
      · exact (q2 b hb).2 h1
      · have := h.Fl b (q2 b hb).1; omega
    · have e1 : j = s.pend.length := by omega
      subst e1
      have e2 : s.pend.length = vs.length := hW.len.symm
      have g1 : (s.pend ++ [(i, b)])[s.pend.length]'(by simp) = (i, b) := by simp
      have g2 : (vs ++ [vb])[s.pend.length]'(by simp [e2]) = vb := by simp [e2]
      dsimp only
      rw [g1, g2]
      exact ⟨hk.bs hb hbS, fun k hk' => ⟨.inr (.inl hk'), fun e => (hkin k e).2.1 hk'⟩⟩
  · rcases (hkin b e).1 with h1 | h1
    · exact (d3 b hb).2 h1
    · have := h.Fl b (d3 b hb).1; omega
  · simpa [k2.frozen (a := ⟨g, 0, none⟩) hgl hpg] using h.f0
  · simpa [k2.frozen (a := ⟨g, 1, none⟩) hgl hpg] using h.f1
  · simpa [k2.frozen (a := ⟨g, 2, none⟩) hgl hpg] using h.f2
  · simpa [k2.frozen (a := ⟨g, 3, none⟩) hgl hpg] using h.f3
  · simpa [k2.frozen (a := ⟨g, 4, none⟩) hgl hpg] using h.f4
  · simpa [k2.frozen (a := ⟨g, 5, none⟩) hgl hpg] using h.f5
  · rintro (e | e | e)
    · exact h.Fg e
    · have := hbk g e; omega
    · exact hvS g e rfl
  · rintro (e | e | e)
    · exact h.Fm e
    · have := hbk m e; omega
    · rcases (hkin m e).1 with h1 | h1
      · exact hpm h1
      · omega
  · rintro k (e | e | e)
    · have := h.Fl k e; simp; omega
    · have := hbk k e; simp; omega
    · have := (hkin k e).2.2; simpa using this
  · intro x hx
    simp only [List.mem_append, List.mem_singleton] at hx
    rcases hx with hx | rfl
    · exact h.ok.pend x hx
    · exact ⟨hi, hl, hb.lt⟩


end Go.Proofs.Ytjcmmigbkhiplaa
