/- Contract: Arm, whatever a slice without elements points at. -/
import Derived.Test.YtjhbljkoapbkfaaE2
set_option linter.unusedSimpArgs false
set_option linter.unusedVariables false
namespace Go.Proofs.Ytjhbljkoapbkfaa
open Go.RowKit Go.Attic

theorem keeps_bs0 {S : Nat → Prop} {w w' : World} (h : Keeps S w w') {v : Value} {l : List Nat} (hb : Bs w v l) (hv : 0 < l.length → ∀ b, v.ownBlock = some b → ¬ S b) : Bs w' v l := by
  obtain ⟨ao, cap, rfl, h1, h2, h3, h4⟩ := hb
  refine ⟨ao, cap, rfl, h1, h2, h3, fun hp => ?_⟩
  obtain ⟨b, off, rfl, hc⟩ := h4 hp
  exact ⟨b, off, rfl, fun i hi => h.cell (hc i hi) (hv hp b rfl)⟩

set_option maxRecDepth 100000 in
set_option maxHeartbeats 400000 in
theorem arm0_yes {w : World} {g m : Nat} {p : Option Nat} {F : Nat → Prop} {n : Nat} {s : St} (h : Dk w g m p F n s) (i : Int) (vp : Value) (picks : List Nat) (hv : Bs w vp picks) (hvg : 0 < picks.length → ∀ b, vp.ownBlock = some b → b ≠ g) (hpk : picks.length ≤ 140737488355328) (hi : i ≤ 9223372036854775807) :
    Calls Try.prog 19 #[.pointer (some ⟨g, 0, none⟩), .int .i64 i, vp] w fun e w' => e = .returned (.int .i64 (armS s i picks).2) ∧ Turn w g m F n (armS s i picks).1 w' := by
  have hp := powered_yes h
  cases hon : s.on with
  | false =>
    have e : armS s i picks = (s, 5) := by simp [armS, hon]
    rw [e]; clear e
    rw [hon] at hp
    go_enter Try.func19, Try.ntmps19
    go_wp2_with fail
    refine hp.mono ?_
    rintro e w' ⟨rfl, rfl⟩
    go_wp2
    go_ret
    exact ⟨rfl, p, F, h, Keeps.refl _ _, fun _ h => .inl h⟩
  | true =>
    rw [hon] at hp
    by_cases h0 : i < 0
    · have e : armS s i picks = (s, 1) := by simp [armS, hon, h0]
      rw [e]; clear e
      go_enter Try.func19, Try.ntmps19
      go_wp2_with fail
      refine hp.mono ?_
      rintro e w' ⟨rfl, rfl⟩
      go_wp2
      go_ret
      exact ⟨rfl, p, F, h, Keeps.refl _ _, fun _ h => .inl h⟩
    · obtain ⟨k, rfl⟩ := Int.eq_ofNat_of_zero_le (show 0 ≤ i by omega)
      have c2 := h.c2
      obtain ⟨v3, c3, _⟩ := h.c3
      have f2 := h.f2
      have f3 := h.f3
      have h1 : Dk ((w.setCell ⟨g, 2, none⟩ (.int .i64 0)).setCell ⟨g, 3, none⟩ (.slice none 0 0)) g m p F n { s with left := 0, picks := [] } := (h.store2 (l := 0) (by omega)).store3 (u := .slice none 0 0) (l := []) (Bs.nil _) (by simp) (by simp [Value.ownBlock])
      have k1 : Keeps (fun k => k = g) w ((w.setCell ⟨g, 2, none⟩ (.int .i64 0)).setCell ⟨g, 3, none⟩ (.slice none 0 0)) := (keeps_set _ _ _ _).trans (keeps_set _ _ _ _)
      have hv1 := keeps_bs0 k1 hv hvg
      by_cases hk : k = 0
      · subst hk
        have e : armS s ((0 : Nat) : Int) picks = ({ s with left := 0, picks := [] }, 0) := by simp [armS, hon]
        rw [e]; clear e
        have H1 := hide h1
        have K1 := hide k1
        clear h1 k1 hv1
        go_enter Try.func19, Try.ntmps19
        go_wp2_with fail
        refine hp.mono ?_
        rintro e w' ⟨rfl, rfl⟩
        go_wp2
        go_ret
        exact ⟨rfl, p, F, H1.out, K1.out.mono (fun _ h => .inl h), fun _ h => .inl h⟩
      · have e : armS s ((k : Nat) : Int) picks = ({ s with left := k, picks := picks }, 0) := by simp [armS, hon, hk]
        rw [e]; clear e
        have hk1 : 0 < k := by omega
        have H1 := hide h1
        have K1 := hide k1
        have Hv1 := hide hv1
        clear h1 k1 hv1 hk
        go_enter Try.func19, Try.ntmps19
        go_wp2_with fail
        refine hp.mono ?_
        rintro e w' ⟨rfl, rfl⟩
        go_wp2_with fail
        refine (own_any _ _ _ Hv1.out hpk).mono ?_
        rintro e w1 ⟨v1, rfl, ho1, hb1⟩
        have hs1 := hb1.size
        have hlt1 := ho1.lt
        have h2 := H1.out.mono hb1
        have hgl := h.gl
        have hml := h.ml
        have hsz : ((w.setCell ⟨g, 2, none⟩ (.int .i64 0)).setCell ⟨g, 3, none⟩ (.slice none 0 0)).heap.size = w.heap.size := by simp
        rw [hsz] at hlt1 hs1
        have h3 := h2.widen (F' := fun k => F k ∨ v1.ownBlock = some k) (fun _ h => .inl h) (by rintro (e | e); exact h.Fg e; have := hlt1 _ e; omega) (by rintro (e | e); exact h.Fm e; have := hlt1 _ e; omega)
          (by rintro k (e | e); exact h2.Fl k e; exact (hlt1 _ e).2)
        have h4 := (h3.store2 (l := k) (by omega)).store3 (u := v1) (l := picks) ((Keeps.setCell (S := fun k => k = g) w1 rfl _).bs (Bs.of_owns ho1 hv.lt) (fun b hb e => by have := hlt1 _ hb; have e' : b = g := e; omega)) hpk
          (fun b hb => ⟨.inr hb, fun e => by
            obtain ⟨pv, pvs, _, hW⟩ := h.c1
            have := h.Fl b (hW.pF b e); have := hlt1 _ hb; omega⟩)
        have K4 := hide ((((K1.out.trans (Keeps.of_below hb1)).trans (keeps_set w1 g 2 (.int .i64 ((k : Nat) : Int)))).trans (keeps_set _ g 3 v1)).mono (T := Own g m F) (fun _ h => .inl h))
        have c2' := h3.c2
        obtain ⟨v3', c3', _⟩ := h3.c3
        have f2' := h3.f2
        have f3' := h3.f3
        have H4 := hide h4
        obtain ⟨ao1, cap1, rfl⟩ := owns_slice ho1
        clear h4 h3 h2 ho1 hb1
        go_wp2
        go_ret
        exact ⟨rfl, p, _, H4.out, K4.out, fun k hk => hk.imp id (fun h => (hlt1 _ h).1)⟩


end Go.Proofs.Ytjhbljkoapbkfaa
