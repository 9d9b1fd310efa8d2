/- Contracts: Arm, of either disk, whatever a slice without elements points at. -/
import Derived.Test.YtjcobealnjkkcaaR9
import Derived.Test.YtjcobealnjkkcaaG2
set_option linter.unusedSimpArgs false
set_option linter.unusedVariables false
namespace Go.Proofs.Ytjcobealnjkkcaa
open Go.RowKit Go.Attic

theorem keeps_bs0 {S : Nat → Prop} {w w' : World} (h : Keeps S w w') {v : Value} {l : List Nat} (hb : Bs w v l) (hv : 0 < l.length → ∀ b, v.ownBlock = some b → ¬ S b) : Bs w' v l := by
  obtain ⟨ao, cap, rfl, h1, h2, h3, h4⟩ := hb
  refine ⟨ao, cap, rfl, h1, h2, h3, fun hp => ?_⟩
  obtain ⟨b, off, rfl, hc⟩ := h4 hp
  exact ⟨b, off, rfl, fun i hi => h.cell (hc i hi) (hv hp b rfl)⟩

set_option maxRecDepth 100000 in
set_option maxHeartbeats 400000 in
theorem arm0_yes {w : World} {g m : Nat} {p : Option Nat} {F : Nat → Prop} {n : Nat} {s : St} (h : Dk w g m p F n s) (i : Int) (vp : Value) (picks : List Nat) (hv : Bs w vp picks) (hvg : 0 < picks.length → ∀ b, vp.ownBlock = some b → b ≠ g) (hpk : picks.length ≤ 140737488355328) (hi : i ≤ 9223372036854775807) :
    Calls Try.prog 17 #[.pointer (some ⟨g, 0, none⟩), .int .i64 i, vp] w fun e w' => e = .returned (.int .i64 (armS s i picks).2) ∧ Turn w g m F n (armS s i picks).1 w' := by
  have hp := powered_yes h
  cases hon : s.on with
  | false =>
    have e : armS s i picks = (s, 5) := by simp [armS, hon]
    rw [e]; clear e
    rw [hon] at hp
    go_enter Try.func17, Try.ntmps17
    go_wp2_with fail
    refine hp.mono ?_
    rintro e w' ⟨rfl, rfl⟩
    go_wp2
    go_ret
    exact ⟨rfl, p, F, h, Keeps.refl _ _, fun _ h => .inl h⟩
  | true =>
    rw [hon] at hp
    by_cases h0 : i < 0
    · have e : armS s i picks = (s, 1) := by simp [armS, hon, h0]
      rw [e]; clear e
      go_enter Try.func17, Try.ntmps17
      go_wp2_with fail
      refine hp.mono ?_
      rintro e w' ⟨rfl, rfl⟩
      go_wp2
      go_ret
      exact ⟨rfl, p, F, h, Keeps.refl _ _, fun _ h => .inl h⟩
    · obtain ⟨k, rfl⟩ := Int.eq_ofNat_of_zero_le (show 0 ≤ i by omega)
      have c2 := h.c2
      obtain ⟨v3, c3, _⟩ := h.c3
      have f2 := h.f2
      have f3 := h.f3
      have h1 : Dk ((w.setCell ⟨g, 2, none⟩ (.int .i64 0)).setCell ⟨g, 3, none⟩ (.slice none 0 0)) g m p F n { s with left := 0, picks := [] } := (h.store2 (l := 0) (by omega)).store3 (u := .slice none 0 0) (l := []) (Bs.nil _) (by simp) (by simp [Value.ownBlock])
      have k1 : Keeps (fun k => k = g) w ((w.setCell ⟨g, 2, none⟩ (.int .i64 0)).setCell ⟨g, 3, none⟩ (.slice none 0 0)) := (keeps_set _ _ _ _).trans (keeps_set _ _ _ _)
      have hv1 := keeps_bs0 k1 hv hvg
      by_cases hk : k = 0
      · subst hk
        have e : armS s ((0 : Nat) : Int) picks = ({ s with left := 0, picks := [] }, 0) := by simp [armS, hon]
        rw [e]; clear e
        have H1 := hide h1
        have K1 := hide k1
        clear h1 k1 hv1
        go_enter Try.func17, Try.ntmps17
        go_wp2_with fail
        refine hp.mono ?_
        rintro e w' ⟨rfl, rfl⟩
        go_wp2
        go_ret
        exact ⟨rfl, p, F, H1.out, K1.out.mono (fun _ h => .inl h), fun _ h => .inl h⟩
      · have e : armS s ((k : Nat) : Int) picks = ({ s with left := k, picks := picks }, 0) := by simp [armS, hon, hk]
        rw [e]; clear e
        have hk1 : 0 < k := by omega
        have H1 := hide h1
        have K1 := hide k1
        have Hv1 := hide hv1
        clear h1 k1 hv1 hk
        go_enter Try.func17, Try.ntmps17
        go_wp2_with fail
        refine hp.mono ?_
        rintro e w' ⟨rfl, rfl⟩
        go_wp2_with fail
        refine (own_any _ _ _ Hv1.out hpk).mono ?_
        rintro e w1 ⟨v1, rfl, ho1, hb1⟩
        have hs1 := hb1.size
        have hlt1 := ho1.lt
        have h2 := H1.out.mono hb1
        have hgl := h.gl
        have hml := h.ml
        have hsz : ((w.setCell ⟨g, 2, none⟩ (.int .i64 0)).setCell ⟨g, 3, none⟩ (.slice none 0 0)).heap.size = w.heap.size := by simp
        rw [hsz] at hlt1 hs1
        have h3 := h2.widen (F' := fun k => F k ∨ v1.ownBlock = some k) (fun _ h => .inl h) (by rintro (e | e); exact h.Fg e; have := hlt1 _ e; omega) (by rintro (e | e); exact h.Fm e; have := hlt1 _ e; omega)
          (by rintro k (e | e); exact h2.Fl k e; exact (hlt1 _ e).2)
        have h4 := (h3.store2 (l := k) (by omega)).store3 (u := v1) (l := picks) ((Keeps.setCell (S := fun k => k = g) w1 rfl _).bs (Bs.of_owns ho1 hv.lt) (fun b hb e => by have := hlt1 _ hb; have e' : b = g := e; omega)) hpk
          (fun b hb => ⟨.inr hb, fun e => by
            obtain ⟨pv, pvs, _, hW⟩ := h.c1
            have := h.Fl b (hW.pF b e); have := hlt1 _ hb; omega⟩)
        have K4 := hide ((((K1.out.trans (Keeps.of_below hb1)).trans (keeps_set w1 g 2 (.int .i64 ((k : Nat) : Int)))).trans (keeps_set _ g 3 v1)).mono (T := Own g m F) (fun _ h => .inl h))
        have c2' := h3.c2
        obtain ⟨v3', c3', _⟩ := h3.c3
        have f2' := h3.f2
        have f3' := h3.f3
        have H4 := hide h4
        obtain ⟨ao1, cap1, rfl⟩ := owns_slice ho1
        clear h4 h3 h2 ho1 hb1
        go_wp2
        go_ret
        exact ⟨rfl, p, _, H4.out, K4.out, fun k hk => hk.imp id (fun h => (hlt1 _ h).1)⟩

set_option maxRecDepth 100000 in
set_option maxHeartbeats 1000000 in
theorem rarm0_yes {w : World} {g : Nat} {q p : Option Nat} {F : Nat → Prop} {n : Nat} {s : St} (h : Dr w g q p F n s) (i : Int) (vp : Value) (picks : List Nat) (hv : Bs w vp picks) (hvg : 0 < picks.length → ∀ b, vp.ownBlock = some b → b ≠ g) (hpk : picks.length ≤ 140737488355328) (hi' : i ≤ 9223372036854775807) :
    Calls Try.prog 37 #[.pointer (some ⟨g, 0, none⟩), .int .i64 i, vp] w fun e w' => e = .returned (.int .i64 (armS s i picks).2) ∧ TurnR w g F n (armS s i picks).1 w' := by
  obtain ⟨i0, hi, hz0, hz1, hz2⟩ := info_parts Try.info5
  have c2 := h.c2
  cases hon : s.on with
  | false =>
    have e : armS s i picks = (s, 5) := by simp [armS, hon]
    rw [e]; clear e
    rw [hon] at c2
    clear hon
    go_enter Try.func37, Try.ntmps37
    go_wp2
    go_ret
    exact ⟨rfl, q, p, F, h, Keeps.refl _ _, fun _ h => .inl h⟩
  | true =>
    rw [hon] at c2
    by_cases h0 : i < 0
    · have e : armS s i picks = (s, 1) := by simp [armS, hon, h0]
      rw [e]; clear e
      clear hon
      go_enter Try.func37, Try.ntmps37
      go_wp2
      go_ret
      exact ⟨rfl, q, p, F, h, Keeps.refl _ _, fun _ h => .inl h⟩
    · obtain ⟨k, rfl⟩ := Int.eq_ofNat_of_zero_le (show 0 ≤ i by omega)
      obtain ⟨st, hst⟩ : ∃ st, (armS s (k : Int) picks).1 = st := ⟨_, rfl⟩
      have he : (armS s (k : Int) picks).2 = 0 := by
        have h3 : ¬ ((k : Int) < 0) := by omega
        by_cases hk : k = 0
        · simp [armS, hon, hk]
        · simp [armS, hon, hk, h3]
      have c4 := h.c4
      have f4 := h.f4
      have f5 := h.f5
      obtain ⟨pk, h4, _⟩ := h.store4 (l := k) (by omega)
      have k4 := keeps_set w g 4 (.int .i64 ((k : Nat) : Int))
      have hv4 := keeps_bs0 k4 hv hvg
      have hgl := h.gl
      obtain ⟨v5, pk5, c5, _⟩ := h4.c5
      have f54 := h4.f5
      have H4 := hide h4
      have Hst := hide hst
      have Hon := hide hon
      rw [hst, he]
      clear hst he h4 hon
      have hz4 : (w.setCell ⟨g, 4, none⟩ (.int .i64 ((k : Nat) : Int))).heap.size = w.heap.size := by simp
      obtain ⟨w4, hw4⟩ : ∃ w4, w.setCell ⟨g, 4, none⟩ (.int .i64 ((k : Nat) : Int)) = w4 := ⟨_, rfl⟩
      rw [hw4] at hv4 c5 f54 H4 k4 hz4
      have hfz : w4.frozen? ⟨g, 5, none⟩ = false := f54
      have hgl4 : g < w4.heap.size := by omega
      go_enter Try.func37, Try.ntmps37
      go_wp2_with (at_builtin; refine wpList_append_bs _ rfl (.const (.slice none 0 0)) (.tmp 18) 31 rfl w.heap.size 5 i0 (.int .u8 0) Try.underlying31 hi hz0 hz1 hz2 rfl _ 0 [] rfl (World.ownsRow_nil _ _ _ _) _ picks rfl hv4 (by omega) (by omega) ?_; intro v1 w1 hown hgrow; have hb1 := (show Below w4.heap.size w4 w1 from (Below.refl _ _).grown hgrow (Nat.le_refl _) (by intro k hk; cases hk)); have c51 := (Keeps.of_below (S := fun _ => False) hb1).cell c5 id; have f51 := (show w1.frozen? ⟨g, 5, none⟩ = false by rw [hb1.frozen (p := ⟨g, 5, none⟩) hgl4]; exact f54); rw [Nat.zero_add, List.nil_append] at hown; obtain ⟨ao1, cap1, rfl⟩ := owns_slice hown)
      have hlt1 := hown.lt
      have h1 := H4.out.mono hb1
      have hs1 := hb1.size
      have h2 := h1.widen (F' := fun k => F k ∨ (Value.slice ao1 picks.length cap1).ownBlock = some k) (fun _ h => .inl h) (by rintro (e | e); exact h.Fg e; have := hlt1 _ e; omega) (by rintro k (e | e); exact h1.Fl k e; exact (hlt1 _ e).2)
      obtain ⟨v1', vs1', _, hW1, _⟩ := h.c1
      have h3 := h2.store5 (u := .slice ao1 picks.length cap1) (l := picks) (Bs.of_owns hown hv.lt) hpk (fun b hb => ⟨.inr hb, fun e => by have := h.Fl b (hW1.pF b e); have := hlt1 _ hb; omega, fun e => by have := h.Fl b (h.qF b e).1; have := hlt1 _ hb; omega⟩)
      have hfin : Dr (w1.setCell ⟨g, 5, none⟩ (.slice ao1 picks.length cap1)) g q p (fun k => F k ∨ (Value.slice ao1 picks.length cap1).ownBlock = some k) n st := by
        rw [← Hst.out]
        by_cases hk : k = 0
        · subst hk
          have e : (armS s ((0 : Nat) : Int) picks).1 = { s with left := 0, picks := [] } := by simp [armS, Hon.out]
          rw [e]
          exact h3.picks [] rfl (by simp)
        · have h9 : ¬ ((k : Int) < 0) := by omega
          have e : (armS s ((k : Nat) : Int) picks).1 = { s with left := k, picks := picks } := by simp [armS, Hon.out, hk, h9]
          rw [e]
          exact h3
      have kf : Keeps (OwnR g F) w (w1.setCell ⟨g, 5, none⟩ (.slice ao1 picks.length cap1)) := ((k4.trans (Keeps.of_below hb1)).trans (keeps_set w1 g 5 _)).mono (fun _ h => .inl h)
      have Hfin := hide hfin
      have Kf := hide kf
      clear hfin kf h3 h2 h1 hown hgrow
      go_wp2
      go_ret
      exact ⟨rfl, q, p, _, Hfin.out, Kf.out, fun k hk => hk.imp id (fun h => by have := (hlt1 _ h).1; omega)⟩

end Go.Proofs.Ytjcobealnjkkcaa
