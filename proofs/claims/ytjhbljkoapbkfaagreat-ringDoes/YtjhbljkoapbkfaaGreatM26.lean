/- Contract: Trim. Contract: Arm, whatever a slice without elements points at. A log in which no number is as great as the next lap's. -/
import Derived.Test.YtjhbljkoapbkfaaGreatM25
import Derived.Test.YtjhbljkoapbkfaaGreatM10
import Derived.Test.YtjhbljkoapbkfaaGreatM22
set_option linter.unusedSimpArgs false
set_option linter.unusedVariables false

namespace Go.Proofs.YtjhbljkoapbkfaaGreat
open Go.RowKit Go.Attic Go.Shelf

/-- A ring from which the first records were let go. -/
theorem Rk.trimmed {w w2 : World} {r g base blocks head : Nat} {F : Nat → Prop} {rs : List Rc} (h : Rk w r g base blocks head F rs) {p : Option Nat} {v v' : Value} {vs : List Value} {k : Nat} (c4 : w.cell? ⟨r, 4, none⟩ = some v) (hW : Rw w p F v rs vs) (k2 : Keeps (fun b => p = some b) w w2)
    (hW2 : Rw w2 p F v' (rs.drop k) (vs.drop k)) (hk : k ≤ rs.length) (hh : head + k ≤ 1152921504606846976) : Rk ((w2.setCell ⟨r, 4, none⟩ v').setCell ⟨r, 3, none⟩ (.int .i64 ((head + k : Nat) : Int))) r g base blocks (head + k) F (rs.drop k) := by
  have hpr : ¬ (fun b => p = some b) r := fun e => h.Fr (hW.pF r e)
  have hrl := h.rl
  have kS : Keeps (fun b => b = r) w2 ((w2.setCell ⟨r, 4, none⟩ v').setCell ⟨r, 3, none⟩ (.int .i64 ((head + k : Nat) : Int))) := (keeps_set w2 r 4 v').trans (keeps_set _ r 3 _)
  refine ⟨cell_set_other (cell_set_other (k2.cell h.c0 hpr) (by omega)) (by omega), cell_set_other (cell_set_other (k2.cell h.c1 hpr) (by omega)) (by omega), cell_set_other (cell_set_other (k2.cell h.c2 hpr) (by omega)) (by omega), cell_set_same (cell_set_other (k2.cell h.c3 hpr) (by omega)),
    ⟨p, v', vs.drop k, cell_set_other (cell_set_same (k2.cell c4 hpr)) (by omega), hW2.keeps kS (fun b hb e => by have e' : b = r := e; exact h.Fr (e' ▸ hb))⟩, ?_, ?_, h.Fr, fun b hb => ?_, h.b1, h.b2, h.b3, hh, by have := h.ln; simp; omega, fun x hx => h.ok x (List.mem_of_mem_drop hx)⟩
  · simpa [k2.frozen (a := ⟨r, 3, none⟩) hrl hpr] using h.f3
  · simpa [k2.frozen (a := ⟨r, 4, none⟩) hrl hpr] using h.f4
  · have := h.Fl b hb
    have := k2.size
    simp
    omega

set_option maxRecDepth 100000 in
set_option maxHeartbeats 600000 in
theorem trim_yes {w : World} {r g m : Nat} {p : Option Nat} {F Fr : Nat → Prop} {n base blocks head : Nat} {s : St} {rs : List Rc} (h : RD w r g m p F Fr n base blocks head s rs) (k : Nat) (hk : k ≤ rs.length) (hh : head + k ≤ 1152921504606846976) :
    Calls Tryz.prog 24 #[.pointer (some ⟨r, 0, none⟩), .int .i64 ((head + k : Nat) : Int)] w fun e w' => e = .returned (.int .i64 0) ∧ RTurn w r g m F Fr n base blocks (head + k) s (rs.drop k) w' := by
  have hR := h.rk
  have hm := gMade_yes hR
  have hhd := head_yes hR
  have htl := tail_yes hR
  obtain ⟨pw, pv, vs, c4, hW⟩ := hR.c4
  obtain ⟨pao, pcap, rfl⟩ := owns_slice hW.row
  have c3 := hR.c3
  have f3 := hR.f3
  have f4 := hR.f4
  have hrl := hR.rl
  have hlen : rs.length ≤ 1024 := by have := hR.ln; have := hR.b2; omega
  have hdel : ∀ W, Below w.heap.size w W → Calls Tryz.prog 60 #[.slice pao rs.length pcap, .int .i64 0, .int .i64 (k : Int)] W fun e w' => ∃ v', e = .returned v' ∧ Rw w' pw Fr v' (rs.drop k) (vs.drop k) ∧ Keeps (fun b => pw = some b) W w' := fun W hB => delete_any (hW.mono hB) k hk (by omega)
  have hpr : ¬ (fun b => pw = some b) r := fun e => hR.Fr (hW.pF r e)
  have hsub : ((head + k : Nat) : Int) - (head : Int) = (k : Int) := by omega
  have hge : ¬ ((head + k : Nat) : Int) < (head : Int) := by omega
  have hle : ¬ ((head + rs.length : Nat) : Int) < ((head + k : Nat) : Int) := by omega
  have H := hide h
  have HW := hide hW
  obtain ⟨hk', hhk⟩ : ∃ x : Nat, head + k = x := ⟨_, rfl⟩
  obtain ⟨tl, htle⟩ : ∃ x : Nat, head + rs.length = x := ⟨_, rfl⟩
  have hb1 : hk' ≤ 1152921504606846976 := by omega
  rw [hhk] at hsub hge hle ⊢
  rw [htle] at hle htl
  have Hhk := hide hhk
  have Hsub := hide hsub
  have hsub2 : IntKind.i64.wrap ((hk' : Int) - (head : Int)) = (k : Int) := by rw [hsub]; exact wrap_small (by omega)
  clear h hW hR hhk htle
  go_enter Tryz.func24, Tryz.ntmps24
  go_wp2_with fail
  refine hm.mono ?_
  rintro e w' ⟨rfl, rfl⟩
  go_wp2_with fail
  refine hhd.mono ?_
  rintro e w' ⟨rfl, rfl⟩
  go_wp2_with fail
  refine htl.mono ?_
  rintro e w' ⟨rfl, nd, rfl⟩
  have hbX : Below w.heap.size w (w.drewN nd) := below_drewN (Below.refl _ _) _
  have c3' : (w.drewN nd).cell? ⟨r, 3, none⟩ = some (.int .i64 (head : Int)) := c3
  have c4' : (w.drewN nd).cell? ⟨r, 4, none⟩ = some (.slice pao rs.length pcap) := c4
  have f3' : (w.drewN nd).frozen? ⟨r, 3, none⟩ = false := f3
  have f4' : (w.drewN nd).frozen? ⟨r, 4, none⟩ = false := f4
  clear hm hhd htl
  go_wp2_with fail
  generalize w.drewN nd = X at *
  have hdelX := hdel X.drew hbX.drew
  clear hdel c3 c4 f3 f4 hsub hge hle
  go_region_law (first
    | (go_simp; refine hdelX.mono ?_; rintro e w1 ⟨v1, rfl, hW1, hk1⟩; obtain ⟨ao1, cap1, rfl⟩ := owns_slice hW1.row
       have hk1' : Keeps (fun b => pw = some b) X w1 := (Keeps.drew X).trans hk1
       have c4'' := hk1'.cell c4' hpr
       have f4'' : w1.frozen? ⟨r, 4, none⟩ = false := (by rw [hk1'.frozen (a := ⟨r, 4, none⟩) (Nat.lt_of_lt_of_le hrl hbX.size) hpr]; exact f4')
       have c3'' := hk1'.cell c3' hpr
       have f3'' : w1.frozen? ⟨r, 3, none⟩ = false := (by rw [hk1'.frozen (a := ⟨r, 3, none⟩) (Nat.lt_of_lt_of_le hrl hbX.size) hpr]; exact f3')
       skip))
  all_goals
    have HW1 := hide hW1
    clear hW1 hdelX hk1
    go_wp2_with fail
    go_ret
    have hT := (H.out.rk.mono hbX).trimmed (k := k) c4' (HW.out.mono hbX) hk1' HW1.out hk hh
    rw [Hhk.out, List.length_drop] at hT
    have kT : Keeps (fun b => b = r ∨ Fr b) X ((w1.setCell ⟨r, 4, none⟩ (.slice ao1 (rs.length - k) cap1)).setCell ⟨r, 3, none⟩ (.int .i64 (hk' : Int))) := (hk1'.mono (fun b hb => .inr (HW.out.pF b hb))).trans (((keeps_set w1 r 4 _).mono (fun b hb => .inl hb)).trans ((keeps_set _ r 3 _).mono (fun b hb => .inl hb)))
    have hno : ∀ b, (b = r ∨ Fr b) → ¬ Own g m F b := fun b hb => by
      rcases hb with rfl | hb
      · exact H.out.rO
      · exact H.out.ap b hb
    refine ⟨by simp, p, F, Fr, ⟨?_, ?_, H.out.rO, H.out.ap, H.out.fit⟩, ?_, fun b hb => ?_⟩
    · exact (H.out.dk.mono hbX).keeps kT (fun h => hno _ h (.inl rfl)) (fun h => hno _ h (.inr (.inl rfl))) (fun b hb h => hno b h (.inr (.inr hb)))
    · exact hT
    · exact (Keeps.of_below hbX).trans (kT.mono (fun b hb => Or.inr hb))
    · rcases hb with h | h
      · exact .inl h
      · exact .inr (.inl h)

set_option maxRecDepth 100000 in
set_option maxHeartbeats 400000 in
theorem trim_arg {w : World} {r g base blocks head : Nat} {Fr : Nat → Prop} {rs : List Rc} (hR : Rk w r g base blocks head Fr rs) (x : Int) (hx : x < (head : Int) ∨ ((head + rs.length : Nat) : Int) < x) :
    Calls Tryz.prog 24 #[.pointer (some ⟨r, 0, none⟩), .int .i64 x] w fun e w' => e = .returned (.int .i64 1) ∧ Below w.heap.size w w' := by
  have hm := gMade_yes hR
  have hhd := head_yes hR
  have htl := tail_yes hR
  clear hR
  generalize head + rs.length = tl at *
  by_cases hlt : x < (head : Int)
  · go_enter Tryz.func24, Tryz.ntmps24
    go_wp2_with fail
    refine hm.mono ?_
    rintro e w' ⟨rfl, rfl⟩
    go_wp2_with fail
    refine hhd.mono ?_
    rintro e w' ⟨rfl, rfl⟩
    go_wp2_with fail
    go_ret
    exact ⟨rfl, Below.refl _ _⟩
  · have hgt : (tl : Int) < x := by rcases hx with h | h; exact absurd h hlt; exact h
    go_enter Tryz.func24, Tryz.ntmps24
    go_wp2_with fail
    refine hm.mono ?_
    rintro e w' ⟨rfl, rfl⟩
    go_wp2_with fail
    refine hhd.mono ?_
    rintro e w' ⟨rfl, rfl⟩
    go_wp2_with fail
    refine htl.mono ?_
    rintro e w' ⟨rfl, nd, rfl⟩
    go_wp2_with fail
    go_ret
    exact ⟨rfl, below_drewN (Below.refl _ _) _⟩


end Go.Proofs.YtjhbljkoapbkfaaGreat

namespace Go.Proofs.YtjhbljkoapbkfaaGreat
open Go.RowKit Go.Attic

theorem keeps_bs0 {S : Nat → Prop} {w w' : World} (h : Keeps S w w') {v : Value} {l : List Nat} (hb : Bs w v l) (hv : 0 < l.length → ∀ b, v.ownBlock = some b → ¬ S b) : Bs w' v l := by
  obtain ⟨ao, cap, rfl, h1, h2, h3, h4⟩ := hb
  refine ⟨ao, cap, rfl, h1, h2, h3, fun hp => ?_⟩
  obtain ⟨b, off, rfl, hc⟩ := h4 hp
  exact ⟨b, off, rfl, fun i hi => h.cell (hc i hi) (hv hp b rfl)⟩

set_option maxRecDepth 100000 in
set_option maxHeartbeats 400000 in
theorem arm0_yes {w : World} {g m : Nat} {p : Option Nat} {F : Nat → Prop} {n : Nat} {s : St} (h : Dk w g m p F n s) (i : Int) (vp : Value) (picks : List Nat) (hv : Bs w vp picks) (hvg : 0 < picks.length → ∀ b, vp.ownBlock = some b → b ≠ g) (hpk : picks.length ≤ 140737488355328) (hi : i ≤ 9223372036854775807) :
    Calls Tryz.prog 22 #[.pointer (some ⟨g, 0, none⟩), .int .i64 i, vp] w fun e w' => e = .returned (.int .i64 (armS s i picks).2) ∧ Turn w g m F n (armS s i picks).1 w' := by
  have hp := powered_yes h
  cases hon : s.on with
  | false =>
    have e : armS s i picks = (s, 5) := by simp [armS, hon]
    rw [e]; clear e
    rw [hon] at hp
    go_enter Tryz.func22, Tryz.ntmps22
    go_wp2_with fail
    refine hp.mono ?_
    rintro e w' ⟨rfl, rfl⟩
    go_wp2
    go_ret
    exact ⟨rfl, p, F, h, Keeps.refl _ _, fun _ h => .inl h⟩
  | true =>
    rw [hon] at hp
    by_cases h0 : i < 0
    · have e : armS s i picks = (s, 1) := by simp [armS, hon, h0]
      rw [e]; clear e
      go_enter Tryz.func22, Tryz.ntmps22
      go_wp2_with fail
      refine hp.mono ?_
      rintro e w' ⟨rfl, rfl⟩
      go_wp2
      go_ret
      exact ⟨rfl, p, F, h, Keeps.refl _ _, fun _ h => .inl h⟩
    · obtain ⟨k, rfl⟩ := Int.eq_ofNat_of_zero_le (show 0 ≤ i by omega)
      have c2 := h.c2
      obtain ⟨v3, c3, _⟩ := h.c3
      have f2 := h.f2
      have f3 := h.f3
      have h1 : Dk ((w.setCell ⟨g, 2, none⟩ (.int .i64 0)).setCell ⟨g, 3, none⟩ (.slice none 0 0)) g m p F n { s with left := 0, picks := [] } := (h.store2 (l := 0) (by omega)).store3 (u := .slice none 0 0) (l := []) (Bs.nil _) (by simp) (by simp [Value.ownBlock])
      have k1 : Keeps (fun k => k = g) w ((w.setCell ⟨g, 2, none⟩ (.int .i64 0)).setCell ⟨g, 3, none⟩ (.slice none 0 0)) := (keeps_set _ _ _ _).trans (keeps_set _ _ _ _)
      have hv1 := keeps_bs0 k1 hv hvg
      by_cases hk : k = 0
      · subst hk
        have e : armS s ((0 : Nat) : Int) picks = ({ s with left := 0, picks := [] }, 0) := by simp [armS, hon]
        rw [e]; clear e
        have H1 := hide h1
        have K1 := hide k1
        clear h1 k1 hv1
        go_enter Tryz.func22, Tryz.ntmps22
        go_wp2_with fail
        refine hp.mono ?_
        rintro e w' ⟨rfl, rfl⟩
        go_wp2
        go_ret
        exact ⟨rfl, p, F, H1.out, K1.out.mono (fun _ h => .inl h), fun _ h => .inl h⟩
      · have e : armS s ((k : Nat) : Int) picks = ({ s with left := k, picks := picks }, 0) := by simp [armS, hon, hk]
        rw [e]; clear e
        have hk1 : 0 < k := by omega
        have H1 := hide h1
        have K1 := hide k1
        have Hv1 := hide hv1
        clear h1 k1 hv1 hk
        go_enter Tryz.func22, Tryz.ntmps22
        go_wp2_with fail
        refine hp.mono ?_
        rintro e w' ⟨rfl, rfl⟩
        go_wp2_with fail
        refine (own_any _ _ _ Hv1.out hpk).mono ?_
        rintro e w1 ⟨v1, rfl, ho1, hb1⟩
        have hs1 := hb1.size
        have hlt1 := ho1.lt
        have h2 := H1.out.mono hb1
        have hgl := h.gl
        have hml := h.ml
        have hsz : ((w.setCell ⟨g, 2, none⟩ (.int .i64 0)).setCell ⟨g, 3, none⟩ (.slice none 0 0)).heap.size = w.heap.size := by simp
        rw [hsz] at hlt1 hs1
        have h3 := h2.widen (F' := fun k => F k ∨ v1.ownBlock = some k) (fun _ h => .inl h) (by rintro (e | e); exact h.Fg e; have := hlt1 _ e; omega) (by rintro (e | e); exact h.Fm e; have := hlt1 _ e; omega)
          (by rintro k (e | e); exact h2.Fl k e; exact (hlt1 _ e).2)
        have h4 := (h3.store2 (l := k) (by omega)).store3 (u := v1) (l := picks) ((Keeps.setCell (S := fun k => k = g) w1 rfl _).bs (Bs.of_owns ho1 hv.lt) (fun b hb e => by have := hlt1 _ hb; have e' : b = g := e; omega)) hpk
          (fun b hb => ⟨.inr hb, fun e => by
            obtain ⟨pv, pvs, _, hW⟩ := h.c1
            have := h.Fl b (hW.pF b e); have := hlt1 _ hb; omega⟩)
        have K4 := hide ((((K1.out.trans (Keeps.of_below hb1)).trans (keeps_set w1 g 2 (.int .i64 ((k : Nat) : Int)))).trans (keeps_set _ g 3 v1)).mono (T := Own g m F) (fun _ h => .inl h))
        have c2' := h3.c2
        obtain ⟨v3', c3', _⟩ := h3.c3
        have f2' := h3.f2
        have f3' := h3.f3
        have H4 := hide h4
        obtain ⟨ao1, cap1, rfl⟩ := owns_slice ho1
        clear h4 h3 h2 ho1 hb1
        go_wp2
        go_ret
        exact ⟨rfl, p, _, H4.out, K4.out, fun k hk => hk.imp id (fun h => (hlt1 _ h).1)⟩



end Go.Proofs.YtjhbljkoapbkfaaGreat

namespace Go.Proofs.YtjhbljkoapbkfaaGreat
open Go.RowKit Go.Attic Go.Shelf

/-- No number from T on stands in a sector. -/
def Low (T : Nat) (_ _ : Nat) (c : List Nat) : Prop := ∀ n, T ≤ n → NoRc c n
theorem Low.mono {T T' b k : Nat} {c : List Nat} (h : Low T b k c) (hT : T ≤ T') : Low T' b k c := fun n hn => h n (by omega)

theorem layN_grows {n base blocks : Nat} : ∀ (f : Nat) (s : St) (t : Nat) (rs : List Rc), (layN n base blocks f s t rs).1.pend.length ≤ s.pend.length + rs.length ∧ (layN n base blocks f s t rs).1.ops ≤ s.ops + rs.length := by
  intro f
  induction f with
  | zero => intro s t rs; simp [layN]
  | succ f ih =>
    intro s t rs
    by_cases h0 : rs.length = 0
    · rw [layN_nil h0]; simp
    · cases hon : s.on with
      | false => rw [layN_off (by omega) hon]; simp
      | true =>
        obtain ⟨c, hc⟩ : ∃ c, min rs.length (4 - t % 4) = c := ⟨_, rfl⟩
        obtain ⟨b, hb⟩ : ∃ b, layB (readL s (base + t / 4 % blocks)) t (rs.take c) = b := ⟨_, rfl⟩
        have hg := writeS_grows s n ((base + t / 4 % blocks : Nat) : Int) b
        by_cases he : (writeS s n ((base + t / 4 % blocks : Nat) : Int) b).2 = 0
        · rw [layN_go (by omega) hon hc hb he]
          have := ih (writeS s n ((base + t / 4 % blocks : Nat) : Int) b).1 (t + c) (rs.drop c)
          simp only [List.length_drop] at this
          omega
        · rw [layN_err (by omega) hon hc hb he]
          omega

/-- Append, whatever the power does: no number is written that is as great as the next lap's. -/
theorem app_low {w : World} {r g m : Nat} {p : Option Nat} {F Fr : Nat → Prop} {n base blocks head : Nat} {s : St} {rs : List Rc} (h : RD w r g m p F Fr n base blocks head s rs) (v : Value) (l : List Rc) (Fl : Nat → Prop) (hL : Rs w Fl v l) (hlen : l.length ≤ 140737488355328) (hlens : ∀ x ∈ l, x.l.length ≤ 140737488355328)
    (hFl : ∀ k, Fl k → k < w.heap.size ∧ ¬ OwnR r g m F Fr k) (hpl : s.pend.length + 2000 ≤ 1000000) (hops : s.ops + 2000 ≤ 1000000) (hall : AllSec n (Low (head + 4 * blocks)) s) :
    ∃ (er : Int) (s' : St) (rs' : List Rc), AllSec n (Low (head + 4 * blocks)) s' ∧ s'.pend.length ≤ s.pend.length + 1024 ∧ s'.ops ≤ s.ops + 1024 ∧ Calls Tryz.prog 14 #[.pointer (some ⟨r, 0, none⟩), v] w fun e w' => e = .returned (.int .i64 er) ∧ RTurn w r g m F Fr n base blocks head s' rs' w' := by
  rcases first_bad l with hok | ⟨j, hj, h1, h2⟩
  · by_cases hro : 4 * blocks < rs.length + l.length
    · exact ⟨70, s, rs, hall, by omega, by omega, (app_ring h v l Fl hL hlen hok hro).mono (fun e w' hh => ⟨hh.1, h.still hh.2⟩)⟩
    · by_cases hlo : 1152921504606846976 < head + rs.length + l.length
      · exact ⟨3, s, rs, hall, by omega, by omega, (app_long h v l Fl hL hlen hok (by omega) hlo).mono (fun e w' hh => ⟨hh.1, h.still hh.2⟩)⟩
      · have hb2 := h.rk.b2
        have hA := lay_all (n := n) (base := base) (blocks := blocks) (Q := Low (head + 4 * blocks)) h.rk.b1 h.fit l.length s (head + rs.length) l h.dk.ok hall hok hL.lt (fun i hi N hN r' hr' => by
          have := (hr'.one (secRc_is (n := head + rs.length + i) (hok _ (List.getElem_mem hi)) (by omega) (hL.lt _ (List.getElem_mem hi)))).1
          omega)
        have hG := layN_grows (n := n) (base := base) (blocks := blocks) l.length s (head + rs.length) l
        by_cases hz : (layN n base blocks l.length s (head + rs.length) l).2 = 0
        · exact ⟨0, _, rs ++ l, hA, by omega, by omega, app_ok h v l Fl hL hlen hFl hpl hops hok (by omega) (by omega) hz⟩
        · exact ⟨_, _, rs, hA, by omega, by omega, app_err h v l Fl hL hlen hFl hpl hops hok (by omega) (by omega) hz⟩
  · exact ⟨60, s, rs, hall, by omega, by omega, (app_bad h v l Fl hL hlen j hj h1 h2 hlens).mono (fun e w' hh => ⟨hh.1, h.still hh.2⟩)⟩

theorem low_new (n T : Nat) : AllSec n (Low T) (newS n) := newS_all n _ (fun b k hb hk N hN => zeros_no N)
theorem AllSec.low {n T T' : Nat} {s : St} (h : AllSec n (Low T) s) (hT : T ≤ T') : AllSec n (Low T') s := h.mono (fun b k c hc => Low.mono (b := b) (k := k) hc hT)

/-- From T on nothing is held. -/
theorem scanned_low {n base blocks T head : Nat} {s : St} {rs : List Rc} (h : AllSec n (Low T) s) (hT : T ≤ head) (hb : 1 ≤ blocks) (hfit : base + blocks ≤ n) (hsc : Scanned (secAt s base blocks) head (4 * blocks) rs) : rs = [] := by
  refine hsc.one ⟨fun i hi => by simp at hi, by simp, .inr ?_⟩
  have hlt : (head + 0) / 4 % blocks < blocks := Nat.mod_lt _ (by omega)
  show NoRc (secAt s base blocks (head + 0)) (head + 0)
  unfold secAt
  rw [← secOf_mod]
  exact view_all h (b := base + (head + 0) / 4 % blocks) (k := (head + 0) % 4) (by omega) (by omega) _ (by omega)


end Go.Proofs.YtjhbljkoapbkfaaGreat
