/- Contract: Append, where the disk has an error; Sync. -/
import Derived.Test.YtjhbljkoapbkfaaL9
set_option linter.unusedSimpArgs false
set_option linter.unusedVariables false
namespace Go.Proofs.Ytjhbljkoapbkfaa
open Go.RowKit Go.Attic Go.Shelf
set_option maxRecDepth 100000 in
set_option maxHeartbeats 1000000 in
theorem app_err {w : World} {r g m : Nat} {p : Option Nat} {F Fr : Nat → Prop} {n base blocks head : Nat} {s : St} {rs : List Rc} (h : RD w r g m p F Fr n base blocks head s rs) (v : Value) (l : List Rc) (Fl : Nat → Prop) (hL : Rs w Fl v l) (hlen : l.length ≤ 140737488355328) (hFl : ∀ k, Fl k → k < w.heap.size ∧ ¬ OwnR r g m F Fr k) (hpl : s.pend.length + 2000 ≤ 1000000) (hops : s.ops + 2000 ≤ 1000000) (hok : ∀ x ∈ l, okRc x) (hroom : rs.length + l.length ≤ 4 * blocks) (hlong : head + rs.length + l.length ≤ 1152921504606846976) (hzz : ¬ (layN n base blocks l.length s (head + rs.length) l).2 = 0) :
    Calls Try.prog 10 #[.pointer (some ⟨r, 0, none⟩), v] w fun e w' => e = .returned (.int .i64 (layN n base blocks l.length s (head + rs.length) l).2) ∧ RTurn w r g m F Fr n base blocks head (layN n base blocks l.length s (head + rs.length) l).1 rs w' := by
  have hR := h.rk
  have hb1 := hR.b1
  have hb2 := hR.b2
  have hb3 := hR.b3
  have hhd := hR.hd
  have hln := hR.ln
  have hm := gMade_yes hR
  have hrl := hR.rl
  obtain ⟨ao, cap, hv, hcap⟩ := hL.slice
  obtain ⟨L, hLL⟩ : ∃ L, l.length = L := ⟨_, rfl⟩
  rw [hLL] at hv hcap hlen
  subst hv
  have HLL := hide hLL
  have HL := hide hL
  have H := hide h
  have HR := hide hR
  clear hLL hL h hR
  go_enter Try.func10, Try.ntmps10
  go_wp2_with fail
  refine hm.mono ?_
  rintro e w' ⟨rfl, rfl⟩
  clear hm
  go_wp2_with fail
  go_loopw [16] (fun i wr => ∃ k : Nat, k ≤ L ∧ i = .int .i64 (k : Int) ∧ Below w.heap.size w wr) (fun i _ => L - (intOf i).toNat)
  case atStart => exact ⟨0, Nat.zero_le _, rfl, Below.refl _ _⟩
  case round =>
    obtain ⟨k, hk, rfl, hbr⟩ := hrel
    by_cases hkL : k < L
    · have hkl : k < l.length := by have := HLL.out; omega
      obtain ⟨-, lb, lo, u, rfl, hFb, hat, hub, huF⟩ := (HL.out.mono hbr).at k hkl
      have hokr := hok _ (List.getElem_mem hkl)
      generalize l[k] = x at *
      obtain ⟨uao, ucap, rfl, -⟩ := id hub
      have x0 := hat.c0
      have x1 := hat.c1
      have x2 := hat.c2
      have x3 := hat.c3
      have x4 := hat.c4
      have hulen : x.l.length ≤ 44 := okRc_len hokr
      have hch := fun W => check_any x.k x.b x.o x.m x.l.length ucap uao W (by omega)
      simp only [chkR_ok hokr] at hch
      clear hat hub
      go_wp2_with fail
      refine (hch _).mono ?_
      rintro e w4 ⟨rfl, hb4⟩
      go_wp2_with fail
      go_roundw
      case rel => exact ⟨k + 1, by omega, by go_num, (hbr.alloc hbr.size _).trans (hb4.mono (by have := hbr.size; simp; omega))⟩
      case measure => simp [intOf]; omega
    · obtain rfl : k = L := by omega
      clear hk hkL
      have hroomY := room_yes (HR.out.mono hbr)
      have hro : ¬ ((4 * blocks - rs.length : Nat) : Int) < (k : Int) := by have := HLL.out; omega
      have htail := fun nd => tail_yes ((HR.out.mono hbr).mono (below_drewN (Below.refl _ _) nd))
      have hlo : ((head + rs.length : Nat) : Int) + (k : Int) ≤ 1152921504606846976 := by have := HLL.out; omega
      obtain ⟨Z, hZ⟩ : ∃ Z, layN n base blocks l.length s (head + rs.length) l = Z := ⟨_, rfl⟩
      have hlay : ∀ W, Below w.heap.size w W → Calls Try.prog 32 #[.agg #[.pointer (some ⟨g, 0, none⟩), .int .i64 (base : Int), .int .i64 (blocks : Int)], .int .i64 ((head + rs.length : Nat) : Int), .slice ao k cap] W fun e w' => e = .returned (.int .i64 Z.2) ∧ Turn W g m F n Z.1 w' := by
        intro W hB
        have q := lay_any (H.out.dk.mono hB) hpl hops base blocks (head + rs.length) hb1 hb2 H.out.fit (by omega) _ l Fl (HL.out.mono hB) (fun b hb => ⟨Nat.lt_of_lt_of_le (hFl b hb).1 hB.size, fun h' => (hFl b hb).2 (.inl h')⟩) (by have := HLL.out; omega) hok
        rw [hZ] at q
        exact q
      rw [hZ] at hzz
      have HZ := hide hZ
      generalize 4 * blocks - rs.length = rm at *
      obtain ⟨tl, htl⟩ : ∃ tl, head + rs.length = tl := ⟨_, rfl⟩
      rw [htl] at htail hlo hlay
      have Htl := hide htl
      clear htl
      have hRr := HR.out.mono hbr
      have c0 := hRr.c0
      have c1 := hRr.c1
      have c2 := hRr.c2
      clear hZ hRr
      go_wp2_with fail
      refine hroomY.mono ?_
      rintro e w4 ⟨rfl, nd, rfl⟩
      go_wp2_with fail
      refine (htail nd).mono ?_
      rintro e w4 ⟨rfl, nd2, rfl⟩
      have htail2 : ∀ W, Below w.heap.size w W → Calls Try.prog 15 #[.pointer (some ⟨r, 0, none⟩)] W fun e w' => e = .returned (.int .i64 (tl : Int)) ∧ ∃ n, W.drewN n = w' := fun W hB => (tail_yes (HR.out.mono hB)).mono (by
        rintro e w' ⟨rfl, hh⟩
        exact ⟨by rw [Htl.out], hh⟩)
      have hbX : Below w.heap.size w (wr.drewN (nd + nd2)) := below_drewN hbr _
      have d0 : (wr.drewN (nd + nd2)).cell? ⟨r, 0, none⟩ = some (.pointer (some ⟨g, 0, none⟩)) := c0
      have d1 : (wr.drewN (nd + nd2)).cell? ⟨r, 1, none⟩ = some (.int .i64 (base : Int)) := c1
      have d2 : (wr.drewN (nd + nd2)).cell? ⟨r, 2, none⟩ = some (.int .i64 (blocks : Int)) := c2
      clear hroomY htail c0 c1 c2
      go_wp2_with fail
      generalize wr.drewN (nd + nd2) = X at *
      have hbXd : Below w.heap.size w X.drew := hbX.drew
      have hrXo : ¬ Own g m F r := H.out.rO
      go_region_held3 (fun w' => w'.cell? ⟨r, 0, none⟩ = some (.pointer (some ⟨g, 0, none⟩)) ∧ w'.cell? ⟨r, 1, none⟩ = some (.int .i64 (base : Int)) ∧ w'.cell? ⟨r, 2, none⟩ = some (.int .i64 (blocks : Int)))
        (first | exact ⟨d0, d1, d2⟩ | exact ⟨hkY.cell d0 hrXo, hkY.cell d1 hrXo, hkY.cell d2 hrXo⟩)
        (first
        | (go_at_call 15; refine (htail2 _ hbXd).mono ?_; rintro e X1 ⟨rfl, n1, rfl⟩)
        | (go_at_call 32; refine (hlay _ (below_drewN hbX (1 + n1))).mono ?_; rintro e Y ⟨rfl, pY, FY, hDY, hkY, hFY⟩; obtain ⟨ze, hze⟩ : ∃ ze, Z.2 = ze := ⟨_, rfl⟩; rw [hze]))
      have hkXY : Keeps (Own g m F) X Y := (Keeps.drewN X (1 + n1)).trans hkY
      have hzX : w.heap.size ≤ X.heap.size := hbX.size
      have hRY := (HR.out.mono hbX).keeps hkXY hrXo (fun b hb => H.out.ap b hb)
      have hFY' : ∀ b, FY b → F b ∨ w.heap.size ≤ b := fun b hb => (hFY b hb).imp id (fun h => by have e : (X.drewN (1 + n1)).heap.size = X.heap.size := rfl; omega)
      have hLY : Rs Y Fl (.slice ao k cap) l := (HL.out.mono hbX).keeps hkXY (fun b hb h' => (hFl b hb).2 (.inl h'))
      rename_i hHeld
      have HDY := hide hDY
      have HRY := hide hRY
      have HLY := hide hLY
      clear hHeld hDY hRY hLY hlay htail2 d0 d1 d2 hkY
      have hzn : (ze != 0) = true := by rw [← hze]; simpa using hzz
      have Hze := hide hze
      clear hze
      go_wp2_with fail
      go_ret
      rw [HZ.out]
      have hFw := H.out.dk.Fl
      have hFrw := HR.out.Fl
      have hYo : ∀ b, b < w.heap.size → Own g m FY b → Own g m F b := fun b hbw hb => by
        rcases hb with hb | hb | hb
        · exact .inl hb
        · exact .inr (.inl hb)
        · rcases hFY' b hb with h' | h'
          · exact .inr (.inr h')
          · omega
      refine ⟨by rw [Hze.out]; rfl, pY, FY, Fr, ⟨HDY.out, HRY.out, fun h' => hrXo (hYo r hrl h'), fun b hb h' => H.out.ap b hb (hYo b (hFrw b hb) h'), H.out.fit⟩, (Keeps.of_below hbX).trans (hkXY.mono (fun b hb => .inl hb)), ?_⟩
      intro b hb
      rcases hb with hb | hb
      · rcases hFY' b hb with h' | h'
        · exact .inl h'
        · exact .inr (.inr h')
      · exact .inr (.inl hb)

theorem RD.turn {w w' : World} {r g m : Nat} {p : Option Nat} {F Fr : Nat → Prop} {n base blocks head : Nat} {s s' : St} {rs : List Rc} (h : RD w r g m p F Fr n base blocks head s rs) (ht : Turn w g m F n s' w') : RTurn w r g m F Fr n base blocks head s' rs w' := by
  obtain ⟨p', F', hD, hk, hF'⟩ := ht
  have hrl := h.rk.rl
  have hFrw := h.rk.Fl
  have hYo : ∀ b, b < w.heap.size → Own g m F' b → Own g m F b := fun b hbw hb => by
    rcases hb with hb | hb | hb
    · exact .inl hb
    · exact .inr (.inl hb)
    · rcases hF' b hb with h' | h'
      · exact .inr (.inr h')
      · omega
  refine ⟨p', F', Fr, ⟨hD, h.rk.keeps hk h.rO h.ap, fun h' => h.rO (hYo r hrl h'), fun b hb h' => h.ap b hb (hYo b (hFrw b hb) h'), h.fit⟩, hk.mono (fun b hb => .inl hb), fun b hb => ?_⟩
  rcases hb with hb | hb
  · rcases hF' b hb with h' | h'
    · exact .inl h'
    · exact .inr (.inr h')
  · exact .inr (.inl hb)

set_option maxRecDepth 100000 in
set_option maxHeartbeats 400000 in
theorem sync_yes {w : World} {r g m : Nat} {p : Option Nat} {F Fr : Nat → Prop} {n base blocks head : Nat} {s : St} {rs : List Rc} (h : RD w r g m p F Fr n base blocks head s rs) (hpl : s.pend.length ≤ 1000000) (ho : s.ops ≤ 1000000) :
    Calls Try.prog 11 #[.pointer (some ⟨r, 0, none⟩)] w fun e w' => e = .returned (.int .i64 (flushS s).2) ∧ RTurn w r g m F Fr n base blocks head (flushS s).1 rs w' := by
  have hm := gMade_yes h.rk
  have c0 := h.rk.c0
  have hf := flush_yes h.dk hpl ho
  have H := hide h
  obtain ⟨X, hX⟩ : ∃ X, flushS s = X := ⟨_, rfl⟩
  rw [hX] at hf ⊢
  clear h hX
  go_enter Try.func11, Try.ntmps11
  go_wp2_with fail
  refine hm.mono ?_
  rintro e w' ⟨rfl, rfl⟩
  go_wp2_with fail
  refine hf.mono ?_
  rintro e w' ⟨rfl, ht⟩
  go_wp2_with fail
  go_ret
  exact ⟨by simp, H.out.turn ht⟩

end Go.Proofs.Ytjhbljkoapbkfaa
