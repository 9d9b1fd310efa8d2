/- A ring on its disk; contract: Append, the ways in which nothing is done. -/
import Derived.Test.YtjhbljkoapbkfaaGreatM17
import Derived.Test.YtjhbljkoapbkfaaGreatM18
set_option linter.unusedSimpArgs false
set_option linter.unusedVariables false

namespace Go.Proofs.YtjhbljkoapbkfaaGreat
open Go.RowKit Go.Attic Go.Shelf

/-- A ring on its disk. -/
structure RD (w : World) (r g m : Nat) (p : Option Nat) (F Fr : Nat → Prop) (n base blocks head : Nat) (s : St) (rs : List Rc) : Prop where
  dk : Dk w g m p F n s
  rk : Rk w r g base blocks head Fr rs
  rO : ¬ Own g m F r
  ap : ∀ k, Fr k → ¬ Own g m F k
  fit : base + blocks ≤ n

def OwnR (r g m : Nat) (F Fr : Nat → Prop) (k : Nat) : Prop := Own g m F k ∨ k = r ∨ Fr k
def RTurn (w : World) (r g m : Nat) (F Fr : Nat → Prop) (n base blocks head : Nat) (s : St) (rs : List Rc) (w' : World) : Prop :=
  ∃ p' F' Fr', RD w' r g m p' F' Fr' n base blocks head s rs ∧ Keeps (OwnR r g m F Fr) w w' ∧ ∀ k, F' k ∨ Fr' k → F k ∨ Fr k ∨ w.heap.size ≤ k

theorem RD.keeps {w w' : World} {r g m : Nat} {p : Option Nat} {F Fr S : Nat → Prop} {n base blocks head : Nat} {s : St} {rs : List Rc} (h : RD w r g m p F Fr n base blocks head s rs) (hk : Keeps S w w') (hS : ∀ k, OwnR r g m F Fr k → ¬ S k) : RD w' r g m p F Fr n base blocks head s rs :=
  ⟨h.dk.keeps hk (hS g (.inl (.inl rfl))) (hS m (.inl (.inr (.inl rfl)))) (fun k hk => hS k (.inl (.inr (.inr hk)))), h.rk.keeps hk (hS r (.inr (.inl rfl))) (fun k hk => hS k (.inr (.inr hk))), h.rO, h.ap, h.fit⟩
theorem RD.mono {w w' : World} {r g m : Nat} {p : Option Nat} {F Fr : Nat → Prop} {n base blocks head : Nat} {s : St} {rs : List Rc} (h : RD w r g m p F Fr n base blocks head s rs) (hb : Below w.heap.size w w') : RD w' r g m p F Fr n base blocks head s rs :=
  h.keeps (S := fun _ => False) (Keeps.of_below hb) (fun _ _ => id)
theorem RD.still {w w' : World} {r g m : Nat} {p : Option Nat} {F Fr : Nat → Prop} {n base blocks head : Nat} {s : St} {rs : List Rc} (h : RD w r g m p F Fr n base blocks head s rs) (hb : Below w.heap.size w w') : RTurn w r g m F Fr n base blocks head s rs w' :=
  ⟨p, F, Fr, h.mono hb, Keeps.of_below hb, fun k hk => by rcases hk with h | h; exact .inl h; exact .inr (.inl h)⟩

/-- One more record is held. -/
theorem Rk.pushed {w w2 : World} {r g base blocks head : Nat} {F : Nat → Prop} {rs : List Rc} (h : Rk w r g base blocks head F rs) {p : Option Nat} {v v' u : Value} {vs : List Value} {x : Rc} (c4 : w.cell? ⟨r, 4, none⟩ = some v) (hW : Rw w p F v rs vs) (k2 : Keeps (fun k => p = some k) w w2)
    (ho : w2.ownsRow 0 52 5 v' (rs.length + 1) (cellsR rs vs ++ x.cells u)) (hkin : ∀ k, v'.ownBlock = some k → p = some k ∨ w.heap.size ≤ k) (hu : Bs w2 u x.l) (hup : 0 < x.l.length → ∀ k, u.ownBlock = some k → v'.ownBlock ≠ some k ∧ w.heap.size ≤ k) (hl : rs.length + 1 ≤ 4 * blocks) (hx : okRc x) :
    Rk (w2.setCell ⟨r, 4, none⟩ v') r g base blocks head (fun k => (F k ∨ w.heap.size ≤ k) ∧ k < w2.heap.size) (rs ++ [x]) := by
  have hpr : ¬ (fun k => p = some k) r := fun e => h.Fr (hW.pF r e)
  have hrl := h.rl
  have kS : Keeps (fun k => k = r) w2 (w2.setCell ⟨r, 4, none⟩ v') := keeps_set w2 r 4 v'
  have hsz := k2.size
  have hrw := (hW.snoc h.Fl k2 ho hkin hu (fun hp k hk => (hup hp k hk).1)).narrow
  have hrw2 : Rw w2 v'.ownBlock (fun k => (F k ∨ w.heap.size ≤ k) ∧ k < w2.heap.size) v' (rs ++ [x]) (vs ++ [u]) := by
    refine ⟨hrw.row, hrw.own, hrw.len, fun b hb => ⟨?_, (hrw.pF b hb).2⟩, fun i hi hv => ⟨(hrw.bs i hi hv).1, fun hp b hb => ⟨⟨?_, ((hrw.bs i hi hv).2 hp b hb).1.2⟩, ((hrw.bs i hi hv).2 hp b hb).2⟩⟩⟩
    · rcases hkin b hb with e | e
      · exact .inl (hW.pF b e)
      · exact .inr e
    · by_cases hil : i < rs.length
      · have h1 : i < vs.length := by have := hW.len; omega
        simp only [List.getElem_append_left hil] at hp
        simp only [List.getElem_append_left h1] at hb
        exact .inl ((hW.bs i hil h1).2 hp b hb).1
      · have e1 : i = rs.length := by simp at hi; omega
        subst e1
        have e2 : rs.length = vs.length := hW.len.symm
        have g1 : (rs ++ [x])[rs.length]'(by simp) = x := by simp
        have g2 : (vs ++ [u])[rs.length]'(by simp [e2]) = u := by simp [e2]
        rw [g1] at hp
        rw [g2] at hb
        exact .inr (hup hp b hb).2
  refine ⟨cell_set_other (k2.cell h.c0 hpr) (by omega), cell_set_other (k2.cell h.c1 hpr) (by omega), cell_set_other (k2.cell h.c2 hpr) (by omega), cell_set_other (k2.cell h.c3 hpr) (by omega), ⟨_, v', _, cell_set_same (k2.cell c4 hpr), hrw2.keeps kS (fun k hk e => ?_)⟩, ?_, ?_, ?_, fun k hk => by simpa using hk.2, h.b1, h.b2, h.b3, h.hd, by simpa using hl, fun y hy => ?_⟩
  · have e' : k = r := e
    rcases hk.1 with h' | h'
    · exact h.Fr (e' ▸ h')
    · omega
  · simpa [k2.frozen (a := ⟨r, 3, none⟩) hrl hpr] using h.f3
  · simpa [k2.frozen (a := ⟨r, 4, none⟩) hrl hpr] using h.f4
  · rintro ⟨h' | h', _⟩
    · exact h.Fr h'
    · omega
  · simp only [List.mem_append, List.mem_singleton] at hy
    rcases hy with hy | rfl
    · exact h.ok y hy
    · exact hx

theorem okRc_len {x : Rc} (h : okRc x) : x.l.length ≤ 44 := by
  obtain ⟨k, b, o, m, l⟩ := x
  obtain ⟨k', b', o', m', h1, h2, h3, h4⟩ := okR_nat h
  dsimp only at h1 h2 h3 h4
  subst h1 h2 h3 h4
  exact (okR_range h).2.2.2.2.2

set_option maxRecDepth 100000 in
set_option maxHeartbeats 1000000 in
theorem app_bad {w : World} {r g m : Nat} {p : Option Nat} {F Fr : Nat → Prop} {n base blocks head : Nat} {s : St} {rs : List Rc} (h : RD w r g m p F Fr n base blocks head s rs) (v : Value) (l : List Rc) (Fl : Nat → Prop) (hL : Rs w Fl v l) (hlen : l.length ≤ 140737488355328) (j : Nat) (hj : j < l.length) (hok : ∀ i (hi : i < l.length), i < j → okRc l[i]) (hbad : ¬ okRc l[j]) (hlens : ∀ x ∈ l, x.l.length ≤ 140737488355328) :
    Calls Tryz.prog 14 #[.pointer (some ⟨r, 0, none⟩), v] w fun e w' => e = .returned (.int .i64 60) ∧ Below w.heap.size w w' := by
  have hR := h.rk
  have hb1 := hR.b1
  have hb2 := hR.b2
  have hb3 := hR.b3
  have hhd := hR.hd
  have hln := hR.ln
  have hm := gMade_yes hR
  have hrl := hR.rl
  obtain ⟨ao, cap, hv, hcap⟩ := hL.slice
  obtain ⟨L, hLL⟩ : ∃ L, l.length = L := ⟨_, rfl⟩
  rw [hLL] at hv hcap hlen
  subst hv
  have HLL := hide hLL
  have HL := hide hL
  have H := hide h
  have HR := hide hR
  clear hLL hL h hR
  go_enter Tryz.func14, Tryz.ntmps14
  go_wp2_with fail
  refine hm.mono ?_
  rintro e w' ⟨rfl, rfl⟩
  clear hm
  go_wp2_with fail
  have hj' : j < L := by have := HLL.out; omega
  go_loopw [16] (fun i wr => ∃ k : Nat, k ≤ j ∧ i = .int .i64 (k : Int) ∧ Below w.heap.size w wr) (fun i _ => L - (intOf i).toNat)
  case atStart => exact ⟨0, Nat.zero_le _, rfl, Below.refl _ _⟩
  case round =>
    obtain ⟨k, hk, rfl, hbr⟩ := hrel
    have hkl : k < l.length := by omega
    have hkL : k < L := by omega
    obtain ⟨-, lb, lo, u, rfl, hFb, hat, hub, huF⟩ := (HL.out.mono hbr).at k hkl
    have hlx := hlens _ (List.getElem_mem hkl)
    by_cases hkj : k < j
    · have hokr := hok k hkl hkj
      generalize l[k] = x at *
      obtain ⟨uao, ucap, rfl, -⟩ := id hub
      have x0 := hat.c0
      have x1 := hat.c1
      have x2 := hat.c2
      have x3 := hat.c3
      have x4 := hat.c4
      have hch := fun W => check_any x.k x.b x.o x.m x.l.length ucap uao W (by omega)
      simp only [chkR_ok hokr] at hch
      clear hat hub
      go_wp2_with fail
      refine (hch _).mono ?_
      rintro e w4 ⟨rfl, hb4⟩
      go_wp2_with fail
      go_roundw
      case rel => exact ⟨k + 1, by omega, by go_num, (hbr.alloc hbr.size _).trans (hb4.mono (by have := hbr.size; simp; omega))⟩
      case measure => simp [intOf]; omega
    · obtain rfl : k = j := by omega
      generalize l[k] = x at *
      obtain ⟨uao, ucap, rfl, -⟩ := id hub
      have x0 := hat.c0
      have x1 := hat.c1
      have x2 := hat.c2
      have x3 := hat.c3
      have x4 := hat.c4
      have hch := fun W => check_any x.k x.b x.o x.m x.l.length ucap uao W (by omega)
      simp only [chkR_no hbad] at hch
      clear hat hub
      go_wp2_with fail
      refine (hch _).mono ?_
      rintro e w4 ⟨rfl, hb4⟩
      go_wp2_with fail
      go_ret
      exact ⟨by simp, (hbr.alloc hbr.size _).trans (hb4.mono (by have := hbr.size; simp; omega))⟩

set_option maxRecDepth 100000 in
set_option maxHeartbeats 1000000 in
theorem app_ring {w : World} {r g m : Nat} {p : Option Nat} {F Fr : Nat → Prop} {n base blocks head : Nat} {s : St} {rs : List Rc} (h : RD w r g m p F Fr n base blocks head s rs) (v : Value) (l : List Rc) (Fl : Nat → Prop) (hL : Rs w Fl v l) (hlen : l.length ≤ 140737488355328) (hok : ∀ x ∈ l, okRc x) (hroom : 4 * blocks < rs.length + l.length) :
    Calls Tryz.prog 14 #[.pointer (some ⟨r, 0, none⟩), v] w fun e w' => e = .returned (.int .i64 70) ∧ Below w.heap.size w w' := by
  have hR := h.rk
  have hb1 := hR.b1
  have hb2 := hR.b2
  have hb3 := hR.b3
  have hhd := hR.hd
  have hln := hR.ln
  have hm := gMade_yes hR
  have hrl := hR.rl
  obtain ⟨ao, cap, hv, hcap⟩ := hL.slice
  obtain ⟨L, hLL⟩ : ∃ L, l.length = L := ⟨_, rfl⟩
  rw [hLL] at hv hcap hlen
  subst hv
  have HLL := hide hLL
  have HL := hide hL
  have H := hide h
  have HR := hide hR
  clear hLL hL h hR
  go_enter Tryz.func14, Tryz.ntmps14
  go_wp2_with fail
  refine hm.mono ?_
  rintro e w' ⟨rfl, rfl⟩
  clear hm
  go_wp2_with fail
  go_loopw [16] (fun i wr => ∃ k : Nat, k ≤ L ∧ i = .int .i64 (k : Int) ∧ Below w.heap.size w wr) (fun i _ => L - (intOf i).toNat)
  case atStart => exact ⟨0, Nat.zero_le _, rfl, Below.refl _ _⟩
  case round =>
    obtain ⟨k, hk, rfl, hbr⟩ := hrel
    by_cases hkL : k < L
    · have hkl : k < l.length := by have := HLL.out; omega
      obtain ⟨-, lb, lo, u, rfl, hFb, hat, hub, huF⟩ := (HL.out.mono hbr).at k hkl
      have hokr := hok _ (List.getElem_mem hkl)
      generalize l[k] = x at *
      obtain ⟨uao, ucap, rfl, -⟩ := id hub
      have x0 := hat.c0
      have x1 := hat.c1
      have x2 := hat.c2
      have x3 := hat.c3
      have x4 := hat.c4
      have hulen : x.l.length ≤ 44 := okRc_len hokr
      have hch := fun W => check_any x.k x.b x.o x.m x.l.length ucap uao W (by omega)
      simp only [chkR_ok hokr] at hch
      clear hat hub
      go_wp2_with fail
      refine (hch _).mono ?_
      rintro e w4 ⟨rfl, hb4⟩
      go_wp2_with fail
      go_roundw
      case rel => exact ⟨k + 1, by omega, by go_num, (hbr.alloc hbr.size _).trans (hb4.mono (by have := hbr.size; simp; omega))⟩
      case measure => simp [intOf]; omega
    · obtain rfl : k = L := by omega
      clear hk hkL
      have hroomY := room_yes (HR.out.mono hbr)
      have hro2 : ((4 * blocks - rs.length : Nat) : Int) < (k : Int) := by have := HLL.out; omega
      generalize 4 * blocks - rs.length = rm at *
      go_wp2_with fail
      refine hroomY.mono ?_
      rintro e w4 ⟨rfl, nd, rfl⟩
      go_wp2_with fail
      go_ret
      exact ⟨by simp, below_drewN hbr _⟩

set_option maxRecDepth 100000 in
set_option maxHeartbeats 1000000 in
theorem app_long {w : World} {r g m : Nat} {p : Option Nat} {F Fr : Nat → Prop} {n base blocks head : Nat} {s : St} {rs : List Rc} (h : RD w r g m p F Fr n base blocks head s rs) (v : Value) (l : List Rc) (Fl : Nat → Prop) (hL : Rs w Fl v l) (hlen : l.length ≤ 140737488355328) (hok : ∀ x ∈ l, okRc x) (hroom : rs.length + l.length ≤ 4 * blocks) (hlong : 1152921504606846976 < head + rs.length + l.length) :
    Calls Tryz.prog 14 #[.pointer (some ⟨r, 0, none⟩), v] w fun e w' => e = .returned (.int .i64 3) ∧ Below w.heap.size w w' := by
  have hR := h.rk
  have hb1 := hR.b1
  have hb2 := hR.b2
  have hb3 := hR.b3
  have hhd := hR.hd
  have hln := hR.ln
  have hm := gMade_yes hR
  have hrl := hR.rl
  obtain ⟨ao, cap, hv, hcap⟩ := hL.slice
  obtain ⟨L, hLL⟩ : ∃ L, l.length = L := ⟨_, rfl⟩
  rw [hLL] at hv hcap hlen
  subst hv
  have HLL := hide hLL
  have HL := hide hL
  have H := hide h
  have HR := hide hR
  clear hLL hL h hR
  go_enter Tryz.func14, Tryz.ntmps14
  go_wp2_with fail
  refine hm.mono ?_
  rintro e w' ⟨rfl, rfl⟩
  clear hm
  go_wp2_with fail
  go_loopw [16] (fun i wr => ∃ k : Nat, k ≤ L ∧ i = .int .i64 (k : Int) ∧ Below w.heap.size w wr) (fun i _ => L - (intOf i).toNat)
  case atStart => exact ⟨0, Nat.zero_le _, rfl, Below.refl _ _⟩
  case round =>
    obtain ⟨k, hk, rfl, hbr⟩ := hrel
    by_cases hkL : k < L
    · have hkl : k < l.length := by have := HLL.out; omega
      obtain ⟨-, lb, lo, u, rfl, hFb, hat, hub, huF⟩ := (HL.out.mono hbr).at k hkl
      have hokr := hok _ (List.getElem_mem hkl)
      generalize l[k] = x at *
      obtain ⟨uao, ucap, rfl, -⟩ := id hub
      have x0 := hat.c0
      have x1 := hat.c1
      have x2 := hat.c2
      have x3 := hat.c3
      have x4 := hat.c4
      have hulen : x.l.length ≤ 44 := okRc_len hokr
      have hch := fun W => check_any x.k x.b x.o x.m x.l.length ucap uao W (by omega)
      simp only [chkR_ok hokr] at hch
      clear hat hub
      go_wp2_with fail
      refine (hch _).mono ?_
      rintro e w4 ⟨rfl, hb4⟩
      go_wp2_with fail
      go_roundw
      case rel => exact ⟨k + 1, by omega, by go_num, (hbr.alloc hbr.size _).trans (hb4.mono (by have := hbr.size; simp; omega))⟩
      case measure => simp [intOf]; omega
    · obtain rfl : k = L := by omega
      clear hk hkL
      have hroomY := room_yes (HR.out.mono hbr)
      have hro : ¬ ((4 * blocks - rs.length : Nat) : Int) < (k : Int) := by have := HLL.out; omega
      generalize 4 * blocks - rs.length = rm at *
      have htail := fun nd => tail_yes ((HR.out.mono hbr).mono (below_drewN (Below.refl _ _) nd))
      have hlo : (1152921504606846976 : Int) < ((head + rs.length : Nat) : Int) + (k : Int) := by have := HLL.out; omega
      have hlo2 : ((head + rs.length : Nat) : Int) + (k : Int) ≤ 1152921504606846976 + 1024 := by have := HLL.out; omega
      generalize head + rs.length = tl at *
      go_wp2_with fail
      refine hroomY.mono ?_
      rintro e w4 ⟨rfl, nd, rfl⟩
      go_wp2_with fail
      refine (htail nd).mono ?_
      rintro e w4 ⟨rfl, nd2, rfl⟩
      go_wp2_with fail
      go_ret
      exact ⟨by simp, below_drewN hbr _⟩


end Go.Proofs.YtjhbljkoapbkfaaGreat
