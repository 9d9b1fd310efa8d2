/- The document's ring on its disk (WD); contract: its Append. -/
import Derived.Test.YtjhbljkoapbkfaaGreatM28
import Derived.Test.YtjhbljkoapbkfaaGreatM33
set_option linter.unusedSimpArgs false
set_option linter.unusedVariables false

namespace Go.Proofs.YtjhbljkoapbkfaaGreat
open Go.RowKit Go.Attic Go.Shelf

/-- The document's ring on its disk. -/
structure WD (w : World) (x g : Nat) (q p : Option Nat) (F Fx : Nat → Prop) (n base blocks head : Nat) (s : St) (rs : List Rc) : Prop where
  dk : Dr w g q p F n s
  rk : Wk w x g base blocks head Fx rs
  xO : ¬ OwnX g F x
  ap : ∀ k, Fx k → ¬ OwnX g F k
  fit : base + blocks ≤ n

def WTurn (w : World) (x g : Nat) (F Fx Fl : Nat → Prop) (n base blocks head : Nat) (s : St) (rs : List Rc) (w' : World) : Prop :=
  ∃ q' p' F' Fx', WD w' x g q' p' F' Fx' n base blocks head s rs ∧ Keeps (fun k => OwnX g F k ∨ k = x) w w' ∧ (∀ k, F' k → F k ∨ w.heap.size ≤ k) ∧ ∀ k, Fx' k → Fx k ∨ Fl k ∨ w.heap.size ≤ k

theorem WD.keeps {w w' : World} {x g : Nat} {q p : Option Nat} {F Fx S : Nat → Prop} {n base blocks head : Nat} {s : St} {rs : List Rc} (h : WD w x g q p F Fx n base blocks head s rs) (hk : Keeps S w w') (hS : ∀ k, OwnX g F k ∨ k = x ∨ Fx k → ¬ S k) : WD w' x g q p F Fx n base blocks head s rs :=
  ⟨h.dk.keeps hk (hS g (.inl (.inl rfl))) (fun k hk => hS k (.inl (.inr hk))), h.rk.keeps hk (hS x (.inr (.inl rfl))) (fun k hk => hS k (.inr (.inr hk))), h.xO, h.ap, h.fit⟩
theorem WD.mono {w w' : World} {x g : Nat} {q p : Option Nat} {F Fx : Nat → Prop} {n base blocks head : Nat} {s : St} {rs : List Rc} (h : WD w x g q p F Fx n base blocks head s rs) (hb : Below w.heap.size w w') : WD w' x g q p F Fx n base blocks head s rs :=
  h.keeps (S := fun _ => False) (Keeps.of_below hb) (fun _ _ => id)
theorem WD.still {w w' : World} {x g : Nat} {q p : Option Nat} {F Fx Fl : Nat → Prop} {n base blocks head : Nat} {s : St} {rs : List Rc} (h : WD w x g q p F Fx n base blocks head s rs) (hb : Below w.heap.size w w') : WTurn w x g F Fx Fl n base blocks head s rs w' :=
  ⟨q, p, F, Fx, h.mono hb, Keeps.of_below hb, fun k hk => .inl hk, fun k hk => .inl hk⟩

/-- The disk was turned. -/
theorem WD.turn {w w' : World} {x g : Nat} {q p : Option Nat} {F Fx Fl : Nat → Prop} {n base blocks head : Nat} {s s' : St} {rs : List Rc} (h : WD w x g q p F Fx n base blocks head s rs) (ht : TurnX w g F n s' w') : WTurn w x g F Fx Fl n base blocks head s' rs w' := by
  obtain ⟨q', p', F', h1, h2, h3⟩ := ht
  have hxl := h.rk.xl
  have key : ∀ k, k < w.heap.size → ¬ OwnX g F k → ¬ OwnX g F' k := fun k hk hn ho => by
    rcases ho with e | e
    · exact hn (.inl e)
    · rcases h3 k e with e | e
      · exact hn (.inr e)
      · omega
  exact ⟨q', p', F', Fx, ⟨h1, h.rk.keeps h2 h.xO h.ap, key x hxl h.xO, fun k hk => key k (h.rk.Fl k hk) (h.ap k hk), h.fit⟩, h2.mono (fun k hk => .inl hk), h3, fun k hk => .inl hk⟩

theorem rbytes_ok (n : Nat) (r : Rc) (hn : n ≤ 2305843009213693952) (h : okRc r) (v : Value) (w : World) (hv : Bs w v r.l) :
    Calls Tryz.prog 53 #[.int .i64 (n : Int), .agg #[.int .i64 r.k, .int .i64 r.b, .int .i64 r.o, v, .int .i64 r.m]] w (NewBsE w (secRc n r) 0) := by
  obtain ⟨k, b, o, m, l⟩ := r
  obtain ⟨k', b', o', m', h1, h2, h3, h4⟩ := okR_nat h
  dsimp only at h1 h2 h3 h4 hv
  subst h1 h2 h3 h4
  exact rbytes_yes n k' b' o' m' v l w hv hn h

set_option maxRecDepth 100000 in
set_option maxHeartbeats 1000000 in
theorem rapp_bad {w : World} {x g : Nat} {q p : Option Nat} {F Fx : Nat → Prop} {n base blocks head : Nat} {s : St} {rs : List Rc} (h : WD w x g q p F Fx n base blocks head s rs) (v : Value) (l : List Rc) (Fl : Nat → Prop) (hL : Rs w Fl v l) (hlen : l.length ≤ 140737488355328) (j : Nat) (hj : j < l.length) (hok : ∀ i (hi : i < l.length), i < j → okRc l[i]) (hbad : ¬ okRc l[j]) (hlens : ∀ x ∈ l, x.l.length ≤ 140737488355328) :
    Calls Tryz.prog 19 #[.pointer (some ⟨x, 0, none⟩), v] w fun e w' => e = .returned (.int .i64 60) ∧ Below w.heap.size w w' := by
  have hR := h.rk
  have hb1 := hR.b1
  have hb2 := hR.b2
  have hb3 := hR.b3
  have hhd := hR.hd
  have hln := hR.ln
  obtain ⟨ao, cap, hv, hcap⟩ := hL.slice
  obtain ⟨L, hLL⟩ : ∃ L, l.length = L := ⟨_, rfl⟩
  rw [hLL] at hv hcap hlen
  subst hv
  have HLL := hide hLL
  have HL := hide hL
  have H := hide h
  clear hLL hL h hR
  have hj' : j < L := by have := HLL.out; omega
  go_enter Tryz.func19, Tryz.ntmps19
  go_wp2_with fail
  go_loopw [5] (fun i wr => ∃ k : Nat, k ≤ j ∧ i = .int .i64 (k : Int) ∧ Below w.heap.size w wr) (fun i _ => L - (intOf i).toNat)
  case atStart => exact ⟨0, Nat.zero_le _, rfl, Below.refl _ _⟩
  case round =>
    obtain ⟨k, hk, rfl, hbr⟩ := hrel
    have hkl : k < l.length := by omega
    have hkL : k < L := by omega
    obtain ⟨-, lb, lo, u, rfl, hFb, hat, hub, huF⟩ := (HL.out.mono hbr).at k hkl
    have hlx := hlens _ (List.getElem_mem hkl)
    by_cases hkj : k < j
    · have hokr := hok k hkl hkj
      generalize l[k] = y at *
      obtain ⟨uao, ucap, rfl, -⟩ := id hub
      have x0 := hat.c0
      have x1 := hat.c1
      have x2 := hat.c2
      have x3 := hat.c3
      have x4 := hat.c4
      have hch := fun W => rcheck_any y.k y.b y.o y.m y.l.length ucap uao W (by have := okRc_len hokr; omega)
      simp only [chkR_ok hokr] at hch
      clear hat hub
      go_wp2_with fail
      refine (hch _).mono ?_
      rintro e w4 ⟨rfl, hb4⟩
      go_wp2_with fail
      go_roundw
      case rel => exact ⟨k + 1, by omega, by go_num, hbr.trans (hb4.mono hbr.size)⟩
      case measure => simp [intOf]; omega
    · obtain rfl : k = j := by omega
      generalize l[k] = y at *
      obtain ⟨uao, ucap, rfl, -⟩ := id hub
      have x0 := hat.c0
      have x1 := hat.c1
      have x2 := hat.c2
      have x3 := hat.c3
      have x4 := hat.c4
      have hch := fun W => rcheck_any y.k y.b y.o y.m y.l.length ucap uao W (by omega)
      simp only [chkR_no hbad] at hch
      clear hat hub
      go_wp2_with fail
      refine (hch _).mono ?_
      rintro e w4 ⟨rfl, hb4⟩
      go_wp2_with fail
      go_ret
      exact ⟨by simp, hbr.trans (hb4.mono hbr.size)⟩

set_option maxRecDepth 100000 in
set_option maxHeartbeats 1000000 in
theorem rapp_ring {w : World} {x g : Nat} {q p : Option Nat} {F Fx : Nat → Prop} {n base blocks head : Nat} {s : St} {rs : List Rc} (h : WD w x g q p F Fx n base blocks head s rs) (v : Value) (l : List Rc) (Fl : Nat → Prop) (hL : Rs w Fl v l) (hlen : l.length ≤ 140737488355328) (hok : ∀ x ∈ l, okRc x) (hroom : 4 * blocks < rs.length + l.length) :
    Calls Tryz.prog 19 #[.pointer (some ⟨x, 0, none⟩), v] w fun e w' => e = .returned (.int .i64 70) ∧ Below w.heap.size w w' := by
  have hR := h.rk
  have hb1 := hR.b1
  have hb2 := hR.b2
  have hb3 := hR.b3
  have hhd := hR.hd
  have hln := hR.ln
  obtain ⟨ao, cap, hv, hcap⟩ := hL.slice
  obtain ⟨L, hLL⟩ : ∃ L, l.length = L := ⟨_, rfl⟩
  rw [hLL] at hv hcap hlen
  subst hv
  have HLL := hide hLL
  have HL := hide hL
  have H := hide h
  clear hLL hL h hR
  go_enter Tryz.func19, Tryz.ntmps19
  go_wp2_with fail
  go_loopw [5] (fun i wr => ∃ k : Nat, k ≤ L ∧ i = .int .i64 (k : Int) ∧ Below w.heap.size w wr) (fun i _ => L - (intOf i).toNat)
  case atStart => exact ⟨0, Nat.zero_le _, rfl, Below.refl _ _⟩
  case round =>
    obtain ⟨k, hk, rfl, hbr⟩ := hrel
    by_cases hkL : k < L
    · have hkl : k < l.length := by have := HLL.out; omega
      obtain ⟨-, lb, lo, u, rfl, hFb, hat, hub, huF⟩ := (HL.out.mono hbr).at k hkl
      have hokr := hok _ (List.getElem_mem hkl)
      generalize l[k] = y at *
      obtain ⟨uao, ucap, rfl, -⟩ := id hub
      have x0 := hat.c0
      have x1 := hat.c1
      have x2 := hat.c2
      have x3 := hat.c3
      have x4 := hat.c4
      have hch := fun W => rcheck_any y.k y.b y.o y.m y.l.length ucap uao W (by have := okRc_len hokr; omega)
      simp only [chkR_ok hokr] at hch
      clear hat hub
      go_wp2_with fail
      refine (hch _).mono ?_
      rintro e w4 ⟨rfl, hb4⟩
      go_wp2_with fail
      go_roundw
      case rel => exact ⟨k + 1, by omega, by go_num, hbr.trans (hb4.mono hbr.size)⟩
      case measure => simp [intOf]; omega
    · obtain rfl : k = L := by omega
      clear hk hkL
      have hroomY := rroom_yes (H.out.mono hbr).rk
      have hro : ((4 * blocks - rs.length : Nat) : Int) < (k : Int) := by have := HLL.out; omega
      generalize 4 * blocks - rs.length = rm at *
      go_wp2_with fail
      refine hroomY.mono ?_
      rintro e w4 ⟨rfl, nd, rfl⟩
      go_wp2_with fail
      go_ret
      exact ⟨by simp, below_drewN hbr _⟩

set_option maxRecDepth 100000 in
set_option maxHeartbeats 1000000 in
theorem rapp_long {w : World} {x g : Nat} {q p : Option Nat} {F Fx : Nat → Prop} {n base blocks head : Nat} {s : St} {rs : List Rc} (h : WD w x g q p F Fx n base blocks head s rs) (v : Value) (l : List Rc) (Fl : Nat → Prop) (hL : Rs w Fl v l) (hlen : l.length ≤ 140737488355328) (hok : ∀ x ∈ l, okRc x) (hroom : rs.length + l.length ≤ 4 * blocks) (hlong : 1152921504606846976 < head + rs.length + l.length) :
    Calls Tryz.prog 19 #[.pointer (some ⟨x, 0, none⟩), v] w fun e w' => e = .returned (.int .i64 3) ∧ Below w.heap.size w w' := by
  have hR := h.rk
  have hb1 := hR.b1
  have hb2 := hR.b2
  have hb3 := hR.b3
  have hhd := hR.hd
  have hln := hR.ln
  obtain ⟨ao, cap, hv, hcap⟩ := hL.slice
  obtain ⟨L, hLL⟩ : ∃ L, l.length = L := ⟨_, rfl⟩
  rw [hLL] at hv hcap hlen
  subst hv
  have HLL := hide hLL
  have HL := hide hL
  have H := hide h
  clear hLL hL h hR
  go_enter Tryz.func19, Tryz.ntmps19
  go_wp2_with fail
  go_loopw [5] (fun i wr => ∃ k : Nat, k ≤ L ∧ i = .int .i64 (k : Int) ∧ Below w.heap.size w wr) (fun i _ => L - (intOf i).toNat)
  case atStart => exact ⟨0, Nat.zero_le _, rfl, Below.refl _ _⟩
  case round =>
    obtain ⟨k, hk, rfl, hbr⟩ := hrel
    by_cases hkL : k < L
    · have hkl : k < l.length := by have := HLL.out; omega
      obtain ⟨-, lb, lo, u, rfl, hFb, hat, hub, huF⟩ := (HL.out.mono hbr).at k hkl
      have hokr := hok _ (List.getElem_mem hkl)
      generalize l[k] = y at *
      obtain ⟨uao, ucap, rfl, -⟩ := id hub
      have x0 := hat.c0
      have x1 := hat.c1
      have x2 := hat.c2
      have x3 := hat.c3
      have x4 := hat.c4
      have hch := fun W => rcheck_any y.k y.b y.o y.m y.l.length ucap uao W (by have := okRc_len hokr; omega)
      simp only [chkR_ok hokr] at hch
      clear hat hub
      go_wp2_with fail
      refine (hch _).mono ?_
      rintro e w4 ⟨rfl, hb4⟩
      go_wp2_with fail
      go_roundw
      case rel => exact ⟨k + 1, by omega, by go_num, hbr.trans (hb4.mono hbr.size)⟩
      case measure => simp [intOf]; omega
    · obtain rfl : k = L := by omega
      clear hk hkL
      have hroomY := rroom_yes (H.out.mono hbr).rk
      have hro : ¬ ((4 * blocks - rs.length : Nat) : Int) < (k : Int) := by have := HLL.out; omega
      have htail := fun nd => rtail_yes ((H.out.mono hbr).mono (below_drewN (Below.refl _ _) nd)).rk
      have hlo : (1152921504606846976 : Int) - ((head + rs.length : Nat) : Int) < (k : Int) := by have := HLL.out; omega
      have hlo2 : -9223372036854775808 ≤ (1152921504606846976 : Int) - ((head + rs.length : Nat) : Int) := by omega
      generalize 4 * blocks - rs.length = rm at *
      generalize head + rs.length = tl at *
      go_wp2_with fail
      refine hroomY.mono ?_
      rintro e w4 ⟨rfl, nd, rfl⟩
      go_wp2_with fail
      refine (htail nd).mono ?_
      rintro e w4 ⟨rfl, nd2, rfl⟩
      go_wp2_with fail
      go_ret
      exact ⟨by simp, below_drewN hbr _⟩

end Go.Proofs.YtjhbljkoapbkfaaGreat
