/- Contracts: slices.Clone of records, All. Contract: Open, where the power is on. -/
import Derived.Test.YtjhbljkoapbkfaaGreatM16
import Derived.Stop.RegionWithIn
set_option linter.unusedSimpArgs false
set_option linter.unusedVariables false

namespace Go.Proofs.YtjhbljkoapbkfaaGreat
open Go.RowKit Go.Attic Go.Shelf

attribute [local go_sem] Oper.semAt_some

set_option maxRecDepth 100000 in
set_option maxHeartbeats 1000000 in
theorem cloneR_any {w : World} {p : Option Nat} {F : Nat → Prop} {v : Value} {rs : List Rc} {vs : List Value} (h : Rw w p F v rs vs) (hlen : rs.length ≤ 4096) :
    Calls Tryz.prog 69 #[v] w fun e w' => ∃ v', e = .returned v' ∧ w'.ownsRow w.heap.size 52 5 v' rs.length (cellsR rs vs) ∧ Below w.heap.size w w' := by
  obtain ⟨i0, hi, hz0, hz1, hz2⟩ := info_parts Tryz.info52
  have hrow := h.row
  have hcl := cellsR_length rs vs h.len
  have hone := cellsR_one rs vs h.slices
  rcases hrow.2 with ⟨rfl, h0⟩ | ⟨b, cap, cur, rfl, _, hg, hnc, hcm, hcs, htake⟩
  · have hps : rs = [] := List.eq_nil_of_length_eq_zero h0
    subst hps
    have hnil : ∀ w, (binOp .eql 29 (.slice none 0 0) (.slice none 0 0)).run Tryz.prog w = .ok (.bool true) w := fun w => Lib.run_eql_slice_nil (P := Tryz.prog) w 29 52 none 0 0 0 0 Tryz.underlying29
    clear h hrow hcl hone
    go_enter Tryz.func69, Tryz.ntmps69
    go_wp2
    go_ret
    exact ⟨_, rfl, by simpa [cellsR] using World.ownsRow_nil _ _ _ _, Below.refl _ _⟩
  · have hnil := fun w => Lib.run_eql_slice_nil (P := Tryz.prog) w 29 52 (some ⟨b, 0, none⟩) rs.length cap 0 0 Tryz.underlying29
    have hcells : ∀ j u, (cellsR rs vs)[j]? = some u → (w.alloc (.cells #[] 52)).cell? ((⟨b, 0, none⟩ : Addr).add j) = some u := fun j u hu => (Keeps.alloc (S := fun _ => False) w _).cell (hrow.cells (g := b) rfl j u hu) id
    clear hg htake hcs h hrow
    go_enter Tryz.func69, Tryz.ntmps69
    go_wp2_with (at_builtin; refine wpList_append_own _ rfl (.tmp 5) (.tmp 6) 29 rfl w.heap.size 52 i0 (.agg #[.int .i64 0, .int .i64 0, .int .i64 0, .slice none 0 0, .int .i64 0]) 5 56 Tryz.underlying29 hi hz0 hz1 hz2 rfl (by decide) _ 0 [] rfl (World.ownsRow_lit w #[] 0 (Nat.le_refl _) (by simp) (by simp)) ⟨b, 0, none⟩ rs.length cap (cellsR rs vs) rfl hcl hcells hone (by unfold maxLen; omega) (by omega) (by simp) ?_; intro v' w1 hown hgrow _)
    have hb : Below w.heap.size w w1 := ((Below.refl _ _).alloc (Nat.le_refl _) _).grown hgrow (by simp) (by intro k hk; have e : some w.heap.size = some k := hk; injection e with e; omega)
    rw [Nat.zero_add, List.nil_append] at hown
    go_ret
    exact ⟨_, rfl, hown, hb⟩

/-- The function that All hands back: its records, as they were then. -/
def AllIt (w0 w : World) (F : Nat → Prop) (head : Nat) (rs : List Rc) (f : Value) : Prop :=
  ∃ ba bf v vs, f = .func (.func 70) #[] #[.pointer (some ⟨ba, 0, none⟩), .pointer (some ⟨bf, 0, none⟩)] ∧ w0.heap.size ≤ ba ∧ w0.heap.size ≤ bf ∧ Boxed w ba 29 v ∧ Boxed w bf 2 (.int .i64 (head : Int)) ∧
    w.ownsRow w0.heap.size 52 5 v rs.length (cellsR rs vs) ∧ vs.length = rs.length ∧ ∀ i (hi : i < rs.length) (hv : i < vs.length), Bs w vs[i] (rs[i]).l ∧ (0 < (rs[i]).l.length → ∀ b, vs[i].ownBlock = some b → F b)

set_option maxRecDepth 100000 in
set_option maxHeartbeats 400000 in
theorem all_yes {w : World} {r g base blocks head : Nat} {F : Nat → Prop} {rs : List Rc} (h : Rk w r g base blocks head F rs) :
    Calls Tryz.prog 45 #[.pointer (some ⟨r, 0, none⟩)] w fun e w' => ∃ f, e = .returned f ∧ AllIt w w' F head rs f ∧ Below w.heap.size w w' := by
  obtain ⟨w1, hw1⟩ : ∃ w1, (w.alloc (.cells #[.int .i64 0] 2)).alloc (.cells #[.slice none 0 0] 29) = w1 := ⟨_, rfl⟩
  have hb1 : Below w.heap.size w w1 := by rw [← hw1]; exact ((Below.refl _ w).alloc (Nat.le_refl _) _).alloc (by simp) _
  have hz1 : w1.heap.size = w.heap.size + 2 := by rw [← hw1]; simp
  have b0 : Boxed w1 w.heap.size 2 (.int .i64 0) := by rw [← hw1]; exact (Boxed.new w 2 _).alloc _
  have b1 : Boxed w1 (w.heap.size + 1) 29 (.slice none 0 0) := by rw [← hw1]; simpa using Boxed.new (w.alloc (.cells #[.int .i64 0] 2)) 29 (.slice none 0 0)
  have h1 := h.mono hb1
  obtain ⟨p, pv, vs, c4, hW⟩ := h1.c4
  obtain ⟨pao, pcap, rfl⟩ := owns_slice hW.row
  have c3 := h1.c3
  have hm := gMade_yes h1
  have hFl := h.Fl
  have hrl := h.rl
  have hlen : rs.length ≤ 4096 := by have := h.ln; have := h.b2; omega
  have Hz1 := hide hz1
  have Hh := hide h
  clear hz1 h
  go_enter Tryz.func45, Tryz.ntmps45
  go_wp2_with fail
  refine hm.mono ?_
  rintro e w' ⟨rfl, rfl⟩
  have f0 := b0.frozen
  have f1 := b1.frozen
  have e0 := b0.cell
  have e1 := b1.cell
  go_wp2_with fail
  go_region_held3 (fun w' => w'.cell? ⟨r, 3, none⟩ = some (.int .i64 (head : Int)) ∧ w'.cell? ⟨r, 4, none⟩ = some (.slice pao rs.length pcap))
    (first | exact ⟨c3, c4⟩ | exact ⟨c32, c42⟩ | exact ⟨cell_set_b c32 (by omega), cell_set_b c42 (by omega)⟩ | exact ⟨cell_set_b (cell_set_b c32 (by omega)) (by omega), cell_set_b (cell_set_b c42 (by omega)) (by omega)⟩)
    (first | (go_at_call 69; refine (cloneR_any (hW.mono (below_drew' w1)) hlen).mono ?_; rintro e w2 ⟨v2, rfl, ho2, hb2⟩; have kk := Keeps.of_below (S := fun _ => False) hb2; have c32 := kk.cell c3 id; have c42 := kk.cell c4 id; have b02 : Boxed w2 w.heap.size 2 (.int .i64 0) := (hb2.block _ b0.lt).trans b0; have b12 : Boxed w2 (w.heap.size + 1) 29 (.slice none 0 0) := (hb2.block _ b1.lt).trans b1; have e02 := b02.cell; have f02 := b02.frozen; have e12 := b12.cell; have f12 := b12.frozen; obtain ⟨ao2, cap2, rfl⟩ := owns_slice ho2))
  have hlt2 := ho2.lt
  have Ho2 := hide ho2
  have HW := hide hW
  rename_i hHeld
  clear hHeld ho2 hW hm
  go_wp2
  go_ret
  have k3 := ((keeps_set w2 w.heap.size 0 (.int .i64 (head : Int))).mono (T := fun b => b = w.heap.size ∨ b = w.heap.size + 1) (fun b h => .inl h)).trans ((keeps_set _ (w.heap.size + 1) 0 (.slice ao2 rs.length cap2)).mono (fun b h => .inr h))
  have q0 : Boxed ((w2.setCell ⟨w.heap.size, 0, none⟩ (.int .i64 (head : Int))).setCell ⟨w.heap.size + 1, 0, none⟩ (.slice ao2 rs.length cap2)) w.heap.size 2 (.int .i64 (head : Int)) := (b02.set _).other (by omega) _
  have q1 : Boxed ((w2.setCell ⟨w.heap.size, 0, none⟩ (.int .i64 (head : Int))).setCell ⟨w.heap.size + 1, 0, none⟩ (.slice ao2 rs.length cap2)) (w.heap.size + 1) 29 (.slice ao2 rs.length cap2) := (b12.other (by omega) _).set _
  generalize (w2.setCell ⟨w.heap.size, 0, none⟩ (.int .i64 (head : Int))).setCell ⟨w.heap.size + 1, 0, none⟩ (.slice ao2 rs.length cap2) = w3 at *
  have hzd : w1.drew.heap.size = w.heap.size + 2 := Hz1.out
  have hB2 : Below w.heap.size w w2 := hb1.trans (((below_drew' w1).mono (by rw [Hz1.out]; omega)).trans (hb2.mono (by omega)))
  refine ⟨_, rfl, ⟨w.heap.size + 1, w.heap.size, _, vs, rfl, by omega, Nat.le_refl _, q1, q0, ?_, HW.out.len, fun i hi hv => ?_⟩, hB2.trans (k3.below (fun b h => by rcases h with h | h <;> omega) hB2.size)⟩
  · exact owns_base (k3.owns Ho2.out (fun b hb h => by have := (hlt2 b hb).1; rcases h with h | h <;> omega)) (by omega)
  · have q := HW.out.bs i hi hv
    have q2 := (q.1.mono (below_drew' w1)).mono hb2
    refine ⟨keeps_bs k3 q2 (fun hp b hb h => ?_), fun hp b hb => (q.2 hp b hb).1⟩
    have := hFl b (q.2 hp b hb).1
    rcases h with h | h <;> omega

/-- What the iterator hands over: a number, a record, and a slice that holds its bytes. -/
def aEnc (x : Nat × Rc × Option Addr × Nat) : Array Value := #[.int .i64 (x.1 : Int), .agg #[.int .i64 x.2.1.k, .int .i64 x.2.1.b, .int .i64 x.2.1.o, .slice x.2.2.1 x.2.1.l.length x.2.2.2, .int .i64 x.2.1.m]]
def recs (xs : List (Nat × Rc × Option Addr × Nat)) : List Rc := xs.map fun x => x.2.1
def aNew (B : Nat) (x : Nat × Rc × Option Addr × Nat) (W : World) : Prop := W.ownsRow B 5 1 (.slice x.2.2.1 x.2.1.l.length x.2.2.2) x.2.1.l.length (cellsB x.2.1.l) ∧ (∀ y ∈ x.2.1.l, y < 256)
def aSp (head : Nat) (rs : List Rc) (pre : List (Nat × Rc × Option Addr × Nat)) : Prop := recs pre <+: rs ∧ ∀ a x, pre = a ++ [x] → x.1 = head + a.length

theorem recs_snoc (xs : List (Nat × Rc × Option Addr × Nat)) (x : Nat × Rc × Option Addr × Nat) : recs (xs ++ [x]) = recs xs ++ [x.2.1] := by simp [recs]
theorem bs_lt2 {w : World} {v : Value} {l : List Nat} (h : Bs w v l) (hl : 0 < l.length) : ∀ b, v.ownBlock = some b → b < w.heap.size := by
  obtain ⟨ao, cap, rfl, _, _, _, hc⟩ := h
  obtain ⟨b, off, rfl, hcell⟩ := hc hl
  intro b' e
  have := World.block_lt_of_cell? w _ (hcell 0 hl)
  simp [Value.ownBlock] at e
  simp at this
  omega
theorem keepS_bs {K : Nat → Prop} {A B : World} (h : KeepS K A B) {v : Value} {l : List Nat} (hb : Bs A v l) (hv : 0 < l.length → ∀ b, v.ownBlock = some b → K b) : Bs B v l := by
  obtain ⟨ao, cap, rfl, h1, h2, h3, h4⟩ := hb
  refine ⟨ao, cap, rfl, h1, h2, h3, fun hp => ?_⟩
  obtain ⟨b, off, rfl, hc⟩ := h4 hp
  exact ⟨b, off, rfl, fun i hi => (World.cell?_of_block (h.same b (hv hp b rfl))).trans (hc i hi)⟩

set_option maxRecDepth 100000 in
set_option maxHeartbeats 1000000 in
theorem all1_any (K N : Nat → Prop) (rs : List Rc) (vs : List Value) (v : Value) (Ba Bf base head : Nat) (w0 : World) (hBa : Boxed w0 Ba 29 v) (hBf : Boxed w0 Bf 2 (.int .i64 (head : Int))) (hrow : w0.ownsRow base 52 5 v rs.length (cellsR rs vs)) (hvl : vs.length = rs.length)
    (hbs : ∀ i (hi : i < rs.length) (hv : i < vs.length), Bs w0 vs[i] (rs[i]).l ∧ (0 < (rs[i]).l.length → ∀ b, vs[i].ownBlock = some b → ¬ N b))
    (hps : ∀ x ∈ rs, x.l.length ≤ 44) (hlen : rs.length ≤ 4096) (hhd : head ≤ 1152921504606846976) (hK : ∀ k, k < w0.heap.size → ¬ N k → K k) (hN1 : ¬ N Ba) (hN3 : ¬ N Bf) (hN2 : ∀ b, v.ownBlock = some b → ¬ N b) :
    SeqX Tryz.prog 70 #[.pointer (some ⟨Ba, 0, none⟩), .pointer (some ⟨Bf, 0, none⟩)] aEnc K 0 aNew (fun xs => recs xs = rs) (aSp head rs) w0 := by
  intro lp J Jx W hW hJ hJx hY h0
  have hBa1 : Boxed W Ba 29 v := (hW.block Ba hBa.lt).trans hBa
  have hrow1 := (Keeps.of_below (S := fun _ => False) hW).owns hrow (fun _ _ => id)
  have hcn := hBa1.cell
  have hzW := hW.size
  have hbal := hBa.lt
  have hbfl := hBf.lt
  refine (callsIn_wide (n := 3)).1 ?_
  refine callsIn_of_wp Tryz.func70 rfl trivial ?_ rfl
  simp only [Tryz.ntmps70, List.size_toArray, List.length_cons, List.length_nil, Nat.reduceAdd, Nat.reduceSub, Array.replicate_succ, Array.replicate_zero, List.push_toArray, List.append_toArray, List.nil_append, List.cons_append]
  obtain ⟨ao, cap, rfl⟩ := owns_slice hrow1
  gi_wp2
  clear hcn hBa hBa1
  have Hrow := hide hrow
  have Hbs := hide hbs
  have HBf := hide hBf
  clear hbs hrow hBf
  gi_loopw [8] (fun i wr => ∃ k : Nat, k ≤ rs.length ∧ i = .int .i64 (k : Int) ∧ ∃ xs, (recs xs = rs.take k ∧ xs.length = k) ∧ J xs wr ∧ W.heap.size ≤ wr.heap.size ∧ KeepS (fun k => k < w0.heap.size ∧ ¬ N k) w0 wr) (fun i _ => rs.length - (intOf i).toNat)
  case atStart => exact ⟨0, Nat.zero_le _, rfl, [], ⟨by simp [recs], rfl⟩, h0, Nat.le_refl _, KeepS.below hW (fun k hk => hk.1)⟩
  case round =>
    obtain ⟨k, hk, rfl, xs, ⟨hxs, hxl⟩, hJk, hsz, hkeep⟩ := hrel
    clear h0 hrow1
    by_cases hkl : k < rs.length
    · obtain ⟨ao', cap', e2, _, hg⟩ := owns_form Hrow.out
      obtain ⟨pb, rfl, _⟩ := hg (by omega)
      injection e2 with e2 _ e3
      subst e2 e3
      have cells : ∀ j u, j < 5 → ((rs[k]).cells (vs[k]'(by omega)))[j]? = some u → wr.cell? ⟨pb, k * 5 + j, none⟩ = some u := by
        intro j u hj hu
        have x1 := Hrow.out.cells (g := pb) rfl _ _ ((cellsR_at hvl k hkl j hj).trans hu)
        rw [Addr.add_lit, Nat.zero_add] at x1
        have hpb : pb < w0.heap.size := by have := World.block_lt_of_cell? w0 _ x1; simpa using this
        exact (World.cell?_of_block (a := ⟨pb, k * 5 + j, none⟩) (hkeep.same pb ⟨hpb, hN2 pb rfl⟩)).trans x1
      have x0 := cells 0 _ (by omega) rfl
      have x1 := cells 1 _ (by omega) rfl
      have x2 := cells 2 _ (by omega) rfl
      have x3 := cells 3 _ (by omega) rfl
      have x4 := cells 4 _ (by omega) rfl
      rw [Nat.add_zero] at x0
      obtain ⟨hb0, hbN⟩ := Hbs.out k hkl (by omega)
      have hblt := hb0.lt
      have hbw : Bs wr (vs[k]'(by omega)) (rs[k]).l := keepS_bs hkeep hb0 (fun hp b hb => ⟨bs_lt2 hb0 hp b hb, hbN hp b hb⟩)
      have hl44 := hps _ (List.getElem_mem hkl)
      have hts : recs xs ++ [rs[k]] = rs.take (k + 1) := by rw [hxs, List.take_add_one, List.getElem?_eq_getElem hkl]; rfl
      generalize (vs[k]'(by omega)) = vk at *
      generalize rs[k] = rk at *
      clear cells hb0 hg hbN
      obtain ⟨vao, vcap, rfl, _⟩ := id hbw
      have hbf : Boxed wr Bf 2 (.int .i64 (head : Int)) := (hkeep.same Bf ⟨hbfl, hN3⟩).trans HBf.out
      obtain ⟨wb, hwb⟩ : ∃ wb, wr.alloc (.cells #[.int .i64 rk.k, .int .i64 rk.b, .int .i64 rk.o, .slice vao rk.l.length vcap, .int .i64 rk.m] 52) = wb := ⟨_, rfl⟩
      have kb0 : Below wr.heap.size wr wb := by rw [← hwb]; exact (Below.refl _ _).alloc (Nat.le_refl _) _
      have hRb : RecAt wb wr.heap.size rk.k rk.b rk.o (.slice vao rk.l.length vcap) rk.m := by rw [← hwb]; exact RecAt.new wr _ _ _ _ _
      have hzb : wr.heap.size < wb.heap.size := by rw [← hwb]; simp
      have hJb : J xs wb := hJ xs wr _ none hJk ⟨kb0.os, kb0.tape, kb0.output, kb0.size, fun k hk _ => kb0.block k hk⟩ (fun r e => by cases e)
      have hbwb : Bs wb.drew (.slice vao rk.l.length vcap) rk.l := (hbw.mono kb0).drew
      have hkb : KeepS (fun k => k < w0.heap.size ∧ ¬ N k) w0 wb := hkeep.trans (KeepS.below kb0 (fun k hk => by have := hk.1; omega))
      have bfb := (kb0.block _ hbf.lt).trans hbf
      have cbf : wb.cell? ⟨Bf, 0, none⟩ = some (.int .i64 (head : Int)) := Boxed.cell bfb
      obtain ⟨r0, r1, r2, r3, r4⟩ := hRb.held
      have hwr : IntKind.i64.wrap ((head : Int) + (k : Int)) = (head : Int) + (k : Int) := by rw [show ((head : Int) + (k : Int)) = ((head + k : Nat) : Int) by omega]; exact wrap_small (by omega)
      have Hts := hide hts
      have Hxl := hide hxl
      have Hxs := hide hxs
      have HRb := hide hRb
      clear hkeep hJk hts hxl hxs hRb hbf
      gi_wp2
      gi_region_with (first
        | (refine ⟨trivial, ?_⟩; gi_at_call 49; refine (callsIn_wide.2 (clone_rec _ _ _ _ _ rk.l _ hbwb (by omega))).mono ?_; rintro e w1 ⟨v1, rfl, ho1, hb1⟩; obtain ⟨ao1, cap1, rfl⟩ := owns_slice ho1
           have hb1' : Below wb.heap.size wb w1 := ⟨hb1.os, hb1.tape, hb1.output, hb1.size, hb1.block⟩
           have cbf' := (Keeps.of_below (S := fun _ => False) hb1').cell cbf id
           have hJ1 : J xs w1 := hJ xs wb _ none hJb ⟨hb1'.os, hb1'.tape, hb1'.output, hb1'.size, fun k hk _ => hb1'.block k hk⟩ (fun r e => by cases e)
           have z1 := hb1'.size
           obtain ⟨fn, tmps, assign, body, hy, hR⟩ := hY xs (head + k, rk, ao1, cap1) w1 ⟨by rw [recs_snoc, Hts.out]; exact List.take_prefix _ _, fun a x e => by have e1 := List.append_inj' e rfl; obtain ⟨rfl, e2⟩ := e1; injection e2 with e2; subst e2; rw [Hxl.out]⟩ hJ1 (by omega) ⟨owns_base ho1 (by have e : wb.drew.heap.size = wb.heap.size := rfl; omega), hblt⟩
           dsimp only [aEnc] at hy; rw [show ((head + k : Nat) : Int) = (head : Int) + (k : Int) by omega] at hy)
        | (refine (roundIn_any hR).mono ?_; rintro e W3 ⟨hst, h3⟩; obtain ⟨bv, rfl⟩ : ∃ bv, e = .returned (.bool bv) := (by rcases h3 with ⟨h, _⟩ | ⟨h, _⟩ <;> exact ⟨_, h⟩); have H3 := hide h3; clear h3))
      all_goals
        cases bv
        · have hJx3 : Jx (xs ++ [(head + k, rk, ao1, cap1)]) W3 := by
            rcases H3.out with ⟨h, _⟩ | ⟨_, h⟩
            · simp at h
            · exact h
          gi_wp2
          refine bodyPost_ret (results_none rfl _ _ _) rfl ?_
          exact ⟨⟨_, rfl⟩, .inr ⟨_, ⟨by rw [recs_snoc, Hts.out]; exact List.take_prefix _ _, fun a x e => by have e1 := List.append_inj' e rfl; obtain ⟨rfl, e2⟩ := e1; injection e2 with e2; subst e2; rw [Hxl.out]⟩, hJx3⟩⟩
        · have hJ3 : J (xs ++ [(head + k, rk, ao1, cap1)]) W3 ∧ KeepS K w1 W3 := by
            rcases H3.out with ⟨_, h⟩ | ⟨h, _⟩
            · exact h
            · simp at h
          have hk3 : KeepS (fun k => k < w0.heap.size ∧ ¬ N k) w0 W3 := (hkb.trans (KeepS.below hb1' (fun k hk => by have := hk.1; omega))).trans ⟨hJ3.2.size, fun k hk => hJ3.2.same k (hK k hk.1 hk.2)⟩
          have z3 := hJ3.2.size
          gi_wp2
          go_roundw
          case rel => exact ⟨k + 1, by omega, by go_num, _, ⟨by rw [recs_snoc]; exact Hts.out, by simp [Hxl.out]⟩, hJ3.1, by omega, hk3⟩
          case measure => simp [intOf]; omega
    · obtain rfl : k = rs.length := by omega
      rw [List.take_of_length_le (Nat.le_refl _)] at hxs
      gi_wp2
      go_end0
      exact ⟨⟨_, rfl⟩, .inl ⟨xs, hxs, hJk⟩⟩


end Go.Proofs.YtjhbljkoapbkfaaGreat

namespace Go.Proofs.YtjhbljkoapbkfaaGreat
open Go.RowKit Go.Attic Go.Shelf

attribute [local go_sem] Oper.semAt_some

theorem results_slots3 {P : Program} {fn : Func} {p q r : Tmp} (h : fn.results = #[.tmp p, .tmp q, .tmp r]) (tmps : Array Value) (w : World) (v1 v2 v3 : Value) (h1 : tmps.getD p undef = v1) (h2 : tmps.getD q undef = v2) (h3 : tmps.getD r undef = v3) :
    (results fn tmps).run P w = .ok (.tuple #[v1, v2, v3]) w := by
  simp only [results, h]
  simp only [Array.getD_eq_getD_getElem?] at h1 h2 h3
  simp [Sem.run_bind, Result.andThen, h1, h2, h3]

theorem owns_apart {w : World} {b1 b2 : Nat} {e1 e2 : TypeId} {s1 s2 n1 n2 : Nat} {v1 v2 : Value} {x1 x2 : List Value} (h1 : w.ownsRow b1 e1 s1 v1 n1 x1) (h2 : w.ownsRow b2 e2 s2 v2 n2 x2) (he : e1 ≠ e2) {b : Nat} (k1 : v1.ownBlock = some b) (k2 : v2.ownBlock = some b) : False := by
  rcases h1.2 with ⟨e, _⟩ | ⟨g, c, cur, e, _, hg, _⟩
  · rw [e] at k1; cases k1
  · rcases h2.2 with ⟨e', _⟩ | ⟨g', c', cur', e', _, hg', _⟩
    · rw [e'] at k2; cases k2
    · rw [e] at k1
      rw [e'] at k2
      have q1 : g = b := by simpa [Value.ownBlock] using k1
      have q2 : g' = b := by simpa [Value.ownBlock] using k2
      rw [q1] at hg
      rw [q2, hg] at hg'
      injection hg' with hg'
      injection hg' with _ hg' _
      exact he hg'

set_option maxRecDepth 100000 in
set_option maxHeartbeats 1000000 in
theorem open_on {w : World} {g m : Nat} {p : Option Nat} {F : Nat → Prop} {n : Nat} {s : St} (h : Dk w g m p F n s) (hon : s.on = true) (hpl : s.pend.length ≤ 1000000) (base blocks head : Nat) (h1 : 1 ≤ blocks) (h2 : blocks ≤ 256) (h3 : base + blocks ≤ n) (hh : head ≤ 1152921504606846976) :
    Calls Tryz.prog 13 #[.pointer (some ⟨g, 0, none⟩), .int .i64 (base : Int), .int .i64 (blocks : Int), .int .i64 (head : Int)] w fun e w' => ∃ rs r v Fr, e = .returned (.tuple #[.pointer (some ⟨r, 0, none⟩), v, .int .i64 0]) ∧
      Scanned (secAt s base blocks) head (4 * blocks) rs ∧ Rk w' r g base blocks head Fr rs ∧ w.heap.size ≤ r ∧ (∀ k, Fr k → w.heap.size ≤ k) ∧ Rs w' (fun k => w.heap.size ≤ k) v rs ∧ Below w.heap.size w w' := by
  obtain ⟨i0, hi, hz0, hz1', hz2'⟩ := info_parts Tryz.info52
  have hn1 := h.ok.n1
  have hn2 := h.ok.n2
  have hgl := h.gl
  have hlen := fun w (h : Dk w g m p F n s) => len_yes h
  have hsz := fun w => gSize_any (blocks : Int) w
  have hhd := fun w => gHead_any (head : Int) w
  rw [decide_eq_true (show (1 : Int) ≤ (blocks : Int) ∧ (blocks : Int) ≤ 256 by omega)] at hsz
  rw [decide_eq_true (show (0 : Int) ≤ (head : Int) ∧ (head : Int) ≤ 1152921504606846976 by omega)] at hhd
  obtain ⟨w1, hw1⟩ : ∃ w1, w.alloc (.cells #[.pointer (some ⟨g, 0, none⟩), .int .i64 (base : Int), .int .i64 (blocks : Int)] 85) = w1 := ⟨_, rfl⟩
  have hb1 : Below w.heap.size w w1 := by rw [← hw1]; exact (Below.refl _ w).alloc (Nat.le_refl _) _
  have hz1 : w1.heap.size = w.heap.size + 1 := by rw [← hw1]; simp
  have t0 : w1.heap[w.heap.size]? = some (.cells #[.pointer (some ⟨g, 0, none⟩), .int .i64 (base : Int), .int .i64 (blocks : Int)] 85 (0, 0)) := by rw [← hw1]; exact World.alloc_heap_new w _
  have tc : ∀ W : World, W.heap[w.heap.size]? = some (.cells #[.pointer (some ⟨g, 0, none⟩), .int .i64 (base : Int), .int .i64 (blocks : Int)] 85 (0, 0)) → W.cell? ⟨w.heap.size, 0, none⟩ = some (.pointer (some ⟨g, 0, none⟩)) ∧ W.cell? ⟨w.heap.size, 1, none⟩ = some (.int .i64 (base : Int)) ∧ W.cell? ⟨w.heap.size, 2, none⟩ = some (.int .i64 (blocks : Int)) := by
    intro W hW
    refine ⟨?_, ?_, ?_⟩ <;> (unfold World.cell?; rw [hW]; rfl)
  obtain ⟨c0, c1, c2⟩ := tc w1 t0
  have hload := load_on (h.mono hb1) hon hpl base blocks head h1 h2 h3 hh
  have hbs : (base : Int) ≤ (n : Int) - (blocks : Int) := by omega
  have Hw1 := hide hw1
  have Hh := hide h
  refine (callsIn_wide (n := 3)).1 ?_
  refine callsIn_of_wp_marks Tryz.func13 rfl trivial ?_ rfl
  simp only [Tryz.ntmps13, List.size_toArray, List.length_cons, List.length_nil, Nat.reduceAdd, Nat.reduceSub, Array.replicate_succ, Array.replicate_zero, List.push_toArray, List.append_toArray, List.nil_append, List.cons_append]
  gi_wp2
  refine ⟨trivial, (callsIn_wide.2 (hlen _ h)).mono ?_⟩
  rintro e w' ⟨rfl, rfl⟩
  have hn0 : ((n : Int) == 0) = false := by simp; omega
  gi_wp2
  refine ⟨trivial, (callsIn_wide.2 (hsz _)).mono ?_⟩
  rintro e w' ⟨rfl, rfl⟩
  gi_wp2
  refine ⟨trivial, (callsIn_wide.2 (hlen _ h)).mono ?_⟩
  rintro e w' ⟨rfl, rfl⟩
  gi_wp2
  refine ⟨trivial, (callsIn_wide.2 (hhd _)).mono ?_⟩
  rintro e w' ⟨rfl, rfl⟩
  gi_wp2
  refine ⟨trivial, (callsIn_wide.2 hload).mono ?_⟩
  rintro e w2 ⟨rs, p2, v2, vs2, rfl, hsc, hrw2, hb2⟩
  obtain ⟨ao2, cap2, rfl⟩ := owns_slice hrw2.row
  have t2 := (hb2.block w.heap.size (by omega)).trans t0
  obtain ⟨d0, d1, d2⟩ := tc w2 t2
  have hz2 : w.heap.size + 1 ≤ w2.heap.size := by have := hb2.size; omega
  obtain ⟨w4, hw4⟩ : ∃ w4, (w2.alloc (.cells #[.pointer (some ⟨g, 0, none⟩), .int .i64 (base : Int), .int .i64 (blocks : Int), .int .i64 (head : Int), .slice ao2 rs.length cap2] 89)).alloc (.cells #[.slice none 0 0] 29) = w4 := ⟨_, rfl⟩
  have hb4 : Below w2.heap.size w2 w4 := by rw [← hw4]; exact ((Below.refl _ _).alloc (Nat.le_refl _) _).alloc (by simp) _
  have hz4 : w4.heap.size = w2.heap.size + 2 := by rw [← hw4]; simp
  have q0 : w4.heap[w2.heap.size]? = some (.cells #[.pointer (some ⟨g, 0, none⟩), .int .i64 (base : Int), .int .i64 (blocks : Int), .int .i64 (head : Int), .slice ao2 rs.length cap2] 89 (0, 0)) := by
    rw [← hw4, Below.heap_alloc _ _ _ (by simp)]; exact World.alloc_heap_new w2 _
  have q1 : Boxed w4 (w2.heap.size + 1) 29 (.slice none 0 0) := by
    rw [← hw4]; simpa using Boxed.new (w2.alloc (.cells #[.pointer (some ⟨g, 0, none⟩), .int .i64 (base : Int), .int .i64 (blocks : Int), .int .i64 (head : Int), .slice ao2 rs.length cap2] 89)) 29 (.slice none 0 0)
  have hrw4 := (hrw2.narrow.mono hb4)
  have hR4 : Rk w4 w2.heap.size g base blocks head (fun k => w1.heap.size ≤ k ∧ k < w2.heap.size) rs := by
    refine ⟨?_, ?_, ?_, ?_, ⟨p2, _, vs2, ?_, hrw4⟩, ?_, ?_, fun hh => by omega, fun k hk => by omega, h1, h2, by omega, hh, hsc.2.1, fun x hx => ?_⟩
    · unfold World.cell?; rw [q0]; rfl
    · unfold World.cell?; rw [q0]; rfl
    · unfold World.cell?; rw [q0]; rfl
    · unfold World.cell?; rw [q0]; rfl
    · unfold World.cell?; rw [q0]; rfl
    · unfold World.frozen?; rw [q0]; rfl
    · unfold World.frozen?; rw [q0]; rfl
    · obtain ⟨i, hi', rfl⟩ := List.getElem_of_mem hx
      exact (hsc.1 i hi').ok.1
  have hall := all_yes hR4
  have Hsc := hide hsc
  have Hrw2 := hide hrw2
  have Hrw4 := hide hrw4
  have HR4 := hide hR4
  have Hq0 := hide q0
  have Hz1 := hide hz1
  have Hhd := hide hhd
  clear hsc hrw2 hrw4 hR4 q0 hload c0 c1 c2 t0 t2 hlen hsz hhd hw1 h hz1
  gi_wp2
  refine ⟨trivial, (callsIn_wide.2 hall).mono ?_⟩
  rintro e V ⟨f, rfl, ⟨ba, bf, va, vsa, rfl, hba, hbf, hBa, hBf, hrowa, hvla, hbsa⟩, hbV⟩
  have hzV := hbV.size
  have v1 : Boxed V (w2.heap.size + 1) 29 (.slice none 0 0) := (hbV.block _ (by omega)).trans q1
  have hRV := HR4.out.mono hbV
  have hwV : Below w.heap.size w V := hb1.trans ((hb2.mono (by have := Hz1.out; omega)).trans ((hb4.mono (by omega)).trans (hbV.mono (by omega))))
  have hrl : rs.length ≤ 1024 := by have := Hsc.out.2.1; omega
  have hps : ∀ x ∈ rs, x.l.length ≤ 44 := fun x hx => by
    obtain ⟨i, hi', rfl⟩ := List.getElem_of_mem hx
    exact (Hsc.out.1 i hi').ok.2.1
  clear hall d0 d1 d2 tc q1
  gi_wp2
  have hseq := all1_any (fun k => k < V.heap.size ∧ k ≠ w2.heap.size + 1) (fun k => k = w2.heap.size + 1) rs vsa va ba bf _ head V hBa hBf hrowa hvla (fun i hi hv => ⟨(hbsa i hi hv).1, fun hp b hb e => by
    have := (hbsa i hi hv).2 hp b hb
    have e' : b = w2.heap.size + 1 := e
    omega⟩) hps (by omega) hh (fun k hk hn => ⟨hk, hn⟩) (fun e => by have e' : ba = w2.heap.size + 1 := e; omega) (fun e => by have e' : bf = w2.heap.size + 1 := e; omega) (fun b hb e => by have e' : b = w2.heap.size + 1 := e; have := (hrowa.lt b hb).1; omega)
  refine' range_law3 (n := 3) (gf := 70) (lb := #[.pointer (some ⟨ba, 0, none⟩), .pointer (some ⟨bf, 0, none⟩)]) rfl (enters_of Tryz.func70 (by kernel_rfl) rfl) hseq (Below.refl _ _) (fun k hk => hk.1) (fun _ => rfl)
    (fun pre U => Keeps (fun k => k = w2.heap.size + 1) V U ∧ RowAt (w2.heap.size + 1) (V.heap.size + 2 + 0) U (recs pre))
    (fun code pre U => False)
    (Stands.and (stands_keeps _ _ (Nat.le_refl _)) (stands_row _ _ _ (by omega) (Nat.le_refl _)))
    (fun code => Stands.pure _ _ _)
    ⟨Keeps.refl _ _, none, _, [], v1, Rw.nil _ _⟩ _ _ ?haw ?assign ?body ?done ?stop
  case assign =>
    intro l' x U T' hT'
    simp only [aEnc]
    gi_wp2
    exact hT'
  case haw =>
    intro x U
    exact (Below.refl _ _).alloc (Nat.le_refl _) _
  case body =>
    rintro pre x U0 U hSp ⟨hkU, hrow⟩ hX hsU ⟨r, hr⟩ hzU hcU
    have hzU2 : U.heap.size = U0.heap.size + 1 := by rw [hzU]; simp
    have hbx0 : U.heap[U0.heap.size]? = some (.cells #[.int .i64 x.2.1.k, .int .i64 x.2.1.b, .int .i64 x.2.1.o, .slice x.2.2.1 x.2.1.l.length x.2.2.2, .int .i64 x.2.1.m] 52 (0, 0)) := by
      rw [hcU _ (by omega)]; exact World.alloc_heap_new U0 _
    have r0 : U.cell? ⟨U0.heap.size, 0, none⟩ = some (.int .i64 x.2.1.k) := by unfold World.cell?; rw [hbx0]; rfl
    have r1 : U.cell? ⟨U0.heap.size, 1, none⟩ = some (.int .i64 x.2.1.b) := by unfold World.cell?; rw [hbx0]; rfl
    have r2 : U.cell? ⟨U0.heap.size, 2, none⟩ = some (.int .i64 x.2.1.o) := by unfold World.cell?; rw [hbx0]; rfl
    have r3 : U.cell? ⟨U0.heap.size, 3, none⟩ = some (.slice x.2.2.1 x.2.1.l.length x.2.2.2) := by unfold World.cell?; rw [hbx0]; rfl
    have r4 : U.cell? ⟨U0.heap.size, 4, none⟩ = some (.int .i64 x.2.1.m) := by unfold World.cell?; rw [hbx0]; rfl
    have hlx := hX.1.lt
    have hXU : U.ownsRow (V.heap.size + 2 + 0) 5 1 (.slice x.2.2.1 x.2.1.l.length x.2.2.2) x.2.1.l.length (cellsB x.2.1.l) := by
      refine ⟨hX.1.1, ?_⟩
      rcases hX.1.2 with hn | ⟨g, cap, cur, e, hb, hg, rest⟩
      · exact .inl hn
      · have hgl := (Array.getElem?_eq_some_iff.1 hg).1
        exact .inr ⟨g, cap, cur, e, hb, ((hcU g (by omega)).trans (Below.heap_alloc _ _ _ hgl)).trans hg, rest⟩
    have hxlt := hX.2
    obtain ⟨pt, vt, vst, hbt, hrwt⟩ := hrow
    obtain ⟨tao, tcap, rfl⟩ := owns_slice hrwt.row
    have hpre : (recs pre).length ≤ 1024 := by
      have := hSp.1.length_le
      rw [recs_snoc] at this
      simp at this; omega
    have hct : ∀ o, (U.alloc o).cell? ⟨w2.heap.size + 1, 0, none⟩ = some (.slice tao (recs pre).length tcap) := fun o => (hbt.alloc o).cell
    have hct0 := hbt.cell
    have hpt8 : ∀ b, pt = some b → V.heap.size + 2 + 0 ≤ b := fun b hb => hrwt.pF b hb
    have hptl : ∀ b, pt = some b → b < U.heap.size := fun b hb => owns_lt' hrwt.row b (hrwt.own.trans hb)
    have hapart : ∀ b, pt = some b → (Value.slice x.2.2.1 x.2.1.l.length x.2.2.2).ownBlock ≠ some b := fun b hb e => owns_apart hrwt.row hXU (by decide) (hrwt.own.trans hb) e
    have hown4 : (Value.slice tao (recs pre).length tcap).ownBlock = pt := hrwt.own
    have hne4 : ∀ b, (Value.slice tao (recs pre).length tcap).ownBlock = some b → b ≠ w2.heap.size + 1 := fun b hb e => by have := hpt8 b (hown4.symm.trans hb); omega
    have rowt := hrwt.row
    have Hbt := hide hbt
    have Hrwt := hide hrwt
    have HXU := hide hXU
    have Hbx0 := hide hbx0
    have HzU := hide hzU
    have HzU2 := hide hzU2
    have hU0 : U0.heap.size < U.heap.size := by omega
    have hUV : V.heap.size + 2 + 0 ≤ U.heap.size := by omega
    have HcU := hide hcU
    have HhX := hide hX
    clear hseq hbt hrwt hXU hbx0 hzU hzU2 hcU hX hlx hct0
    have hct1 := Hbt.out.cell
    gi_wp2_with (gi_at_builtin; refine wpListIn_append_own_at _ rfl _ _ 29 rfl 0 52 i0 (.agg #[.int .i64 0, .int .i64 0, .int .i64 0, .slice none 0 0, .int .i64 0]) 5 56 Tryz.underlying29 hi hz0 hz1' hz2' rfl (by decide) (.slice tao (recs pre).length tcap) (recs pre).length (cellsR (recs pre) vst) rfl (rowt.alloc _) ⟨U.heap.size, 0, none⟩ 1 1 [.int .i64 x.2.1.k, .int .i64 x.2.1.b, .int .i64 x.2.1.o, .slice x.2.2.1 x.2.1.l.length x.2.2.2, .int .i64 x.2.1.m] rfl rfl (cell_five_new _ _ _ _ _ _ _) (by simp [Value.oneCell']) (by unfold maxLen; omega) (by omega) (by omega) ?_; intro v5 w5 ho5 hg5 hn5 hat5; have hbx5 := (Hbt.out.alloc _).kept hg5 (fun e => hne4 _ e.symm rfl); have hc5 := hbx5.cell; have hf5 := hbx5.frozen; obtain ⟨gv5, cv5, rfl⟩ := owns_succ ho5)
    rw [hown4] at hg5 hat5
    have kk : Keeps (fun b => pt = some b) U w5 := (Keeps.alloc _ _).trans (keeps_grown hg5)
    have hkin : ∀ b, (Value.slice (some ⟨gv5, 0, none⟩) ((recs pre).length + 1) cv5).ownBlock = some b → pt = some b ∨ b = U.heap.size + 1 := by
      intro b hb
      rcases hat5 with e | e
      · exact .inl (e.symm.trans hb)
      · rw [e] at hb; injection hb with hb; simp at hb; exact .inr (by omega)
    have hlt5 := HXU.out.lt
    have hrw5 := (Hrwt.out.narrow.snoc (u := .slice x.2.2.1 x.2.1.l.length x.2.2.2) (r := x.2.1) (fun k hk => hk.2) kk ho5 (fun b hb => by rcases hkin b hb with e | e; exact .inl e; exact .inr (by omega)) (keeps_bs kk (Bs.of_owns HXU.out hxlt) (fun _ b hb e => hapart b e hb))
      (fun _ b hb e => by have h4 := hlt5 b hb; rcases hkin b e with e | e; exact hapart b e hb; omega)).widen (F' := fun k => V.heap.size + 2 + 0 ≤ k) (fun k hk => by
        rcases hk with hk | hk | hk
        · exact hk.1
        · rcases hkin k hk with e | e
          · exact hpt8 k e
          · omega
        · exact (hlt5 k hk).1)
    have kX : Keeps (fun b => b = w2.heap.size + 1 ∨ V.heap.size + 2 + 0 ≤ b) U (w5.setCell ⟨w2.heap.size + 1, 0, none⟩ (.slice (some ⟨gv5, 0, none⟩) ((recs pre).length + 1) cv5)) := (kk.mono (fun b hb => .inr (hpt8 b hb))).trans ((keeps_set _ _ 0 _).mono (fun b hb => .inl hb))
    refine ⟨⟨kX.size, fun b h1 h2 => kX.block b (by omega) (fun h' => by rcases h' with h' | h' <;> omega)⟩, ⟨kX.size, fun b hb => kX.block b (by omega) (fun h' => by rcases h' with h' | h' <;> omega)⟩, ?_, ?_⟩
    · exact hkU.trans' kX (fun b h' => by rcases h' with h' | h'; exact .inl h'; exact .inr (by omega))
    · show RowAt _ _ _ (recs (pre ++ [x]))
      rw [recs_snoc]
      exact ⟨_, _, _, hbx5.set _, hrw5.keeps (keeps_set w5 (w2.heap.size + 1) 0 _) (fun k hk e => by have e' : k = w2.heap.size + 1 := e; omega)⟩
  case done =>
    rintro xs U hxs ⟨hkU, pt, vt, vst, hbt, hrwt⟩ hsU hK
    rw [hxs] at hrwt
    obtain ⟨tao, tcap, rfl⟩ := owns_slice hrwt.row
    have hct := hbt.cell
    have Hrwt := hide hrwt
    have Hxs := hide hxs
    clear hseq hrwt hxs
    gi_wp2
    refine wpIn_wide.2 ?_
    go_quiet (fail)
    gi_wp2
    refine ⟨by simp, .inl ⟨_, _, rfl, run_takeDeferred (show (U.drewN nq).heap[V.heap.size]? = _ from hK), ?_⟩⟩
    have kD := Keeps.drewN (S := fun k => k = V.heap.size) U nq
    have kP := kD.trans (keeps_put (U.drewN nq) V.heap.size (.deferred none))
    have hR9 := (hRV.keeps hkU (fun e => by have e' : w2.heap.size = w2.heap.size + 1 := e; omega) (fun k hk e => by have e' : k = w2.heap.size + 1 := e; omega)).keeps kP (fun e => by have e' : w2.heap.size = V.heap.size := e; omega) (fun k hk e => by have e' : k = V.heap.size := e; omega)
    refine ⟨_, results_slots3 rfl _ _ _ _ _ rfl rfl rfl, rs, w2.heap.size, _, _, rfl, Hsc.out, hR9, by omega, fun k hk => by have := Hz1.out; omega, ?_, ?_⟩
    · exact ((Hrwt.out.rs.keeps kP (fun k hk e => by have e' : k = V.heap.size := e; omega))).widen (fun k hk => by omega)
    · have k9 := hkU.below (B := w.heap.size) (fun k hk => by have e' : k = w2.heap.size + 1 := hk; omega) hwV.size
      exact (hwV.trans k9).trans (kP.below (fun k hk => by have e' : k = V.heap.size := hk; have := hwV.size; omega) (Nat.le_trans hwV.size k9.size))
  case stop =>
    rintro code pre U hSp hF
    exact hF.elim


end Go.Proofs.YtjhbljkoapbkfaaGreat
