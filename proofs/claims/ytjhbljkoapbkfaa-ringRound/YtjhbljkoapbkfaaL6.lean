/- Contracts: slices.Clone of records, All. -/
import Derived.Test.YtjhbljkoapbkfaaL4
import Derived.Test.YtjhbljkoapbkfaaIter3
import Derived.Stop.RegionWithIn
set_option linter.unusedSimpArgs false
set_option linter.unusedVariables false
namespace Go.Proofs.Ytjhbljkoapbkfaa
open Go.RowKit Go.Attic Go.Shelf

attribute [local go_sem] Oper.semAt_some

set_option maxRecDepth 100000 in
set_option maxHeartbeats 1000000 in
theorem cloneR_any {w : World} {p : Option Nat} {F : Nat → Prop} {v : Value} {rs : List Rc} {vs : List Value} (h : Rw w p F v rs vs) (hlen : rs.length ≤ 4096) :
    Calls Try.prog 46 #[v] w fun e w' => ∃ v', e = .returned v' ∧ w'.ownsRow w.heap.size 62 5 v' rs.length (cellsR rs vs) ∧ Below w.heap.size w w' := by
  obtain ⟨i0, hi, hz0, hz1, hz2⟩ := info_parts Try.info62
  have hrow := h.row
  have hcl := cellsR_length rs vs h.len
  have hone := cellsR_one rs vs h.slices
  rcases hrow.2 with ⟨rfl, h0⟩ | ⟨b, cap, cur, rfl, _, hg, hnc, hcm, hcs, htake⟩
  · have hps : rs = [] := List.eq_nil_of_length_eq_zero h0
    subst hps
    have hnil : ∀ w, (binOp .eql 22 (.slice none 0 0) (.slice none 0 0)).run Try.prog w = .ok (.bool true) w := fun w => Lib.run_eql_slice_nil (P := Try.prog) w 22 62 none 0 0 0 0 Try.underlying22
    clear h hrow hcl hone
    go_enter Try.func46, Try.ntmps46
    go_wp2
    go_ret
    exact ⟨_, rfl, by simpa [cellsR] using World.ownsRow_nil _ _ _ _, Below.refl _ _⟩
  · have hnil := fun w => Lib.run_eql_slice_nil (P := Try.prog) w 22 62 (some ⟨b, 0, none⟩) rs.length cap 0 0 Try.underlying22
    have hcells : ∀ j u, (cellsR rs vs)[j]? = some u → (w.alloc (.cells #[] 62)).cell? ((⟨b, 0, none⟩ : Addr).add j) = some u := fun j u hu => (Keeps.alloc (S := fun _ => False) w _).cell (hrow.cells (g := b) rfl j u hu) id
    clear hg htake hcs h hrow
    go_enter Try.func46, Try.ntmps46
    go_wp2_with (at_builtin; refine wpList_append_own _ rfl (.tmp 5) (.tmp 6) 22 rfl w.heap.size 62 i0 (.agg #[.int .i64 0, .int .i64 0, .int .i64 0, .slice none 0 0, .int .i64 0]) 5 56 Try.underlying22 hi hz0 hz1 hz2 rfl (by decide) _ 0 [] rfl (World.ownsRow_lit w #[] 0 (Nat.le_refl _) (by simp) (by simp)) ⟨b, 0, none⟩ rs.length cap (cellsR rs vs) rfl hcl hcells hone (by unfold maxLen; omega) (by omega) (by simp) ?_; intro v' w1 hown hgrow _)
    have hb : Below w.heap.size w w1 := ((Below.refl _ _).alloc (Nat.le_refl _) _).grown hgrow (by simp) (by intro k hk; have e : some w.heap.size = some k := hk; injection e with e; omega)
    rw [Nat.zero_add, List.nil_append] at hown
    go_ret
    exact ⟨_, rfl, hown, hb⟩

/-- The function that All hands back: its records, as they were then. -/
def AllIt (w0 w : World) (F : Nat → Prop) (head : Nat) (rs : List Rc) (f : Value) : Prop :=
  ∃ ba bf v vs, f = .func (.func 47) #[] #[.pointer (some ⟨ba, 0, none⟩), .pointer (some ⟨bf, 0, none⟩)] ∧ w0.heap.size ≤ ba ∧ w0.heap.size ≤ bf ∧ Boxed w ba 22 v ∧ Boxed w bf 2 (.int .i64 (head : Int)) ∧
    w.ownsRow w0.heap.size 62 5 v rs.length (cellsR rs vs) ∧ vs.length = rs.length ∧ ∀ i (hi : i < rs.length) (hv : i < vs.length), Bs w vs[i] (rs[i]).l ∧ (0 < (rs[i]).l.length → ∀ b, vs[i].ownBlock = some b → F b)

set_option maxRecDepth 100000 in
set_option maxHeartbeats 400000 in
theorem all_yes {w : World} {r g base blocks head : Nat} {F : Nat → Prop} {rs : List Rc} (h : Rk w r g base blocks head F rs) :
    Calls Try.prog 29 #[.pointer (some ⟨r, 0, none⟩)] w fun e w' => ∃ f, e = .returned f ∧ AllIt w w' F head rs f ∧ Below w.heap.size w w' := by
  obtain ⟨w1, hw1⟩ : ∃ w1, (w.alloc (.cells #[.int .i64 0] 2)).alloc (.cells #[.slice none 0 0] 22) = w1 := ⟨_, rfl⟩
  have hb1 : Below w.heap.size w w1 := by rw [← hw1]; exact ((Below.refl _ w).alloc (Nat.le_refl _) _).alloc (by simp) _
  have hz1 : w1.heap.size = w.heap.size + 2 := by rw [← hw1]; simp
  have b0 : Boxed w1 w.heap.size 2 (.int .i64 0) := by rw [← hw1]; exact (Boxed.new w 2 _).alloc _
  have b1 : Boxed w1 (w.heap.size + 1) 22 (.slice none 0 0) := by rw [← hw1]; simpa using Boxed.new (w.alloc (.cells #[.int .i64 0] 2)) 22 (.slice none 0 0)
  have h1 := h.mono hb1
  obtain ⟨p, pv, vs, c4, hW⟩ := h1.c4
  obtain ⟨pao, pcap, rfl⟩ := owns_slice hW.row
  have c3 := h1.c3
  have hm := gMade_yes h1
  have hFl := h.Fl
  have hrl := h.rl
  have hlen : rs.length ≤ 4096 := by have := h.ln; have := h.b2; omega
  have Hz1 := hide hz1
  have Hh := hide h
  clear hz1 h
  go_enter Try.func29, Try.ntmps29
  go_wp2_with fail
  refine hm.mono ?_
  rintro e w' ⟨rfl, rfl⟩
  have f0 := b0.frozen
  have f1 := b1.frozen
  have e0 := b0.cell
  have e1 := b1.cell
  go_wp2_with fail
  go_region_held3 (fun w' => w'.cell? ⟨r, 3, none⟩ = some (.int .i64 (head : Int)) ∧ w'.cell? ⟨r, 4, none⟩ = some (.slice pao rs.length pcap))
    (first | exact ⟨c3, c4⟩ | exact ⟨c32, c42⟩ | exact ⟨cell_set_b c32 (by omega), cell_set_b c42 (by omega)⟩ | exact ⟨cell_set_b (cell_set_b c32 (by omega)) (by omega), cell_set_b (cell_set_b c42 (by omega)) (by omega)⟩)
    (first | (go_at_call 46; refine (cloneR_any (hW.mono (below_drew' w1)) hlen).mono ?_; rintro e w2 ⟨v2, rfl, ho2, hb2⟩; have kk := Keeps.of_below (S := fun _ => False) hb2; have c32 := kk.cell c3 id; have c42 := kk.cell c4 id; have b02 : Boxed w2 w.heap.size 2 (.int .i64 0) := (hb2.block _ b0.lt).trans b0; have b12 : Boxed w2 (w.heap.size + 1) 22 (.slice none 0 0) := (hb2.block _ b1.lt).trans b1; have e02 := b02.cell; have f02 := b02.frozen; have e12 := b12.cell; have f12 := b12.frozen; obtain ⟨ao2, cap2, rfl⟩ := owns_slice ho2))
  have hlt2 := ho2.lt
  have Ho2 := hide ho2
  have HW := hide hW
  rename_i hHeld
  clear hHeld ho2 hW hm
  go_wp2
  go_ret
  have k3 := ((keeps_set w2 w.heap.size 0 (.int .i64 (head : Int))).mono (T := fun b => b = w.heap.size ∨ b = w.heap.size + 1) (fun b h => .inl h)).trans ((keeps_set _ (w.heap.size + 1) 0 (.slice ao2 rs.length cap2)).mono (fun b h => .inr h))
  have q0 : Boxed ((w2.setCell ⟨w.heap.size, 0, none⟩ (.int .i64 (head : Int))).setCell ⟨w.heap.size + 1, 0, none⟩ (.slice ao2 rs.length cap2)) w.heap.size 2 (.int .i64 (head : Int)) := (b02.set _).other (by omega) _
  have q1 : Boxed ((w2.setCell ⟨w.heap.size, 0, none⟩ (.int .i64 (head : Int))).setCell ⟨w.heap.size + 1, 0, none⟩ (.slice ao2 rs.length cap2)) (w.heap.size + 1) 22 (.slice ao2 rs.length cap2) := (b12.other (by omega) _).set _
  generalize (w2.setCell ⟨w.heap.size, 0, none⟩ (.int .i64 (head : Int))).setCell ⟨w.heap.size + 1, 0, none⟩ (.slice ao2 rs.length cap2) = w3 at *
  have hzd : w1.drew.heap.size = w.heap.size + 2 := Hz1.out
  have hB2 : Below w.heap.size w w2 := hb1.trans (((below_drew' w1).mono (by rw [Hz1.out]; omega)).trans (hb2.mono (by omega)))
  refine ⟨_, rfl, ⟨w.heap.size + 1, w.heap.size, _, vs, rfl, by omega, Nat.le_refl _, q1, q0, ?_, HW.out.len, fun i hi hv => ?_⟩, hB2.trans (k3.below (fun b h => by rcases h with h | h <;> omega) hB2.size)⟩
  · exact owns_base (k3.owns Ho2.out (fun b hb h => by have := (hlt2 b hb).1; rcases h with h | h <;> omega)) (by omega)
  · have q := HW.out.bs i hi hv
    have q2 := (q.1.mono (below_drew' w1)).mono hb2
    refine ⟨keeps_bs k3 q2 (fun hp b hb h => ?_), fun hp b hb => (q.2 hp b hb).1⟩
    have := hFl b (q.2 hp b hb).1
    rcases h with h | h <;> omega

/-- What the iterator hands over: a number, a record, and a slice that holds its bytes. -/
def aEnc (x : Nat × Rc × Option Addr × Nat) : Array Value := #[.int .i64 (x.1 : Int), .agg #[.int .i64 x.2.1.k, .int .i64 x.2.1.b, .int .i64 x.2.1.o, .slice x.2.2.1 x.2.1.l.length x.2.2.2, .int .i64 x.2.1.m]]
def recs (xs : List (Nat × Rc × Option Addr × Nat)) : List Rc := xs.map fun x => x.2.1
def aNew (B : Nat) (x : Nat × Rc × Option Addr × Nat) (W : World) : Prop := W.ownsRow B 5 1 (.slice x.2.2.1 x.2.1.l.length x.2.2.2) x.2.1.l.length (cellsB x.2.1.l) ∧ (∀ y ∈ x.2.1.l, y < 256)
def aSp (head : Nat) (rs : List Rc) (pre : List (Nat × Rc × Option Addr × Nat)) : Prop := recs pre <+: rs ∧ ∀ a x, pre = a ++ [x] → x.1 = head + a.length

theorem recs_snoc (xs : List (Nat × Rc × Option Addr × Nat)) (x : Nat × Rc × Option Addr × Nat) : recs (xs ++ [x]) = recs xs ++ [x.2.1] := by simp [recs]
theorem bs_lt2 {w : World} {v : Value} {l : List Nat} (h : Bs w v l) (hl : 0 < l.length) : ∀ b, v.ownBlock = some b → b < w.heap.size := by
  obtain ⟨ao, cap, rfl, _, _, _, hc⟩ := h
  obtain ⟨b, off, rfl, hcell⟩ := hc hl
  intro b' e
  have := World.block_lt_of_cell? w _ (hcell 0 hl)
  simp [Value.ownBlock] at e
  simp at this
  omega
theorem keepS_bs {K : Nat → Prop} {A B : World} (h : KeepS K A B) {v : Value} {l : List Nat} (hb : Bs A v l) (hv : 0 < l.length → ∀ b, v.ownBlock = some b → K b) : Bs B v l := by
  obtain ⟨ao, cap, rfl, h1, h2, h3, h4⟩ := hb
  refine ⟨ao, cap, rfl, h1, h2, h3, fun hp => ?_⟩
  obtain ⟨b, off, rfl, hc⟩ := h4 hp
  exact ⟨b, off, rfl, fun i hi => (World.cell?_of_block (h.same b (hv hp b rfl))).trans (hc i hi)⟩

set_option maxRecDepth 100000 in
set_option maxHeartbeats 1000000 in
theorem all1_any (K N : Nat → Prop) (rs : List Rc) (vs : List Value) (v : Value) (Ba Bf base head : Nat) (w0 : World) (hBa : Boxed w0 Ba 22 v) (hBf : Boxed w0 Bf 2 (.int .i64 (head : Int))) (hrow : w0.ownsRow base 62 5 v rs.length (cellsR rs vs)) (hvl : vs.length = rs.length)
    (hbs : ∀ i (hi : i < rs.length) (hv : i < vs.length), Bs w0 vs[i] (rs[i]).l ∧ (0 < (rs[i]).l.length → ∀ b, vs[i].ownBlock = some b → ¬ N b))
    (hps : ∀ x ∈ rs, x.l.length ≤ 44) (hlen : rs.length ≤ 4096) (hhd : head ≤ 1152921504606846976) (hK : ∀ k, k < w0.heap.size → ¬ N k → K k) (hN1 : ¬ N Ba) (hN3 : ¬ N Bf) (hN2 : ∀ b, v.ownBlock = some b → ¬ N b) :
    SeqX Try.prog 47 #[.pointer (some ⟨Ba, 0, none⟩), .pointer (some ⟨Bf, 0, none⟩)] aEnc K 0 aNew (fun xs => recs xs = rs) (aSp head rs) w0 := by
  intro lp J Jx W hW hJ hJx hY h0
  have hBa1 : Boxed W Ba 22 v := (hW.block Ba hBa.lt).trans hBa
  have hrow1 := (Keeps.of_below (S := fun _ => False) hW).owns hrow (fun _ _ => id)
  have hcn := hBa1.cell
  have hzW := hW.size
  have hbal := hBa.lt
  have hbfl := hBf.lt
  refine (callsIn_wide (n := 3)).1 ?_
  refine callsIn_of_wp Try.func47 rfl trivial ?_ rfl
  simp only [Try.ntmps47, List.size_toArray, List.length_cons, List.length_nil, Nat.reduceAdd, Nat.reduceSub, Array.replicate_succ, Array.replicate_zero, List.push_toArray, List.append_toArray, List.nil_append, List.cons_append]
  obtain ⟨ao, cap, rfl⟩ := owns_slice hrow1
  gi_wp2
  clear hcn hBa hBa1
  have Hrow := hide hrow
  have Hbs := hide hbs
  have HBf := hide hBf
  clear hbs hrow hBf
  gi_loopw [8] (fun i wr => ∃ k : Nat, k ≤ rs.length ∧ i = .int .i64 (k : Int) ∧ ∃ xs, (recs xs = rs.take k ∧ xs.length = k) ∧ J xs wr ∧ W.heap.size ≤ wr.heap.size ∧ KeepS (fun k => k < w0.heap.size ∧ ¬ N k) w0 wr) (fun i _ => rs.length - (intOf i).toNat)
  case atStart => exact ⟨0, Nat.zero_le _, rfl, [], ⟨by simp [recs], rfl⟩, h0, Nat.le_refl _, KeepS.below hW (fun k hk => hk.1)⟩
  case round =>
    obtain ⟨k, hk, rfl, xs, ⟨hxs, hxl⟩, hJk, hsz, hkeep⟩ := hrel
    clear h0 hrow1
    by_cases hkl : k < rs.length
    · obtain ⟨ao', cap', e2, _, hg⟩ := owns_form Hrow.out
      obtain ⟨pb, rfl, _⟩ := hg (by omega)
      injection e2 with e2 _ e3
      subst e2 e3
      have cells : ∀ j u, j < 5 → ((rs[k]).cells (vs[k]'(by omega)))[j]? = some u → wr.cell? ⟨pb, k * 5 + j, none⟩ = some u := by
        intro j u hj hu
        have x1 := Hrow.out.cells (g := pb) rfl _ _ ((cellsR_at hvl k hkl j hj).trans hu)
        rw [Addr.add_lit, Nat.zero_add] at x1
        have hpb : pb < w0.heap.size := by have := World.block_lt_of_cell? w0 _ x1; simpa using this
        exact (World.cell?_of_block (a := ⟨pb, k * 5 + j, none⟩) (hkeep.same pb ⟨hpb, hN2 pb rfl⟩)).trans x1
      have x0 := cells 0 _ (by omega) rfl
      have x1 := cells 1 _ (by omega) rfl
      have x2 := cells 2 _ (by omega) rfl
      have x3 := cells 3 _ (by omega) rfl
      have x4 := cells 4 _ (by omega) rfl
      rw [Nat.add_zero] at x0
      obtain ⟨hb0, hbN⟩ := Hbs.out k hkl (by omega)
      have hblt := hb0.lt
      have hbw : Bs wr (vs[k]'(by omega)) (rs[k]).l := keepS_bs hkeep hb0 (fun hp b hb => ⟨bs_lt2 hb0 hp b hb, hbN hp b hb⟩)
      have hl44 := hps _ (List.getElem_mem hkl)
      have hts : recs xs ++ [rs[k]] = rs.take (k + 1) := by rw [hxs, List.take_add_one, List.getElem?_eq_getElem hkl]; rfl
      generalize (vs[k]'(by omega)) = vk at *
      generalize rs[k] = rk at *
      clear cells hb0 hg hbN
      obtain ⟨vao, vcap, rfl, _⟩ := id hbw
      have hbf : Boxed wr Bf 2 (.int .i64 (head : Int)) := (hkeep.same Bf ⟨hbfl, hN3⟩).trans HBf.out
      obtain ⟨wb, hwb⟩ : ∃ wb, wr.alloc (.cells #[.int .i64 rk.k, .int .i64 rk.b, .int .i64 rk.o, .slice vao rk.l.length vcap, .int .i64 rk.m] 62) = wb := ⟨_, rfl⟩
      have kb0 : Below wr.heap.size wr wb := by rw [← hwb]; exact (Below.refl _ _).alloc (Nat.le_refl _) _
      have hRb : RecAt wb wr.heap.size rk.k rk.b rk.o (.slice vao rk.l.length vcap) rk.m := by rw [← hwb]; exact RecAt.new wr _ _ _ _ _
      have hzb : wr.heap.size < wb.heap.size := by rw [← hwb]; simp
      have hJb : J xs wb := hJ xs wr _ none hJk ⟨kb0.os, kb0.tape, kb0.output, kb0.size, fun k hk _ => kb0.block k hk⟩ (fun r e => by cases e)
      have hbwb : Bs wb.drew (.slice vao rk.l.length vcap) rk.l := (hbw.mono kb0).drew
      have hkb : KeepS (fun k => k < w0.heap.size ∧ ¬ N k) w0 wb := hkeep.trans (KeepS.below kb0 (fun k hk => by have := hk.1; omega))
      have bfb := (kb0.block _ hbf.lt).trans hbf
      have cbf : wb.cell? ⟨Bf, 0, none⟩ = some (.int .i64 (head : Int)) := Boxed.cell bfb
      obtain ⟨r0, r1, r2, r3, r4⟩ := hRb.held
      have hwr : IntKind.i64.wrap ((head : Int) + (k : Int)) = (head : Int) + (k : Int) := by rw [show ((head : Int) + (k : Int)) = ((head + k : Nat) : Int) by omega]; exact wrap_small (by omega)
      have Hts := hide hts
      have Hxl := hide hxl
      have Hxs := hide hxs
      have HRb := hide hRb
      clear hkeep hJk hts hxl hxs hRb hbf
      gi_wp2
      gi_region_with (first
        | (refine ⟨trivial, ?_⟩; gi_at_call 33; refine (callsIn_wide.2 (clone_rec _ _ _ _ _ rk.l _ hbwb (by omega))).mono ?_; rintro e w1 ⟨v1, rfl, ho1, hb1⟩; obtain ⟨ao1, cap1, rfl⟩ := owns_slice ho1
           have hb1' : Below wb.heap.size wb w1 := ⟨hb1.os, hb1.tape, hb1.output, hb1.size, hb1.block⟩
           have cbf' := (Keeps.of_below (S := fun _ => False) hb1').cell cbf id
           have hJ1 : J xs w1 := hJ xs wb _ none hJb ⟨hb1'.os, hb1'.tape, hb1'.output, hb1'.size, fun k hk _ => hb1'.block k hk⟩ (fun r e => by cases e)
           have z1 := hb1'.size
           obtain ⟨fn, tmps, assign, body, hy, hR⟩ := hY xs (head + k, rk, ao1, cap1) w1 ⟨by rw [recs_snoc, Hts.out]; exact List.take_prefix _ _, fun a x e => by have e1 := List.append_inj' e rfl; obtain ⟨rfl, e2⟩ := e1; injection e2 with e2; subst e2; rw [Hxl.out]⟩ hJ1 (by omega) ⟨owns_base ho1 (by have e : wb.drew.heap.size = wb.heap.size := rfl; omega), hblt⟩
           dsimp only [aEnc] at hy; rw [show ((head + k : Nat) : Int) = (head : Int) + (k : Int) by omega] at hy)
        | (refine (roundIn_any hR).mono ?_; rintro e W3 ⟨hst, h3⟩; obtain ⟨bv, rfl⟩ : ∃ bv, e = .returned (.bool bv) := (by rcases h3 with ⟨h, _⟩ | ⟨h, _⟩ <;> exact ⟨_, h⟩); have H3 := hide h3; clear h3))
      all_goals
        cases bv
        · have hJx3 : Jx (xs ++ [(head + k, rk, ao1, cap1)]) W3 := by
            rcases H3.out with ⟨h, _⟩ | ⟨_, h⟩
            · simp at h
            · exact h
          gi_wp2
          refine bodyPost_ret (results_none rfl _ _ _) rfl ?_
          exact ⟨⟨_, rfl⟩, .inr ⟨_, ⟨by rw [recs_snoc, Hts.out]; exact List.take_prefix _ _, fun a x e => by have e1 := List.append_inj' e rfl; obtain ⟨rfl, e2⟩ := e1; injection e2 with e2; subst e2; rw [Hxl.out]⟩, hJx3⟩⟩
        · have hJ3 : J (xs ++ [(head + k, rk, ao1, cap1)]) W3 ∧ KeepS K w1 W3 := by
            rcases H3.out with ⟨_, h⟩ | ⟨h, _⟩
            · exact h
            · simp at h
          have hk3 : KeepS (fun k => k < w0.heap.size ∧ ¬ N k) w0 W3 := (hkb.trans (KeepS.below hb1' (fun k hk => by have := hk.1; omega))).trans ⟨hJ3.2.size, fun k hk => hJ3.2.same k (hK k hk.1 hk.2)⟩
          have z3 := hJ3.2.size
          gi_wp2
          go_roundw
          case rel => exact ⟨k + 1, by omega, by go_num, _, ⟨by rw [recs_snoc]; exact Hts.out, by simp [Hxl.out]⟩, hJ3.1, by omega, hk3⟩
          case measure => simp [intOf]; omega
    · obtain rfl : k = rs.length := by omega
      rw [List.take_of_length_le (Nat.le_refl _)] at hxs
      gi_wp2
      go_end0
      exact ⟨⟨_, rfl⟩, .inl ⟨xs, hxs, hJk⟩⟩

end Go.Proofs.Ytjhbljkoapbkfaa
