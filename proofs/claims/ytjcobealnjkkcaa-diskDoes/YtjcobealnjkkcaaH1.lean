/- Contracts: slices.Clone of pending writes, Pending and its iterator. -/
import Derived.Test.YtjcobealnjkkcaaE2
import Derived.Test.YtjcobealnjkkcaaIter3
import Derived.Stop.RegionWithIn
set_option linter.unusedSimpArgs false
set_option linter.unusedVariables false
namespace Go.Proofs.Ytjcobealnjkkcaa
open Go.RowKit Go.Attic Go.Shelf
attribute [local go_sem] Oper.semAt_some

theorem cellsW_length {ps : List (Nat × List Nat)} {vs : List Value} (h : vs.length = ps.length) : (cellsW ps vs).length = ps.length * 2 := by
  induction ps generalizing vs with
  | nil => simp [cellsW]
  | cons x ps ih =>
    cases vs with
    | nil => simp at h
    | cons v vs =>
      have := ih (vs := vs) (by simpa using h)
      simp only [cellsW, List.zip_cons_cons, List.flatMap_cons, List.length_append, List.length_cons, List.length_nil] at this ⊢
      omega

set_option maxRecDepth 100000 in
set_option maxHeartbeats 1000000 in
theorem cloneW_any {w : World} {p : Option Nat} {F : Nat → Prop} {v : Value} {ps : List (Nat × List Nat)} {vs : List Value} (h : Ws 78 w p F v ps vs) (hlen : ps.length ≤ 1000000) :
    Calls Try.prog 54 #[v] w fun e w' => ∃ v', e = .returned v' ∧ w'.ownsRow w.heap.size 78 2 v' ps.length (cellsW ps vs) ∧ Below w.heap.size w w' := by
  obtain ⟨i0, hi, hz0, hz1, hz2⟩ := info_parts Try.info78
  have hrow := h.row
  have hcl := cellsW_length h.len
  have hone : ∀ u ∈ cellsW ps vs, u.oneCell' = true := by
    intro u hu
    simp only [cellsW, List.mem_flatMap] at hu
    obtain ⟨x, hx, hu⟩ := hu
    simp only [List.mem_cons, List.not_mem_nil, or_false] at hu
    rcases hu with rfl | rfl
    · rfl
    · obtain ⟨i, hi', he⟩ := List.getElem_of_mem hx
      simp at hi'
      have h2 : x.2 = vs[i] := by rw [← he]; simp
      obtain ⟨ao, cap, e, _⟩ := (h.bs i (by omega) (by omega)).1
      rw [h2, e]
      rfl
  rcases hrow.2 with ⟨rfl, h0⟩ | ⟨b, cap, cur, rfl, _, hg, hnc, hcm, hcs, htake⟩
  · have hps : ps = [] := List.eq_nil_of_length_eq_zero h0
    subst hps
    have hnil : ∀ w, (binOp .eql 59 (.slice none 0 0) (.slice none 0 0)).run Try.prog w = .ok (.bool true) w := fun w => Lib.run_eql_slice_nil (P := Try.prog) w 59 78 none 0 0 0 0 Try.underlying59
    clear h hrow hcl hone
    go_enter Try.func54, Try.ntmps54
    go_wp2
    go_ret
    exact ⟨_, rfl, by simpa [cellsW] using World.ownsRow_nil _ _ _ _, Below.refl _ _⟩
  · have hnil := fun w => Lib.run_eql_slice_nil (P := Try.prog) w 59 78 (some ⟨b, 0, none⟩) ps.length cap 0 0 Try.underlying59
    have hcells : ∀ j u, (cellsW ps vs)[j]? = some u → (w.alloc (.cells #[] 78)).cell? ((⟨b, 0, none⟩ : Addr).add j) = some u := fun j u hu => (Keeps.alloc (S := fun _ => False) w _).cell (hrow.cells (g := b) rfl j u hu) id
    clear hg htake hcs h hrow
    go_enter Try.func54, Try.ntmps54
    go_wp2_with (at_builtin; refine wpList_append_own _ rfl (.tmp 5) (.tmp 6) 59 rfl w.heap.size 78 i0 (.agg #[.int .i64 0, .slice none 0 0]) 2 32 Try.underlying59 hi hz0 hz1 hz2 rfl (by decide) _ 0 [] rfl (World.ownsRow_lit w #[] 0 (Nat.le_refl _) (by simp) (by simp)) ⟨b, 0, none⟩ ps.length cap (cellsW ps vs) rfl hcl hcells hone (by unfold maxLen; omega) (by omega) (by simp) ?_; intro v' w1 hown hgrow _)
    have hb : Below w.heap.size w w1 := ((Below.refl _ _).alloc (Nat.le_refl _) _).grown hgrow (by simp) (by intro k hk; have e : some w.heap.size = some k := hk; injection e with e; omega)
    rw [Nat.zero_add, List.nil_append] at hown
    go_ret
    exact ⟨_, rfl, hown, hb⟩

/-- The function that Pending hands back: its writes, as they were then. -/
def PendIt (Q : Nat → Prop) (w0 w : World) (ps : List (Nat × List Nat)) (f : Value) : Prop :=
  ∃ bx v vs, f = .func (.func 55) #[] #[.pointer (some ⟨bx, 0, none⟩)] ∧ w0.heap.size ≤ bx ∧ Boxed w bx 59 v ∧ w.ownsRow w0.heap.size 78 2 v ps.length (cellsW ps vs) ∧ vs.length = ps.length ∧ ∀ i (hi : i < ps.length) (hv : i < vs.length), Bs w vs[i] (ps[i]).2 ∧ ∀ b, vs[i].ownBlock = some b → Q b

set_option maxRecDepth 100000 in
set_option maxHeartbeats 400000 in
theorem pending_yes {w : World} {g m : Nat} {p : Option Nat} {F : Nat → Prop} {n : Nat} {s : St} (h : Dk w g m p F n s) (hlen : s.pend.length ≤ 1000000) :
    Calls Try.prog 43 #[.pointer (some ⟨g, 0, none⟩)] w fun e w' => ∃ f, e = .returned f ∧ PendIt F w w' s.pend f ∧ Below w.heap.size w w' := by
  obtain ⟨w1, hw1⟩ : ∃ w1, w.alloc (.cells #[.slice none 0 0] 59) = w1 := ⟨_, rfl⟩
  have hb1 : Below w.heap.size w w1 := by rw [← hw1]; exact (Below.refl _ w).alloc (Nat.le_refl _) _
  have hz1 : w1.heap.size = w.heap.size + 1 := by rw [← hw1]; simp
  have b1 : Boxed w1 w.heap.size 59 (.slice none 0 0) := by rw [← hw1]; exact Boxed.new w 59 _
  have h1 := h.mono hb1
  obtain ⟨pv, vs, c1, hW⟩ := h1.c1
  obtain ⟨pao, pcap, rfl⟩ := owns_slice hW.row
  have Hz1 := hide hz1
  have hFl := h.Fl
  clear hz1 h
  go_enter Try.func43, Try.ntmps43
  go_wp2_with fail
  refine (isMade_yes h1).mono ?_
  rintro e w' ⟨rfl, rfl⟩
  go_wp2_with fail
  refine (cloneW_any hW hlen).mono ?_
  rintro e w2 ⟨v2, rfl, ho2, hb2⟩
  have b2 : Boxed w2 w.heap.size 59 (.slice none 0 0) := (hb2.block _ (by rw [Hz1.out]; omega)).trans b1
  have c2 := b2.cell
  have f2 := b2.frozen
  obtain ⟨ao2, cap2, rfl⟩ := owns_slice ho2
  have hlt2 := ho2.lt
  have Ho2 := hide ho2
  have HW := hide hW
  clear ho2 hW
  go_wp2
  go_ret
  have k3 := keeps_set w2 w.heap.size 0 (.slice ao2 s.pend.length cap2)
  refine ⟨_, rfl, ⟨w.heap.size, _, vs, rfl, Nat.le_refl _, b2.set _, ?_, HW.out.len, fun i hi hv => ?_⟩, (hb1.trans (hb2.mono (by rw [Hz1.out]; omega))).setCell (p := ⟨w.heap.size, 0, none⟩) (Nat.le_refl _) _⟩
  · exact owns_base (k3.owns Ho2.out (fun b hb e => by have := (hlt2 b hb).1; have e' : b = w.heap.size := e; rw [Hz1.out] at this; omega)) (by rw [Hz1.out]; omega)
  · have q := HW.out.bs i hi hv
    have q2 := q.1.mono hb2
    refine ⟨k3.bs q2 (fun b hb e => ?_), fun b hb => (q.2 b hb).1⟩
    have e' : b = w.heap.size := e
    have := hFl b (q.2 b hb).1
    omega

/-- What the iterator hands over: a block's number, its bytes, and a slice that holds them. -/
def pEnc (x : Nat × List Nat × Value) : Array Value := #[.int .i64 (x.1 : Int), x.2.2]
def pOf (x : Nat × List Nat × Value) : Nat × List Nat := (x.1, x.2.1)
def pNew (B : Nat) (x : Nat × List Nat × Value) (W : World) : Prop := W.ownsRow B 5 1 x.2.2 x.2.1.length (cellsB x.2.1) ∧ (∀ y ∈ x.2.1, y < 256)

theorem take_map_succ {ps : List (Nat × List Nat)} {xs : List (Nat × List Nat × Value)} {k : Nat} (h : xs.map pOf = ps.take k) (hk : k < ps.length) (v : Value) : (xs ++ [((ps[k]).1, (ps[k]).2, v)]).map pOf = ps.take (k + 1) := by
  rw [List.map_append, h, List.take_add_one, List.getElem?_eq_getElem hk]
  rfl

theorem bs_lt2 {w : World} {v : Value} {l : List Nat} (h : Bs w v l) (hl : 0 < l.length) : ∀ b, v.ownBlock = some b → b < w.heap.size := by
  obtain ⟨ao, cap, rfl, _, _, _, hc⟩ := h
  obtain ⟨b, off, rfl, hcell⟩ := hc hl
  intro b' e
  have := World.block_lt_of_cell? w _ (hcell 0 hl)
  simp [Value.ownBlock] at e
  simp at this
  omega

set_option maxRecDepth 100000 in
set_option maxHeartbeats 1000000 in
theorem pending1_any (K N : Nat → Prop) (ps : List (Nat × List Nat)) (vs : List Value) (v : Value) (Bv base : Nat) (w0 : World) (hBv : Boxed w0 Bv 59 v) (hrow : w0.ownsRow base 78 2 v ps.length (cellsW ps vs)) (hvl : vs.length = ps.length) (hbs : ∀ i (hi : i < ps.length) (hv : i < vs.length), Bs w0 vs[i] (ps[i]).2 ∧ ∀ b, vs[i].ownBlock = some b → ¬ N b)
    (hps : ∀ x ∈ ps, x.2.length = 256) (hlen : ps.length ≤ 1000000) (hK : ∀ k, k < w0.heap.size → ¬ N k → K k) (hN1 : ¬ N Bv) (hN2 : ∀ b, v.ownBlock = some b → ¬ N b) :
    SeqX Try.prog 55 #[.pointer (some ⟨Bv, 0, none⟩)] pEnc K 0 pNew (fun xs => xs.map pOf = ps) (fun pre => pre.map pOf <+: ps) w0 := by
  intro lp J Jx W hW hJ hJx hY h0
  have hBv1 : Boxed W Bv 59 v := (hW.block Bv hBv.lt).trans hBv
  have hrow1 := (Keeps.of_below (S := fun _ => False) hW).owns hrow (fun _ _ => id)
  have hcn := hBv1.cell
  have hzW := hW.size
  refine (callsIn_wide (n := 3)).1 ?_
  refine callsIn_of_wp Try.func55 rfl trivial ?_ rfl
  simp only [Try.ntmps55, List.size_toArray, List.length_cons, List.length_nil, Nat.reduceAdd, Nat.reduceSub, Array.replicate_succ, Array.replicate_zero, List.push_toArray, List.append_toArray, List.nil_append, List.cons_append]
  obtain ⟨ao, cap, rfl⟩ := owns_slice hrow1
  gi_wp2
  clear hcn hBv hBv1
  have Hrow := hide hrow
  have Hbs := hide hbs
  clear hbs hrow
  gi_loopw [7] (fun i wr => ∃ k : Nat, k ≤ ps.length ∧ i = .int .i64 (k : Int) ∧ ∃ xs, xs.map pOf = ps.take k ∧ J xs wr ∧ W.heap.size ≤ wr.heap.size ∧ KeepS (fun k => k < w0.heap.size ∧ ¬ N k) w0 wr) (fun i _ => ps.length - (intOf i).toNat)
  case atStart => exact ⟨0, Nat.zero_le _, rfl, [], by simp, h0, Nat.le_refl _, KeepS.below hW (fun k hk => hk.1)⟩
  case round =>
    obtain ⟨k, hk, rfl, xs, hxs, hJk, hsz, hkeep⟩ := hrel
    clear h0 hrow1
    by_cases hkl : k < ps.length
    · obtain ⟨hc1, hc2⟩ := cellsW_at hvl k hkl
      obtain ⟨ao', cap', e2, _, hg⟩ := owns_form Hrow.out
      obtain ⟨pb, rfl, _⟩ := hg (by omega)
      injection e2 with e2 _ e3
      subst e2 e3
      have x1 := Hrow.out.cells (g := pb) rfl _ _ hc1
      have x2 := Hrow.out.cells (g := pb) rfl _ _ hc2
      rw [Addr.add_lit, Nat.zero_add] at x1 x2
      have hpb : pb < w0.heap.size := by have := World.block_lt_of_cell? w0 _ x1; simpa using this
      have y1 := (World.cell?_of_block (a := ⟨pb, k * 2, none⟩) (hkeep.same pb ⟨hpb, hN2 pb rfl⟩)).trans x1
      have y2 := (World.cell?_of_block (a := ⟨pb, k * 2 + 1, none⟩) (hkeep.same pb ⟨hpb, hN2 pb rfl⟩)).trans x2
      obtain ⟨hb0, hbN⟩ := Hbs.out k hkl (by omega)
      have hblt := hb0.lt
      have hbw : Bs wr (vs[k]'(by omega)) (ps[k]).2 := hkeep.bs hb0 (fun b hb => ⟨bs_lt2 hb0 (by rw [hps _ (List.getElem_mem hkl)]; omega) b hb, hbN b hb⟩)
      have hl256 := hps _ (List.getElem_mem hkl)
      have hts := fun u => take_map_succ hxs hkl u
      generalize (vs[k]'(by omega)) = vk at *
      generalize ps[k] = pk at *
      obtain ⟨blk, byt⟩ := pk
      dsimp only at *
      clear x1 x2 hc1 hc2 hb0 hg hbN
      obtain ⟨vao, vcap, rfl, _⟩ := id hbw
      rw [hl256] at hbw y2
      obtain ⟨wb, hwb⟩ : ∃ wb, wr.alloc (.cells #[.int .i64 (blk : Int), .slice vao 256 vcap] 78) = wb := ⟨_, rfl⟩
      have kb0 : Below wr.heap.size wr wb := by rw [← hwb]; exact (Below.refl _ _).alloc (Nat.le_refl _) _
      have cb0 : wb.cell? ⟨wr.heap.size, 0, none⟩ = some (.int .i64 (blk : Int)) := by rw [← hwb]; simp
      have cb1 : wb.cell? ⟨wr.heap.size, 1, none⟩ = some (.slice vao 256 vcap) := by rw [← hwb]; simp
      have hzb : wr.heap.size < wb.heap.size := by rw [← hwb]; simp
      have hJb : J xs wb := hJ xs wr _ none hJk ⟨kb0.os, kb0.tape, kb0.output, kb0.size, fun k hk _ => kb0.block k hk⟩ (fun r e => by cases e)
      have hbwb : Bs wb.drew (.slice vao 256 vcap) byt := (hbw.mono kb0).drew
      have Hl256 := hide hl256
      have hkb : KeepS (fun k => k < w0.heap.size ∧ ¬ N k) w0 wb := hkeep.trans (KeepS.below kb0 (fun k hk => by have := hk.1; omega))
      clear hl256 hkeep hJk
      gi_wp2
      gi_region_with (first
        | (refine ⟨trivial, ?_⟩; gi_at_call 42; refine (callsIn_wide.2 (own_any _ byt _ hbwb (by rw [Hl256.out]; omega))).mono ?_; rintro e w1 ⟨v1, rfl, ho1, hb1⟩
           have hb1' : Below wb.heap.size wb w1 := ⟨hb1.os, hb1.tape, hb1.output, hb1.size, hb1.block⟩
           have cb0' := (Keeps.of_below (S := fun _ => False) hb1').cell cb0 id
           have cb1' := (Keeps.of_below (S := fun _ => False) hb1').cell cb1 id
           have hJ1 : J xs w1 := hJ xs wb _ none hJb ⟨hb1'.os, hb1'.tape, hb1'.output, hb1'.size, fun k hk _ => hb1'.block k hk⟩ (fun r e => by cases e)
           have z1 := hb1'.size
           obtain ⟨fn, tmps, assign, body, hy, hR⟩ := hY xs (blk, byt, v1) w1 (by rw [hts v1]; exact List.take_prefix _ _) hJ1 (by omega) ⟨owns_base ho1 (by have e : wb.drew.heap.size = wb.heap.size := rfl; omega), hblt⟩
           dsimp only [pEnc] at hy)
        | (refine (roundIn_any hR).mono ?_; rintro e W3 ⟨hst, h3⟩; obtain ⟨bv, rfl⟩ : ∃ bv, e = .returned (.bool bv) := (by rcases h3 with ⟨h, _⟩ | ⟨h, _⟩ <;> exact ⟨_, h⟩); have H3 := hide h3; clear h3))
      all_goals
        cases bv
        · have hJx3 : Jx (xs ++ [(blk, byt, v1)]) W3 := by
            rcases H3.out with ⟨h, _⟩ | ⟨_, h⟩
            · simp at h
            · exact h
          gi_wp2
          refine bodyPost_ret (results_none rfl _ _ _) rfl ?_
          exact ⟨⟨_, rfl⟩, .inr ⟨_, by rw [hts v1]; exact List.take_prefix _ _, hJx3⟩⟩
        · have hJ3 : J (xs ++ [(blk, byt, v1)]) W3 ∧ KeepS K w1 W3 := by
            rcases H3.out with ⟨_, h⟩ | ⟨h, _⟩
            · exact h
            · simp at h
          have hk3 : KeepS (fun k => k < w0.heap.size ∧ ¬ N k) w0 W3 := (hkb.trans (KeepS.below hb1' (fun k hk => by have := hk.1; omega))).trans ⟨hJ3.2.size, fun k hk => hJ3.2.same k (hK k hk.1 hk.2)⟩
          have z3 := hJ3.2.size
          gi_wp2
          go_roundw
          case rel => exact ⟨k + 1, by omega, by go_num, _, hts v1, hJ3.1, by omega, hk3⟩
          case measure => simp [intOf]; omega
    · obtain rfl : k = ps.length := by omega
      rw [List.take_of_length_le (Nat.le_refl _)] at hxs
      gi_wp2
      go_end0
      exact ⟨⟨_, rfl⟩, .inl ⟨xs, hxs, hJk⟩⟩

end Go.Proofs.Ytjcobealnjkkcaa
