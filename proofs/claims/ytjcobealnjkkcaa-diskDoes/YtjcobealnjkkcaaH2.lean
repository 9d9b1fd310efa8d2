/- Contract: pending, the statements' own list of what is pending. -/
import Derived.Test.YtjcobealnjkkcaaH1
set_option linter.unusedSimpArgs false
set_option linter.unusedVariables false
namespace Go.Proofs.Ytjcobealnjkkcaa
open Go.RowKit Go.Attic Go.Shelf
attribute [local go_sem] Oper.semAt_some

theorem Try.info55 : (Try.prog.info? 55).map (fun i => (i.zero, i.size, i.bytes)) = some (some (.agg #[.int .i64 0, .slice none 0 0]), 2, 32) := by kernel_rfl

abbrev PX := Nat × List Nat × Value
/-- Writes as cells. -/
def cellsP (xs : List PX) : List Value := xs.flatMap fun x => [Value.int .i64 (x.1 : Int), x.2.2]
theorem cellsP_append (a b : List PX) : cellsP (a ++ b) = cellsP a ++ cellsP b := by simp [cellsP]

theorem take_grow {α : Type} {p : List α} {m : Nat} (x : α) (h : p.length < m) : (p ++ [x]).take m = p.take m ++ [x] := by
  rw [List.take_of_length_le (by simp; omega), List.take_of_length_le (by omega)]
theorem take_same {α : Type} {p : List α} {m : Nat} (x : α) (h : m ≤ p.length) : (p ++ [x]).take m = p.take m := by
  rw [List.take_append_of_le_length h]

theorem run_eql_func_nil {P : Program} (w : World) {t : TypeId} {ps rs : Array TypeId} {vr : Bool} (f : Fn) (first cap : Array Value) (ht : P.underlying t = some (.func ps rs vr)) :
    (binOp .eql t (.func f first cap) .nilFunc).run P w = .ok (.bool false) w := by
  have h : ∀ d : Nat, (Op.equalIn (d + 1) t (.func f first cap) .nilFunc).run P w = .ok false w := fun d => by
    simp [Op.equalIn, run_underlying ht]
  simp only [binOp]
  simp [Op.equal, Op.maxDepth, h 9999]

theorem stands_new {D E : Nat} (B : Nat) (f : List PX → List PX) (h : E ≤ B) : Stands D E (fun pre W => ∀ x ∈ f pre, pNew B x W) :=
  fun s A B' row hs hg hm x hx => ⟨stands_owns (β := List PX) B 5 1 (fun _ => x.2.2) (fun _ => x.2.1.length) (fun _ => cellsB x.2.1) h s A B' row (hs x hx).1 hg hm, (hs x hx).2⟩

/-- What the list of pending writes is. -/
def TellsP (w : World) (ps : List (Nat × List Nat)) (e : Ending) (w' : World) : Prop :=
  ∃ v xs, e = .returned v ∧ xs.map pOf = ps ∧ w'.ownsRow w.heap.size 55 2 v xs.length (cellsP xs) ∧ (∀ x ∈ xs, pNew w.heap.size x w') ∧ Below w.heap.size w w'

theorem pNew.putObj {B l : Nat} {x : PX} {W : World} {o : Obj} (h : pNew B x W) (o' : Obj) (hl : W.heap[l]? = some o) (ho : o.isCells = false) : pNew B x (W.putObj l o') := ⟨ownsRow_putObj h.1 _ hl ho, h.2⟩
theorem pNew.base {B B' : Nat} {x : PX} {W : World} (h : pNew B x W) (hB : B' ≤ B) : pNew B' x W := ⟨owns_base h.1 hB, h.2⟩

set_option maxRecDepth 100000 in
set_option maxHeartbeats 2000000 in
theorem pendL_any (Q : Nat → Prop) (dv : Value) (ps : List (Nat × List Nat)) (most : Nat) (w : World) (hp : ∀ w1, Below w.heap.size w w1 → Calls Try.prog 43 #[dv] w1 fun e w2 => ∃ f, e = .returned f ∧ PendIt Q w1 w2 ps f ∧ Below w1.heap.size w1 w2) (hQ : ∀ b, Q b → b < w.heap.size)
    (hps : ∀ x ∈ ps, x.2.length = 256) (hlen : ps.length ≤ 1000000) (hmost : most ≤ 4611686018427387904) :
    Calls Try.prog 26 #[dv, .int .i64 (most : Int)] w (TellsP w (ps.take most)) := by
  obtain ⟨i0, hi, hz0, hz1, hz2⟩ := info_parts Try.info55
  obtain ⟨w1, hw1⟩ : ∃ w1, (w.alloc (.cells #[.int .i64 (most : Int)] 3)).alloc (.cells #[.slice none 0 0] 50) = w1 := ⟨_, rfl⟩
  have hb1 : Below w.heap.size w w1 := by rw [← hw1]; exact ((Below.refl _ w).alloc (Nat.le_refl _) _).alloc (by simp) _
  have hzz : w1.heap.size = w.heap.size + 2 := by rw [← hw1]; simp
  have b0 : Boxed w1 w.heap.size 3 (.int .i64 (most : Int)) := by rw [← hw1]; exact (Boxed.new w 3 _).alloc _
  have b1 : Boxed w1 (w.heap.size + 1) 50 (.slice none 0 0) := by
    rw [← hw1]
    have := Boxed.new (w.alloc (.cells #[.int .i64 (most : Int)] 3)) 50 (.slice none 0 0)
    simpa using this
  have hp1 := hp w1 hb1
  have Hzz := hide hzz
  clear hp hzz
  refine (callsIn_wide (n := 3)).1 ?_
  refine callsIn_of_wp_marks Try.func26 rfl trivial ?_ rfl
  simp only [Try.ntmps26, List.size_toArray, List.length_cons, List.length_nil, Nat.reduceAdd, Nat.reduceSub, Array.replicate_succ, Array.replicate_zero, List.push_toArray, List.append_toArray, List.nil_append, List.cons_append]
  gi_wp2
  refine ⟨trivial, (callsIn_wide.2 hp1).mono ?_⟩
  rintro e V ⟨f, rfl, ⟨bx, v, vs, rfl, hbx, hBx, hrow, hvl, hbs⟩, hbV⟩
  have hnil := fun w => run_eql_func_nil (P := Try.prog) w (.func 55) #[] #[.pointer (some ⟨bx, 0, none⟩)] Try.underlying75
  have hzV := hbV.size
  have b0V : Boxed V w.heap.size 3 (.int .i64 (most : Int)) := (hbV.block _ (by rw [Hzz.out]; omega)).trans b0
  have b1V : Boxed V (w.heap.size + 1) 50 (.slice none 0 0) := (hbV.block _ (by rw [Hzz.out]; omega)).trans b1
  have hBV : Below w.heap.size w V := hb1.trans (hbV.mono (by rw [Hzz.out]; omega))
  have hzV2 : w.heap.size + 2 ≤ V.heap.size := by rw [Hzz.out] at hzV; exact hzV
  gi_wp2
  have hseq := pending1_any (fun k => k < V.heap.size ∧ k ≠ w.heap.size + 1) (fun k => k = w.heap.size + 1) ps vs v bx _ V hBx hrow hvl (fun i hi hv => ⟨(hbs i hi hv).1, fun b hb e => by
    have := hQ b ((hbs i hi hv).2 b hb)
    have e' : b = w.heap.size + 1 := e
    omega⟩) hps hlen (fun k hk hn => ⟨hk, hn⟩) (fun e => by have e' : bx = w.heap.size + 1 := e; have := Hzz.out; omega) (fun b hb e => by have e' : b = w.heap.size + 1 := e; have := (hrow.lt b hb).1; have := Hzz.out; omega)
  refine range_law3 (n := 3) (gf := 55) (lb := #[.pointer (some ⟨bx, 0, none⟩)]) rfl (enters_of Try.func55 (by kernel_rfl) rfl) hseq (Below.refl _ _) (fun k hk => hk.1) (fun _ => rfl)
    (fun pre U => (∃ u, Boxed U (w.heap.size + 1) 50 u ∧ U.ownsRow (V.heap.size + 2 + 0) 55 2 u (pre.take most).length (cellsP (pre.take most))) ∧ ((∀ x ∈ pre.take most, pNew (V.heap.size + 2 + 0) x U) ∧ (Boxed U w.heap.size 3 (.int .i64 (most : Int)) ∧ Below w.heap.size w U)))
    (fun code pre U => (code = .exit 0 ∧ most < pre.length) ∧ ((∃ u, Boxed U (w.heap.size + 1) 50 u ∧ U.ownsRow (V.heap.size + 2 + 0) 55 2 u (pre.take most).length (cellsP (pre.take most))) ∧ ((∀ x ∈ pre.take most, pNew (V.heap.size + 2 + 0) x U) ∧ Below w.heap.size w U)))
    (Stands.and (Stands.ex fun u => Stands.and (stands_boxed _ _ _ (.inl (by omega))) (stands_owns _ _ _ _ _ _ (Nat.le_refl _))) (Stands.and (stands_new _ _ (Nat.le_refl _)) (Stands.and (stands_boxed _ _ _ (.inl (by omega))) (stands_below _ _ (Nat.le_refl _) (by omega)))))
    (fun code => Stands.and (Stands.pure _ _ _) (Stands.and (Stands.ex fun u => Stands.and (stands_boxed _ _ _ (.inl (by omega))) (stands_owns _ _ _ _ _ _ (Nat.le_refl _))) (Stands.and (stands_new _ _ (Nat.le_refl _)) (stands_below _ _ (Nat.le_refl _) (by omega)))))
    ⟨⟨_, b1V, by simpa [cellsP] using World.ownsRow_nil _ _ _ _⟩, by simp, b0V, hBV⟩
    (fun x U => { tmps := #[dv, .int .i64 (most : Int), undef, .pointer (some ⟨w.heap.size, 0, none⟩), .slice none 0 0, .pointer (some ⟨w.heap.size + 1, 0, none⟩), .func (.func 55) #[] #[.pointer (some ⟨bx, 0, none⟩)], .int .i64 (x.1 : Int), x.2.2, dv, .func (.func 55) #[] #[.pointer (some ⟨bx, 0, none⟩)], .func (.func 55) #[] #[.pointer (some ⟨bx, 0, none⟩)], .bool false, .func (.func 55) #[] #[.pointer (some ⟨bx, 0, none⟩)], .int .i64 (x.1 : Int), x.2.2, undef, undef, undef, undef, undef, undef, undef, undef, undef, undef, undef], defers := [] })
    (fun x U => U) (fun x U => Below.refl _ _)
    ?assign ?body ?done ?stop
  case assign =>
    intro l' x U T hT
    simp only [pEnc]
    gi_wp2
    exact hT
  case body =>
    rintro pre x U0 U hSp ⟨⟨u, bL1, hown⟩, hnews, bM1, hB1⟩ hX hsU ⟨r, hr⟩ hzU hcU
    have hX1 : pNew (V.heap.size + 2 + 0) x U := by
      refine ⟨⟨hX.1.1, ?_⟩, hX.2⟩
      rcases hX.1.2 with hn | ⟨g, cap, cur, e, hb, hg, rest⟩
      · exact .inl hn
      · exact .inr ⟨g, cap, cur, e, hb, (hcU g (by omega)).trans hg, rest⟩
    have cL := bL1.cell
    have cM := bM1.cell
    have fL := bL1.frozen
    have hzU2 : V.heap.size + 2 + 0 ≤ U.heap.size := by rw [hzU]; exact hsU
    have hpl : pre.length + 1 ≤ 1000000 := by
      have := hSp.length_le
      simp at this; omega
    obtain ⟨ao, cap, rfl⟩ := owns_slice hown
    obtain ⟨xi, xl, xv⟩ := x
    obtain ⟨xao, xcap, hxv⟩ := owns_slice hX1.1
    dsimp only at hxv
    subst hxv
    clear hseq hBx hrow hbs b0 b1 b0V b1V
    by_cases hlt : pre.length < most
    · have e : pre.take most = pre := List.take_of_length_le (by omega)
      have e2 : (pre ++ [(xi, xl, Value.slice xao xl.length xcap)]).take most = pre ++ [(xi, xl, Value.slice xao xl.length xcap)] := List.take_of_length_le (by simp; omega)
      rw [e] at hown bL1 cL hnews
      have He2 := hide e2
      have Hnews := hide hnews
      clear e e2 hnews hX hcU hzU
      gi_wp2_with (gi_at_builtin; refine wpListIn_append_own _ rfl _ _ 50 rfl (V.heap.size + 2 + 0) 55 i0 (.agg #[.int .i64 0, .slice none 0 0]) 2 32 Try.underlying50 hi hz0 hz1 hz2 rfl (by decide) _ _ _ rfl (hown.alloc _) ⟨U.heap.size, 0, none⟩ 1 1 [.int .i64 (xi : Int), .slice xao xl.length xcap] rfl rfl (cell_two_new _ _ _ _) (by simp [Value.oneCell']) (by unfold maxLen; omega) (by omega) (by simp; omega) ?_; intro v' w3 hown' hgrow _; obtain ⟨g', cap', rfl⟩ := owns_succ hown'; have bL2 := (bL1.alloc (.cells #[.int .i64 (xi : Int), .slice xao xl.length xcap] 55)).kept hgrow (bL1.not_row (by decide) hown); have hc2 := bL2.cell; have hf2 := bL2.frozen)
      have hlo := hown.lt
      have hz3 := hgrow.size
      simp only [World.size_alloc] at hz3
      have hA : Still V.heap.size (V.heap.size + 2 + 0) U (U.alloc (.cells #[.int .i64 (xi : Int), .slice xao xl.length xcap] 55)) := Still.below ((Below.refl U.heap.size U).alloc (Nat.le_refl _) _) (by omega)
      have hG : Still V.heap.size (V.heap.size + 2 + 0) (U.alloc (.cells #[.int .i64 (xi : Int), .slice xao xl.length xcap] 55)) w3 := Still.grown hgrow (by simp; omega) (fun k hk => .inr (hlo k hk).1)
      have hbel : Below V.heap.size U w3 := ((Below.refl _ _).alloc (by omega) _).grown hgrow (by simp; omega) (fun k hk => by have := (hlo k hk).1; omega)
      have hnew3 : ∀ y : PX, pNew (V.heap.size + 2 + 0) y U → pNew (V.heap.size + 2 + 0) y (w3.setCell ⟨w.heap.size + 1, 0, none⟩ (.slice (some ⟨g', 0, none⟩) (pre.length + 1) cap')) := by
        intro y hy
        refine ⟨?_, hy.2⟩
        have q1 := hy.1.alloc (.cells #[.int .i64 (xi : Int), .slice xao xl.length xcap] 55)
        have hne : y.2.2.ownBlock = none ∨ y.2.2.ownBlock ≠ (Value.slice ao pre.length cap).ownBlock := by
          rcases hown.2 with ⟨e1, _⟩ | ⟨g1, c1, cur1, e1, _, hg1, _⟩
          · rw [e1]
            cases hy2 : y.2.2.ownBlock with
            | none => exact .inl rfl
            | some k => exact .inr (by simp [Value.ownBlock])
          · rcases hy.1.2 with ⟨e2, _⟩ | ⟨g2, c2, cur2, e2, _, hg2, _⟩
            · exact .inl (by rw [e2]; rfl)
            · refine .inr ?_
              rw [e1, e2]
              intro e3
              have e4 : g2 = g1 := by simpa [Value.ownBlock] using e3
              rw [e4, hg1] at hg2
              simp at hg2
        have q2 := q1.kept hgrow hne
        exact (keeps_set w3 (w.heap.size + 1) 0 _).owns q2 (fun b hb e => by have := (hy.1.lt b hb).1; have e' : b = w.heap.size + 1 := e; omega)
      have Hnew3 := hide hnew3
      clear hnew3
      refine ⟨(hA.trans hG).trans (Still.set (.inl (by omega)) _), (KeepS.below hbel (fun k hk => hk.1)).trans (KeepS.set (fun h => h.2 rfl) _), ?_⟩
      dsimp only
      rw [He2.out]
      refine ⟨⟨_, bL2.set _, ?_⟩, ?_, ?_, ?_⟩
      · rw [List.length_append, cellsP_append]
        exact hown'.kept (grownBy_setCell' w3 _ _) (.inr (bL2.not_row (by decide) hown').symm)
      · intro y hy
        rcases List.mem_append.1 hy with hy | hy
        · exact Hnew3.out y (Hnews.out y hy)
        · rw [List.mem_singleton] at hy
          subst hy
          exact Hnew3.out _ hX1
      · exact ((bM1.alloc _).kept hgrow (bM1.not_row (by decide) hown)).other (by omega) _
      · exact (hB1.trans (hbel.mono (by omega))).setCell (p := ⟨w.heap.size + 1, 0, none⟩) (by simp) _
    · have e : (pre.take most).length = most := by simp; omega
      have e2 := take_same (xi, xl, Value.slice xao xl.length xcap) (show most ≤ pre.length by omega)
      have He2 := hide e2
      have Hown := hide hown
      have Hnews := hide hnews
      rw [e] at cL
      clear e2 hown hnews hX hcU hzU
      gi_wp2
      refine ⟨Still.refl _ _ _, ?_⟩
      dsimp only
      rw [He2.out]
      exact ⟨⟨rfl, by simp; omega⟩, ⟨_, bL1, Hown.out⟩, Hnews.out, hB1⟩
  case done =>
    rintro xs U hxs ⟨⟨u, bL1, hown⟩, hnews, bM1, hB1⟩ hsU hK
    clear hseq
    have hmap : (xs.take most).map pOf = ps.take most := by rw [List.map_take, hxs]
    generalize xs.take most = ys at *
    have cL := bL1.cell
    obtain ⟨ao, cap, rfl⟩ := owns_slice hown
    have Hmap := hide hmap
    have Hnews := hide hnews
    clear hmap hnews hBx hrow hbs
    gi_wp2
    refine ⟨by simp, .inl ⟨_, _, rfl, run_takeDeferred hK, ?_⟩⟩
    refine ⟨_, results_tmp rfl _ _ _, _, ys, rfl, Hmap.out, owns_base (ownsRow_putObj hown _ hK rfl) (by omega), fun x hx => ((Hnews.out x hx).putObj _ hK rfl).base (by omega), hB1.trans (belowK_b (w := w) (Nat.le_refl _) U _ _ _ (by omega) hK rfl rfl)⟩
  case stop =>
    rintro code pre U hSp ⟨⟨rfl, hm⟩, ⟨u, bL1, hown⟩, hnews, hB1⟩ hsU hK
    clear hseq
    have hmap : (pre.take most).map pOf = ps.take most := by
      rw [List.map_take]
      obtain ⟨t, ht⟩ := hSp
      rw [← ht, List.take_append_of_le_length (by simp; omega)]
    generalize pre.take most = ys at *
    have cL := bL1.cell
    obtain ⟨ao, cap, rfl⟩ := owns_slice hown
    have Hmap := hide hmap
    have Hnews := hide hnews
    clear hmap hnews hBx hrow hbs
    gi_wp2
    refine ⟨by simp, .inl ⟨_, _, rfl, run_takeDeferred hK, ?_⟩⟩
    refine ⟨_, results_tmp rfl _ _ _, _, ys, rfl, Hmap.out, owns_base (ownsRow_putObj hown _ hK rfl) (by omega), fun x hx => ((Hnews.out x hx).putObj _ hK rfl).base (by omega), hB1.trans (belowK_b (w := w) (Nat.le_refl _) U _ _ _ (by omega) hK rfl rfl)⟩

end Go.Proofs.Ytjcobealnjkkcaa
