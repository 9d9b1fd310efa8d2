/- Contracts: Len of a cache; the statements' dirty. -/
import Derived.Test.YtjcmmigbkhiplaaK8
import Derived.Maps.AppendAt
set_option linter.unusedSimpArgs false
set_option linter.unusedVariables false
namespace Go.Proofs.Ytjcmmigbkhiplaa
open Go.RowKit Go.Attic Go.Shelf
attribute [local go_sem] Oper.semAt_some

theorem take_same {α : Type} {p : List α} {m : Nat} (x : α) (h : m ≤ p.length) : (p ++ [x]).take m = p.take m := by
  rw [List.take_append_of_le_length h]
theorem take_pre {α : Type} {p q : List α} {m : Nat} (h : p <+: q) (hm : m < p.length) : p.take m = q.take m := by
  obtain ⟨t, rfl⟩ := h
  rw [List.take_append_of_le_length (by omega)]

theorem run_eql_func_nil {P : Program} (w : World) {t : TypeId} {ps rs : Array TypeId} {vr : Bool} (f : Fn) (first cap : Array Value) (ht : P.underlying t = some (.func ps rs vr)) :
    (binOp .eql t (.func f first cap) .nilFunc).run P w = .ok (.bool false) w := by
  have h : ∀ d : Nat, (Op.equalIn (d + 1) t (.func f first cap) .nilFunc).run P w = .ok false w := fun d => by
    simp [Op.equalIn, run_underlying ht]
  simp only [binOp]
  simp [Op.equal, Op.maxDepth, h 9999]


section
variable {w w' : World} {c g : Nat} {S : Nat → Prop} {room n Q : Nat} {s : St} {A : List En}

theorem CD.front (h : CD w c g S room n Q s A) : ∃ m, w.cell? ⟨c, 2, none⟩ = some (.map (some m)) ∧ (∀ (k : Nat) (ty : TypeId), (Builtin.len_ #[60] ty #[.map (some m)]).run Try.prog (w.drewN k) = .ok (.int .i64 (A.length : Int)) (w.drewN k)) ∧
    Calls Try.prog 38 #[.pointer (some ⟨c, 0, none⟩)] w fun e w' => e = .returned (.bool true) ∧ w = w' := by
  obtain ⟨m, q, B, F, gm, p, Fd, h, rfl, hq⟩ := h
  exact ⟨m, h.ca.c2, by simpa using h.ca.lens, cmade_yes h.ca⟩

set_option maxRecDepth 100000 in
set_option maxHeartbeats 1000000 in
theorem clen_any (h : CD w c g S room n Q s A) (hr : room ≤ 256) :
    Calls Try.prog 29 #[.pointer (some ⟨c, 0, none⟩)] w fun e w' => e = .returned (.tuple #[.int .i64 ((A.length : Int) - ((dirtyL A).length : Int)), .int .i64 ((dirtyL A).length : Int)]) ∧ Below w.heap.size w w' := by
  obtain ⟨m, c2, -, hm⟩ := h.front
  have hlen : (dirtyL A).length ≤ 256 := by
    rw [dirtyL_len]
    have := List.length_filter_le (fun x : En => x.d) A
    have := h.few
    omega
  have hfew := h.few
  have H := hide h
  clear h
  refine (callsIn_wide (n := 3)).1 ?_
  refine callsIn_of_wp_marks Try.func29 rfl trivial ?_ rfl
  simp only [Try.ntmps29, List.size_toArray, List.length_cons, List.length_nil, Nat.reduceAdd, Nat.reduceSub, Array.replicate_succ, Array.replicate_zero, List.push_toArray, List.append_toArray, List.nil_append, List.cons_append]
  gi_wp2
  refine ⟨trivial, (callsIn_wide.2 hm).mono ?_⟩
  rintro e w' ⟨rfl, rfl⟩
  gi_wp2
  have hW : Below w.heap.size w (w.alloc (.cells #[.int .i64 0] 3)) := (Below.refl _ w).alloc (Nat.le_refl _) _
  have hbx := Boxed.new w 3 (.int .i64 0)
  refine ⟨trivial, (callsIn_wide.2 (cdirty_any (H.out.mono hW))).mono ?_⟩
  rintro e V ⟨f, rfl, ⟨rb, v, rfl, hrb, hv, hrlo, hvb⟩, hb⟩
  rw [World.size_alloc] at hrlo hvb hb
  have hbx1 : Boxed V w.heap.size 3 (.int .i64 0) := (hb.block _ (by omega)).trans hbx
  have hB0 : Below w.heap.size w V := hW.trans (hb.mono (by omega))
  have hsz := hb.size
  rw [World.size_alloc] at hsz
  have hrbl := hrb.lt
  clear hbx hb
  generalize hzs : dirtyL A = zs at *
  have Hzs := hide hzs
  clear hzs
  gi_wp2
  have hseq := values1_any (fun k => w.heap.size + 1 ≤ k ∧ k < V.heap.size) zs v rb V hrb hv (by omega) ⟨hrlo, hrbl⟩ hvb
  refine range_law (n := 3) (gf := 64) (lb := #[.pointer (some ⟨rb, 0, none⟩)]) rfl (enters_of Try.func64 (by kernel_rfl) rfl) hseq (Below.refl _ _)
    (fun k hk => hk.2) (fun _ => rfl)
    (fun pre U => Boxed U w.heap.size 3 (.int .i64 (pre.length : Int)) ∧ Below w.heap.size w U)
    (fun code pre U => False)
    (Stands.and (stands_boxed _ _ _ (.inl (by omega))) (stands_below _ _ (Nat.le_trans (Nat.le_succ _) hsz |> fun _ => Nat.le_refl _) (by omega)))
    (fun code => Stands.pure _ _ _)
    ⟨hbx1, hB0⟩
    (fun x => { tmps := #[.pointer (some ⟨c, 0, none⟩), undef, .int .i64 0, .int .i64 0, .pointer (some ⟨w.heap.size, 0, none⟩), .pointer (some ⟨c, 0, none⟩), .bool true, .bool false, .pointer (some ⟨c, 0, none⟩), .func (.func 64) #[] #[.pointer (some ⟨rb, 0, none⟩)], .int .i64 x, undef, undef, undef, undef, undef, undef, undef, undef, undef, undef], defers := [] })
    ?assign ?body ?done ?stop
  case assign =>
    intro l' x U T hT
    gi_wp2
    simpa using hT
  case body =>
    rintro pre x U hSp ⟨bL1, hB1⟩ hsU ⟨r, hr⟩
    have cL := bL1.cell
    have fL := bL1.frozen
    have hpl : pre.length + 1 ≤ 256 := by
      have := hSp.length_le
      simp at this; omega
    clear hseq hrb hbx1
    gi_wp2
    refine ⟨Still.set (.inl (by omega)) _, KeepS.set (fun hk => by omega) _, ?_⟩
    dsimp only
    have := bL1.set (.int .i64 ((pre.length : Int) + 1))
    exact ⟨by simpa using this, hB1.setCell (p := ⟨w.heap.size, 0, none⟩) (Nat.le_refl _) _⟩
  case done =>
    rintro xs U rfl ⟨bL1, hB1⟩ hsU hK
    clear hseq
    have hU := H.out.mono hB1
    obtain ⟨m', c2', hlen', -⟩ := hU.front
    have cL := bL1.cell
    gi_wp2
    refine wpIn_wide.2 ?_
    go_quiet (fail)
    have hK' : (U.drewN nq).heap[V.heap.size]? = some (.deferred (some [])) := hK
    have hB2 := below_drewN hB1 nq
    generalize U.drewN nq = U2 at *
    gi_wp2
    refine ⟨by simp, .inl ⟨_, _, rfl, run_takeDeferred hK', ?_⟩⟩
    refine ⟨_, results_tmp2 rfl _ _ _, ?_, hB2.trans (belowK_b (w := w) (Nat.le_refl _) U2 _ _ _ (by omega) hK' rfl rfl)⟩
    rw [Hzs.out]
    rfl
  case stop =>
    rintro code pre U hSp hF
    exact hF.elim

set_option maxRecDepth 100000 in
set_option maxHeartbeats 1000000 in
theorem dirty_core {a : Option Addr} {zs : List Int} (hc : ∀ W, Below w.heap.size w W → Calls Try.prog 39 #[.pointer a] W fun e w' => ∃ f, e = .returned f ∧ ItF W.heap.size w' zs f ∧ Below W.heap.size W w') (hlen : zs.length ≤ 256) (most : Nat) (hmost : most ≤ 4611686018427387904) :
    Calls Try.prog 32 #[.pointer a, .int .i64 (most : Int)] w fun e w' => ∃ v, e = .returned v ∧ w'.ownsRow w.heap.size 3 1 v (zs.take most).length (cellsI (zs.take most)) ∧ Below w.heap.size w w' := by
  obtain ⟨i0, hi, hz0, hz1, hz2⟩ := info_parts Try.info3
  have H := hide hc
  clear hc
  refine (callsIn_wide (n := 3)).1 ?_
  refine callsIn_of_wp_marks Try.func32 rfl trivial ?_ rfl
  simp only [Try.ntmps32, List.size_toArray, List.length_cons, List.length_nil, Nat.reduceAdd, Nat.reduceSub, Array.replicate_succ, Array.replicate_zero, List.push_toArray, List.append_toArray, List.nil_append, List.cons_append]
  gi_wp2
  have hW : Below w.heap.size w ((w.alloc (.cells #[.int .i64 (most : Int)] 3)).alloc (.cells #[.slice none 0 0] 58)) := ((Below.refl _ w).alloc (Nat.le_refl _) _).alloc (by simp) _
  have bM0 := (Boxed.new w 3 (.int .i64 (most : Int))).alloc (.cells #[.slice none 0 0] 58)
  have bL0 := Boxed.new (w.alloc (.cells #[.int .i64 (most : Int)] 3)) 58 (.slice none 0 0)
  rw [World.size_alloc] at bL0
  refine ⟨trivial, (callsIn_wide.2 (H.out _ hW)).mono ?_⟩
  rintro e V ⟨f, rfl, ⟨rb, v, rfl, hrb, hv, hrlo, hvb⟩, hb⟩
  rw [World.size_alloc, World.size_alloc] at hrlo hvb hb
  have bM : Boxed V w.heap.size 3 (.int .i64 (most : Int)) := (hb.block _ (by omega)).trans bM0
  have bL : Boxed V (w.heap.size + 1) 58 (.slice none 0 0) := (hb.block _ (by omega)).trans bL0
  have hB0 : Below w.heap.size w V := hW.trans (hb.mono (by omega))
  have hsz := hb.size
  rw [World.size_alloc, World.size_alloc] at hsz
  have hrbl := hrb.lt
  have hnil := fun w => run_eql_func_nil (P := Try.prog) w (.func 64) #[] #[.pointer (some ⟨rb, 0, none⟩)] Try.underlying88
  clear bM0 bL0 hb hW
  gi_wp2
  have hseq := values1_any (fun k => w.heap.size + 2 ≤ k ∧ k < V.heap.size) zs v rb V hrb hv (by omega) ⟨hrlo, hrbl⟩ hvb
  refine range_law (n := 3) (gf := 64) (lb := #[.pointer (some ⟨rb, 0, none⟩)]) rfl (enters_of Try.func64 (by kernel_rfl) rfl) hseq (Below.refl _ _)
    (fun k hk => hk.2) (fun _ => rfl)
    (fun pre U => (∃ u, Boxed U (w.heap.size + 1) 58 u ∧ U.ownsRow (V.heap.size + 2 + 0) 3 1 u (pre.take most).length (cellsI (pre.take most))) ∧ (Boxed U w.heap.size 3 (.int .i64 (most : Int)) ∧ Below w.heap.size w U))
    (fun code pre U => (code = .exit 0 ∧ most < pre.length) ∧ ((∃ u, Boxed U (w.heap.size + 1) 58 u ∧ U.ownsRow (V.heap.size + 2 + 0) 3 1 u (pre.take most).length (cellsI (pre.take most))) ∧ Below w.heap.size w U))
    (Stands.and (Stands.ex fun u => Stands.and (stands_boxed _ _ _ (.inl (by omega))) (stands_owns _ _ _ _ _ _ (Nat.le_refl _))) (Stands.and (stands_boxed _ _ _ (.inl (by omega))) (stands_below _ _ (Nat.le_refl _) (by omega))))
    (fun code => Stands.and (Stands.pure _ _ _) (Stands.and (Stands.ex fun u => Stands.and (stands_boxed _ _ _ (.inl (by omega))) (stands_owns _ _ _ _ _ _ (Nat.le_refl _))) (stands_below _ _ (Nat.le_refl _) (by omega))))
    ⟨⟨_, bL, by simpa [cellsI] using World.ownsRow_nil _ _ _ _⟩, bM, hB0⟩
    (fun x => { tmps := #[.pointer a, .int .i64 (most : Int), undef, .pointer (some ⟨w.heap.size, 0, none⟩), .slice none 0 0, .pointer (some ⟨w.heap.size + 1, 0, none⟩), .func (.func 64) #[] #[.pointer (some ⟨rb, 0, none⟩)], .int .i64 x, .pointer a, .func (.func 64) #[] #[.pointer (some ⟨rb, 0, none⟩)], .func (.func 64) #[] #[.pointer (some ⟨rb, 0, none⟩)], .bool false, .func (.func 64) #[] #[.pointer (some ⟨rb, 0, none⟩)], .int .i64 x, undef, undef, undef, undef, undef, undef, undef, undef, undef], defers := [] })
    ?assign ?body ?done ?stop
  case assign =>
    intro l' x U T hT
    gi_wp2
    exact hT
  case body =>
    rintro pre x U hSp ⟨⟨u, bL1, hown⟩, bM1, hB1⟩ hsU ⟨r, hr⟩
    have cL := bL1.cell
    have cM := bM1.cell
    have fL := bL1.frozen
    have hpl : pre.length + 1 ≤ 100000 := by
      have := hSp.length_le
      simp at this; omega
    obtain ⟨ao, cap, rfl⟩ := owns_slice hown
    clear hseq bL bM hrb hv
    by_cases hlt : pre.length < most
    · have e : pre.take most = pre := List.take_of_length_le (by omega)
      have e2 : (pre ++ [x]).take most = pre ++ [x] := List.take_of_length_le (by simp; omega)
      rw [e] at hown bL1 cL
      have He2 := hide e2
      clear e e2
      gi_wp2_with (gi_at_builtin; refine wpListIn_append_own _ rfl _ _ 58 rfl (V.heap.size + 2 + 0) 3 i0 (.int .i64 0) 1 8 Try.underlying58 hi hz0 hz1 hz2 rfl (by decide) _ _ _ rfl (hown.alloc _) ⟨U.heap.size, 0, none⟩ 1 1 [.int .i64 x] rfl rfl (cell_one_new _ _ _) (by simp [Value.oneCell']) (by unfold maxLen; omega) (by omega) (by simp; omega) ?_; intro v' w1 hown' hgrow _; obtain ⟨g', cap', rfl⟩ := ownsRow_succ hown'; have bL2 := (bL1.alloc (.cells #[.int .i64 x] 3)).kept hgrow (bL1.not_row (by decide) hown); have hc2 := bL2.cell; have hf2 := bL2.frozen)
      have hlo := hown.lt
      have hz1 := hgrow.size
      simp only [World.size_alloc] at hz1
      have hA : Still V.heap.size (V.heap.size + 2 + 0) U (U.alloc (.cells #[.int .i64 x] 3)) := Still.below ((Below.refl U.heap.size U).alloc (Nat.le_refl _) _) (by omega)
      have hG : Still V.heap.size (V.heap.size + 2 + 0) (U.alloc (.cells #[.int .i64 x] 3)) w1 := Still.grown hgrow (by simp; omega) (fun k hk => .inr (hlo k hk).1)
      have hbel : Below V.heap.size U w1 := ((Below.refl _ _).alloc (by omega) _).grown hgrow (by simp; omega) (fun k hk => by have := (hlo k hk).1; omega)
      refine ⟨(hA.trans hG).trans (Still.set (.inl (by omega)) _), (KeepS.below hbel (fun k hk => hk.2)).trans (KeepS.set (fun hk => by omega) _), ?_⟩
      dsimp only
      rw [He2.out]
      refine ⟨⟨_, bL2.set _, ?_⟩, ?_, ?_⟩
      · rw [List.length_append, cellsI_app]
        exact hown'.kept (grownBy_setCell' w1 _ _) (.inr (bL2.not_row (by decide) hown').symm)
      · exact ((bM1.alloc _).kept hgrow (fun e => by have := (hlo _ e.symm).1; omega)).other (by omega) _
      · exact (hB1.trans (hbel.mono (by omega))).setCell (p := ⟨w.heap.size + 1, 0, none⟩) (by simp) _
    · have e : (pre.take most).length = most := by simp; omega
      have e2 := take_same x (show most ≤ pre.length by omega)
      have He2 := hide e2
      have Hown := hide hown
      rw [e] at cL
      clear e2 hown
      gi_wp2
      refine ⟨Still.refl _ _ _, ?_⟩
      dsimp only
      rw [He2.out]
      exact ⟨⟨rfl, by simp; omega⟩, ⟨_, bL1, Hown.out⟩, hB1⟩
  case done =>
    rintro xs U rfl ⟨⟨u, bL1, hown⟩, bM1, hB1⟩ hsU hK
    clear hseq
    obtain ⟨rs, hrs⟩ : ∃ rs, xs.take most = rs := ⟨_, rfl⟩
    rw [hrs] at hown
    have Hrs := hide hrs
    clear hrs
    have cL := bL1.cell
    obtain ⟨ao, cap, rfl⟩ := owns_slice hown
    clear bL bM hrb hv
    gi_wp2
    refine ⟨by simp, .inl ⟨_, _, rfl, run_takeDeferred hK, ?_⟩⟩
    refine ⟨_, results_tmp rfl _ _ _, _, rfl, ?_, hB1.trans (belowK_b (w := w) (Nat.le_refl _) U _ _ _ (by omega) hK rfl rfl)⟩
    rw [Hrs.out]
    exact owns_base (ownsRow_putObj hown _ hK rfl) (show w.heap.size ≤ V.heap.size + 2 + 0 by omega)
  case stop =>
    rintro code pre U hSp ⟨⟨rfl, hm⟩, ⟨u, bL1, hown⟩, hB1⟩ hsU hK
    have e := take_pre hSp hm
    rw [e] at hown
    clear hseq e
    obtain ⟨rs, hrs⟩ : ∃ rs, zs.take most = rs := ⟨_, rfl⟩
    rw [hrs] at hown
    have Hrs := hide hrs
    clear hrs
    have cL := bL1.cell
    obtain ⟨ao, cap, rfl⟩ := owns_slice hown
    clear bL bM hrb hv
    gi_wp2
    refine ⟨by simp, .inl ⟨_, _, rfl, run_takeDeferred hK, ?_⟩⟩
    refine ⟨_, results_tmp rfl _ _ _, _, rfl, ?_, hB1.trans (belowK_b (w := w) (Nat.le_refl _) U _ _ _ (by omega) hK rfl rfl)⟩
    rw [Hrs.out]
    exact owns_base (ownsRow_putObj hown _ hK rfl) (show w.heap.size ≤ V.heap.size + 2 + 0 by omega)

theorem dirty_any (h : CD w c g S room n Q s A) (hr : room ≤ 256) (most : Nat) (hmost : most ≤ 4611686018427387904) :
    Calls Try.prog 32 #[.pointer (some ⟨c, 0, none⟩), .int .i64 (most : Int)] w fun e w' => ∃ v, e = .returned v ∧ w'.ownsRow w.heap.size 3 1 v ((dirtyL A).take most).length (cellsI ((dirtyL A).take most)) ∧ Below w.heap.size w w' :=
  dirty_core (fun W hW => cdirty_any (h.mono hW)) (by
    rw [dirtyL_len]
    have := List.length_filter_le (fun x : En => x.d) A
    have := h.few
    omega) most hmost

end

end Go.Proofs.Ytjcmmigbkhiplaa
