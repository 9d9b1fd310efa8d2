/- Contract: told, over the blocks of patches. -/
import Derived.Test.YtgdlbfoihpdlhaaI4
import Derived.Maps.AppendAt
set_option linter.unusedSimpArgs false
set_option linter.unusedVariables false
namespace Go.Proofs.Ytgdlbfoihpdlhaa
open Go.RowKit Go.Attic Go.Shelf
attribute [local go_sem] Oper.semAt_some

set_option maxRecDepth 100000 in
set_option maxHeartbeats 1000000 in
theorem told_any (zs : List Int) (most : Nat) (g : Value) (w : World) (hg : ItI w zs g) (hlen : zs.length ≤ 100000) (hmost : most ≤ 4611686018427387904) :
    Calls Try.prog 16 #[g, .int .i64 (most : Int)] w fun e w' => ∃ v, e = .returned v ∧ w'.ownsRow w.heap.size 3 1 v (zs.take most).length (cellsI (zs.take most)) ∧ Below w.heap.size w w' := by
  obtain ⟨i0, hi, hz0, hz1, hz2⟩ := info_parts Try.info3
  obtain ⟨rb, v, rfl, hrb, hv, hvb⟩ := hg
  have hnil := fun w => run_eql_func_nil (P := Try.prog) w (.func 45) #[] #[.pointer (some ⟨rb, 0, none⟩)] Try.underlying34
  refine (callsIn_wide (n := 3)).1 ?_
  refine callsIn_of_wp_marks Try.func16 rfl trivial ?_ rfl
  simp only [Try.ntmps16, List.size_toArray, List.length_cons, List.length_nil, Nat.reduceAdd, Nat.reduceSub, Array.replicate_succ, Array.replicate_zero, List.push_toArray, List.append_toArray, List.nil_append, List.cons_append]
  gi_wp2
  have bM := (Boxed.new w 3 (.int .i64 (most : Int))).alloc (.cells #[.slice none 0 0] 28)
  have bL := Boxed.new (w.alloc (.cells #[.int .i64 (most : Int)] 3)) 28 (.slice none 0 0)
  have hrV := (hrb.alloc (.cells #[.int .i64 (most : Int)] 3)).alloc (.cells #[.slice none 0 0] 28)
  have hB0 : Below w.heap.size w ((w.alloc (.cells #[.int .i64 (most : Int)] 3)).alloc (.cells #[.slice none 0 0] 28)) := ((Below.refl _ w).alloc (Nat.le_refl _) _).alloc (by simp) _
  have hvV := hv.mono hB0
  rw [World.size_alloc] at bL
  obtain ⟨V, hV⟩ : ∃ V, (w.alloc (.cells #[.int .i64 (most : Int)] 3)).alloc (.cells #[.slice none 0 0] 28) = V := ⟨_, rfl⟩
  have hsz : V.heap.size = w.heap.size + 2 := by rw [← hV]; simp
  have hrbl := hrb.lt
  rw [hV] at bM bL hrV hvV hB0 ⊢
  clear hV
  have hseq := values1_any (fun k => k < w.heap.size) zs v rb V hrV hvV (by omega) hrbl hvb
  refine range_law (n := 3) (gf := 45) (lb := #[.pointer (some ⟨rb, 0, none⟩)]) rfl (enters_of Try.func45 (by kernel_rfl) rfl) hseq (Below.refl _ _)
    (fun k hk => by omega) (fun _ => rfl)
    (fun pre U => (∃ u, Boxed U (w.heap.size + 1) 28 u ∧ U.ownsRow (V.heap.size + 2 + 0) 3 1 u (pre.take most).length (cellsI (pre.take most))) ∧ (Boxed U w.heap.size 3 (.int .i64 (most : Int)) ∧ Below w.heap.size w U))
    (fun code pre U => (code = .exit 0 ∧ most < pre.length) ∧ ((∃ u, Boxed U (w.heap.size + 1) 28 u ∧ U.ownsRow (V.heap.size + 2 + 0) 3 1 u (pre.take most).length (cellsI (pre.take most))) ∧ Below w.heap.size w U))
    (Stands.and (Stands.ex fun u => Stands.and (stands_boxed _ _ _ (.inl (by omega))) (stands_owns _ _ _ _ _ _ (Nat.le_refl _))) (Stands.and (stands_boxed _ _ _ (.inl (by omega))) (stands_below _ _ (Nat.le_refl _) (by omega))))
    (fun code => Stands.and (Stands.pure _ _ _) (Stands.and (Stands.ex fun u => Stands.and (stands_boxed _ _ _ (.inl (by omega))) (stands_owns _ _ _ _ _ _ (Nat.le_refl _))) (stands_below _ _ (Nat.le_refl _) (by omega))))
    ⟨⟨_, bL, by simpa [cellsI] using World.ownsRow_nil _ _ _ _⟩, bM, hB0⟩
    (fun x => { tmps := #[.func (.func 45) #[] #[.pointer (some ⟨rb, 0, none⟩)], .int .i64 (most : Int), undef, .pointer (some ⟨w.heap.size, 0, none⟩), .slice none 0 0, .pointer (some ⟨w.heap.size + 1, 0, none⟩), .int .i64 x, .func (.func 45) #[] #[.pointer (some ⟨rb, 0, none⟩)], .bool false, .func (.func 45) #[] #[.pointer (some ⟨rb, 0, none⟩)], .int .i64 x, undef, undef, undef, undef, undef, undef, undef, undef, undef], defers := [] })
    ?assign ?body ?done ?stop
  case assign =>
    intro l' x U T hT
    gi_wp2
    exact hT
  case body =>
    rintro pre x U hSp ⟨⟨u, bL1, hown⟩, bM1, hB1⟩ hsU ⟨r, hr⟩
    have cL := bL1.cell
    have cM := bM1.cell
    have fL := bL1.frozen
    have hpl : pre.length + 1 ≤ 100000 := by
      have := hSp.length_le
      simp at this; omega
    obtain ⟨ao, cap, rfl⟩ := owns_slice hown
    clear hseq hrV hvV bL bM hrb hv
    by_cases hlt : pre.length < most
    · have e : pre.take most = pre := List.take_of_length_le (by omega)
      have e2 : (pre ++ [x]).take most = pre ++ [x] := List.take_of_length_le (by simp; omega)
      rw [e] at hown bL1 cL
      have He2 := hide e2
      clear e e2
      gi_wp2_with (gi_at_builtin; refine wpListIn_append_own _ rfl _ _ 28 rfl (V.heap.size + 2 + 0) 3 i0 (.int .i64 0) 1 8 Try.underlying28 hi hz0 hz1 hz2 rfl (by decide) _ _ _ rfl (hown.alloc _) ⟨U.heap.size, 0, none⟩ 1 1 [.int .i64 x] rfl rfl (cell_one_new _ _ _) (by simp [Value.oneCell']) (by unfold maxLen; omega) (by omega) (by simp; omega) ?_; intro v' w1 hown' hgrow _; obtain ⟨g', cap', rfl⟩ := ownsRow_succ hown'; have bL2 := (bL1.alloc (.cells #[.int .i64 x] 3)).kept hgrow (bL1.not_row (by decide) hown); have hc2 := bL2.cell; have hf2 := bL2.frozen)
      have hlo := hown.lt
      have hz1 := hgrow.size
      simp only [World.size_alloc] at hz1
      have hA : Still V.heap.size (V.heap.size + 2 + 0) U (U.alloc (.cells #[.int .i64 x] 3)) := Still.below ((Below.refl U.heap.size U).alloc (Nat.le_refl _) _) (by omega)
      have hG : Still V.heap.size (V.heap.size + 2 + 0) (U.alloc (.cells #[.int .i64 x] 3)) w1 := Still.grown hgrow (by simp; omega) (fun k hk => .inr (hlo k hk).1)
      have hbel : Below w.heap.size U w1 := ((Below.refl _ _).alloc (by have := hB1.size; omega) _).grown hgrow (by simp; have := hB1.size; omega) (fun k hk => by have := (hlo k hk).1; omega)
      refine ⟨(hA.trans hG).trans (Still.set (.inl (by omega)) _), (KeepS.below hbel (fun k hk => hk)).trans (KeepS.set (by omega) _), ?_⟩
      dsimp only
      rw [He2.out]
      refine ⟨⟨_, bL2.set _, ?_⟩, ?_, ?_⟩
      · rw [List.length_append, cellsI_app]
        exact hown'.kept (grownBy_setCell' w1 _ _) (.inr (bL2.not_row (by decide) hown').symm)
      · exact ((bM1.alloc _).kept hgrow (fun e => by have := (hlo _ e.symm).1; omega)).other (by omega) _
      · exact (hB1.trans hbel).setCell (p := ⟨w.heap.size + 1, 0, none⟩) (by simp) _
    · have e : (pre.take most).length = most := by simp; omega
      have e2 := take_same x (show most ≤ pre.length by omega)
      have He2 := hide e2
      have Hown := hide hown
      rw [e] at cL
      clear e2 hown
      gi_wp2
      refine ⟨Still.refl _ _ _, ?_⟩
      dsimp only
      rw [He2.out]
      exact ⟨⟨rfl, by simp; omega⟩, ⟨_, bL1, Hown.out⟩, hB1⟩
  case done =>
    rintro xs U rfl ⟨⟨u, bL1, hown⟩, bM1, hB1⟩ hsU hK
    clear hseq
    obtain ⟨rs, hrs⟩ : ∃ rs, xs.take most = rs := ⟨_, rfl⟩
    rw [hrs] at hown
    have Hrs := hide hrs
    clear hrs
    have cL := bL1.cell
    obtain ⟨ao, cap, rfl⟩ := owns_slice hown
    clear hrV hvV bL bM hrb hv
    gi_wp2
    refine ⟨by simp, .inl ⟨_, _, rfl, run_takeDeferred hK, ?_⟩⟩
    refine ⟨_, results_tmp rfl _ _ _, _, rfl, ?_, hB1.trans (belowK_b (w := w) (Nat.le_refl _) U _ _ _ (by omega) hK rfl rfl)⟩
    rw [Hrs.out]
    exact owns_base (ownsRow_putObj hown _ hK rfl) (show w.heap.size ≤ V.heap.size + 2 + 0 by omega)
  case stop =>
    rintro code pre U hSp ⟨⟨rfl, hm⟩, ⟨u, bL1, hown⟩, hB1⟩ hsU hK
    have e := take_pre hSp hm
    rw [e] at hown
    clear hseq e
    obtain ⟨rs, hrs⟩ : ∃ rs, zs.take most = rs := ⟨_, rfl⟩
    rw [hrs] at hown
    have Hrs := hide hrs
    clear hrs
    have cL := bL1.cell
    obtain ⟨ao, cap, rfl⟩ := owns_slice hown
    clear hrV hvV bL bM hrb hv
    gi_wp2
    refine ⟨by simp, .inl ⟨_, _, rfl, run_takeDeferred hK, ?_⟩⟩
    refine ⟨_, results_tmp rfl _ _ _, _, rfl, ?_, hB1.trans (belowK_b (w := w) (Nat.le_refl _) U _ _ _ (by omega) hK rfl rfl)⟩
    rw [Hrs.out]
    exact owns_base (ownsRow_putObj hown _ hK rfl) (show w.heap.size ≤ V.heap.size + 2 + 0 by omega)

end Go.Proofs.Ytgdlbfoihpdlhaa
