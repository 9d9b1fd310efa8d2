/- Contracts: told, over the runs of a row. -/
import Derived.Test.YtkdajahcadjpfaaC10
import Derived.Maps.AppendAt
set_option linter.unusedSimpArgs false
set_option linter.unusedVariables false
namespace Go.Proofs.Ytkdajahcadjpfaa
open Go.RowKit Go.Attic Go.Shelf
attribute [local go_sem] Oper.semAt_some

theorem Try.info42 : (Try.prog.info? 42).map (fun i => (i.zero, i.size, i.bytes)) = some (some (.agg #[.int .i64 0, .int .i64 0]), 2, 16) := by kernel_rfl

/-- Runs as cells: two numbers each. -/
def cellsR (rs : List (Nat × Nat)) : List Value := rs.flatMap fun r => [Value.int .i64 (r.1 : Int), Value.int .i64 (r.2 : Int)]
theorem cellsR_append (a b : List (Nat × Nat)) : cellsR (a ++ b) = cellsR a ++ cellsR b := by simp [cellsR]
theorem cellsR_length (rs : List (Nat × Nat)) : (cellsR rs).length = rs.length * 2 := by
  induction rs with
  | nil => rfl
  | cons r rs ih => simp only [cellsR, List.flatMap_cons, List.length_append, List.length_cons, List.length_nil] at ih ⊢; omega

theorem owns_slice {w : World} {base : Nat} {e : TypeId} {size : Nat} {v : Value} {n : Nat} {xs : List Value} (h : w.ownsRow base e size v n xs) : ∃ ao cap, v = .slice ao n cap := by
  rcases h.2 with ⟨rfl, rfl⟩ | ⟨g, cap, cur, rfl, _⟩
  · exact ⟨_, _, rfl⟩
  · exact ⟨_, _, rfl⟩

theorem cell_two_new (w : World) (x y : Value) (t : TypeId) : ∀ j u, [x, y][j]? = some u → (w.alloc (.cells #[x, y] t)).cell? ((⟨w.heap.size, 0, none⟩ : Addr).add j) = some u := by
  intro j u hj
  match j, hj with
  | 0, hj => simp at hj; subst hj; simp [Addr.add]
  | 1, hj => simp at hj; subst hj; simp [Addr.add]

theorem take_grow {α : Type} {p : List α} {m : Nat} (x : α) (h : p.length < m) : (p ++ [x]).take m = p.take m ++ [x] := by
  rw [List.take_of_length_le (by simp; omega), List.take_of_length_le (by omega)]
theorem take_same {α : Type} {p : List α} {m : Nat} (x : α) (h : m ≤ p.length) : (p ++ [x]).take m = p.take m := by
  rw [List.take_append_of_le_length h]
theorem take_pre {α : Type} {p q : List α} {m : Nat} (h : p <+: q) (hm : m < p.length) : p.take m = q.take m := by
  obtain ⟨t, rfl⟩ := h
  rw [List.take_append_of_le_length (by omega)]

theorem run_eql_func_nil {P : Program} (w : World) {t : TypeId} {ps rs : Array TypeId} {vr : Bool} (f : Fn) (first cap : Array Value) (ht : P.underlying t = some (.func ps rs vr)) :
    (binOp .eql t (.func f first cap) .nilFunc).run P w = .ok (.bool false) w := by
  have h : ∀ d : Nat, (Op.equalIn (d + 1) t (.func f first cap) .nilFunc).run P w = .ok false w := fun d => by
    simp [Op.equalIn, run_underlying ht]
  simp only [binOp]
  simp [Op.equal, Op.maxDepth, h 9999]

set_option maxRecDepth 100000 in
set_option maxHeartbeats 1000000 in
theorem told_any (l : List Nat) (N most : Nat) (g : Value) (w : World) (hg : RunsIt w l N g) (hlen : l.length ≤ 140737488355328) (hN : N ≤ 8 * l.length) (hr1 : (runsN l N).length ≤ 1000000) (hmost : most ≤ 4611686018427387904) :
    Calls Try.prog 30 #[g, .int .i64 (most : Int)] w fun e w' => ∃ v, e = .returned v ∧ w'.ownsRow w.heap.size 42 2 v ((runsN l N).take most).length (cellsR ((runsN l N).take most)) ∧ Below w.heap.size w w' := by
  obtain ⟨i0, hi, hz0, hz1, hz2⟩ := info_parts Try.info42
  obtain ⟨rb, eb, v, rfl, hrb, heb, hv, hvb⟩ := hg
  have hnil := fun w => run_eql_func_nil (P := Try.prog) w (.func 47) #[] #[.pointer (some ⟨rb, 0, none⟩), .pointer (some ⟨eb, 0, none⟩)] Try.underlying45
  refine (callsIn_wide (n := 3)).1 ?_
  refine callsIn_of_wp_marks Try.func30 rfl trivial ?_ rfl
  simp only [Try.ntmps30, List.size_toArray, List.length_cons, List.length_nil, Nat.reduceAdd, Nat.reduceSub, Array.replicate_succ, Array.replicate_zero, List.push_toArray, List.append_toArray, List.nil_append, List.cons_append]
  gi_wp2
  have bM := (Boxed.new w 3 (.int .i64 (most : Int))).alloc (.cells #[.slice none 0 0] 37)
  have bL := Boxed.new (w.alloc (.cells #[.int .i64 (most : Int)] 3)) 37 (.slice none 0 0)
  have hrV := (hrb.alloc (.cells #[.int .i64 (most : Int)] 3)).alloc (.cells #[.slice none 0 0] 37)
  have heV := (heb.alloc (.cells #[.int .i64 (most : Int)] 3)).alloc (.cells #[.slice none 0 0] 37)
  have hvV := (hv.alloc (.cells #[.int .i64 (most : Int)] 3)).alloc (.cells #[.slice none 0 0] 37)
  have hB0 : Below w.heap.size w ((w.alloc (.cells #[.int .i64 (most : Int)] 3)).alloc (.cells #[.slice none 0 0] 37)) := ((Below.refl _ w).alloc (Nat.le_refl _) _).alloc (by simp) _
  rw [World.size_alloc] at bL
  obtain ⟨V, hV⟩ : ∃ V, (w.alloc (.cells #[.int .i64 (most : Int)] 3)).alloc (.cells #[.slice none 0 0] 37) = V := ⟨_, rfl⟩
  have hsz : V.heap.size = w.heap.size + 2 := by rw [← hV]; simp
  rw [hV] at bM bL hrV heV hvV hB0 ⊢
  clear hV
  have hseq := runs1_any (fun k => k < w.heap.size) l N .nilFunc V rb eb v hrV heV hvV hlen hN hvb (fun k hk => by omega)
  refine range_law (n := 3) (gf := 47) (lb := #[.pointer (some ⟨rb, 0, none⟩), .pointer (some ⟨eb, 0, none⟩)]) rfl (enters_of Try.func47 (by kernel_rfl) rfl) hseq (Below.refl _ _)
    (fun k hk => by omega) (fun _ => rfl)
    (fun pre U => (∃ u, Boxed U (w.heap.size + 1) 37 u ∧ U.ownsRow (V.heap.size + 2 + 7) 42 2 u (pre.take most).length (cellsR (pre.take most))) ∧ (Boxed U w.heap.size 3 (.int .i64 (most : Int)) ∧ Below w.heap.size w U))
    (fun code pre U => (code = .exit 0 ∧ most < pre.length) ∧ ((∃ u, Boxed U (w.heap.size + 1) 37 u ∧ U.ownsRow (V.heap.size + 2 + 7) 42 2 u (pre.take most).length (cellsR (pre.take most))) ∧ Below w.heap.size w U))
    (Stands.and (Stands.ex fun u => Stands.and (stands_boxed _ _ _ (.inl (by omega))) (stands_owns _ _ _ _ _ _ (Nat.le_refl _))) (Stands.and (stands_boxed _ _ _ (.inl (by omega))) (stands_below _ _ (Nat.le_refl _) (by omega))))
    (fun code => Stands.and (Stands.pure _ _ _) (Stands.and (Stands.ex fun u => Stands.and (stands_boxed _ _ _ (.inl (by omega))) (stands_owns _ _ _ _ _ _ (Nat.le_refl _))) (stands_below _ _ (Nat.le_refl _) (by omega))))
    ⟨⟨_, bL, by simpa [cellsR] using World.ownsRow_nil _ _ _ _⟩, bM, hB0⟩
    (fun x => { tmps := #[.func (.func 47) #[] #[.pointer (some ⟨rb, 0, none⟩), .pointer (some ⟨eb, 0, none⟩)], .int .i64 (most : Int), undef, .pointer (some ⟨w.heap.size, 0, none⟩), .slice none 0 0, .pointer (some ⟨w.heap.size + 1, 0, none⟩), .int .i64 (x.1 : Int), .int .i64 (x.2 : Int), .func (.func 47) #[] #[.pointer (some ⟨rb, 0, none⟩), .pointer (some ⟨eb, 0, none⟩)], .bool false, .func (.func 47) #[] #[.pointer (some ⟨rb, 0, none⟩), .pointer (some ⟨eb, 0, none⟩)], .int .i64 (x.1 : Int), .int .i64 (x.2 : Int), undef, undef, undef, undef, undef, undef, undef, undef, undef, undef, undef], defers := [] })
    ?assign ?body ?done ?stop
  case assign =>
    intro l' x U T hT
    gi_wp2
    exact hT
  case body =>
    rintro pre x U hSp ⟨⟨u, bL1, hown⟩, bM1, hB1⟩ hsU ⟨r, hr⟩
    have cL := bL1.cell
    have cM := bM1.cell
    have fL := bL1.frozen
    have hpl : pre.length + 1 ≤ 1000000 := by
      have := hSp.length_le
      simp at this; omega
    obtain ⟨ao, cap, rfl⟩ := owns_slice hown
    clear hseq hrV heV hvV bL bM hrb heb hv
    by_cases hlt : pre.length < most
    · have e : pre.take most = pre := List.take_of_length_le (by omega)
      have e2 : (pre ++ [x]).take most = pre ++ [x] := List.take_of_length_le (by simp; omega)
      rw [e] at hown bL1 cL
      have He2 := hide e2
      clear e e2
      gi_wp2_with (gi_at_builtin; refine wpListIn_append_own _ rfl _ _ 37 rfl (V.heap.size + 2 + 7) 42 i0 (.agg #[.int .i64 0, .int .i64 0]) 2 16 Try.underlying37 hi hz0 hz1 hz2 rfl (by decide) _ _ _ rfl (hown.alloc _) ⟨U.heap.size, 0, none⟩ 1 1 [.int .i64 (x.1 : Int), .int .i64 (x.2 : Int)] rfl rfl (cell_two_new _ _ _ _) (by simp [Value.oneCell']) (by unfold maxLen; omega) (by omega) (by simp; omega) ?_; intro v' w1 hown' hgrow _; obtain ⟨g', cap', rfl⟩ := ownsRow_succ hown'; have bL2 := (bL1.alloc (.cells #[.int .i64 (x.1 : Int), .int .i64 (x.2 : Int)] 42)).kept hgrow (bL1.not_row (by decide) hown); have hc2 := bL2.cell; have hf2 := bL2.frozen)
      have hlo := hown.lt
      have hz1 := hgrow.size
      simp only [World.size_alloc] at hz1
      have hA : Still V.heap.size (V.heap.size + 2 + 7) U (U.alloc (.cells #[.int .i64 (x.1 : Int), .int .i64 (x.2 : Int)] 42)) := Still.below ((Below.refl U.heap.size U).alloc (Nat.le_refl _) _) (by omega)
      have hG : Still V.heap.size (V.heap.size + 2 + 7) (U.alloc (.cells #[.int .i64 (x.1 : Int), .int .i64 (x.2 : Int)] 42)) w1 := Still.grown hgrow (by simp; omega) (fun k hk => .inr (hlo k hk).1)
      have hbel : Below w.heap.size U w1 := ((Below.refl _ _).alloc (by have := hB1.size; omega) _).grown hgrow (by simp; have := hB1.size; omega) (fun k hk => by have := (hlo k hk).1; omega)
      refine ⟨(hA.trans hG).trans (Still.set (.inl (by omega)) _), (KeepS.below hbel (fun k hk => hk)).trans (KeepS.set (by omega) _), ?_⟩
      dsimp only
      rw [He2.out]
      refine ⟨⟨_, bL2.set _, ?_⟩, ?_, ?_⟩
      · rw [List.length_append, cellsR_append]
        exact hown'.kept (grownBy_setCell' w1 _ _) (.inr (bL2.not_row (by decide) hown').symm)
      · exact ((bM1.alloc _).kept hgrow (bM1.not_row (by decide) hown)).other (by omega) _
      · exact (hB1.trans hbel).setCell (p := ⟨w.heap.size + 1, 0, none⟩) (by simp) _
    · have e : (pre.take most).length = most := by simp; omega
      have e2 := take_same x (show most ≤ pre.length by omega)
      have He2 := hide e2
      have Hown := hide hown
      rw [e] at cL
      clear e2 hown
      gi_wp2
      refine ⟨Still.refl _ _ _, ?_⟩
      dsimp only
      rw [He2.out]
      exact ⟨⟨rfl, by simp; omega⟩, ⟨_, bL1, Hown.out⟩, hB1⟩
  case done =>
    rintro xs U rfl ⟨⟨u, bL1, hown⟩, bM1, hB1⟩ hsU hK
    clear hseq
    obtain ⟨rs, hrs⟩ : ∃ rs, (runsN l N).take most = rs := ⟨_, rfl⟩
    rw [hrs] at hown
    have Hrs := hide hrs
    clear hrs
    have cL := bL1.cell
    obtain ⟨ao, cap, rfl⟩ := owns_slice hown
    clear hrV heV hvV bL bM hrb heb hv
    gi_wp2
    refine ⟨by simp, .inl ⟨_, _, rfl, run_takeDeferred hK, ?_⟩⟩
    refine ⟨_, results_tmp rfl _ _ _, _, rfl, ?_, hB1.trans (belowK_b (w := w) (Nat.le_refl _) U _ _ _ (by omega) hK rfl rfl)⟩
    rw [Hrs.out]
    exact owns_base (ownsRow_putObj hown _ hK rfl) (show w.heap.size ≤ V.heap.size + 2 + 7 by omega)
  case stop =>
    rintro code pre U hSp ⟨⟨rfl, hm⟩, ⟨u, bL1, hown⟩, hB1⟩ hsU hK
    have e := take_pre hSp hm
    rw [e] at hown
    clear hseq e
    obtain ⟨rs, hrs⟩ : ∃ rs, (runsN l N).take most = rs := ⟨_, rfl⟩
    rw [hrs] at hown
    have Hrs := hide hrs
    clear hrs
    have cL := bL1.cell
    obtain ⟨ao, cap, rfl⟩ := owns_slice hown
    clear hrV heV hvV bL bM hrb heb hv
    gi_wp2
    refine ⟨by simp, .inl ⟨_, _, rfl, run_takeDeferred hK, ?_⟩⟩
    refine ⟨_, results_tmp rfl _ _ _, _, rfl, ?_, hB1.trans (belowK_b (w := w) (Nat.le_refl _) U _ _ _ (by omega) hK rfl rfl)⟩
    rw [Hrs.out]
    exact owns_base (ownsRow_putObj hown _ hK rfl) (show w.heap.size ≤ V.heap.size + 2 + 7 by omega)

end Go.Proofs.Ytkdajahcadjpfaa
