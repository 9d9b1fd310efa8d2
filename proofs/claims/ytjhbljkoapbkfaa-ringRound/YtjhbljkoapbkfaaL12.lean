/- Contracts of a ring that no call made, and of a disk that no call made. -/
import Derived.Test.YtjhbljkoapbkfaaL11
set_option linter.unusedSimpArgs false
set_option linter.unusedVariables false
namespace Go.Proofs.Ytjhbljkoapbkfaa
open Go.RowKit Go.Attic Go.Shelf

attribute [local go_sem] Oper.semAt_some

/-- A ring that no call made. -/
def NoRing (w : World) (v : Value) : Prop := v = .pointer none ∨ ∃ b, v = .pointer (some ⟨b, 0, none⟩) ∧ w.cell? ⟨b, 0, none⟩ = some (.pointer none)
/-- A disk that no call made. -/
def NoDisk (w : World) (v : Value) : Prop := v = .pointer none ∨ ∃ b, v = .pointer (some ⟨b, 0, none⟩) ∧ w.cell? ⟨b, 0, none⟩ = some (.slice none 0 0)
theorem NoRing.mono {w w' : World} {v : Value} (h : NoRing w v) (hb : Below w.heap.size w w') : NoRing w' v := by
  rcases h with rfl | ⟨b, rfl, hc⟩
  · exact .inl rfl
  · exact .inr ⟨b, rfl, (Keeps.of_below (S := fun _ => False) hb).cell hc id⟩

set_option maxRecDepth 100000 in
set_option maxHeartbeats 400000 in
theorem gMade_no {w : World} {v : Value} (h : NoRing w v) : Calls Try.prog 30 #[v] w fun e w' => e = .returned (.bool false) ∧ w = w' := by
  rcases h with rfl | ⟨b, rfl, hc⟩
  · go_enter Try.func30, Try.ntmps30
    go_wp2
    go_ret
    exact ⟨by simp, rfl⟩
  · go_enter Try.func30, Try.ntmps30
    go_wp2
    go_ret
    exact ⟨by simp, rfl⟩

set_option maxRecDepth 100000 in
set_option maxHeartbeats 400000 in
theorem isMade_no {w : World} {v : Value} (h : NoDisk w v) : Calls Try.prog 37 #[v] w fun e w' => e = .returned (.bool false) ∧ w = w' := by
  rcases h with rfl | ⟨b, rfl, hc⟩
  · go_enter Try.func37, Try.ntmps37
    go_wp2
    go_ret
    exact ⟨by simp, rfl⟩
  · go_enter Try.func37, Try.ntmps37
    go_wp2
    go_ret
    exact ⟨by simp, rfl⟩

set_option maxRecDepth 100000 in
set_option maxHeartbeats 400000 in
theorem len_no {w : World} {v : Value} (h : NoDisk w v) : Calls Try.prog 25 #[v] w fun e w' => e = .returned (.int .i64 0) ∧ w = w' := by
  have hm := isMade_no h
  rcases h with rfl | ⟨b, rfl, hc⟩
  · go_enter Try.func25, Try.ntmps25
    go_wp2_with fail
    refine hm.mono ?_
    rintro e w' ⟨rfl, rfl⟩
    go_wp2_with fail
    go_ret
    exact ⟨rfl, rfl⟩
  · go_enter Try.func25, Try.ntmps25
    go_wp2_with fail
    refine hm.mono ?_
    rintro e w' ⟨rfl, rfl⟩
    go_wp2_with fail
    go_ret
    exact ⟨rfl, rfl⟩

set_option maxRecDepth 100000 in
set_option maxHeartbeats 400000 in
theorem open_no {w : World} {v : Value} (h : NoDisk w v) : Calls Try.prog 9 #[v, .int .i64 0, .int .i64 1, .int .i64 0] w fun e w' => e = .returned (.tuple #[.pointer none, .slice none 0 0, .int .i64 2]) ∧ w = w' := by
  have hm := len_no h
  have hv : (∃ a, v = .pointer a) := by rcases h with rfl | ⟨b, rfl, hc⟩; exact ⟨_, rfl⟩; exact ⟨_, rfl⟩
  obtain ⟨a, rfl⟩ := hv
  clear h
  refine (callsIn_wide (n := 3)).1 ?_
  refine callsIn_of_wp_marks Try.func9 rfl trivial ?_ rfl
  simp only [Try.ntmps9, List.size_toArray, List.length_cons, List.length_nil, Nat.reduceAdd, Nat.reduceSub, Array.replicate_succ, Array.replicate_zero, List.push_toArray, List.append_toArray, List.nil_append, List.cons_append]
  gi_wp2
  refine ⟨trivial, (callsIn_wide.2 hm).mono ?_⟩
  rintro e w' ⟨rfl, rfl⟩
  gi_wp2
  exact ⟨_, results_tmp3 rfl _ _ _, rfl, rfl⟩

set_option maxRecDepth 100000 in
set_option maxHeartbeats 400000 in
theorem append_no {w : World} {v : Value} (h : NoRing w v) (l : Value) : Calls Try.prog 10 #[v, l] w fun e w' => e = .returned (.int .i64 2) ∧ w = w' := by
  have hm := gMade_no h
  rcases h with rfl | ⟨b, rfl, hc⟩
  · go_enter Try.func10, Try.ntmps10
    go_wp2_with fail
    refine hm.mono ?_
    rintro e w' ⟨rfl, rfl⟩
    go_wp2_with fail
    go_ret
    exact ⟨rfl, rfl⟩
  · go_enter Try.func10, Try.ntmps10
    go_wp2_with fail
    refine hm.mono ?_
    rintro e w' ⟨rfl, rfl⟩
    go_wp2_with fail
    go_ret
    exact ⟨rfl, rfl⟩

set_option maxRecDepth 100000 in
set_option maxHeartbeats 400000 in
theorem sync_no {w : World} {v : Value} (h : NoRing w v) : Calls Try.prog 11 #[v] w fun e w' => e = .returned (.int .i64 2) ∧ w = w' := by
  have hm := gMade_no h
  rcases h with rfl | ⟨b, rfl, hc⟩
  · go_enter Try.func11, Try.ntmps11
    go_wp2_with fail
    refine hm.mono ?_
    rintro e w' ⟨rfl, rfl⟩
    go_wp2_with fail
    go_ret
    exact ⟨rfl, rfl⟩
  · go_enter Try.func11, Try.ntmps11
    go_wp2_with fail
    refine hm.mono ?_
    rintro e w' ⟨rfl, rfl⟩
    go_wp2_with fail
    go_ret
    exact ⟨rfl, rfl⟩

set_option maxRecDepth 100000 in
set_option maxHeartbeats 400000 in
theorem trim_no {w : World} {v : Value} (h : NoRing w v) (n : Int) : Calls Try.prog 18 #[v, .int .i64 n] w fun e w' => e = .returned (.int .i64 2) ∧ w = w' := by
  have hm := gMade_no h
  rcases h with rfl | ⟨b, rfl, hc⟩
  · go_enter Try.func18, Try.ntmps18
    go_wp2_with fail
    refine hm.mono ?_
    rintro e w' ⟨rfl, rfl⟩
    go_wp2_with fail
    go_ret
    exact ⟨rfl, rfl⟩
  · go_enter Try.func18, Try.ntmps18
    go_wp2_with fail
    refine hm.mono ?_
    rintro e w' ⟨rfl, rfl⟩
    go_wp2_with fail
    go_ret
    exact ⟨rfl, rfl⟩

set_option maxRecDepth 100000 in
set_option maxHeartbeats 400000 in
theorem head_no {w : World} {v : Value} (h : NoRing w v) : Calls Try.prog 17 #[v] w fun e w' => e = .returned (.int .i64 0) ∧ w = w' := by
  have hm := gMade_no h
  rcases h with rfl | ⟨b, rfl, hc⟩
  · go_enter Try.func17, Try.ntmps17
    go_wp2_with fail
    refine hm.mono ?_
    rintro e w' ⟨rfl, rfl⟩
    go_wp2_with fail
    go_ret
    exact ⟨rfl, rfl⟩
  · go_enter Try.func17, Try.ntmps17
    go_wp2_with fail
    refine hm.mono ?_
    rintro e w' ⟨rfl, rfl⟩
    go_wp2_with fail
    go_ret
    exact ⟨rfl, rfl⟩

set_option maxRecDepth 100000 in
set_option maxHeartbeats 400000 in
theorem tail_no {w : World} {v : Value} (h : NoRing w v) : Calls Try.prog 15 #[v] w fun e w' => e = .returned (.int .i64 0) ∧ w = w' := by
  have hm := gMade_no h
  rcases h with rfl | ⟨b, rfl, hc⟩
  · go_enter Try.func15, Try.ntmps15
    go_wp2_with fail
    refine hm.mono ?_
    rintro e w' ⟨rfl, rfl⟩
    go_wp2_with fail
    go_ret
    exact ⟨rfl, rfl⟩
  · go_enter Try.func15, Try.ntmps15
    go_wp2_with fail
    refine hm.mono ?_
    rintro e w' ⟨rfl, rfl⟩
    go_wp2_with fail
    go_ret
    exact ⟨rfl, rfl⟩

set_option maxRecDepth 100000 in
set_option maxHeartbeats 400000 in
theorem room_no {w : World} {v : Value} (h : NoRing w v) : Calls Try.prog 20 #[v] w fun e w' => e = .returned (.int .i64 0) ∧ w = w' := by
  have hm := gMade_no h
  rcases h with rfl | ⟨b, rfl, hc⟩
  · go_enter Try.func20, Try.ntmps20
    go_wp2_with fail
    refine hm.mono ?_
    rintro e w' ⟨rfl, rfl⟩
    go_wp2_with fail
    go_ret
    exact ⟨rfl, rfl⟩
  · go_enter Try.func20, Try.ntmps20
    go_wp2_with fail
    refine hm.mono ?_
    rintro e w' ⟨rfl, rfl⟩
    go_wp2_with fail
    go_ret
    exact ⟨rfl, rfl⟩

set_option maxRecDepth 100000 in
set_option maxHeartbeats 400000 in
theorem all_no {w : World} {v : Value} (h : NoRing w v) : Calls Try.prog 29 #[v] w fun e w' => e = .returned (.func (.func 47) #[] #[.pointer (some ⟨w.heap.size + 1, 0, none⟩), .pointer (some ⟨w.heap.size, 0, none⟩)]) ∧ (w.alloc (.cells #[.int .i64 0] 2)).alloc (.cells #[.slice none 0 0] 22) = w' := by
  have hv : (∃ a, v = .pointer a) := by rcases h with rfl | ⟨b, rfl, hc⟩; exact ⟨_, rfl⟩; exact ⟨_, rfl⟩
  have hm := gMade_no ((h.mono ((Below.refl _ w).alloc (Nat.le_refl _) (.cells #[.int .i64 0] 2))).mono ((Below.refl _ _).alloc (Nat.le_refl _) (.cells #[.slice none 0 0] 22)))
  obtain ⟨a, rfl⟩ := hv
  clear h
  go_enter Try.func29, Try.ntmps29
  go_wp2_with fail
  refine hm.mono ?_
  rintro e w' ⟨rfl, rfl⟩
  go_wp2_with fail
  go_ret
  exact ⟨rfl, rfl⟩

theorem isAgg4 (w : World) : (isAgg 4).run Try.prog w = .ok false w := by
  simp [isAgg, run_underlying Try.underlying4]
theorem run_eql_func_nil {P : Program} (w : World) {t : TypeId} {ps rs : Array TypeId} {vr : Bool} (f : Fn) (first cap : Array Value) (ht : P.underlying t = some (.func ps rs vr)) :
    (binOp .eql t (.func f first cap) .nilFunc).run P w = .ok (.bool false) w := by
  have h : ∀ d : Nat, (Op.equalIn (d + 1) t (.func f first cap) .nilFunc).run P w = .ok false w := fun d => by
    simp [Op.equalIn, run_underlying ht]
  simp only [binOp]
  simp [Op.equal, Op.maxDepth, h 9999]

set_option maxRecDepth 100000 in
set_option maxHeartbeats 1000000 in
theorem told_no {w : World} {v : Value} (h : NoRing w v) : Calls Try.prog 21 #[v, .int .i64 9] w fun e w' => e = .returned (.tuple #[.slice none 0 0, .bool true]) ∧ Below w.heap.size w w' := by
  obtain ⟨T, hT⟩ : ∃ T, w.heap.size = T := ⟨_, rfl⟩
  obtain ⟨w1, hw1⟩ : ∃ w1, ((w.alloc (.cells #[.int .i64 9] 3)).alloc (.cells #[.slice none 0 0] 22)).alloc (.cells #[.bool false] 4) = w1 := ⟨_, rfl⟩
  have hb1 : Below w.heap.size w w1 := by rw [← hw1]; exact (((Below.refl _ w).alloc (Nat.le_refl _) _).alloc (by simp) _).alloc (by simp; omega) _
  have hz1 : w1.heap.size = T + 3 := by rw [← hw1, ← hT]; simp
  have b1 : Boxed w1 (T + 1) 22 (.slice none 0 0) := by
    rw [← hw1, ← hT]
    have := (Boxed.new (w.alloc (.cells #[.int .i64 9] 3)) 22 (.slice none 0 0)).alloc (.cells #[.bool false] 4)
    simpa using this
  have b2 : Boxed w1 (T + 1 + 1) 4 (.bool false) := by
    rw [← hw1, ← hT]
    have := Boxed.new ((w.alloc (.cells #[.int .i64 9] 3)).alloc (.cells #[.slice none 0 0] 22)) 4 (.bool false)
    simpa using this
  have hall := all_no (h.mono hb1)
  have hv : (∃ a, v = .pointer a) := by rcases h with rfl | ⟨b, rfl, hc⟩; exact ⟨_, rfl⟩; exact ⟨_, rfl⟩
  obtain ⟨a, rfl⟩ := hv
  rw [hz1] at hall
  obtain ⟨w2, hw2⟩ : ∃ w2, (w1.alloc (.cells #[.int .i64 0] 2)).alloc (.cells #[.slice none 0 0] 22) = w2 := ⟨_, rfl⟩
  rw [hw2] at hall
  have hb2 : Below w1.heap.size w1 w2 := by rw [← hw2]; exact ((Below.refl _ _).alloc (Nat.le_refl _) _).alloc (by simp) _
  have hz2 : w2.heap.size = T + 5 := by rw [← hw2]; simp [hz1]
  have q0 : Boxed w2 (T + 3) 2 (.int .i64 0) := by rw [← hw2, ← hz1]; exact (Boxed.new w1 2 _).alloc _
  have q1 : Boxed w2 (T + 3 + 1) 22 (.slice none 0 0) := by rw [← hw2, ← hz1]; simpa using Boxed.new (w1.alloc (.cells #[.int .i64 0] 2)) 22 (.slice none 0 0)
  obtain ⟨w3, hw3⟩ : ∃ w3, w2.alloc (.cells #[.slice none 0 0] 22) = w3 := ⟨_, rfl⟩
  have hb3 : Below w2.heap.size w2 w3 := by rw [← hw3]; exact (Below.refl _ _).alloc (Nat.le_refl _) _
  have hz3 : w3.heap.size = T + 6 := by rw [← hw3]; simp [hz2]
  have q2 : Boxed w3 (T + 5) 22 (.slice none 0 0) := by rw [← hw3, ← hz2]; exact Boxed.new w2 22 _
  have hhead := head_no (((h.mono hb1).mono hb2).mono hb3)
  obtain ⟨V, hV⟩ : ∃ V, w3.alloc (.cells #[.int .i64 0] 2) = V := ⟨_, rfl⟩
  have hbV : Below w3.heap.size w3 V := by rw [← hV]; exact (Below.refl _ _).alloc (Nat.le_refl _) _
  have hzV : V.heap.size = T + 7 := by rw [← hV]; simp [hz3]
  have hnil := fun w => run_eql_func_nil (P := Try.prog) w (.func 47) #[] #[.pointer (some ⟨T + 3 + 1, 0, none⟩), .pointer (some ⟨T + 3, 0, none⟩)] Try.underlying69
  have k2V : Below w2.heap.size w2 V := hb3.trans (hbV.mono hb3.size)
  have k1V : Below w1.heap.size w1 V := hb2.trans (k2V.mono hb2.size)
  have kwV : Below w.heap.size w V := hb1.trans (k1V.mono hb1.size)
  have v1 : Boxed V (T + 1) 22 (.slice none 0 0) := (k1V.block _ (by omega)).trans b1
  have v2 : Boxed V (T + 1 + 1) 4 (.bool false) := (k1V.block _ (by omega)).trans b2
  have v3 : Boxed V (T + 3) 2 (.int .i64 0) := (k2V.block _ (by omega)).trans q0
  have v4 : Boxed V (T + 3 + 1) 22 (.slice none 0 0) := (k2V.block _ (by omega)).trans q1
  have v5 : Boxed V (T + 5) 22 (.slice none 0 0) := (hbV.block _ (by omega)).trans q2
  have Hz1 := hide hz1
  have HV := hide hV
  clear h hz1 b1 b2 q0 q1 q2 hV
  refine (callsIn_wide (n := 3)).1 ?_
  refine callsIn_of_wp_marks Try.func21 rfl trivial ?_ rfl
  simp only [Try.ntmps21, List.size_toArray, List.length_cons, List.length_nil, Nat.reduceAdd, Nat.reduceSub, Array.replicate_succ, Array.replicate_zero, List.push_toArray, List.append_toArray, List.nil_append, List.cons_append]
  gi_wp2
  refine ⟨trivial, (callsIn_wide.2 hall).mono ?_⟩
  rintro e w' ⟨rfl, rfl⟩
  gi_wp2
  refine ⟨trivial, (callsIn_wide.2 hhead).mono ?_⟩
  rintro e w' ⟨rfl, rfl⟩
  gi_wp2
  rw [HV.out]
  have hseq := all1_any (fun k => k < V.heap.size) (fun _ => False) [] [] (.slice none 0 0) (T + 3 + 1) (T + 3) 0 0 V v4 v3 (World.ownsRow_nil _ _ _ _) rfl (fun i hi => by simp at hi) (by simp) (by simp) (by omega) (fun k hk _ => hk) id id (fun b hb => by cases hb)
  refine' range_law3 (n := 3) (gf := 47) (lb := #[.pointer (some ⟨T + 3 + 1, 0, none⟩), .pointer (some ⟨T + 3, 0, none⟩)]) rfl (enters_of Try.func47 (by kernel_rfl) rfl) hseq (Below.refl _ _) (fun k hk => hk) (fun _ => rfl)
    (fun pre U => Keeps (fun _ => False) V U) (fun code pre U => False) (stands_keeps _ _ (Nat.le_refl _)) (fun code => Stands.pure _ _ _) (Keeps.refl _ _) _ _ ?haw ?assign ?body ?done ?stop
  case assign =>
    intro l' x U T' hT'
    simp only [aEnc]
    gi_wp2
    exact hT'
  case haw =>
    intro x U
    exact (Below.refl _ _).alloc (Nat.le_refl _) _
  case body =>
    rintro pre x U0 U hSp
    have := hSp.1
    rw [recs_snoc] at this
    have := this.length_le
    simp at this
  case done =>
    rintro xs U hxs hkU hsU hK
    have u1 : Boxed U (T + 1) 22 (.slice none 0 0) := (hkU.block _ (by omega) id).trans v1
    have u2 : Boxed U (T + 1 + 1) 4 (.bool false) := (hkU.block _ (by omega) id).trans v2
    have u5 : Boxed U (T + 5) 22 (.slice none 0 0) := (hkU.block _ (by omega) id).trans v5
    have c1 := u1.cell
    have f1 := u1.frozen
    have c2 := u2.cell
    have f2 := u2.frozen
    have c5 := u5.cell
    clear hseq
    gi_wp2
    have kC := ((keeps_set U (T + 1) 0 (.slice none 0 0)).mono (T := fun b => b = T + 1 ∨ b = T + 1 + 1) (fun b hb => .inl hb)).trans ((keeps_set _ (T + 1 + 1) 0 (.bool true)).mono (fun b hb => .inr hb))
    have bU1 : Boxed ((U.setCell ⟨T + 1, 0, none⟩ (.slice none 0 0)).setCell ⟨T + 1 + 1, 0, none⟩ (.bool true)) (T + 1) 22 (.slice none 0 0) := ((u1.set (.slice none 0 0)).other (by omega) (.bool true))
    have bU2 : Boxed ((U.setCell ⟨T + 1, 0, none⟩ (.slice none 0 0)).setCell ⟨T + 1 + 1, 0, none⟩ (.bool true)) (T + 1 + 1) 4 (.bool true) := ((u2.other (by omega) (.slice none 0 0)).set (.bool true))
    generalize (U.setCell ⟨T + 1, 0, none⟩ (.slice none 0 0)).setCell ⟨T + 1 + 1, 0, none⟩ (.bool true) = U3 at *
    have hK4 : U3.heap[V.heap.size]? = some (.deferred (some [])) := (kC.block V.heap.size (by omega) (fun h' => by rcases h' with h' | h' <;> omega)).trans hK
    refine ⟨by simp, .inl ⟨_, _, rfl, run_takeDeferred hK4, ?_⟩⟩
    have b1Y := (World.putObj_heap_other (w := U3) (r := V.heap.size) (o := .deferred none) (k := T + 1) (by omega)).trans bU1
    have b2Y := (World.putObj_heap_other (w := U3) (r := V.heap.size) (o := .deferred none) (k := T + 1 + 1) (by omega)).trans bU2
    refine ⟨_, results_cell2 rfl _ _ _ _ _ _ rfl rfl (isAgg22 _) (isAgg4 _) (Boxed.cell b1Y) (Boxed.cell b2Y), rfl, ?_⟩
    have k1 := (Keeps.of_below (S := fun b => T ≤ b) kwV).trans ((hkU.mono (fun _ h => h.elim)).trans ((kC.mono (fun b h' => by rcases h' with h' | h' <;> omega)).trans ((keeps_put U3 V.heap.size (.deferred none)).mono (fun b h' => by have e : b = V.heap.size := h'; omega))))
    exact k1.below (fun b hb => by omega) (Nat.le_refl _)
  case stop =>
    rintro code pre U hSp hF
    exact hF.elim

end Go.Proofs.Ytjhbljkoapbkfaa
