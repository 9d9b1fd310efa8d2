/- Contracts of a ring that no call made, and of a disk that no call made. -/
import Derived.Test.YtjhbljkoapbkfaaGreatM23
set_option linter.unusedSimpArgs false
set_option linter.unusedVariables false

namespace Go.Proofs.YtjhbljkoapbkfaaGreat
open Go.RowKit Go.Attic Go.Shelf

attribute [local go_sem] Oper.semAt_some

/-- A ring that no call made. -/
def NoRing (w : World) (v : Value) : Prop := v = .pointer none ∨ ∃ b, v = .pointer (some ⟨b, 0, none⟩) ∧ w.cell? ⟨b, 0, none⟩ = some (.pointer none)
/-- A disk that no call made. -/
def NoDisk (w : World) (v : Value) : Prop := v = .pointer none ∨ ∃ b, v = .pointer (some ⟨b, 0, none⟩) ∧ w.cell? ⟨b, 0, none⟩ = some (.slice none 0 0)
theorem NoRing.mono {w w' : World} {v : Value} (h : NoRing w v) (hb : Below w.heap.size w w') : NoRing w' v := by
  rcases h with rfl | ⟨b, rfl, hc⟩
  · exact .inl rfl
  · exact .inr ⟨b, rfl, (Keeps.of_below (S := fun _ => False) hb).cell hc id⟩

set_option maxRecDepth 100000 in
set_option maxHeartbeats 400000 in
theorem gMade_no {w : World} {v : Value} (h : NoRing w v) : Calls Tryz.prog 46 #[v] w fun e w' => e = .returned (.bool false) ∧ w = w' := by
  rcases h with rfl | ⟨b, rfl, hc⟩
  · go_enter Tryz.func46, Tryz.ntmps46
    go_wp2
    go_ret
    exact ⟨by simp, rfl⟩
  · go_enter Tryz.func46, Tryz.ntmps46
    go_wp2
    go_ret
    exact ⟨by simp, rfl⟩

set_option maxRecDepth 100000 in
set_option maxHeartbeats 400000 in
theorem isMade_no {w : World} {v : Value} (h : NoDisk w v) : Calls Tryz.prog 62 #[v] w fun e w' => e = .returned (.bool false) ∧ w = w' := by
  rcases h with rfl | ⟨b, rfl, hc⟩
  · go_enter Tryz.func62, Tryz.ntmps62
    go_wp2
    go_ret
    exact ⟨by simp, rfl⟩
  · go_enter Tryz.func62, Tryz.ntmps62
    go_wp2
    go_ret
    exact ⟨by simp, rfl⟩

set_option maxRecDepth 100000 in
set_option maxHeartbeats 400000 in
theorem len_no {w : World} {v : Value} (h : NoDisk w v) : Calls Tryz.prog 43 #[v] w fun e w' => e = .returned (.int .i64 0) ∧ w = w' := by
  have hm := isMade_no h
  rcases h with rfl | ⟨b, rfl, hc⟩
  · go_enter Tryz.func43, Tryz.ntmps43
    go_wp2_with fail
    refine hm.mono ?_
    rintro e w' ⟨rfl, rfl⟩
    go_wp2_with fail
    go_ret
    exact ⟨rfl, rfl⟩
  · go_enter Tryz.func43, Tryz.ntmps43
    go_wp2_with fail
    refine hm.mono ?_
    rintro e w' ⟨rfl, rfl⟩
    go_wp2_with fail
    go_ret
    exact ⟨rfl, rfl⟩

set_option maxRecDepth 100000 in
set_option maxHeartbeats 400000 in
theorem open_no {w : World} {v : Value} (h : NoDisk w v) : Calls Tryz.prog 13 #[v, .int .i64 0, .int .i64 1, .int .i64 0] w fun e w' => e = .returned (.tuple #[.pointer none, .slice none 0 0, .int .i64 2]) ∧ w = w' := by
  have hm := len_no h
  have hv : (∃ a, v = .pointer a) := by rcases h with rfl | ⟨b, rfl, hc⟩; exact ⟨_, rfl⟩; exact ⟨_, rfl⟩
  obtain ⟨a, rfl⟩ := hv
  clear h
  refine (callsIn_wide (n := 3)).1 ?_
  refine callsIn_of_wp_marks Tryz.func13 rfl trivial ?_ rfl
  simp only [Tryz.ntmps13, List.size_toArray, List.length_cons, List.length_nil, Nat.reduceAdd, Nat.reduceSub, Array.replicate_succ, Array.replicate_zero, List.push_toArray, List.append_toArray, List.nil_append, List.cons_append]
  gi_wp2
  refine ⟨trivial, (callsIn_wide.2 hm).mono ?_⟩
  rintro e w' ⟨rfl, rfl⟩
  gi_wp2
  exact ⟨_, results_tmp3 rfl _ _ _, rfl, rfl⟩

set_option maxRecDepth 100000 in
set_option maxHeartbeats 400000 in
theorem append_no {w : World} {v : Value} (h : NoRing w v) (l : Value) : Calls Tryz.prog 14 #[v, l] w fun e w' => e = .returned (.int .i64 2) ∧ w = w' := by
  have hm := gMade_no h
  rcases h with rfl | ⟨b, rfl, hc⟩
  · go_enter Tryz.func14, Tryz.ntmps14
    go_wp2_with fail
    refine hm.mono ?_
    rintro e w' ⟨rfl, rfl⟩
    go_wp2_with fail
    go_ret
    exact ⟨rfl, rfl⟩
  · go_enter Tryz.func14, Tryz.ntmps14
    go_wp2_with fail
    refine hm.mono ?_
    rintro e w' ⟨rfl, rfl⟩
    go_wp2_with fail
    go_ret
    exact ⟨rfl, rfl⟩

set_option maxRecDepth 100000 in
set_option maxHeartbeats 400000 in
theorem sync_no {w : World} {v : Value} (h : NoRing w v) : Calls Tryz.prog 20 #[v] w fun e w' => e = .returned (.int .i64 2) ∧ w = w' := by
  have hm := gMade_no h
  rcases h with rfl | ⟨b, rfl, hc⟩
  · go_enter Tryz.func20, Tryz.ntmps20
    go_wp2_with fail
    refine hm.mono ?_
    rintro e w' ⟨rfl, rfl⟩
    go_wp2_with fail
    go_ret
    exact ⟨rfl, rfl⟩
  · go_enter Tryz.func20, Tryz.ntmps20
    go_wp2_with fail
    refine hm.mono ?_
    rintro e w' ⟨rfl, rfl⟩
    go_wp2_with fail
    go_ret
    exact ⟨rfl, rfl⟩

set_option maxRecDepth 100000 in
set_option maxHeartbeats 400000 in
theorem trim_no {w : World} {v : Value} (h : NoRing w v) (n : Int) : Calls Tryz.prog 24 #[v, .int .i64 n] w fun e w' => e = .returned (.int .i64 2) ∧ w = w' := by
  have hm := gMade_no h
  rcases h with rfl | ⟨b, rfl, hc⟩
  · go_enter Tryz.func24, Tryz.ntmps24
    go_wp2_with fail
    refine hm.mono ?_
    rintro e w' ⟨rfl, rfl⟩
    go_wp2_with fail
    go_ret
    exact ⟨rfl, rfl⟩
  · go_enter Tryz.func24, Tryz.ntmps24
    go_wp2_with fail
    refine hm.mono ?_
    rintro e w' ⟨rfl, rfl⟩
    go_wp2_with fail
    go_ret
    exact ⟨rfl, rfl⟩

set_option maxRecDepth 100000 in
set_option maxHeartbeats 400000 in
theorem head_no {w : World} {v : Value} (h : NoRing w v) : Calls Tryz.prog 33 #[v] w fun e w' => e = .returned (.int .i64 0) ∧ w = w' := by
  have hm := gMade_no h
  rcases h with rfl | ⟨b, rfl, hc⟩
  · go_enter Tryz.func33, Tryz.ntmps33
    go_wp2_with fail
    refine hm.mono ?_
    rintro e w' ⟨rfl, rfl⟩
    go_wp2_with fail
    go_ret
    exact ⟨rfl, rfl⟩
  · go_enter Tryz.func33, Tryz.ntmps33
    go_wp2_with fail
    refine hm.mono ?_
    rintro e w' ⟨rfl, rfl⟩
    go_wp2_with fail
    go_ret
    exact ⟨rfl, rfl⟩

set_option maxRecDepth 100000 in
set_option maxHeartbeats 400000 in
theorem tail_no {w : World} {v : Value} (h : NoRing w v) : Calls Tryz.prog 16 #[v] w fun e w' => e = .returned (.int .i64 0) ∧ w = w' := by
  have hm := gMade_no h
  rcases h with rfl | ⟨b, rfl, hc⟩
  · go_enter Tryz.func16, Tryz.ntmps16
    go_wp2_with fail
    refine hm.mono ?_
    rintro e w' ⟨rfl, rfl⟩
    go_wp2_with fail
    go_ret
    exact ⟨rfl, rfl⟩
  · go_enter Tryz.func16, Tryz.ntmps16
    go_wp2_with fail
    refine hm.mono ?_
    rintro e w' ⟨rfl, rfl⟩
    go_wp2_with fail
    go_ret
    exact ⟨rfl, rfl⟩

set_option maxRecDepth 100000 in
set_option maxHeartbeats 400000 in
theorem room_no {w : World} {v : Value} (h : NoRing w v) : Calls Tryz.prog 17 #[v] w fun e w' => e = .returned (.int .i64 0) ∧ w = w' := by
  have hm := gMade_no h
  rcases h with rfl | ⟨b, rfl, hc⟩
  · go_enter Tryz.func17, Tryz.ntmps17
    go_wp2_with fail
    refine hm.mono ?_
    rintro e w' ⟨rfl, rfl⟩
    go_wp2_with fail
    go_ret
    exact ⟨rfl, rfl⟩
  · go_enter Tryz.func17, Tryz.ntmps17
    go_wp2_with fail
    refine hm.mono ?_
    rintro e w' ⟨rfl, rfl⟩
    go_wp2_with fail
    go_ret
    exact ⟨rfl, rfl⟩

set_option maxRecDepth 100000 in
set_option maxHeartbeats 400000 in
theorem all_no {w : World} {v : Value} (h : NoRing w v) : Calls Tryz.prog 45 #[v] w fun e w' => e = .returned (.func (.func 70) #[] #[.pointer (some ⟨w.heap.size + 1, 0, none⟩), .pointer (some ⟨w.heap.size, 0, none⟩)]) ∧ (w.alloc (.cells #[.int .i64 0] 2)).alloc (.cells #[.slice none 0 0] 29) = w' := by
  have hv : (∃ a, v = .pointer a) := by rcases h with rfl | ⟨b, rfl, hc⟩; exact ⟨_, rfl⟩; exact ⟨_, rfl⟩
  have hm := gMade_no ((h.mono ((Below.refl _ w).alloc (Nat.le_refl _) (.cells #[.int .i64 0] 2))).mono ((Below.refl _ _).alloc (Nat.le_refl _) (.cells #[.slice none 0 0] 29)))
  obtain ⟨a, rfl⟩ := hv
  clear h
  go_enter Tryz.func45, Tryz.ntmps45
  go_wp2_with fail
  refine hm.mono ?_
  rintro e w' ⟨rfl, rfl⟩
  go_wp2_with fail
  go_ret
  exact ⟨rfl, rfl⟩

theorem isAgg4 (w : World) : (isAgg 4).run Tryz.prog w = .ok false w := by
  simp [isAgg, run_underlying Tryz.underlying4]
theorem run_eql_func_nil {P : Program} (w : World) {t : TypeId} {ps rs : Array TypeId} {vr : Bool} (f : Fn) (first cap : Array Value) (ht : P.underlying t = some (.func ps rs vr)) :
    (binOp .eql t (.func f first cap) .nilFunc).run P w = .ok (.bool false) w := by
  have h : ∀ d : Nat, (Op.equalIn (d + 1) t (.func f first cap) .nilFunc).run P w = .ok false w := fun d => by
    simp [Op.equalIn, run_underlying ht]
  simp only [binOp]
  simp [Op.equal, Op.maxDepth, h 9999]


end Go.Proofs.YtjhbljkoapbkfaaGreat
