/- Contracts: Clone of a record, and the document's. -/
import Derived.Test.YtgdlbfoihpdlhaaR1
set_option linter.unusedSimpArgs false
set_option linter.unusedVariables false
namespace Go.Proofs.Ytgdlbfoihpdlhaa
open Go.RowKit Go.Attic

/-- A new record: its bytes are the call's own. -/
def NewRec (w : World) (k b o : Int) (l : List Nat) (m : Int) (e : Ending) (w' : World) : Prop :=
  ∃ v, e = .returned (.agg #[.int .i64 k, .int .i64 b, .int .i64 o, v, .int .i64 m]) ∧ w'.ownsRow w.heap.size 5 1 v l.length (cellsB l) ∧ Below w.heap.size w w'

theorem clone_any' (v : Value) (l : List Nat) (w : World) (h : Bs w v l) (hlen : l.length ≤ 140737488355328) : Calls Try.prog 18 #[v] w (NewBs w l) := clone_any v l w h hlen

set_option maxRecDepth 100000 in
set_option maxHeartbeats 400000 in
theorem clone_rec (k b o m : Int) (v : Value) (l : List Nat) (w : World) (hv : Bs w v l) (hlen : l.length ≤ 140737488355328) :
    Calls Try.prog 30 #[.agg #[.int .i64 k, .int .i64 b, .int .i64 o, v, .int .i64 m]] w (NewRec w k b o l m) := by
  obtain ⟨i0, hi, hz0, hz1, hz2⟩ := info_parts Try.info5
  obtain ⟨ao, cap, rfl, -⟩ := id hv
  have hv2 := (hv.alloc (.cells #[.int .i64 k, .int .i64 b, .int .i64 o, .slice ao l.length cap, .int .i64 m] 48)).alloc (.cells #[.int .i64 0, .int .i64 0, .int .i64 0, .slice none 0 0, .int .i64 0] 48)
  have hA := (RecAt.new w k b o (.slice ao l.length cap) m).alloc (.cells #[.int .i64 0, .int .i64 0, .int .i64 0, .slice none 0 0, .int .i64 0] 48)
  have hR := RecAt.new (w.alloc (.cells #[.int .i64 k, .int .i64 b, .int .i64 o, .slice ao l.length cap, .int .i64 m] 48)) 0 0 0 (.slice none 0 0) 0
  rw [World.size_alloc] at hR
  clear hv
  go_enter Try.func30, Try.ntmps30
  go_wp2_with fail
  refine (clone_any' _ l _ hv2 hlen).mono ?_
  rintro e w1 ⟨v1, rfl, ho1, hb1⟩
  obtain ⟨ao1, cap1, rfl, -, -⟩ := owns_form ho1
  obtain ⟨c0, c1, c2, c3, c4, f0, f1, f2, f3, f4, lp⟩ := hA.mono hb1
  obtain ⟨d0, d1, d2, d3, d4, e0, e1, e2, e3, e4, lq⟩ := hR.mono hb1
  have ho2 : w1.ownsRow (w.heap.size + 2) 5 1 (.slice ao1 l.length cap1) l.length (cellsB l) := by simpa using ho1
  have hB1 : Below w.heap.size w w1 := (((Below.refl _ w).alloc (Nat.le_refl _) _).alloc (by simp) _).trans (hb1.mono (by simp; omega))
  have O := hide ho2
  clear ho1 ho2 hb1 hA hR hv2
  go_wp2_with fail
  refine bodyPost_ret (v := .agg #[.int .i64 k, .int .i64 b, .int .i64 o, .slice ao1 l.length cap1, .int .i64 m]) (by simp [results, Try.results30, go_sem, d0, d1, d2, d3, d4]) rfl ⟨_, rfl, ?_, ?_⟩
  · refine owns_base (Keeps.owns (S := fun k => k < w.heap.size + 2) ((((((Keeps.refl _ _).set (by simp) _).set (by simp) _).set (by simp) _).set (by simp) _).set (by simp) _ |>.set (by simp) _) O.out (fun b hb hk => ?_)) (by omega)
    have := owns_lt O.out b hb
    have hk' : b < w.heap.size + 2 := hk
    omega
  · exact (((((hB1.setCell (by simp) _).setCell (by simp) _).setCell (by simp) _).setCell (by simp) _).setCell (by simp) _).setCell (by simp) _

set_option maxRecDepth 100000 in
set_option maxHeartbeats 400000 in
theorem rclone_rec (k b o m : Int) (v : Value) (l : List Nat) (w : World) (hv : Bs w v l) (hlen : l.length ≤ 140737488355328) :
    Calls Try.prog 31 #[.agg #[.int .i64 k, .int .i64 b, .int .i64 o, v, .int .i64 m]] w (NewRec w k b o l m) := by
  obtain ⟨i0, hi, hz0, hz1, hz2⟩ := info_parts Try.info5
  obtain ⟨ao, cap, rfl, -⟩ := id hv
  have hv2 := (hv.alloc (.cells #[.int .i64 k, .int .i64 b, .int .i64 o, .slice ao l.length cap, .int .i64 m] 48)).alloc (.cells #[.int .i64 0, .int .i64 0, .int .i64 0, .slice none 0 0, .int .i64 0] 48)
  have hA := (RecAt.new w k b o (.slice ao l.length cap) m).alloc (.cells #[.int .i64 0, .int .i64 0, .int .i64 0, .slice none 0 0, .int .i64 0] 48)
  have hR := RecAt.new (w.alloc (.cells #[.int .i64 k, .int .i64 b, .int .i64 o, .slice ao l.length cap, .int .i64 m] 48)) 0 0 0 (.slice none 0 0) 0
  rw [World.size_alloc] at hR
  clear hv
  go_enter Try.func31, Try.ntmps31
  go_wp2_with (at_builtin; refine wpList_append_bs _ rfl (.const (.slice none 0 0)) (.tmp 4) 37 rfl (w.heap.size + 2) 5 i0 (.int .u8 0) Try.underlying37 hi hz0 hz1 hz2 rfl _ 0 [] rfl (World.ownsRow_nil _ _ _ _) _ l rfl hv2 (by omega) (by simp) ?_; intro v1 w1 ho1 hg1; rw [Nat.zero_add, List.nil_append] at ho1; have hb1 := (Below.refl ((w.alloc (.cells #[.int .i64 k, .int .i64 b, .int .i64 o, .slice ao l.length cap, .int .i64 m] 48)).alloc (.cells #[.int .i64 0, .int .i64 0, .int .i64 0, .slice none 0 0, .int .i64 0] 48)).heap.size _).grown hg1 (Nat.le_refl _) (by intro k hk; cases hk); clear hg1; obtain ⟨ao1, cap1, rfl, -, -⟩ := owns_form ho1; obtain ⟨c0, c1, c2, c3, c4, f0, f1, f2, f3, f4, lp⟩ := hA.mono hb1; obtain ⟨d0, d1, d2, d3, d4, e0, e1, e2, e3, e4, lq⟩ := hR.mono hb1; have hB1 : Below w.heap.size w w1 := (((Below.refl _ w).alloc (Nat.le_refl _) _).alloc (by simp) _).trans (hb1.mono (by simp; omega)); have O := hide ho1; clear ho1 hb1 hA hR hv2)
  refine bodyPost_ret (v := .agg #[.int .i64 k, .int .i64 b, .int .i64 o, .slice ao1 l.length cap1, .int .i64 m]) (by simp [results, Try.results31, go_sem, d0, d1, d2, d3, d4]) rfl ⟨_, rfl, ?_, ?_⟩
  · refine owns_base (Keeps.owns (S := fun k => k < w.heap.size + 2) ((((((Keeps.refl _ _).set (by simp) _).set (by simp) _).set (by simp) _).set (by simp) _).set (by simp) _ |>.set (by simp) _) O.out (fun b hb hk => ?_)) (by omega)
    have := owns_lt O.out b hb
    have hk' : b < w.heap.size + 2 := hk
    omega
  · exact (((((hB1.setCell (by simp) _).setCell (by simp) _).setCell (by simp) _).setCell (by simp) _).setCell (by simp) _).setCell (by simp) _


end Go.Proofs.Ytgdlbfoihpdlhaa
