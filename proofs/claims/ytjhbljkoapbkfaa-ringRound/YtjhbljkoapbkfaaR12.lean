/- Contracts: Take and Lsn, whatever parse answers. -/
import Derived.Test.YtjhbljkoapbkfaaRA
import Derived.Test.YtjhbljkoapbkfaaRP
import Derived.Test.YtjhbljkoapbkfaaR4
set_option linter.unusedSimpArgs false
set_option linter.unusedVariables false
namespace Go.Proofs.Ytjhbljkoapbkfaa
open Go.RowKit Go.Attic

/-- A record and an error; the record's bytes are the call's own. -/
def TakeE (w : World) (k b o : Int) (l : List Nat) (m er : Int) (e : Ending) (w' : World) : Prop :=
  ∃ v, e = .returned (.tuple #[.agg #[.int .i64 k, .int .i64 b, .int .i64 o, v, .int .i64 m], .int .i64 er]) ∧ w'.ownsRow w.heap.size 5 1 v l.length (cellsB l) ∧ Below w.heap.size w w'

set_option maxRecDepth 100000 in
set_option maxHeartbeats 400000 in
theorem take_arg (v : Value) (L : List Nat) (q : Int) (w : World) (hv : Bs w v L) (h : placeB q = false) :
    Calls Try.prog 44 #[v, .int .i64 q] w (TakeE w 0 0 0 [] 0 1) := by
  obtain ⟨c0, c1, c2, c3, c4, f0, f1, f2, f3, f4, lp⟩ := RecAt.new w 0 0 0 (.slice none 0 0) 0
  obtain ⟨ao, cap, rfl, -⟩ := hv
  go_enter Try.func44, Try.ntmps44
  go_wp2_with (go_at_call 60; refine (isPlace_any q _).mono ?_; rintro e w1 ⟨rfl, rfl⟩)
  refine bodyPost_ret (v := .tuple #[.agg #[.int .i64 0, .int .i64 0, .int .i64 0, .slice none 0 0, .int .i64 0], .int .i64 1]) (by simp [results, Try.results44, go_sem, c0, c1, c2, c3, c4]) rfl ⟨_, rfl, World.ownsRow_nil _ _ _ _, ?_⟩
  exact (Below.refl _ w).alloc (Nat.le_refl _) _

set_option maxRecDepth 100000 in
set_option maxHeartbeats 400000 in
theorem take_stale (v : Value) (L : List Nat) (q : Int) (w : World) (hv : Bs w v L) (h : placeB q = true) (p k b o m er : Int) (l : List Nat) (vr : Value) (hvr : ∀ w, Bs w v L → Bs w vr l)
    (hp : ∀ w, Bs w v L → Calls Try.prog 61 #[v] w fun e w' => e = .returned (.tuple #[.int .i64 p, .agg #[.int .i64 k, .int .i64 b, .int .i64 o, vr, .int .i64 m], .int .i64 er]) ∧ Below w.heap.size w w') (herr : (er != 0) = true) :
    Calls Try.prog 44 #[v, .int .i64 q] w (TakeE w 0 0 0 [] 0 61) := by
  have hr := RecAt.new w 0 0 0 (.slice none 0 0) 0
  have hv1 := hv.alloc (.cells #[.int .i64 0, .int .i64 0, .int .i64 0, .slice none 0 0, .int .i64 0] 62)
  have hbr := hvr _ hv1
  obtain ⟨rao, rcap, rfl, -, -, -, -⟩ := id hbr
  clear hvr
  obtain ⟨ao, cap, rfl, -, -, -, -⟩ := id hv
  go_enter Try.func44, Try.ntmps44
  go_wp2_with (go_at_call 60; refine (isPlace_any q _).mono ?_; rintro e w1 ⟨rfl, rfl⟩)
  refine (hp _ hv1).mono ?_
  rintro e w1 ⟨rfl, hb1⟩
  have hr1 := (hr.mono hb1).alloc (.cells #[.int .i64 k, .int .i64 b, .int .i64 o, .slice rao l.length rcap, .int .i64 m] 62)
  have hs1 := RecAt.new w1 k b o (.slice rao l.length rcap) m
  have hbr1 := (hbr.mono hb1).alloc (.cells #[.int .i64 k, .int .i64 b, .int .i64 o, .slice rao l.length rcap, .int .i64 m] 62)
  have hB1 : Below w.heap.size w w1 := ((Below.refl _ w).alloc (Nat.le_refl _) _).trans (hb1.mono (by simp))
  have hne : w.heap.size < w1.heap.size := by have := hb1.size; simp at this; omega
  have hB2 := hB1.alloc hB1.size (.cells #[.int .i64 k, .int .i64 b, .int .i64 o, .slice rao l.length rcap, .int .i64 m] 62)
  have hr0 := hr.mono hb1
  obtain ⟨c0, c1, c2, c3, c4, f0, f1, f2, f3, f4, lp⟩ := id hr0
  clear hb1 hr hv1 hp hv
  go_wp2_with fail
  obtain ⟨k0, k1, k2, k3, k4, -, -, -, -, -, -⟩ := (hr0.setAll 0 0 0 (.slice none 0 0) 0).alloc (.cells #[.int .i64 k, .int .i64 b, .int .i64 o, .slice rao l.length rcap, .int .i64 m] 62)
  refine bodyPost_ret (v := .tuple #[.agg #[.int .i64 0, .int .i64 0, .int .i64 0, .slice none 0 0, .int .i64 0], .int .i64 61]) (by simp [results, Try.results44, go_sem, k0, k1, k2, k3, k4]) rfl ⟨_, rfl, World.ownsRow_nil _ _ _ _, ?_⟩
  exact (((((hB1.setCell (Nat.le_refl _) _).setCell (Nat.le_refl _) _).setCell (Nat.le_refl _) _).setCell (Nat.le_refl _) _).setCell (Nat.le_refl _) _).alloc (by simpa using hB1.size) _

set_option maxRecDepth 100000 in
set_option maxHeartbeats 400000 in
theorem take_other (v : Value) (L : List Nat) (q : Int) (w : World) (hv : Bs w v L) (h : placeB q = true) (p k b o m er : Int) (l : List Nat) (vr : Value) (hvr : ∀ w, Bs w v L → Bs w vr l)
    (hp : ∀ w, Bs w v L → Calls Try.prog 61 #[v] w fun e w' => e = .returned (.tuple #[.int .i64 p, .agg #[.int .i64 k, .int .i64 b, .int .i64 o, vr, .int .i64 m], .int .i64 er]) ∧ Below w.heap.size w w') (herr : er = 0) (hq : (p != q) = true) :
    Calls Try.prog 44 #[v, .int .i64 q] w (TakeE w 0 0 0 [] 0 61) := by
  subst herr
  have hr := RecAt.new w 0 0 0 (.slice none 0 0) 0
  have hv1 := hv.alloc (.cells #[.int .i64 0, .int .i64 0, .int .i64 0, .slice none 0 0, .int .i64 0] 62)
  have hbr := hvr _ hv1
  obtain ⟨rao, rcap, rfl, -, -, -, -⟩ := id hbr
  clear hvr
  obtain ⟨ao, cap, rfl, -, -, -, -⟩ := id hv
  go_enter Try.func44, Try.ntmps44
  go_wp2_with (go_at_call 60; refine (isPlace_any q _).mono ?_; rintro e w1 ⟨rfl, rfl⟩)
  refine (hp _ hv1).mono ?_
  rintro e w1 ⟨rfl, hb1⟩
  have hr1 := (hr.mono hb1).alloc (.cells #[.int .i64 k, .int .i64 b, .int .i64 o, .slice rao l.length rcap, .int .i64 m] 62)
  have hs1 := RecAt.new w1 k b o (.slice rao l.length rcap) m
  have hbr1 := (hbr.mono hb1).alloc (.cells #[.int .i64 k, .int .i64 b, .int .i64 o, .slice rao l.length rcap, .int .i64 m] 62)
  have hB1 : Below w.heap.size w w1 := ((Below.refl _ w).alloc (Nat.le_refl _) _).trans (hb1.mono (by simp))
  have hne : w.heap.size < w1.heap.size := by have := hb1.size; simp at this; omega
  have hB2 := hB1.alloc hB1.size (.cells #[.int .i64 k, .int .i64 b, .int .i64 o, .slice rao l.length rcap, .int .i64 m] 62)
  have hr0 := hr.mono hb1
  obtain ⟨c0, c1, c2, c3, c4, f0, f1, f2, f3, f4, lp⟩ := id hr0
  clear hb1 hr hv1 hp hv
  go_wp2_with fail
  obtain ⟨k0, k1, k2, k3, k4, -, -, -, -, -, -⟩ := (hr0.setAll 0 0 0 (.slice none 0 0) 0).alloc (.cells #[.int .i64 k, .int .i64 b, .int .i64 o, .slice rao l.length rcap, .int .i64 m] 62)
  refine bodyPost_ret (v := .tuple #[.agg #[.int .i64 0, .int .i64 0, .int .i64 0, .slice none 0 0, .int .i64 0], .int .i64 61]) (by simp [results, Try.results44, go_sem, k0, k1, k2, k3, k4]) rfl ⟨_, rfl, World.ownsRow_nil _ _ _ _, ?_⟩
  exact (((((hB1.setCell (Nat.le_refl _) _).setCell (Nat.le_refl _) _).setCell (Nat.le_refl _) _).setCell (Nat.le_refl _) _).setCell (Nat.le_refl _) _).alloc (by simpa using hB1.size) _

set_option maxRecDepth 100000 in
set_option maxHeartbeats 400000 in
theorem take_yes (v : Value) (L : List Nat) (q : Int) (w : World) (hv : Bs w v L) (h : placeB q = true) (p k b o m er : Int) (l : List Nat) (vr : Value) (hvr : ∀ w, Bs w v L → Bs w vr l)
    (hp : ∀ w, Bs w v L → Calls Try.prog 61 #[v] w fun e w' => e = .returned (.tuple #[.int .i64 p, .agg #[.int .i64 k, .int .i64 b, .int .i64 o, vr, .int .i64 m], .int .i64 er]) ∧ Below w.heap.size w w') (hlen : l.length ≤ 140737488355328) (herr : er = 0) (hq : (p != q) = false) :
    Calls Try.prog 44 #[v, .int .i64 q] w (TakeE w k b o l m 0) := by
  subst herr
  have hr := RecAt.new w 0 0 0 (.slice none 0 0) 0
  have hv1 := hv.alloc (.cells #[.int .i64 0, .int .i64 0, .int .i64 0, .slice none 0 0, .int .i64 0] 62)
  have hbr := hvr _ hv1
  obtain ⟨rao, rcap, rfl, -, -, -, -⟩ := id hbr
  clear hvr
  obtain ⟨ao, cap, rfl, -, -, -, -⟩ := id hv
  go_enter Try.func44, Try.ntmps44
  go_wp2_with (go_at_call 60; refine (isPlace_any q _).mono ?_; rintro e w1 ⟨rfl, rfl⟩)
  refine (hp _ hv1).mono ?_
  rintro e w1 ⟨rfl, hb1⟩
  have hr1 := (hr.mono hb1).alloc (.cells #[.int .i64 k, .int .i64 b, .int .i64 o, .slice rao l.length rcap, .int .i64 m] 62)
  have hs1 := RecAt.new w1 k b o (.slice rao l.length rcap) m
  have hbr1 := (hbr.mono hb1).alloc (.cells #[.int .i64 k, .int .i64 b, .int .i64 o, .slice rao l.length rcap, .int .i64 m] 62)
  have hB1 : Below w.heap.size w w1 := ((Below.refl _ w).alloc (Nat.le_refl _) _).trans (hb1.mono (by simp))
  have hne : w.heap.size < w1.heap.size := by have := hb1.size; simp at this; omega
  have hB2 := hB1.alloc hB1.size (.cells #[.int .i64 k, .int .i64 b, .int .i64 o, .slice rao l.length rcap, .int .i64 m] 62)
  have hr0 := hr.mono hb1
  obtain ⟨c0, c1, c2, c3, c4, f0, f1, f2, f3, f4, lp⟩ := id hr0
  clear hb1 hr hv1 hp hv
  obtain ⟨d0, d1, d2, d3, d4, e0, e1, e2, e3, e4, lq⟩ := id hs1
  go_wp2_with fail
  clear c0 c1 c2 c3 c4 f0 f1 f2 f3 f4 lp d0 d1 d2 d3 d4 e0 e1 e2 e3 e4 lq
  refine (clone_rec k b o m _ l _ hbr1 hlen).mono ?_
  rintro e w2 ⟨vy, rfl, hoy, hby⟩
  obtain ⟨yo, yc, rfl, -, -⟩ := owns_form hoy
  have hR := hr1.mono hby
  have hBU := hB2.trans (hby.mono hB2.size)
  have hO : w2.ownsRow (w.heap.size + 1) 5 1 (.slice yo l.length yc) l.length (cellsB l) := owns_base hoy (by simp; omega)
  have hOU := (keeps_all w2 w.heap.size k b o (.slice yo l.length yc) m).owns hO (fun j hj e => by have := owns_lt hO j hj; have e' : j = w.heap.size := e; omega)
  have hcU := hR.setAll k b o (.slice yo l.length yc) m
  have hbU : Below w.heap.size w (((((w2.setCell ⟨w.heap.size, 0, none⟩ (.int .i64 k)).setCell ⟨w.heap.size, 1, none⟩ (.int .i64 b)).setCell ⟨w.heap.size, 2, none⟩ (.int .i64 o)).setCell ⟨w.heap.size, 3, none⟩ (.slice yo l.length yc)).setCell ⟨w.heap.size, 4, none⟩ (.int .i64 m)) := ((((hBU.setCell (Nat.le_refl _) _).setCell (Nat.le_refl _) _).setCell (Nat.le_refl _) _).setCell (Nat.le_refl _) _).setCell (Nat.le_refl _) _
  obtain ⟨c0, c1, c2, c3, c4, f0, f1, f2, f3, f4, lp⟩ := hR
  have O := hide hOU
  clear hoy hby hO hOU hB2 hBU hr1 hs1 hbr hbr1
  go_wp2_with fail
  clear c0 c1 c2 c3 c4 f0 f1 f2 f3 f4 lp
  generalize (((((w2.setCell ⟨w.heap.size, 0, none⟩ (.int .i64 k)).setCell ⟨w.heap.size, 1, none⟩ (.int .i64 b)).setCell ⟨w.heap.size, 2, none⟩ (.int .i64 o)).setCell ⟨w.heap.size, 3, none⟩ (.slice yo l.length yc)).setCell ⟨w.heap.size, 4, none⟩ (.int .i64 m)) = U at O hcU hbU ⊢
  obtain ⟨c0, c1, c2, c3, c4, -, -, -, -, -, -⟩ := hcU
  refine bodyPost_ret (v := .tuple #[.agg #[.int .i64 k, .int .i64 b, .int .i64 o, .slice yo l.length yc, .int .i64 m], .int .i64 0]) (by simp [results, Try.results44, go_sem, c0, c1, c2, c3, c4]) rfl ⟨_, rfl, owns_base O.out (Nat.le_succ _), hbU⟩


end Go.Proofs.Ytjhbljkoapbkfaa
