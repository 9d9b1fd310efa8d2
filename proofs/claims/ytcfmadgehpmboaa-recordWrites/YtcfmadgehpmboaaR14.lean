/- Contracts: the document's Take and Lsn, whatever its parse answers. -/
import Derived.Test.YtcfmadgehpmboaaRA
import Derived.Test.YtcfmadgehpmboaaRP
set_option linter.unusedSimpArgs false
set_option linter.unusedVariables false
namespace Go.Proofs.Ytcfmadgehpmboaa
open Go.RowKit Go.Attic

/-- A record and an error; the record's bytes stand in the world behind the call. -/
def RTakeE (w : World) (k b o : Int) (l : List Nat) (m er : Int) (e : Ending) (w' : World) : Prop :=
  ∃ v, e = .returned (.tuple #[.agg #[.int .i64 k, .int .i64 b, .int .i64 o, v, .int .i64 m], .int .i64 er]) ∧ Bs w' v l ∧ Below w.heap.size w w'

/-- What the document's parse answers. -/
def RParE (w : World) (k b o : Int) (l : List Nat) (m p : Int) (is : Bool) (e : Ending) (w' : World) : Prop :=
  ∃ v, e = .returned (.tuple #[.agg #[.int .i64 k, .int .i64 b, .int .i64 o, v, .int .i64 m], .int .i64 p, .bool is]) ∧ Bs w' v l ∧ (∀ j, v.ownBlock = some j → w.heap.size ≤ j) ∧ Below w.heap.size w w'

set_option maxRecDepth 100000 in
set_option maxHeartbeats 400000 in
theorem rtake_neg (v : Value) (L : List Nat) (q : Int) (w : World) (hv : Bs w v L) (h : q < 0) :
    Calls Try.prog 19 #[v, .int .i64 q] w (RTakeE w 0 0 0 [] 0 1) := by
  obtain ⟨c0, c1, c2, c3, c4, f0, f1, f2, f3, f4, lp⟩ := RecAt.new w 0 0 0 (.slice none 0 0) 0
  obtain ⟨ao, cap, rfl, -⟩ := hv
  go_enter Try.func19, Try.ntmps19
  go_wp2_with fail
  refine bodyPost_ret (v := .tuple #[.agg #[.int .i64 0, .int .i64 0, .int .i64 0, .slice none 0 0, .int .i64 0], .int .i64 1]) (by simp [results, Try.results19, go_sem, c0, c1, c2, c3, c4]) rfl ⟨_, rfl, Bs.nil _, ?_⟩
  exact (Below.refl _ w).alloc (Nat.le_refl _) _

set_option maxRecDepth 100000 in
set_option maxHeartbeats 400000 in
theorem rtake_far (v : Value) (L : List Nat) (q : Int) (w : World) (hv : Bs w v L) (h0 : 0 ≤ q) (h : 2305843009213693952 < q) :
    Calls Try.prog 19 #[v, .int .i64 q] w (RTakeE w 0 0 0 [] 0 1) := by
  obtain ⟨c0, c1, c2, c3, c4, f0, f1, f2, f3, f4, lp⟩ := RecAt.new w 0 0 0 (.slice none 0 0) 0
  obtain ⟨ao, cap, rfl, -⟩ := hv
  go_enter Try.func19, Try.ntmps19
  go_wp2_with fail
  refine bodyPost_ret (v := .tuple #[.agg #[.int .i64 0, .int .i64 0, .int .i64 0, .slice none 0 0, .int .i64 0], .int .i64 1]) (by simp [results, Try.results19, go_sem, c0, c1, c2, c3, c4]) rfl ⟨_, rfl, Bs.nil _, ?_⟩
  exact (Below.refl _ w).alloc (Nat.le_refl _) _

set_option maxRecDepth 100000 in
set_option maxHeartbeats 400000 in
theorem rtake_not (v : Value) (L : List Nat) (q : Int) (w : World) (hv : Bs w v L) (h0 : 0 ≤ q) (h1 : q ≤ 2305843009213693952) (k b o m p : Int) (l : List Nat) (is : Bool)
    (hp : ∀ w, Bs w v L → Calls Try.prog 30 #[v] w (RParE w k b o l m p is)) (his : is = false) :
    Calls Try.prog 19 #[v, .int .i64 q] w (RTakeE w 0 0 0 [] 0 61) := by
  subst his
  have hr := RecAt.new w 0 0 0 (.slice none 0 0) 0
  have hv1 := hv.alloc (.cells #[.int .i64 0, .int .i64 0, .int .i64 0, .slice none 0 0, .int .i64 0] 24)
  obtain ⟨ao, cap, rfl, -, -, -, -⟩ := id hv
  go_enter Try.func19, Try.ntmps19
  go_wp2_with fail
  refine (hp _ hv1).mono ?_
  rintro e w1 ⟨vr, rfl, hbr, hoj, hb1⟩
  obtain ⟨rao, rcap, rfl, -, -, -, -⟩ := id hbr
  have hr0 := hr.mono hb1
  have hs1 := RecAt.new w1 k b o (.slice rao l.length rcap) m
  have hB1 : Below w.heap.size w w1 := ((Below.refl _ w).alloc (Nat.le_refl _) _).trans (hb1.mono (by simp))
  have hne : w.heap.size < w1.heap.size := by have := hb1.size; simp at this; omega
  obtain ⟨c0, c1, c2, c3, c4, f0, f1, f2, f3, f4, lp⟩ := id hr0
  clear hb1 hr hv1 hp hv
  go_wp2_with fail
  obtain ⟨k0, k1, k2, k3, k4, -, -, -, -, -, -⟩ := (hr0.setAll 0 0 0 (.slice none 0 0) 0).alloc (.cells #[.int .i64 k, .int .i64 b, .int .i64 o, .slice rao l.length rcap, .int .i64 m] 24)
  refine bodyPost_ret (v := .tuple #[.agg #[.int .i64 0, .int .i64 0, .int .i64 0, .slice none 0 0, .int .i64 0], .int .i64 61]) (by simp [results, Try.results19, go_sem, k0, k1, k2, k3, k4]) rfl ⟨_, rfl, Bs.nil _, ?_⟩
  exact (((((hB1.setCell (Nat.le_refl _) _).setCell (Nat.le_refl _) _).setCell (Nat.le_refl _) _).setCell (Nat.le_refl _) _).setCell (Nat.le_refl _) _).alloc (by simpa using hB1.size) _

set_option maxRecDepth 100000 in
set_option maxHeartbeats 400000 in
theorem rtake_other (v : Value) (L : List Nat) (q : Int) (w : World) (hv : Bs w v L) (h0 : 0 ≤ q) (h1 : q ≤ 2305843009213693952) (k b o m p : Int) (l : List Nat) (is : Bool)
    (hp : ∀ w, Bs w v L → Calls Try.prog 30 #[v] w (RParE w k b o l m p is)) (his : is = true) (hq : (p != q) = true) :
    Calls Try.prog 19 #[v, .int .i64 q] w (RTakeE w 0 0 0 [] 0 61) := by
  subst his
  have hr := RecAt.new w 0 0 0 (.slice none 0 0) 0
  have hv1 := hv.alloc (.cells #[.int .i64 0, .int .i64 0, .int .i64 0, .slice none 0 0, .int .i64 0] 24)
  obtain ⟨ao, cap, rfl, -, -, -, -⟩ := id hv
  go_enter Try.func19, Try.ntmps19
  go_wp2_with fail
  refine (hp _ hv1).mono ?_
  rintro e w1 ⟨vr, rfl, hbr, hoj, hb1⟩
  obtain ⟨rao, rcap, rfl, -, -, -, -⟩ := id hbr
  have hr0 := hr.mono hb1
  have hs1 := RecAt.new w1 k b o (.slice rao l.length rcap) m
  have hB1 : Below w.heap.size w w1 := ((Below.refl _ w).alloc (Nat.le_refl _) _).trans (hb1.mono (by simp))
  have hne : w.heap.size < w1.heap.size := by have := hb1.size; simp at this; omega
  obtain ⟨c0, c1, c2, c3, c4, f0, f1, f2, f3, f4, lp⟩ := id hr0
  clear hb1 hr hv1 hp hv
  go_wp2_with fail
  obtain ⟨k0, k1, k2, k3, k4, -, -, -, -, -, -⟩ := (hr0.setAll 0 0 0 (.slice none 0 0) 0).alloc (.cells #[.int .i64 k, .int .i64 b, .int .i64 o, .slice rao l.length rcap, .int .i64 m] 24)
  refine bodyPost_ret (v := .tuple #[.agg #[.int .i64 0, .int .i64 0, .int .i64 0, .slice none 0 0, .int .i64 0], .int .i64 61]) (by simp [results, Try.results19, go_sem, k0, k1, k2, k3, k4]) rfl ⟨_, rfl, Bs.nil _, ?_⟩
  exact (((((hB1.setCell (Nat.le_refl _) _).setCell (Nat.le_refl _) _).setCell (Nat.le_refl _) _).setCell (Nat.le_refl _) _).setCell (Nat.le_refl _) _).alloc (by simpa using hB1.size) _

set_option maxRecDepth 100000 in
set_option maxHeartbeats 400000 in
theorem rtake_yes (v : Value) (L : List Nat) (q : Int) (w : World) (hv : Bs w v L) (h0 : 0 ≤ q) (h1 : q ≤ 2305843009213693952) (k b o m p : Int) (l : List Nat) (is : Bool)
    (hp : ∀ w, Bs w v L → Calls Try.prog 30 #[v] w (RParE w k b o l m p is)) (his : is = true) (hq : (p != q) = false) :
    Calls Try.prog 19 #[v, .int .i64 q] w (RTakeE w k b o l m 0) := by
  subst his
  have hr := RecAt.new w 0 0 0 (.slice none 0 0) 0
  have hv1 := hv.alloc (.cells #[.int .i64 0, .int .i64 0, .int .i64 0, .slice none 0 0, .int .i64 0] 24)
  obtain ⟨ao, cap, rfl, -, -, -, -⟩ := id hv
  go_enter Try.func19, Try.ntmps19
  go_wp2_with fail
  refine (hp _ hv1).mono ?_
  rintro e w1 ⟨vr, rfl, hbr, hoj, hb1⟩
  obtain ⟨rao, rcap, rfl, -, -, -, -⟩ := id hbr
  have hr0 := hr.mono hb1
  have hs1 := RecAt.new w1 k b o (.slice rao l.length rcap) m
  have hB1 : Below w.heap.size w w1 := ((Below.refl _ w).alloc (Nat.le_refl _) _).trans (hb1.mono (by simp))
  have hne : w.heap.size < w1.heap.size := by have := hb1.size; simp at this; omega
  obtain ⟨c0, c1, c2, c3, c4, f0, f1, f2, f3, f4, lp⟩ := id hr0
  clear hb1 hr hv1 hp hv
  have hDU := ((keeps_all w1 w.heap.size k b o (.slice rao l.length rcap) m).bs hbr (fun j hj e => by have h9 := hoj j hj; have e2 : j = w.heap.size := e; simp at h9; omega)).alloc (.cells #[.int .i64 k, .int .i64 b, .int .i64 o, .slice rao l.length rcap, .int .i64 m] 24)
  go_wp2_with fail
  obtain ⟨k0, k1, k2, k3, k4, -, -, -, -, -, -⟩ := (hr0.setAll k b o (.slice rao l.length rcap) m).alloc (.cells #[.int .i64 k, .int .i64 b, .int .i64 o, .slice rao l.length rcap, .int .i64 m] 24)
  refine bodyPost_ret (v := .tuple #[.agg #[.int .i64 k, .int .i64 b, .int .i64 o, .slice rao l.length rcap, .int .i64 m], .int .i64 0]) (by simp [results, Try.results19, go_sem, k0, k1, k2, k3, k4]) rfl ⟨_, rfl, hDU, ?_⟩
  exact (((((hB1.setCell (Nat.le_refl _) _).setCell (Nat.le_refl _) _).setCell (Nat.le_refl _) _).setCell (Nat.le_refl _) _).setCell (Nat.le_refl _) _).alloc (by simpa using hB1.size) _

set_option maxRecDepth 100000 in
set_option maxHeartbeats 400000 in
theorem rlsn_not (v : Value) (L : List Nat) (w : World) (hv : Bs w v L) (k b o m p : Int) (l : List Nat) (is : Bool) (hp : ∀ w, Bs w v L → Calls Try.prog 30 #[v] w (RParE w k b o l m p is)) (his : is = false) :
    Calls Try.prog 21 #[v] w fun e w' => e = .returned (.tuple #[.int .i64 0, .int .i64 61]) ∧ Below w.heap.size w w' := by
  subst his
  obtain ⟨ao, cap, rfl, -, -, -, -⟩ := id hv
  go_enter Try.func21, Try.ntmps21
  go_wp2_with fail
  refine (hp _ hv).mono ?_
  rintro e w1 ⟨vr, rfl, hbr, -, hb1⟩
  obtain ⟨rao, rcap, rfl, -, -, -, -⟩ := id hbr
  go_wp2_with fail
  go_ret2
  exact ⟨rfl, hb1.alloc hb1.size _⟩

set_option maxRecDepth 100000 in
set_option maxHeartbeats 400000 in
theorem rlsn_yes (v : Value) (L : List Nat) (w : World) (hv : Bs w v L) (k b o m p : Int) (l : List Nat) (is : Bool) (hp : ∀ w, Bs w v L → Calls Try.prog 30 #[v] w (RParE w k b o l m p is)) (his : is = true) :
    Calls Try.prog 21 #[v] w fun e w' => e = .returned (.tuple #[.int .i64 p, .int .i64 0]) ∧ Below w.heap.size w w' := by
  subst his
  obtain ⟨ao, cap, rfl, -, -, -, -⟩ := id hv
  go_enter Try.func21, Try.ntmps21
  go_wp2_with fail
  refine (hp _ hv).mono ?_
  rintro e w1 ⟨vr, rfl, hbr, -, hb1⟩
  obtain ⟨rao, rcap, rfl, -, -, -, -⟩ := id hbr
  go_wp2_with fail
  go_ret2
  exact ⟨rfl, hb1.alloc hb1.size _⟩


end Go.Proofs.Ytcfmadgehpmboaa
