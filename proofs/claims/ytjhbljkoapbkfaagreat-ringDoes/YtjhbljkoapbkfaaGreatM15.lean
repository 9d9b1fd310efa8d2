/- Contracts: the document's Take and Lsn, whatever its parse answers. Take and Lsn of any bytes, on both sides. Contracts: runs and its iterator. -/
import Derived.Test.YtjhbljkoapbkfaaGreatM4
import Derived.Test.YtjhbljkoapbkfaaGreatM3
import Derived.Test.YtjhbljkoapbkfaaGreatM6
import Derived.Test.YtjhbljkoapbkfaaGreatM13
import Derived.Test.YtjhbljkoapbkfaaGreatM5
import Derived.Test.YtjhbljkoapbkfaaGreatM14
import Derived.Test.YtjhbljkoapbkfaaGreatM11
import Derived.Test.YtjhbljkoapbkfaaGreatM10
import Derived.OwnWalkIn
import Derived.TacticsInMore
import Derived.LoopNIn
import Derived.LoopIn
import Derived.RangeFuncBox
import Derived.Shelf.Abstract
import Derived.Shelf.RegionOpen
import Derived.RangeFuncCalls
set_option linter.unusedSimpArgs false
set_option linter.unusedVariables false

namespace Go.Proofs.YtjhbljkoapbkfaaGreat
open Go.RowKit Go.Attic

/-- A record and an error; the record's bytes stand in the world behind the call. -/
def RTakeE (w : World) (k b o : Int) (l : List Nat) (m er : Int) (e : Ending) (w' : World) : Prop :=
  ∃ v, e = .returned (.tuple #[.agg #[.int .i64 k, .int .i64 b, .int .i64 o, v, .int .i64 m], .int .i64 er]) ∧ Bs w' v l ∧ (∀ j, v.ownBlock = some j → w.heap.size ≤ j) ∧ Below w.heap.size w w'

/-- What the document's parse answers. -/
def RParE (w : World) (k b o : Int) (l : List Nat) (m p : Int) (is : Bool) (e : Ending) (w' : World) : Prop :=
  ∃ v, e = .returned (.tuple #[.agg #[.int .i64 k, .int .i64 b, .int .i64 o, v, .int .i64 m], .int .i64 p, .bool is]) ∧ Bs w' v l ∧ (∀ j, v.ownBlock = some j → w.heap.size ≤ j) ∧ Below w.heap.size w w'

set_option maxRecDepth 100000 in
set_option maxHeartbeats 400000 in
theorem rtake_neg (v : Value) (L : List Nat) (q : Int) (w : World) (hv : Bs w v L) (h : q < 0) :
    Calls Tryz.prog 63 #[v, .int .i64 q] w (RTakeE w 0 0 0 [] 0 1) := by
  obtain ⟨c0, c1, c2, c3, c4, f0, f1, f2, f3, f4, lp⟩ := RecAt.new w 0 0 0 (.slice none 0 0) 0
  obtain ⟨ao, cap, rfl, -⟩ := hv
  go_enter Tryz.func63, Tryz.ntmps63
  go_wp2_with fail
  refine bodyPost_ret (v := .tuple #[.agg #[.int .i64 0, .int .i64 0, .int .i64 0, .slice none 0 0, .int .i64 0], .int .i64 1]) (by simp [results, Tryz.results63, go_sem, c0, c1, c2, c3, c4]) rfl ⟨_, rfl, Bs.nil _, (fun j hj => by cases hj), ?_⟩
  exact (Below.refl _ w).alloc (Nat.le_refl _) _

set_option maxRecDepth 100000 in
set_option maxHeartbeats 400000 in
theorem rtake_far (v : Value) (L : List Nat) (q : Int) (w : World) (hv : Bs w v L) (h0 : 0 ≤ q) (h : 2305843009213693952 < q) :
    Calls Tryz.prog 63 #[v, .int .i64 q] w (RTakeE w 0 0 0 [] 0 1) := by
  obtain ⟨c0, c1, c2, c3, c4, f0, f1, f2, f3, f4, lp⟩ := RecAt.new w 0 0 0 (.slice none 0 0) 0
  obtain ⟨ao, cap, rfl, -⟩ := hv
  go_enter Tryz.func63, Tryz.ntmps63
  go_wp2_with fail
  refine bodyPost_ret (v := .tuple #[.agg #[.int .i64 0, .int .i64 0, .int .i64 0, .slice none 0 0, .int .i64 0], .int .i64 1]) (by simp [results, Tryz.results63, go_sem, c0, c1, c2, c3, c4]) rfl ⟨_, rfl, Bs.nil _, (fun j hj => by cases hj), ?_⟩
  exact (Below.refl _ w).alloc (Nat.le_refl _) _

set_option maxRecDepth 100000 in
set_option maxHeartbeats 400000 in
theorem rtake_not (v : Value) (L : List Nat) (q : Int) (w : World) (hv : Bs w v L) (h0 : 0 ≤ q) (h1 : q ≤ 2305843009213693952) (k b o m p : Int) (l : List Nat) (is : Bool)
    (hp : ∀ w, Bs w v L → Calls Tryz.prog 81 #[v] w (RParE w k b o l m p is)) (his : is = false) :
    Calls Tryz.prog 63 #[v, .int .i64 q] w (RTakeE w 0 0 0 [] 0 61) := by
  subst his
  have hr := RecAt.new w 0 0 0 (.slice none 0 0) 0
  have hv1 := hv.alloc (.cells #[.int .i64 0, .int .i64 0, .int .i64 0, .slice none 0 0, .int .i64 0] 52)
  obtain ⟨ao, cap, rfl, -, -, -, -⟩ := id hv
  go_enter Tryz.func63, Tryz.ntmps63
  go_wp2_with fail
  refine (hp _ hv1).mono ?_
  rintro e w1 ⟨vr, rfl, hbr, hoj, hb1⟩
  obtain ⟨rao, rcap, rfl, -, -, -, -⟩ := id hbr
  have hr0 := hr.mono hb1
  have hs1 := RecAt.new w1 k b o (.slice rao l.length rcap) m
  have hB1 : Below w.heap.size w w1 := ((Below.refl _ w).alloc (Nat.le_refl _) _).trans (hb1.mono (by simp))
  have hne : w.heap.size < w1.heap.size := by have := hb1.size; simp at this; omega
  obtain ⟨c0, c1, c2, c3, c4, f0, f1, f2, f3, f4, lp⟩ := id hr0
  clear hb1 hr hv1 hp hv
  go_wp2_with fail
  obtain ⟨k0, k1, k2, k3, k4, -, -, -, -, -, -⟩ := (hr0.setAll 0 0 0 (.slice none 0 0) 0).alloc (.cells #[.int .i64 k, .int .i64 b, .int .i64 o, .slice rao l.length rcap, .int .i64 m] 52)
  refine bodyPost_ret (v := .tuple #[.agg #[.int .i64 0, .int .i64 0, .int .i64 0, .slice none 0 0, .int .i64 0], .int .i64 61]) (by simp [results, Tryz.results63, go_sem, k0, k1, k2, k3, k4]) rfl ⟨_, rfl, Bs.nil _, (fun j hj => by cases hj), ?_⟩
  exact (((((hB1.setCell (Nat.le_refl _) _).setCell (Nat.le_refl _) _).setCell (Nat.le_refl _) _).setCell (Nat.le_refl _) _).setCell (Nat.le_refl _) _).alloc (by simpa using hB1.size) _

set_option maxRecDepth 100000 in
set_option maxHeartbeats 400000 in
theorem rtake_other (v : Value) (L : List Nat) (q : Int) (w : World) (hv : Bs w v L) (h0 : 0 ≤ q) (h1 : q ≤ 2305843009213693952) (k b o m p : Int) (l : List Nat) (is : Bool)
    (hp : ∀ w, Bs w v L → Calls Tryz.prog 81 #[v] w (RParE w k b o l m p is)) (his : is = true) (hq : (p != q) = true) :
    Calls Tryz.prog 63 #[v, .int .i64 q] w (RTakeE w 0 0 0 [] 0 61) := by
  subst his
  have hr := RecAt.new w 0 0 0 (.slice none 0 0) 0
  have hv1 := hv.alloc (.cells #[.int .i64 0, .int .i64 0, .int .i64 0, .slice none 0 0, .int .i64 0] 52)
  obtain ⟨ao, cap, rfl, -, -, -, -⟩ := id hv
  go_enter Tryz.func63, Tryz.ntmps63
  go_wp2_with fail
  refine (hp _ hv1).mono ?_
  rintro e w1 ⟨vr, rfl, hbr, hoj, hb1⟩
  obtain ⟨rao, rcap, rfl, -, -, -, -⟩ := id hbr
  have hr0 := hr.mono hb1
  have hs1 := RecAt.new w1 k b o (.slice rao l.length rcap) m
  have hB1 : Below w.heap.size w w1 := ((Below.refl _ w).alloc (Nat.le_refl _) _).trans (hb1.mono (by simp))
  have hne : w.heap.size < w1.heap.size := by have := hb1.size; simp at this; omega
  obtain ⟨c0, c1, c2, c3, c4, f0, f1, f2, f3, f4, lp⟩ := id hr0
  clear hb1 hr hv1 hp hv
  go_wp2_with fail
  obtain ⟨k0, k1, k2, k3, k4, -, -, -, -, -, -⟩ := (hr0.setAll 0 0 0 (.slice none 0 0) 0).alloc (.cells #[.int .i64 k, .int .i64 b, .int .i64 o, .slice rao l.length rcap, .int .i64 m] 52)
  refine bodyPost_ret (v := .tuple #[.agg #[.int .i64 0, .int .i64 0, .int .i64 0, .slice none 0 0, .int .i64 0], .int .i64 61]) (by simp [results, Tryz.results63, go_sem, k0, k1, k2, k3, k4]) rfl ⟨_, rfl, Bs.nil _, (fun j hj => by cases hj), ?_⟩
  exact (((((hB1.setCell (Nat.le_refl _) _).setCell (Nat.le_refl _) _).setCell (Nat.le_refl _) _).setCell (Nat.le_refl _) _).setCell (Nat.le_refl _) _).alloc (by simpa using hB1.size) _

set_option maxRecDepth 100000 in
set_option maxHeartbeats 400000 in
theorem rtake_yes (v : Value) (L : List Nat) (q : Int) (w : World) (hv : Bs w v L) (h0 : 0 ≤ q) (h1 : q ≤ 2305843009213693952) (k b o m p : Int) (l : List Nat) (is : Bool)
    (hp : ∀ w, Bs w v L → Calls Tryz.prog 81 #[v] w (RParE w k b o l m p is)) (his : is = true) (hq : (p != q) = false) :
    Calls Tryz.prog 63 #[v, .int .i64 q] w (RTakeE w k b o l m 0) := by
  subst his
  have hr := RecAt.new w 0 0 0 (.slice none 0 0) 0
  have hv1 := hv.alloc (.cells #[.int .i64 0, .int .i64 0, .int .i64 0, .slice none 0 0, .int .i64 0] 52)
  obtain ⟨ao, cap, rfl, -, -, -, -⟩ := id hv
  go_enter Tryz.func63, Tryz.ntmps63
  go_wp2_with fail
  refine (hp _ hv1).mono ?_
  rintro e w1 ⟨vr, rfl, hbr, hoj, hb1⟩
  obtain ⟨rao, rcap, rfl, -, -, -, -⟩ := id hbr
  have hr0 := hr.mono hb1
  have hs1 := RecAt.new w1 k b o (.slice rao l.length rcap) m
  have hB1 : Below w.heap.size w w1 := ((Below.refl _ w).alloc (Nat.le_refl _) _).trans (hb1.mono (by simp))
  have hne : w.heap.size < w1.heap.size := by have := hb1.size; simp at this; omega
  obtain ⟨c0, c1, c2, c3, c4, f0, f1, f2, f3, f4, lp⟩ := id hr0
  clear hb1 hr hv1 hp hv
  have hDU := ((keeps_all w1 w.heap.size k b o (.slice rao l.length rcap) m).bs hbr (fun j hj e => by have h9 := hoj j hj; have e2 : j = w.heap.size := e; simp at h9; omega)).alloc (.cells #[.int .i64 k, .int .i64 b, .int .i64 o, .slice rao l.length rcap, .int .i64 m] 52)
  go_wp2_with fail
  obtain ⟨k0, k1, k2, k3, k4, -, -, -, -, -, -⟩ := (hr0.setAll k b o (.slice rao l.length rcap) m).alloc (.cells #[.int .i64 k, .int .i64 b, .int .i64 o, .slice rao l.length rcap, .int .i64 m] 52)
  refine bodyPost_ret (v := .tuple #[.agg #[.int .i64 k, .int .i64 b, .int .i64 o, .slice rao l.length rcap, .int .i64 m], .int .i64 0]) (by simp [results, Tryz.results63, go_sem, k0, k1, k2, k3, k4]) rfl ⟨_, rfl, hDU, (fun j hj => by have h9 := hoj j hj; simp at h9; omega), ?_⟩
  exact (((((hB1.setCell (Nat.le_refl _) _).setCell (Nat.le_refl _) _).setCell (Nat.le_refl _) _).setCell (Nat.le_refl _) _).setCell (Nat.le_refl _) _).alloc (by simpa using hB1.size) _


end Go.Proofs.YtjhbljkoapbkfaaGreat

namespace Go.Proofs.YtjhbljkoapbkfaaGreat
open Go.RowKit Go.Attic

theorem rparse_yes (v : Value) (L : List Nat) (p k b o m : Nat) (l : List Nat) (h : IsR L p k b o m l) (w : World) (hv : Bs w v L) : Calls Tryz.prog 81 #[v] w (RParE w k b o l m p true) := by
  have hl := h.len
  have r := okR_range h.1
  obtain ⟨e0, e1, e2, e3, e4, e5⟩ := h.fields
  have hp := h.2.1
  have hM : ∀ y ∈ secR p k b o m l, y < 256 := secR_lt _ _ _ _ _ _ (by omega) (by omega) (by omega) h.2.2.1
  by_cases h2 : k = 2
  · obtain ⟨rfl, rfl, hl0⟩ := okR_commit h.1 h2
    subst h2
    obtain rfl : l = [] := List.eq_nil_of_length_eq_zero hl0
    rw [show numR 2 0 m = m from rfl] at e3
    have := rparse_C_eq v L w hv hl (by omega) (by omega) (by omega) (secR p 2 0 0 m []) 0 (fun v' w hb => by
      rw [e0, e2, e3]
      exact rbytes_yes p 2 0 0 m v' [] w hb hp h.1) hM rfl h.2.2.2.symm
    rw [e0, e2, e3] at this
    exact this
  · obtain rfl : k = 1 := by omega
    obtain rfl := okR_patch h.1 rfl
    rw [show numR 1 b 0 = b from rfl] at e3
    have := rparse_P_eq v L w hv hl (by omega) (by omega) e0 (secR p 1 b o 0 l) 0 (fun v' w hb => by
      rw [e1, e5] at hb
      rw [e2, e3, e4]
      exact rbytes_yes p 1 b o 0 v' l w hb hp h.1) hM rfl h.2.2.2.symm
    rw [e1, e5, e2, e3, e4] at this
    exact this

theorem rparse_no (v : Value) (L : List Nat) (hlen : L.length ≤ 140737488355328) (h : NoR L) (hx : ∀ x ∈ L, x < 256) : ∃ (k b o m p : Int) (l : List Nat), ∀ w, Bs w v L → Calls Tryz.prog 81 #[v] w (RParE w k b o l m p false) := by
  have zero : ∀ w, (Calls Tryz.prog 81 #[v] w fun e w' => e = .returned (.tuple #[.agg #[.int .i64 0, .int .i64 0, .int .i64 0, .slice none 0 0, .int .i64 0], .int .i64 0, .bool false]) ∧ Below w.heap.size w w') → Calls Tryz.prog 81 #[v] w (RParE w 0 0 0 [] 0 0 false) := fun w hh =>
    hh.mono (fun e w' ⟨h1, h2⟩ => ⟨_, h1, Bs.nil _, (fun j hj => by cases hj), h2⟩)
  by_cases hl : L.length = 64
  · by_cases h1 : L.getD 1 0 ≤ 44
    · by_cases h2 : getN L 2 8 ≤ 2305843009213693952
      · by_cases h0 : L.getD 0 0 = 1
        · have hlx : ∀ x ∈ (L.drop 16).take (L.getD 1 0), x < 256 := fun x hx' => hx x (List.mem_of_mem_drop (List.mem_of_mem_take hx'))
          obtain ⟨M, er, hM, -, h10⟩ := bytes_both2 (getN L 2 8 : Nat) 1 (getN L 10 4 : Nat) (L.getD 14 0 : Nat) 0 ((L.drop 16).take (L.getD 1 0)) hlx (by rw [List.length_take]; omega)
          have hMx := hM.lt
          refine ⟨1, (getN L 10 4 : Nat), (L.getD 14 0 : Nat), 0, (getN L 2 8 : Nat), (L.drop 16).take (L.getD 1 0), fun w hv => ?_⟩
          rcases hM with ⟨he, p', k', b', o', m', -, -, -, -, -, hi⟩ | ⟨he, -⟩
          · exact rparse_P_ne v L w hv hl h1 h2 h0 M er h10 hMx he (fun e => h p' k' b' o' m' _ (e ▸ hi))
          · exact rparse_P_err v L w hv hl h1 h2 h0 M er h10 hMx (by simp; omega)
        · obtain ⟨M, er, hM, -, h10⟩ := bytes_both2 (getN L 2 8 : Nat) (L.getD 0 0 : Nat) 0 0 (getN L 10 4 : Nat) [] (by simp) (by simp)
          have hMx := hM.lt
          refine ⟨(L.getD 0 0 : Nat), 0, 0, (getN L 10 4 : Nat), (getN L 2 8 : Nat), [], fun w hv => ?_⟩
          rcases hM with ⟨he, p', k', b', o', m', -, -, -, -, -, hi⟩ | ⟨he, -⟩
          · exact rparse_C_ne v L w hv hl h1 h2 h0 M er h10 hMx he (fun e => h p' k' b' o' m' _ (e ▸ hi))
          · exact rparse_C_err v L w hv hl h1 h2 h0 M er h10 hMx (by simp; omega)
      · exact ⟨0, 0, 0, 0, 0, [], fun w hv => zero w (rparse_far v L w hv hl h1 (by omega))⟩
    · exact ⟨0, 0, 0, 0, 0, [], fun w hv => zero w (rparse_big v L w hv hl (by omega))⟩
  · exact ⟨0, 0, 0, 0, 0, [], fun w hv => zero w (rparse_short v L w hv hlen hl)⟩

theorem take_both2 (L : List Nat) (q : Int) (hx : ∀ x ∈ L, x < 256) (hlen : L.length ≤ 140737488355328) : ∃ (k b o m : Int) (l : List Nat) (er : Int), TakeR L q k b o m l er ∧
    (∀ v w, Bs w v L → Calls Tryz.prog 67 #[v, .int .i64 q] w (TakeE w k b o l m er)) ∧ (∀ v w, Bs w v L → Calls Tryz.prog 63 #[v, .int .i64 q] w (RTakeE w k b o l m er)) := by
  cases hp : placeB q with
  | false =>
    have hp2 : ¬ (0 ≤ q ∧ q ≤ 2305843009213693952) := by simpa [placeB] using hp
    refine ⟨0, 0, 0, 0, [], 1, .inr ⟨.inl rfl, rfl, fun p' k' b' o' m' l' hi e => ?_⟩, fun v w hv => take_arg v L q w hv hp, fun v w hv => ?_⟩
    · have := hi.2.1; omega
    · by_cases h0 : q < 0
      · exact rtake_neg v L q w hv h0
      · exact rtake_far v L q w hv (by omega) (by omega)
  | true =>
    have hp2 : 0 ≤ q ∧ q ≤ 2305843009213693952 := by simpa [placeB] using hp
    by_cases h : ∃ (p k b o m : Nat) (l : List Nat), IsR L p k b o m l
    · obtain ⟨p, k, b, o, m, l, h⟩ := h
      have r := okR_range h.1
      by_cases hq : (p : Int) = q
      · refine ⟨k, b, o, m, l, 0, .inl ⟨rfl, p, k, b, o, m, hq.symm, rfl, rfl, rfl, rfl, h⟩, fun v w hv => ?_, fun v w hv => ?_⟩
        · obtain ⟨vr, hvr, hc⟩ := parse_yes v L p k b o m l h
          exact take_yes v L q w hv hp p k b o m 0 l vr hvr hc (by omega) rfl (by simp [hq])
        · exact rtake_yes v L q w hv hp2.1 hp2.2 k b o m p l true (fun w hv => rparse_yes v L p k b o m l h w hv) rfl (by simp [hq])
      · refine ⟨0, 0, 0, 0, [], 61, .inr ⟨.inr rfl, rfl, fun p' k' b' o' m' l' hi e => ?_⟩, fun v w hv => ?_, fun v w hv => ?_⟩
        · have := (h.one hi).1; omega
        · obtain ⟨vr, hvr, hc⟩ := parse_yes v L p k b o m l h
          exact take_other v L q w hv hp p k b o m 0 l vr hvr hc rfl (by simpa using hq)
        · exact rtake_other v L q w hv hp2.1 hp2.2 k b o m p l true (fun w hv => rparse_yes v L p k b o m l h w hv) rfl (by simpa using hq)
    · have hno : NoR L := fun p k b o m l hh => h ⟨p, k, b, o, m, l, hh⟩
      refine ⟨0, 0, 0, 0, [], 61, .inr ⟨.inr rfl, rfl, fun p' k' b' o' m' l' hi => absurd hi (hno _ _ _ _ _ _)⟩, fun v w hv => ?_, fun v w hv => ?_⟩
      · exact take_stale v L q w hv hp 0 0 0 0 0 61 [] (.slice none 0 0) (fun w _ => Bs.nil w) (fun w hv => parse_no v L hlen hno w hv) (by decide)
      · obtain ⟨k, b, o, m, p, l, hc⟩ := rparse_no v L hlen hno hx
        exact rtake_not v L q w hv hp2.1 hp2.2 k b o m p l false hc rfl

/-- What Lsn answers of any bytes. -/
def LsnR (L : List Nat) (p er : Int) : Prop := (er = 0 ∧ ∃ (p' k' b' o' m' : Nat) (l' : List Nat), p = p' ∧ IsR L p' k' b' o' m' l') ∨ (er = 61 ∧ NoR L)


end Go.Proofs.YtjhbljkoapbkfaaGreat

namespace Go.Proofs.YtjhbljkoapbkfaaGreat
open Go.RowKit Go.Attic Go.Shelf

attribute [local go_sem] Oper.semAt_some

def tot (l : List (Nat × Nat)) : Nat := (l.map Prod.snd).sum
theorem tot_snoc (l : List (Nat × Nat)) (x : Nat × Nat) : tot (l ++ [x]) = tot l + x.2 := by simp [tot]

/-- The last of the runs that were told. -/
def RunLast (t c : Nat) (pre : List (Nat × Nat)) : Prop := ∃ a x, pre = a ++ [x] ∧ x.1 = t + tot a ∧ tot a < c ∧ x.2 = min (c - tot a) (4 - x.1 % 4)
theorem RunLast.of {t c : Nat} {pre : List (Nat × Nat)} {x : Nat × Nat} (h : RunLast t c (pre ++ [x])) : x.1 = t + tot pre ∧ tot pre < c ∧ x.2 = min (c - tot pre) (4 - x.1 % 4) := by
  obtain ⟨a, y, e, h⟩ := h
  have e1 := List.append_inj' e rfl
  obtain ⟨rfl, e2⟩ := e1
  injection e2 with e2
  subst e2
  exact h

set_option maxRecDepth 100000 in
set_option maxHeartbeats 400000 in
theorem runs_any (t c : Nat) (w : World) :
    Calls Tryz.prog 64 #[.int .i64 (t : Int), .int .i64 (c : Int)] w fun e w' => e = .returned (.func (.func 82) #[] #[.pointer (some ⟨w.heap.size + 1, 0, none⟩), .pointer (some ⟨w.heap.size, 0, none⟩)]) ∧ (w.alloc (.cells #[.int .i64 (t : Int)] 2)).alloc (.cells #[.int .i64 (c : Int)] 3) = w' := by
  go_enter Tryz.func64, Tryz.ntmps64
  go_wp2
  go_ret
  exact ⟨rfl, rfl⟩

set_option maxRecDepth 100000 in
set_option maxHeartbeats 1000000 in
theorem runs1_any (K : Nat → Prop) (t c Bt Bc : Nat) (w0 : World) (hBt : Boxed w0 Bt 2 (.int .i64 (t : Int))) (hBc : Boxed w0 Bc 3 (.int .i64 (c : Int))) (ht : t ≤ 1152921504606846976 + 4096) (hc : c ≤ 4096) (kt : K Bt) (kc : K Bc) :
    SeqP Tryz.prog 82 #[.pointer (some ⟨Bc, 0, none⟩), .pointer (some ⟨Bt, 0, none⟩)] (fun x : Nat × Nat => #[Value.int .i64 (x.1 : Int), .int .i64 (x.2 : Int)]) K 0 (fun xs => tot xs = c) (RunLast t c) w0 := by
  intro lp J Jx W hW hJ hJx hY h0
  have hBt1 : Boxed W Bt 2 (.int .i64 (t : Int)) := (hW.block Bt hBt.lt).trans hBt
  have hBc1 : Boxed W Bc 3 (.int .i64 (c : Int)) := (hW.block Bc hBc.lt).trans hBc
  clear hBt hBc
  refine (callsIn_wide (n := 3)).1 ?_
  refine callsIn_of_wp Tryz.func82 rfl trivial ?_ rfl
  simp only [Tryz.ntmps82, List.size_toArray, List.length_cons, List.length_nil, Nat.reduceAdd, Nat.reduceSub, Array.replicate_succ, Array.replicate_zero, List.push_toArray, List.append_toArray, List.nil_append, List.cons_append]
  gi_wp2
  gi_loopw [4] (fun i wr => ∃ (k : Nat) (pre : List (Nat × Nat)), tot pre = k ∧ k ≤ c ∧ i = .int .i64 (k : Int) ∧ J pre wr ∧ W.heap.size ≤ wr.heap.size ∧ Boxed wr Bt 2 (.int .i64 (t : Int)) ∧ Boxed wr Bc 3 (.int .i64 (c : Int))) (fun i _ => c - (intOf i).toNat)
  case atStart => exact ⟨0, [], rfl, Nat.zero_le _, rfl, h0, Nat.le_refl _, hBt1, hBc1⟩
  case round =>
    obtain ⟨k, pre, htot, hk, rfl, hJk, hsz, hbt, hbc⟩ := hrel
    clear h0 hBt1 hBc1
    have hct := hbt.cell
    have hcc := hbc.cell
    by_cases hkc : k < c
    · obtain ⟨q, hq⟩ : ∃ q, min (c - k) (4 - (t + k) % 4) = q := ⟨_, rfl⟩
      have hq1 : 1 ≤ q := by omega
      have hq2 : k + q ≤ c := by omega
      obtain ⟨fn, tmps, assign, body, hy, hR⟩ := hY pre (t + k, q) wr ⟨pre, _, rfl, by simp [htot], by omega, by simp only [htot]; omega⟩ hJk (by omega)
      have e1 : ((t + k : Nat) : Int) = (t : Int) + (k : Int) := by omega
      rw [e1] at hy
      by_cases hm : 4 - ((t : Int) + (k : Int)) % 4 < (c : Int) - (k : Int)
      · have e2 : ((q : Nat) : Int) = 4 - ((t : Int) + (k : Int)) % 4 := by omega
        rw [e2] at hy
        have Hbt := hide hbt
        have Hbc := hide hbc
        have Htot := hide htot
        have He2 := hide e2
        clear hbt hbc hJk hY hq htot e1 e2
        gi_wp2
        refine (roundIn_any hR).mono ?_
        rintro e W3 ⟨hst, ⟨rfl, hJ3, hk3⟩ | ⟨rfl, hJx3⟩⟩
        · gi_wp2
          go_roundw
          case rel => exact ⟨k + q, _, by rw [tot_snoc, Htot.out], by omega, by have := He2.out; go_num, hJ3, Nat.le_trans hsz hk3.size, hk3.boxed Hbt.out kt, hk3.boxed Hbc.out kc⟩
          case measure => have := He2.out; simp [intOf]; omega
        · gi_wp2
          refine bodyPost_ret (results_none rfl _ _ _) rfl ?_
          exact ⟨⟨_, rfl⟩, .inr ⟨_, ⟨pre, _, rfl, by simp [Htot.out], by rw [Htot.out]; omega, by simp only [Htot.out]; have := He2.out; omega⟩, hJx3⟩⟩
      · have e2 : ((q : Nat) : Int) = (c : Int) - (k : Int) := by omega
        rw [e2] at hy
        have Hbt := hide hbt
        have Hbc := hide hbc
        have Htot := hide htot
        have He2 := hide e2
        clear hbt hbc hJk hY hq htot e1 e2
        gi_wp2
        refine (roundIn_any hR).mono ?_
        rintro e W3 ⟨hst, ⟨rfl, hJ3, hk3⟩ | ⟨rfl, hJx3⟩⟩
        · gi_wp2
          go_roundw
          case rel => exact ⟨k + q, _, by rw [tot_snoc, Htot.out], by omega, by have := He2.out; go_num, hJ3, Nat.le_trans hsz hk3.size, hk3.boxed Hbt.out kt, hk3.boxed Hbc.out kc⟩
          case measure => have := He2.out; simp [intOf]; omega
        · gi_wp2
          refine bodyPost_ret (results_none rfl _ _ _) rfl ?_
          exact ⟨⟨_, rfl⟩, .inr ⟨_, ⟨pre, _, rfl, by simp [Htot.out], by rw [Htot.out]; omega, by simp only [Htot.out]; have := He2.out; omega⟩, hJx3⟩⟩
    · obtain rfl : k = c := by omega
      gi_wp2
      go_end0
      exact ⟨⟨_, rfl⟩, .inl ⟨_, htot, hJk⟩⟩


end Go.Proofs.YtjhbljkoapbkfaaGreat
