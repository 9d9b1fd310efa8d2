/- Contracts: Bytes of a record. -/
import Derived.Test.YtjhbljkoapbkfaaR6
import Derived.Test.YtjhbljkoapbkfaaR2
set_option linter.unusedSimpArgs false
set_option linter.unusedVariables false
namespace Go.Proofs.Ytjhbljkoapbkfaa
open Go.RowKit Go.Attic

set_option maxRecDepth 100000 in
set_option maxHeartbeats 400000 in
theorem bytes_arg (p k b o m : Int) (v : Value) (l : List Nat) (w : World) (hv : Bs w v l) (h : placeB p = false) :
    Calls Try.prog 50 #[.int .i64 p, .agg #[.int .i64 k, .int .i64 b, .int .i64 o, v, .int .i64 m]] w (NewBsE w [] 1) := by
  obtain ⟨ao, cap, rfl, -⟩ := id hv
  go_enter Try.func50, Try.ntmps50
  go_wp2_with (go_at_call 60; refine (isPlace_any p _).mono ?_; rintro e w1 ⟨rfl, rfl⟩)
  go_ret2
  exact ⟨_, rfl, World.ownsRow_nil _ _ _ _, (Below.refl _ w).alloc (Nat.le_refl _) _⟩

set_option maxRecDepth 100000 in
set_option maxHeartbeats 400000 in
theorem bytes_rec (p k b o m : Int) (v : Value) (l : List Nat) (w : World) (hv : Bs w v l) (hlen : l.length ≤ 140737488355328) (h : placeB p = true) (h2 : chkR k b o m l.length ≠ 0) :
    Calls Try.prog 50 #[.int .i64 p, .agg #[.int .i64 k, .int .i64 b, .int .i64 o, v, .int .i64 m]] w (NewBsE w [] (chkR k b o m l.length)) := by
  obtain ⟨ao, cap, rfl, -⟩ := id hv
  have hc := fun w => check_any k b o m l.length cap ao w hlen
  generalize chkR k b o m l.length = q at *
  have hq : (q != 0) = true := by simp [h2]
  clear h2
  go_enter Try.func50, Try.ntmps50
  go_wp2_with (first | (go_at_call 60; refine (isPlace_any p _).mono ?_; rintro e w1 ⟨rfl, rfl⟩) | (go_at_call 31; refine (hc _).mono ?_; rintro e w1 ⟨rfl, hb1⟩))
  go_ret2
  exact ⟨_, rfl, World.ownsRow_nil _ _ _ _, ((Below.refl _ w).alloc (Nat.le_refl _) _).trans (hb1.mono (by simp))⟩

set_option maxRecDepth 100000 in
set_option maxHeartbeats 400000 in
theorem bytes_of (p k b o m : Int) (v : Value) (l : List Nat) (w : World) (hv : Bs w v l) (hlen : l.length ≤ 140737488355328) (h : placeB p = true) (h2 : chkR k b o m l.length = 0) (B : List Nat) (hB : B.length = 60) (hBx : ∀ y ∈ B, y < 256)
    (hsum : ∀ w, Bs w v l → Calls Try.prog 63 #[.int .i64 p, .agg #[.int .i64 k, .int .i64 b, .int .i64 o, v, .int .i64 m]] w (NewBs w B)) :
    Calls Try.prog 50 #[.int .i64 p, .agg #[.int .i64 k, .int .i64 b, .int .i64 o, v, .int .i64 m]] w (NewBsE w (sealN B) 0) := by
  obtain ⟨ao, cap, rfl, -⟩ := id hv
  have hc := fun w => check_any k b o m l.length cap ao w hlen
  rw [h2] at hc
  clear h2
  have hR0 := RecAt.new w k b o (.slice ao l.length cap) m
  have hv0 := hv.alloc (.cells #[.int .i64 k, .int .i64 b, .int .i64 o, .slice ao l.length cap, .int .i64 m] 62)
  have HB := hide hB
  clear hB
  go_enter Try.func50, Try.ntmps50
  go_wp2_with (first | (go_at_call 60; refine (isPlace_any p _).mono ?_; rintro e w1 ⟨rfl, rfl⟩) | (go_at_call 31; refine (hc _).mono ?_; rintro e w1 ⟨rfl, hb1⟩; have B1 : Below w.heap.size w w1 := ((Below.refl _ w).alloc (Nat.le_refl _) _).trans (hb1.mono (by simp)); obtain ⟨c0, c1, c2, c3, c4, -, -, -, -, -, -⟩ := hR0.mono hb1; have hv1 := hv0.mono hb1; clear hb1 hR0 hv0))
  clear c0 c1 c2 c3 c4
  refine (hsum _ hv1).mono ?_
  rintro e w3 ⟨v3, rfl, ho3, hb3⟩
  have hbs3 := Bs.of_owns ho3 hBx
  obtain ⟨ao3, cap3, rfl, -, -⟩ := owns_form ho3
  have B3 := B1.trans (hb3.mono B1.size)
  clear ho3 hb3 B1
  go_wp2_with fail
  refine (seal_any _ B _ hbs3 (by rw [HB.out]; omega)).mono ?_
  rintro e w4 ⟨v4, rfl, ho4, hb4⟩
  have B4 := B3.trans (hb4.mono B3.size)
  have O := hide (owns_base ho4 B3.size)
  clear ho4 hb4 hbs3
  go_wp2_with fail
  go_ret2
  exact ⟨_, rfl, O.out, B4⟩

theorem bytes_yes (p k b o m : Nat) (v : Value) (l : List Nat) (w : World) (hv : Bs w v l) (hp : p ≤ 2305843009213693952) (h : okR k b o m l.length) :
    Calls Try.prog 50 #[.int .i64 (p : Nat), .agg #[.int .i64 (k : Nat), .int .i64 (b : Nat), .int .i64 (o : Nat), v, .int .i64 (m : Nat)]] w (NewBsE w (secR p k b o m l) 0) := by
  have r := okR_range h
  have hx := hv.lt
  refine bytes_of p k b o m v l w hv (by omega) (by simp [placeB]; omega) (chkR_ok h) (bodyR p k (numR k b m) o l) (bodyR_length _ _ _ _ _ (by omega)) (bodyR_lt _ _ _ _ _ (by omega) (by omega) (by omega) hx) (fun w hv => ?_)
  rcases h with h | h
  · obtain ⟨h1, h2, h3, h4, h5, h6, h7, h8⟩ := h
    obtain rfl : k = 1 := by omega
    obtain rfl : m = 0 := by omega
    exact summed_P p b o l v w hv hp (by omega) (by omega) h4 h5
  · obtain ⟨h1, h2, h3, h4, h5, h6⟩ := h
    obtain rfl : k = 2 := by omega
    obtain rfl : b = 0 := by omega
    obtain rfl : o = 0 := by omega
    obtain rfl : l = [] := List.eq_nil_of_length_eq_zero h6
    exact summed_C p m v w hv hp (by omega)


end Go.Proofs.Ytjhbljkoapbkfaa
