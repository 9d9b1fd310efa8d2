/- A ring in memory; contracts of its small functions: isMade, isSize, isHead, lap, block, sector, Head, Tail, Room, Lap. -/
import Derived.Test.YtjhbljkoapbkfaaL1
set_option linter.unusedSimpArgs false
set_option linter.unusedVariables false
namespace Go.Proofs.Ytjhbljkoapbkfaa
open Go.RowKit Go.Attic Go.Shelf

/-- A ring stands in block r, over the disk in block g; what it reads lies in F. -/
structure Rk (w : World) (r g base blocks head : Nat) (F : Nat → Prop) (rs : List Rc) : Prop where
  c0 : w.cell? ⟨r, 0, none⟩ = some (.pointer (some ⟨g, 0, none⟩))
  c1 : w.cell? ⟨r, 1, none⟩ = some (.int .i64 (base : Int))
  c2 : w.cell? ⟨r, 2, none⟩ = some (.int .i64 (blocks : Int))
  c3 : w.cell? ⟨r, 3, none⟩ = some (.int .i64 (head : Int))
  c4 : ∃ p v vs, w.cell? ⟨r, 4, none⟩ = some v ∧ Rw w p F v rs vs
  f3 : w.frozen? ⟨r, 3, none⟩ = false
  f4 : w.frozen? ⟨r, 4, none⟩ = false
  Fr : ¬ F r
  Fl : ∀ k, F k → k < w.heap.size
  b1 : 1 ≤ blocks
  b2 : blocks ≤ 256
  b3 : base ≤ 2048
  hd : head ≤ 1152921504606846976
  ln : rs.length ≤ 4 * blocks
  ok : ∀ x ∈ rs, okRc x

theorem Rk.rl {w : World} {r g base blocks head : Nat} {F : Nat → Prop} {rs : List Rc} (h : Rk w r g base blocks head F rs) : r < w.heap.size := by
  have := World.block_lt_of_cell? w _ h.c0; simpa using this
theorem Rk.keeps {w w' : World} {r g base blocks head : Nat} {F S : Nat → Prop} {rs : List Rc} (h : Rk w r g base blocks head F rs) (hk : Keeps S w w') (hr : ¬ S r) (hS : ∀ k, F k → ¬ S k) : Rk w' r g base blocks head F rs := by
  obtain ⟨p, v, vs, a1, a2⟩ := h.c4
  have hl := h.rl
  exact ⟨hk.cell h.c0 hr, hk.cell h.c1 hr, hk.cell h.c2 hr, hk.cell h.c3 hr, ⟨p, v, vs, hk.cell a1 hr, a2.keeps hk hS⟩, by rw [hk.frozen (a := ⟨r, 3, none⟩) hl hr]; exact h.f3, by rw [hk.frozen (a := ⟨r, 4, none⟩) hl hr]; exact h.f4,
    h.Fr, fun k hk' => Nat.lt_of_lt_of_le (h.Fl k hk') hk.size, h.b1, h.b2, h.b3, h.hd, h.ln, h.ok⟩
theorem Rk.mono {w w' : World} {r g base blocks head : Nat} {F : Nat → Prop} {rs : List Rc} (h : Rk w r g base blocks head F rs) (hb : Below w.heap.size w w') : Rk w' r g base blocks head F rs :=
  h.keeps (S := fun _ => False) (Keeps.of_below hb) id (fun _ _ => id)

set_option maxRecDepth 100000 in
set_option maxHeartbeats 400000 in
theorem gMade_yes {w : World} {r g base blocks head : Nat} {F : Nat → Prop} {rs : List Rc} (h : Rk w r g base blocks head F rs) :
    Calls Try.prog 30 #[.pointer (some ⟨r, 0, none⟩)] w fun e w' => e = .returned (.bool true) ∧ w = w' := by
  have c0 := h.c0
  clear h
  go_enter Try.func30, Try.ntmps30
  go_wp2
  go_ret
  exact ⟨by simp, rfl⟩

set_option maxHeartbeats 400000 in
theorem gSize_any (n : Int) (w : World) : Calls Try.prog 26 #[.int .i64 n] w fun e w' => e = .returned (.bool (decide (1 ≤ n ∧ n ≤ 256))) ∧ w = w' := by
  by_cases h1 : 1 ≤ n
  · by_cases h2 : n ≤ 256
    · have h3 : decide (1 ≤ n ∧ n ≤ 256) = true := by simp [h1, h2]
      rw [h3]; clear h3
      go_enter Try.func26, Try.ntmps26
      go_wp2
      go_ret
      exact ⟨by simp, rfl⟩
    · have h3 : decide (1 ≤ n ∧ n ≤ 256) = false := by simp; omega
      rw [h3]; clear h3
      go_enter Try.func26, Try.ntmps26
      go_wp2
      go_ret
      exact ⟨by simp, rfl⟩
  · have h3 : decide (1 ≤ n ∧ n ≤ 256) = false := by simp; omega
    rw [h3]; clear h3
    go_enter Try.func26, Try.ntmps26
    go_wp2
    go_ret
    exact ⟨by simp, rfl⟩

set_option maxHeartbeats 400000 in
theorem gHead_any (n : Int) (w : World) : Calls Try.prog 27 #[.int .i64 n] w fun e w' => e = .returned (.bool (decide (0 ≤ n ∧ n ≤ 1152921504606846976))) ∧ w = w' := by
  by_cases h1 : 0 ≤ n
  · by_cases h2 : n ≤ 1152921504606846976
    · have h3 : decide (0 ≤ n ∧ n ≤ 1152921504606846976) = true := by simp [h1, h2]
      rw [h3]; clear h3
      go_enter Try.func27, Try.ntmps27
      go_wp2
      go_ret
      exact ⟨by simp, rfl⟩
    · have h3 : decide (0 ≤ n ∧ n ≤ 1152921504606846976) = false := by simp; omega
      rw [h3]; clear h3
      go_enter Try.func27, Try.ntmps27
      go_wp2
      go_ret
      exact ⟨by simp, rfl⟩
  · have h3 : decide (0 ≤ n ∧ n ≤ 1152921504606846976) = false := by simp; omega
    rw [h3]; clear h3
    go_enter Try.func27, Try.ntmps27
    go_wp2
    go_ret
    exact ⟨by simp, rfl⟩

set_option maxHeartbeats 400000 in
theorem gLap_any (n : Nat) (w : World) (h : n ≤ 256) : Calls Try.prog 38 #[.int .i64 (n : Int)] w fun e w' => e = .returned (.int .i64 ((4 * n : Nat) : Int)) ∧ w = w' := by
  go_enter Try.func38, Try.ntmps38
  go_wp2
  go_ret
  exact ⟨ret_int (by omega), rfl⟩

set_option maxRecDepth 100000 in
set_option maxHeartbeats 400000 in
theorem gBlock_any (g base blocks n : Nat) (w : World) (h1 : 1 ≤ blocks) (h2 : blocks ≤ 256) (h3 : base ≤ 2048) (hn : n ≤ 2305843009213693952) :
    Calls Try.prog 43 #[.agg #[.pointer (some ⟨g, 0, none⟩), .int .i64 (base : Int), .int .i64 (blocks : Int)], .int .i64 (n : Int)] w fun e w' => e = .returned (.int .i64 ((base + n / 4 % blocks : Nat) : Int)) ∧ Below w.heap.size w w' := by
  have hm : n / 4 % blocks < blocks := Nat.mod_lt _ (by omega)
  have hw : IntKind.i64.wrap ((n : Int) / 4) = ((n / 4 : Nat) : Int) := by rw [show ((n : Int) / 4) = ((n / 4 : Nat) : Int) by omega]; exact wrap_small (by omega)
  have hq : n / 4 ≤ 2305843009213693952 := by omega
  generalize n / 4 = q at *
  have hb0 : ((blocks : Int) == 0) = false := by simp; omega
  have hne : ¬ (blocks : Int) = 0 := by omega
  go_enter Try.func43, Try.ntmps43
  go_wp2_with fail
  go_quiet (fail)
  go_wp2_with fail
  go_ret
  exact ⟨ret_int (by simp), below_drewN ((Below.refl _ _).alloc (Nat.le_refl _) _) _⟩

set_option maxRecDepth 100000 in
set_option maxHeartbeats 400000 in
theorem gSector_any (m off cap n : Nat) (w : World) (hc : 256 ≤ cap) (hn : n ≤ 2305843009213693952) :
    Calls Try.prog 45 #[.slice (some ⟨m, off, none⟩) 256 cap, .int .i64 (n : Int)] w fun e w' => e = .returned (.slice (some ⟨m, off + n % 4 * 64, none⟩) 64 (cap - n % 4 * 64)) ∧ w = w' := by
  have hm : n % 4 < 4 := Nat.mod_lt _ (by omega)
  go_enter Try.func45, Try.ntmps45
  go_wp2
  go_ret
  exact ⟨rfl, rfl⟩

set_option maxRecDepth 100000 in
set_option maxHeartbeats 400000 in
theorem head_yes {w : World} {r g base blocks head : Nat} {F : Nat → Prop} {rs : List Rc} (h : Rk w r g base blocks head F rs) :
    Calls Try.prog 17 #[.pointer (some ⟨r, 0, none⟩)] w fun e w' => e = .returned (.int .i64 (head : Int)) ∧ w = w' := by
  have c3 := h.c3
  go_enter Try.func17, Try.ntmps17
  go_wp2_with fail
  refine (gMade_yes h).mono ?_
  rintro e w' ⟨rfl, rfl⟩
  go_wp2
  go_ret
  exact ⟨by simp, rfl⟩

set_option maxRecDepth 100000 in
set_option maxHeartbeats 400000 in
theorem tail_yes {w : World} {r g base blocks head : Nat} {F : Nat → Prop} {rs : List Rc} (h : Rk w r g base blocks head F rs) :
    Calls Try.prog 15 #[.pointer (some ⟨r, 0, none⟩)] w fun e w' => e = .returned (.int .i64 ((head + rs.length : Nat) : Int)) ∧ ∃ n, w.drewN n = w' := by
  have c3 := h.c3
  obtain ⟨p, v, vs, c4, hw⟩ := h.c4
  obtain ⟨ao, cap, rfl, _⟩ := owns_form hw.row
  have hl := h.ln
  have hb2 := h.b2
  have hhd := h.hd
  have hm := gMade_yes h
  clear h hw
  go_enter Try.func15, Try.ntmps15
  go_wp2_with fail
  refine hm.mono ?_
  rintro e w' ⟨rfl, rfl⟩
  go_wp2_with fail
  go_quiet (fail)
  go_wp2_with fail
  go_ret
  exact ⟨ret_int (by omega), _, rfl⟩

set_option maxRecDepth 100000 in
set_option maxHeartbeats 400000 in
theorem room_yes {w : World} {r g base blocks head : Nat} {F : Nat → Prop} {rs : List Rc} (h : Rk w r g base blocks head F rs) :
    Calls Try.prog 20 #[.pointer (some ⟨r, 0, none⟩)] w fun e w' => e = .returned (.int .i64 ((4 * blocks - rs.length : Nat) : Int)) ∧ ∃ n, w.drewN n = w' := by
  have c2 := h.c2
  obtain ⟨p, v, vs, c4, hw⟩ := h.c4
  obtain ⟨ao, cap, rfl, _⟩ := owns_form hw.row
  have hl := h.ln
  have hb2 := h.b2
  have hm := gMade_yes h
  clear h hw
  go_enter Try.func20, Try.ntmps20
  go_wp2_with fail
  refine hm.mono ?_
  rintro e w' ⟨rfl, rfl⟩
  have hL : ∀ n, Calls Try.prog 38 #[.int .i64 (blocks : Int)] (w.drewN n) fun e w' => e = .returned (.int .i64 ((4 * blocks : Nat) : Int)) ∧ w' = w.drewN n := fun n => (gLap_any blocks _ (by omega)).mono (fun e w' h => ⟨h.1, h.2.symm⟩)
  go_wp2_with fail
  go_quiet (first | (go_at_call 38; refine Calls.quiet_of_same (hL _)))
  go_wp2_with fail
  go_ret
  exact ⟨ret_int (by omega), _, rfl⟩

/-- Where the next lap begins. -/
def lapS (t b : Int) : Int := if 1 ≤ b ∧ b ≤ 256 ∧ 0 ≤ t ∧ t ≤ 1152921504606846976 then t + 4 * b else 0

set_option maxRecDepth 100000 in
set_option maxHeartbeats 400000 in
theorem lap_any (t b : Int) (w : World) : Calls Try.prog 16 #[.int .i64 t, .int .i64 b] w fun e w' => e = .returned (.int .i64 (lapS t b)) ∧ w = w' := by
  have h1 := gSize_any b
  have h2 := gHead_any t
  by_cases hb : 1 ≤ b ∧ b ≤ 256
  · by_cases ht : 0 ≤ t ∧ t ≤ 1152921504606846976
    · have e : lapS t b = t + 4 * b := if_pos ⟨hb.1, hb.2, ht.1, ht.2⟩
      rw [e]; clear e
      simp only [decide_eq_true hb] at h1
      simp only [decide_eq_true ht] at h2
      obtain ⟨b', rfl⟩ := Int.eq_ofNat_of_zero_le (show 0 ≤ b by omega)
      have h3 := fun w => gLap_any b' w (by omega)
      go_enter Try.func16, Try.ntmps16
      go_wp2_with fail
      refine (h1 _).mono ?_
      rintro e w' ⟨rfl, rfl⟩
      go_wp2_with fail
      refine (h2 _).mono ?_
      rintro e w' ⟨rfl, rfl⟩
      go_wp2_with fail
      refine (h3 _).mono ?_
      rintro e w' ⟨rfl, rfl⟩
      go_wp2_with fail
      go_ret
      exact ⟨ret_int (by omega), rfl⟩
    · have e : lapS t b = 0 := if_neg (fun h => ht ⟨h.2.2.1, h.2.2.2⟩)
      rw [e]; clear e
      simp only [decide_eq_true hb] at h1
      simp only [decide_eq_false ht] at h2
      go_enter Try.func16, Try.ntmps16
      go_wp2_with fail
      refine (h1 _).mono ?_
      rintro e w' ⟨rfl, rfl⟩
      go_wp2_with fail
      refine (h2 _).mono ?_
      rintro e w' ⟨rfl, rfl⟩
      go_wp2_with fail
      go_ret
      exact ⟨rfl, rfl⟩
  · have e : lapS t b = 0 := if_neg (fun h => hb ⟨h.1, h.2.1⟩)
    rw [e]; clear e
    simp only [decide_eq_false hb] at h1
    go_enter Try.func16, Try.ntmps16
    go_wp2_with fail
    refine (h1 _).mono ?_
    rintro e w' ⟨rfl, rfl⟩
    go_wp2_with fail
    go_ret
    exact ⟨rfl, rfl⟩

end Go.Proofs.Ytjhbljkoapbkfaa
