/- Contracts: New, Of. -/
import Derived.Test.YtjcmmigbkhiplaaD7
set_option linter.unusedSimpArgs false
set_option linter.unusedVariables false
namespace Go.Proofs.Ytjcmmigbkhiplaa
open Go.RowKit Go.Attic

/-- A disk with a medium. -/
def ofS (l : List Nat) : St := { med := l, pend := [], left := 0, picks := [], ops := 0, on := true }

/-- A disk of noughts. -/
def newS (n : Nat) : St := ofS (List.replicate (n * 256) 0)

theorem ofS_ok {l : List Nat} {n : Nat} (hl : l.length = 256 * n) (h1 : 1 ≤ n) (h2 : n ≤ 2048) (hx : ∀ x ∈ l, x < 256) : (ofS l).Ok n := ⟨hl, h1, h2, hx, by simp [ofS], by simp [ofS], by simp [ofS]⟩

theorem Dk.made {w : World} {m n cap : Nat} {l : List Nat} (ho : w.ownsRow 0 5 1 (.slice (some ⟨m, 0, none⟩) l.length cap) l.length (cellsB l)) (hok : (ofS l).Ok n) :
    Dk (w.alloc (.cells #[.slice (some ⟨m, 0, none⟩) l.length cap, .slice none 0 0, .int .i64 0, .slice none 0 0, .int .i64 0, .bool true] 68)) w.heap.size m none (fun _ => False) n (ofS l) := by
  have hml := owns_lt' ho m rfl
  refine ⟨⟨cap, by simp [ofS], ho.alloc _⟩, ⟨.slice none 0 0, [], by simp, ⟨World.ownsRow_nil _ _ _ _, rfl, rfl, by simp, by simp [ofS]⟩⟩, by simp [ofS], ⟨.slice none 0 0, by simp, Bs.nil _, by simp [Value.ownBlock]⟩, by simp [ofS], by simp [ofS], by simp, by simp, by simp, by simp, by simp, by simp, by omega, id, id, fun _ h => h.elim, hok⟩

/-- What a call that makes a disk leaves. -/
def NewDk (w : World) (n : Nat) (s : St) (e : Ending) (w' : World) : Prop :=
  ∃ g m, e = .returned (.tuple #[.pointer (some ⟨g, 0, none⟩), .int .i64 0]) ∧ Dk w' g m none (fun _ => False) n s ∧ Below w.heap.size w w' ∧ w.heap.size ≤ g ∧ w.heap.size ≤ m

set_option maxRecDepth 100000 in
set_option maxHeartbeats 400000 in
theorem new_yes (n : Nat) (w : World) (h1 : 1 ≤ n) (h2 : n ≤ 2048) : Calls Try.prog 7 #[.int .i64 (n : Int)] w (NewDk w n (newS n)) := by
  obtain ⟨i0, hi, hz0, hz1, hz2⟩ := info_parts Try.info5
  have hs := isSize_any (n : Int) w
  rw [show decide (1 ≤ (n : Int) ∧ (n : Int) ≤ 2048) = true by simp; omega] at hs
  go_enter Try.func7, Try.ntmps7
  go_wp2_with fail
  refine hs.mono ?_
  rintro e w' ⟨rfl, rfl⟩
  go_wp2_with (at_make; refine wpList_make_full _ rfl (.tmp 8) (.tmp 8) 37 rfl 0 5 i0 (.int .u8 0) 1 Try.underlying37 hi hz0 hz1 .i64 .i64 _ _ (n * 256) rfl rfl (by simp) (by simp) (by rw [hz2]; omega) (by unfold maxLen; omega) (Nat.zero_le _) ?_; intro w1 hown hgrow)
  have hb1 : Below w.heap.size w w1 := (Below.refl _ _).grown hgrow (Nat.le_refl _) (by intro k hk; cases hk)
  rw [made_zeros] at hown
  have hl : (List.replicate (n * 256) 0).length = n * 256 := List.length_replicate
  have hD := Dk.made (l := List.replicate (n * 256) 0) (n := n) (w := w1) (m := w.heap.size) (cap := n * 256) (by rw [hl]; exact hown) (ofS_ok (by rw [hl]; omega) h1 h2 (fun x hx => by rw [List.eq_of_mem_replicate hx]; omega))
  rw [hl] at hD
  have HD := hide hD
  clear hD hl hown
  go_ret2
  have hz := hb1.size
  exact ⟨_, _, rfl, HD.out, hb1.alloc hz _, hz, Nat.le_refl _⟩

set_option maxRecDepth 100000 in
set_option maxHeartbeats 400000 in
theorem new_no (n : Int) (w : World) (h : ¬ (1 ≤ n ∧ n ≤ 2048)) : Calls Try.prog 7 #[.int .i64 n] w fun e w' => e = .returned (.tuple #[.pointer none, .int .i64 1]) ∧ w = w' := by
  have hs := isSize_any n w
  rw [show decide (1 ≤ n ∧ n ≤ 2048) = false by simp; omega] at hs
  clear h
  go_enter Try.func7, Try.ntmps7
  go_wp2_with fail
  refine hs.mono ?_
  rintro e w' ⟨rfl, rfl⟩
  go_wp2
  go_ret2
  exact ⟨by simp, rfl⟩


end Go.Proofs.Ytjcmmigbkhiplaa
