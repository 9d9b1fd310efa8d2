/- Contracts: begun (the chapter's example holds) and few. -/
import Derived.Test.YtkdajahcadjpfaaC5
import Derived.Lib.SlBytesConst
set_option linter.unusedSimpArgs false
set_option linter.unusedVariables false
namespace Go.Proofs.Ytkdajahcadjpfaa
open Go.RowKit Go.Attic

/-- A slice that is laid as it is written. -/
theorem Bs.lit (w : World) (e : TypeId) (l : List Nat) (cs : Array Value) (hcs : cs.toList = cellsB l) (hx : ∀ x ∈ l, x < 256) (m : Nat × Nat := (0, 0)) :
    Bs (w.alloc (.cells cs e m)) (.slice (some ⟨w.heap.size, 0, none⟩) l.length l.length) l := by
  refine ⟨_, _, rfl, Nat.le_refl _, by simp, hx, fun _ => ⟨w.heap.size, 0, rfl, fun i hi => ?_⟩⟩
  have h2 : cs[i]? = some (.int .u8 ((l.getD i 0 : Nat) : Int)) := by
    rw [← Array.getElem?_toList, hcs]
    simp [cellsB, List.getD, hi]
  rw [Nat.zero_add]
  simp only [World.cell?, World.alloc, Array.getElem?_push, if_true]
  exact h2

theorem begunL : spanI 10 3 9 = [248, 1] := by decide +kernel
theorem begunE : spanE 10 3 9 = 0 := by decide +kernel
theorem begunN : nextI [248, 1] 10 4 false = 9 := by decide +kernel
theorem begunC : countL [248, 1] = 6 := by decide +kernel
theorem begunG : getI [248, 1] 8 = true := by decide +kernel

set_option maxRecDepth 100000 in
set_option maxHeartbeats 400000 in
theorem begun_any (w : World) : Calls Try.prog 10 #[] w fun e w' => e = .returned (.bool true) ∧ Below w.heap.size w w' := by
  go_enter Try.func10, Try.ntmps10
  go_wp2_with fail
  have h1 := span_any 10 3 9 w
  rw [begunL, begunE] at h1
  refine h1.mono ?_
  rintro e w1 ⟨v1, rfl, hown1, hb1⟩
  have hbs1 := Bs.of_owns hown1 (by simp)
  clear hown1 h1
  go_wp2_with fail
  refine (equal_any _ _ [248, 1] [248, 1] _ (hbs1.alloc _) (Bs.lit w1 5 [248, 1] _ rfl (by simp))).mono ?_
  rintro e w2 ⟨rfl, rfl⟩
  go_wp2_with fail
  have h2 := next_any v1 [248, 1] 10 4 false _ (hbs1.alloc (.cells #[.int .u8 248, .int .u8 1] 5)) (by simp)
  rw [begunN] at h2
  refine h2.mono ?_
  rintro e w2 ⟨rfl, rfl⟩
  clear h2
  go_wp2_with fail
  have h2 := count_any v1 [248, 1] _ (hbs1.alloc (.cells #[.int .u8 248, .int .u8 1] 5)) (by simp)
  rw [begunC] at h2
  refine h2.mono ?_
  rintro e w2 ⟨rfl, rfl⟩
  clear h2
  go_wp2_with fail
  have h2 := get_any v1 [248, 1] 8 _ (hbs1.alloc (.cells #[.int .u8 248, .int .u8 1] 5)) (by simp)
  rw [begunG] at h2
  refine h2.mono ?_
  rintro e w2 ⟨rfl, rfl⟩
  clear h2
  go_wp2
  go_ret
  exact ⟨rfl, hb1.alloc hb1.size _⟩

/-- A slice of slices of bytes. -/
def Bss (w : World) (v : Value) (ls : List (List Nat)) : Prop :=
  ∃ b off cap, v = .slice (some ⟨b, off, none⟩) ls.length cap ∧ ∀ i, i < ls.length → ∃ u, w.cell? ⟨b, off + i, none⟩ = some u ∧ Bs w u (ls.getD i [])

theorem Bss.one {w : World} {v1 : Value} {l1 : List Nat} (e : TypeId) (h1 : Bs w v1 l1) : Bss (w.alloc (.cells #[v1] e)) (.slice (some ⟨w.heap.size, 0, none⟩) 1 1) [l1] := by
  refine ⟨w.heap.size, 0, 1, rfl, fun i hi => ?_⟩
  match i, hi with
  | 0, _ => exact ⟨v1, by simp, h1.alloc _⟩
theorem Bss.two {w : World} {v1 v2 : Value} {l1 l2 : List Nat} (e : TypeId) (h1 : Bs w v1 l1) (h2 : Bs w v2 l2) : Bss (w.alloc (.cells #[v1, v2] e)) (.slice (some ⟨w.heap.size, 0, none⟩) 2 2) [l1, l2] := by
  refine ⟨w.heap.size, 0, 2, rfl, fun i hi => ?_⟩
  match i, hi with
  | 0, _ => exact ⟨v1, by simp, h1.alloc _⟩
  | 1, _ => exact ⟨v2, by simp, h2.alloc _⟩

def fewB (ls : List (List Nat)) : Bool := ls.all fun l => decide (l.length ≤ 3000)

theorem few_at {ls : List (List Nat)} {k : Nat} (hk : k < ls.length) (h : ¬ (ls.getD k []).length ≤ 3000) : fewB ls = false := by
  unfold fewB
  rw [List.all_eq_false]
  refine ⟨ls[k], List.getElem_mem _, ?_⟩
  simp [List.getD, hk] at h
  simp; omega
theorem few_all {ls : List (List Nat)} (h : ∀ k, k < ls.length → (ls.getD k []).length ≤ 3000) : fewB ls = true := by
  unfold fewB
  rw [List.all_eq_true]
  intro l hl
  obtain ⟨k, hk, rfl⟩ := List.getElem_of_mem hl
  have := h k hk
  simpa [List.getD, hk] using this

set_option maxRecDepth 100000 in
set_option maxHeartbeats 400000 in
theorem few_any (v : Value) (ls : List (List Nat)) (w : World) (h : Bss w v ls) (hn : ls.length ≤ 140737488355328) :
    Calls Try.prog 11 #[v] w fun e w' => e = .returned (.bool (fewB ls)) ∧ w = w' := by
  obtain ⟨b, off, cap, rfl, hcell⟩ := h
  go_enter Try.func11, Try.ntmps11
  go_wp2
  go_loop [7] (fun i => ∃ k : Nat, k ≤ ls.length ∧ i = .int .i64 k ∧ ∀ j, j < k → (ls.getD j []).length ≤ 3000) (fun i => ls.length - (intOf i).toNat)
  case atStart => exact ⟨0, Nat.zero_le _, rfl, by simp⟩
  case round =>
    obtain ⟨k, hk, rfl, hall⟩ := hrel
    have Hall := hide hall
    clear hall
    by_cases hkn : k < ls.length
    · obtain ⟨u, hcu, hbu⟩ := hcell k hkn
      have Hat := hide (@few_at ls k hkn)
      have Hk : Hid ((ls.getD k []).length ≤ 3000 → ∀ j, j < k + 1 → (ls.getD j []).length ≤ 3000) := by
        intro h j hj
        by_cases e : j = k
        · rw [e]; exact h
        · exact Hall.out j (by omega)
      generalize ls.getD k [] = lk at *
      obtain ⟨ao, cp, rfl, hcp, _⟩ := hbu
      clear hcell Hall
      by_cases h3 : lk.length ≤ 3000
      · go_wp2_with fail
        go_round
        case rel => exact ⟨k + 1, by omega, by go_num, Hk.out h3⟩
        case measure => simp [intOf]; omega
      · go_wp2_with fail
        go_ret
        exact ⟨by rw [Hat.out h3]; rfl, rfl⟩
    · obtain rfl : k = ls.length := by omega
      have Hr := hide (few_all Hall.out)
      clear Hall hcell
      go_wp2
      go_ret
      exact ⟨by rw [Hr.out]; rfl, rfl⟩

end Go.Proofs.Ytkdajahcadjpfaa
