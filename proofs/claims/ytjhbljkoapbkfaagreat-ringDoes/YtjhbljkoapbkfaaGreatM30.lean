/- Contracts: Open of a log, on both sides, where nothing is opened: with arguments that may not be, and with the power off. -/
import Derived.Test.YtjhbljkoapbkfaaGreatM28
import Derived.Test.YtjhbljkoapbkfaaGreatM17
import Derived.Test.YtjhbljkoapbkfaaGreatM29
set_option linter.unusedSimpArgs false
set_option linter.unusedVariables false

namespace Go.Proofs.YtjhbljkoapbkfaaGreat
open Go.RowKit Go.Attic Go.Shelf

/-- A ring may lie so. -/
def okO (n base blocks head : Int) : Prop := 1 ≤ blocks ∧ blocks ≤ 256 ∧ 0 ≤ base ∧ base + blocks ≤ n ∧ 0 ≤ head ∧ head ≤ 1152921504606846976

def NoO (w : World) (er : Int) (e : Ending) (w' : World) : Prop := e = .returned (.tuple #[.pointer none, .slice none 0 0, .int .i64 er]) ∧ Below w.heap.size w w'

set_option maxRecDepth 100000 in
set_option maxHeartbeats 1000000 in
theorem open_arg {w : World} {g m : Nat} {p : Option Nat} {F : Nat → Prop} {n : Nat} {s : St} (h : Dk w g m p F n s) (base blocks head : Int) (hno : ¬ okO n base blocks head) :
    Calls Tryz.prog 13 #[.pointer (some ⟨g, 0, none⟩), .int .i64 base, .int .i64 blocks, .int .i64 head] w (NoO w 1) := by
  have hn1 := h.ok.n1
  have hn2 := h.ok.n2
  have hlen := len_yes h
  have hsz := fun w => gSize_any blocks w
  have hhd := fun w => gHead_any head w
  have hn0 : ((n : Int) == 0) = false := by simp; omega
  clear h
  by_cases hb : 1 ≤ blocks ∧ blocks ≤ 256
  · rw [decide_eq_true hb] at hsz
    by_cases hb0 : base < 0
    · refine (callsIn_wide (n := 3)).1 ?_
      refine callsIn_of_wp_marks Tryz.func13 rfl trivial ?_ rfl
      simp only [Tryz.ntmps13, List.size_toArray, List.length_cons, List.length_nil, Nat.reduceAdd, Nat.reduceSub, Array.replicate_succ, Array.replicate_zero, List.push_toArray, List.append_toArray, List.nil_append, List.cons_append]
      gi_wp2
      refine ⟨trivial, (callsIn_wide.2 hlen).mono ?_⟩
      rintro e w' ⟨rfl, rfl⟩
      gi_wp2
      refine ⟨trivial, (callsIn_wide.2 (hsz _)).mono ?_⟩
      rintro e w' ⟨rfl, rfl⟩
      gi_wp2
      refine ⟨trivial, ?_⟩
      gi_wp2
      refine ⟨trivial, ?_⟩
      gi_wp2
      exact ⟨_, results_slots3 rfl _ _ _ _ _ rfl rfl rfl, rfl, Below.refl _ _⟩
    · by_cases hb1 : (n : Int) - blocks < base
      · refine (callsIn_wide (n := 3)).1 ?_
        refine callsIn_of_wp_marks Tryz.func13 rfl trivial ?_ rfl
        simp only [Tryz.ntmps13, List.size_toArray, List.length_cons, List.length_nil, Nat.reduceAdd, Nat.reduceSub, Array.replicate_succ, Array.replicate_zero, List.push_toArray, List.append_toArray, List.nil_append, List.cons_append]
        gi_wp2
        refine ⟨trivial, (callsIn_wide.2 hlen).mono ?_⟩
        rintro e w' ⟨rfl, rfl⟩
        gi_wp2
        refine ⟨trivial, (callsIn_wide.2 (hsz _)).mono ?_⟩
        rintro e w' ⟨rfl, rfl⟩
        gi_wp2
        refine ⟨trivial, (callsIn_wide.2 hlen).mono ?_⟩
        rintro e w' ⟨rfl, rfl⟩
        gi_wp2
        refine ⟨trivial, ?_⟩
        gi_wp2
        exact ⟨_, results_slots3 rfl _ _ _ _ _ rfl rfl rfl, rfl, Below.refl _ _⟩
      · have hh : ¬ (0 ≤ head ∧ head ≤ 1152921504606846976) := fun h9 => hno ⟨hb.1, hb.2, by omega, by omega, h9.1, h9.2⟩
        rw [decide_eq_false hh] at hhd
        refine (callsIn_wide (n := 3)).1 ?_
        refine callsIn_of_wp_marks Tryz.func13 rfl trivial ?_ rfl
        simp only [Tryz.ntmps13, List.size_toArray, List.length_cons, List.length_nil, Nat.reduceAdd, Nat.reduceSub, Array.replicate_succ, Array.replicate_zero, List.push_toArray, List.append_toArray, List.nil_append, List.cons_append]
        gi_wp2
        refine ⟨trivial, (callsIn_wide.2 hlen).mono ?_⟩
        rintro e w' ⟨rfl, rfl⟩
        gi_wp2
        refine ⟨trivial, (callsIn_wide.2 (hsz _)).mono ?_⟩
        rintro e w' ⟨rfl, rfl⟩
        gi_wp2
        refine ⟨trivial, (callsIn_wide.2 hlen).mono ?_⟩
        rintro e w' ⟨rfl, rfl⟩
        gi_wp2
        refine ⟨trivial, (callsIn_wide.2 (hhd _)).mono ?_⟩
        rintro e w' ⟨rfl, rfl⟩
        gi_wp2
        exact ⟨_, results_slots3 rfl _ _ _ _ _ rfl rfl rfl, rfl, Below.refl _ _⟩
  · rw [decide_eq_false hb] at hsz
    refine (callsIn_wide (n := 3)).1 ?_
    refine callsIn_of_wp_marks Tryz.func13 rfl trivial ?_ rfl
    simp only [Tryz.ntmps13, List.size_toArray, List.length_cons, List.length_nil, Nat.reduceAdd, Nat.reduceSub, Array.replicate_succ, Array.replicate_zero, List.push_toArray, List.append_toArray, List.nil_append, List.cons_append]
    gi_wp2
    refine ⟨trivial, (callsIn_wide.2 hlen).mono ?_⟩
    rintro e w' ⟨rfl, rfl⟩
    gi_wp2
    refine ⟨trivial, (callsIn_wide.2 (hsz _)).mono ?_⟩
    rintro e w' ⟨rfl, rfl⟩
    gi_wp2
    refine ⟨trivial, ?_⟩
    gi_wp2
    refine ⟨trivial, ?_⟩
    gi_wp2
    exact ⟨_, results_slots3 rfl _ _ _ _ _ rfl rfl rfl, rfl, Below.refl _ _⟩

set_option maxRecDepth 100000 in
set_option maxHeartbeats 1000000 in
theorem ropen_arg {w : World} {g : Nat} {q p : Option Nat} {F : Nat → Prop} {n : Nat} {s : St} (h : Dr w g q p F n s) (base blocks head : Int) (hno : ¬ okO n base blocks head) :
    Calls Tryz.prog 42 #[.pointer (some ⟨g, 0, none⟩), .int .i64 base, .int .i64 blocks, .int .i64 head] w (NoO w 1) := by
  have hn1 := h.ok.n1
  have hn2 := h.ok.n2
  obtain ⟨vB, vsB, c0, hB⟩ := h.c0
  obtain ⟨aoB, capB, rfl, _⟩ := owns_form hB.row
  clear h hB
  by_cases b1 : blocks < 1
  · go_enter Tryz.func42, Tryz.ntmps42
    go_wp2_with fail
    refine bodyPost_ret (v := .tuple #[.pointer none, .slice none 0 0, .int .i64 1]) (by simp [results, Tryz.results42, go_sem]) rfl ⟨rfl, Below.refl _ _⟩
  by_cases b2 : 256 < blocks
  · go_enter Tryz.func42, Tryz.ntmps42
    go_wp2_with fail
    refine bodyPost_ret (v := .tuple #[.pointer none, .slice none 0 0, .int .i64 1]) (by simp [results, Tryz.results42, go_sem]) rfl ⟨rfl, Below.refl _ _⟩
  by_cases b3 : base < 0
  · go_enter Tryz.func42, Tryz.ntmps42
    go_wp2_with fail
    refine bodyPost_ret (v := .tuple #[.pointer none, .slice none 0 0, .int .i64 1]) (by simp [results, Tryz.results42, go_sem]) rfl ⟨rfl, Below.refl _ _⟩
  by_cases b4 : (n : Int) < base
  · go_enter Tryz.func42, Tryz.ntmps42
    go_wp2_with fail
    refine bodyPost_ret (v := .tuple #[.pointer none, .slice none 0 0, .int .i64 1]) (by simp [results, Tryz.results42, go_sem]) rfl ⟨rfl, Below.refl _ _⟩
  by_cases b5 : (n : Int) - base < blocks
  · go_enter Tryz.func42, Tryz.ntmps42
    go_wp2_with fail
    refine bodyPost_ret (v := .tuple #[.pointer none, .slice none 0 0, .int .i64 1]) (by simp [results, Tryz.results42, go_sem]) rfl ⟨rfl, Below.refl _ _⟩
  by_cases b6 : head < 0
  · go_enter Tryz.func42, Tryz.ntmps42
    go_wp2_with fail
    refine bodyPost_ret (v := .tuple #[.pointer none, .slice none 0 0, .int .i64 1]) (by simp [results, Tryz.results42, go_sem]) rfl ⟨rfl, Below.refl _ _⟩
  by_cases b7 : 1152921504606846976 < head
  · go_enter Tryz.func42, Tryz.ntmps42
    go_wp2_with fail
    refine bodyPost_ret (v := .tuple #[.pointer none, .slice none 0 0, .int .i64 1]) (by simp [results, Tryz.results42, go_sem]) rfl ⟨rfl, Below.refl _ _⟩
  exact absurd ⟨by omega, by omega, by omega, by omega, by omega, by omega⟩ hno

set_option maxRecDepth 100000 in
set_option maxHeartbeats 1000000 in
theorem ropen_off {w : World} {g : Nat} {q p : Option Nat} {F : Nat → Prop} {n : Nat} {s : St} (h : Dr w g q p F n s) (hon : s.on = false) (hpl : s.pend.length ≤ 1000000) (base blocks head : Nat) (h1 : 1 ≤ blocks) (h2 : blocks ≤ 256) (h3 : base + blocks ≤ n) (hh : head ≤ 1152921504606846976) :
    Calls Tryz.prog 42 #[.pointer (some ⟨g, 0, none⟩), .int .i64 (base : Int), .int .i64 (blocks : Int), .int .i64 (head : Int)] w (NoO w 5) := by
  have hn1 := h.ok.n1
  have hn2 := h.ok.n2
  obtain ⟨vB, vsB, c0, hB⟩ := h.c0
  obtain ⟨aoB, capB, rfl, _⟩ := owns_form hB.row
  have g1 : ¬ (n : Int) < (base : Int) := by omega
  have g2 : ¬ (n : Int) - (base : Int) < (blocks : Int) := by omega
  have g3 : ¬ (blocks : Int) < 1 := by omega
  have g4 : ¬ (256 : Int) < (blocks : Int) := by omega
  have g5 : ¬ (base : Int) < 0 := by omega
  have g6 : ¬ (head : Int) < 0 := by omega
  have g7 : ¬ (1152921504606846976 : Int) < (head : Int) := by omega
  obtain ⟨W0, hW0⟩ : ∃ W, w.alloc (.cells #[.pointer (some ⟨g, 0, none⟩), .int .i64 (base : Int), .int .i64 (blocks : Int), .int .i64 (head : Int), .slice none 0 0] 62) = W := ⟨_, rfl⟩
  have hb0 : Below w.heap.size w W0 := by rw [← hW0]; exact (Below.refl _ _).alloc (Nat.le_refl _) _
  obtain ⟨b, hb⟩ : ∃ b, base + head / 4 % blocks = b := ⟨_, rfl⟩
  have hpc := place_yes base blocks head W0 h1 h2 (by omega) (by omega)
  rw [hb] at hpc
  have hrd := rread_yes (h.mono hb0) (b : Int) hpl
  rw [show readS s n (b : Int) = ([], 5) by simp [readS, hon]] at hrd
  generalize head % 4 * 64 = a at *
  clear h hB hon hb
  go_enter Tryz.func42, Tryz.ntmps42
  go_wp2_with fail
  go_loopw [12] (fun i wr => i = .int .i64 0 ∧ wr = W0) (fun i _ => 0)
  case atStart => exact ⟨rfl, by first | rfl | simp⟩
  case round =>
    obtain ⟨rfl, rfl⟩ := hrel
    have hlt : (0 : Int) < 4 * (blocks : Int) := by omega
    go_wp2_with fail
    refine hpc.mono ?_
    rintro e w' ⟨rfl, rfl⟩
    go_wp2_with fail
    refine hrd.mono ?_
    rintro e W1 ⟨vb, rfl, hob, hB1⟩
    obtain ⟨aob, capb, rfl⟩ := owns_slice hob
    go_wp2_with fail
    refine bodyPost_ret (v := .tuple #[.pointer none, .slice none 0 0, .int .i64 5]) (by simp [results, Tryz.results42, go_sem]) rfl ⟨rfl, hb0.trans (hB1.mono hb0.size)⟩

set_option maxRecDepth 100000 in
set_option maxHeartbeats 1000000 in
theorem open_off {w : World} {g m : Nat} {p : Option Nat} {F : Nat → Prop} {n : Nat} {s : St} (h : Dk w g m p F n s) (hon : s.on = false) (hpl : s.pend.length ≤ 1000000) (base blocks head : Nat) (h1 : 1 ≤ blocks) (h2 : blocks ≤ 256) (h3 : base + blocks ≤ n) (hh : head ≤ 1152921504606846976) :
    Calls Tryz.prog 13 #[.pointer (some ⟨g, 0, none⟩), .int .i64 (base : Int), .int .i64 (blocks : Int), .int .i64 (head : Int)] w (NoO w 5) := by
  have hn1 := h.ok.n1
  have hn2 := h.ok.n2
  have hlen := fun w (h : Dk w g m p F n s) => len_yes h
  have hsz := fun w => gSize_any (blocks : Int) w
  have hhd := fun w => gHead_any (head : Int) w
  rw [decide_eq_true (show (1 : Int) ≤ (blocks : Int) ∧ (blocks : Int) ≤ 256 by omega)] at hsz
  rw [decide_eq_true (show (0 : Int) ≤ (head : Int) ∧ (head : Int) ≤ 1152921504606846976 by omega)] at hhd
  obtain ⟨w1, hw1⟩ : ∃ w1, w.alloc (.cells #[.pointer (some ⟨g, 0, none⟩), .int .i64 (base : Int), .int .i64 (blocks : Int)] 85) = w1 := ⟨_, rfl⟩
  have hb1 : Below w.heap.size w w1 := by rw [← hw1]; exact (Below.refl _ w).alloc (Nat.le_refl _) _
  have t0 : w1.heap[w.heap.size]? = some (.cells #[.pointer (some ⟨g, 0, none⟩), .int .i64 (base : Int), .int .i64 (blocks : Int)] 85 (0, 0)) := by rw [← hw1]; exact World.alloc_heap_new w _
  obtain ⟨c0, c1, c2⟩ : w1.cell? ⟨w.heap.size, 0, none⟩ = some (.pointer (some ⟨g, 0, none⟩)) ∧ w1.cell? ⟨w.heap.size, 1, none⟩ = some (.int .i64 (base : Int)) ∧ w1.cell? ⟨w.heap.size, 2, none⟩ = some (.int .i64 (blocks : Int)) := by
    refine ⟨?_, ?_, ?_⟩ <;> (unfold World.cell?; rw [t0]; rfl)
  have hload := load_off (h.mono hb1) hon hpl base blocks head h1 h2 h3 hh
  have hbs : (base : Int) ≤ (n : Int) - (blocks : Int) := by omega
  have hn0 : ((n : Int) == 0) = false := by simp; omega
  refine (callsIn_wide (n := 3)).1 ?_
  refine callsIn_of_wp_marks Tryz.func13 rfl trivial ?_ rfl
  simp only [Tryz.ntmps13, List.size_toArray, List.length_cons, List.length_nil, Nat.reduceAdd, Nat.reduceSub, Array.replicate_succ, Array.replicate_zero, List.push_toArray, List.append_toArray, List.nil_append, List.cons_append]
  gi_wp2
  refine ⟨trivial, (callsIn_wide.2 (hlen _ h)).mono ?_⟩
  rintro e w' ⟨rfl, rfl⟩
  gi_wp2
  refine ⟨trivial, (callsIn_wide.2 (hsz _)).mono ?_⟩
  rintro e w' ⟨rfl, rfl⟩
  gi_wp2
  refine ⟨trivial, (callsIn_wide.2 (hlen _ h)).mono ?_⟩
  rintro e w' ⟨rfl, rfl⟩
  gi_wp2
  refine ⟨trivial, (callsIn_wide.2 (hhd _)).mono ?_⟩
  rintro e w' ⟨rfl, rfl⟩
  gi_wp2
  refine ⟨trivial, (callsIn_wide.2 hload).mono ?_⟩
  rintro e w2 ⟨rfl, hb2⟩
  gi_wp2
  exact ⟨_, results_slots3 rfl _ _ _ _ _ rfl rfl rfl, rfl, hb1.trans (hb2.mono hb1.size)⟩

end Go.Proofs.YtjhbljkoapbkfaaGreat
