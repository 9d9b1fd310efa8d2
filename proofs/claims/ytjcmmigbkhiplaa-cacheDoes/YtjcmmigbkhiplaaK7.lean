/- Contracts: Has, New of a cache. -/
import Derived.Test.YtjcmmigbkhiplaaK6
set_option linter.unusedSimpArgs false
set_option linter.unusedVariables false
namespace Go.Proofs.Ytjcmmigbkhiplaa
open Go.RowKit Go.Attic

section
variable {w w' : World} {c g : Nat} {S : Nat → Prop} {room n Q : Nat} {s : St} {A : List En}

set_option maxRecDepth 100000 in
set_option maxHeartbeats 1000000 in
theorem has_any (h : CD w c g S room n Q s A) (i : Int) (hi : -9223372036854775808 ≤ i ∧ i ≤ 9223372036854775807) :
    Calls Try.prog 31 #[.pointer (some ⟨c, 0, none⟩), .int .i64 i] w fun e w' => e = .returned (.bool (A.any fun x => (x.i : Int) == i)) ∧ w = w' := by
  obtain ⟨m, q, B, F, gm, p, Fd, h, rfl, hq⟩ := h
  have hm := cmade_yes h.ca
  have c2 := h.ca.c2
  by_cases hx : ∃ x ∈ B, (x.i : Int) = i
  · obtain ⟨x, hx, hxi⟩ := hx
    have hlk := h.ca.mp.look ((x.i : Int), x.p) (List.mem_map.2 ⟨x, hx, rfl⟩)
    simp only [hxi] at hlk
    have e : (B.map Bu.en).any (fun x => (x.i : Int) == i) = true := List.any_eq_true.2 ⟨x.en, List.mem_map.2 ⟨x, hx, rfl⟩, by simpa [Bu.en] using hxi⟩
    rw [e]
    clear h e
    go_enter Try.func31, Try.ntmps31
    go_wp2_with fail
    refine hm.mono ?_
    rintro e w' ⟨rfl, rfl⟩
    go_wp2_with fail
    go_ret
    exact ⟨rfl, rfl⟩
  · have hlk := h.ca.mp.miss i hi (fun y hy e => by obtain ⟨z, hz, rfl⟩ := key_mem hy; exact hx ⟨z, hz, e⟩)
    have e : (B.map Bu.en).any (fun x => (x.i : Int) == i) = false := List.any_eq_false.2 (fun y hy => by obtain ⟨z, hz, rfl⟩ := List.mem_map.1 hy; intro hh; exact hx ⟨z, hz, by simpa [Bu.en] using hh⟩)
    rw [e]
    clear h e hx
    go_enter Try.func31, Try.ntmps31
    go_wp2_with fail
    refine hm.mono ?_
    rintro e w' ⟨rfl, rfl⟩
    go_wp2_with fail
    go_ret
    exact ⟨rfl, rfl⟩

theorem CDx.made {gm : Nat} {p : Option Nat} {Fd : Nat → Prop} (hd : Dk w g gm p Fd n s) (hr : room ≤ 256) :
    CDx ((w.alloc (.map #[] 0)).alloc (.cells #[.pointer (some ⟨g, 0, none⟩), .int .i64 (room : Int), .map (some w.heap.size), .int .i64 0] 62)) (w.heap.size + 1) g (fun k => (k = w.heap.size + 1 ∨ k = w.heap.size) ∨ Own g gm Fd k) room n s w.heap.size 0 [] (fun k => k = w.heap.size) gm p Fd := by
  have ho := hd.ownLt
  have hmp := (MpAt.made w).kept (World.grownBy_alloc _ (.cells #[.pointer (some ⟨g, 0, none⟩), .int .i64 (room : Int), .map (some w.heap.size), .int .i64 0] 62) none) (by simp)
  have e1 : (w.alloc (.map #[] 0)).heap.size = w.heap.size + 1 := by simp
  refine ⟨⟨?_, ?_, ?_, ?_, ?_, hmp, by simp, by simp, rfl, by omega, ?_, by simp, by simp⟩, ⟨by simp, by simp⟩, ?_, ?_, ?_, ?_, by simp, hr⟩
  · rw [← e1]; simp
  · rw [← e1]; simp
  · rw [← e1]; simp
  · rw [← e1]; simp
  · rw [← e1]; simp
  · intro k hk; rw [hk]; simp; omega
  · exact hd.mono ((((Below.refl _ w).alloc (Nat.le_refl _) _).alloc (by simp) _))
  · rintro k (e | e) hk
    · have := ho k hk; omega
    · have := ho k hk; omega
  · intro k hk; exact hk
  · rintro k ((e | e) | e)
    · simp; omega
    · simp; omega
    · have := ho k e; simp; omega

/-- What New leaves. -/
def NewCD (w : World) (g gm : Nat) (Fd : Nat → Prop) (room n : Nat) (s : St) (e : Ending) (w' : World) : Prop :=
  ∃ c S, e = .returned (.tuple #[.pointer (some ⟨c, 0, none⟩), .int .i64 0]) ∧ CD w' c g S room n 0 s [] ∧ Below w.heap.size w w' ∧ ∀ k, S k → Own g gm Fd k ∨ w.heap.size ≤ k

set_option maxRecDepth 100000 in
set_option maxHeartbeats 1000000 in
theorem cnew_yes {gm : Nat} {p : Option Nat} {Fd : Nat → Prop} (hd : Dk w g gm p Fd n s) (h2 : 2 ≤ room) (hr : room ≤ 256) :
    Calls Try.prog 10 #[.pointer (some ⟨g, 0, none⟩), .int .i64 (room : Int)] w (NewCD w g gm Fd room n s) := by
  have hl := len_yes hd
  have hn := hd.ok.n1
  have hM := CDx.made hd hr
  have HM := hide hM
  have hmm := @run_makeMap Try.prog
  have hne : ((n : Int) == 0) = false := by simp; omega
  clear hd hM
  go_enter Try.func10, Try.ntmps10
  go_wp2_with fail
  refine hl.mono ?_
  rintro e w' ⟨rfl, rfl⟩
  go_wp2_with fail
  go_ret2
  refine ⟨w.heap.size + 1, _, rfl, ⟨_, _, _, _, _, _, _, HM.out, rfl, Nat.le_refl _⟩, ((Below.refl _ w).alloc (Nat.le_refl _) _).alloc (by simp) _, ?_⟩
  rintro k ((e | e) | e)
  · exact .inr (by omega)
  · exact .inr (by omega)
  · exact .inl e

set_option maxRecDepth 100000 in
set_option maxHeartbeats 1000000 in
theorem cnew_no {gm : Nat} {p : Option Nat} {Fd : Nat → Prop} (r : Int) (hd : Dk w g gm p Fd n s) (h : ¬ (2 ≤ r ∧ r ≤ 256)) :
    Calls Try.prog 10 #[.pointer (some ⟨g, 0, none⟩), .int .i64 r] w fun e w' => e = .returned (.tuple #[.pointer none, .int .i64 1]) ∧ w = w' := by
  have hl := len_yes hd
  have hn := hd.ok.n1
  have hne : ((n : Int) == 0) = false := by simp; omega
  clear hd
  by_cases h1 : r < 2
  · clear h
    go_enter Try.func10, Try.ntmps10
    go_wp2_with fail
    refine hl.mono ?_
    rintro e w' ⟨rfl, rfl⟩
    go_wp2_with fail
    go_ret2
    exact ⟨rfl, rfl⟩
  · have h3 : 256 < r := by omega
    clear h
    go_enter Try.func10, Try.ntmps10
    go_wp2_with fail
    refine hl.mono ?_
    rintro e w' ⟨rfl, rfl⟩
    go_wp2_with fail
    go_ret2
    exact ⟨rfl, rfl⟩

end

end Go.Proofs.Ytjcmmigbkhiplaa
