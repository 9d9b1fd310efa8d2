/- Contract: live. -/
import Derived.Test.YtjcobealnjkkcaaF1
set_option linter.unusedSimpArgs false
set_option linter.unusedVariables false
namespace Go.Proofs.Ytjcobealnjkkcaa
open Go.RowKit Go.Attic

/-- A disk that a call has made since B. -/
def Dsk (B : Nat) (w : World) (g m : Nat) (n : Nat) (s : St) : Prop := ∃ p F, Dk w g m p F n s ∧ ∀ k, Own g m F k → B ≤ k

theorem Dsk.mono {B : Nat} {w w' : World} {g m n : Nat} {s : St} (h : Dsk B w g m n s) (hb : Below w.heap.size w w') : Dsk B w' g m n s := by
  obtain ⟨p, F, h1, h2⟩ := h
  exact ⟨p, F, h1.mono hb, h2⟩

theorem Turn.dsk {B : Nat} {w w' : World} {g m n : Nat} {F : Nat → Prop} {s : St} (h : Turn w g m F n s w') (hO : ∀ k, Own g m F k → B ≤ k) (hB : B ≤ w.heap.size) : Dsk B w' g m n s ∧ Below B w w' := by
  obtain ⟨p', F', h1, h2, h3⟩ := h
  refine ⟨⟨p', F', h1, ?_⟩, h2.below hO hB⟩
  rintro k (e | e | e)
  · exact hO k (.inl e)
  · exact hO k (.inr (.inl e))
  · rcases h3 k e with e | e
    · exact hO k (.inr (.inr e))
    · omega

theorem NewDk.dsk {w w' : World} {n : Nat} {s : St} {e : Ending} (h : NewDk w n s e w') : ∃ g m, e = .returned (.tuple #[.pointer (some ⟨g, 0, none⟩), .int .i64 0]) ∧ Dsk w.heap.size w' g m n s ∧ Below w.heap.size w w' := by
  obtain ⟨g, m, e1, h1, h2, h3, h4⟩ := h
  refine ⟨g, m, e1, ⟨none, _, h1, ?_⟩, h2⟩
  rintro k (e | e | e)
  · omega
  · omega
  · exact e.elim

def live0 : St := newS 2
def live1 : St := (writeS live0 2 0 (filledL 10)).1
def live2 : St := (writeS live1 2 0 (filledL 50)).1
def live3 : St := (crashS live2 [15, 1]).1
def live4 : St := (restartS live3).1

theorem live1_e : (writeS live0 2 0 (filledL 10)).2 = 0 := by decide +kernel
theorem live2_e : (writeS live1 2 0 (filledL 50)).2 = 0 := by decide +kernel
theorem live3_e : (crashS live2 [15, 1]).2 = 0 := by decide +kernel
theorem live3_on : live3.on = false := by decide +kernel
theorem live4_e : (restartS live3).2 = 0 := by decide +kernel
theorem live5_e : (readS live4 2 0).2 = 0 := by decide +kernel
theorem live5_l : (readS live4 2 0).1.length = 256 := by decide +kernel
theorem live5_0 : (readS live4 2 0).1.getD 0 0 = 50 := by decide +kernel
theorem live5_64 : (readS live4 2 0).1.getD 64 0 = 11 := by decide +kernel
theorem live5_255 : (readS live4 2 0).1.getD 255 0 = 13 := by decide +kernel
theorem live_p0 : live0.pend.length < 1000000 := by decide +kernel
theorem live_p1 : live1.pend.length < 1000000 := by decide +kernel
theorem live_p2 : live2.pend.length ≤ 1000000 := by decide +kernel
theorem live_p4 : live4.pend.length ≤ 1000000 := by decide +kernel
theorem live_o0 : live0.ops ≤ 1000000 := by decide +kernel
theorem live_o1 : live1.ops ≤ 1000000 := by decide +kernel

theorem Bs.two (w : World) (e : TypeId) (x y : Nat) (hx : x < 256) (hy : y < 256) : Bs (w.alloc (.cells #[.int .u8 (x : Int), .int .u8 (y : Int)] e)) (.slice (some ⟨w.heap.size, 0, none⟩) 2 2) [x, y] := by
  refine ⟨some ⟨w.heap.size, 0, Option.none⟩, 2, rfl, by simp, by simp, by simp [hx, hy], fun _ => ⟨w.heap.size, 0, rfl, fun i hi => ?_⟩⟩
  match i, hi with
  | 0, _ => simp
  | 1, _ => simp

set_option maxRecDepth 100000 in
set_option maxHeartbeats 1000000 in
theorem live_any (w : World) : Calls Try.prog 11 #[] w fun e w' => e = .returned (.bool true) ∧ Below w.heap.size w w' := by
  go_enter Try.func11, Try.ntmps11
  go_wp2_with fail
  refine (new_yes 2 w (by omega) (by omega)).mono ?_
  intro e w1 hN
  obtain ⟨g, m, rfl, ⟨p1, F1, hD1, hO1⟩, hb1⟩ := hN.dsk
  clear hN
  go_wp2_with fail
  refine (filled_any 10 w1 (by omega)).mono ?_
  rintro e w2 ⟨v2, rfl, ho2, hb2⟩
  have hz1 := hb1.size
  have hz2 := hb2.size
  have hD2 := hD1.mono hb2
  have hs2 := Bs.of_owns ho2 (filledL_lt 10)
  go_wp2_with fail
  refine (write_yes hD2 0 v2 (filledL 10) hs2 (by rw [filledL_length]; omega) live_p0 live_o0).mono ?_
  rintro e w3 ⟨rfl, hT3⟩
  rw [show (writeS (newS 2) 2 0 (filledL 10)).2 = 0 from live1_e]
  obtain ⟨⟨p3, F3, hD3, hO3⟩, hb3⟩ := hT3.dsk hO1 (by omega)
  have hz3 := hb3.size
  go_wp2_with fail
  have hD3' : Dk w3 g m p3 F3 2 live1 := hD3
  clear hD3 hT3 hD2 hD1 ho2 hs2
  refine (filled_any 50 w3 (by omega)).mono ?_
  rintro e w4 ⟨v4, rfl, ho4, hb4⟩
  have hz4 := hb4.size
  have hD4 := hD3'.mono hb4
  have hs4 := Bs.of_owns ho4 (filledL_lt 50)
  go_wp2_with fail
  refine (write_yes hD4 0 v4 (filledL 50) hs4 (by rw [filledL_length]; omega) live_p1 live_o1).mono ?_
  rintro e w5 ⟨rfl, hT5⟩
  rw [live2_e]
  obtain ⟨⟨p5, F5, hD5, hO5⟩, hb5⟩ := hT5.dsk hO3 (by omega)
  have hz5 := hb5.size
  have hD5' : Dk w5 g m p5 F5 2 live2 := hD5
  clear hD5 hT5 hD4 hD3' ho4 hs4
  go_wp2_with fail
  have bp := Bs.two w5 5 15 1 (by omega) (by omega)
  have hD6 := hD5'.mono ((Below.refl _ _).alloc (Nat.le_refl _) (.cells #[.int .u8 ((15 : Nat) : Int), .int .u8 ((1 : Nat) : Int)] 5))
  refine (crash_yes hD6 _ [15, 1] bp (fun _ b hb e => by have := hD5'.ml; simp [Value.ownBlock] at hb; omega) live_p2 (by simp)).mono ?_
  rintro e w6 ⟨rfl, hT6⟩
  rw [live3_e]
  obtain ⟨⟨p7, F7, hD7, hO7⟩, hb6⟩ := hT6.dsk hO5 (by simp; omega)
  have hz6 := hb6.size
  have hD7' : Dk w6 g m p7 F7 2 live3 := hD7
  have hb6' : Below w.heap.size w5 w6 := ((Below.refl _ _).alloc (by omega) _).trans hb6
  clear hD7 hT6 hD6 hD5' bp hb6
  simp only [World.size_alloc] at hz6
  go_wp2_with fail
  refine (on_yes hD7').mono ?_
  rintro e w' ⟨rfl, rfl⟩
  rw [live3_on]
  go_wp2_with fail
  refine (restart_yes hD7').mono ?_
  rintro e w8 ⟨rfl, hT8⟩
  rw [live4_e]
  obtain ⟨⟨p8, F8, hD8, hO8⟩, hb8⟩ := hT8.dsk hO7 (by omega)
  have hz8 := hb8.size
  have hD8' : Dk w8 g m p8 F8 2 live4 := hD8
  clear hD8 hT8 hD7'
  go_wp2_with fail
  refine (read_yes hD8' 0 live_p4).mono ?_
  rintro e w9 ⟨v9, rfl, ho9, hb9⟩
  rw [live5_e]
  rw [live5_l] at ho9
  have l0 := live5_0
  have l1 := live5_64
  have l2 := live5_255
  have ll := live5_l
  generalize (readS live4 2 0).1 = rl at *
  obtain ⟨ao9, cap9, rfl, hc9, hg9⟩ := owns_form ho9
  obtain ⟨g9, rfl, _⟩ := hg9 (by omega)
  have q0 := owns_cell ho9 ll.symm 0 (by omega)
  have q1 := owns_cell ho9 ll.symm 64 (by omega)
  have q2 := owns_cell ho9 ll.symm 255 (by omega)
  rw [l0] at q0
  rw [l1] at q1
  rw [l2] at q2
  have hbel : Below w.heap.size w w9 := (((((hb1.trans (hb2.mono hz1)).trans hb3).trans (hb4.mono (by omega))).trans hb5).trans hb6').trans (hb8.trans (hb9.mono (by omega)))
  have Hbel := hide hbel
  clear hbel hb1 hb2 hb3 hb4 hb5 hb6' hb8 hb9 ho9 l0 l1 l2 ll hD8' hg9
  go_wp2
  go_ret
  exact ⟨by simp, Hbel.out⟩

end Go.Proofs.Ytjcobealnjkkcaa
