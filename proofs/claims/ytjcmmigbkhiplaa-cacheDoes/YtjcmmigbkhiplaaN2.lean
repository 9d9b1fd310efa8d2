/- Contract: the statements' live: the chapter's example. -/
import Derived.Test.YtjcmmigbkhiplaaL2
set_option linter.unusedSimpArgs false
set_option linter.unusedVariables false
namespace Go.Proofs.Ytjcmmigbkhiplaa
open Go.RowKit Go.Attic

def liveE (i : Nat) : En := ⟨i, readL (newS 9) i, false⟩
def liveA : Nat → List En
  | 0 => []
  | 1 => [liveE 5]
  | 2 => [liveE 5, liveE 6]
  | 3 => [liveE 6, liveE 5]
  | _ => [liveE 5, liveE 7]
def liveZ : List Int := [5, 6, 5, 7]

theorem live_step (k : Nat) (hk : k < 4) : ∃ l : List Nat, readC 2 9 (newS 9) (liveA k) (liveZ.getD k 0) = (liveA (k + 1), l, 0) ∧ l.length = 256 := by
  have hl : ∀ i, i < 9 → (readL (newS 9) i).length = 256 := fun i hi => by rw [newS_read 9 i hi, List.length_replicate]
  have hon : (newS 9).on = true := rfl
  have h5 := hl 5 (by omega)
  have h6 := hl 6 (by omega)
  have h7 := hl 7 (by omega)
  match k, hk with
  | 0, _ => exact ⟨_, by simp [readC, comeL, liveA, liveZ, liveE, inS, hon], h5⟩
  | 1, _ => exact ⟨_, by simp [readC, comeL, liveA, liveZ, liveE, inS, hon], h6⟩
  | 2, _ => exact ⟨_, by simp [readC, comeL, liveA, liveZ, liveE, inS, hon], h5⟩
  | 3, _ => exact ⟨_, by simp [readC, comeL, liveA, liveZ, liveE, inS, hon], h7⟩

theorem Keeps.is {S : Nat → Prop} {w w' : World} (h : Keeps S w w') {v : Value} {zs : List Int} (hb : Is w v zs) (hv : ∀ b, v.ownBlock = some b → ¬ S b) : Is w' v zs := by
  obtain ⟨ao, cap, rfl, h1, h4⟩ := hb
  refine ⟨ao, cap, rfl, h1, fun hp => ?_⟩
  obtain ⟨b, off, rfl, hc⟩ := h4 hp
  exact ⟨b, off, rfl, fun i hi => h.cell (hc i hi) (hv b rfl)⟩

theorem Is.live (w : World) (t : TypeId) : Is (w.alloc (.cells #[.int .i64 5, .int .i64 6, .int .i64 5, .int .i64 7] t)) (.slice (some ⟨w.heap.size, 0, none⟩) 4 4) liveZ := by
  refine ⟨some ⟨w.heap.size, 0, none⟩, 4, rfl, Nat.le_refl _, fun _ => ⟨w.heap.size, 0, rfl, fun i hi => ?_⟩⟩
  match i, hi with
  | 0, _ => simp [liveZ]
  | 1, _ => simp [liveZ]
  | 2, _ => simp [liveZ]
  | 3, _ => simp [liveZ]

set_option maxRecDepth 100000 in
set_option maxHeartbeats 1000000 in
theorem live_any (w : World) : Calls Try.prog 9 #[] w fun e w' => e = .returned (.bool true) ∧ Below w.heap.size w w' := by
  go_enter Try.func9, Try.ntmps9
  go_wp2_with fail
  refine (new_yes 9 w (by omega) (by omega)).mono ?_
  rintro e w1 ⟨g, gm, rfl, hd, hb1, hg1, hm1⟩
  have hz1 := hb1.size
  have Hd := hide hd
  clear hd
  go_wp2_with fail
  refine (cnew_yes (room := 2) Hd.out (by omega) (by omega)).mono ?_
  rintro e w2 ⟨c, S, rfl, hC, hb2, hS⟩
  have hz2 := hb2.size
  have hSw : ∀ k, S k → w.heap.size ≤ k := fun k hk => by
    rcases hS k hk with (e | e | e) | h
    · omega
    · omega
    · exact e.elim
    · omega
  have hlit := Is.live w2 3
  have hSl := hC.lt
  have hC3 := hC.mono ((Below.refl _ w2).alloc (Nat.le_refl _) (.cells #[.int .i64 5, .int .i64 6, .int .i64 5, .int .i64 7] 3))
  have hbw2 : Below w.heap.size w w2 := hb1.trans (hb2.mono hz1)
  have HC3 := hide hC3
  have Hlit := hide hlit
  clear hC hC3 hlit hS
  go_wp2_with fail
  go_loopw [31] (fun iv wr => ∃ (k : Nat) (S' : Nat → Prop), k ≤ 4 ∧ iv = .int .i64 (k : Int) ∧ CD wr c g S' 2 9 k (newS 9) (liveA k) ∧ Is wr (.slice (some ⟨w2.heap.size, 0, none⟩) 4 4) liveZ ∧ (¬ S' w2.heap.size ∧ w2.heap.size < wr.heap.size) ∧ (∀ j, S' j → w.heap.size ≤ j) ∧ Below w.heap.size w wr) (fun iv _ => 4 - (intOf iv).toNat)
  case atStart => exact ⟨0, S, by omega, rfl, HC3.out, Hlit.out, ⟨fun h => by have := hSl _ h; omega, by simp⟩, hSw, hbw2.alloc (Nat.le_trans hz1 hz2) _⟩
  case round =>
    obtain ⟨k, S', hk, rfl, hC, hI, ⟨hn1, hn2⟩, hS', hbr⟩ := hrel
    by_cases h4 : k < 4
    · obtain ⟨b1, o1, e1, k1⟩ := is_at hI k h4
      injection e1 with e1
      injection e1 with e1 e2
      subst e1 e2
      rw [Nat.zero_add] at k1
      obtain ⟨l, hl, hl256⟩ := live_step k h4
      have hrd := cread_any hC (liveZ.getD k 0) (by omega) (by simp [newS, ofS]) (by omega)
      rw [hl] at hrd
      simp only at hrd
      have Hrd := hide hrd
      have Hl := hide hl256
      have HI := hide hI
      generalize liveZ.getD k 0 = x at *
      clear hrd hl hC hl256 hI
      go_wp2_with fail
      refine Hrd.out.mono ?_
      rintro e w3 ⟨v, S3, rfl, ho, ⟨hC3, hk3, hS3⟩, hv⟩
      rw [Hl.out] at ho
      obtain ⟨r, cap, rfl⟩ := owns_256 ho
      have Ho := hide ho
      have HC := hide hC3
      clear ho hC3
      go_wp2_with fail
      go_roundw
      case rel =>
        refine ⟨k + 1, S3, by omega, by go_num, HC.out, Keeps.is hk3 HI.out (fun b hb => by cases hb; exact hn1), ⟨fun h => ?_, by have := hk3.size; omega⟩, fun j hj => ?_, hbr.trans (hk3.below hS' hbr.size)⟩
        · rcases hS3 _ h with h | h
          · exact hn1 h
          · omega
        · rcases hS3 j hj with h | h
          · exact hS' j h
          · have := hbr.size; omega
      case measure => simp [intOf]; omega
    · obtain rfl : k = 4 := by omega
      have h6 := has_any hC 6 (by omega)
      have h5 := has_any hC 5 (by omega)
      have h7 := has_any hC 7 (by omega)
      rw [show ((liveA 4).any fun x => (x.i : Int) == 6) = false by simp [liveA, liveE]] at h6
      rw [show ((liveA 4).any fun x => (x.i : Int) == 5) = true by simp [liveA, liveE]] at h5
      rw [show ((liveA 4).any fun x => (x.i : Int) == 7) = true by simp [liveA, liveE]] at h7
      clear hC hI
      go_wp2_with fail
      refine h6.mono ?_
      rintro e w' ⟨rfl, rfl⟩
      go_wp2_with fail
      refine h5.mono ?_
      rintro e w' ⟨rfl, rfl⟩
      go_wp2_with fail
      refine h7.mono ?_
      rintro e w' ⟨rfl, rfl⟩
      go_wp2_with fail
      go_ret
      exact ⟨by simp, hbr⟩

end Go.Proofs.Ytjcmmigbkhiplaa
