/- Rows of numbers; contracts: slices.Equal, Index, Contains of numbers, the document's put and Blocks. -/
import Derived.Test.YtjcmmigbkhiplaaC1
import Derived.Test.YtjcmmigbkhiplaaIter
set_option linter.unusedSimpArgs false
set_option linter.unusedVariables false
namespace Go.Proofs.Ytjcmmigbkhiplaa
open Go.RowKit Go.Attic

/-- Strictly rising. -/
def Rise (l : List Int) : Prop := l.Pairwise (· < ·)
theorem rise_one : ∀ {a b : List Int}, Rise a → Rise b → (∀ x, x ∈ a ↔ x ∈ b) → a = b
  | [], [], _, _, _ => rfl
  | [], y :: b, _, _, h => by have := (h y).2 (by simp); simp at this
  | x :: a, [], _, _, h => by have := (h x).1 (by simp); simp at this
  | x :: a, y :: b, ha, hb, h => by
    obtain ⟨ha1, ha2⟩ := List.pairwise_cons.1 ha
    obtain ⟨hb1, hb2⟩ := List.pairwise_cons.1 hb
    have e : x = y := by
      rcases List.mem_cons.1 ((h x).1 (by simp)) with e | e
      · exact e
      · rcases List.mem_cons.1 ((h y).2 (by simp)) with e2 | e2
        · exact e2.symm
        · have := hb1 x e; have := ha1 y e2; omega
    subst e
    congr 1
    refine rise_one ha2 hb2 fun z => ⟨fun hz => ?_, fun hz => ?_⟩
    · rcases List.mem_cons.1 ((h z).1 (by simp [hz])) with e | e
      · subst e; have := ha1 z hz; omega
      · exact e
    · rcases List.mem_cons.1 ((h z).2 (by simp [hz])) with e | e
      · subst e; have := hb1 z hz; omega
      · exact e

def sortN (zs : List Int) : List Int := zs.mergeSort fun x y => decide (x ≤ y)
theorem sortN_len (zs : List Int) : (sortN zs).length = zs.length := List.length_mergeSort zs
theorem sortN_mem (zs : List Int) (x : Int) : x ∈ sortN zs ↔ x ∈ zs := (List.mergeSort_perm zs _).mem_iff
theorem sortN_le (zs : List Int) : ∀ i j (hi : i < (sortN zs).length) (hj : j < (sortN zs).length), i ≤ j → (sortN zs)[i] ≤ (sortN zs)[j] := by
  have h := List.pairwise_mergeSort (le := fun x y : Int => decide (x ≤ y)) (by intro a b c h1 h2; simp at *; omega) (by intro a b; simp; omega) zs
  intro i j hi hj hij
  by_cases e : i = j
  · subst e; exact Int.le_refl _
  · have := List.pairwise_iff_getElem.1 h i j hi hj (by omega)
    exact of_decide_eq_true this


theorem cell_one_new (w : World) (x : Value) (t : TypeId) : ∀ j u, [x][j]? = some u → (w.alloc (.cells #[x] t)).cell? ((⟨w.heap.size, 0, none⟩ : Addr).add j) = some u := by
  intro j u hj
  match j, hj with
  | 0, hj => simp at hj; subst hj; simp [Addr.add]


def cellsI (zs : List Int) : List Value := zs.map (Value.int .i64)
theorem cellsI_length (zs : List Int) : (cellsI zs).length = zs.length := by simp [cellsI]
theorem cellsI_app (a b : List Int) : cellsI (a ++ b) = cellsI a ++ cellsI b := by simp [cellsI]

/-- The slice v holds the numbers zs. -/
def Is (w : World) (v : Value) (zs : List Int) : Prop :=
  ∃ ao cap, v = .slice ao zs.length cap ∧ zs.length ≤ cap ∧ (0 < zs.length → ∃ b off, ao = some ⟨b, off, none⟩ ∧ ∀ i, i < zs.length → w.cell? ⟨b, off + i, none⟩ = some (.int .i64 (zs.getD i 0)))
theorem Is.below {w w' : World} {v : Value} {zs : List Int} (h : Is w v zs) {B : Nat} (hb : Below B w w') (hB : w.heap.size ≤ B) : Is w' v zs := by
  obtain ⟨ao, cap, e, hc, h⟩ := h
  refine ⟨ao, cap, e, hc, fun hp => ?_⟩
  obtain ⟨b, off, e, hcell⟩ := h hp
  refine ⟨b, off, e, fun i hi => ?_⟩
  have hlt := World.block_lt_of_cell? w _ (hcell i hi)
  rw [hb.cell (p := ⟨b, off + i, none⟩) (by simp at hlt ⊢; omega)]
  exact hcell i hi
theorem Is.mono {w w' : World} {v : Value} {zs : List Int} (h : Is w v zs) (hb : Below w.heap.size w w') : Is w' v zs := h.below hb (Nat.le_refl _)
theorem Is.of_owns {w : World} {base : Nat} {v : Value} {n : Nat} {zs : List Int} (h : w.ownsRow base 3 1 v n (cellsI zs)) : Is w v zs := by
  have hlen : zs.length = n := by have := h.1; simp [cellsI] at this; omega
  obtain ⟨ao, cap, rfl, hc, hg⟩ := owns_form h
  refine ⟨ao, cap, by rw [hlen], by omega, fun hp => ?_⟩
  obtain ⟨g, rfl, _⟩ := hg (by omega)
  refine ⟨g, 0, rfl, fun i hi => ?_⟩
  have := h.cells (g := g) rfl i (.int .i64 (zs.getD i 0)) (by simp [cellsI, List.getD, hi])
  rwa [Addr.add_lit] at this
theorem Is.take {w : World} {ao : Option Addr} {n cap : Nat} {zs : List Int} (h : Is w (.slice ao n cap) zs) (j : Nat) (hj : j ≤ zs.length) : Is w (.slice ao j cap) (zs.take j) := by
  obtain ⟨ao', cap', e, hc, h⟩ := h
  injection e with e1 e2 e3
  subst e1 e3
  have ht : (zs.take j).length = j := by simp; omega
  refine ⟨ao, cap, by rw [ht], by omega, fun hp => ?_⟩
  rw [ht] at hp
  obtain ⟨b, off, e, hcell⟩ := h (by omega)
  refine ⟨b, off, e, fun i hi => ?_⟩
  rw [ht] at hi
  rw [hcell i (by omega)]
  simp [List.getD, hi]
theorem Is.slice {w : World} {v : Value} {zs : List Int} (h : Is w v zs) : ∃ ao cap, v = .slice ao zs.length cap ∧ zs.length ≤ cap := by
  obtain ⟨ao, cap, e, hc, _⟩ := h; exact ⟨ao, cap, e, hc⟩
theorem is_at {w : World} {ao : Option Addr} {n cap : Nat} {zs : List Int} (h : Is w (.slice ao n cap) zs) (i : Nat) (hi : i < zs.length) : ∃ b off, ao = some ⟨b, off, none⟩ ∧ w.cell? ⟨b, off + i, none⟩ = some (.int .i64 (zs.getD i 0)) := by
  obtain ⟨_, _, e, _, h⟩ := h
  injection e with e
  obtain ⟨b, off, e2, hc⟩ := h (by omega)
  exact ⟨b, off, by rw [e, e2], hc i hi⟩
theorem Try.info3 : (Try.prog.info? 3).map (fun i => (i.zero, i.size, i.bytes)) = some (some (.int .i64 0), 1, 8) := by kernel_rfl

set_option maxRecDepth 100000 in
set_option maxHeartbeats 1000000 in
theorem iequal_yes {w : World} {v1 v2 : Value} {zs : List Int} (h1 : Is w v1 zs) (h2 : Is w v2 zs) (hlen : zs.length ≤ 140737488355328) :
    Calls Try.prog 49 #[v1, v2] w fun e w' => e = .returned (.bool true) ∧ Below w.heap.size w w' := by
  obtain ⟨a1, c1, rfl, -⟩ := h1.slice
  obtain ⟨a2, c2, rfl, -⟩ := h2.slice
  obtain ⟨n, hn⟩ : ∃ n, zs.length = n := ⟨_, rfl⟩
  rw [hn] at hlen ⊢
  have H1 := hide h1
  have H2 := hide h2
  have Hn := hide hn
  clear h1 h2 hn
  go_enter Try.func49, Try.ntmps49
  go_wp2_with fail
  go_loopw [13] (fun iv wr => ∃ i : Nat, i ≤ n ∧ iv = .int .i64 (i : Int) ∧ Below w.heap.size w wr) (fun iv _ => n - (intOf iv).toNat)
  case atStart => exact ⟨0, Nat.zero_le _, rfl, Below.refl _ _⟩
  case round =>
    obtain ⟨i, hi, rfl, hbr⟩ := hrel
    by_cases hin : i < n
    · obtain ⟨b1, o1, rfl, k1⟩ := is_at (H1.out.mono hbr) i (by have := Hn.out; omega)
      obtain ⟨b2, o2, rfl, k2⟩ := is_at (H2.out.mono hbr) i (by have := Hn.out; omega)
      generalize zs.getD i 0 = x at *
      have hq0 : (0 : Int) ≤ (i : Int) := by omega
      have hq1 : (i : Int) < (n : Int) := by omega
      go_wp2_with fail
      go_quiet (fail)
      go_wp2_with fail
      go_roundw
      case rel => exact ⟨i + 1, by omega, by go_num, below_drewN hbr _⟩
      case measure => simp [intOf]; omega
    · obtain rfl : i = n := by omega
      go_wp2_with fail
      go_ret
      exact ⟨rfl, hbr⟩


end Go.Proofs.Ytjcmmigbkhiplaa
