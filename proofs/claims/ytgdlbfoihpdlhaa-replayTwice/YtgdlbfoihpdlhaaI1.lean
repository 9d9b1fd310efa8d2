/- Rows of numbers; contracts: slices.Equal, Index, Contains of numbers, the document's put and Blocks. -/
import Derived.Test.YtgdlbfoihpdlhaaK1
import Derived.Test.YtgdlbfoihpdlhaaP4
set_option linter.unusedSimpArgs false
set_option linter.unusedVariables false
namespace Go.Proofs.Ytgdlbfoihpdlhaa
open Go.RowKit Go.Attic

def cellsI (zs : List Int) : List Value := zs.map (Value.int .i64)
theorem cellsI_length (zs : List Int) : (cellsI zs).length = zs.length := by simp [cellsI]
theorem cellsI_app (a b : List Int) : cellsI (a ++ b) = cellsI a ++ cellsI b := by simp [cellsI]

/-- The slice v holds the numbers zs. -/
def Is (w : World) (v : Value) (zs : List Int) : Prop :=
  ∃ ao cap, v = .slice ao zs.length cap ∧ zs.length ≤ cap ∧ (0 < zs.length → ∃ b off, ao = some ⟨b, off, none⟩ ∧ ∀ i, i < zs.length → w.cell? ⟨b, off + i, none⟩ = some (.int .i64 (zs.getD i 0)))
theorem Is.below {w w' : World} {v : Value} {zs : List Int} (h : Is w v zs) {B : Nat} (hb : Below B w w') (hB : w.heap.size ≤ B) : Is w' v zs := by
  obtain ⟨ao, cap, e, hc, h⟩ := h
  refine ⟨ao, cap, e, hc, fun hp => ?_⟩
  obtain ⟨b, off, e, hcell⟩ := h hp
  refine ⟨b, off, e, fun i hi => ?_⟩
  have hlt := World.block_lt_of_cell? w _ (hcell i hi)
  rw [hb.cell (p := ⟨b, off + i, none⟩) (by simp at hlt ⊢; omega)]
  exact hcell i hi
theorem Is.mono {w w' : World} {v : Value} {zs : List Int} (h : Is w v zs) (hb : Below w.heap.size w w') : Is w' v zs := h.below hb (Nat.le_refl _)
theorem Is.of_owns {w : World} {base : Nat} {v : Value} {n : Nat} {zs : List Int} (h : w.ownsRow base 3 1 v n (cellsI zs)) : Is w v zs := by
  have hlen : zs.length = n := by have := h.1; simp [cellsI] at this; omega
  obtain ⟨ao, cap, rfl, hc, hg⟩ := owns_form h
  refine ⟨ao, cap, by rw [hlen], by omega, fun hp => ?_⟩
  obtain ⟨g, rfl, _⟩ := hg (by omega)
  refine ⟨g, 0, rfl, fun i hi => ?_⟩
  have := h.cells (g := g) rfl i (.int .i64 (zs.getD i 0)) (by simp [cellsI, List.getD, hi])
  rwa [Addr.add_lit] at this
theorem Is.take {w : World} {ao : Option Addr} {n cap : Nat} {zs : List Int} (h : Is w (.slice ao n cap) zs) (j : Nat) (hj : j ≤ zs.length) : Is w (.slice ao j cap) (zs.take j) := by
  obtain ⟨ao', cap', e, hc, h⟩ := h
  injection e with e1 e2 e3
  subst e1 e3
  have ht : (zs.take j).length = j := by simp; omega
  refine ⟨ao, cap, by rw [ht], by omega, fun hp => ?_⟩
  rw [ht] at hp
  obtain ⟨b, off, e, hcell⟩ := h (by omega)
  refine ⟨b, off, e, fun i hi => ?_⟩
  rw [ht] at hi
  rw [hcell i (by omega)]
  simp [List.getD, hi]
theorem Is.slice {w : World} {v : Value} {zs : List Int} (h : Is w v zs) : ∃ ao cap, v = .slice ao zs.length cap ∧ zs.length ≤ cap := by
  obtain ⟨ao, cap, e, hc, _⟩ := h; exact ⟨ao, cap, e, hc⟩
theorem is_at {w : World} {ao : Option Addr} {n cap : Nat} {zs : List Int} (h : Is w (.slice ao n cap) zs) (i : Nat) (hi : i < zs.length) : ∃ b off, ao = some ⟨b, off, none⟩ ∧ w.cell? ⟨b, off + i, none⟩ = some (.int .i64 (zs.getD i 0)) := by
  obtain ⟨_, _, e, _, h⟩ := h
  injection e with e
  obtain ⟨b, off, e2, hc⟩ := h (by omega)
  exact ⟨b, off, by rw [e, e2], hc i hi⟩
theorem Try.info3 : (Try.prog.info? 3).map (fun i => (i.zero, i.size, i.bytes)) = some (some (.int .i64 0), 1, 8) := by kernel_rfl

set_option maxRecDepth 100000 in
set_option maxHeartbeats 1000000 in
theorem iequal_yes {w : World} {v1 v2 : Value} {zs : List Int} (h1 : Is w v1 zs) (h2 : Is w v2 zs) (hlen : zs.length ≤ 140737488355328) :
    Calls Try.prog 15 #[v1, v2] w fun e w' => e = .returned (.bool true) ∧ Below w.heap.size w w' := by
  obtain ⟨a1, c1, rfl, -⟩ := h1.slice
  obtain ⟨a2, c2, rfl, -⟩ := h2.slice
  obtain ⟨n, hn⟩ : ∃ n, zs.length = n := ⟨_, rfl⟩
  rw [hn] at hlen ⊢
  have H1 := hide h1
  have H2 := hide h2
  have Hn := hide hn
  clear h1 h2 hn
  go_enter Try.func15, Try.ntmps15
  go_wp2_with fail
  go_loopw [13] (fun iv wr => ∃ i : Nat, i ≤ n ∧ iv = .int .i64 (i : Int) ∧ Below w.heap.size w wr) (fun iv _ => n - (intOf iv).toNat)
  case atStart => exact ⟨0, Nat.zero_le _, rfl, Below.refl _ _⟩
  case round =>
    obtain ⟨i, hi, rfl, hbr⟩ := hrel
    by_cases hin : i < n
    · obtain ⟨b1, o1, rfl, k1⟩ := is_at (H1.out.mono hbr) i (by have := Hn.out; omega)
      obtain ⟨b2, o2, rfl, k2⟩ := is_at (H2.out.mono hbr) i (by have := Hn.out; omega)
      generalize zs.getD i 0 = x at *
      have hq0 : (0 : Int) ≤ (i : Int) := by omega
      have hq1 : (i : Int) < (n : Int) := by omega
      go_wp2_with fail
      go_quiet (fail)
      go_wp2_with fail
      go_roundw
      case rel => exact ⟨i + 1, by omega, by go_num, below_drewN hbr _⟩
      case measure => simp [intOf]; omega
    · obtain rfl : i = n := by omega
      go_wp2_with fail
      go_ret
      exact ⟨rfl, hbr⟩

set_option maxRecDepth 100000 in
set_option maxHeartbeats 1000000 in
/-- Where the number stands, or that it stands nowhere. -/
theorem index_any {w : World} {v : Value} {zs : List Int} (b : Int) (h : Is w v zs) (hlen : zs.length ≤ 140737488355328) :
    Calls Try.prog 40 #[v, .int .i64 b] w fun e w' => (∃ x : Int, e = .returned (.int .i64 x) ∧ (0 ≤ x ∨ (x = -1 ∧ b ∉ zs))) ∧ w = w' := by
  obtain ⟨a1, c1, rfl, -⟩ := h.slice
  obtain ⟨n, hn⟩ : ∃ n, zs.length = n := ⟨_, rfl⟩
  rw [hn] at hlen ⊢
  have H := hide h
  have Hn := hide hn
  clear h hn
  go_enter Try.func40, Try.ntmps40
  go_wp2_with fail
  go_loopw [8] (fun iv wr => ∃ i : Nat, i ≤ n ∧ iv = .int .i64 (i : Int) ∧ b ∉ zs.take i ∧ w = wr) (fun iv _ => n - (intOf iv).toNat)
  case atStart => exact ⟨0, Nat.zero_le _, rfl, by simp, rfl⟩
  case round =>
    obtain ⟨i, hi, rfl, hnb, rfl⟩ := hrel
    by_cases hin : i < n
    · obtain ⟨b1, o1, rfl, k1⟩ := is_at H.out i (by have := Hn.out; omega)
      have hte : zs.take (i + 1) = zs.take i ++ [zs.getD i 0] := by
        have hil : i < zs.length := by have := Hn.out; omega
        rw [List.take_succ_eq_append_getElem hil]
        congr 2
        simp [List.getD, hil]
      generalize zs.getD i 0 = x at *
      by_cases hx : b = x
      · subst hx
        clear hte hnb
        go_wp2_with fail
        go_ret
        exact ⟨⟨_, rfl, .inl (by omega)⟩, rfl⟩
      · have hxb : (b == x) = false := by simp [hx]
        have hn2 : b ∉ zs.take (i + 1) := by rw [hte, List.mem_append, List.mem_singleton]; exact fun h => h.elim hnb hx
        have Hn2 := hide hn2
        clear hte hnb hn2
        go_wp2_with fail
        go_roundw
        case rel => exact ⟨i + 1, by omega, by go_num, Hn2.out, trivial⟩
        case measure => simp [intOf]; omega
    · obtain rfl : i = n := by omega
      have hz : zs.take i = zs := List.take_of_length_le (by have := Hn.out; omega)
      rw [hz] at hnb
      have Hnb := hide hnb
      clear hnb hz
      go_wp2_with fail
      go_ret
      exact ⟨⟨-1, rfl, .inr ⟨rfl, Hnb.out⟩⟩, rfl⟩

set_option maxRecDepth 100000 in
set_option maxHeartbeats 1000000 in
theorem contains_any {w : World} {v : Value} {zs : List Int} (b : Int) (h : Is w v zs) (hlen : zs.length ≤ 140737488355328) :
    Calls Try.prog 27 #[v, .int .i64 b] w fun e w' => (∃ q : Bool, e = .returned (.bool q) ∧ (q = true ∨ b ∉ zs)) ∧ w = w' := by
  have hx := index_any b h hlen
  obtain ⟨a1, c1, rfl, -⟩ := h.slice
  clear h
  go_enter Try.func27, Try.ntmps27
  go_wp2_with fail
  refine hx.mono ?_
  rintro e w' ⟨⟨x, rfl, hx⟩, rfl⟩
  rcases hx with hx | ⟨rfl, hx⟩
  · have hd : decide (0 ≤ x) = true := decide_eq_true hx
    go_wp2_with fail
    go_ret
    exact ⟨⟨true, by simp [hx], .inl rfl⟩, rfl⟩
  · go_wp2_with fail
    go_ret
    exact ⟨⟨false, by simp, .inr hx⟩, rfl⟩

end Go.Proofs.Ytgdlbfoihpdlhaa
