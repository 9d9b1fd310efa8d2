/- Contracts of the statements' own helpers: filled, Op.block, live. -/
import Derived.Test.YtjcobealnjkkcaaE2
set_option linter.unusedSimpArgs false
set_option linter.unusedVariables false
namespace Go.Proofs.Ytjcobealnjkkcaa
open Go.RowKit Go.Attic

theorem owns_byte {w : World} {base : Nat} {n cap g : Nat} {l : List Nat} (h : w.ownsRow base 5 1 (.slice (some ⟨g, 0, none⟩) n cap) n (cellsB l)) (k x : Nat) :
    (w.setCell ⟨g, k, none⟩ (.int .u8 (x : Int))).ownsRow base 5 1 (.slice (some ⟨g, 0, none⟩) n cap) n (cellsB (l.set k x)) := by
  have := (h.stored k (.int .u8 (x : Int))).1
  rw [show cellsB (l.set k x) = (cellsB l).set k (.int .u8 (x : Int)) by simp only [cellsB, List.map_set]]
  exact this
theorem owns_cell {w : World} {base : Nat} {n cap g : Nat} {l : List Nat} (h : w.ownsRow base 5 1 (.slice (some ⟨g, 0, none⟩) n cap) n (cellsB l)) (hn : n = l.length) (k : Nat) (hk : k < l.length) :
    w.cell? ⟨g, k, none⟩ = some (.int .u8 ((l.getD k 0 : Nat) : Int)) := by
  rw [h.cellAt k (by omega)]
  simp [cellsB, List.getD, hk]

/-- A block whose sectors are of one byte each. -/
def filledL (c : Nat) : List Nat := (List.range 256).map fun i => (c + i / 64) % 256
def filledK (c k : Nat) : List Nat := (List.range 256).map fun i => if i < k then (c + i / 64) % 256 else 0
theorem filledK_zero (c : Nat) : filledK c 0 = List.replicate 256 0 := by
  apply List.ext_getElem
  · simp only [filledK, List.length_map, List.length_range, List.length_replicate]
  · intro i h1 h2
    simp only [filledK, List.getElem_map, List.getElem_range, List.getElem_replicate]
    rw [if_neg (by omega)]
theorem filledK_end (c : Nat) : filledK c 256 = filledL c := by
  simp only [filledK, filledL]
  apply List.map_congr_left
  intro i hi
  rw [if_pos (by simpa using hi)]
theorem filledK_set (c k : Nat) (hk : k < 256) : (filledK c k).set k ((c + k / 64) % 256) = filledK c (k + 1) := by
  apply List.ext_getElem (by simp [filledK])
  intro i h1 h2
  simp only [filledK, List.getElem_set, List.getElem_map, List.getElem_range]
  by_cases he : k = i
  · subst he; simp
  · rw [if_neg he]
    by_cases hl : i < k
    · rw [if_pos hl, if_pos (by omega)]
    · rw [if_neg hl, if_neg (by omega)]
theorem filledL_length (c : Nat) : (filledL c).length = 256 := by simp [filledL]
theorem filledL_lt (c : Nat) : ∀ x ∈ filledL c, x < 256 := by
  intro x hx
  simp only [filledL, List.mem_map] at hx
  obtain ⟨i, _, rfl⟩ := hx
  omega

set_option maxRecDepth 100000 in
set_option maxHeartbeats 1000000 in
theorem filled_any (c : Nat) (w : World) (hc : c < 256) : Calls Try.prog 16 #[.int .u8 (c : Int)] w (NewBs w (filledL c)) := by
  obtain ⟨i0, hi, hz0, hz1, hz2⟩ := info_parts Try.info5
  go_enter Try.func16, Try.ntmps16
  go_wp2_with (at_make; refine wpList_make_full _ rfl (.const (.int .i64 256)) (.const (.int .i64 256)) 31 rfl w.heap.size 5 i0 (.int .u8 0) 1 Try.underlying31 hi hz0 hz1 .i64 .i64 256 256 256 rfl rfl rfl rfl (by rw [hz2]; omega) (by unfold maxLen; omega) (Nat.le_refl _) ?_; intro w1 hown hgrow)
  have hb1 : Below w.heap.size w w1 := (Below.refl _ _).grown hgrow (Nat.le_refl _) (by intro k hk; cases hk)
  rw [made_zeros, ← filledK_zero c] at hown
  go_loopw [8] (fun i wr => ∃ k : Nat, k ≤ 256 ∧ i = .int .i64 k ∧ wr.ownsRow w.heap.size 5 1 (.slice (some ⟨w.heap.size, 0, none⟩) 256 256) 256 (cellsB (filledK c k)) ∧ Below w.heap.size w wr) (fun i _ => 256 - (intOf i).toNat)
  case atStart => exact ⟨0, by omega, rfl, hown, hb1⟩
  case round =>
    obtain ⟨k, hk, rfl, o1, b1⟩ := hrel
    clear hown hb1 hgrow
    by_cases hk2 : k < 256
    · have hcl := owns_cell o1 (by simp [filledK]) k (by simp [filledK]; exact hk2)
      have hfz := o1.frozenAt k
      have hst := owns_byte o1 k ((c + k / 64) % 256)
      rw [filledK_set c k hk2] at hst
      have hb2 := b1.setCell (p := ⟨w.heap.size, k, none⟩) (Nat.le_refl _) (.int .u8 (((c + k / 64) % 256 : Nat) : Int))
      have hw1 : IntKind.u8.wrap ((c : Int) + (k : Int) / 64) = (((c + k / 64) % 256 : Nat) : Int) := by rw [IntKind.wrap_u8]; omega
      have hw0 : IntKind.u8.wrap ((k : Int) / 64) = (k : Int) / 64 := by rw [IntKind.wrap_u8]; omega
      generalize (c + k / 64) % 256 = y at *
      have Hst := hide hst
      have Hb2 := hide hb2
      clear hst hb2 o1
      go_wp2
      exact ⟨⟨k + 1, by omega, by go_num, Hst.out, Hb2.out⟩, by simp [intOf]; omega⟩
    · obtain rfl : k = 256 := by omega
      rw [filledK_end] at o1
      go_wp2
      go_ret
      exact ⟨_, rfl, by rw [filledL_length]; exact o1, b1⟩

/-- What an operation of a script writes. -/
def opBlock (fill : Nat) (len : Int) : List Nat := if 0 ≤ len then List.replicate (min len.toNat 600) 0 else filledL fill

theorem opBlock_lt (fill : Nat) (len : Int) : ∀ x ∈ opBlock fill len, x < 256 := by
  intro x hx
  simp only [opBlock] at hx
  split at hx
  · rw [List.eq_of_mem_replicate hx]; omega
  · exact filledL_lt _ _ hx
theorem opBlock_length (fill : Nat) (len : Int) : (opBlock fill len).length ≤ 600 := by
  simp only [opBlock]
  split
  · simp; omega
  · rw [filledL_length]; omega

set_option maxRecDepth 100000 in
set_option maxHeartbeats 400000 in
theorem block_any (d b : Int) (fill : Nat) (len n : Int) (vp : Value) (w : World) (hf : fill < 256) (hv : ∃ ao m c, vp = .slice ao m c) :
    Calls Try.prog 29 #[.agg #[.int .i64 d, .int .i64 b, .int .u8 (fill : Int), .int .i64 len, .int .i64 n, vp]] w (NewBs w (opBlock fill len)) := by
  obtain ⟨i0, hi, hz0, hz1, hz2⟩ := info_parts Try.info5
  obtain ⟨ao, mm, cc, rfl⟩ := hv
  by_cases hl : 0 ≤ len
  · obtain ⟨l, rfl⟩ := Int.eq_ofNat_of_zero_le hl
    have e : opBlock fill (l : Int) = List.replicate (min l 600) 0 := by simp [opBlock]
    rw [e]; clear e hl
    obtain ⟨q, hq⟩ : ∃ q, min l 600 = q := ⟨_, rfl⟩
    have hq6 : q ≤ 600 := by omega
    rw [hq]
    by_cases h6 : 600 < l
    · obtain rfl : q = 600 := by omega
      clear hq
      go_enter Try.func29, Try.ntmps29
      go_wp2_with (at_make; refine wpList_make_full _ rfl (.tmp 8) (.tmp 8) 31 rfl w.heap.size 5 i0 (.int .u8 0) 1 Try.underlying31 hi hz0 hz1 .i64 .i64 _ _ 600 rfl rfl rfl rfl (by rw [hz2]; omega) (by unfold maxLen; omega) (by simp) ?_; intro w1 hown hgrow)
      rw [made_zeros] at hown
      go_ret
      exact ⟨_, rfl, by simpa using hown, ((Below.refl _ _).alloc (Nat.le_refl _) _).grown hgrow (by simp) (by intro k hk; cases hk)⟩
    · obtain rfl : q = l := by omega
      clear hq
      go_enter Try.func29, Try.ntmps29
      go_wp2_with (at_make; refine wpList_make_full _ rfl (.tmp 8) (.tmp 8) 31 rfl w.heap.size 5 i0 (.int .u8 0) 1 Try.underlying31 hi hz0 hz1 .i64 .i64 _ _ q rfl rfl rfl rfl (by rw [hz2]; omega) (by unfold maxLen; omega) (by simp) ?_; intro w1 hown hgrow)
      rw [made_zeros] at hown
      go_ret
      exact ⟨_, rfl, by simpa using hown, ((Below.refl _ _).alloc (Nat.le_refl _) _).grown hgrow (by simp) (by intro k hk; cases hk)⟩
  · have e : opBlock fill len = filledL fill := by simp [opBlock, hl]
    rw [e]; clear e
    go_enter Try.func29, Try.ntmps29
    go_wp2_with fail
    refine (filled_any fill _ hf).mono ?_
    rintro e w1 ⟨v1, rfl, ho1, hb1⟩
    go_wp2
    go_ret
    exact ⟨_, rfl, owns_base ho1 (by simp), ((Below.refl _ _).alloc (Nat.le_refl _) _).trans (hb1.mono (by simp))⟩

end Go.Proofs.Ytjcobealnjkkcaa
