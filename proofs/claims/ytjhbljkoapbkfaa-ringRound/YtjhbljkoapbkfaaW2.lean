/- Contracts: bytes.Clone, slices.Grow, slices.Concat, Seal. -/
import Derived.Test.YtjhbljkoapbkfaaW1
import Derived.Test.YtjhbljkoapbkfaaBase
import Derived.Lib.SlBytesConst
import Derived.Lib.AppendZeros
set_option linter.unusedSimpArgs false
set_option linter.unusedVariables false
namespace Go.Proofs.Ytjhbljkoapbkfaa
open Go.RowKit Go.Attic

theorem NewBs.bs {w w' : World} {v : Value} {l : List Nat} (h : w'.ownsRow w.heap.size 5 1 v l.length (cellsB l)) (hx : ∀ x ∈ l, x < 256) : Bs w' v l := Bs.of_owns h hx

/-- A slice that is laid as it is written. -/
theorem Bs.lit (w : World) (e : TypeId) (l : List Nat) (cs : Array Value) (hcs : cs.toList = cellsB l) (hx : ∀ x ∈ l, x < 256) (m : Nat × Nat := (0, 0)) :
    Bs (w.alloc (.cells cs e m)) (.slice (some ⟨w.heap.size, 0, none⟩) l.length l.length) l := by
  refine ⟨_, _, rfl, Nat.le_refl _, by simp, hx, fun _ => ⟨w.heap.size, 0, rfl, fun i hi => ?_⟩⟩
  have h2 : cs[i]? = some (.int .u8 ((l.getD i 0 : Nat) : Int)) := by
    rw [← Array.getElem?_toList, hcs]
    simp [cellsB, List.getD, hi]
  rw [Nat.zero_add]
  simp only [World.cell?, World.alloc, Array.getElem?_push, if_true]
  exact h2

/-- The same, one block further on, as the walk spells it. -/
theorem Bs.lit2 (w : World) (o : Obj) (e : TypeId) (l : List Nat) (cs : Array Value) (n : Nat) (hn : n = l.length) (hcs : cs.toList = cellsB l) (hx : ∀ x ∈ l, x < 256) (m : Nat × Nat) :
    Bs ((w.alloc o).alloc (.cells cs e m)) (.slice (some ⟨w.heap.size + 1, 0, none⟩) n n) l := by
  have := Bs.lit (w.alloc o) e l cs hcs hx m
  subst hn
  simpa using this


set_option maxRecDepth 100000 in
set_option maxHeartbeats 400000 in
theorem clone_any (v : Value) (l : List Nat) (w : World) (h : Bs w v l) (hlen : l.length ≤ 140737488355328) :
    Calls Try.prog 52 #[v] w (NewBs w l) := by
  obtain ⟨i0, hi, hz0, hz1, hz2⟩ := info_parts Try.info5
  have h' := h
  obtain ⟨ao, cap, rfl, hl, hnn, hx, hc⟩ := h
  cases ao with
  | none =>
    obtain ⟨h1, rfl, rfl⟩ := h'.none
    have hnil : ∀ w, (binOp .eql 23 (.slice none 0 0) (.slice none 0 0)).run Try.prog w = .ok (.bool true) w := fun w => Lib.run_eql_slice_nil (P := Try.prog) w 23 5 none 0 0 0 0 Try.underlying23
    clear hc hnn h'
    simp only [List.length_nil]
    go_enter Try.func52, Try.ntmps52
    go_wp2
    go_ret
    exact ⟨_, rfl, World.ownsRow_nil _ _ _ _, Below.refl _ _⟩
  | some ad =>
    have hnil := fun w => Lib.run_eql_slice_nil (P := Try.prog) w 23 5 (some ad) l.length cap 0 0 Try.underlying23
    clear hc
    go_enter Try.func52, Try.ntmps52
    go_wp2_with (at_builtin; refine wpList_append_bs _ rfl (.tmp 5) (.tmp 6) 23 rfl w.heap.size 5 i0 (.int .u8 0) Try.underlying23 hi hz0 hz1 hz2 rfl _ 0 [] rfl (World.ownsRow_lit w #[] 0 (Nat.le_refl _) (by simp) (by simp)) _ l rfl (h'.alloc _) (by omega) (by simp) ?_; intro v' w1 hown hgrow)
    have hb : Below w.heap.size w w1 := ((Below.refl _ _).alloc (Nat.le_refl _) _).grown hgrow (by simp) (by intro k hk; have e : some w.heap.size = some k := hk; injection e with e; omega)
    rw [Nat.zero_add, List.nil_append] at hown
    go_ret
    exact ⟨_, rfl, hown, hb⟩


/-- What a call owns stays its own where nothing that was there turns. -/
theorem owns_below {w w' : World} {B base : Nat} {e : TypeId} {size : Nat} {v : Value} {n : Nat} {xs : List Value} (h : w.ownsRow base e size v n xs) (hb : Below B w w') (hB : w.heap.size ≤ B) : w'.ownsRow base e size v n xs := by
  refine ⟨h.1, ?_⟩
  rcases h.2 with hn | ⟨g, cap, cur, rfl, hb', hgg, rest⟩
  · exact .inl hn
  · refine .inr ⟨g, cap, cur, rfl, hb', ?_, rest⟩
    rw [hb.block g (by have := (Array.getElem?_eq_some_iff.1 hgg).1; omega)]
    exact hgg

theorem num4 (v : Nat) : numL 4 v = numN 4 v := by simp [numL, widthB]

/-- A new slice and an error. -/
def NewBsE (w : World) (l : List Nat) (x : Int) (e : Ending) (w' : World) : Prop :=
  ∃ v, e = .returned (.tuple #[v, .int .i64 x]) ∧ w'.ownsRow w.heap.size 5 1 v l.length (cellsB l) ∧ Below w.heap.size w w'

/-- Bytes with their sum. -/
def sealN (l : List Nat) : List Nat := l ++ numN 4 (sumN l)
theorem sealN_lt {l : List Nat} (h : ∀ x ∈ l, x < 256) : ∀ x ∈ sealN l, x < 256 := by
  intro x hx
  rcases List.mem_append.1 hx with hx | hx
  · exact h x hx
  · exact numN_lt _ _ x hx
theorem sealN_length (l : List Nat) : (sealN l).length = l.length + 4 := by simp [sealN, numN_length]

theorem Try.cells23 : Try.prog.cellsOf 23 = 1 := by kernel_rfl

set_option maxRecDepth 100000 in
set_option maxHeartbeats 400000 in
theorem grow_nil (n : Nat) (w : World) (h0 : 0 < n) (hn : n ≤ 140737488355328) :
    Calls Try.prog 76 #[.slice none 0 0, .int .i64 n] w (NewBs w []) := by
  obtain ⟨i0, hi, hz0, hz1, hz2⟩ := info_parts Try.info5
  have hr := fun (w : World) => Lib.run_append_nil_zeros (P := Try.prog) w 23 3 23 5 i0 (.int .u8 0) .i64 .i64 Try.underlying23 Try.underlying3 hi hz0 n h0 (by omega) (by omega) (by rw [hz2]; omega)
  go_enter Try.func76, Try.ntmps76
  go_wp2_with (at_builtin; refine Lib.wpList_append_run _ rfl (.tmp 20) (.tmp 21) 23 3 rfl _ _ rfl rfl _ _ (hr _) ?_)
  go_ret
  have hcap := grownCap_ge w n 0 5
  refine ⟨_, rfl, ?_, ((Below.refl _ _).alloc (Nat.le_refl _) _).drew⟩
  exact (World.ownsRow_made w _ (grownCap w n 0 5) (Nat.le_refl _) (grownCap_le_maxLen w n 0 5 (by unfold maxLen; omega)) (by simp [size_zeroCells]; omega)).drew

/-- A slice of slices of bytes. -/
def Bss (w : World) (v : Value) (ls : List (List Nat)) : Prop :=
  ∃ b off cap, v = .slice (some ⟨b, off, none⟩) ls.length cap ∧ ∀ i, i < ls.length → ∃ u, w.cell? ⟨b, off + i, none⟩ = some u ∧ Bs w u (ls.getD i [])

theorem flat_len (ls : List (List Nat)) (k : Nat) (hk : k < ls.length) : (ls.take (k + 1)).flatten = (ls.take k).flatten ++ ls.getD k [] := by
  rw [List.take_succ_eq_append_getElem hk, List.flatten_append]
  simp [List.getD, hk]
theorem flat_le (ls : List (List Nat)) (k : Nat) : (ls.take k).flatten.length ≤ ls.flatten.length := by
  conv => rhs; rw [← List.take_append_drop k ls, List.flatten_append, List.length_append]
  omega

set_option maxRecDepth 100000 in
set_option maxHeartbeats 400000 in
theorem concat_any (v : Value) (ls : List (List Nat)) (w : World) (h : Bss w v ls) (hn : ls.length ≤ 140737488355328) (h0 : 0 < ls.flatten.length) (hlen : ls.flatten.length ≤ 140737488355328) :
    Calls Try.prog 69 #[v] w (NewBs w ls.flatten) := by
  obtain ⟨i0, hi, hz0, hz1, hz2⟩ := info_parts Try.info5
  obtain ⟨b, off, cap, rfl, hcell⟩ := h
  go_enter Try.func69, Try.ntmps69
  go_wp2
  go_loop [3, 11] (fun s i => ∃ k : Nat, k ≤ ls.length ∧ i = .int .i64 k ∧ s = .int .i64 ((ls.take k).flatten.length : Nat)) (fun _ i => ls.length - (intOf i).toNat)
  case atStart => exact ⟨0, Nat.zero_le _, rfl, rfl⟩
  case round =>
    obtain ⟨k, hk, rfl, rfl⟩ := hrel
    have hfl := flat_le ls k
    by_cases hkn : k < ls.length
    · obtain ⟨u, hcu, hbu⟩ := hcell k hkn
      have hfk := flat_len ls k hkn
      have hfl2 := flat_le ls (k + 1)
      rw [hfk, List.length_append] at hfl2
      generalize ls.getD k [] = lk at *
      obtain ⟨ao, cp, rfl, hcp, _⟩ := hbu
      have Hfk := hide hfk
      clear hfk hcell
      generalize (ls.take k).flatten = fk at *
      go_wp2_with fail
      go_round
      case rel => exact ⟨k + 1, by omega, by go_num, by rw [Hfk.out, List.length_append]; go_num⟩
      case measure => simp [intOf]; omega
    · obtain rfl : k = ls.length := by omega
      rw [List.take_length]
      generalize hN : ls.flatten.length = N at *
      have HN := hide hN
      clear hN hfl
      go_wp2_with fail
      refine (grow_nil N _ h0 hlen).mono ?_
      rintro e w1 ⟨v1, rfl, hown1, hb1⟩
      have Hcell := hide hcell
      clear hcell
      go_wp2_with fail
      go_loopw [6, 27] (fun v i wr => ∃ k : Nat, k ≤ ls.length ∧ i = .int .i64 k ∧ wr.ownsRow w.heap.size 5 1 v (ls.take k).flatten.length (cellsB (ls.take k).flatten) ∧ Below w.heap.size w wr) (fun _ i _ => ls.length - (intOf i).toNat)
      case atStart => exact ⟨0, Nat.zero_le _, rfl, hown1, hb1⟩
      case round =>
        obtain ⟨k, hk, rfl, hown, hb⟩ := hrel
        clear hown1 hb1
        by_cases hkn : k < ls.length
        · obtain ⟨u, hcu, hbu⟩ := Hcell.out k hkn
          have hcu2 : wr.cell? ⟨b, off + k, none⟩ = some u := by
            rw [hb.cell (p := ⟨b, off + k, none⟩) (by have := World.block_lt_of_cell? w _ hcu; simpa using this)]; exact hcu
          have hbu2 := hbu.below hb (Nat.le_refl _)
          have hfk := flat_len ls k hkn
          have hfl2 := flat_le ls (k + 1)
          rw [HN.out] at hfl2
          rw [hfk, List.length_append] at hfl2
          generalize ls.getD k [] = lk at *
          have Hfk := hide hfk
          clear hfk hcu hbu
          generalize (ls.take k).flatten = fk at *
          go_wp2_with (at_builtin; go_loud (refine wpList_append_bs _ rfl (.tmp 31) (.tmp 32) 23 rfl w.heap.size 5 i0 (.int .u8 0) Try.underlying23 hi hz0 hz1 hz2 rfl _ _ fk rfl hown _ lk rfl hbu2 (by omega) hb.size ?_); intro v4 w4 hown4 hgrow4)
          have hb4 : Below w.heap.size w w4 := hb.grown hgrow4 hb.size (owns_lt hown)
          clear hgrow4 hown hb
          go_wp2_with fail
          go_roundw
          case rel => exact ⟨k + 1, by omega, by go_num, by rw [Hfk.out, List.length_append]; exact hown4, hb4⟩
          case measure => simp [intOf]; omega
        · obtain rfl : k = ls.length := by omega
          rw [List.take_length] at hown
          go_wp2
          go_ret
          exact ⟨_, rfl, hown, hb⟩

theorem Bss.two {w : World} {v1 v2 : Value} {l1 l2 : List Nat} (e : TypeId) (h1 : Bs w v1 l1) (h2 : Bs w v2 l2) : Bss (w.alloc (.cells #[v1, v2] e)) (.slice (some ⟨w.heap.size, 0, none⟩) 2 2) [l1, l2] := by
  refine ⟨w.heap.size, 0, 2, rfl, fun i hi => ?_⟩
  match i, hi with
  | 0, _ => exact ⟨v1, by simp, h1.alloc _⟩
  | 1, _ => exact ⟨v2, by simp, h2.alloc _⟩

set_option maxRecDepth 100000 in
set_option maxHeartbeats 400000 in
theorem seal_any (v : Value) (l : List Nat) (w : World) (h : Bs w v l) (hlen : l.length + 4 ≤ 140737488355328) :
    Calls Try.prog 62 #[v] w (NewBs w (sealN l)) := by
  have hs := sumN_lt l
  go_enter Try.func62, Try.ntmps62
  go_wp2_with fail
  refine (sum_any _ l _ h (by omega)).mono ?_
  rintro e w2 ⟨rfl, rfl⟩
  go_wp2_with fail
  have h4 := num_any 4 (sumN l) w (by omega)
  rw [num4] at h4
  refine h4.mono ?_
  rintro e w2 ⟨v2, rfl, hown2, hb2⟩
  clear h4
  have hbs2 := Bs.of_owns hown2 (numN_lt _ _)
  have hbs := h.mono hb2
  obtain ⟨ao2, cap2, rfl, _, _⟩ := owns_form hown2
  obtain ⟨ao1, cap1, rfl, _⟩ := h
  clear hown2
  go_wp2_with fail
  refine (concat_any _ [l, numN 4 (sumN l)] _ (Bss.two _ hbs hbs2) (by simp) (by simp [numN_length]) (by simp [numN_length]; omega)).mono ?_
  rintro e w3 ⟨v3, rfl, hown3, hb3⟩
  go_wp2
  go_ret
  have hz := hb2.size
  have hz3 := hb3.size
  simp at hz3
  refine ⟨v3, rfl, ?_, (hb2.alloc hz _).trans (hb3.mono (by simp; omega))⟩
  have e : [l, numN 4 (sumN l)].flatten = sealN l := by simp [sealN]
  rw [e] at hown3
  exact owns_base hown3 (by simp; omega)


end Go.Proofs.Ytjhbljkoapbkfaa
