/- Contracts: the document's put and Blocks. -/
import Derived.Test.YtgdlbfoihpdlhaaI1
set_option linter.unusedSimpArgs false
set_option linter.unusedVariables false
namespace Go.Proofs.Ytgdlbfoihpdlhaa
open Go.RowKit Go.Attic

theorem cell_one_new (w : World) (x : Value) (t : TypeId) : ∀ j u, [x][j]? = some u → (w.alloc (.cells #[x] t)).cell? ((⟨w.heap.size, 0, none⟩ : Addr).add j) = some u := by
  intro j u hj
  match j, hj with
  | 0, hj => simp at hj; subst hj; simp [Addr.add]

set_option maxRecDepth 100000 in
set_option maxHeartbeats 1000000 in
theorem put_any {w : World} {v : Value} {zs : List Int} (n : Int) (h : Is w v zs) (hlen : zs.length ≤ 100000) :
    Calls Try.prog 32 #[v, .int .i64 n] w fun e w' => ∃ v', e = .returned v' ∧ w'.ownsRow w.heap.size 3 1 v' (putL zs n).length (cellsI (putL zs n)) ∧ Below w.heap.size w w' := by
  obtain ⟨i0, hi, hz0, hz1, hz2⟩ := info_parts Try.info3
  obtain ⟨a1, c1, rfl, -⟩ := h.slice
  obtain ⟨L, hL⟩ : ∃ L, zs.length = L := ⟨_, rfl⟩
  rw [hL] at hlen ⊢
  obtain ⟨G, hG⟩ : ∃ G, putL zs n = G := ⟨_, rfl⟩
  rw [hG]
  have H := hide h
  have HL := hide hL
  have HG := hide hG
  clear h hL hG
  go_enter Try.func32, Try.ntmps32
  go_wp2_with fail
  go_loopw [5, 6, 7] (fun ov dv iv wr => ∃ (i : Nat) (s : List Int × Bool), i ≤ L ∧ s.1.length ≤ i * 2 ∧ iv = .int .i64 (i : Int) ∧ (zs.take i).foldl (putS n) ([], false) = s ∧ dv = .bool s.2 ∧ wr.ownsRow w.heap.size 3 1 ov s.1.length (cellsI s.1) ∧ Below w.heap.size w wr) (fun _ _ iv _ => L - (intOf iv).toNat)
  case atStart => exact ⟨0, ([], false), Nat.zero_le _, Nat.le_refl _, rfl, by simp, rfl, World.ownsRow_nil _ _ _ _, Below.refl _ _⟩
  case round =>
    obtain ⟨i, s, hi', hsl, rfl, hst, rfl, hown, hbr⟩ := hrel
    obtain ⟨oa, oc, rfl⟩ := owns_slice hown
    have hwz := hbr.size
    by_cases hiL : i < L
    · obtain ⟨b1, o1, rfl, k0⟩ := is_at H.out i (by have := HL.out; omega)
      have k1 := (Keeps.of_below (S := fun _ => False) hbr).cell k0 id
      have hstx : (zs.take (i + 1)).foldl (putS n) ([], false) = putS n s (zs.getD i 0) := by
        have hil : i < zs.length := by have := HL.out; omega
        rw [List.take_succ_eq_append_getElem hil, List.foldl_append, hst]
        simp [List.getD, hil]
      generalize zs.getD i 0 = x at *
      have K0 := hide k0
      clear hst k0
      by_cases hx : x = n
      · have hst2 : (zs.take (i + 1)).foldl (putS n) ([], false) = (s.1 ++ [x], true) := by rw [hstx]; simp [putS, hx]
        clear hstx
        subst hx
        go_wp2_with (first | (at_builtin; refine wpList_append_own _ rfl (.tmp 34) (.tmp 39) 28 rfl w.heap.size 3 i0 (.int .i64 0) 1 8 Try.underlying28 hi hz0 hz1 hz2 rfl (by decide) _ _ (cellsI s.1) rfl (hown.alloc _) ⟨wr.heap.size, 0, none⟩ 1 1 [.int .i64 x] rfl rfl (cell_one_new _ _ _) (by simp [Value.oneCell']) (by unfold maxLen; omega) (by omega) (by simp; omega) ?_; intro v4 w4 hown4 hgrow4 _))
        have hb4 : Below w.heap.size w w4 := (hbr.alloc hbr.size _).grown hgrow4 (by simp; have := hbr.size; omega) (fun k hk => owns_lt hown k hk)
        rw [show cellsI s.1 ++ [.int .i64 x] = cellsI (s.1 ++ [x]) by simp [cellsI]] at hown4
        have Hst2 := hide hst2
        have Ho4 := hide hown4
        clear hown4 hgrow4 hown hst2
        go_roundw
        case rel => exact ⟨i + 1, (s.1 ++ [x], true), by omega, by simp; omega, by go_num, Hst2.out, rfl, by simpa using Ho4.out, hb4⟩
        case measure => simp [intOf]; omega
      · have hxb : (x == n) = false := by simp [hx]
        cases hd : s.2 with
        | true =>
          have hst2 : (zs.take (i + 1)).foldl (putS n) ([], false) = (s.1 ++ [x], true) := by rw [hstx]; simp [putS, hd]
          clear hstx
          go_wp2_with (first | (at_builtin; refine wpList_append_own _ rfl (.tmp 34) (.tmp 39) 28 rfl w.heap.size 3 i0 (.int .i64 0) 1 8 Try.underlying28 hi hz0 hz1 hz2 rfl (by decide) _ _ (cellsI s.1) rfl (hown.alloc _) ⟨wr.heap.size, 0, none⟩ 1 1 [.int .i64 x] rfl rfl (cell_one_new _ _ _) (by simp [Value.oneCell']) (by unfold maxLen; omega) (by omega) (by simp; omega) ?_; intro v4 w4 hown4 hgrow4 _))
          have hb4 : Below w.heap.size w w4 := (hbr.alloc hbr.size _).grown hgrow4 (by simp; have := hbr.size; omega) (fun k hk => owns_lt hown k hk)
          rw [show cellsI s.1 ++ [.int .i64 x] = cellsI (s.1 ++ [x]) by simp [cellsI]] at hown4
          have Hst2 := hide hst2
          have Ho4 := hide hown4
          clear hown4 hgrow4 hown hst2
          go_roundw
          case rel => exact ⟨i + 1, (s.1 ++ [x], true), by omega, by simp; omega, by go_num, Hst2.out, rfl, by simpa using Ho4.out, hb4⟩
          case measure => simp [intOf]; omega
        | false =>
          by_cases hnx : n < x
          · have hst2 : (zs.take (i + 1)).foldl (putS n) ([], false) = (s.1 ++ [n] ++ [x], true) := by rw [hstx]; simp [putS, hd, hx, hnx]
            have hdn : decide (n < x) = true := decide_eq_true hnx
            clear hstx
            go_wp2_with (first
              | (at_builtin; refine wpList_append_own _ rfl (.tmp 34) (.tmp 39) 28 rfl w.heap.size 3 i0 (.int .i64 0) 1 8 Try.underlying28 hi hz0 hz1 hz2 rfl (by decide) _ _ (cellsI (s.1 ++ [n])) rfl (Ho3.out.alloc _) ⟨w3.heap.size, 0, none⟩ 1 1 [.int .i64 x] rfl rfl (cell_one_new _ _ _) (by simp [Value.oneCell']) (by unfold maxLen; omega) (by omega) (by simp; omega) ?_; intro v4 w4 hown4 hgrow4 _)
              | (at_builtin; refine wpList_append_own _ rfl (.tmp 30) (.tmp 32) 28 rfl w.heap.size 3 i0 (.int .i64 0) 1 8 Try.underlying28 hi hz0 hz1 hz2 rfl (by decide) _ _ (cellsI s.1) rfl (hown.alloc _) ⟨wr.heap.size, 0, none⟩ 1 1 [.int .i64 n] rfl rfl (cell_one_new _ _ _) (by simp [Value.oneCell']) (by unfold maxLen; omega) (by omega) (by simp; omega) ?_; intro v3 w3 hown3 hgrow3 _
                 have hb3 : Below w.heap.size w w3 := (hbr.alloc hbr.size _).grown hgrow3 (by simp; have := hbr.size; omega) (fun k hk => owns_lt hown k hk)
                 have hz3 := hb3.size
                 have hk1 := (Keeps.of_below (S := fun _ => False) hb3).cell K0.out id
                 rw [show cellsI s.1 ++ [.int .i64 n] = cellsI (s.1 ++ [n]) by simp [cellsI]] at hown3
                 obtain ⟨oa3, oc3, rfl⟩ := owns_slice hown3
                 have Ho3 := hide hown3
                 clear hown3))
            have hb4 : Below w.heap.size w w4 := (hb3.alloc hz3 _).grown hgrow4 (by simp; omega) (fun k hk => owns_lt Ho3.out k hk)
            rw [show cellsI (s.1 ++ [n]) ++ [.int .i64 x] = cellsI (s.1 ++ [n] ++ [x]) by simp [cellsI]] at hown4
            have Hst2 := hide hst2
            have Ho4 := hide hown4
            clear hown4 hgrow4 hown hst2
            go_roundw
            case rel => exact ⟨i + 1, (s.1 ++ [n] ++ [x], true), by omega, by simp; omega, by go_num, Hst2.out, rfl, by simpa using Ho4.out, hb4⟩
            case measure => simp [intOf]; omega
          · have hst2 : (zs.take (i + 1)).foldl (putS n) ([], false) = (s.1 ++ [x], false) := by rw [hstx]; simp [putS, hd, hx, hnx]
            have hdn : decide (n < x) = false := decide_eq_false hnx
            clear hstx
            go_wp2_with (first | (at_builtin; refine wpList_append_own _ rfl (.tmp 34) (.tmp 39) 28 rfl w.heap.size 3 i0 (.int .i64 0) 1 8 Try.underlying28 hi hz0 hz1 hz2 rfl (by decide) _ _ (cellsI s.1) rfl (hown.alloc _) ⟨wr.heap.size, 0, none⟩ 1 1 [.int .i64 x] rfl rfl (cell_one_new _ _ _) (by simp [Value.oneCell']) (by unfold maxLen; omega) (by omega) (by simp; omega) ?_; intro v4 w4 hown4 hgrow4 _))
            have hb4 : Below w.heap.size w w4 := (hbr.alloc hbr.size _).grown hgrow4 (by simp; have := hbr.size; omega) (fun k hk => owns_lt hown k hk)
            rw [show cellsI s.1 ++ [.int .i64 x] = cellsI (s.1 ++ [x]) by simp [cellsI]] at hown4
            have Hst2 := hide hst2
            have Ho4 := hide hown4
            clear hown4 hgrow4 hown hst2
            go_roundw
            case rel => exact ⟨i + 1, (s.1 ++ [x], false), by omega, by simp; omega, by go_num, Hst2.out, rfl, by simpa using Ho4.out, hb4⟩
            case measure => simp [intOf]; omega
    · obtain rfl : i = L := by omega
      have hz : zs.take i = zs := List.take_of_length_le (by have := HL.out; omega)
      rw [hz] at hst
      have hG2 : G = if s.2 = true then s.1 else s.1 ++ [n] := by rw [← HG.out, putL, hst]
      clear hz hst
      cases hd : s.2 with
      | true =>
        have hG3 : G = s.1 := by rw [hG2, hd]; rfl
        clear hG2
        go_wp2_with fail
        go_ret
        exact ⟨_, rfl, by rw [hG3]; exact hown, hbr⟩
      | false =>
        have hG3 : G = s.1 ++ [n] := by rw [hG2, hd]; rfl
        clear hG2
        go_wp2_with (first | (at_builtin; refine wpList_append_own _ rfl (.tmp 43) (.tmp 45) 28 rfl w.heap.size 3 i0 (.int .i64 0) 1 8 Try.underlying28 hi hz0 hz1 hz2 rfl (by decide) _ _ (cellsI s.1) rfl (hown.alloc _) ⟨wr.heap.size, 0, none⟩ 1 1 [.int .i64 n] rfl rfl (cell_one_new _ _ _) (by simp [Value.oneCell']) (by unfold maxLen; omega) (by omega) (by simp; omega) ?_; intro v4 w4 hown4 hgrow4 _))
        have hb4 : Below w.heap.size w w4 := (hbr.alloc hbr.size _).grown hgrow4 (by simp; have := hbr.size; omega) (fun k hk => owns_lt hown k hk)
        go_ret
        exact ⟨_, rfl, by rw [hG3]; simpa [cellsI] using hown4, hb4⟩

set_option maxRecDepth 100000 in
set_option maxHeartbeats 1000000 in
theorem rblocks_any {w : World} {F : Nat → Prop} {v : Value} {rs : List Rc} (h : Rs w F v rs) (hlen : rs.length ≤ 1000) :
    Calls Try.prog 13 #[v] w fun e w' => ∃ v', e = .returned v' ∧ w'.ownsRow w.heap.size 3 1 v' (blocksN rs).length (cellsI (blocksN rs)) ∧ Below w.heap.size w w' := by
  obtain ⟨ao, cap, e, hcap⟩ := h.slice
  subst e
  obtain ⟨L, hL⟩ : ∃ L, rs.length = L := ⟨_, rfl⟩
  rw [hL] at hlen hcap ⊢
  have H := hide h
  have HL := hide hL
  clear h hL
  go_enter Try.func13, Try.ntmps13
  go_wp2_with fail
  go_loopw [3, 4] (fun ov iv wr => ∃ i : Nat, i ≤ L ∧ iv = .int .i64 (i : Int) ∧ wr.ownsRow w.heap.size 3 1 ov (blocksN (rs.take i)).length (cellsI (blocksN (rs.take i))) ∧ Below w.heap.size w wr) (fun _ iv _ => L - (intOf iv).toNat)
  case atStart => exact ⟨0, Nat.zero_le _, rfl, by simpa [blocksN, blks, cellsI] using World.ownsRow_nil _ _ _ _, Below.refl _ _⟩
  case round =>
    obtain ⟨i, hi, rfl, hown, hbr⟩ := hrel
    obtain ⟨oa, oc, rfl⟩ := owns_slice hown
    by_cases hiL : i < L
    · have hkl : i < rs.length := by have := HL.out; omega
      obtain ⟨-, b1, o1, u1, rfl, -, hat, hub, -⟩ := (H.out.mono hbr).at i hkl
      have hsn := blks_snoc (rs.take i) rs[i]
      rw [← List.take_succ_eq_append_getElem hkl] at hsn
      have hbl := blocksN_len (rs.take i)
      rw [List.length_take] at hbl
      generalize rs[i] = x at *
      have x0 := hat.c0
      have x1 := hat.c1
      clear hat hub
      by_cases hk1 : x.k = 1
      · have hbn : blocksN (rs.take (i + 1)) = putL (blocksN (rs.take i)) x.b := by
          unfold blocksN
          rw [hsn, if_pos hk1, List.foldl_append]
          rfl
        have hput := put_any x.b (Is.of_owns hown) (by omega)
        rw [← hbn] at hput
        have Hput := hide hput
        have hkb : (x.k == 1) = true := by simp [hk1]
        have Hk1 := hide hk1
        clear hsn hbn hput hk1
        go_wp2_with fail
        refine Hput.out.mono ?_
        rintro e w4 ⟨v4, rfl, ho4, hb4⟩
        have hb04 := hbr.trans (hb4.mono hbr.size)
        have Ho4 := hide (owns_base ho4 hbr.size)
        clear ho4 hown
        go_wp2_with fail
        go_roundw
        case rel => exact ⟨i + 1, by omega, by go_num, Ho4.out, hb04⟩
        case measure => simp [intOf]; omega
      · have hbn : blocksN (rs.take (i + 1)) = blocksN (rs.take i) := by
          unfold blocksN
          rw [hsn, if_neg hk1, List.append_nil]
        have hkb : (x.k == 1) = false := by simp [hk1]
        rw [← hbn] at hown ⊢
        have Ho := hide hown
        clear hsn hbn hown hk1
        go_wp2_with fail
        go_roundw
        case rel => exact ⟨i + 1, by omega, by go_num, Ho.out, hbr⟩
        case measure => simp [intOf]; omega
    · obtain rfl : i = L := by omega
      have hz : rs.take i = rs := List.take_of_length_le (by have := HL.out; omega)
      rw [hz] at hown ⊢
      have Ho := hide hown
      clear hz hown
      go_wp2_with fail
      go_ret
      exact ⟨_, rfl, Ho.out, hbr⟩

end Go.Proofs.Ytgdlbfoihpdlhaa
