/- Contract: begun. -/
import Derived.Test.YtgdlbfoihpdlhaaK7
import Derived.Test.YtgdlbfoihpdlhaaK5
import Derived.Test.YtgdlbfoihpdlhaaC2
import Derived.Test.YtgdlbfoihpdlhaaL4
import Derived.Deep.RegionLaw
set_option linter.unusedSimpArgs false
set_option linter.unusedVariables false
namespace Go.Proofs.Ytgdlbfoihpdlhaa
open Go.RowKit Go.Attic

def pageZ : List Nat := List.replicate 256 0
def pageN : List Nat := ((pageZ.set 3 1).set 5 1).set 50 1
def recA : Rc := ⟨1, 7, 3, 0, [1, 0, 1]⟩
def recB : Rc := ⟨1, 7, 50, 0, [1]⟩
def recC : Rc := ⟨2, 0, 0, 2, []⟩
theorem cut_begun : cutU 7 pageZ pageN 6 = [recA, recB] := by kernel_rfl
theorem redo_begun : redoR pageZ 7 [recA, recB] = (pageN, 0) := by kernel_rfl
theorem commit_begun : commit [recA, recB, recC] = ([recA, recB], 3) := by kernel_rfl
theorem pageZ_len : pageZ.length = 256 := by kernel_rfl
theorem pageN_len : pageN.length = 256 := by kernel_rfl
theorem pageZ_lt : ∀ x ∈ pageZ, x < 256 := by intro x hx; have := List.eq_of_mem_replicate hx; omega
theorem pageN_lt : ∀ x ∈ pageN, x < 256 := by
  intro x hx
  rcases List.mem_or_eq_of_mem_set hx with hx | rfl
  · rcases List.mem_or_eq_of_mem_set hx with hx | rfl
    · rcases List.mem_or_eq_of_mem_set hx with hx | rfl
      · exact pageZ_lt x hx
      · omega
    · omega
  · omega

theorem pages_new (w : World) (Z : Array Value) (hZ : Z.toList = cellsB pageZ) (g : Nat) (hg : g = w.heap.size ∨ g = w.heap.size + 1) :
    ((w.alloc (.cells Z 5)).alloc (.cells Z 5)).drew.ownsRow w.heap.size 5 1 (.slice (some ⟨g, 0, none⟩) 256 256) 256 (cellsB pageZ) := by
  have hl : (cellsB pageZ).length = 256 := by rw [cellsB_length, pageZ_len]
  have hs : Z.size = 256 := by rw [← Array.length_toList, hZ, hl]
  have hh : ((w.alloc (.cells Z 5)).alloc (.cells Z 5)).drew.heap[g]? = some (.cells Z 5 (0, 0)) := by
    rcases hg with rfl | rfl
    · exact (Below.heap_alloc _ _ _ (by simp)).trans (World.alloc_heap_new w _)
    · have h := World.alloc_heap_new (w.alloc (.cells Z 5)) (.cells Z 5)
      rw [World.size_alloc] at h
      exact h
  refine ⟨by rw [hl], .inr ⟨g, 256, Z, rfl, by omega, hh, Nat.le_refl _, by unfold maxLen; omega, by omega, ?_⟩⟩
  rw [hZ, List.take_of_length_le (by omega)]

set_option maxRecDepth 100000 in
set_option maxHeartbeats 4000000 in
theorem begun_any (w : World) : Calls Try.prog 9 #[] w fun e w' => e = .returned (.bool true) ∧ Below w.heap.size w w' := by
  obtain ⟨i0, hi, hz0, hz1, hz2⟩ := info_parts Try.info48
  obtain ⟨Z, hZ⟩ : ∃ Z, madeCells (Value.int .u8 0).cells (256 * 1) = Z := ⟨_, rfl⟩
  have hZl : Z.toList = cellsB pageZ := by rw [← hZ]; exact made_zeros 256
  have hmk : ∀ W : World, (Instr.makeSlice 37 (.int .i64 256) (.int .i64 256)).run Try.prog W = .ok (.slice (some ⟨W.heap.size, 0, none⟩) 256 256) (W.alloc (.cells Z 5)) := fun W => by rw [← hZ]; kernel_rfl
  have HZl := hide hZl
  clear hZ hZl
  go_enter Try.func9, Try.ntmps9
  go_wp2_with fail
  go_region_law (first | fail)
  · have hO := pages_new w Z HZl.out w.heap.size (by omega)
    have hN := pages_new w Z HZl.out (w.heap.size + 1) (by omega)
    have hB0 : Below w.heap.size w ((w.alloc (.cells Z 5)).alloc (.cells Z 5)).drew := (((Below.refl _ w).alloc (Nat.le_refl _) _).alloc (by simp) _).drew
    have hVz : ((w.alloc (.cells Z 5)).alloc (.cells Z 5)).drew.heap.size = w.heap.size + 2 := by simp
    obtain ⟨gO, hgO⟩ : ∃ g, w.heap.size = g := ⟨_, rfl⟩
    obtain ⟨gN, hgN⟩ : ∃ g, (w.heap.size + 1) = g := ⟨_, rfl⟩
    have hOb : w.heap.size ≤ gO ∧ gO < w.heap.size + 2 := by omega
    have hNb : w.heap.size ≤ gN ∧ gN < w.heap.size + 2 := by omega
    have hne : gO ≠ gN := by omega
    generalize ((w.alloc (.cells Z 5)).alloc (.cells Z 5)).drew = V at *
    rw [hgN] at hN ⊢
    rw [hgO] at hO ⊢
    clear hmk HZl
    have hN1 := owns_set hN 3 1
    have hN2 := owns_set hN1 5 1
    have hN3 := owns_set hN2 50 1
    have f3 := hN.frozenAt 3
    have f5 := hN.frozenAt 5
    have f50 := hN.frozenAt 50
    have c3 := owns_cell hN pageZ_len.symm 3 (by rw [pageZ_len]; omega)
    have c5 := owns_cell hN pageZ_len.symm 5 (by rw [pageZ_len]; omega)
    have c50 := owns_cell hN pageZ_len.symm 50 (by rw [pageZ_len]; omega)
    generalize pageZ.getD 3 0 = z3 at *
    generalize pageZ.getD 5 0 = z5 at *
    generalize pageZ.getD 50 0 = z50 at *
    have hO3 := ownsRow_setCell_other (ownsRow_setCell_other (ownsRow_setCell_other hO (a := ⟨gN, 3, none⟩) (by simp [Value.ownBlock]; exact hne) (.int .u8 ((1 : Nat) : Int))) (a := ⟨gN, 5, none⟩) (by simp [Value.ownBlock]; exact hne) (.int .u8 ((1 : Nat) : Int))) (a := ⟨gN, 50, none⟩) (by simp [Value.ownBlock]; exact hne) (.int .u8 ((1 : Nat) : Int))
    have hB3 : Below w.heap.size w (((V.setCell ⟨gN, 3, none⟩ (.int .u8 ((1 : Nat) : Int))).setCell ⟨gN, 5, none⟩ (.int .u8 ((1 : Nat) : Int))).setCell ⟨gN, 50, none⟩ (.int .u8 ((1 : Nat) : Int))) := ((hB0.setCell (p := ⟨gN, 3, none⟩) hNb.1 _).setCell (p := ⟨gN, 5, none⟩) hNb.1 _).setCell (p := ⟨gN, 50, none⟩) hNb.1 _
    have hO4 : Bs _ (.slice (some ⟨gO, 0, none⟩) 256 256) pageZ := Bs.of_owns hO3 pageZ_lt
    have hN4 : Bs _ (.slice (some ⟨gN, 0, none⟩) 256 256) pageN := Bs.of_owns hN3 pageN_lt
    have HO4 := hide hO4
    have HN4 := hide hN4
    have HB3 := hide hB3
    clear hO hN hN1 hN2 hN3 hO3 hO4 hN4 hB3
    have e1 : ((1 : Nat) : Int) = 1 := rfl
    rw [e1] at HO4 HN4 HB3
    simp only [Act.put, List.setIfInBounds_toArray, List.set_cons_zero, List.set_cons_succ]
    clear e1
    go_wp2_with fail
    obtain ⟨W3, hW3⟩ : ∃ W3, ((V.setCell ⟨gN, 3, none⟩ (.int .u8 1)).setCell ⟨gN, 5, none⟩ (.int .u8 1)).setCell ⟨gN, 50, none⟩ (.int .u8 1) = W3 := ⟨_, rfl⟩
    rw [hW3] at HO4 HN4 HB3 ⊢
    clear hW3 f3 f5 f50 c3 c5 c50 hB0 hVz
    have hc := cut_yes (block := 7) (by omega) HO4.out HN4.out
    rw [cut_begun] at hc
    refine hc.mono ?_
    rintro e w4 ⟨lv, p4, vs4, rfl, hrw4, hb4⟩
    clear hc
    obtain ⟨la, lc, rfl⟩ := owns_slice hrw4.row
    have hz3 := HB3.out.size
    have hz4 := hb4.size
    have hr := redo_any 7 (HO4.out.mono hb4) (by rw [pageZ_len]; omega) hrw4.rs (by simp) (by simp [recA, recB])
    rw [redo_begun] at hr
    have HR := hide hr
    have Hrw4 := hide hrw4
    clear hr hrw4
    go_wp2_with fail
    refine HR.out.mono ?_
    rintro e w5 ⟨rv, rfl, hor, hb5⟩
    have hz5 := hb5.size
    rw [pageN_len] at hor
    obtain ⟨ra, rc, rfl⟩ := owns_slice hor
    have hrw5 := Hrw4.out.mono hb5
    have hcl := cloneR_any hrw5 (by simp)
    have Hcl := hide hcl
    have Hor := hide hor
    have Hrw5 := hide hrw5
    clear HR hcl hor hrw5
    go_wp2_with fail
    refine Hcl.out.mono ?_
    rintro e w6 ⟨v6, rfl, ho6, hb6⟩
    have hz6 := hb6.size
    obtain ⟨a6, c6, rfl⟩ := owns_slice ho6
    have hrw6 := Rw.cloned Hrw5.out (by omega) ho6 hb6
    have hrowA := (Keeps.alloc (S := fun _ => False) w6 (.cells #[.int .i64 2, .int .i64 0, .int .i64 0, .slice none 0 0, .int .i64 2] 48)).owns hrw6.row (fun _ _ => id)
    have Hrw6 := hide hrw6
    have Ho6 := hide ho6
    clear Hcl hrw6 ho6
    go_wp2_with (at_builtin; refine wpList_append_own_at _ rfl (.tmp 31) (.tmp 33) 22 rfl 0 48 i0 (.agg #[.int .i64 0, .int .i64 0, .int .i64 0, .slice none 0 0, .int .i64 0]) 5 56 Try.underlying22 hi hz0 hz1 hz2 rfl (by decide) (.slice a6 2 c6) _ _ rfl hrowA ⟨w6.heap.size, 0, none⟩ 1 1 [.int .i64 2, .int .i64 0, .int .i64 0, .slice none 0 0, .int .i64 2] rfl rfl (cell_five_new _ _ _ _ _ _ _) (by simp [Value.oneCell']) (by simp [maxLen]) (by simp) (by omega) ?_; intro v7 w7 hown7 hgrow7 _ hkin7)
    have hR7 := Rw.tail0 (r := recC) Hrw6.out (by omega) rfl hown7 hgrow7 (by simpa using hkin7)
    have hB47 : Below w4.heap.size w4 w7 := ((hb5.trans (hb6.mono hz5)).alloc (by omega) _).grown hgrow7 (by simp; omega) (fun k hk => by have := owns_lt Ho6.out k hk; omega)
    have hz7 := hB47.size
    have hcm := comm_any hR7.rs (by simp) (by simp [recA, recB, recC])
    rw [show [recA, recB] ++ [recC] = [recA, recB, recC] from rfl, commit_begun] at hcm
    have hcm2 : Calls Try.prog 11 #[v7] w7 (NewRcN w7 [recA, recB] 3) := hcm
    have Hcm := hide hcm2
    clear hcm2
    have Hg7 := hide hgrow7
    clear hcm hR7 hown7 hgrow7 hkin7 hrowA
    refine Hcm.out.mono ?_
    rintro e w8 ⟨qv, p8, vs8, rfl, hrw8, hb8⟩
    obtain ⟨qa, qc, rfl⟩ := owns_slice hrw8.row
    have hB48 := hB47.trans (hb8.mono hz7)
    have hB8 : Below w.heap.size w w8 := HB3.out.trans ((hb4.trans (hB48.mono hz4)).mono hz3)
    have hz8 := hB8.size
    obtain ⟨bl, ol, cl, u, e1, hat, hub⟩ := (Hrw4.out.rs.mono hB48).first
    injection e1 with e1 _ e2
    subst e1 e2
    obtain ⟨ua, uc, rfl, -⟩ := id hub
    have k2 := hat.c2
    have k3 := hat.c3
    have e3 : recA.o = 3 := rfl
    have e4 : recA.l = [1, 0, 1] := rfl
    have e5 : ([1, 0, 1] : List Nat).length = 3 := rfl
    rw [e3] at k2
    rw [e4, e5] at k3
    rw [e4, e5] at hub
    have hlit : Bs (w8.alloc (.cells #[.int .u8 1, .int .u8 0, .int .u8 1] 5)) (.slice (some ⟨w8.heap.size, 0, none⟩) 3 3) [1, 0, 1] := Bs.lit w8 5 [1, 0, 1] _ rfl (by decide)
    have heq1 := equal_any _ _ _ _ _ (hub.alloc (.cells #[.int .u8 1, .int .u8 0, .int .u8 1] 5)) hlit
    rw [decide_eq_true rfl] at heq1
    have hpn := Bs.of_owns Hor.out pageN_lt
    have hB58 : Below w5.heap.size w5 w8 := (((hb6.alloc hz6 _).grown Hg7.out (by simp; omega) (fun k hk => owns_lt Ho6.out k hk)).trans (hb8.mono (by have := hb6.size; have := Hg7.out.size; simp at this; omega)))
    have hp8 := (hpn.mono hB58).alloc (.cells #[.int .u8 1, .int .u8 0, .int .u8 1] 5)
    have hn8 := ((HN4.out.mono (hb4.trans (hB48.mono hz4)))).alloc (.cells #[.int .u8 1, .int .u8 0, .int .u8 1] 5)
    have heq2 := equal_any _ _ _ _ _ hp8 hn8
    rw [decide_eq_true rfl] at heq2
    have Heq1 := hide heq1
    have Heq2 := hide heq2
    clear heq1 heq2 hp8 hn8 hpn hlit hub hat e3 e4 e5
    go_wp2_with fail
    refine Heq1.out.mono ?_
    rintro e w9 ⟨rfl, rfl⟩
    go_wp2_with fail
    refine Heq2.out.mono ?_
    rintro e w9 ⟨rfl, rfl⟩
    go_wp2_with fail
    go_ret
    exact ⟨rfl, hB8.alloc hz8 _⟩
  · have hO := pages_new w Z HZl.out (w.heap.size + 1) (by omega)
    have hN := pages_new w Z HZl.out w.heap.size (by omega)
    have hB0 : Below w.heap.size w ((w.alloc (.cells Z 5)).alloc (.cells Z 5)).drew := (((Below.refl _ w).alloc (Nat.le_refl _) _).alloc (by simp) _).drew
    have hVz : ((w.alloc (.cells Z 5)).alloc (.cells Z 5)).drew.heap.size = w.heap.size + 2 := by simp
    obtain ⟨gO, hgO⟩ : ∃ g, (w.heap.size + 1) = g := ⟨_, rfl⟩
    obtain ⟨gN, hgN⟩ : ∃ g, w.heap.size = g := ⟨_, rfl⟩
    have hOb : w.heap.size ≤ gO ∧ gO < w.heap.size + 2 := by omega
    have hNb : w.heap.size ≤ gN ∧ gN < w.heap.size + 2 := by omega
    have hne : gO ≠ gN := by omega
    generalize ((w.alloc (.cells Z 5)).alloc (.cells Z 5)).drew = V at *
    rw [hgO] at hO ⊢
    rw [hgN] at hN ⊢
    clear hmk HZl
    have hN1 := owns_set hN 3 1
    have hN2 := owns_set hN1 5 1
    have hN3 := owns_set hN2 50 1
    have f3 := hN.frozenAt 3
    have f5 := hN.frozenAt 5
    have f50 := hN.frozenAt 50
    have c3 := owns_cell hN pageZ_len.symm 3 (by rw [pageZ_len]; omega)
    have c5 := owns_cell hN pageZ_len.symm 5 (by rw [pageZ_len]; omega)
    have c50 := owns_cell hN pageZ_len.symm 50 (by rw [pageZ_len]; omega)
    generalize pageZ.getD 3 0 = z3 at *
    generalize pageZ.getD 5 0 = z5 at *
    generalize pageZ.getD 50 0 = z50 at *
    have hO3 := ownsRow_setCell_other (ownsRow_setCell_other (ownsRow_setCell_other hO (a := ⟨gN, 3, none⟩) (by simp [Value.ownBlock]; exact hne) (.int .u8 ((1 : Nat) : Int))) (a := ⟨gN, 5, none⟩) (by simp [Value.ownBlock]; exact hne) (.int .u8 ((1 : Nat) : Int))) (a := ⟨gN, 50, none⟩) (by simp [Value.ownBlock]; exact hne) (.int .u8 ((1 : Nat) : Int))
    have hB3 : Below w.heap.size w (((V.setCell ⟨gN, 3, none⟩ (.int .u8 ((1 : Nat) : Int))).setCell ⟨gN, 5, none⟩ (.int .u8 ((1 : Nat) : Int))).setCell ⟨gN, 50, none⟩ (.int .u8 ((1 : Nat) : Int))) := ((hB0.setCell (p := ⟨gN, 3, none⟩) hNb.1 _).setCell (p := ⟨gN, 5, none⟩) hNb.1 _).setCell (p := ⟨gN, 50, none⟩) hNb.1 _
    have hO4 : Bs _ (.slice (some ⟨gO, 0, none⟩) 256 256) pageZ := Bs.of_owns hO3 pageZ_lt
    have hN4 : Bs _ (.slice (some ⟨gN, 0, none⟩) 256 256) pageN := Bs.of_owns hN3 pageN_lt
    have HO4 := hide hO4
    have HN4 := hide hN4
    have HB3 := hide hB3
    clear hO hN hN1 hN2 hN3 hO3 hO4 hN4 hB3
    have e1 : ((1 : Nat) : Int) = 1 := rfl
    rw [e1] at HO4 HN4 HB3
    simp only [Act.put, List.setIfInBounds_toArray, List.set_cons_zero, List.set_cons_succ]
    clear e1
    go_wp2_with fail
    obtain ⟨W3, hW3⟩ : ∃ W3, ((V.setCell ⟨gN, 3, none⟩ (.int .u8 1)).setCell ⟨gN, 5, none⟩ (.int .u8 1)).setCell ⟨gN, 50, none⟩ (.int .u8 1) = W3 := ⟨_, rfl⟩
    rw [hW3] at HO4 HN4 HB3 ⊢
    clear hW3 f3 f5 f50 c3 c5 c50 hB0 hVz
    have hc := cut_yes (block := 7) (by omega) HO4.out HN4.out
    rw [cut_begun] at hc
    refine hc.mono ?_
    rintro e w4 ⟨lv, p4, vs4, rfl, hrw4, hb4⟩
    clear hc
    obtain ⟨la, lc, rfl⟩ := owns_slice hrw4.row
    have hz3 := HB3.out.size
    have hz4 := hb4.size
    have hr := redo_any 7 (HO4.out.mono hb4) (by rw [pageZ_len]; omega) hrw4.rs (by simp) (by simp [recA, recB])
    rw [redo_begun] at hr
    have HR := hide hr
    have Hrw4 := hide hrw4
    clear hr hrw4
    go_wp2_with fail
    refine HR.out.mono ?_
    rintro e w5 ⟨rv, rfl, hor, hb5⟩
    have hz5 := hb5.size
    rw [pageN_len] at hor
    obtain ⟨ra, rc, rfl⟩ := owns_slice hor
    have hrw5 := Hrw4.out.mono hb5
    have hcl := cloneR_any hrw5 (by simp)
    have Hcl := hide hcl
    have Hor := hide hor
    have Hrw5 := hide hrw5
    clear HR hcl hor hrw5
    go_wp2_with fail
    refine Hcl.out.mono ?_
    rintro e w6 ⟨v6, rfl, ho6, hb6⟩
    have hz6 := hb6.size
    obtain ⟨a6, c6, rfl⟩ := owns_slice ho6
    have hrw6 := Rw.cloned Hrw5.out (by omega) ho6 hb6
    have hrowA := (Keeps.alloc (S := fun _ => False) w6 (.cells #[.int .i64 2, .int .i64 0, .int .i64 0, .slice none 0 0, .int .i64 2] 48)).owns hrw6.row (fun _ _ => id)
    have Hrw6 := hide hrw6
    have Ho6 := hide ho6
    clear Hcl hrw6 ho6
    go_wp2_with (at_builtin; refine wpList_append_own_at _ rfl (.tmp 31) (.tmp 33) 22 rfl 0 48 i0 (.agg #[.int .i64 0, .int .i64 0, .int .i64 0, .slice none 0 0, .int .i64 0]) 5 56 Try.underlying22 hi hz0 hz1 hz2 rfl (by decide) (.slice a6 2 c6) _ _ rfl hrowA ⟨w6.heap.size, 0, none⟩ 1 1 [.int .i64 2, .int .i64 0, .int .i64 0, .slice none 0 0, .int .i64 2] rfl rfl (cell_five_new _ _ _ _ _ _ _) (by simp [Value.oneCell']) (by simp [maxLen]) (by simp) (by omega) ?_; intro v7 w7 hown7 hgrow7 _ hkin7)
    have hR7 := Rw.tail0 (r := recC) Hrw6.out (by omega) rfl hown7 hgrow7 (by simpa using hkin7)
    have hB47 : Below w4.heap.size w4 w7 := ((hb5.trans (hb6.mono hz5)).alloc (by omega) _).grown hgrow7 (by simp; omega) (fun k hk => by have := owns_lt Ho6.out k hk; omega)
    have hz7 := hB47.size
    have hcm := comm_any hR7.rs (by simp) (by simp [recA, recB, recC])
    rw [show [recA, recB] ++ [recC] = [recA, recB, recC] from rfl, commit_begun] at hcm
    have hcm2 : Calls Try.prog 11 #[v7] w7 (NewRcN w7 [recA, recB] 3) := hcm
    have Hcm := hide hcm2
    clear hcm2
    have Hg7 := hide hgrow7
    clear hcm hR7 hown7 hgrow7 hkin7 hrowA
    refine Hcm.out.mono ?_
    rintro e w8 ⟨qv, p8, vs8, rfl, hrw8, hb8⟩
    obtain ⟨qa, qc, rfl⟩ := owns_slice hrw8.row
    have hB48 := hB47.trans (hb8.mono hz7)
    have hB8 : Below w.heap.size w w8 := HB3.out.trans ((hb4.trans (hB48.mono hz4)).mono hz3)
    have hz8 := hB8.size
    obtain ⟨bl, ol, cl, u, e1, hat, hub⟩ := (Hrw4.out.rs.mono hB48).first
    injection e1 with e1 _ e2
    subst e1 e2
    obtain ⟨ua, uc, rfl, -⟩ := id hub
    have k2 := hat.c2
    have k3 := hat.c3
    have e3 : recA.o = 3 := rfl
    have e4 : recA.l = [1, 0, 1] := rfl
    have e5 : ([1, 0, 1] : List Nat).length = 3 := rfl
    rw [e3] at k2
    rw [e4, e5] at k3
    rw [e4, e5] at hub
    have hlit : Bs (w8.alloc (.cells #[.int .u8 1, .int .u8 0, .int .u8 1] 5)) (.slice (some ⟨w8.heap.size, 0, none⟩) 3 3) [1, 0, 1] := Bs.lit w8 5 [1, 0, 1] _ rfl (by decide)
    have heq1 := equal_any _ _ _ _ _ (hub.alloc (.cells #[.int .u8 1, .int .u8 0, .int .u8 1] 5)) hlit
    rw [decide_eq_true rfl] at heq1
    have hpn := Bs.of_owns Hor.out pageN_lt
    have hB58 : Below w5.heap.size w5 w8 := (((hb6.alloc hz6 _).grown Hg7.out (by simp; omega) (fun k hk => owns_lt Ho6.out k hk)).trans (hb8.mono (by have := hb6.size; have := Hg7.out.size; simp at this; omega)))
    have hp8 := (hpn.mono hB58).alloc (.cells #[.int .u8 1, .int .u8 0, .int .u8 1] 5)
    have hn8 := ((HN4.out.mono (hb4.trans (hB48.mono hz4)))).alloc (.cells #[.int .u8 1, .int .u8 0, .int .u8 1] 5)
    have heq2 := equal_any _ _ _ _ _ hp8 hn8
    rw [decide_eq_true rfl] at heq2
    have Heq1 := hide heq1
    have Heq2 := hide heq2
    clear heq1 heq2 hp8 hn8 hpn hlit hub hat e3 e4 e5
    go_wp2_with fail
    refine Heq1.out.mono ?_
    rintro e w9 ⟨rfl, rfl⟩
    go_wp2_with fail
    refine Heq2.out.mono ?_
    rintro e w9 ⟨rfl, rfl⟩
    go_wp2_with fail
    go_ret
    exact ⟨rfl, hB8.alloc hz8 _⟩

end Go.Proofs.Ytgdlbfoihpdlhaa
