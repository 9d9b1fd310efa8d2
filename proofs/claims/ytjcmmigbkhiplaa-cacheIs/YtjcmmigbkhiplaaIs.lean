/- CacheIs: what the cache answers is what was written, whatever went and came; as long as fewer buffers are dirty than there is room, nothing is refused; there are never more. No conditions. -/
import Derived.Test.YtjcmmigbkhiplaaCw
import Derived.Test.YtjcmmigbkhiplaaStays
import Derived.Deep.RegionHeld3
import Derived.Deep.RegionLaw
set_option linter.unusedSimpArgs false
set_option linter.unusedVariables false
namespace Go.Proofs.Ytjcmmigbkhiplaa
open Go.RowKit Go.Attic Go.ChangeShapes Go.WideShapes Go.Shelf

set_option maxRecDepth 100000 in
set_option maxHeartbeats 12000000 in
theorem is_walk (b0 : Nat) (hb0 : b0 < 256) (v : Value) (l : List OpX) (w : World) (hl : Ops w (fun k => k < w.heap.size) v l) (hll : l.length ≤ 140737488355328) :
    Calls Try.prog 4 #[.int .u8 (b0 : Int), v] w fun e w' => e = .returned (.bool true) ∧ Below w.heap.size w w' := by
  obtain ⟨ao, cap, rfl, hcap, hops⟩ := hl
  obtain ⟨q, hq⟩ : ∃ q, min l.length 100 = q := ⟨_, rfl⟩
  obtain ⟨room, hroom⟩ : ∃ room, 2 + b0 % 5 = room := ⟨_, rfl⟩
  have hrm : 2 ≤ room ∧ room ≤ 6 := by omega
  have hri : 2 + (b0 : Int) % 5 = (room : Int) := by omega
  obtain ⟨Z, hZ⟩ : ∃ Z, madeCells (Value.int .u8 0).cells (256 * 1) = Z := ⟨_, rfl⟩
  have hZl : Z.toList = cellsB (List.replicate 256 0) := by rw [← hZ]; exact made_zeros 256
  have hmk : ∀ W : World, (Instr.makeSlice 37 (.int .i64 256) (.int .i64 256)).run Try.prog W = .ok (.slice (some ⟨W.heap.size, 0, none⟩) 256 256) (W.alloc (.cells Z 5)) := fun W => by rw [← hZ]; kernel_rfl
  have hoz : ∀ W : World, (W.alloc (.cells Z 5)).ownsRow 0 5 1 (.slice (some ⟨W.heap.size, 0, none⟩) 256 256) 256 (cellsB (List.replicate 256 0)) := fun W => by
    have hl : (cellsB (List.replicate 256 0)).length = 256 := by rw [cellsB_length, List.length_replicate]
    have hs : Z.size = 256 := by rw [← Array.length_toList, hZl, hl]
    refine ⟨by rw [hl], .inr ⟨W.heap.size, 256, Z, rfl, by omega, World.alloc_heap_new W _, Nat.le_refl _, by unfold maxLen; omega, by omega, ?_⟩⟩
    rw [hZl, List.take_of_length_le (by omega)]
  have hZ0 : Z[0]? = some (.int .u8 0) := by rw [← Array.getElem?_toList, hZl]; rfl
  have Hoz := hide hoz
  clear hZ hZl hoz
  have Hops := hide hops
  have Hq := hide hq
  clear hops hq
  go_enter Try.func4, Try.ntmps4
  go_wp2_with fail
  refine (new_yes 9 w (by omega) (by omega)).mono ?_
  rintro e w1 ⟨g, m, rfl, hD1, hb1, hg1, hm1⟩
  have HD1 := hide hD1
  clear hD1
  go_wp2_with fail
  refine (live_any _).mono ?_
  rintro e w2 ⟨rfl, hb2⟩
  have hb02 : Below w.heap.size w w2 := hb1.trans (hb2.mono hb1.size)
  have hz2 : w.heap.size ≤ w2.heap.size := hb02.size
  have hD2 := HD1.out.mono hb2
  have hOl := hD2.ownLt
  have hI0 : I1 w (w2.alloc (.cells #[.slice none 0 0, .slice none 0 0, .slice none 0 0, .slice none 0 0, .slice none 0 0, .slice none 0 0, .slice none 0 0, .slice none 0 0, .slice none 0 0] 51)) g w2.heap.size 0 := by
    refine ⟨m, none, _, newS 9, fun _ => 0, hD2.mono ((Below.refl _ _).alloc (Nat.le_refl _) _), ⟨rfl, rfl, by simp [newS, ofS], by simp [newS, ofS]⟩, fun j hj => by omega, ⟨fun j hj => by omega, fun j hj => by omega, fun j hj => by omega, fun j hj => by omega⟩, fun k hk => ?_, ?_, by simp, hz2, fun j hj => by omega, hb02.alloc hz2 _⟩
    · have h1 := hOl k hk
      refine ⟨?_, by omega, fun j hj => by omega⟩
      rcases hk with h | h | h
      · omega
      · omega
      · exact h.elim
    · intro j hj
      match j, hj with
      | 0, _ => exact ⟨by simp, _, by simp; rfl⟩
      | 1, _ => exact ⟨by simp, _, by simp; rfl⟩
      | 2, _ => exact ⟨by simp, _, by simp; rfl⟩
      | 3, _ => exact ⟨by simp, _, by simp; rfl⟩
      | 4, _ => exact ⟨by simp, _, by simp; rfl⟩
      | 5, _ => exact ⟨by simp, _, by simp; rfl⟩
      | 6, _ => exact ⟨by simp, _, by simp; rfl⟩
      | 7, _ => exact ⟨by simp, _, by simp; rfl⟩
      | 8, _ => exact ⟨by simp, _, by simp; rfl⟩
  have HI0 := hide hI0
  obtain ⟨T, hT⟩ : ∃ T, w2.heap.size = T := ⟨_, rfl⟩
  have HT := hide hT
  clear hD2 hOl hI0 HD1 hT
  go_wp2_with fail
  rw [HT.out] at HI0
  rw [HT.out]
  go_loopw [42] (fun iv wr => ∃ i : Nat, i ≤ 9 ∧ iv = .int .i64 (i : Int) ∧ Hid (I1 w wr g T i)) (fun iv _ => 9 - (intOf iv).toNat)
  case atStart => exact ⟨0, by omega, rfl, HI0⟩
  case round =>
    clear HI0
    obtain ⟨i, hi, rfl, HP⟩ := hrel
    obtain ⟨m1, p1, F1, s1, R1, hD, hc, hrd, hW, hO, hTf, hTl, hwT, hwR, hB⟩ := HP.out
    have hzB := hB.size
    by_cases hi9 : i < 9
    · have hi9i : (i : Int) < 9 := by omega
      have hw8 : IntKind.u8.wrap (i : Int) = (i : Int) := by rw [IntKind.wrap_u8]; omega
      obtain ⟨hf, u, hu⟩ := hTf i hi9
      have hka : Below wr.heap.size wr (wr.alloc (.cells Z 5)) := (Below.refl _ _).alloc (Nat.le_refl _) _
      have k0 := Keeps.of_below (S := fun _ => False) hka
      have c1 : (wr.alloc (.cells Z 5)).cell? ⟨T, i, none⟩ = some u := k0.cell hu id
      have f1 : (wr.alloc (.cells Z 5)).frozen? ⟨T, i, none⟩ = false := by rw [k0.frozen (a := ⟨T, i, none⟩) hTl id]; exact hf
      have ho0 := Hoz.out wr
      have hne : wr.heap.size ≠ T := by omega
      have hk1 : Keeps (fun b => b = T) (wr.alloc (.cells Z 5)) ((wr.alloc (.cells Z 5)).setCell ⟨T, i, none⟩ (.slice (some ⟨wr.heap.size, 0, none⟩) 256 256)) := Keeps.setCell (S := fun b => b = T) _ rfl _
      have ho1 := hk1.owns ho0 (fun b hb => by cases hb; exact hne)
      have c2 : ((wr.alloc (.cells Z 5)).setCell ⟨T, i, none⟩ (.slice (some ⟨wr.heap.size, 0, none⟩) 256 256)).cell? ⟨T, i, none⟩ = some (.slice (some ⟨wr.heap.size, 0, none⟩) 256 256) := cell_set_same c1
      have r2 := ho1.cellAt 0 (by omega)
      have r3 : ((wr.alloc (.cells Z 5)).setCell ⟨T, i, none⟩ (.slice (some ⟨wr.heap.size, 0, none⟩) 256 256)).cell? ⟨wr.heap.size, 0, none⟩ = some (.int .u8 0) := by rw [r2]; rfl
      have rf3 := ho1.frozenAt 0
      have ho2 := owns_set ho1 0 i
      obtain ⟨w5, hw5⟩ : ∃ w5, ((wr.alloc (.cells Z 5)).setCell ⟨T, i, none⟩ (.slice (some ⟨wr.heap.size, 0, none⟩) 256 256)).setCell ⟨wr.heap.size, 0, none⟩ (.int .u8 (i : Int)) = w5 := ⟨_, rfl⟩
      have hk2 : Keeps (fun b => b = T) wr w5 := by
        rw [← hw5]
        exact ((Keeps.of_below hka).trans hk1).trans' (Keeps.setCell (S := fun b => b = wr.heap.size) _ rfl _) (fun b e => .inr (by have e' : b = wr.heap.size := e; omega))
      have c5 : w5.cell? ⟨T, i, none⟩ = some (.slice (some ⟨wr.heap.size, 0, none⟩) 256 256) := by
        rw [← hw5]
        exact (Keeps.setCell (S := fun b => b = wr.heap.size) _ rfl _).cell c2 (fun e => by have e' : T = wr.heap.size := e; omega)
      rw [hw5] at ho2
      have hold : ∀ j, j ≠ i → w5.cell? ⟨T, j, none⟩ = wr.cell? ⟨T, j, none⟩ := fun j hj => by
        rw [← hw5, World.cell?_setCell_other _ _ _ _ (by intro e; injection e with e1 e2; omega), World.cell?_setCell_other _ _ _ _ (by intro e; injection e with e1 e2; omega)]
        exact World.cell?_of_block (hka.block T hTl)
      have hfz : ∀ j, j < 9 → w5.frozen? ⟨T, j, none⟩ = false ∧ ∃ u, w5.cell? ⟨T, j, none⟩ = some u := fun j hj => by
        refine ⟨?_, ?_⟩
        · rw [← hw5]
          have := k0.frozen (a := ⟨T, j, none⟩) hTl id
          simp [this, (hTf j hj).1]
        · by_cases e : j = i
          · subst e; exact ⟨_, c5⟩
          · rw [hold j e]; exact (hTf j hj).2
      have hW5 := hW.more hk2 (fun j hj => hW.lt j hj) (Nat.le_refl _) hTl (fun j hj => hold j (by omega)) c5 ho2 (vI_ok i (by omega))
      have hD5 := hD.keeps hk2 (fun e => (hO _ (.inl rfl)).2.1 e) (fun e => (hO _ (.inr (.inl rfl))).2.1 e) (fun k hk e => (hO k (.inr (.inr hk))).2.1 e)
      have hbv : Bs w5 (.slice (some ⟨wr.heap.size, 0, none⟩) 256 256) (vI i) := by have := hW5.bs i (by omega); simpa using this
      have hwr := write_yes hD5 (i : Int) _ (vI i) hbv (by rw [(vI_ok i (by omega)).1]; omega) (by have := hc.pend; omega) (by have := hc.ops; omega)
      rw [calm_write hc hi9 (vI_ok i (by omega)).1] at hwr
      have hOb : ∀ k, Own g m1 F1 k → w.heap.size ≤ k := fun k hk => (hO k hk).1
      have hz5 := hk2.size
      have hz5' : wr.heap.size < w5.heap.size := owns_lt' ho2 _ rfl
      have hnext : ∀ w6, Turn w5 g m1 F1 9 { s1 with pend := s1.pend ++ [(i, vI i)], ops := s1.ops + 1 } w6 → I1 w w6 g T (i + 1) := by
        rintro w6 ⟨p6, F6, hD6, hk6, hF6⟩
        have hOw : ∀ k, Own g m1 F1 k → k < wr.heap.size := hD.ownLt
        have nT : ¬ Own g m1 F1 T := fun h => (hO T h).2.1 rfl
        have hO6 : ∀ k, Own g m1 F6 k → Own g m1 F1 k ∨ w5.heap.size ≤ k := by
          rintro k (e | e | e)
          · exact .inl (.inl e)
          · exact .inl (.inr (.inl e))
          · exact (hF6 k e).imp (fun h1 => .inr (.inr h1)) id
        have nR : ∀ j, j < i + 1 → ¬ Own g m1 F1 (if j = i then wr.heap.size else R1 j) := fun j hj h => by
          by_cases e : j = i
          · rw [if_pos e] at h; have := hOw _ h; omega
          · rw [if_neg e] at h; exact (hO _ h).2.2 j (by omega) rfl
        have hRl : ∀ j, j < i + 1 → (if j = i then wr.heap.size else R1 j) < w5.heap.size := fun j hj => hW5.lt j hj
        refine ⟨m1, p6, F6, _, fun j => if j = i then wr.heap.size else R1 j, hD6, calm_next hc, fun j hj => ?_, hW5.keeps hk6 nT nR, fun k hk => ?_, fun j hj => ?_, by have := hk6.size; omega, hwT, fun j hj => ?_, ?_⟩
        · rw [readL_push]
          by_cases e : i = j
          · rw [if_pos e, e]
          · rw [if_neg e]; exact hrd j (by omega)
        · rcases hO6 k hk with h | h
          · exact ⟨(hO k h).1, (hO k h).2.1, fun j hj e => nR j hj (by have e2 : k = (if j = i then wr.heap.size else R1 j) := e; rw [← e2]; exact h)⟩
          · exact ⟨by omega, by omega, fun j hj e => by have := hRl j hj; simp only at e; omega⟩
        · refine ⟨by rw [hk6.frozen (a := ⟨T, j, none⟩) (by simp; omega) nT]; exact (hfz j hj).1, ?_⟩
          obtain ⟨u, hu⟩ := (hfz j hj).2
          exact ⟨u, hk6.cell hu nT⟩
        · by_cases e : j = i
          · simp only [if_pos e]; omega
          · simp only [if_neg e]; exact hwR j (by omega)
        · have h1 : Below w.heap.size w w5 := hB.trans (hk2.below (fun k e => by have e' : k = T := e; omega) hzB)
          exact h1.trans (hk6.below hOb h1.size)
      have hw5s : (wr.setCell ⟨T, i, none⟩ (.slice (some ⟨wr.heap.size, 0, none⟩) 256 256)).alloc (.cells (Z.setIfInBounds 0 (.int .u8 (i : Int))) 5) = w5 := by rw [← hw5]; simp [go_sem, hTl, hne]
      have hw4s : (wr.setCell ⟨T, i, none⟩ (.slice (some ⟨wr.heap.size, 0, none⟩) 256 256)).alloc (.cells Z 5) = (wr.alloc (.cells Z 5)).setCell ⟨T, i, none⟩ (.slice (some ⟨wr.heap.size, 0, none⟩) 256 256) := by simp [go_sem, hTl]
      have cT4 : ((wr.setCell ⟨T, i, none⟩ (.slice (some ⟨wr.heap.size, 0, none⟩) 256 256)).alloc (.cells Z 5)).cell? ⟨T, i, none⟩ = some (.slice (some ⟨wr.heap.size, 0, none⟩) 256 256) := by rw [hw4s]; exact c2
      have cT5 : ((wr.setCell ⟨T, i, none⟩ (.slice (some ⟨wr.heap.size, 0, none⟩) 256 256)).alloc (.cells (Z.setIfInBounds 0 (.int .u8 (i : Int))) 5)).cell? ⟨T, i, none⟩ = some (.slice (some ⟨wr.heap.size, 0, none⟩) 256 256) := by rw [hw5s]; exact c5
      have Hw5s := hide hw5s
      have Hwr := hide hwr
      have Hnext := hide hnext
      clear hw5s hbv hw4s
      clear hwr hnext hW5 hD5 hfz hold hk2 ho2 ho1 hk1 ho0 hD hW hTf hO hrd r2 HP
      go_wp2_with fail
      rw [Hw5s.out]
      refine Hwr.out.mono ?_
      rintro e w6 ⟨rfl, hT6⟩
      have HN := hide (Hnext.out w6 hT6)
      clear hT6
      go_wp2_with fail
      go_roundw
      case rel => exact ⟨i + 1, by omega, by go_num, HN⟩
      case measure => simp [intOf]; omega
    · obtain rfl : i = 9 := by omega
      have hcn := cnew_yes (room := room) hD hrm.1 (by omega)
      have hOl := hD.ownLt
      have Hcn := hide hcn
      have HW := hide hW
      have Hrd := hide hrd
      clear hcn hD hW hrd hTf HP
      go_wp2_with fail
      refine Hcn.out.mono ?_
      rintro e w3 ⟨c, S, rfl, hC, hb3, hS⟩
      have hRl := HW.out.lt
      have hIs : IsI w w3 c g T room 0 := by
        refine ⟨S, [], s1, vI, R1, hC, Calm.more hc (by omega), ⟨by simp, fun j hj _ => Hrd.out j hj⟩, HW.out.keeps (S := fun _ => False) (Keeps.of_below hb3) id (fun _ _ => id), ⟨fun h => ?_, fun j hj h => ?_⟩, by have := hb3.size; omega, fun b hb => ?_, hwT, hwR, hB.trans (hb3.mono hzB)⟩
        · rcases hS T h with h | h
          · exact (hO T h).2.1 rfl
          · omega
        · rcases hS _ h with h | h
          · exact (hO _ h).2.2 j hj rfl
          · have := hRl j hj; omega
        · rcases hS b hb with h | h
          · exact (hO b h).1
          · omega
      have HI1 := hide hIs
      clear hIs hC hS hO HW Hrd hRl
      have hq100 : q ≤ 100 := by have := Hq.out; omega
      have hqc : q ≤ cap := by have := Hq.out; omega
      clear hwR hwT hB hzB hOl hc hTl
      go_wp2_with fail
      rw [show (min (l.length : Int) 100) = ((q : Nat) : Int) by have := Hq.out; omega, show (max ((q : Nat) : Int) 0) = ((q : Nat) : Int) by omega, Int.toNat_natCast]
      go_loopw [80] (fun iv wr => ∃ k : Nat, k ≤ q ∧ iv = .int .i64 (k : Int) ∧ Hid (IsI w wr c g T room k)) (fun iv _ => q - (intOf iv).toNat)
      case atStart => exact ⟨0, by omega, rfl, HI1⟩
      case round =>
        clear HI1
        obtain ⟨k, hk, rfl, HP⟩ := hrel
        by_cases hkq : k < q
        · have hkl : k < l.length := by have := Hq.out; omega
          obtain ⟨S, A, s, W, R, hC, hcm, hI, hM, hTS, hTl, hSw, hwT, hwR, hB⟩ := HP.out
          obtain ⟨ob, oo, rfl, hoat⟩ := Hops.out (by omega)
          obtain ⟨vb, hx⟩ := hoat k hkl
          have hzB := hB.size
          have hx1 := hx.keeps (S := fun b => w.heap.size ≤ b) ⟨hB.os, hB.tape, hB.output, hB.size, fun b hb hn => hB.block b (by omega)⟩ (fun b hb h => by omega)
          generalize l[k] = x at *
          have x0 := hx1.c0
          have x1 := hx1.c1
          have x2 := hx1.c2
          have x3 := hx1.c3
          obtain ⟨pa, pc, rfl, -⟩ := id hx1.bs
          obtain ⟨bi, hbk, hbi9⟩ := blk_ex x.i
          have hbii : (bi : Int) < 9 := by omega
          obtain ⟨wb, hwb⟩ : ∃ wb, wr.alloc (.cells #[.int .i64 x.d, .int .i64 x.i, .int .i64 x.o, .slice pa x.b.length pc] 39) = wb := ⟨_, rfl⟩
          have kb : Below wr.heap.size wr wb := by rw [← hwb]; exact (Below.refl _ _).alloc (Nat.le_refl _) _
          have y0 : wb.cell? ⟨wr.heap.size, 0, none⟩ = some (.int .i64 x.d) := by rw [← hwb]; simp
          have y1 : wb.cell? ⟨wr.heap.size, 1, none⟩ = some (.int .i64 x.i) := by rw [← hwb]; simp
          have y2 : wb.cell? ⟨wr.heap.size, 2, none⟩ = some (.int .i64 x.o) := by rw [← hwb]; simp
          have y3 : wb.cell? ⟨wr.heap.size, 3, none⟩ = some (.slice pa x.b.length pc) := by rw [← hwb]; simp
          have hzl : wr.heap.size < wb.heap.size := by rw [← hwb]; simp
          have hCb := hC.mono kb
          have hMb := hM.keeps (S := fun _ => False) (Keeps.of_below kb) id (fun _ _ => id)
          have hxb := hx1.keeps (Keeps.of_below (S := fun _ => False) kb) (fun _ _ => id)
          have hSl := hC.lt
          have hnd := hC.nodup
          have hSb : ¬ S wr.heap.size := fun h => by have := hSl _ h; omega
          have hbF := hx.bF
          have hRl := hM.lt
          have hln := clen_any hCb (by omega)
          have hfew := hC.few
          have hdl := dirtyL_len A
          have hfl := List.length_filter_le (fun x : En => x.d) A
          have hpe := hcm.pend
          have hop := hcm.ops
          have hWl := fun j (hj : j < 9) => (hM.len j hj).1
          have Hln := hide hln
          have Hdl := hide (And.intro hdl hfl)
          have Hx := hide hxb
          have HCb := hide hCb
          have HMb := hide hMb
          have HI := hide hI
          have Hnd := hide hnd
          have Hcm := hide hcm
          clear hx hx1 hxb hC hCb hM hMb hoat HP hI hnd hcm hln hdl hfl
          have hturn : ∀ (w' : World) (S' : Nat → Prop) (A' : List En) (s' : St), CT wb c g S room 9 (k + 1) s' A' w' S' → Calm s' (300 * (k + 1 + 1)) → Inv s' A' W → IsI w w' c g T room (k + 1) := fun w' S' A' s' hT hc hI =>
            IsI.turn kb hB hSw hTS hTl hRl hwT hwR HMb.out hT hc hI
          have Hturn := hide hturn
          clear hturn
          by_cases h1 : x.d = 1
          · rw [h1] at x0 y0 hwb
            clear h1
            have hcw := fun W1 (hb : Below wb.heap.size wb W1) => cwrite_any (HCb.out.mono hb) (bi : Int) x.o _ x.b (Hx.out.bs.mono hb) (fun hp b hb hs => by have := hSw b hs; have := hbF hp b hb; omega) Hx.out.pl (by omega) (by omega) (by omega)
            obtain ⟨wI0, wI1⟩ := HI.out.write (room := room) (off := x.o) (b := x.b) Hnd.out hbi9
            have hwe := write_errs (room := room) (A := A) (off := x.o) (b := x.b) Hcm.out.on hbi9
            generalize writeC room 9 s A (bi : Int) x.o x.b = RR at *
            obtain ⟨A', er⟩ := RR
            try simp only at wI0 wI1 hwe hcw
            generalize hdA : (dirtyL A).length = dA at *
            clear hdA
            have Hcw := hide hcw
            have HW0 := hide wI0
            have HW1 := hide wI1
            clear hcw wI0 wI1
            rcases hwe with rfl | rfl | ⟨rfl, hfull⟩
            · obtain ⟨⟨ho0, ho1⟩, -⟩ := HW1.out rfl
              obtain ⟨o, ho⟩ : ∃ o : Nat, x.o = (o : Int) := ⟨x.o.toNat, by omega⟩
              have HI2 := hide (show Inv s A' (upW W bi o x.b) by have := (HW1.out rfl).2; rw [ho] at this; exact this)
              rw [ho] at x2 y2 hwb ho0 ho1 Hcw
              have hof : o + x.b.length ≤ 256 := by omega
              have t1 : ¬ ((o : Int) < 0) := by omega
              have t2 : ¬ ((256 : Int) < (o : Int)) := by omega
              have t3 : ¬ (256 - (o : Int) < (x.b.length : Int)) := by omega
              clear ho ho0 ho1 HW0 HW1
              go_wp2_with fail
              refine Hln.out.mono ?_
              rintro e w3b ⟨rfl, hb3b⟩
              have y0' := (Keeps.of_below (S := fun _ => False) hb3b).cell y0 id
              have y1' := (Keeps.of_below (S := fun _ => False) hb3b).cell y1 id
              have y2' := (Keeps.of_below (S := fun _ => False) hb3b).cell y2 id
              have y3' := (Keeps.of_below (S := fun _ => False) hb3b).cell y3 id
              go_wp2_with fail
              refine (Hcw.out w3b hb3b).mono ?_
              rintro e w4 ⟨rfl, S', hCT0⟩
              have hCT : CT wb c g S room 9 (k + 1) s A' w4 S' := ⟨hCT0.1, (Keeps.of_below hb3b).trans hCT0.2.1, fun j hj => (hCT0.2.2 j hj).imp id (fun h => Nat.le_trans hb3b.size h)⟩
              have z2 : w4.cell? ⟨wr.heap.size, 2, none⟩ = some (.int .i64 (o : Int)) := hCT.2.1.cell y2 hSb
              have z3 : w4.cell? ⟨wr.heap.size, 3, none⟩ = some (.slice pa x.b.length pc) := hCT.2.1.cell y3 hSb
              have hM4 := HMb.out.keeps hCT.2.1 hTS.1 hTS.2
              have zT := hM4.c bi hbi9
              have hbs4 : Bs w4 (.slice pa x.b.length pc) x.b := keeps_bs hCT.2.1 Hx.out.bs (fun hp b hb hs => by have := hSw b hs; have := hbF hp b hb; omega)
              have hcopy : ∀ w5, w5.ownsRow 0 5 1 (.slice (some ⟨R bi, 0, none⟩) 256 256) 256 (splice (cellsB (W bi)) o (cellsB x.b)) → Keeps (fun b => b = R bi) w4 w5 → IsI w w5 c g T room (k + 1) := fun w5 ho5 hk5 => by
                have hno : ∀ y, y < wr.heap.size → ¬ S y → ¬ S' y := fun y hy hn h => by rcases hCT.2.2 y h with h | h; exact hn h; have := kb.size; omega
                have hB4 : Below w.heap.size w w4 := (hB.trans (kb.mono hzB)).trans (hCT.2.1.below hSw (by omega))
                refine ⟨S', A', s, upW W bi o x.b, R, hCT.1.keeps hk5 (fun y hy e => hno _ (hRl bi hbi9) (hTS.2 bi hbi9) (by have e' : y = R bi := e; rw [← e']; exact hy)), Calm.more Hcm.out (by omega), HI2.out, hM4.copied hbi9 hof Hx.out.bs.lt hk5 ho5, ⟨hno T hTl hTS.1, fun j hj => hno _ (hRl j hj) (hTS.2 j hj)⟩, by have := hk5.size; have := hCT.2.1.size; omega, fun b hb => ?_, hwT, hwR, ?_⟩
                · rcases hCT.2.2 b hb with h | h
                  · exact hSw b h
                  · omega
                · exact hB4.trans (hk5.below (fun b e => by have e' : b = R bi := e; have := hwR bi hbi9; omega) hB4.size)
              have hrow := hM4.row bi hbi9
              have Hcopy := hide hcopy
              have HM4 := hide hM4
              have Hrow := hide hrow
              have Hbs4 := hide hbs4
              have HCT := hide hCT
              clear hcopy hM4 hrow hbs4 hCT hCT0 Hcw HCb HMb Hln y0 y1 y2 y3 y0' y1' y2' y3'
              by_cases hb0' : x.b = []
              · have hce : ∀ (W : World) (ty : TypeId) (d : Option Addr) (dl dc : Nat), (Builtin.copy_ #[37, 37] ty #[.slice d dl dc, .slice pa x.b.length pc]).run Try.prog W = .ok (goInt 0) W := fun W ty d dl dc => run_copy_none W 37 37 ty 5 d pa dl dc x.b.length pc Try.underlying37 size5 (by rw [hb0']; exact Nat.zero_min _)
                have Hb0 := hide hb0'
                clear hb0'
                by_cases hol : o < 256
                · go_wp2_with fail
                  go_quiet (fail)
                  have HPt := hide (Hcopy.out (w4.drewN nq) (by rw [Hb0.out]; simpa [splice, cellsB] using (show (w4.drewN nq).ownsRow 0 5 1 (.slice (some ⟨R bi, 0, none⟩) 256 256) 256 (cellsB (W bi)) from Hrow.out)) (Keeps.drewN w4 nq))
                  generalize w4.drewN nq = wt at *
                  clear Hcopy HM4 Hrow Hbs4 HCT Hturn
                  obtain ⟨S2, A2, s2, W2, R2, hC2, -⟩ := HPt.out
                  have hfew2 := hC2.few
                  have hdl2 := dirtyL_len A2
                  have hfl2 := List.length_filter_le (fun x : En => x.d) A2
                  have hln2 := clen_any hC2 (by omega)
                  have hsz2 : Below wt.heap.size wt wt := Below.refl _ _
                  generalize A2.length = a2 at *
                  generalize (dirtyL A2).length = d2 at *
                  have hd2a : (d2 : Int) ≤ (a2 : Int) := by omega
                  have ha2r : (a2 : Int) ≤ (room : Int) := by omega
                  have g1 : ¬ ((a2 : Int) - (d2 : Int) < 0) := by omega
                  have g2 : ¬ ((d2 : Int) < 0) := by omega
                  have g3 : ¬ ((room : Int) < (a2 : Int) - (d2 : Int)) := by omega
                  have g4 : ¬ ((room : Int) - ((a2 : Int) - (d2 : Int)) < (d2 : Int)) := by omega
                  have Hln2 := hide hln2
                  clear hln2 hC2 hfew2 hdl2 hfl2 hd2a ha2r
                  go_wp2_with fail
                  refine Hln2.out.mono ?_
                  rintro e w6 ⟨rfl, hb6⟩
                  have HPn := hide (HPt.out.mono hb6)
                  clear HPt
                  go_wp2_with fail
                  go_roundw
                  case rel => exact ⟨k + 1, by omega, by go_num, HPn⟩
                  case measure => simp [intOf]; omega

                · obtain rfl : o = 256 := by omega
                  go_wp2_with fail
                  go_quiet (fail)
                  have HPt := hide (Hcopy.out (w4.drewN nq) (by rw [Hb0.out]; simpa [splice, cellsB] using (show (w4.drewN nq).ownsRow 0 5 1 (.slice (some ⟨R bi, 0, none⟩) 256 256) 256 (cellsB (W bi)) from Hrow.out)) (Keeps.drewN w4 nq))
                  generalize w4.drewN nq = wt at *
                  clear Hcopy HM4 Hrow Hbs4 HCT Hturn
                  obtain ⟨S2, A2, s2, W2, R2, hC2, -⟩ := HPt.out
                  have hfew2 := hC2.few
                  have hdl2 := dirtyL_len A2
                  have hfl2 := List.length_filter_le (fun x : En => x.d) A2
                  have hln2 := clen_any hC2 (by omega)
                  have hsz2 : Below wt.heap.size wt wt := Below.refl _ _
                  generalize A2.length = a2 at *
                  generalize (dirtyL A2).length = d2 at *
                  have hd2a : (d2 : Int) ≤ (a2 : Int) := by omega
                  have ha2r : (a2 : Int) ≤ (room : Int) := by omega
                  have g1 : ¬ ((a2 : Int) - (d2 : Int) < 0) := by omega
                  have g2 : ¬ ((d2 : Int) < 0) := by omega
                  have g3 : ¬ ((room : Int) < (a2 : Int) - (d2 : Int)) := by omega
                  have g4 : ¬ ((room : Int) - ((a2 : Int) - (d2 : Int)) < (d2 : Int)) := by omega
                  have Hln2 := hide hln2
                  clear hln2 hC2 hfew2 hdl2 hfl2 hd2a ha2r
                  go_wp2_with fail
                  refine Hln2.out.mono ?_
                  rintro e w6 ⟨rfl, hb6⟩
                  have HPn := hide (HPt.out.mono hb6)
                  clear HPt
                  go_wp2_with fail
                  go_roundw
                  case rel => exact ⟨k + 1, by omega, by go_num, HPn⟩
                  case measure => simp [intOf]; omega

              · have hbl1 : 0 < x.b.length := List.length_pos_iff.2 hb0'
                have hol : o < 256 := by omega
                obtain ⟨ad, rfl⟩ : ∃ ad, pa = some ad := by
                  cases pa with
                  | none => have := Hbs4.out.none.1; omega
                  | some ad => exact ⟨ad, rfl⟩
                have Hsrc := hide (Hbs4.out.cells ad rfl)
                have hRw : R bi ≠ wr.heap.size := by have := hRl bi hbi9; omega
                have hRT : R bi ≠ T := (HM4.out.ne bi hbi9).1
                have Hb0 := hide hb0'
                clear hb0'
                go_wp2_with fail
                go_region_held3 (fun w' => w'.cell? ⟨T, bi, none⟩ = some (.slice (some ⟨R bi, 0, none⟩) 256 256) ∧ w'.cell? ⟨wr.heap.size, 2, none⟩ = some (.int .i64 (o : Int)) ∧ w'.cell? ⟨wr.heap.size, 3, none⟩ = some (.slice (some ad) x.b.length pc))
                  (first | exact ⟨zT, z2, z3⟩ | exact ⟨hk5.cell zT (fun e => hRT (by have e' : T = R bi := e; exact e'.symm)), hk5.cell z2 (fun e => hRw (by have e' : wr.heap.size = R bi := e; exact e'.symm)), hk5.cell z3 (fun e => hRw (by have e' : wr.heap.size = R bi := e; exact e'.symm))⟩)
                  (first
                    | (refine step_copy_own rfl (.tmp 181) (.tmp 183) 37 37 rfl 5 Try.underlying37 size5 (R bi) o (256 - o) (256 - o) ad x.b.length pc (show Value.slice (if 256 = o then some ⟨R bi, 0, none⟩ else some ⟨R bi, o, none⟩) (256 - o) (256 - o) = _ by rw [if_neg (by omega)]) rfl 256 256 _ (show w4.drew.ownsRow 0 5 1 (.slice (some ⟨R bi, 0, none⟩) 256 256) 256 (cellsB (W bi)) from Hrow.out) (cellsB x.b) (by rw [cellsB_length]; exact (Nat.min_eq_left (by omega)).symm) Hsrc.out (by rw [cellsB_length]; omega) (cellsB_oneCell _) ?_; intro wt ho5 hk5))
                have HPt := hide (Hcopy.out wt ho5 ((Keeps.drew w4).trans hk5))
                rename_i hHeld
                clear hHeld ho5 hk5 Hcopy HM4 Hrow Hbs4 HCT Hturn
                obtain ⟨S2, A2, s2, W2, R2, hC2, -⟩ := HPt.out
                have hfew2 := hC2.few
                have hdl2 := dirtyL_len A2
                have hfl2 := List.length_filter_le (fun x : En => x.d) A2
                have hln2 := clen_any hC2 (by omega)
                have hsz2 : Below wt.heap.size wt wt := Below.refl _ _
                generalize A2.length = a2 at *
                generalize (dirtyL A2).length = d2 at *
                have hd2a : (d2 : Int) ≤ (a2 : Int) := by omega
                have ha2r : (a2 : Int) ≤ (room : Int) := by omega
                have g1 : ¬ ((a2 : Int) - (d2 : Int) < 0) := by omega
                have g2 : ¬ ((d2 : Int) < 0) := by omega
                have g3 : ¬ ((room : Int) < (a2 : Int) - (d2 : Int)) := by omega
                have g4 : ¬ ((room : Int) - ((a2 : Int) - (d2 : Int)) < (d2 : Int)) := by omega
                have Hln2 := hide hln2
                clear hln2 hC2 hfew2 hdl2 hfl2 hd2a ha2r
                go_wp2_with fail
                refine Hln2.out.mono ?_
                rintro e w6 ⟨rfl, hb6⟩
                have HPn := hide (HPt.out.mono hb6)
                clear HPt
                go_wp2_with fail
                go_roundw
                case rel => exact ⟨k + 1, by omega, by go_num, HPn⟩
                case measure => simp [intOf]; omega

            · go_wp2_with fail
              refine Hln.out.mono ?_
              rintro e w3b ⟨rfl, hb3b⟩
              have y0' := (Keeps.of_below (S := fun _ => False) hb3b).cell y0 id
              have y1' := (Keeps.of_below (S := fun _ => False) hb3b).cell y1 id
              have y2' := (Keeps.of_below (S := fun _ => False) hb3b).cell y2 id
              have y3' := (Keeps.of_below (S := fun _ => False) hb3b).cell y3 id
              go_wp2_with fail
              refine (Hcw.out w3b hb3b).mono ?_
              rintro e w4 ⟨rfl, S', hCT0⟩
              have hCT : CT wb c g S room 9 (k + 1) s A' w4 S' := ⟨hCT0.1, (Keeps.of_below hb3b).trans hCT0.2.1, fun j hj => (hCT0.2.2 j hj).imp id (fun h => Nat.le_trans hb3b.size h)⟩
              have HPt := hide (Hturn.out w4 S' A' s hCT (Calm.more Hcm.out (by omega)) (HW0.out (by decide)))
              clear hCT hCT0 Hcw HCb HMb Hln Hturn y0' y1' y2' y3'
              obtain ⟨S2, A2, s2, W2, R2, hC2, -⟩ := HPt.out
              have hfew2 := hC2.few
              have hdl2 := dirtyL_len A2
              have hfl2 := List.length_filter_le (fun x : En => x.d) A2
              have hln2 := clen_any hC2 (by omega)
              have hsz2 : Below w4.heap.size w4 w4 := Below.refl _ _
              generalize A2.length = a2 at *
              generalize (dirtyL A2).length = d2 at *
              have hd2a : (d2 : Int) ≤ (a2 : Int) := by omega
              have ha2r : (a2 : Int) ≤ (room : Int) := by omega
              have g1 : ¬ ((a2 : Int) - (d2 : Int) < 0) := by omega
              have g2 : ¬ ((d2 : Int) < 0) := by omega
              have g3 : ¬ ((room : Int) < (a2 : Int) - (d2 : Int)) := by omega
              have g4 : ¬ ((room : Int) - ((a2 : Int) - (d2 : Int)) < (d2 : Int)) := by omega
              have Hln2 := hide hln2
              clear hln2 hC2 hfew2 hdl2 hfl2 hd2a ha2r
              go_wp2_with fail
              refine Hln2.out.mono ?_
              rintro e w6 ⟨rfl, hb6⟩
              have HPn := hide (HPt.out.mono hb6)
              clear HPt
              go_wp2_with fail
              go_roundw
              case rel => exact ⟨k + 1, by omega, by go_num, HPn⟩
              case measure => simp [intOf]; omega

            · have t6 : ¬ ((dA : Int) < (room : Int)) := by omega
              go_wp2_with fail
              refine Hln.out.mono ?_
              rintro e w3b ⟨rfl, hb3b⟩
              have y0' := (Keeps.of_below (S := fun _ => False) hb3b).cell y0 id
              have y1' := (Keeps.of_below (S := fun _ => False) hb3b).cell y1 id
              have y2' := (Keeps.of_below (S := fun _ => False) hb3b).cell y2 id
              have y3' := (Keeps.of_below (S := fun _ => False) hb3b).cell y3 id
              go_wp2_with fail
              refine (Hcw.out w3b hb3b).mono ?_
              rintro e w4 ⟨rfl, S', hCT0⟩
              have hCT : CT wb c g S room 9 (k + 1) s A' w4 S' := ⟨hCT0.1, (Keeps.of_below hb3b).trans hCT0.2.1, fun j hj => (hCT0.2.2 j hj).imp id (fun h => Nat.le_trans hb3b.size h)⟩
              have HPt := hide (Hturn.out w4 S' A' s hCT (Calm.more Hcm.out (by omega)) (HW0.out (by decide)))
              clear hCT hCT0 Hcw HCb HMb Hln Hturn y0' y1' y2' y3'
              obtain ⟨S2, A2, s2, W2, R2, hC2, -⟩ := HPt.out
              have hfew2 := hC2.few
              have hdl2 := dirtyL_len A2
              have hfl2 := List.length_filter_le (fun x : En => x.d) A2
              have hln2 := clen_any hC2 (by omega)
              have hsz2 : Below w4.heap.size w4 w4 := Below.refl _ _
              generalize A2.length = a2 at *
              generalize (dirtyL A2).length = d2 at *
              have hd2a : (d2 : Int) ≤ (a2 : Int) := by omega
              have ha2r : (a2 : Int) ≤ (room : Int) := by omega
              have g1 : ¬ ((a2 : Int) - (d2 : Int) < 0) := by omega
              have g2 : ¬ ((d2 : Int) < 0) := by omega
              have g3 : ¬ ((room : Int) < (a2 : Int) - (d2 : Int)) := by omega
              have g4 : ¬ ((room : Int) - ((a2 : Int) - (d2 : Int)) < (d2 : Int)) := by omega
              have Hln2 := hide hln2
              clear hln2 hC2 hfew2 hdl2 hfl2 hd2a ha2r
              go_wp2_with fail
              refine Hln2.out.mono ?_
              rintro e w6 ⟨rfl, hb6⟩
              have HPn := hide (HPt.out.mono hb6)
              clear HPt
              go_wp2_with fail
              go_roundw
              case rel => exact ⟨k + 1, by omega, by go_num, HPn⟩
              case measure => simp [intOf]; omega

          · by_cases h2 : x.d = 2
            · rw [h2] at x0 y0 hwb
              clear h1 h2
              obtain ⟨s', A', hcl, hI', hc', hd'⟩ := HI.out.clean Hcm.out hWl (by have := Hdl.out; omega)
              have hcc := fun W1 (hb : Below wb.heap.size wb W1) => cclean_any (HCb.out.mono hb) (by omega) (by omega) (by omega)
              rw [hcl] at hcc
              simp only at hcc
              have Hcc := hide hcc
              have Hc' := hide hc'
              have HI' := hide hI'
              clear hcc hcl hc' hI' hd'
              generalize (dirtyL A).length = dA at *
              go_wp2_with fail
              refine Hln.out.mono ?_
              rintro e w3b ⟨rfl, hb3b⟩
              have y0' := (Keeps.of_below (S := fun _ => False) hb3b).cell y0 id
              have y1' := (Keeps.of_below (S := fun _ => False) hb3b).cell y1 id
              have y2' := (Keeps.of_below (S := fun _ => False) hb3b).cell y2 id
              have y3' := (Keeps.of_below (S := fun _ => False) hb3b).cell y3 id
              go_wp2_with fail
              refine (Hcc.out w3b hb3b).mono ?_
              rintro e w4 ⟨rfl, S', hCT0⟩
              have hCT : CT wb c g S room 9 (k + 1) s' A' w4 S' := ⟨hCT0.1.more (Nat.le_succ _), (Keeps.of_below hb3b).trans hCT0.2.1, fun j hj => (hCT0.2.2 j hj).imp id (fun h => Nat.le_trans hb3b.size h)⟩
              have HPt := hide (Hturn.out w4 S' A' s' hCT (Calm.more Hc'.out (by omega)) HI'.out)
              clear hCT hCT0 Hcc HCb HMb Hln Hturn y0' y1' y2' y3'
              obtain ⟨S2, A2, s2, W2, R2, hC2, -⟩ := HPt.out
              have hfew2 := hC2.few
              have hdl2 := dirtyL_len A2
              have hfl2 := List.length_filter_le (fun x : En => x.d) A2
              have hln2 := clen_any hC2 (by omega)
              have hsz2 : Below w4.heap.size w4 w4 := Below.refl _ _
              generalize A2.length = a2 at *
              generalize (dirtyL A2).length = d2 at *
              have hd2a : (d2 : Int) ≤ (a2 : Int) := by omega
              have ha2r : (a2 : Int) ≤ (room : Int) := by omega
              have g1 : ¬ ((a2 : Int) - (d2 : Int) < 0) := by omega
              have g2 : ¬ ((d2 : Int) < 0) := by omega
              have g3 : ¬ ((room : Int) < (a2 : Int) - (d2 : Int)) := by omega
              have g4 : ¬ ((room : Int) - ((a2 : Int) - (d2 : Int)) < (d2 : Int)) := by omega
              have Hln2 := hide hln2
              clear hln2 hC2 hfew2 hdl2 hfl2 hd2a ha2r
              go_wp2_with fail
              refine Hln2.out.mono ?_
              rintro e w6 ⟨rfl, hb6⟩
              have HPn := hide (HPt.out.mono hb6)
              clear HPt
              go_wp2_with fail
              go_roundw
              case rel => exact ⟨k + 1, by omega, by go_num, HPn⟩
              case measure => simp [intOf]; omega

            · have hcr := fun W1 (hb : Below wb.heap.size wb W1) => cread_any (HCb.out.mono hb) (bi : Int) (by omega) (by omega) (by omega)
              obtain ⟨rI0, rI1⟩ := HI.out.read (room := room) Hnd.out hbi9
              have hre := read_errs (room := room) (A := A) Hcm.out.on hbi9
              generalize readC room 9 s A (bi : Int) = RR at *
              obtain ⟨A', la, er⟩ := RR
              try simp only at rI0 rI1 hre hcr
              generalize hdA : (dirtyL A).length = dA at *
              clear hdA
              have hdb1 : (x.d == 1) = false := by simp [h1]
              have hdb2 : (x.d == 2) = false := by simp [h2]
              have Hcr := hide hcr
              have HrI := hide rI0
              have HrE := hide rI1
              clear hcr rI0 rI1 h1 h2
              rcases hre with rfl | ⟨rfl, hfull⟩
              · obtain rfl : la = W bi := HrE.out rfl
                go_wp2_with fail
                refine Hln.out.mono ?_
                rintro e w3b ⟨rfl, hb3b⟩
                have y0' := (Keeps.of_below (S := fun _ => False) hb3b).cell y0 id
                have y1' := (Keeps.of_below (S := fun _ => False) hb3b).cell y1 id
                have y2' := (Keeps.of_below (S := fun _ => False) hb3b).cell y2 id
                have y3' := (Keeps.of_below (S := fun _ => False) hb3b).cell y3 id
                go_wp2_with fail
                refine (Hcr.out w3b hb3b).mono ?_
                rintro e w4 ⟨v4, S', rfl, ho4, hCT0, hv4⟩
                have hCT : CT wb c g S room 9 (k + 1) s A' w4 S' := ⟨hCT0.1, (Keeps.of_below hb3b).trans hCT0.2.1, fun j hj => (hCT0.2.2 j hj).imp id (fun h => Nat.le_trans hb3b.size h)⟩
                have hM4 := HMb.out.keeps hCT.2.1 hTS.1 hTS.2
                have zT := hM4.c bi hbi9
                have hbs4 := hM4.bs bi hbi9
                rw [hWl bi hbi9] at ho4
                obtain ⟨r4, cap4, rfl⟩ := owns_256 ho4
                have heq := equal_any (.slice (some ⟨r4, 0, none⟩) 256 cap4) (.slice (some ⟨R bi, 0, none⟩) 256 256) (W bi) (W bi) w4 (Bs.of_owns ho4 (hM4.len bi hbi9).2) hbs4
                rw [decide_eq_true rfl] at heq
                have HPt := hide (Hturn.out w4 S' A' s hCT (Calm.more Hcm.out (by omega)) HrI.out)
                have Heq := hide heq
                clear hCT hCT0 Hcr HCb HMb Hln Hturn y0' y1' y2' y3' hM4 hbs4 heq ho4 hv4
                go_wp2_with fail
                refine Heq.out.mono ?_
                rintro e w' ⟨rfl, rfl⟩
                obtain ⟨S2, A2, s2, W2, R2, hC2, -⟩ := HPt.out
                have hfew2 := hC2.few
                have hdl2 := dirtyL_len A2
                have hfl2 := List.length_filter_le (fun x : En => x.d) A2
                have hln2 := clen_any hC2 (by omega)
                have hsz2 : Below w4.heap.size w4 w4 := Below.refl _ _
                generalize A2.length = a2 at *
                generalize (dirtyL A2).length = d2 at *
                have hd2a : (d2 : Int) ≤ (a2 : Int) := by omega
                have ha2r : (a2 : Int) ≤ (room : Int) := by omega
                have g1 : ¬ ((a2 : Int) - (d2 : Int) < 0) := by omega
                have g2 : ¬ ((d2 : Int) < 0) := by omega
                have g3 : ¬ ((room : Int) < (a2 : Int) - (d2 : Int)) := by omega
                have g4 : ¬ ((room : Int) - ((a2 : Int) - (d2 : Int)) < (d2 : Int)) := by omega
                have Hln2 := hide hln2
                clear hln2 hC2 hfew2 hdl2 hfl2 hd2a ha2r
                go_wp2_with fail
                refine Hln2.out.mono ?_
                rintro e w6 ⟨rfl, hb6⟩
                have HPn := hide (HPt.out.mono hb6)
                clear HPt
                go_wp2_with fail
                go_roundw
                case rel => exact ⟨k + 1, by omega, by go_num, HPn⟩
                case measure => simp [intOf]; omega

              · have t6 : ¬ ((dA : Int) < (room : Int)) := by omega
                go_wp2_with fail
                refine Hln.out.mono ?_
                rintro e w3b ⟨rfl, hb3b⟩
                have y0' := (Keeps.of_below (S := fun _ => False) hb3b).cell y0 id
                have y1' := (Keeps.of_below (S := fun _ => False) hb3b).cell y1 id
                have y2' := (Keeps.of_below (S := fun _ => False) hb3b).cell y2 id
                have y3' := (Keeps.of_below (S := fun _ => False) hb3b).cell y3 id
                go_wp2_with fail
                refine (Hcr.out w3b hb3b).mono ?_
                rintro e w4 ⟨v4, S', rfl, ho4, hCT0, hv4⟩
                have hCT : CT wb c g S room 9 (k + 1) s A' w4 S' := ⟨hCT0.1, (Keeps.of_below hb3b).trans hCT0.2.1, fun j hj => (hCT0.2.2 j hj).imp id (fun h => Nat.le_trans hb3b.size h)⟩
                have HPt := hide (Hturn.out w4 S' A' s hCT (Calm.more Hcm.out (by omega)) HrI.out)
                clear hCT hCT0 Hcr HCb HMb Hln Hturn y0' y1' y2' y3' ho4 hv4
                obtain ⟨S2, A2, s2, W2, R2, hC2, -⟩ := HPt.out
                have hfew2 := hC2.few
                have hdl2 := dirtyL_len A2
                have hfl2 := List.length_filter_le (fun x : En => x.d) A2
                have hln2 := clen_any hC2 (by omega)
                have hsz2 : Below w4.heap.size w4 w4 := Below.refl _ _
                generalize A2.length = a2 at *
                generalize (dirtyL A2).length = d2 at *
                have hd2a : (d2 : Int) ≤ (a2 : Int) := by omega
                have ha2r : (a2 : Int) ≤ (room : Int) := by omega
                have g1 : ¬ ((a2 : Int) - (d2 : Int) < 0) := by omega
                have g2 : ¬ ((d2 : Int) < 0) := by omega
                have g3 : ¬ ((room : Int) < (a2 : Int) - (d2 : Int)) := by omega
                have g4 : ¬ ((room : Int) - ((a2 : Int) - (d2 : Int)) < (d2 : Int)) := by omega
                have Hln2 := hide hln2
                clear hln2 hC2 hfew2 hdl2 hfl2 hd2a ha2r
                go_wp2_with fail
                refine Hln2.out.mono ?_
                rintro e w6 ⟨rfl, hb6⟩
                have HPn := hide (HPt.out.mono hb6)
                clear HPt
                go_wp2_with fail
                go_roundw
                case rel => exact ⟨k + 1, by omega, by go_num, HPn⟩
                case measure => simp [intOf]; omega

        · obtain rfl : k = q := by omega
          obtain ⟨S, A, s, W, R, hC, hcm, hI, hM, hTS, hTl, hSw, hwT, hwR, hB⟩ := HP.out
          have hzB := hB.size
          have hpe := hcm.pend
          have hop := hcm.ops
          have hfew := hC.few
          have hdl := dirtyL_len A
          have hfl := List.length_filter_le (fun x : En => x.d) A
          obtain ⟨s', A', hcl, hI', hc', hd'⟩ := hI.clean hcm (fun j hj => (hM.len j hj).1) (by omega)
          have hcc := cclean_any hC (by omega) (by omega) (by omega)
          rw [hcl] at hcc
          simp only at hcc
          have Hcc := hide hcc
          have Hc' := hide hc'
          have HI' := hide hI'
          have Hd' := hide hd'
          have HM := hide hM
          clear hcc hcl hc' hI' hd' HP hC hM hI hcm hdl hfl hfew
          go_wp2_with fail
          refine Hcc.out.mono ?_
          rintro e w4 ⟨rfl, S', hCT⟩
          have hM4 := HM.out.keeps hCT.2.1 hTS.1 hTS.2
          have hB4 : Below w.heap.size w w4 := hB.trans (hCT.2.1.below hSw hzB)
          obtain ⟨gm, pp, Fd, hD4⟩ := hCT.1.disk
          have HM4 := hide hM4
          have HD4 := hide hD4
          clear hM4 hD4 hCT Hcc HM
          go_wp2_with fail
          go_loopw [217] (fun iv wr => ∃ j : Nat, j ≤ 9 ∧ iv = .int .i64 (j : Int) ∧ Below w4.heap.size w4 wr) (fun iv _ => 9 - (intOf iv).toNat)
          case atStart => exact ⟨0, by omega, rfl, Below.refl _ _⟩
          case round =>
            obtain ⟨j, hj, rfl, hbi⟩ := hrel
            by_cases hj9 : j < 9
            · have hj9i : (j : Int) < 9 := by omega
              have hrd := read_yes (HD4.out.mono hbi) (j : Int) (by have := Hc'.out.pend; omega)
              rw [readS_on Hc'.out.on hj9, HI'.out.dsk j hj9 (Hd'.out j)] at hrd
              have hl256 := (HM4.out.len j hj9).1
              simp only [hl256] at hrd
              have Hrd := hide hrd
              clear hrd hl256
              go_wp2_with fail
              refine Hrd.out.mono ?_
              rintro e w5 ⟨v5, rfl, ho5, hb5⟩
              obtain ⟨r5, cap5, rfl⟩ := owns_256 ho5
              have hM5 := (HM4.out.keeps (S := fun _ => False) (Keeps.of_below hbi) id (fun _ _ => id)).keeps (S := fun _ => False) (Keeps.of_below hb5) id (fun _ _ => id)
              have zT := hM5.c j hj9
              have heq := equal_any (.slice (some ⟨r5, 0, none⟩) 256 cap5) (.slice (some ⟨R j, 0, none⟩) 256 256) (W j) (W j) w5 (Bs.of_owns ho5 (hM5.len j hj9).2) (hM5.bs j hj9)
              rw [decide_eq_true rfl] at heq
              have Heq := hide heq
              clear heq hM5 ho5
              go_wp2_with fail
              refine Heq.out.mono ?_
              rintro e w' ⟨rfl, rfl⟩
              go_wp2_with fail
              go_roundw
              case rel => exact ⟨j + 1, by omega, by go_num, hbi.trans (hb5.mono hbi.size)⟩
              case measure => simp [intOf]; omega
            · obtain rfl : j = 9 := by omega
              clear HM4 HD4
              go_wp2_with fail
              go_ret
              exact ⟨by simp, hB4.trans (hbi.mono hB4.size)⟩

set_option maxRecDepth 100000 in
theorem cacheIs_lifted (os : Os) (started : os.Started) (H : Type) (enc : TypeId × Value → H) :
    ReturnsInHanded {} Try.checked os 4 .any (Rows.cacheIsSpec.pre6 enc Try.prog Try.f4 Rows.cacheIsRow.domain false) (Rows.cacheIsSpec.post enc Try.prog Try.f4 false true false false) := by
  refine law_frame (C := Try.checked) rfl Try.own started (by kernel_rfl) Try.func4
    (ChangeSpec.witness6 (enc := enc) (C := Try.checked) false ⟨#[], #[.int .u8 0, .slice none 0 0], []⟩ 8 (by kernel_rfl) (by kernel_rfl) (by kernel_rfl) (by kernel_rfl))
    Try.laidOut ?_ 4 rfl Try.underlying4 ?_ ?_
  · rw [Try.params4]
    intro t ht
    simp at ht
    rcases ht with rfl | rfl <;> exact ⟨by kernel_rfl, of_decide_eq_true (by kernel_rfl)⟩
  · intro ds hn
    rw [Try.params4] at hn
    match ds, hn with
    | [d1, d2], _ => rfl
  · intro W base args ds p hval0 hA hsz
    have hval : ∀ (j : Nat) t v, Try.f4.params[j]? = some t → args[j]? = some v → Value.okWide Try.prog W .any base t v := hval0
    rw [Try.params4] at hA hsz hval
    obtain ⟨v0, vs0, d0, ds0, p0, q0, hargs, rfl, rfl, h0, r0⟩ := trodAll_cons hA
    obtain ⟨v1, vs1, d1, ds1, p1, q1, rfl, rfl, rfl, h1, r1⟩ := trodAll_cons r0
    obtain ⟨rfl, rfl, rfl⟩ := trodAll_nil r1
    obtain rfl : args = #[v0, v1] := by cases args; simp_all
    obtain ⟨a0, rfl, rfl, rfl, w0⟩ := open_int Try.underlying5 (hval 0 5 v0 rfl rfl) h0
    have hb0 := bounds_u8 w0
    obtain ⟨n0, rfl⟩ := Int.eq_ofNat_of_zero_le hb0.1
    obtain ⟨l1, hop1, hol1⟩ := Ops.came (hval 1 22 v1 rfl rfl) h1 hsz (j := 1) rfl rfl
    exact is_walk n0 (by omega) v1 l1 W hop1 hol1

theorem cacheIs_holds : Rows.CacheIsSaid :=
  OpenClaim.holds_of_wide 4 Try.f4 rfl rfl rfl rfl rfl rfl rfl ⟨rfl, rfl, rfl, rfl, rfl⟩ rfl rfl rfl rfl rfl (by kernel_rfl) Try.func4 (by kernel_rfl)
    (of_decide_eq_true (by kernel_rfl)) (by unfold Func.isWrapper; first | (rw [if_pos (by decide +kernel)]; kernel_rfl) | (rw [if_neg (by decide +kernel)]; exact ⟨rfl, rfl⟩))
    (fun os started H enc _ => cacheIs_lifted os started H enc)
#print axioms cacheIs_holds

end Go.Proofs.Ytjcmmigbkhiplaa
