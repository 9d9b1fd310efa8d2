/- Contracts: summed (the sixty bytes ahead of a super's sum). -/
import Derived.Test.YtfjkmgfjlckmlaaSP
import Derived.Test.YtfjkmgfjlckmlaaMark
import Derived.Deep.RegionHeldLaw
set_option linter.unusedSimpArgs false
set_option linter.unusedVariables false
namespace Go.Proofs.Ytfjkmgfjlckmlaa
open Go.RowKit Go.Attic

def magicC : Array Value := #[.int .u8 97, .int .u8 116, .int .u8 116, .int .u8 105, .int .u8 99, .int .u8 32, .int .u8 49, .int .u8 10]
theorem magicC_toList : magicC.toList = cellsB magicL := rfl

theorem num8 (v : Nat) : numL 8 v = numN 8 v := by simp [numL, widthB]
theorem num8_yes (v : Nat) (w : World) (hv : v < 2 ^ 64) : Calls Try.prog 39 #[.int .i64 8, .int .u64 v] w (NewBs w (numN 8 v)) := num_yes 8 v w (by decide) (by decide) hv
theorem num4_yes (v : Nat) (w : World) (hv : v < 2 ^ 64) : Calls Try.prog 39 #[.int .i64 4, .int .u64 v] w (NewBs w (numN 4 v)) := num_yes 4 v w (by decide) (by decide) hv

theorem Bss.seven {w : World} {v1 v2 v3 v4 v5 v6 v7 : Value} {l1 l2 l3 l4 l5 l6 l7 : List Nat} (e : TypeId) (h1 : Bs w v1 l1) (h2 : Bs w v2 l2) (h3 : Bs w v3 l3) (h4 : Bs w v4 l4) (h5 : Bs w v5 l5) (h6 : Bs w v6 l6) (h7 : Bs w v7 l7) :
    Bss (w.alloc (.cells #[v1, v2, v3, v4, v5, v6, v7] e)) (.slice (some ⟨w.heap.size, 0, none⟩) 7 7) [l1, l2, l3, l4, l5, l6, l7] := by
  refine ⟨w.heap.size, 0, 7, rfl, fun i hi => ?_⟩
  match i, hi with
  | 0, _ => exact ⟨v1, by simp, h1.alloc _⟩
  | 1, _ => exact ⟨v2, by simp, h2.alloc _⟩
  | 2, _ => exact ⟨v3, by simp, h3.alloc _⟩
  | 3, _ => exact ⟨v4, by simp, h4.alloc _⟩
  | 4, _ => exact ⟨v5, by simp, h5.alloc _⟩
  | 5, _ => exact ⟨v6, by simp, h6.alloc _⟩
  | 6, _ => exact ⟨v7, by simp, h7.alloc _⟩

/-- What stands while the bytes are gathered: the super in its block, the row of sixty behind it. -/
structure Pre (w W : World) (ep b l d x h : Nat) : Prop where
  sup : SupAt W w.heap.size ep b l d x h
  own : W.ownsRow w.heap.size 5 1 (.slice (some ⟨w.heap.size + 1, 0, none⟩) 60 60) 60 (cellsB (zerosL 60))
  bel : Below w.heap.size w W
  sz : w.heap.size + 2 ≤ W.heap.size

theorem Pre.mono {w W W' : World} {ep b l d x h : Nat} (p : Pre w W ep b l d x h) (hb : Below W.heap.size W W') : Pre w W' ep b l d x h :=
  ⟨p.sup.mono hb, owns_below p.own hb (Nat.le_refl _), p.bel.trans (hb.mono p.bel.size), Nat.le_trans p.sz hb.size⟩
theorem Pre.alloc {w W : World} {ep b l d x h : Nat} (p : Pre w W ep b l d x h) (o : Obj) : Pre w (W.alloc o) ep b l d x h := p.mono ((Below.refl _ _).alloc (Nat.le_refl _) o)
theorem Pre.drew {w W : World} {ep b l d x h : Nat} (p : Pre w W ep b l d x h) : Pre w W.drew ep b l d x h := p.mono (Below.refl _ _).drew
theorem SupAt.keeps {w w' : World} {S : Nat → Prop} {g : Nat} {a0 a1 a2 a3 a4 a5 : Int} (h : SupAt w g a0 a1 a2 a3 a4 a5) (k : Keeps S w w') (hg : ¬ S g) : SupAt w' g a0 a1 a2 a3 a4 a5 := by
  refine ⟨k.cell h.c0 hg, k.cell h.c1 hg, k.cell h.c2 hg, k.cell h.c3 hg, k.cell h.c4 hg, k.cell h.c5 hg, ?_, ?_, ?_, ?_, ?_, ?_, Nat.lt_of_lt_of_le h.lt k.size⟩
  · rw [k.frozen (a := ⟨g, 0, none⟩) h.lt hg]; exact h.f0
  · rw [k.frozen (a := ⟨g, 1, none⟩) h.lt hg]; exact h.f1
  · rw [k.frozen (a := ⟨g, 2, none⟩) h.lt hg]; exact h.f2
  · rw [k.frozen (a := ⟨g, 3, none⟩) h.lt hg]; exact h.f3
  · rw [k.frozen (a := ⟨g, 4, none⟩) h.lt hg]; exact h.f4
  · rw [k.frozen (a := ⟨g, 5, none⟩) h.lt hg]; exact h.f5
theorem Pre.freeze {w W W3 : World} {ep b l d x h : Nat} (p : Pre w W ep b l d x h) (q : Pre w W3 ep b l d x h) (k n : Nat) : Pre w (W.freeze ⟨W3.heap.size, k, none⟩ n) ep b l d x h := by
  have kk := Keeps.freeze W ⟨W3.heap.size, k, none⟩ n
  have hz := q.sz
  refine ⟨p.sup.keeps kk (by intro e2; have e3 : w.heap.size = W3.heap.size := e2; omega), kk.owns p.own (by intro b' hb e2; have e : w.heap.size + 1 = b' := (by simpa [Value.ownBlock] using hb); have e3 : b' = W3.heap.size := e2; omega), p.bel.trans (kk.below (fun j hj => by have e : j = W3.heap.size := hj; omega) p.bel.size), by rw [heap_freeze_size]; exact p.sz⟩
theorem Pre.held {w w' : World} {ep b l d x h : Nat} (p : Pre w w' ep b l d x h) : w'.cell? ⟨w.heap.size, 0, none⟩ = some (.int .i64 (ep : Nat)) ∧ w'.cell? ⟨w.heap.size, 1, none⟩ = some (.int .i64 (b : Nat)) ∧ w'.cell? ⟨w.heap.size, 2, none⟩ = some (.int .i64 (l : Nat)) ∧ w'.cell? ⟨w.heap.size, 3, none⟩ = some (.int .i64 (d : Nat)) ∧ w'.cell? ⟨w.heap.size, 4, none⟩ = some (.int .i64 (x : Nat)) ∧ w'.cell? ⟨w.heap.size, 5, none⟩ = some (.int .i64 (h : Nat)) :=
  ⟨p.sup.c0, p.sup.c1, p.sup.c2, p.sup.c3, p.sup.c4, p.sup.c5⟩
theorem sup_held {w' : World} {g : Nat} {ep b l d x h : Nat} (p : SupAt w' g ep b l d x h) : w'.cell? ⟨g, 0, none⟩ = some (.int .i64 (ep : Nat)) ∧ w'.cell? ⟨g, 1, none⟩ = some (.int .i64 (b : Nat)) ∧ w'.cell? ⟨g, 2, none⟩ = some (.int .i64 (l : Nat)) ∧ w'.cell? ⟨g, 3, none⟩ = some (.int .i64 (d : Nat)) ∧ w'.cell? ⟨g, 4, none⟩ = some (.int .i64 (x : Nat)) ∧ w'.cell? ⟨g, 5, none⟩ = some (.int .i64 (h : Nat)) :=
  ⟨p.c0, p.c1, p.c2, p.c3, p.c4, p.c5⟩

theorem body_form {w : World} {B : Nat} {v : Value} {ep b l d x h : Nat} (ho : w.ownsRow B 5 1 v ([magicL, numN 8 ep, numN 4 b, numN 4 l, numN 4 d, numN 4 x, numN 8 h] : List (List Nat)).flatten.length (cellsB ([magicL, numN 8 ep, numN 4 b, numN 4 l, numN 4 d, numN 4 x, numN 8 h] : List (List Nat)).flatten)) :
    ∃ g cap, v = .slice (some ⟨g, 0, none⟩) 40 cap ∧ ∀ j u, (cellsB (bodyL ep b l d x h))[j]? = some u → w.cell? ((⟨g, 0, none⟩ : Addr).add j) = some u := by
  have e : ([magicL, numN 8 ep, numN 4 b, numN 4 l, numN 4 d, numN 4 x, numN 8 h] : List (List Nat)).flatten = bodyL ep b l d x h := by simp [bodyL]
  rw [e, bodyL_length] at ho
  obtain ⟨ao, cap, rfl, hc, hg⟩ := owns_form ho
  obtain ⟨g, rfl, _⟩ := hg (by decide)
  exact ⟨g, cap, rfl, ho.cells (g := g) rfl⟩

theorem body_splice (ep b l d x h : Nat) : splice (cellsB (zerosL 60)) 0 (cellsB (bodyL ep b l d x h)) = cellsB (sumdL ep b l d x h) := by
  have e : (cellsB (bodyL ep b l d x h)).length = 40 := by rw [cellsB_length, bodyL_length]
  unfold splice
  rw [e]
  have e2 : (cellsB (zerosL 60)).drop (0 + 40) = cellsB (zerosL 20) := by
    unfold cellsB
    rw [← List.map_drop, zerosL_drop]
  rw [e2, List.take_zero, List.nil_append, ← cellsB_append]
  rfl
theorem concat_len (ep b l d x h : Nat) : ([magicL, numN 8 ep, numN 4 b, numN 4 l, numN 4 d, numN 4 x, numN 8 h] : List (List Nat)).flatten.length = 40 := by
  have e : ([magicL, numN 8 ep, numN 4 b, numN 4 l, numN 4 d, numN 4 x, numN 8 h] : List (List Nat)).flatten = bodyL ep b l d x h := by simp [bodyL]
  rw [e, bodyL_length]

theorem zeros_made (n : Nat) : (madeCells (Value.int .u8 0).cells (n * 1)).toList = cellsB (zerosL n) := made_zeros n

set_option maxRecDepth 100000 in
set_option maxHeartbeats 8000000 in
theorem summed_yes (ep b l d x h : Nat) (w : World) (k0 : ep < 9223372036854775808) (k1 : b < 9223372036854775808) (k2 : l < 9223372036854775808) (k3 : d < 9223372036854775808) (k4 : x < 9223372036854775808) (k5 : h < 9223372036854775808) :
    Calls Try.prog 29 #[.agg #[.int .i64 (ep : Nat), .int .i64 (b : Nat), .int .i64 (l : Nat), .int .i64 (d : Nat), .int .i64 (x : Nat), .int .i64 (h : Nat)]] w (NewBs w (sumdL ep b l d x h)) := by
  obtain ⟨i0, hi, hz0, hz1, hz2⟩ := info_parts Try.info5
  have hinf : (Try.prog.info? 5).map (·.size) = some 1 := by kernel_rfl
  have kc := fun (w : World) (C : Array Value) (n c : Nat) => run_convert_mark (P := Try.prog) 34 5 n c Try.underlying34 Try.underlying5 (RowAt.new w 5 C)
  have kd := fun (w : World) (C : Array Value) (n c : Nat) => run_convert_mark (P := Try.prog) 34 5 n c Try.underlying34 Try.underlying5 ((RowAt.new w 5 C).mono (Below.refl _ _).drew)
  have hw0 : IntKind.u64.wrap (ep : Int) = ep := wrap_u64 _ (by omega)
  have hw1 : IntKind.u64.wrap (b : Int) = b := wrap_u64 _ (by omega)
  have hw2 : IntKind.u64.wrap (l : Int) = l := wrap_u64 _ (by omega)
  have hw3 : IntKind.u64.wrap (d : Int) = d := wrap_u64 _ (by omega)
  have hw4 : IntKind.u64.wrap (x : Int) = x := wrap_u64 _ (by omega)
  have hw5 : IntKind.u64.wrap (h : Int) = h := wrap_u64 _ (by omega)
  have hS0 := SupAt.new w ep b l d x h
  go_enter Try.func29, Try.ntmps29
  go_wp2_with (at_make; refine wpList_make_full _ rfl (.const (.int .i64 60)) (.const (.int .i64 60)) 34 rfl w.heap.size 5 i0 (.int .u8 0) 1 Try.underlying34 hi hz0 hz1 .i64 .i64 60 60 60 rfl rfl rfl rfl (by rw [hz2]; omega) (by unfold maxLen; omega) (by simp) ?_; intro w1 hown hgrow)
  rw [zeros_made] at hown
  have hb1 : Below (w.alloc (.cells #[.int .i64 (ep : Nat), .int .i64 (b : Nat), .int .i64 (l : Nat), .int .i64 (d : Nat), .int .i64 (x : Nat), .int .i64 (h : Nat)] 25)).heap.size (w.alloc (.cells #[.int .i64 (ep : Nat), .int .i64 (b : Nat), .int .i64 (l : Nat), .int .i64 (d : Nat), .int .i64 (x : Nat), .int .i64 (h : Nat)] 25)) w1 := (Below.refl _ _).grown hgrow (Nat.le_refl _) (by intro k hk; cases hk)
  have hp1 : Pre w w1 ep b l d x h := ⟨hS0.mono hb1, by simpa using hown, ((Below.refl _ w).alloc (Nat.le_refl _) _).trans (hb1.mono (by simp)), by have h1 := owns_lt' hown _ rfl; simp at h1; omega⟩
  have hp2 := hp1.drew
  clear hb1 hown hgrow hS0
  go_region_held_law (fun w' => w'.cell? ⟨w.heap.size, 0, none⟩ = some (.int .i64 (ep : Nat)) ∧ w'.cell? ⟨w.heap.size, 1, none⟩ = some (.int .i64 (b : Nat)) ∧ w'.cell? ⟨w.heap.size, 2, none⟩ = some (.int .i64 (l : Nat)) ∧ w'.cell? ⟨w.heap.size, 3, none⟩ = some (.int .i64 (d : Nat)) ∧ w'.cell? ⟨w.heap.size, 4, none⟩ = some (.int .i64 (x : Nat)) ∧ w'.cell? ⟨w.heap.size, 5, none⟩ = some (.int .i64 (h : Nat)))
    (first | exact sup_held (by assumption) | (refine Pre.held ?_; repeat (first | assumption | exact Pre.mono (by assumption) (by assumption) | refine Pre.alloc ?_ _ | refine Pre.freeze ?_ (by assumption) _ _ | refine Pre.drew ?_)))
    (first
      | (go_at_call 39; refine (num_any _ _ _ (by omega)).mono ?_; rintro r w2 ⟨v2, rfl, ho2, hb2⟩
         try rw [num8] at ho2
         try rw [num4] at ho2
         obtain ⟨ao2, cap2, rfl, -, -⟩ := owns_form ho2
         have hbs2 := Bs.of_owns ho2 (numN_lt _ _)
         have hp2 : Pre w w2 ep b l d x h := Pre.mono (by repeat (first | assumption | exact Pre.mono (by assumption) (by assumption) | refine Pre.alloc ?_ _ | refine Pre.freeze ?_ (by assumption) _ _ | refine Pre.drew ?_)) hb2
         try (have hrow := RowAt.mono (by first | assumption | exact RowAt.new _ 5 magicC | exact (RowAt.new _ 5 magicC).mono (Below.refl _ _).drew) hb2; have hcv := fun n c => run_convert_mark (P := Try.prog) 34 5 n c Try.underlying34 Try.underlying5 hrow)
         clear ho2
         skip)
      | (go_at_call 38; refine (concat_any _ [magicL, numN 8 ep, numN 4 b, numN 4 l, numN 4 d, numN 4 x, numN 8 h] _ (Bss.seven _ ?_ ?_ ?_ ?_ ?_ ?_ ?_) (by simp) ?_ ?_).mono ?_
         iterate 7 (· (repeat (first | assumption | exact RowAt.bs (by assumption) rfl magicC_toList magicL_lt | exact RowAt.bs (RowAt.new _ 5 magicC) rfl magicC_toList magicL_lt | refine Bs.alloc ?_ _ | refine Bs.freeze ?_ _ _ | refine Bs.mono ?_ (by assumption) | refine Bs.drew ?_)))
         · rw [concat_len]; decide
         · rw [concat_len]; decide
         rintro r w5 ⟨v5, rfl, ho5, hb5⟩
         obtain ⟨g5, cap5, rfl, hsrc⟩ := body_form ho5
         have hp5 : Pre w w5 ep b l d x h := Pre.mono (by repeat (first | assumption | exact Pre.mono (by assumption) (by assumption) | refine Pre.alloc ?_ _ | refine Pre.freeze ?_ (by assumption) _ _ | refine Pre.drew ?_)) hb5
         clear ho5
         skip)
      | (refine step_copy_own rfl (.tmp 5) (.tmp 37) 34 34 rfl 5 Try.underlying34 hinf (w.heap.size + 1) 0 60 60 ⟨g5, 0, none⟩ 40 cap5 rfl rfl 60 60 _ (owns_base hp5.own (Nat.zero_le _)) (cellsB (bodyL ep b l d x h)) ?_ hsrc ?_ (cellsB_oneCell _) ?_
         · rw [cellsB_length, bodyL_length]; rfl
         · rw [cellsB_length, bodyL_length]; decide
         intro w6 o6 k6
         rw [cellsB_length, bodyL_length]
         rw [body_splice] at o6
         have hs6 := SupAt.keeps hp5.sup k6 (by intro e; omega)
         have o7 : w6.ownsRow w.heap.size 5 1 (.slice (some ⟨w.heap.size + 1, 0, none⟩) 60 60) (sumdL ep b l d x h).length (cellsB (sumdL ep b l d x h)) := by rw [sumdL_length]; exact owns_raise o6 (by omega)
         have b7 : Below w.heap.size w w6 := hp5.bel.trans (k6.below (fun j hj => by have e : j = w.heap.size + 1 := hj; omega) hp5.bel.size)
         have O7 := hide o7
         clear o6 o7
         skip))
  all_goals go_wp2_with fail
  all_goals go_ret
  all_goals exact ⟨_, rfl, O7.out, b7⟩

end Go.Proofs.Ytfjkmgfjlckmlaa
