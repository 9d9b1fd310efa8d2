/- Contracts: summed (the sixty bytes ahead of a super's sum): a region that draws its order, its ways joined again at each call. -/
import Derived.Test.YtfjkmgfjlckmlaaSP
import Derived.Test.YtfjkmgfjlckmlaaMark
import Derived.Deep.RegionHeldLaw
set_option linter.unusedSimpArgs false
set_option linter.unusedVariables false
namespace Go.Proofs.Ytfjkmgfjlckmlaa
open Go.RowKit Go.Attic

def magicC : Array Value := #[.int .u8 97, .int .u8 116, .int .u8 116, .int .u8 105, .int .u8 99, .int .u8 32, .int .u8 49, .int .u8 10]
theorem magicC_toList : magicC.toList = cellsB magicL := rfl

theorem num8 (v : Nat) : numL 8 v = numN 8 v := by simp [numL, widthB]
theorem num8_yes (v : Nat) (w : World) (hv : v < 2 ^ 64) : Calls Try.prog 39 #[.int .i64 8, .int .u64 v] w (NewBs w (numN 8 v)) := num_yes 8 v w (by decide) (by decide) hv
theorem num4_yes (v : Nat) (w : World) (hv : v < 2 ^ 64) : Calls Try.prog 39 #[.int .i64 4, .int .u64 v] w (NewBs w (numN 4 v)) := num_yes 4 v w (by decide) (by decide) hv

theorem Bss.seven {w : World} {v1 v2 v3 v4 v5 v6 v7 : Value} {l1 l2 l3 l4 l5 l6 l7 : List Nat} (e : TypeId) (h1 : Bs w v1 l1) (h2 : Bs w v2 l2) (h3 : Bs w v3 l3) (h4 : Bs w v4 l4) (h5 : Bs w v5 l5) (h6 : Bs w v6 l6) (h7 : Bs w v7 l7) :
    Bss (w.alloc (.cells #[v1, v2, v3, v4, v5, v6, v7] e)) (.slice (some ⟨w.heap.size, 0, none⟩) 7 7) [l1, l2, l3, l4, l5, l6, l7] := by
  refine ⟨w.heap.size, 0, 7, rfl, fun i hi => ?_⟩
  match i, hi with
  | 0, _ => exact ⟨v1, by simp, h1.alloc _⟩
  | 1, _ => exact ⟨v2, by simp, h2.alloc _⟩
  | 2, _ => exact ⟨v3, by simp, h3.alloc _⟩
  | 3, _ => exact ⟨v4, by simp, h4.alloc _⟩
  | 4, _ => exact ⟨v5, by simp, h5.alloc _⟩
  | 5, _ => exact ⟨v6, by simp, h6.alloc _⟩
  | 6, _ => exact ⟨v7, by simp, h7.alloc _⟩

/-- What stands while the bytes are gathered: the super in its block, the row of sixty behind it. -/
structure Pre (w W : World) (ep b l d x h : Nat) : Prop where
  sup : SupAt W w.heap.size ep b l d x h
  own : W.ownsRow w.heap.size 5 1 (.slice (some ⟨w.heap.size + 1, 0, none⟩) 60 60) 60 (cellsB (zerosL 60))
  bel : Below w.heap.size w W
  sz : w.heap.size + 2 ≤ W.heap.size

theorem Pre.mono {w W W' : World} {ep b l d x h : Nat} (p : Pre w W ep b l d x h) (hb : Below W.heap.size W W') : Pre w W' ep b l d x h :=
  ⟨p.sup.mono hb, owns_below p.own hb (Nat.le_refl _), p.bel.trans (hb.mono p.bel.size), Nat.le_trans p.sz hb.size⟩
theorem Pre.alloc {w W : World} {ep b l d x h : Nat} (p : Pre w W ep b l d x h) (o : Obj) : Pre w (W.alloc o) ep b l d x h := p.mono ((Below.refl _ _).alloc (Nat.le_refl _) o)
theorem Pre.drew {w W : World} {ep b l d x h : Nat} (p : Pre w W ep b l d x h) : Pre w W.drew ep b l d x h := p.mono (Below.refl _ _).drew
theorem SupAt.keeps {w w' : World} {S : Nat → Prop} {g : Nat} {a0 a1 a2 a3 a4 a5 : Int} (h : SupAt w g a0 a1 a2 a3 a4 a5) (k : Keeps S w w') (hg : ¬ S g) : SupAt w' g a0 a1 a2 a3 a4 a5 := by
  refine ⟨k.cell h.c0 hg, k.cell h.c1 hg, k.cell h.c2 hg, k.cell h.c3 hg, k.cell h.c4 hg, k.cell h.c5 hg, ?_, ?_, ?_, ?_, ?_, ?_, Nat.lt_of_lt_of_le h.lt k.size⟩
  · rw [k.frozen (a := ⟨g, 0, none⟩) h.lt hg]; exact h.f0
  · rw [k.frozen (a := ⟨g, 1, none⟩) h.lt hg]; exact h.f1
  · rw [k.frozen (a := ⟨g, 2, none⟩) h.lt hg]; exact h.f2
  · rw [k.frozen (a := ⟨g, 3, none⟩) h.lt hg]; exact h.f3
  · rw [k.frozen (a := ⟨g, 4, none⟩) h.lt hg]; exact h.f4
  · rw [k.frozen (a := ⟨g, 5, none⟩) h.lt hg]; exact h.f5
theorem Pre.freeze {w W W3 : World} {ep b l d x h : Nat} (p : Pre w W ep b l d x h) (q : Pre w W3 ep b l d x h) (k n : Nat) : Pre w (W.freeze ⟨W3.heap.size, k, none⟩ n) ep b l d x h := by
  have kk := Keeps.freeze W ⟨W3.heap.size, k, none⟩ n
  have hz := q.sz
  refine ⟨p.sup.keeps kk (by intro e2; have e3 : w.heap.size = W3.heap.size := e2; omega), kk.owns p.own (by intro b' hb e2; have e : w.heap.size + 1 = b' := (by simpa [Value.ownBlock] using hb); have e3 : b' = W3.heap.size := e2; omega), p.bel.trans (kk.below (fun j hj => by have e : j = W3.heap.size := hj; omega) p.bel.size), by rw [heap_freeze_size]; exact p.sz⟩
theorem Pre.held {w w' : World} {ep b l d x h : Nat} (p : Pre w w' ep b l d x h) : w'.cell? ⟨w.heap.size, 0, none⟩ = some (.int .i64 (ep : Nat)) ∧ w'.cell? ⟨w.heap.size, 1, none⟩ = some (.int .i64 (b : Nat)) ∧ w'.cell? ⟨w.heap.size, 2, none⟩ = some (.int .i64 (l : Nat)) ∧ w'.cell? ⟨w.heap.size, 3, none⟩ = some (.int .i64 (d : Nat)) ∧ w'.cell? ⟨w.heap.size, 4, none⟩ = some (.int .i64 (x : Nat)) ∧ w'.cell? ⟨w.heap.size, 5, none⟩ = some (.int .i64 (h : Nat)) :=
  ⟨p.sup.c0, p.sup.c1, p.sup.c2, p.sup.c3, p.sup.c4, p.sup.c5⟩
theorem sup_held {w' : World} {g : Nat} {ep b l d x h : Nat} (p : SupAt w' g ep b l d x h) : w'.cell? ⟨g, 0, none⟩ = some (.int .i64 (ep : Nat)) ∧ w'.cell? ⟨g, 1, none⟩ = some (.int .i64 (b : Nat)) ∧ w'.cell? ⟨g, 2, none⟩ = some (.int .i64 (l : Nat)) ∧ w'.cell? ⟨g, 3, none⟩ = some (.int .i64 (d : Nat)) ∧ w'.cell? ⟨g, 4, none⟩ = some (.int .i64 (x : Nat)) ∧ w'.cell? ⟨g, 5, none⟩ = some (.int .i64 (h : Nat)) :=
  ⟨p.c0, p.c1, p.c2, p.c3, p.c4, p.c5⟩

theorem body_form {w : World} {B : Nat} {v : Value} {ep b l d x h : Nat} (ho : w.ownsRow B 5 1 v ([magicL, numN 8 ep, numN 4 b, numN 4 l, numN 4 d, numN 4 x, numN 8 h] : List (List Nat)).flatten.length (cellsB ([magicL, numN 8 ep, numN 4 b, numN 4 l, numN 4 d, numN 4 x, numN 8 h] : List (List Nat)).flatten)) :
    ∃ g cap, v = .slice (some ⟨g, 0, none⟩) 40 cap ∧ ∀ j u, (cellsB (bodyL ep b l d x h))[j]? = some u → w.cell? ((⟨g, 0, none⟩ : Addr).add j) = some u := by
  have e : ([magicL, numN 8 ep, numN 4 b, numN 4 l, numN 4 d, numN 4 x, numN 8 h] : List (List Nat)).flatten = bodyL ep b l d x h := by simp [bodyL]
  rw [e, bodyL_length] at ho
  obtain ⟨ao, cap, rfl, hc, hg⟩ := owns_form ho
  obtain ⟨g, rfl, _⟩ := hg (by decide)
  exact ⟨g, cap, rfl, ho.cells (g := g) rfl⟩

theorem body_splice (ep b l d x h : Nat) : splice (cellsB (zerosL 60)) 0 (cellsB (bodyL ep b l d x h)) = cellsB (sumdL ep b l d x h) := by
  have e : (cellsB (bodyL ep b l d x h)).length = 40 := by rw [cellsB_length, bodyL_length]
  unfold splice
  rw [e]
  have e2 : (cellsB (zerosL 60)).drop (0 + 40) = cellsB (zerosL 20) := by
    unfold cellsB
    rw [← List.map_drop, zerosL_drop]
  rw [e2, List.take_zero, List.nil_append, ← cellsB_append]
  rfl
theorem concat_len (ep b l d x h : Nat) : ([magicL, numN 8 ep, numN 4 b, numN 4 l, numN 4 d, numN 4 x, numN 8 h] : List (List Nat)).flatten.length = 40 := by
  have e : ([magicL, numN 8 ep, numN 4 b, numN 4 l, numN 4 d, numN 4 x, numN 8 h] : List (List Nat)).flatten = bodyL ep b l d x h := by simp [bodyL]
  rw [e, bodyL_length]

theorem zeros_made (n : Nat) : (madeCells (Value.int .u8 0).cells (n * 1)).toList = cellsB (zerosL n) := made_zeros n

theorem wpAnyH_list {P : Program} {md : Region.Mode} {ops : Array Oper} {Q : Exit → Act → World → Prop} {S : World → Prop} {fuel : Nat} {L L' : Array Bool} {a : Act} {w : World} (e : L = L') (h : wpAnyH P md ops Q S fuel L' a w) : wpAnyH P md ops Q S fuel L a w := e ▸ h

/-- Ways through a region that meet again: states by number, each with its own fuel and its own list. -/
theorem wpAnyH_graph {P : Program} {md : Region.Mode} {ops : Array Oper} {Q : Exit → Act → World → Prop} {S : World → Prop} (fu : Nat → Nat) (lst : Nat → Array Bool) (R : Nat → Act → World → Prop)
    (h : ∀ n a w, R n a w → (∀ m a' w', fu m < fu n → R m a' w' → wpAnyH P md ops Q S (fu m) (lst m) a' w') → wpAnyH P md ops Q S (fu n) (lst n) a w) :
    ∀ n a w, R n a w → wpAnyH P md ops Q S (fu n) (lst n) a w := by
  have key : ∀ f n a w, fu n = f → R n a w → wpAnyH P md ops Q S (fu n) (lst n) a w := by
    intro f
    induction f using Nat.strongRecOn with
    | ind f ih => exact fun n a w hf hR => h n a w hR (fun m a' w' hm hR' => ih (fu m) (hf ▸ hm) m a' w' rfl hR')
  exact fun n a w hR => key (fu n) n a w rfl hR

theorem Pre.freezeG {w W : World} {gm : Nat} {ep b l d x h : Nat} (p : Pre w W ep b l d x h) (hz : w.heap.size + 2 ≤ gm) (k n : Nat) : Pre w (W.freeze ⟨gm, k, none⟩ n) ep b l d x h := by
  have kk := Keeps.freeze W ⟨gm, k, none⟩ n
  refine ⟨p.sup.keeps kk (by intro e2; have e3 : w.heap.size = gm := e2; omega), kk.owns p.own (by intro b' hb e2; have e : w.heap.size + 1 = b' := (by simpa [Value.ownBlock] using hb); have e3 : b' = gm := e2; omega), p.bel.trans (kk.below (fun j hj => by have e : j = gm := hj; omega) p.bel.size), by rw [heap_freeze_size]; exact p.sz⟩

def sumFu : Nat → Nat
  | 0 => 11
  | 1 => 10
  | 2 => 9
  | 3 => 8
  | 4 => 7
  | 5 => 6
  | 6 => 5
  | 7 => 10
  | 8 => 9
  | 9 => 8
  | 10 => 7
  | 11 => 6
  | 12 => 5
  | 13 => 4
  | 14 => 9
  | 15 => 8
  | 16 => 7
  | 17 => 6
  | 18 => 5
  | 19 => 4
  | 20 => 3
  | _ => 0
def sumLst : Nat → Array Bool
  | 0 => #[true, false, false, true, true, true, false, true, true, true, true, false, true, true, true, true, false, true, true, true, true, false, true, true, true, true, false, true, true, true, false, false, false, false]
  | 1 => #[true, false, false, true, true, true, true, true, true, true, true, false, true, true, true, true, false, true, true, true, true, false, true, true, true, true, false, true, true, true, false, false, false, false]
  | 2 => #[true, false, false, true, true, true, true, true, true, true, true, true, true, true, true, true, false, true, true, true, true, false, true, true, true, true, false, true, true, true, false, false, false, false]
  | 3 => #[true, false, false, true, true, true, true, true, true, true, true, true, true, true, true, true, true, true, true, true, true, false, true, true, true, true, false, true, true, true, false, false, false, false]
  | 4 => #[true, false, false, true, true, true, true, true, true, true, true, true, true, true, true, true, true, true, true, true, true, true, true, true, true, true, false, true, true, true, false, false, false, false]
  | 5 => #[true, false, false, true, true, true, true, true, true, true, true, true, true, true, true, true, true, true, true, true, true, true, true, true, true, true, true, true, true, true, false, false, false, false]
  | 6 => #[true, false, false, true, true, true, true, true, true, true, true, true, true, true, true, true, true, true, true, true, true, true, true, true, true, true, true, true, true, true, true, false, false, false]
  | 7 => #[true, true, false, true, true, true, false, true, true, true, true, false, true, true, true, true, false, true, true, true, true, false, true, true, true, true, false, true, true, true, false, false, false, false]
  | 8 => #[true, true, false, true, true, true, true, true, true, true, true, false, true, true, true, true, false, true, true, true, true, false, true, true, true, true, false, true, true, true, false, false, false, false]
  | 9 => #[true, true, false, true, true, true, true, true, true, true, true, true, true, true, true, true, false, true, true, true, true, false, true, true, true, true, false, true, true, true, false, false, false, false]
  | 10 => #[true, true, false, true, true, true, true, true, true, true, true, true, true, true, true, true, true, true, true, true, true, false, true, true, true, true, false, true, true, true, false, false, false, false]
  | 11 => #[true, true, false, true, true, true, true, true, true, true, true, true, true, true, true, true, true, true, true, true, true, true, true, true, true, true, false, true, true, true, false, false, false, false]
  | 12 => #[true, true, false, true, true, true, true, true, true, true, true, true, true, true, true, true, true, true, true, true, true, true, true, true, true, true, true, true, true, true, false, false, false, false]
  | 13 => #[true, true, false, true, true, true, true, true, true, true, true, true, true, true, true, true, true, true, true, true, true, true, true, true, true, true, true, true, true, true, true, false, false, false]
  | 14 => #[true, true, true, true, true, true, false, true, true, true, true, false, true, true, true, true, false, true, true, true, true, false, true, true, true, true, false, true, true, true, false, false, false, false]
  | 15 => #[true, true, true, true, true, true, true, true, true, true, true, false, true, true, true, true, false, true, true, true, true, false, true, true, true, true, false, true, true, true, false, false, false, false]
  | 16 => #[true, true, true, true, true, true, true, true, true, true, true, true, true, true, true, true, false, true, true, true, true, false, true, true, true, true, false, true, true, true, false, false, false, false]
  | 17 => #[true, true, true, true, true, true, true, true, true, true, true, true, true, true, true, true, true, true, true, true, true, false, true, true, true, true, false, true, true, true, false, false, false, false]
  | 18 => #[true, true, true, true, true, true, true, true, true, true, true, true, true, true, true, true, true, true, true, true, true, true, true, true, true, true, false, true, true, true, false, false, false, false]
  | 19 => #[true, true, true, true, true, true, true, true, true, true, true, true, true, true, true, true, true, true, true, true, true, true, true, true, true, true, true, true, true, true, false, false, false, false]
  | 20 => #[true, true, true, true, true, true, true, true, true, true, true, true, true, true, true, true, true, true, true, true, true, true, true, true, true, true, true, true, true, true, true, false, false, false]
  | _ => #[]
def sumR (w : World) (ep b l d x h : Nat) : Nat → Act → World → Prop
  | 0, a, W => a = { tmps := #[.agg #[.int .i64 (ep : Nat), .int .i64 (b : Nat), .int .i64 (l : Nat), .int .i64 (d : Nat), .int .i64 (x : Nat), .int .i64 (h : Nat)], .pointer (some ⟨w.heap.size, 0, none⟩), .slice none 0 0, .slice (some ⟨w.heap.size + 1, 0, none⟩) 60 60, .slice (some ⟨w.heap.size + 1, 0, none⟩) 60 60, .slice (some ⟨w.heap.size + 1, 0, none⟩) 60 60, undef, undef, .pointer (some ⟨w.heap.size, 0, none⟩), .int .i64 (ep : Nat), .int .u64 (ep : Nat), undef, .pointer (some ⟨w.heap.size, 1, none⟩), .pointer (some ⟨w.heap.size, 1, none⟩), .int .i64 (b : Nat), .int .u64 (b : Nat), undef, .pointer (some ⟨w.heap.size, 1, none⟩), .pointer (some ⟨w.heap.size, 2, none⟩), .int .i64 (l : Nat), .int .u64 (l : Nat), undef, .pointer (some ⟨w.heap.size, 1, none⟩), .pointer (some ⟨w.heap.size, 3, none⟩), .int .i64 (d : Nat), .int .u64 (d : Nat), undef, .pointer (some ⟨w.heap.size, 1, none⟩), .pointer (some ⟨w.heap.size, 4, none⟩), .int .i64 (x : Nat), .int .u64 (x : Nat), undef, .pointer (some ⟨w.heap.size, 5, none⟩), .int .i64 (h : Nat), .int .u64 (h : Nat), undef, undef, undef, undef, undef], defers := [] } ∧ Pre w W ep b l d x h
  | 1, a, W => ∃ (a1 : Option Addr) (c1 : Nat), a = { tmps := #[.agg #[.int .i64 (ep : Nat), .int .i64 (b : Nat), .int .i64 (l : Nat), .int .i64 (d : Nat), .int .i64 (x : Nat), .int .i64 (h : Nat)], .pointer (some ⟨w.heap.size, 0, none⟩), .slice none 0 0, .slice (some ⟨w.heap.size + 1, 0, none⟩) 60 60, .slice (some ⟨w.heap.size + 1, 0, none⟩) 60 60, .slice (some ⟨w.heap.size + 1, 0, none⟩) 60 60, undef, undef, .pointer (some ⟨w.heap.size, 0, none⟩), .int .i64 (ep : Nat), .int .u64 (ep : Nat), .slice a1 8 c1, .pointer (some ⟨w.heap.size, 1, none⟩), .pointer (some ⟨w.heap.size, 1, none⟩), .int .i64 (b : Nat), .int .u64 (b : Nat), undef, .pointer (some ⟨w.heap.size, 1, none⟩), .pointer (some ⟨w.heap.size, 2, none⟩), .int .i64 (l : Nat), .int .u64 (l : Nat), undef, .pointer (some ⟨w.heap.size, 1, none⟩), .pointer (some ⟨w.heap.size, 3, none⟩), .int .i64 (d : Nat), .int .u64 (d : Nat), undef, .pointer (some ⟨w.heap.size, 1, none⟩), .pointer (some ⟨w.heap.size, 4, none⟩), .int .i64 (x : Nat), .int .u64 (x : Nat), undef, .pointer (some ⟨w.heap.size, 5, none⟩), .int .i64 (h : Nat), .int .u64 (h : Nat), undef, undef, undef, undef, undef], defers := [] } ∧ Pre w W ep b l d x h ∧ Bs W (.slice a1 8 c1) (numN 8 ep)
  | 2, a, W => ∃ (a1 a2 : Option Addr) (c1 c2 : Nat), a = { tmps := #[.agg #[.int .i64 (ep : Nat), .int .i64 (b : Nat), .int .i64 (l : Nat), .int .i64 (d : Nat), .int .i64 (x : Nat), .int .i64 (h : Nat)], .pointer (some ⟨w.heap.size, 0, none⟩), .slice none 0 0, .slice (some ⟨w.heap.size + 1, 0, none⟩) 60 60, .slice (some ⟨w.heap.size + 1, 0, none⟩) 60 60, .slice (some ⟨w.heap.size + 1, 0, none⟩) 60 60, undef, undef, .pointer (some ⟨w.heap.size, 0, none⟩), .int .i64 (ep : Nat), .int .u64 (ep : Nat), .slice a1 8 c1, .pointer (some ⟨w.heap.size, 1, none⟩), .pointer (some ⟨w.heap.size, 1, none⟩), .int .i64 (b : Nat), .int .u64 (b : Nat), .slice a2 4 c2, .pointer (some ⟨w.heap.size, 1, none⟩), .pointer (some ⟨w.heap.size, 2, none⟩), .int .i64 (l : Nat), .int .u64 (l : Nat), undef, .pointer (some ⟨w.heap.size, 1, none⟩), .pointer (some ⟨w.heap.size, 3, none⟩), .int .i64 (d : Nat), .int .u64 (d : Nat), undef, .pointer (some ⟨w.heap.size, 1, none⟩), .pointer (some ⟨w.heap.size, 4, none⟩), .int .i64 (x : Nat), .int .u64 (x : Nat), undef, .pointer (some ⟨w.heap.size, 5, none⟩), .int .i64 (h : Nat), .int .u64 (h : Nat), undef, undef, undef, undef, undef], defers := [] } ∧ Pre w W ep b l d x h ∧ Bs W (.slice a1 8 c1) (numN 8 ep) ∧ Bs W (.slice a2 4 c2) (numN 4 b)
  | 3, a, W => ∃ (a1 a2 a3 : Option Addr) (c1 c2 c3 : Nat), a = { tmps := #[.agg #[.int .i64 (ep : Nat), .int .i64 (b : Nat), .int .i64 (l : Nat), .int .i64 (d : Nat), .int .i64 (x : Nat), .int .i64 (h : Nat)], .pointer (some ⟨w.heap.size, 0, none⟩), .slice none 0 0, .slice (some ⟨w.heap.size + 1, 0, none⟩) 60 60, .slice (some ⟨w.heap.size + 1, 0, none⟩) 60 60, .slice (some ⟨w.heap.size + 1, 0, none⟩) 60 60, undef, undef, .pointer (some ⟨w.heap.size, 0, none⟩), .int .i64 (ep : Nat), .int .u64 (ep : Nat), .slice a1 8 c1, .pointer (some ⟨w.heap.size, 1, none⟩), .pointer (some ⟨w.heap.size, 1, none⟩), .int .i64 (b : Nat), .int .u64 (b : Nat), .slice a2 4 c2, .pointer (some ⟨w.heap.size, 1, none⟩), .pointer (some ⟨w.heap.size, 2, none⟩), .int .i64 (l : Nat), .int .u64 (l : Nat), .slice a3 4 c3, .pointer (some ⟨w.heap.size, 1, none⟩), .pointer (some ⟨w.heap.size, 3, none⟩), .int .i64 (d : Nat), .int .u64 (d : Nat), undef, .pointer (some ⟨w.heap.size, 1, none⟩), .pointer (some ⟨w.heap.size, 4, none⟩), .int .i64 (x : Nat), .int .u64 (x : Nat), undef, .pointer (some ⟨w.heap.size, 5, none⟩), .int .i64 (h : Nat), .int .u64 (h : Nat), undef, undef, undef, undef, undef], defers := [] } ∧ Pre w W ep b l d x h ∧ Bs W (.slice a1 8 c1) (numN 8 ep) ∧ Bs W (.slice a2 4 c2) (numN 4 b) ∧ Bs W (.slice a3 4 c3) (numN 4 l)
  | 4, a, W => ∃ (a1 a2 a3 a4 : Option Addr) (c1 c2 c3 c4 : Nat), a = { tmps := #[.agg #[.int .i64 (ep : Nat), .int .i64 (b : Nat), .int .i64 (l : Nat), .int .i64 (d : Nat), .int .i64 (x : Nat), .int .i64 (h : Nat)], .pointer (some ⟨w.heap.size, 0, none⟩), .slice none 0 0, .slice (some ⟨w.heap.size + 1, 0, none⟩) 60 60, .slice (some ⟨w.heap.size + 1, 0, none⟩) 60 60, .slice (some ⟨w.heap.size + 1, 0, none⟩) 60 60, undef, undef, .pointer (some ⟨w.heap.size, 0, none⟩), .int .i64 (ep : Nat), .int .u64 (ep : Nat), .slice a1 8 c1, .pointer (some ⟨w.heap.size, 1, none⟩), .pointer (some ⟨w.heap.size, 1, none⟩), .int .i64 (b : Nat), .int .u64 (b : Nat), .slice a2 4 c2, .pointer (some ⟨w.heap.size, 1, none⟩), .pointer (some ⟨w.heap.size, 2, none⟩), .int .i64 (l : Nat), .int .u64 (l : Nat), .slice a3 4 c3, .pointer (some ⟨w.heap.size, 1, none⟩), .pointer (some ⟨w.heap.size, 3, none⟩), .int .i64 (d : Nat), .int .u64 (d : Nat), .slice a4 4 c4, .pointer (some ⟨w.heap.size, 1, none⟩), .pointer (some ⟨w.heap.size, 4, none⟩), .int .i64 (x : Nat), .int .u64 (x : Nat), undef, .pointer (some ⟨w.heap.size, 5, none⟩), .int .i64 (h : Nat), .int .u64 (h : Nat), undef, undef, undef, undef, undef], defers := [] } ∧ Pre w W ep b l d x h ∧ Bs W (.slice a1 8 c1) (numN 8 ep) ∧ Bs W (.slice a2 4 c2) (numN 4 b) ∧ Bs W (.slice a3 4 c3) (numN 4 l) ∧ Bs W (.slice a4 4 c4) (numN 4 d)
  | 5, a, W => ∃ (a1 a2 a3 a4 a5 : Option Addr) (c1 c2 c3 c4 c5 : Nat), a = { tmps := #[.agg #[.int .i64 (ep : Nat), .int .i64 (b : Nat), .int .i64 (l : Nat), .int .i64 (d : Nat), .int .i64 (x : Nat), .int .i64 (h : Nat)], .pointer (some ⟨w.heap.size, 0, none⟩), .slice none 0 0, .slice (some ⟨w.heap.size + 1, 0, none⟩) 60 60, .slice (some ⟨w.heap.size + 1, 0, none⟩) 60 60, .slice (some ⟨w.heap.size + 1, 0, none⟩) 60 60, undef, undef, .pointer (some ⟨w.heap.size, 0, none⟩), .int .i64 (ep : Nat), .int .u64 (ep : Nat), .slice a1 8 c1, .pointer (some ⟨w.heap.size, 1, none⟩), .pointer (some ⟨w.heap.size, 1, none⟩), .int .i64 (b : Nat), .int .u64 (b : Nat), .slice a2 4 c2, .pointer (some ⟨w.heap.size, 1, none⟩), .pointer (some ⟨w.heap.size, 2, none⟩), .int .i64 (l : Nat), .int .u64 (l : Nat), .slice a3 4 c3, .pointer (some ⟨w.heap.size, 1, none⟩), .pointer (some ⟨w.heap.size, 3, none⟩), .int .i64 (d : Nat), .int .u64 (d : Nat), .slice a4 4 c4, .pointer (some ⟨w.heap.size, 1, none⟩), .pointer (some ⟨w.heap.size, 4, none⟩), .int .i64 (x : Nat), .int .u64 (x : Nat), .slice a5 4 c5, .pointer (some ⟨w.heap.size, 5, none⟩), .int .i64 (h : Nat), .int .u64 (h : Nat), undef, undef, undef, undef, undef], defers := [] } ∧ Pre w W ep b l d x h ∧ Bs W (.slice a1 8 c1) (numN 8 ep) ∧ Bs W (.slice a2 4 c2) (numN 4 b) ∧ Bs W (.slice a3 4 c3) (numN 4 l) ∧ Bs W (.slice a4 4 c4) (numN 4 d) ∧ Bs W (.slice a5 4 c5) (numN 4 x)
  | 6, a, W => ∃ (a1 a2 a3 a4 a5 a6 : Option Addr) (c1 c2 c3 c4 c5 c6 : Nat), a = { tmps := #[.agg #[.int .i64 (ep : Nat), .int .i64 (b : Nat), .int .i64 (l : Nat), .int .i64 (d : Nat), .int .i64 (x : Nat), .int .i64 (h : Nat)], .pointer (some ⟨w.heap.size, 0, none⟩), .slice none 0 0, .slice (some ⟨w.heap.size + 1, 0, none⟩) 60 60, .slice (some ⟨w.heap.size + 1, 0, none⟩) 60 60, .slice (some ⟨w.heap.size + 1, 0, none⟩) 60 60, undef, undef, .pointer (some ⟨w.heap.size, 0, none⟩), .int .i64 (ep : Nat), .int .u64 (ep : Nat), .slice a1 8 c1, .pointer (some ⟨w.heap.size, 1, none⟩), .pointer (some ⟨w.heap.size, 1, none⟩), .int .i64 (b : Nat), .int .u64 (b : Nat), .slice a2 4 c2, .pointer (some ⟨w.heap.size, 1, none⟩), .pointer (some ⟨w.heap.size, 2, none⟩), .int .i64 (l : Nat), .int .u64 (l : Nat), .slice a3 4 c3, .pointer (some ⟨w.heap.size, 1, none⟩), .pointer (some ⟨w.heap.size, 3, none⟩), .int .i64 (d : Nat), .int .u64 (d : Nat), .slice a4 4 c4, .pointer (some ⟨w.heap.size, 1, none⟩), .pointer (some ⟨w.heap.size, 4, none⟩), .int .i64 (x : Nat), .int .u64 (x : Nat), .slice a5 4 c5, .pointer (some ⟨w.heap.size, 5, none⟩), .int .i64 (h : Nat), .int .u64 (h : Nat), .slice a6 8 c6, undef, undef, undef, undef], defers := [] } ∧ Pre w W ep b l d x h ∧ Bs W (.slice a1 8 c1) (numN 8 ep) ∧ Bs W (.slice a2 4 c2) (numN 4 b) ∧ Bs W (.slice a3 4 c3) (numN 4 l) ∧ Bs W (.slice a4 4 c4) (numN 4 d) ∧ Bs W (.slice a5 4 c5) (numN 4 x) ∧ Bs W (.slice a6 8 c6) (numN 8 h)
  | 7, a, W => ∃ (gm : Nat), a = { tmps := #[.agg #[.int .i64 (ep : Nat), .int .i64 (b : Nat), .int .i64 (l : Nat), .int .i64 (d : Nat), .int .i64 (x : Nat), .int .i64 (h : Nat)], .pointer (some ⟨w.heap.size, 0, none⟩), .slice none 0 0, .slice (some ⟨w.heap.size + 1, 0, none⟩) 60 60, .slice (some ⟨w.heap.size + 1, 0, none⟩) 60 60, .slice (some ⟨w.heap.size + 1, 0, none⟩) 60 60, .slice (some ⟨gm, 0, none⟩) 8 8, undef, .pointer (some ⟨w.heap.size, 0, none⟩), .int .i64 (ep : Nat), .int .u64 (ep : Nat), undef, .pointer (some ⟨w.heap.size, 1, none⟩), .pointer (some ⟨w.heap.size, 1, none⟩), .int .i64 (b : Nat), .int .u64 (b : Nat), undef, .pointer (some ⟨w.heap.size, 1, none⟩), .pointer (some ⟨w.heap.size, 2, none⟩), .int .i64 (l : Nat), .int .u64 (l : Nat), undef, .pointer (some ⟨w.heap.size, 1, none⟩), .pointer (some ⟨w.heap.size, 3, none⟩), .int .i64 (d : Nat), .int .u64 (d : Nat), undef, .pointer (some ⟨w.heap.size, 1, none⟩), .pointer (some ⟨w.heap.size, 4, none⟩), .int .i64 (x : Nat), .int .u64 (x : Nat), undef, .pointer (some ⟨w.heap.size, 5, none⟩), .int .i64 (h : Nat), .int .u64 (h : Nat), undef, undef, undef, undef, undef], defers := [] } ∧ Pre w W ep b l d x h ∧ RowAt W gm 5 magicC ∧ w.heap.size + 2 ≤ gm
  | 8, a, W => ∃ (gm : Nat) (a1 : Option Addr) (c1 : Nat), a = { tmps := #[.agg #[.int .i64 (ep : Nat), .int .i64 (b : Nat), .int .i64 (l : Nat), .int .i64 (d : Nat), .int .i64 (x : Nat), .int .i64 (h : Nat)], .pointer (some ⟨w.heap.size, 0, none⟩), .slice none 0 0, .slice (some ⟨w.heap.size + 1, 0, none⟩) 60 60, .slice (some ⟨w.heap.size + 1, 0, none⟩) 60 60, .slice (some ⟨w.heap.size + 1, 0, none⟩) 60 60, .slice (some ⟨gm, 0, none⟩) 8 8, undef, .pointer (some ⟨w.heap.size, 0, none⟩), .int .i64 (ep : Nat), .int .u64 (ep : Nat), .slice a1 8 c1, .pointer (some ⟨w.heap.size, 1, none⟩), .pointer (some ⟨w.heap.size, 1, none⟩), .int .i64 (b : Nat), .int .u64 (b : Nat), undef, .pointer (some ⟨w.heap.size, 1, none⟩), .pointer (some ⟨w.heap.size, 2, none⟩), .int .i64 (l : Nat), .int .u64 (l : Nat), undef, .pointer (some ⟨w.heap.size, 1, none⟩), .pointer (some ⟨w.heap.size, 3, none⟩), .int .i64 (d : Nat), .int .u64 (d : Nat), undef, .pointer (some ⟨w.heap.size, 1, none⟩), .pointer (some ⟨w.heap.size, 4, none⟩), .int .i64 (x : Nat), .int .u64 (x : Nat), undef, .pointer (some ⟨w.heap.size, 5, none⟩), .int .i64 (h : Nat), .int .u64 (h : Nat), undef, undef, undef, undef, undef], defers := [] } ∧ Pre w W ep b l d x h ∧ RowAt W gm 5 magicC ∧ w.heap.size + 2 ≤ gm ∧ Bs W (.slice a1 8 c1) (numN 8 ep)
  | 9, a, W => ∃ (gm : Nat) (a1 a2 : Option Addr) (c1 c2 : Nat), a = { tmps := #[.agg #[.int .i64 (ep : Nat), .int .i64 (b : Nat), .int .i64 (l : Nat), .int .i64 (d : Nat), .int .i64 (x : Nat), .int .i64 (h : Nat)], .pointer (some ⟨w.heap.size, 0, none⟩), .slice none 0 0, .slice (some ⟨w.heap.size + 1, 0, none⟩) 60 60, .slice (some ⟨w.heap.size + 1, 0, none⟩) 60 60, .slice (some ⟨w.heap.size + 1, 0, none⟩) 60 60, .slice (some ⟨gm, 0, none⟩) 8 8, undef, .pointer (some ⟨w.heap.size, 0, none⟩), .int .i64 (ep : Nat), .int .u64 (ep : Nat), .slice a1 8 c1, .pointer (some ⟨w.heap.size, 1, none⟩), .pointer (some ⟨w.heap.size, 1, none⟩), .int .i64 (b : Nat), .int .u64 (b : Nat), .slice a2 4 c2, .pointer (some ⟨w.heap.size, 1, none⟩), .pointer (some ⟨w.heap.size, 2, none⟩), .int .i64 (l : Nat), .int .u64 (l : Nat), undef, .pointer (some ⟨w.heap.size, 1, none⟩), .pointer (some ⟨w.heap.size, 3, none⟩), .int .i64 (d : Nat), .int .u64 (d : Nat), undef, .pointer (some ⟨w.heap.size, 1, none⟩), .pointer (some ⟨w.heap.size, 4, none⟩), .int .i64 (x : Nat), .int .u64 (x : Nat), undef, .pointer (some ⟨w.heap.size, 5, none⟩), .int .i64 (h : Nat), .int .u64 (h : Nat), undef, undef, undef, undef, undef], defers := [] } ∧ Pre w W ep b l d x h ∧ RowAt W gm 5 magicC ∧ w.heap.size + 2 ≤ gm ∧ Bs W (.slice a1 8 c1) (numN 8 ep) ∧ Bs W (.slice a2 4 c2) (numN 4 b)
  | 10, a, W => ∃ (gm : Nat) (a1 a2 a3 : Option Addr) (c1 c2 c3 : Nat), a = { tmps := #[.agg #[.int .i64 (ep : Nat), .int .i64 (b : Nat), .int .i64 (l : Nat), .int .i64 (d : Nat), .int .i64 (x : Nat), .int .i64 (h : Nat)], .pointer (some ⟨w.heap.size, 0, none⟩), .slice none 0 0, .slice (some ⟨w.heap.size + 1, 0, none⟩) 60 60, .slice (some ⟨w.heap.size + 1, 0, none⟩) 60 60, .slice (some ⟨w.heap.size + 1, 0, none⟩) 60 60, .slice (some ⟨gm, 0, none⟩) 8 8, undef, .pointer (some ⟨w.heap.size, 0, none⟩), .int .i64 (ep : Nat), .int .u64 (ep : Nat), .slice a1 8 c1, .pointer (some ⟨w.heap.size, 1, none⟩), .pointer (some ⟨w.heap.size, 1, none⟩), .int .i64 (b : Nat), .int .u64 (b : Nat), .slice a2 4 c2, .pointer (some ⟨w.heap.size, 1, none⟩), .pointer (some ⟨w.heap.size, 2, none⟩), .int .i64 (l : Nat), .int .u64 (l : Nat), .slice a3 4 c3, .pointer (some ⟨w.heap.size, 1, none⟩), .pointer (some ⟨w.heap.size, 3, none⟩), .int .i64 (d : Nat), .int .u64 (d : Nat), undef, .pointer (some ⟨w.heap.size, 1, none⟩), .pointer (some ⟨w.heap.size, 4, none⟩), .int .i64 (x : Nat), .int .u64 (x : Nat), undef, .pointer (some ⟨w.heap.size, 5, none⟩), .int .i64 (h : Nat), .int .u64 (h : Nat), undef, undef, undef, undef, undef], defers := [] } ∧ Pre w W ep b l d x h ∧ RowAt W gm 5 magicC ∧ w.heap.size + 2 ≤ gm ∧ Bs W (.slice a1 8 c1) (numN 8 ep) ∧ Bs W (.slice a2 4 c2) (numN 4 b) ∧ Bs W (.slice a3 4 c3) (numN 4 l)
  | 11, a, W => ∃ (gm : Nat) (a1 a2 a3 a4 : Option Addr) (c1 c2 c3 c4 : Nat), a = { tmps := #[.agg #[.int .i64 (ep : Nat), .int .i64 (b : Nat), .int .i64 (l : Nat), .int .i64 (d : Nat), .int .i64 (x : Nat), .int .i64 (h : Nat)], .pointer (some ⟨w.heap.size, 0, none⟩), .slice none 0 0, .slice (some ⟨w.heap.size + 1, 0, none⟩) 60 60, .slice (some ⟨w.heap.size + 1, 0, none⟩) 60 60, .slice (some ⟨w.heap.size + 1, 0, none⟩) 60 60, .slice (some ⟨gm, 0, none⟩) 8 8, undef, .pointer (some ⟨w.heap.size, 0, none⟩), .int .i64 (ep : Nat), .int .u64 (ep : Nat), .slice a1 8 c1, .pointer (some ⟨w.heap.size, 1, none⟩), .pointer (some ⟨w.heap.size, 1, none⟩), .int .i64 (b : Nat), .int .u64 (b : Nat), .slice a2 4 c2, .pointer (some ⟨w.heap.size, 1, none⟩), .pointer (some ⟨w.heap.size, 2, none⟩), .int .i64 (l : Nat), .int .u64 (l : Nat), .slice a3 4 c3, .pointer (some ⟨w.heap.size, 1, none⟩), .pointer (some ⟨w.heap.size, 3, none⟩), .int .i64 (d : Nat), .int .u64 (d : Nat), .slice a4 4 c4, .pointer (some ⟨w.heap.size, 1, none⟩), .pointer (some ⟨w.heap.size, 4, none⟩), .int .i64 (x : Nat), .int .u64 (x : Nat), undef, .pointer (some ⟨w.heap.size, 5, none⟩), .int .i64 (h : Nat), .int .u64 (h : Nat), undef, undef, undef, undef, undef], defers := [] } ∧ Pre w W ep b l d x h ∧ RowAt W gm 5 magicC ∧ w.heap.size + 2 ≤ gm ∧ Bs W (.slice a1 8 c1) (numN 8 ep) ∧ Bs W (.slice a2 4 c2) (numN 4 b) ∧ Bs W (.slice a3 4 c3) (numN 4 l) ∧ Bs W (.slice a4 4 c4) (numN 4 d)
  | 12, a, W => ∃ (gm : Nat) (a1 a2 a3 a4 a5 : Option Addr) (c1 c2 c3 c4 c5 : Nat), a = { tmps := #[.agg #[.int .i64 (ep : Nat), .int .i64 (b : Nat), .int .i64 (l : Nat), .int .i64 (d : Nat), .int .i64 (x : Nat), .int .i64 (h : Nat)], .pointer (some ⟨w.heap.size, 0, none⟩), .slice none 0 0, .slice (some ⟨w.heap.size + 1, 0, none⟩) 60 60, .slice (some ⟨w.heap.size + 1, 0, none⟩) 60 60, .slice (some ⟨w.heap.size + 1, 0, none⟩) 60 60, .slice (some ⟨gm, 0, none⟩) 8 8, undef, .pointer (some ⟨w.heap.size, 0, none⟩), .int .i64 (ep : Nat), .int .u64 (ep : Nat), .slice a1 8 c1, .pointer (some ⟨w.heap.size, 1, none⟩), .pointer (some ⟨w.heap.size, 1, none⟩), .int .i64 (b : Nat), .int .u64 (b : Nat), .slice a2 4 c2, .pointer (some ⟨w.heap.size, 1, none⟩), .pointer (some ⟨w.heap.size, 2, none⟩), .int .i64 (l : Nat), .int .u64 (l : Nat), .slice a3 4 c3, .pointer (some ⟨w.heap.size, 1, none⟩), .pointer (some ⟨w.heap.size, 3, none⟩), .int .i64 (d : Nat), .int .u64 (d : Nat), .slice a4 4 c4, .pointer (some ⟨w.heap.size, 1, none⟩), .pointer (some ⟨w.heap.size, 4, none⟩), .int .i64 (x : Nat), .int .u64 (x : Nat), .slice a5 4 c5, .pointer (some ⟨w.heap.size, 5, none⟩), .int .i64 (h : Nat), .int .u64 (h : Nat), undef, undef, undef, undef, undef], defers := [] } ∧ Pre w W ep b l d x h ∧ RowAt W gm 5 magicC ∧ w.heap.size + 2 ≤ gm ∧ Bs W (.slice a1 8 c1) (numN 8 ep) ∧ Bs W (.slice a2 4 c2) (numN 4 b) ∧ Bs W (.slice a3 4 c3) (numN 4 l) ∧ Bs W (.slice a4 4 c4) (numN 4 d) ∧ Bs W (.slice a5 4 c5) (numN 4 x)
  | 13, a, W => ∃ (gm : Nat) (a1 a2 a3 a4 a5 a6 : Option Addr) (c1 c2 c3 c4 c5 c6 : Nat), a = { tmps := #[.agg #[.int .i64 (ep : Nat), .int .i64 (b : Nat), .int .i64 (l : Nat), .int .i64 (d : Nat), .int .i64 (x : Nat), .int .i64 (h : Nat)], .pointer (some ⟨w.heap.size, 0, none⟩), .slice none 0 0, .slice (some ⟨w.heap.size + 1, 0, none⟩) 60 60, .slice (some ⟨w.heap.size + 1, 0, none⟩) 60 60, .slice (some ⟨w.heap.size + 1, 0, none⟩) 60 60, .slice (some ⟨gm, 0, none⟩) 8 8, undef, .pointer (some ⟨w.heap.size, 0, none⟩), .int .i64 (ep : Nat), .int .u64 (ep : Nat), .slice a1 8 c1, .pointer (some ⟨w.heap.size, 1, none⟩), .pointer (some ⟨w.heap.size, 1, none⟩), .int .i64 (b : Nat), .int .u64 (b : Nat), .slice a2 4 c2, .pointer (some ⟨w.heap.size, 1, none⟩), .pointer (some ⟨w.heap.size, 2, none⟩), .int .i64 (l : Nat), .int .u64 (l : Nat), .slice a3 4 c3, .pointer (some ⟨w.heap.size, 1, none⟩), .pointer (some ⟨w.heap.size, 3, none⟩), .int .i64 (d : Nat), .int .u64 (d : Nat), .slice a4 4 c4, .pointer (some ⟨w.heap.size, 1, none⟩), .pointer (some ⟨w.heap.size, 4, none⟩), .int .i64 (x : Nat), .int .u64 (x : Nat), .slice a5 4 c5, .pointer (some ⟨w.heap.size, 5, none⟩), .int .i64 (h : Nat), .int .u64 (h : Nat), .slice a6 8 c6, undef, undef, undef, undef], defers := [] } ∧ Pre w W ep b l d x h ∧ RowAt W gm 5 magicC ∧ w.heap.size + 2 ≤ gm ∧ Bs W (.slice a1 8 c1) (numN 8 ep) ∧ Bs W (.slice a2 4 c2) (numN 4 b) ∧ Bs W (.slice a3 4 c3) (numN 4 l) ∧ Bs W (.slice a4 4 c4) (numN 4 d) ∧ Bs W (.slice a5 4 c5) (numN 4 x) ∧ Bs W (.slice a6 8 c6) (numN 8 h)
  | 14, a, W => ∃ (gm : Nat), a = { tmps := #[.agg #[.int .i64 (ep : Nat), .int .i64 (b : Nat), .int .i64 (l : Nat), .int .i64 (d : Nat), .int .i64 (x : Nat), .int .i64 (h : Nat)], .pointer (some ⟨w.heap.size, 0, none⟩), .slice none 0 0, .slice (some ⟨w.heap.size + 1, 0, none⟩) 60 60, .slice (some ⟨w.heap.size + 1, 0, none⟩) 60 60, .slice (some ⟨w.heap.size + 1, 0, none⟩) 60 60, .slice (some ⟨gm, 0, none⟩) 8 8, .slice (some ⟨gm, 0, none⟩) 8 8, .pointer (some ⟨w.heap.size, 0, none⟩), .int .i64 (ep : Nat), .int .u64 (ep : Nat), undef, .pointer (some ⟨w.heap.size, 1, none⟩), .pointer (some ⟨w.heap.size, 1, none⟩), .int .i64 (b : Nat), .int .u64 (b : Nat), undef, .pointer (some ⟨w.heap.size, 1, none⟩), .pointer (some ⟨w.heap.size, 2, none⟩), .int .i64 (l : Nat), .int .u64 (l : Nat), undef, .pointer (some ⟨w.heap.size, 1, none⟩), .pointer (some ⟨w.heap.size, 3, none⟩), .int .i64 (d : Nat), .int .u64 (d : Nat), undef, .pointer (some ⟨w.heap.size, 1, none⟩), .pointer (some ⟨w.heap.size, 4, none⟩), .int .i64 (x : Nat), .int .u64 (x : Nat), undef, .pointer (some ⟨w.heap.size, 5, none⟩), .int .i64 (h : Nat), .int .u64 (h : Nat), undef, undef, undef, undef, undef], defers := [] } ∧ Pre w W ep b l d x h ∧ Bs W (.slice (some ⟨gm, 0, none⟩) 8 8) magicL
  | 15, a, W => ∃ (gm : Nat) (a1 : Option Addr) (c1 : Nat), a = { tmps := #[.agg #[.int .i64 (ep : Nat), .int .i64 (b : Nat), .int .i64 (l : Nat), .int .i64 (d : Nat), .int .i64 (x : Nat), .int .i64 (h : Nat)], .pointer (some ⟨w.heap.size, 0, none⟩), .slice none 0 0, .slice (some ⟨w.heap.size + 1, 0, none⟩) 60 60, .slice (some ⟨w.heap.size + 1, 0, none⟩) 60 60, .slice (some ⟨w.heap.size + 1, 0, none⟩) 60 60, .slice (some ⟨gm, 0, none⟩) 8 8, .slice (some ⟨gm, 0, none⟩) 8 8, .pointer (some ⟨w.heap.size, 0, none⟩), .int .i64 (ep : Nat), .int .u64 (ep : Nat), .slice a1 8 c1, .pointer (some ⟨w.heap.size, 1, none⟩), .pointer (some ⟨w.heap.size, 1, none⟩), .int .i64 (b : Nat), .int .u64 (b : Nat), undef, .pointer (some ⟨w.heap.size, 1, none⟩), .pointer (some ⟨w.heap.size, 2, none⟩), .int .i64 (l : Nat), .int .u64 (l : Nat), undef, .pointer (some ⟨w.heap.size, 1, none⟩), .pointer (some ⟨w.heap.size, 3, none⟩), .int .i64 (d : Nat), .int .u64 (d : Nat), undef, .pointer (some ⟨w.heap.size, 1, none⟩), .pointer (some ⟨w.heap.size, 4, none⟩), .int .i64 (x : Nat), .int .u64 (x : Nat), undef, .pointer (some ⟨w.heap.size, 5, none⟩), .int .i64 (h : Nat), .int .u64 (h : Nat), undef, undef, undef, undef, undef], defers := [] } ∧ Pre w W ep b l d x h ∧ Bs W (.slice (some ⟨gm, 0, none⟩) 8 8) magicL ∧ Bs W (.slice a1 8 c1) (numN 8 ep)
  | 16, a, W => ∃ (gm : Nat) (a1 a2 : Option Addr) (c1 c2 : Nat), a = { tmps := #[.agg #[.int .i64 (ep : Nat), .int .i64 (b : Nat), .int .i64 (l : Nat), .int .i64 (d : Nat), .int .i64 (x : Nat), .int .i64 (h : Nat)], .pointer (some ⟨w.heap.size, 0, none⟩), .slice none 0 0, .slice (some ⟨w.heap.size + 1, 0, none⟩) 60 60, .slice (some ⟨w.heap.size + 1, 0, none⟩) 60 60, .slice (some ⟨w.heap.size + 1, 0, none⟩) 60 60, .slice (some ⟨gm, 0, none⟩) 8 8, .slice (some ⟨gm, 0, none⟩) 8 8, .pointer (some ⟨w.heap.size, 0, none⟩), .int .i64 (ep : Nat), .int .u64 (ep : Nat), .slice a1 8 c1, .pointer (some ⟨w.heap.size, 1, none⟩), .pointer (some ⟨w.heap.size, 1, none⟩), .int .i64 (b : Nat), .int .u64 (b : Nat), .slice a2 4 c2, .pointer (some ⟨w.heap.size, 1, none⟩), .pointer (some ⟨w.heap.size, 2, none⟩), .int .i64 (l : Nat), .int .u64 (l : Nat), undef, .pointer (some ⟨w.heap.size, 1, none⟩), .pointer (some ⟨w.heap.size, 3, none⟩), .int .i64 (d : Nat), .int .u64 (d : Nat), undef, .pointer (some ⟨w.heap.size, 1, none⟩), .pointer (some ⟨w.heap.size, 4, none⟩), .int .i64 (x : Nat), .int .u64 (x : Nat), undef, .pointer (some ⟨w.heap.size, 5, none⟩), .int .i64 (h : Nat), .int .u64 (h : Nat), undef, undef, undef, undef, undef], defers := [] } ∧ Pre w W ep b l d x h ∧ Bs W (.slice (some ⟨gm, 0, none⟩) 8 8) magicL ∧ Bs W (.slice a1 8 c1) (numN 8 ep) ∧ Bs W (.slice a2 4 c2) (numN 4 b)
  | 17, a, W => ∃ (gm : Nat) (a1 a2 a3 : Option Addr) (c1 c2 c3 : Nat), a = { tmps := #[.agg #[.int .i64 (ep : Nat), .int .i64 (b : Nat), .int .i64 (l : Nat), .int .i64 (d : Nat), .int .i64 (x : Nat), .int .i64 (h : Nat)], .pointer (some ⟨w.heap.size, 0, none⟩), .slice none 0 0, .slice (some ⟨w.heap.size + 1, 0, none⟩) 60 60, .slice (some ⟨w.heap.size + 1, 0, none⟩) 60 60, .slice (some ⟨w.heap.size + 1, 0, none⟩) 60 60, .slice (some ⟨gm, 0, none⟩) 8 8, .slice (some ⟨gm, 0, none⟩) 8 8, .pointer (some ⟨w.heap.size, 0, none⟩), .int .i64 (ep : Nat), .int .u64 (ep : Nat), .slice a1 8 c1, .pointer (some ⟨w.heap.size, 1, none⟩), .pointer (some ⟨w.heap.size, 1, none⟩), .int .i64 (b : Nat), .int .u64 (b : Nat), .slice a2 4 c2, .pointer (some ⟨w.heap.size, 1, none⟩), .pointer (some ⟨w.heap.size, 2, none⟩), .int .i64 (l : Nat), .int .u64 (l : Nat), .slice a3 4 c3, .pointer (some ⟨w.heap.size, 1, none⟩), .pointer (some ⟨w.heap.size, 3, none⟩), .int .i64 (d : Nat), .int .u64 (d : Nat), undef, .pointer (some ⟨w.heap.size, 1, none⟩), .pointer (some ⟨w.heap.size, 4, none⟩), .int .i64 (x : Nat), .int .u64 (x : Nat), undef, .pointer (some ⟨w.heap.size, 5, none⟩), .int .i64 (h : Nat), .int .u64 (h : Nat), undef, undef, undef, undef, undef], defers := [] } ∧ Pre w W ep b l d x h ∧ Bs W (.slice (some ⟨gm, 0, none⟩) 8 8) magicL ∧ Bs W (.slice a1 8 c1) (numN 8 ep) ∧ Bs W (.slice a2 4 c2) (numN 4 b) ∧ Bs W (.slice a3 4 c3) (numN 4 l)
  | 18, a, W => ∃ (gm : Nat) (a1 a2 a3 a4 : Option Addr) (c1 c2 c3 c4 : Nat), a = { tmps := #[.agg #[.int .i64 (ep : Nat), .int .i64 (b : Nat), .int .i64 (l : Nat), .int .i64 (d : Nat), .int .i64 (x : Nat), .int .i64 (h : Nat)], .pointer (some ⟨w.heap.size, 0, none⟩), .slice none 0 0, .slice (some ⟨w.heap.size + 1, 0, none⟩) 60 60, .slice (some ⟨w.heap.size + 1, 0, none⟩) 60 60, .slice (some ⟨w.heap.size + 1, 0, none⟩) 60 60, .slice (some ⟨gm, 0, none⟩) 8 8, .slice (some ⟨gm, 0, none⟩) 8 8, .pointer (some ⟨w.heap.size, 0, none⟩), .int .i64 (ep : Nat), .int .u64 (ep : Nat), .slice a1 8 c1, .pointer (some ⟨w.heap.size, 1, none⟩), .pointer (some ⟨w.heap.size, 1, none⟩), .int .i64 (b : Nat), .int .u64 (b : Nat), .slice a2 4 c2, .pointer (some ⟨w.heap.size, 1, none⟩), .pointer (some ⟨w.heap.size, 2, none⟩), .int .i64 (l : Nat), .int .u64 (l : Nat), .slice a3 4 c3, .pointer (some ⟨w.heap.size, 1, none⟩), .pointer (some ⟨w.heap.size, 3, none⟩), .int .i64 (d : Nat), .int .u64 (d : Nat), .slice a4 4 c4, .pointer (some ⟨w.heap.size, 1, none⟩), .pointer (some ⟨w.heap.size, 4, none⟩), .int .i64 (x : Nat), .int .u64 (x : Nat), undef, .pointer (some ⟨w.heap.size, 5, none⟩), .int .i64 (h : Nat), .int .u64 (h : Nat), undef, undef, undef, undef, undef], defers := [] } ∧ Pre w W ep b l d x h ∧ Bs W (.slice (some ⟨gm, 0, none⟩) 8 8) magicL ∧ Bs W (.slice a1 8 c1) (numN 8 ep) ∧ Bs W (.slice a2 4 c2) (numN 4 b) ∧ Bs W (.slice a3 4 c3) (numN 4 l) ∧ Bs W (.slice a4 4 c4) (numN 4 d)
  | 19, a, W => ∃ (gm : Nat) (a1 a2 a3 a4 a5 : Option Addr) (c1 c2 c3 c4 c5 : Nat), a = { tmps := #[.agg #[.int .i64 (ep : Nat), .int .i64 (b : Nat), .int .i64 (l : Nat), .int .i64 (d : Nat), .int .i64 (x : Nat), .int .i64 (h : Nat)], .pointer (some ⟨w.heap.size, 0, none⟩), .slice none 0 0, .slice (some ⟨w.heap.size + 1, 0, none⟩) 60 60, .slice (some ⟨w.heap.size + 1, 0, none⟩) 60 60, .slice (some ⟨w.heap.size + 1, 0, none⟩) 60 60, .slice (some ⟨gm, 0, none⟩) 8 8, .slice (some ⟨gm, 0, none⟩) 8 8, .pointer (some ⟨w.heap.size, 0, none⟩), .int .i64 (ep : Nat), .int .u64 (ep : Nat), .slice a1 8 c1, .pointer (some ⟨w.heap.size, 1, none⟩), .pointer (some ⟨w.heap.size, 1, none⟩), .int .i64 (b : Nat), .int .u64 (b : Nat), .slice a2 4 c2, .pointer (some ⟨w.heap.size, 1, none⟩), .pointer (some ⟨w.heap.size, 2, none⟩), .int .i64 (l : Nat), .int .u64 (l : Nat), .slice a3 4 c3, .pointer (some ⟨w.heap.size, 1, none⟩), .pointer (some ⟨w.heap.size, 3, none⟩), .int .i64 (d : Nat), .int .u64 (d : Nat), .slice a4 4 c4, .pointer (some ⟨w.heap.size, 1, none⟩), .pointer (some ⟨w.heap.size, 4, none⟩), .int .i64 (x : Nat), .int .u64 (x : Nat), .slice a5 4 c5, .pointer (some ⟨w.heap.size, 5, none⟩), .int .i64 (h : Nat), .int .u64 (h : Nat), undef, undef, undef, undef, undef], defers := [] } ∧ Pre w W ep b l d x h ∧ Bs W (.slice (some ⟨gm, 0, none⟩) 8 8) magicL ∧ Bs W (.slice a1 8 c1) (numN 8 ep) ∧ Bs W (.slice a2 4 c2) (numN 4 b) ∧ Bs W (.slice a3 4 c3) (numN 4 l) ∧ Bs W (.slice a4 4 c4) (numN 4 d) ∧ Bs W (.slice a5 4 c5) (numN 4 x)
  | 20, a, W => ∃ (gm : Nat) (a1 a2 a3 a4 a5 a6 : Option Addr) (c1 c2 c3 c4 c5 c6 : Nat), a = { tmps := #[.agg #[.int .i64 (ep : Nat), .int .i64 (b : Nat), .int .i64 (l : Nat), .int .i64 (d : Nat), .int .i64 (x : Nat), .int .i64 (h : Nat)], .pointer (some ⟨w.heap.size, 0, none⟩), .slice none 0 0, .slice (some ⟨w.heap.size + 1, 0, none⟩) 60 60, .slice (some ⟨w.heap.size + 1, 0, none⟩) 60 60, .slice (some ⟨w.heap.size + 1, 0, none⟩) 60 60, .slice (some ⟨gm, 0, none⟩) 8 8, .slice (some ⟨gm, 0, none⟩) 8 8, .pointer (some ⟨w.heap.size, 0, none⟩), .int .i64 (ep : Nat), .int .u64 (ep : Nat), .slice a1 8 c1, .pointer (some ⟨w.heap.size, 1, none⟩), .pointer (some ⟨w.heap.size, 1, none⟩), .int .i64 (b : Nat), .int .u64 (b : Nat), .slice a2 4 c2, .pointer (some ⟨w.heap.size, 1, none⟩), .pointer (some ⟨w.heap.size, 2, none⟩), .int .i64 (l : Nat), .int .u64 (l : Nat), .slice a3 4 c3, .pointer (some ⟨w.heap.size, 1, none⟩), .pointer (some ⟨w.heap.size, 3, none⟩), .int .i64 (d : Nat), .int .u64 (d : Nat), .slice a4 4 c4, .pointer (some ⟨w.heap.size, 1, none⟩), .pointer (some ⟨w.heap.size, 4, none⟩), .int .i64 (x : Nat), .int .u64 (x : Nat), .slice a5 4 c5, .pointer (some ⟨w.heap.size, 5, none⟩), .int .i64 (h : Nat), .int .u64 (h : Nat), .slice a6 8 c6, undef, undef, undef, undef], defers := [] } ∧ Pre w W ep b l d x h ∧ Bs W (.slice (some ⟨gm, 0, none⟩) 8 8) magicL ∧ Bs W (.slice a1 8 c1) (numN 8 ep) ∧ Bs W (.slice a2 4 c2) (numN 4 b) ∧ Bs W (.slice a3 4 c3) (numN 4 l) ∧ Bs W (.slice a4 4 c4) (numN 4 d) ∧ Bs W (.slice a5 4 c5) (numN 4 x) ∧ Bs W (.slice a6 8 c6) (numN 8 h)
  | _, _, _ => False

set_option maxRecDepth 100000 in
set_option maxHeartbeats 8000000 in
theorem summed_yes (ep b l d x h : Nat) (w : World) (k0 : ep < 9223372036854775808) (k1 : b < 9223372036854775808) (k2 : l < 9223372036854775808) (k3 : d < 9223372036854775808) (k4 : x < 9223372036854775808) (k5 : h < 9223372036854775808) :
    Calls Try.prog 29 #[.agg #[.int .i64 (ep : Nat), .int .i64 (b : Nat), .int .i64 (l : Nat), .int .i64 (d : Nat), .int .i64 (x : Nat), .int .i64 (h : Nat)]] w (NewBs w (sumdL ep b l d x h)) := by
  obtain ⟨i0, hi, hz0, hz1, hz2⟩ := info_parts Try.info5
  have hinf : (Try.prog.info? 5).map (·.size) = some 1 := by kernel_rfl
  have hw0 : IntKind.u64.wrap (ep : Int) = ep := wrap_u64 _ (by omega)
  have hw1 : IntKind.u64.wrap (b : Int) = b := wrap_u64 _ (by omega)
  have hw2 : IntKind.u64.wrap (l : Int) = l := wrap_u64 _ (by omega)
  have hw3 : IntKind.u64.wrap (d : Int) = d := wrap_u64 _ (by omega)
  have hw4 : IntKind.u64.wrap (x : Int) = x := wrap_u64 _ (by omega)
  have hw5 : IntKind.u64.wrap (h : Int) = h := wrap_u64 _ (by omega)
  have m0 : ep < 2 ^ 64 := by omega
  have m1 : b < 2 ^ 64 := by omega
  have m2 : l < 2 ^ 64 := by omega
  have m3 : d < 2 ^ 64 := by omega
  have m4 : x < 2 ^ 64 := by omega
  have m5 : h < 2 ^ 64 := by omega
  have hS0 := SupAt.new w ep b l d x h
  go_enter Try.func29, Try.ntmps29
  go_wp2_with (at_make; refine wpList_make_full _ rfl (.const (.int .i64 60)) (.const (.int .i64 60)) 34 rfl w.heap.size 5 i0 (.int .u8 0) 1 Try.underlying34 hi hz0 hz1 .i64 .i64 60 60 60 rfl rfl rfl rfl (by rw [hz2]; omega) (by unfold maxLen; omega) (by simp) ?_; intro w1 hown hgrow)
  rw [zeros_made] at hown
  have hb1 : Below (w.alloc (.cells #[.int .i64 (ep : Nat), .int .i64 (b : Nat), .int .i64 (l : Nat), .int .i64 (d : Nat), .int .i64 (x : Nat), .int .i64 (h : Nat)] 25)).heap.size (w.alloc (.cells #[.int .i64 (ep : Nat), .int .i64 (b : Nat), .int .i64 (l : Nat), .int .i64 (d : Nat), .int .i64 (x : Nat), .int .i64 (h : Nat)] 25)) w1 := (Below.refl _ _).grown hgrow (Nat.le_refl _) (by intro k hk; cases hk)
  have hp1 : Pre w w1 ep b l d x h := ⟨hS0.mono hb1, by simpa using hown, ((Below.refl _ w).alloc (Nat.le_refl _) _).trans (hb1.mono (by simp)), by have h1 := owns_lt' hown _ rfl; simp at h1; omega⟩
  have hp2 := hp1.drew
  have hS2 := hp2.held
  clear hb1 hown hgrow hS0
  refine wp_region_held_drew (S := fun w' => w'.cell? ⟨w.heap.size, 0, none⟩ = some (.int .i64 (ep : Nat)) ∧ w'.cell? ⟨w.heap.size, 1, none⟩ = some (.int .i64 (b : Nat)) ∧ w'.cell? ⟨w.heap.size, 2, none⟩ = some (.int .i64 (l : Nat)) ∧ w'.cell? ⟨w.heap.size, 3, none⟩ = some (.int .i64 (d : Nat)) ∧ w'.cell? ⟨w.heap.size, 4, none⟩ = some (.int .i64 (x : Nat)) ∧ w'.cell? ⟨w.heap.size, 5, none⟩ = some (.int .i64 (h : Nat))) (by kernel_rfl) hS2 (fun hHeld => ?_)
  refine wpAnyH_take (i := 0) (oi := { dst := some 5, op := Op.move (Operand.tmp 3), type := 34, pos := _, after := #[], guard := none }) (v := .slice (some ⟨w.heap.size + 1, 0, none⟩) 60 60) rfl (by kernel_rfl) (by kernel_rfl) (by kernel_rfl) (fun _ _ _ h => h) (Or.inl ⟨by rfl, fun w' hw => by obtain ⟨s0, s1, s2, s3, s4, s5⟩ := hw; go_simp⟩) hS2 ?_
  simp only [Act.put, List.setIfInBounds_toArray, List.set_cons_zero, List.set_cons_succ]
  refine wpAnyH_take (i := 3) (oi := { dst := some 8, op := Op.fieldAddr 25 (Operand.tmp 1) 0, type := 0, pos := _, after := #[], guard := none }) (v := .pointer (some ⟨w.heap.size, 0, none⟩)) rfl (by kernel_rfl) (by kernel_rfl) (by kernel_rfl) (fun _ _ _ h => h) (Or.inl ⟨by rfl, fun w' hw => by obtain ⟨s0, s1, s2, s3, s4, s5⟩ := hw; go_simp⟩) hS2 ?_
  simp only [Act.put, List.setIfInBounds_toArray, List.set_cons_zero, List.set_cons_succ]
  refine wpAnyH_take (i := 4) (oi := { dst := some 9, op := Op.load 2 (Operand.tmp 8), type := 2, pos := _, after := #[{ on := 3, ground := Ground.data }], guard := none }) (v := .int .i64 (ep : Nat)) rfl (by kernel_rfl) (by kernel_rfl) (by kernel_rfl) (fun _ _ _ h => h) (Or.inl ⟨by rfl, fun w' hw => by obtain ⟨s0, s1, s2, s3, s4, s5⟩ := hw; go_simp⟩) hS2 ?_
  simp only [Act.put, List.setIfInBounds_toArray, List.set_cons_zero, List.set_cons_succ]
  refine wpAnyH_take (i := 5) (oi := { dst := some 10, op := Op.convert 2 54 (Operand.tmp 9), type := 54, pos := _, after := #[{ on := 4, ground := Ground.data }], guard := none }) (v := .int .u64 (ep : Nat)) rfl (by kernel_rfl) (by kernel_rfl) (by kernel_rfl) (fun _ _ _ h => h) (Or.inl ⟨by rfl, fun w' hw => by obtain ⟨s0, s1, s2, s3, s4, s5⟩ := hw; go_simp⟩) hS2 ?_
  simp only [Act.put, List.setIfInBounds_toArray, List.set_cons_zero, List.set_cons_succ]
  refine wpAnyH_take (i := 7) (oi := { dst := some 12, op := Op.fieldAddr 25 (Operand.tmp 1) 1, type := 0, pos := _, after := #[], guard := none }) (v := .pointer (some ⟨w.heap.size, 1, none⟩)) rfl (by kernel_rfl) (by kernel_rfl) (by kernel_rfl) (fun _ _ _ h => h) (Or.inl ⟨by rfl, fun w' hw => by obtain ⟨s0, s1, s2, s3, s4, s5⟩ := hw; go_simp⟩) hS2 ?_
  simp only [Act.put, List.setIfInBounds_toArray, List.set_cons_zero, List.set_cons_succ]
  refine wpAnyH_take (i := 8) (oi := { dst := some 13, op := Op.fieldAddr 23 (Operand.tmp 12) 0, type := 0, pos := _, after := #[{ on := 7, ground := Ground.data }], guard := none }) (v := .pointer (some ⟨w.heap.size, 1, none⟩)) rfl (by kernel_rfl) (by kernel_rfl) (by kernel_rfl) (fun _ _ _ h => h) (Or.inl ⟨by rfl, fun w' hw => by obtain ⟨s0, s1, s2, s3, s4, s5⟩ := hw; go_simp⟩) hS2 ?_
  simp only [Act.put, List.setIfInBounds_toArray, List.set_cons_zero, List.set_cons_succ]
  refine wpAnyH_take (i := 9) (oi := { dst := some 14, op := Op.load 3 (Operand.tmp 13), type := 3, pos := _, after := #[{ on := 8, ground := Ground.data }], guard := none }) (v := .int .i64 (b : Nat)) rfl (by kernel_rfl) (by kernel_rfl) (by kernel_rfl) (fun _ _ _ h => h) (Or.inl ⟨by rfl, fun w' hw => by obtain ⟨s0, s1, s2, s3, s4, s5⟩ := hw; go_simp⟩) hS2 ?_
  simp only [Act.put, List.setIfInBounds_toArray, List.set_cons_zero, List.set_cons_succ]
  refine wpAnyH_take (i := 10) (oi := { dst := some 15, op := Op.convert 3 54 (Operand.tmp 14), type := 54, pos := _, after := #[{ on := 9, ground := Ground.data }], guard := none }) (v := .int .u64 (b : Nat)) rfl (by kernel_rfl) (by kernel_rfl) (by kernel_rfl) (fun _ _ _ h => h) (Or.inl ⟨by rfl, fun w' hw => by obtain ⟨s0, s1, s2, s3, s4, s5⟩ := hw; go_simp⟩) hS2 ?_
  simp only [Act.put, List.setIfInBounds_toArray, List.set_cons_zero, List.set_cons_succ]
  refine wpAnyH_take (i := 12) (oi := { dst := some 17, op := Op.fieldAddr 25 (Operand.tmp 1) 1, type := 0, pos := _, after := #[], guard := none }) (v := .pointer (some ⟨w.heap.size, 1, none⟩)) rfl (by kernel_rfl) (by kernel_rfl) (by kernel_rfl) (fun _ _ _ h => h) (Or.inl ⟨by rfl, fun w' hw => by obtain ⟨s0, s1, s2, s3, s4, s5⟩ := hw; go_simp⟩) hS2 ?_
  simp only [Act.put, List.setIfInBounds_toArray, List.set_cons_zero, List.set_cons_succ]
  refine wpAnyH_take (i := 13) (oi := { dst := some 18, op := Op.fieldAddr 23 (Operand.tmp 17) 1, type := 0, pos := _, after := #[{ on := 12, ground := Ground.data }], guard := none }) (v := .pointer (some ⟨w.heap.size, 2, none⟩)) rfl (by kernel_rfl) (by kernel_rfl) (by kernel_rfl) (fun _ _ _ h => h) (Or.inl ⟨by rfl, fun w' hw => by obtain ⟨s0, s1, s2, s3, s4, s5⟩ := hw; go_simp⟩) hS2 ?_
  simp only [Act.put, List.setIfInBounds_toArray, List.set_cons_zero, List.set_cons_succ]
  refine wpAnyH_take (i := 14) (oi := { dst := some 19, op := Op.load 3 (Operand.tmp 18), type := 3, pos := _, after := #[{ on := 13, ground := Ground.data }], guard := none }) (v := .int .i64 (l : Nat)) rfl (by kernel_rfl) (by kernel_rfl) (by kernel_rfl) (fun _ _ _ h => h) (Or.inl ⟨by rfl, fun w' hw => by obtain ⟨s0, s1, s2, s3, s4, s5⟩ := hw; go_simp⟩) hS2 ?_
  simp only [Act.put, List.setIfInBounds_toArray, List.set_cons_zero, List.set_cons_succ]
  refine wpAnyH_take (i := 15) (oi := { dst := some 20, op := Op.convert 3 54 (Operand.tmp 19), type := 54, pos := _, after := #[{ on := 14, ground := Ground.data }], guard := none }) (v := .int .u64 (l : Nat)) rfl (by kernel_rfl) (by kernel_rfl) (by kernel_rfl) (fun _ _ _ h => h) (Or.inl ⟨by rfl, fun w' hw => by obtain ⟨s0, s1, s2, s3, s4, s5⟩ := hw; go_simp⟩) hS2 ?_
  simp only [Act.put, List.setIfInBounds_toArray, List.set_cons_zero, List.set_cons_succ]
  refine wpAnyH_take (i := 17) (oi := { dst := some 22, op := Op.fieldAddr 25 (Operand.tmp 1) 1, type := 0, pos := _, after := #[], guard := none }) (v := .pointer (some ⟨w.heap.size, 1, none⟩)) rfl (by kernel_rfl) (by kernel_rfl) (by kernel_rfl) (fun _ _ _ h => h) (Or.inl ⟨by rfl, fun w' hw => by obtain ⟨s0, s1, s2, s3, s4, s5⟩ := hw; go_simp⟩) hS2 ?_
  simp only [Act.put, List.setIfInBounds_toArray, List.set_cons_zero, List.set_cons_succ]
  refine wpAnyH_take (i := 18) (oi := { dst := some 23, op := Op.fieldAddr 23 (Operand.tmp 22) 2, type := 0, pos := _, after := #[{ on := 17, ground := Ground.data }], guard := none }) (v := .pointer (some ⟨w.heap.size, 3, none⟩)) rfl (by kernel_rfl) (by kernel_rfl) (by kernel_rfl) (fun _ _ _ h => h) (Or.inl ⟨by rfl, fun w' hw => by obtain ⟨s0, s1, s2, s3, s4, s5⟩ := hw; go_simp⟩) hS2 ?_
  simp only [Act.put, List.setIfInBounds_toArray, List.set_cons_zero, List.set_cons_succ]
  refine wpAnyH_take (i := 19) (oi := { dst := some 24, op := Op.load 3 (Operand.tmp 23), type := 3, pos := _, after := #[{ on := 18, ground := Ground.data }], guard := none }) (v := .int .i64 (d : Nat)) rfl (by kernel_rfl) (by kernel_rfl) (by kernel_rfl) (fun _ _ _ h => h) (Or.inl ⟨by rfl, fun w' hw => by obtain ⟨s0, s1, s2, s3, s4, s5⟩ := hw; go_simp⟩) hS2 ?_
  simp only [Act.put, List.setIfInBounds_toArray, List.set_cons_zero, List.set_cons_succ]
  refine wpAnyH_take (i := 20) (oi := { dst := some 25, op := Op.convert 3 54 (Operand.tmp 24), type := 54, pos := _, after := #[{ on := 19, ground := Ground.data }], guard := none }) (v := .int .u64 (d : Nat)) rfl (by kernel_rfl) (by kernel_rfl) (by kernel_rfl) (fun _ _ _ h => h) (Or.inl ⟨by rfl, fun w' hw => by obtain ⟨s0, s1, s2, s3, s4, s5⟩ := hw; go_simp⟩) hS2 ?_
  simp only [Act.put, List.setIfInBounds_toArray, List.set_cons_zero, List.set_cons_succ]
  refine wpAnyH_take (i := 22) (oi := { dst := some 27, op := Op.fieldAddr 25 (Operand.tmp 1) 1, type := 0, pos := _, after := #[], guard := none }) (v := .pointer (some ⟨w.heap.size, 1, none⟩)) rfl (by kernel_rfl) (by kernel_rfl) (by kernel_rfl) (fun _ _ _ h => h) (Or.inl ⟨by rfl, fun w' hw => by obtain ⟨s0, s1, s2, s3, s4, s5⟩ := hw; go_simp⟩) hS2 ?_
  simp only [Act.put, List.setIfInBounds_toArray, List.set_cons_zero, List.set_cons_succ]
  refine wpAnyH_take (i := 23) (oi := { dst := some 28, op := Op.fieldAddr 23 (Operand.tmp 27) 3, type := 0, pos := _, after := #[{ on := 22, ground := Ground.data }], guard := none }) (v := .pointer (some ⟨w.heap.size, 4, none⟩)) rfl (by kernel_rfl) (by kernel_rfl) (by kernel_rfl) (fun _ _ _ h => h) (Or.inl ⟨by rfl, fun w' hw => by obtain ⟨s0, s1, s2, s3, s4, s5⟩ := hw; go_simp⟩) hS2 ?_
  simp only [Act.put, List.setIfInBounds_toArray, List.set_cons_zero, List.set_cons_succ]
  refine wpAnyH_take (i := 24) (oi := { dst := some 29, op := Op.load 3 (Operand.tmp 28), type := 3, pos := _, after := #[{ on := 23, ground := Ground.data }], guard := none }) (v := .int .i64 (x : Nat)) rfl (by kernel_rfl) (by kernel_rfl) (by kernel_rfl) (fun _ _ _ h => h) (Or.inl ⟨by rfl, fun w' hw => by obtain ⟨s0, s1, s2, s3, s4, s5⟩ := hw; go_simp⟩) hS2 ?_
  simp only [Act.put, List.setIfInBounds_toArray, List.set_cons_zero, List.set_cons_succ]
  refine wpAnyH_take (i := 25) (oi := { dst := some 30, op := Op.convert 3 54 (Operand.tmp 29), type := 54, pos := _, after := #[{ on := 24, ground := Ground.data }], guard := none }) (v := .int .u64 (x : Nat)) rfl (by kernel_rfl) (by kernel_rfl) (by kernel_rfl) (fun _ _ _ h => h) (Or.inl ⟨by rfl, fun w' hw => by obtain ⟨s0, s1, s2, s3, s4, s5⟩ := hw; go_simp⟩) hS2 ?_
  simp only [Act.put, List.setIfInBounds_toArray, List.set_cons_zero, List.set_cons_succ]
  refine wpAnyH_take (i := 27) (oi := { dst := some 32, op := Op.fieldAddr 25 (Operand.tmp 1) 2, type := 0, pos := _, after := #[], guard := none }) (v := .pointer (some ⟨w.heap.size, 5, none⟩)) rfl (by kernel_rfl) (by kernel_rfl) (by kernel_rfl) (fun _ _ _ h => h) (Or.inl ⟨by rfl, fun w' hw => by obtain ⟨s0, s1, s2, s3, s4, s5⟩ := hw; go_simp⟩) hS2 ?_
  simp only [Act.put, List.setIfInBounds_toArray, List.set_cons_zero, List.set_cons_succ]
  refine wpAnyH_take (i := 28) (oi := { dst := some 33, op := Op.load 2 (Operand.tmp 32), type := 2, pos := _, after := #[{ on := 27, ground := Ground.data }], guard := none }) (v := .int .i64 (h : Nat)) rfl (by kernel_rfl) (by kernel_rfl) (by kernel_rfl) (fun _ _ _ h => h) (Or.inl ⟨by rfl, fun w' hw => by obtain ⟨s0, s1, s2, s3, s4, s5⟩ := hw; go_simp⟩) hS2 ?_
  simp only [Act.put, List.setIfInBounds_toArray, List.set_cons_zero, List.set_cons_succ]
  refine wpAnyH_take (i := 29) (oi := { dst := some 34, op := Op.convert 2 54 (Operand.tmp 33), type := 54, pos := _, after := #[{ on := 28, ground := Ground.data }], guard := none }) (v := .int .u64 (h : Nat)) rfl (by kernel_rfl) (by kernel_rfl) (by kernel_rfl) (fun _ _ _ h => h) (Or.inl ⟨by rfl, fun w' hw => by obtain ⟨s0, s1, s2, s3, s4, s5⟩ := hw; go_simp⟩) hS2 ?_
  simp only [Act.put, List.setIfInBounds_toArray, List.set_cons_zero, List.set_cons_succ]
  refine wpAnyH_list (L' := sumLst 0) (by kernel_rfl) (wpAnyH_graph sumFu sumLst (sumR w ep b l d x h) ?_ 0 _ _ ⟨rfl, hp2⟩)
  clear hHeld hS2 hp2 hp1
  intro n a W hR ih
  match n, hR, ih with
    | 0, hR, ih =>
      obtain ⟨rfl, hp⟩ := hR
      show wpAnyH _ _ _ _ _ (10 + 1) #[true, false, false, true, true, true, false, true, true, true, true, false, true, true, true, true, false, true, true, true, true, false, true, true, true, true, false, true, true, true, false, false, false, false] _ _
      refine wpAnyH_ready (rs := [1, 6]) (by kernel_rfl) (by simp) ?_
      refine AllReadyH.cons (o := { dst := some 6, op := Op.buildSlice 34 8 #[(0, Operand.const (Value.int IntKind.u8 97)), (1, Operand.const (Value.int IntKind.u8 116)), (2, Operand.const (Value.int IntKind.u8 116)), (3, Operand.const (Value.int IntKind.u8 105)), (4, Operand.const (Value.int IntKind.u8 99)), (5, Operand.const (Value.int IntKind.u8 32)), (6, Operand.const (Value.int IntKind.u8 49)), (7, Operand.const (Value.int IntKind.u8 10))], type := 34, pos := _, after := #[], guard := none }) rfl (fun K hK => ?_) (AllReadyH.cons (o := { dst := some 11, op := Op.call { callee := Callee.value (Operand.func 39), args := #[Operand.const (Value.int IntKind.i64 8), Operand.tmp 10], argTypes := #[3, 54] }, type := 34, pos := _, after := #[{ on := 5, ground := Ground.data }], guard := none }) rfl (fun K hK => ?_) AllReadyH.nil)
      · go_simp
        refine hK.out _ _ (hp.alloc _).held (fun _ => ?_)
        exact wpAnyH_list (L' := sumLst 7) (by kernel_rfl) (ih 7 _ _ (by decide) ⟨W.heap.size, rfl, (hp.alloc _), (RowAt.new W 5 magicC), hp.sz⟩)
      · go_simp
        refine (num8_yes ep W m0).mono ?_
        rintro r w2 ⟨v2, rfl, ho2, hbn⟩
        rw [numN_length] at ho2
        obtain ⟨ao2, cap2, rfl, -, -⟩ := owns_form ho2
        have hbs2 := Bs.of_owns (l := numN 8 ep) ho2 (numN_lt _ _)
        have hp2 := hp.mono hbn
        refine hK.out _ _ hp2.held (fun _ => ?_)
        exact wpAnyH_list (L' := sumLst 1) (by kernel_rfl) (ih 1 _ _ (by decide) ⟨_, _, rfl, hp2, hbs2⟩)
    | 1, hR, ih =>
      obtain ⟨a1, c1, rfl, hp, hb1⟩ := hR
      show wpAnyH _ _ _ _ _ (9 + 1) #[true, false, false, true, true, true, true, true, true, true, true, false, true, true, true, true, false, true, true, true, true, false, true, true, true, true, false, true, true, true, false, false, false, false] _ _
      refine wpAnyH_ready (rs := [1, 11]) (by kernel_rfl) (by simp) ?_
      refine AllReadyH.cons (o := { dst := some 6, op := Op.buildSlice 34 8 #[(0, Operand.const (Value.int IntKind.u8 97)), (1, Operand.const (Value.int IntKind.u8 116)), (2, Operand.const (Value.int IntKind.u8 116)), (3, Operand.const (Value.int IntKind.u8 105)), (4, Operand.const (Value.int IntKind.u8 99)), (5, Operand.const (Value.int IntKind.u8 32)), (6, Operand.const (Value.int IntKind.u8 49)), (7, Operand.const (Value.int IntKind.u8 10))], type := 34, pos := _, after := #[], guard := none }) rfl (fun K hK => ?_) (AllReadyH.cons (o := { dst := some 16, op := Op.call { callee := Callee.value (Operand.func 39), args := #[Operand.const (Value.int IntKind.i64 4), Operand.tmp 15], argTypes := #[3, 54] }, type := 34, pos := _, after := #[{ on := 10, ground := Ground.data }, { on := 6, ground := Ground.chain }], guard := none }) rfl (fun K hK => ?_) AllReadyH.nil)
      · go_simp
        refine hK.out _ _ (hp.alloc _).held (fun _ => ?_)
        exact wpAnyH_list (L' := sumLst 8) (by kernel_rfl) (ih 8 _ _ (by decide) ⟨W.heap.size, _, _, rfl, (hp.alloc _), (RowAt.new W 5 magicC), hp.sz, (hb1.alloc _)⟩)
      · go_simp
        refine (num4_yes b W m1).mono ?_
        rintro r w2 ⟨v2, rfl, ho2, hbn⟩
        rw [numN_length] at ho2
        obtain ⟨ao2, cap2, rfl, -, -⟩ := owns_form ho2
        have hbs2 := Bs.of_owns (l := numN 4 b) ho2 (numN_lt _ _)
        have hp2 := hp.mono hbn
        refine hK.out _ _ hp2.held (fun _ => ?_)
        exact wpAnyH_list (L' := sumLst 2) (by kernel_rfl) (ih 2 _ _ (by decide) ⟨_, _, _, _, rfl, hp2, (hb1.mono hbn), hbs2⟩)
    | 2, hR, ih =>
      obtain ⟨a1, a2, c1, c2, rfl, hp, hb1, hb2⟩ := hR
      show wpAnyH _ _ _ _ _ (8 + 1) #[true, false, false, true, true, true, true, true, true, true, true, true, true, true, true, true, false, true, true, true, true, false, true, true, true, true, false, true, true, true, false, false, false, false] _ _
      refine wpAnyH_ready (rs := [1, 16]) (by kernel_rfl) (by simp) ?_
      refine AllReadyH.cons (o := { dst := some 6, op := Op.buildSlice 34 8 #[(0, Operand.const (Value.int IntKind.u8 97)), (1, Operand.const (Value.int IntKind.u8 116)), (2, Operand.const (Value.int IntKind.u8 116)), (3, Operand.const (Value.int IntKind.u8 105)), (4, Operand.const (Value.int IntKind.u8 99)), (5, Operand.const (Value.int IntKind.u8 32)), (6, Operand.const (Value.int IntKind.u8 49)), (7, Operand.const (Value.int IntKind.u8 10))], type := 34, pos := _, after := #[], guard := none }) rfl (fun K hK => ?_) (AllReadyH.cons (o := { dst := some 21, op := Op.call { callee := Callee.value (Operand.func 39), args := #[Operand.const (Value.int IntKind.i64 4), Operand.tmp 20], argTypes := #[3, 54] }, type := 34, pos := _, after := #[{ on := 15, ground := Ground.data }, { on := 11, ground := Ground.chain }], guard := none }) rfl (fun K hK => ?_) AllReadyH.nil)
      · go_simp
        refine hK.out _ _ (hp.alloc _).held (fun _ => ?_)
        exact wpAnyH_list (L' := sumLst 9) (by kernel_rfl) (ih 9 _ _ (by decide) ⟨W.heap.size, _, _, _, _, rfl, (hp.alloc _), (RowAt.new W 5 magicC), hp.sz, (hb1.alloc _), (hb2.alloc _)⟩)
      · go_simp
        refine (num4_yes l W m2).mono ?_
        rintro r w2 ⟨v2, rfl, ho2, hbn⟩
        rw [numN_length] at ho2
        obtain ⟨ao2, cap2, rfl, -, -⟩ := owns_form ho2
        have hbs2 := Bs.of_owns (l := numN 4 l) ho2 (numN_lt _ _)
        have hp2 := hp.mono hbn
        refine hK.out _ _ hp2.held (fun _ => ?_)
        exact wpAnyH_list (L' := sumLst 3) (by kernel_rfl) (ih 3 _ _ (by decide) ⟨_, _, _, _, _, _, rfl, hp2, (hb1.mono hbn), (hb2.mono hbn), hbs2⟩)
    | 3, hR, ih =>
      obtain ⟨a1, a2, a3, c1, c2, c3, rfl, hp, hb1, hb2, hb3⟩ := hR
      show wpAnyH _ _ _ _ _ (7 + 1) #[true, false, false, true, true, true, true, true, true, true, true, true, true, true, true, true, true, true, true, true, true, false, true, true, true, true, false, true, true, true, false, false, false, false] _ _
      refine wpAnyH_ready (rs := [1, 21]) (by kernel_rfl) (by simp) ?_
      refine AllReadyH.cons (o := { dst := some 6, op := Op.buildSlice 34 8 #[(0, Operand.const (Value.int IntKind.u8 97)), (1, Operand.const (Value.int IntKind.u8 116)), (2, Operand.const (Value.int IntKind.u8 116)), (3, Operand.const (Value.int IntKind.u8 105)), (4, Operand.const (Value.int IntKind.u8 99)), (5, Operand.const (Value.int IntKind.u8 32)), (6, Operand.const (Value.int IntKind.u8 49)), (7, Operand.const (Value.int IntKind.u8 10))], type := 34, pos := _, after := #[], guard := none }) rfl (fun K hK => ?_) (AllReadyH.cons (o := { dst := some 26, op := Op.call { callee := Callee.value (Operand.func 39), args := #[Operand.const (Value.int IntKind.i64 4), Operand.tmp 25], argTypes := #[3, 54] }, type := 34, pos := _, after := #[{ on := 20, ground := Ground.data }, { on := 16, ground := Ground.chain }], guard := none }) rfl (fun K hK => ?_) AllReadyH.nil)
      · go_simp
        refine hK.out _ _ (hp.alloc _).held (fun _ => ?_)
        exact wpAnyH_list (L' := sumLst 10) (by kernel_rfl) (ih 10 _ _ (by decide) ⟨W.heap.size, _, _, _, _, _, _, rfl, (hp.alloc _), (RowAt.new W 5 magicC), hp.sz, (hb1.alloc _), (hb2.alloc _), (hb3.alloc _)⟩)
      · go_simp
        refine (num4_yes d W m3).mono ?_
        rintro r w2 ⟨v2, rfl, ho2, hbn⟩
        rw [numN_length] at ho2
        obtain ⟨ao2, cap2, rfl, -, -⟩ := owns_form ho2
        have hbs2 := Bs.of_owns (l := numN 4 d) ho2 (numN_lt _ _)
        have hp2 := hp.mono hbn
        refine hK.out _ _ hp2.held (fun _ => ?_)
        exact wpAnyH_list (L' := sumLst 4) (by kernel_rfl) (ih 4 _ _ (by decide) ⟨_, _, _, _, _, _, _, _, rfl, hp2, (hb1.mono hbn), (hb2.mono hbn), (hb3.mono hbn), hbs2⟩)
    | 4, hR, ih =>
      obtain ⟨a1, a2, a3, a4, c1, c2, c3, c4, rfl, hp, hb1, hb2, hb3, hb4⟩ := hR
      show wpAnyH _ _ _ _ _ (6 + 1) #[true, false, false, true, true, true, true, true, true, true, true, true, true, true, true, true, true, true, true, true, true, true, true, true, true, true, false, true, true, true, false, false, false, false] _ _
      refine wpAnyH_ready (rs := [1, 26]) (by kernel_rfl) (by simp) ?_
      refine AllReadyH.cons (o := { dst := some 6, op := Op.buildSlice 34 8 #[(0, Operand.const (Value.int IntKind.u8 97)), (1, Operand.const (Value.int IntKind.u8 116)), (2, Operand.const (Value.int IntKind.u8 116)), (3, Operand.const (Value.int IntKind.u8 105)), (4, Operand.const (Value.int IntKind.u8 99)), (5, Operand.const (Value.int IntKind.u8 32)), (6, Operand.const (Value.int IntKind.u8 49)), (7, Operand.const (Value.int IntKind.u8 10))], type := 34, pos := _, after := #[], guard := none }) rfl (fun K hK => ?_) (AllReadyH.cons (o := { dst := some 31, op := Op.call { callee := Callee.value (Operand.func 39), args := #[Operand.const (Value.int IntKind.i64 4), Operand.tmp 30], argTypes := #[3, 54] }, type := 34, pos := _, after := #[{ on := 25, ground := Ground.data }, { on := 21, ground := Ground.chain }], guard := none }) rfl (fun K hK => ?_) AllReadyH.nil)
      · go_simp
        refine hK.out _ _ (hp.alloc _).held (fun _ => ?_)
        exact wpAnyH_list (L' := sumLst 11) (by kernel_rfl) (ih 11 _ _ (by decide) ⟨W.heap.size, _, _, _, _, _, _, _, _, rfl, (hp.alloc _), (RowAt.new W 5 magicC), hp.sz, (hb1.alloc _), (hb2.alloc _), (hb3.alloc _), (hb4.alloc _)⟩)
      · go_simp
        refine (num4_yes x W m4).mono ?_
        rintro r w2 ⟨v2, rfl, ho2, hbn⟩
        rw [numN_length] at ho2
        obtain ⟨ao2, cap2, rfl, -, -⟩ := owns_form ho2
        have hbs2 := Bs.of_owns (l := numN 4 x) ho2 (numN_lt _ _)
        have hp2 := hp.mono hbn
        refine hK.out _ _ hp2.held (fun _ => ?_)
        exact wpAnyH_list (L' := sumLst 5) (by kernel_rfl) (ih 5 _ _ (by decide) ⟨_, _, _, _, _, _, _, _, _, _, rfl, hp2, (hb1.mono hbn), (hb2.mono hbn), (hb3.mono hbn), (hb4.mono hbn), hbs2⟩)
    | 5, hR, ih =>
      obtain ⟨a1, a2, a3, a4, a5, c1, c2, c3, c4, c5, rfl, hp, hb1, hb2, hb3, hb4, hb5⟩ := hR
      show wpAnyH _ _ _ _ _ (5 + 1) #[true, false, false, true, true, true, true, true, true, true, true, true, true, true, true, true, true, true, true, true, true, true, true, true, true, true, true, true, true, true, false, false, false, false] _ _
      refine wpAnyH_ready (rs := [1, 30]) (by kernel_rfl) (by simp) ?_
      refine AllReadyH.cons (o := { dst := some 6, op := Op.buildSlice 34 8 #[(0, Operand.const (Value.int IntKind.u8 97)), (1, Operand.const (Value.int IntKind.u8 116)), (2, Operand.const (Value.int IntKind.u8 116)), (3, Operand.const (Value.int IntKind.u8 105)), (4, Operand.const (Value.int IntKind.u8 99)), (5, Operand.const (Value.int IntKind.u8 32)), (6, Operand.const (Value.int IntKind.u8 49)), (7, Operand.const (Value.int IntKind.u8 10))], type := 34, pos := _, after := #[], guard := none }) rfl (fun K hK => ?_) (AllReadyH.cons (o := { dst := some 35, op := Op.call { callee := Callee.value (Operand.func 39), args := #[Operand.const (Value.int IntKind.i64 8), Operand.tmp 34], argTypes := #[3, 54] }, type := 34, pos := _, after := #[{ on := 29, ground := Ground.data }, { on := 26, ground := Ground.chain }], guard := none }) rfl (fun K hK => ?_) AllReadyH.nil)
      · go_simp
        refine hK.out _ _ (hp.alloc _).held (fun _ => ?_)
        exact wpAnyH_list (L' := sumLst 12) (by kernel_rfl) (ih 12 _ _ (by decide) ⟨W.heap.size, _, _, _, _, _, _, _, _, _, _, rfl, (hp.alloc _), (RowAt.new W 5 magicC), hp.sz, (hb1.alloc _), (hb2.alloc _), (hb3.alloc _), (hb4.alloc _), (hb5.alloc _)⟩)
      · go_simp
        refine (num8_yes h W m5).mono ?_
        rintro r w2 ⟨v2, rfl, ho2, hbn⟩
        rw [numN_length] at ho2
        obtain ⟨ao2, cap2, rfl, -, -⟩ := owns_form ho2
        have hbs2 := Bs.of_owns (l := numN 8 h) ho2 (numN_lt _ _)
        have hp2 := hp.mono hbn
        refine hK.out _ _ hp2.held (fun _ => ?_)
        exact wpAnyH_list (L' := sumLst 6) (by kernel_rfl) (ih 6 _ _ (by decide) ⟨_, _, _, _, _, _, _, _, _, _, _, _, rfl, hp2, (hb1.mono hbn), (hb2.mono hbn), (hb3.mono hbn), (hb4.mono hbn), (hb5.mono hbn), hbs2⟩)
    | 6, hR, ih =>
      obtain ⟨a1, a2, a3, a4, a5, a6, c1, c2, c3, c4, c5, c6, rfl, hp, hb1, hb2, hb3, hb4, hb5, hb6⟩ := hR
      show wpAnyH _ _ _ _ _ (4 + 1) #[true, false, false, true, true, true, true, true, true, true, true, true, true, true, true, true, true, true, true, true, true, true, true, true, true, true, true, true, true, true, true, false, false, false] _ _
      refine wpAnyH_ready (rs := [1]) (by kernel_rfl) (by simp) ?_
      refine AllReadyH.cons (o := { dst := some 6, op := Op.buildSlice 34 8 #[(0, Operand.const (Value.int IntKind.u8 97)), (1, Operand.const (Value.int IntKind.u8 116)), (2, Operand.const (Value.int IntKind.u8 116)), (3, Operand.const (Value.int IntKind.u8 105)), (4, Operand.const (Value.int IntKind.u8 99)), (5, Operand.const (Value.int IntKind.u8 32)), (6, Operand.const (Value.int IntKind.u8 49)), (7, Operand.const (Value.int IntKind.u8 10))], type := 34, pos := _, after := #[], guard := none }) rfl (fun K hK => ?_) AllReadyH.nil
      · go_simp
        refine hK.out _ _ (hp.alloc _).held (fun _ => ?_)
        exact wpAnyH_list (L' := sumLst 13) (by kernel_rfl) (ih 13 _ _ (by decide) ⟨W.heap.size, _, _, _, _, _, _, _, _, _, _, _, _, rfl, (hp.alloc _), (RowAt.new W 5 magicC), hp.sz, (hb1.alloc _), (hb2.alloc _), (hb3.alloc _), (hb4.alloc _), (hb5.alloc _), (hb6.alloc _)⟩)
    | 7, hR, ih =>
      obtain ⟨gm, rfl, hp, hrow, hgm⟩ := hR
      show wpAnyH _ _ _ _ _ (9 + 1) #[true, true, false, true, true, true, false, true, true, true, true, false, true, true, true, true, false, true, true, true, true, false, true, true, true, true, false, true, true, true, false, false, false, false] _ _
      refine wpAnyH_ready (rs := [2, 6]) (by kernel_rfl) (by simp) ?_
      refine AllReadyH.cons (o := { dst := some 7, op := Op.convert 34 34 (Operand.tmp 6), type := 34, pos := _, after := #[{ on := 1, ground := Ground.data }], guard := none }) rfl (fun K hK => ?_) (AllReadyH.cons (o := { dst := some 11, op := Op.call { callee := Callee.value (Operand.func 39), args := #[Operand.const (Value.int IntKind.i64 8), Operand.tmp 10], argTypes := #[3, 54] }, type := 34, pos := _, after := #[{ on := 5, ground := Ground.data }], guard := none }) rfl (fun K hK => ?_) AllReadyH.nil)
      · have hcv := fun n c => run_convert_mark (P := Try.prog) 34 5 n c Try.underlying34 Try.underlying5 hrow
        go_simp
        refine hK.out _ _ (hp.freezeG hgm _ _).held (fun _ => ?_)
        exact wpAnyH_list (L' := sumLst 14) (by kernel_rfl) (ih 14 _ _ (by decide) ⟨gm, rfl, (hp.freezeG hgm _ _), ((RowAt.bs hrow rfl magicC_toList magicL_lt).freeze _ _)⟩)
      · go_simp
        refine (num8_yes ep W m0).mono ?_
        rintro r w2 ⟨v2, rfl, ho2, hbn⟩
        rw [numN_length] at ho2
        obtain ⟨ao2, cap2, rfl, -, -⟩ := owns_form ho2
        have hbs2 := Bs.of_owns (l := numN 8 ep) ho2 (numN_lt _ _)
        have hp2 := hp.mono hbn
        refine hK.out _ _ hp2.held (fun _ => ?_)
        exact wpAnyH_list (L' := sumLst 8) (by kernel_rfl) (ih 8 _ _ (by decide) ⟨gm, _, _, rfl, hp2, (hrow.mono hbn), hgm, hbs2⟩)
    | 8, hR, ih =>
      obtain ⟨gm, a1, c1, rfl, hp, hrow, hgm, hb1⟩ := hR
      show wpAnyH _ _ _ _ _ (8 + 1) #[true, true, false, true, true, true, true, true, true, true, true, false, true, true, true, true, false, true, true, true, true, false, true, true, true, true, false, true, true, true, false, false, false, false] _ _
      refine wpAnyH_ready (rs := [2, 11]) (by kernel_rfl) (by simp) ?_
      refine AllReadyH.cons (o := { dst := some 7, op := Op.convert 34 34 (Operand.tmp 6), type := 34, pos := _, after := #[{ on := 1, ground := Ground.data }], guard := none }) rfl (fun K hK => ?_) (AllReadyH.cons (o := { dst := some 16, op := Op.call { callee := Callee.value (Operand.func 39), args := #[Operand.const (Value.int IntKind.i64 4), Operand.tmp 15], argTypes := #[3, 54] }, type := 34, pos := _, after := #[{ on := 10, ground := Ground.data }, { on := 6, ground := Ground.chain }], guard := none }) rfl (fun K hK => ?_) AllReadyH.nil)
      · have hcv := fun n c => run_convert_mark (P := Try.prog) 34 5 n c Try.underlying34 Try.underlying5 hrow
        go_simp
        refine hK.out _ _ (hp.freezeG hgm _ _).held (fun _ => ?_)
        exact wpAnyH_list (L' := sumLst 15) (by kernel_rfl) (ih 15 _ _ (by decide) ⟨gm, _, _, rfl, (hp.freezeG hgm _ _), ((RowAt.bs hrow rfl magicC_toList magicL_lt).freeze _ _), (hb1.freeze _ _)⟩)
      · go_simp
        refine (num4_yes b W m1).mono ?_
        rintro r w2 ⟨v2, rfl, ho2, hbn⟩
        rw [numN_length] at ho2
        obtain ⟨ao2, cap2, rfl, -, -⟩ := owns_form ho2
        have hbs2 := Bs.of_owns (l := numN 4 b) ho2 (numN_lt _ _)
        have hp2 := hp.mono hbn
        refine hK.out _ _ hp2.held (fun _ => ?_)
        exact wpAnyH_list (L' := sumLst 9) (by kernel_rfl) (ih 9 _ _ (by decide) ⟨gm, _, _, _, _, rfl, hp2, (hrow.mono hbn), hgm, (hb1.mono hbn), hbs2⟩)
    | 9, hR, ih =>
      obtain ⟨gm, a1, a2, c1, c2, rfl, hp, hrow, hgm, hb1, hb2⟩ := hR
      show wpAnyH _ _ _ _ _ (7 + 1) #[true, true, false, true, true, true, true, true, true, true, true, true, true, true, true, true, false, true, true, true, true, false, true, true, true, true, false, true, true, true, false, false, false, false] _ _
      refine wpAnyH_ready (rs := [2, 16]) (by kernel_rfl) (by simp) ?_
      refine AllReadyH.cons (o := { dst := some 7, op := Op.convert 34 34 (Operand.tmp 6), type := 34, pos := _, after := #[{ on := 1, ground := Ground.data }], guard := none }) rfl (fun K hK => ?_) (AllReadyH.cons (o := { dst := some 21, op := Op.call { callee := Callee.value (Operand.func 39), args := #[Operand.const (Value.int IntKind.i64 4), Operand.tmp 20], argTypes := #[3, 54] }, type := 34, pos := _, after := #[{ on := 15, ground := Ground.data }, { on := 11, ground := Ground.chain }], guard := none }) rfl (fun K hK => ?_) AllReadyH.nil)
      · have hcv := fun n c => run_convert_mark (P := Try.prog) 34 5 n c Try.underlying34 Try.underlying5 hrow
        go_simp
        refine hK.out _ _ (hp.freezeG hgm _ _).held (fun _ => ?_)
        exact wpAnyH_list (L' := sumLst 16) (by kernel_rfl) (ih 16 _ _ (by decide) ⟨gm, _, _, _, _, rfl, (hp.freezeG hgm _ _), ((RowAt.bs hrow rfl magicC_toList magicL_lt).freeze _ _), (hb1.freeze _ _), (hb2.freeze _ _)⟩)
      · go_simp
        refine (num4_yes l W m2).mono ?_
        rintro r w2 ⟨v2, rfl, ho2, hbn⟩
        rw [numN_length] at ho2
        obtain ⟨ao2, cap2, rfl, -, -⟩ := owns_form ho2
        have hbs2 := Bs.of_owns (l := numN 4 l) ho2 (numN_lt _ _)
        have hp2 := hp.mono hbn
        refine hK.out _ _ hp2.held (fun _ => ?_)
        exact wpAnyH_list (L' := sumLst 10) (by kernel_rfl) (ih 10 _ _ (by decide) ⟨gm, _, _, _, _, _, _, rfl, hp2, (hrow.mono hbn), hgm, (hb1.mono hbn), (hb2.mono hbn), hbs2⟩)
    | 10, hR, ih =>
      obtain ⟨gm, a1, a2, a3, c1, c2, c3, rfl, hp, hrow, hgm, hb1, hb2, hb3⟩ := hR
      show wpAnyH _ _ _ _ _ (6 + 1) #[true, true, false, true, true, true, true, true, true, true, true, true, true, true, true, true, true, true, true, true, true, false, true, true, true, true, false, true, true, true, false, false, false, false] _ _
      refine wpAnyH_ready (rs := [2, 21]) (by kernel_rfl) (by simp) ?_
      refine AllReadyH.cons (o := { dst := some 7, op := Op.convert 34 34 (Operand.tmp 6), type := 34, pos := _, after := #[{ on := 1, ground := Ground.data }], guard := none }) rfl (fun K hK => ?_) (AllReadyH.cons (o := { dst := some 26, op := Op.call { callee := Callee.value (Operand.func 39), args := #[Operand.const (Value.int IntKind.i64 4), Operand.tmp 25], argTypes := #[3, 54] }, type := 34, pos := _, after := #[{ on := 20, ground := Ground.data }, { on := 16, ground := Ground.chain }], guard := none }) rfl (fun K hK => ?_) AllReadyH.nil)
      · have hcv := fun n c => run_convert_mark (P := Try.prog) 34 5 n c Try.underlying34 Try.underlying5 hrow
        go_simp
        refine hK.out _ _ (hp.freezeG hgm _ _).held (fun _ => ?_)
        exact wpAnyH_list (L' := sumLst 17) (by kernel_rfl) (ih 17 _ _ (by decide) ⟨gm, _, _, _, _, _, _, rfl, (hp.freezeG hgm _ _), ((RowAt.bs hrow rfl magicC_toList magicL_lt).freeze _ _), (hb1.freeze _ _), (hb2.freeze _ _), (hb3.freeze _ _)⟩)
      · go_simp
        refine (num4_yes d W m3).mono ?_
        rintro r w2 ⟨v2, rfl, ho2, hbn⟩
        rw [numN_length] at ho2
        obtain ⟨ao2, cap2, rfl, -, -⟩ := owns_form ho2
        have hbs2 := Bs.of_owns (l := numN 4 d) ho2 (numN_lt _ _)
        have hp2 := hp.mono hbn
        refine hK.out _ _ hp2.held (fun _ => ?_)
        exact wpAnyH_list (L' := sumLst 11) (by kernel_rfl) (ih 11 _ _ (by decide) ⟨gm, _, _, _, _, _, _, _, _, rfl, hp2, (hrow.mono hbn), hgm, (hb1.mono hbn), (hb2.mono hbn), (hb3.mono hbn), hbs2⟩)
    | 11, hR, ih =>
      obtain ⟨gm, a1, a2, a3, a4, c1, c2, c3, c4, rfl, hp, hrow, hgm, hb1, hb2, hb3, hb4⟩ := hR
      show wpAnyH _ _ _ _ _ (5 + 1) #[true, true, false, true, true, true, true, true, true, true, true, true, true, true, true, true, true, true, true, true, true, true, true, true, true, true, false, true, true, true, false, false, false, false] _ _
      refine wpAnyH_ready (rs := [2, 26]) (by kernel_rfl) (by simp) ?_
      refine AllReadyH.cons (o := { dst := some 7, op := Op.convert 34 34 (Operand.tmp 6), type := 34, pos := _, after := #[{ on := 1, ground := Ground.data }], guard := none }) rfl (fun K hK => ?_) (AllReadyH.cons (o := { dst := some 31, op := Op.call { callee := Callee.value (Operand.func 39), args := #[Operand.const (Value.int IntKind.i64 4), Operand.tmp 30], argTypes := #[3, 54] }, type := 34, pos := _, after := #[{ on := 25, ground := Ground.data }, { on := 21, ground := Ground.chain }], guard := none }) rfl (fun K hK => ?_) AllReadyH.nil)
      · have hcv := fun n c => run_convert_mark (P := Try.prog) 34 5 n c Try.underlying34 Try.underlying5 hrow
        go_simp
        refine hK.out _ _ (hp.freezeG hgm _ _).held (fun _ => ?_)
        exact wpAnyH_list (L' := sumLst 18) (by kernel_rfl) (ih 18 _ _ (by decide) ⟨gm, _, _, _, _, _, _, _, _, rfl, (hp.freezeG hgm _ _), ((RowAt.bs hrow rfl magicC_toList magicL_lt).freeze _ _), (hb1.freeze _ _), (hb2.freeze _ _), (hb3.freeze _ _), (hb4.freeze _ _)⟩)
      · go_simp
        refine (num4_yes x W m4).mono ?_
        rintro r w2 ⟨v2, rfl, ho2, hbn⟩
        rw [numN_length] at ho2
        obtain ⟨ao2, cap2, rfl, -, -⟩ := owns_form ho2
        have hbs2 := Bs.of_owns (l := numN 4 x) ho2 (numN_lt _ _)
        have hp2 := hp.mono hbn
        refine hK.out _ _ hp2.held (fun _ => ?_)
        exact wpAnyH_list (L' := sumLst 12) (by kernel_rfl) (ih 12 _ _ (by decide) ⟨gm, _, _, _, _, _, _, _, _, _, _, rfl, hp2, (hrow.mono hbn), hgm, (hb1.mono hbn), (hb2.mono hbn), (hb3.mono hbn), (hb4.mono hbn), hbs2⟩)
    | 12, hR, ih =>
      obtain ⟨gm, a1, a2, a3, a4, a5, c1, c2, c3, c4, c5, rfl, hp, hrow, hgm, hb1, hb2, hb3, hb4, hb5⟩ := hR
      show wpAnyH _ _ _ _ _ (4 + 1) #[true, true, false, true, true, true, true, true, true, true, true, true, true, true, true, true, true, true, true, true, true, true, true, true, true, true, true, true, true, true, false, false, false, false] _ _
      refine wpAnyH_ready (rs := [2, 30]) (by kernel_rfl) (by simp) ?_
      refine AllReadyH.cons (o := { dst := some 7, op := Op.convert 34 34 (Operand.tmp 6), type := 34, pos := _, after := #[{ on := 1, ground := Ground.data }], guard := none }) rfl (fun K hK => ?_) (AllReadyH.cons (o := { dst := some 35, op := Op.call { callee := Callee.value (Operand.func 39), args := #[Operand.const (Value.int IntKind.i64 8), Operand.tmp 34], argTypes := #[3, 54] }, type := 34, pos := _, after := #[{ on := 29, ground := Ground.data }, { on := 26, ground := Ground.chain }], guard := none }) rfl (fun K hK => ?_) AllReadyH.nil)
      · have hcv := fun n c => run_convert_mark (P := Try.prog) 34 5 n c Try.underlying34 Try.underlying5 hrow
        go_simp
        refine hK.out _ _ (hp.freezeG hgm _ _).held (fun _ => ?_)
        exact wpAnyH_list (L' := sumLst 19) (by kernel_rfl) (ih 19 _ _ (by decide) ⟨gm, _, _, _, _, _, _, _, _, _, _, rfl, (hp.freezeG hgm _ _), ((RowAt.bs hrow rfl magicC_toList magicL_lt).freeze _ _), (hb1.freeze _ _), (hb2.freeze _ _), (hb3.freeze _ _), (hb4.freeze _ _), (hb5.freeze _ _)⟩)
      · go_simp
        refine (num8_yes h W m5).mono ?_
        rintro r w2 ⟨v2, rfl, ho2, hbn⟩
        rw [numN_length] at ho2
        obtain ⟨ao2, cap2, rfl, -, -⟩ := owns_form ho2
        have hbs2 := Bs.of_owns (l := numN 8 h) ho2 (numN_lt _ _)
        have hp2 := hp.mono hbn
        refine hK.out _ _ hp2.held (fun _ => ?_)
        exact wpAnyH_list (L' := sumLst 13) (by kernel_rfl) (ih 13 _ _ (by decide) ⟨gm, _, _, _, _, _, _, _, _, _, _, _, _, rfl, hp2, (hrow.mono hbn), hgm, (hb1.mono hbn), (hb2.mono hbn), (hb3.mono hbn), (hb4.mono hbn), (hb5.mono hbn), hbs2⟩)
    | 13, hR, ih =>
      obtain ⟨gm, a1, a2, a3, a4, a5, a6, c1, c2, c3, c4, c5, c6, rfl, hp, hrow, hgm, hb1, hb2, hb3, hb4, hb5, hb6⟩ := hR
      show wpAnyH _ _ _ _ _ (3 + 1) #[true, true, false, true, true, true, true, true, true, true, true, true, true, true, true, true, true, true, true, true, true, true, true, true, true, true, true, true, true, true, true, false, false, false] _ _
      refine wpAnyH_ready (rs := [2]) (by kernel_rfl) (by simp) ?_
      refine AllReadyH.cons (o := { dst := some 7, op := Op.convert 34 34 (Operand.tmp 6), type := 34, pos := _, after := #[{ on := 1, ground := Ground.data }], guard := none }) rfl (fun K hK => ?_) AllReadyH.nil
      · have hcv := fun n c => run_convert_mark (P := Try.prog) 34 5 n c Try.underlying34 Try.underlying5 hrow
        go_simp
        refine hK.out _ _ (hp.freezeG hgm _ _).held (fun _ => ?_)
        exact wpAnyH_list (L' := sumLst 20) (by kernel_rfl) (ih 20 _ _ (by decide) ⟨gm, _, _, _, _, _, _, _, _, _, _, _, _, rfl, (hp.freezeG hgm _ _), ((RowAt.bs hrow rfl magicC_toList magicL_lt).freeze _ _), (hb1.freeze _ _), (hb2.freeze _ _), (hb3.freeze _ _), (hb4.freeze _ _), (hb5.freeze _ _), (hb6.freeze _ _)⟩)
    | 14, hR, ih =>
      obtain ⟨gm, rfl, hp, hmb⟩ := hR
      show wpAnyH _ _ _ _ _ (8 + 1) #[true, true, true, true, true, true, false, true, true, true, true, false, true, true, true, true, false, true, true, true, true, false, true, true, true, true, false, true, true, true, false, false, false, false] _ _
      refine wpAnyH_ready (rs := [6]) (by kernel_rfl) (by simp) ?_
      refine AllReadyH.cons (o := { dst := some 11, op := Op.call { callee := Callee.value (Operand.func 39), args := #[Operand.const (Value.int IntKind.i64 8), Operand.tmp 10], argTypes := #[3, 54] }, type := 34, pos := _, after := #[{ on := 5, ground := Ground.data }], guard := none }) rfl (fun K hK => ?_) AllReadyH.nil
      · go_simp
        refine (num8_yes ep W m0).mono ?_
        rintro r w2 ⟨v2, rfl, ho2, hbn⟩
        rw [numN_length] at ho2
        obtain ⟨ao2, cap2, rfl, -, -⟩ := owns_form ho2
        have hbs2 := Bs.of_owns (l := numN 8 ep) ho2 (numN_lt _ _)
        have hp2 := hp.mono hbn
        refine hK.out _ _ hp2.held (fun _ => ?_)
        exact wpAnyH_list (L' := sumLst 15) (by kernel_rfl) (ih 15 _ _ (by decide) ⟨gm, _, _, rfl, hp2, (hmb.mono hbn), hbs2⟩)
    | 15, hR, ih =>
      obtain ⟨gm, a1, c1, rfl, hp, hmb, hb1⟩ := hR
      show wpAnyH _ _ _ _ _ (7 + 1) #[true, true, true, true, true, true, true, true, true, true, true, false, true, true, true, true, false, true, true, true, true, false, true, true, true, true, false, true, true, true, false, false, false, false] _ _
      refine wpAnyH_ready (rs := [11]) (by kernel_rfl) (by simp) ?_
      refine AllReadyH.cons (o := { dst := some 16, op := Op.call { callee := Callee.value (Operand.func 39), args := #[Operand.const (Value.int IntKind.i64 4), Operand.tmp 15], argTypes := #[3, 54] }, type := 34, pos := _, after := #[{ on := 10, ground := Ground.data }, { on := 6, ground := Ground.chain }], guard := none }) rfl (fun K hK => ?_) AllReadyH.nil
      · go_simp
        refine (num4_yes b W m1).mono ?_
        rintro r w2 ⟨v2, rfl, ho2, hbn⟩
        rw [numN_length] at ho2
        obtain ⟨ao2, cap2, rfl, -, -⟩ := owns_form ho2
        have hbs2 := Bs.of_owns (l := numN 4 b) ho2 (numN_lt _ _)
        have hp2 := hp.mono hbn
        refine hK.out _ _ hp2.held (fun _ => ?_)
        exact wpAnyH_list (L' := sumLst 16) (by kernel_rfl) (ih 16 _ _ (by decide) ⟨gm, _, _, _, _, rfl, hp2, (hmb.mono hbn), (hb1.mono hbn), hbs2⟩)
    | 16, hR, ih =>
      obtain ⟨gm, a1, a2, c1, c2, rfl, hp, hmb, hb1, hb2⟩ := hR
      show wpAnyH _ _ _ _ _ (6 + 1) #[true, true, true, true, true, true, true, true, true, true, true, true, true, true, true, true, false, true, true, true, true, false, true, true, true, true, false, true, true, true, false, false, false, false] _ _
      refine wpAnyH_ready (rs := [16]) (by kernel_rfl) (by simp) ?_
      refine AllReadyH.cons (o := { dst := some 21, op := Op.call { callee := Callee.value (Operand.func 39), args := #[Operand.const (Value.int IntKind.i64 4), Operand.tmp 20], argTypes := #[3, 54] }, type := 34, pos := _, after := #[{ on := 15, ground := Ground.data }, { on := 11, ground := Ground.chain }], guard := none }) rfl (fun K hK => ?_) AllReadyH.nil
      · go_simp
        refine (num4_yes l W m2).mono ?_
        rintro r w2 ⟨v2, rfl, ho2, hbn⟩
        rw [numN_length] at ho2
        obtain ⟨ao2, cap2, rfl, -, -⟩ := owns_form ho2
        have hbs2 := Bs.of_owns (l := numN 4 l) ho2 (numN_lt _ _)
        have hp2 := hp.mono hbn
        refine hK.out _ _ hp2.held (fun _ => ?_)
        exact wpAnyH_list (L' := sumLst 17) (by kernel_rfl) (ih 17 _ _ (by decide) ⟨gm, _, _, _, _, _, _, rfl, hp2, (hmb.mono hbn), (hb1.mono hbn), (hb2.mono hbn), hbs2⟩)
    | 17, hR, ih =>
      obtain ⟨gm, a1, a2, a3, c1, c2, c3, rfl, hp, hmb, hb1, hb2, hb3⟩ := hR
      show wpAnyH _ _ _ _ _ (5 + 1) #[true, true, true, true, true, true, true, true, true, true, true, true, true, true, true, true, true, true, true, true, true, false, true, true, true, true, false, true, true, true, false, false, false, false] _ _
      refine wpAnyH_ready (rs := [21]) (by kernel_rfl) (by simp) ?_
      refine AllReadyH.cons (o := { dst := some 26, op := Op.call { callee := Callee.value (Operand.func 39), args := #[Operand.const (Value.int IntKind.i64 4), Operand.tmp 25], argTypes := #[3, 54] }, type := 34, pos := _, after := #[{ on := 20, ground := Ground.data }, { on := 16, ground := Ground.chain }], guard := none }) rfl (fun K hK => ?_) AllReadyH.nil
      · go_simp
        refine (num4_yes d W m3).mono ?_
        rintro r w2 ⟨v2, rfl, ho2, hbn⟩
        rw [numN_length] at ho2
        obtain ⟨ao2, cap2, rfl, -, -⟩ := owns_form ho2
        have hbs2 := Bs.of_owns (l := numN 4 d) ho2 (numN_lt _ _)
        have hp2 := hp.mono hbn
        refine hK.out _ _ hp2.held (fun _ => ?_)
        exact wpAnyH_list (L' := sumLst 18) (by kernel_rfl) (ih 18 _ _ (by decide) ⟨gm, _, _, _, _, _, _, _, _, rfl, hp2, (hmb.mono hbn), (hb1.mono hbn), (hb2.mono hbn), (hb3.mono hbn), hbs2⟩)
    | 18, hR, ih =>
      obtain ⟨gm, a1, a2, a3, a4, c1, c2, c3, c4, rfl, hp, hmb, hb1, hb2, hb3, hb4⟩ := hR
      show wpAnyH _ _ _ _ _ (4 + 1) #[true, true, true, true, true, true, true, true, true, true, true, true, true, true, true, true, true, true, true, true, true, true, true, true, true, true, false, true, true, true, false, false, false, false] _ _
      refine wpAnyH_ready (rs := [26]) (by kernel_rfl) (by simp) ?_
      refine AllReadyH.cons (o := { dst := some 31, op := Op.call { callee := Callee.value (Operand.func 39), args := #[Operand.const (Value.int IntKind.i64 4), Operand.tmp 30], argTypes := #[3, 54] }, type := 34, pos := _, after := #[{ on := 25, ground := Ground.data }, { on := 21, ground := Ground.chain }], guard := none }) rfl (fun K hK => ?_) AllReadyH.nil
      · go_simp
        refine (num4_yes x W m4).mono ?_
        rintro r w2 ⟨v2, rfl, ho2, hbn⟩
        rw [numN_length] at ho2
        obtain ⟨ao2, cap2, rfl, -, -⟩ := owns_form ho2
        have hbs2 := Bs.of_owns (l := numN 4 x) ho2 (numN_lt _ _)
        have hp2 := hp.mono hbn
        refine hK.out _ _ hp2.held (fun _ => ?_)
        exact wpAnyH_list (L' := sumLst 19) (by kernel_rfl) (ih 19 _ _ (by decide) ⟨gm, _, _, _, _, _, _, _, _, _, _, rfl, hp2, (hmb.mono hbn), (hb1.mono hbn), (hb2.mono hbn), (hb3.mono hbn), (hb4.mono hbn), hbs2⟩)
    | 19, hR, ih =>
      obtain ⟨gm, a1, a2, a3, a4, a5, c1, c2, c3, c4, c5, rfl, hp, hmb, hb1, hb2, hb3, hb4, hb5⟩ := hR
      show wpAnyH _ _ _ _ _ (3 + 1) #[true, true, true, true, true, true, true, true, true, true, true, true, true, true, true, true, true, true, true, true, true, true, true, true, true, true, true, true, true, true, false, false, false, false] _ _
      refine wpAnyH_ready (rs := [30]) (by kernel_rfl) (by simp) ?_
      refine AllReadyH.cons (o := { dst := some 35, op := Op.call { callee := Callee.value (Operand.func 39), args := #[Operand.const (Value.int IntKind.i64 8), Operand.tmp 34], argTypes := #[3, 54] }, type := 34, pos := _, after := #[{ on := 29, ground := Ground.data }, { on := 26, ground := Ground.chain }], guard := none }) rfl (fun K hK => ?_) AllReadyH.nil
      · go_simp
        refine (num8_yes h W m5).mono ?_
        rintro r w2 ⟨v2, rfl, ho2, hbn⟩
        rw [numN_length] at ho2
        obtain ⟨ao2, cap2, rfl, -, -⟩ := owns_form ho2
        have hbs2 := Bs.of_owns (l := numN 8 h) ho2 (numN_lt _ _)
        have hp2 := hp.mono hbn
        refine hK.out _ _ hp2.held (fun _ => ?_)
        exact wpAnyH_list (L' := sumLst 20) (by kernel_rfl) (ih 20 _ _ (by decide) ⟨gm, _, _, _, _, _, _, _, _, _, _, _, _, rfl, hp2, (hmb.mono hbn), (hb1.mono hbn), (hb2.mono hbn), (hb3.mono hbn), (hb4.mono hbn), (hb5.mono hbn), hbs2⟩)
    | 20, hR, ih =>
      obtain ⟨gm, a1, a2, a3, a4, a5, a6, c1, c2, c3, c4, c5, c6, rfl, hp, hmb, hb1, hb2, hb3, hb4, hb5, hb6⟩ := hR
      show wpAnyH _ _ _ _ _ (2 + 1) #[true, true, true, true, true, true, true, true, true, true, true, true, true, true, true, true, true, true, true, true, true, true, true, true, true, true, true, true, true, true, true, false, false, false] _ _
      refine wpAnyH_ready (rs := [31]) (by kernel_rfl) (by simp) ?_
      refine AllReadyH.cons (o := { dst := some 36, op := Op.buildSlice 71 7 #[(0, Operand.tmp 7), (1, Operand.tmp 11), (2, Operand.tmp 16), (3, Operand.tmp 21), (4, Operand.tmp 26), (5, Operand.tmp 31), (6, Operand.tmp 35)], type := 71, pos := _, after := #[{ on := 2, ground := Ground.data }, { on := 6, ground := Ground.data }, { on := 11, ground := Ground.data }, { on := 16, ground := Ground.data }, { on := 21, ground := Ground.data }, { on := 26, ground := Ground.data }, { on := 30, ground := Ground.data }], guard := none }) rfl (fun K hK => ?_) AllReadyH.nil
      go_simp
      refine hK.out _ _ (hp.alloc _).held (fun _ => ?_)
      clear hK K
      refine wpAnyH_ready (rs := [32]) (by kernel_rfl) (by simp) ?_
      refine AllReadyH.cons (o := { dst := some 37, op := Op.call { callee := Callee.value (Operand.func 38), args := #[Operand.tmp 36], argTypes := #[71] }, type := 34, pos := _, after := #[{ on := 31, ground := Ground.data }, { on := 30, ground := Ground.chain }], guard := none }) rfl (fun K hK => ?_) AllReadyH.nil
      go_simp
      refine (concat_any _ [magicL, numN 8 ep, numN 4 b, numN 4 l, numN 4 d, numN 4 x, numN 8 h] _ (Bss.seven _ hmb hb1 hb2 hb3 hb4 hb5 hb6) (by simp) (by rw [concat_len]; decide) (by rw [concat_len]; decide)).mono ?_
      rintro r w5 ⟨v5, rfl, ho5, hbn⟩
      obtain ⟨g5, cap5, rfl, hsrc⟩ := body_form ho5
      have hp5 : Pre w w5 ep b l d x h := (hp.alloc _).mono hbn
      refine hK.out _ _ hp5.held (fun _ => ?_)
      clear hK K ho5
      refine wpAnyH_ready (rs := [33]) (by kernel_rfl) (by simp) ?_
      refine AllReadyH.cons (o := { dst := some 38, op := Op.call { callee := Callee.builtin Builtin.copy, args := #[Operand.tmp 5, Operand.tmp 37], argTypes := #[34, 34] }, type := 3, pos := _, after := #[{ on := 0, ground := Ground.data }, { on := 32, ground := Ground.data }, { on := 32, ground := Ground.chain }], guard := none }) rfl (fun K hK => ?_) AllReadyH.nil
      refine step_copy_own rfl (.tmp 5) (.tmp 37) 34 34 rfl 5 Try.underlying34 hinf (w.heap.size + 1) 0 60 60 ⟨g5, 0, none⟩ 40 cap5 rfl rfl 60 60 _ (owns_base hp5.own (Nat.zero_le _)) (cellsB (bodyL ep b l d x h)) ?_ hsrc ?_ (cellsB_oneCell _) ?_
      · rw [cellsB_length, bodyL_length]; rfl
      · rw [cellsB_length, bodyL_length]; decide
      intro w6 o6 k6
      rw [cellsB_length, bodyL_length]
      rw [body_splice] at o6
      have hs6 := SupAt.keeps hp5.sup k6 (by intro e; omega)
      have o7 : w6.ownsRow w.heap.size 5 1 (.slice (some ⟨w.heap.size + 1, 0, none⟩) 60 60) (sumdL ep b l d x h).length (cellsB (sumdL ep b l d x h)) := by rw [sumdL_length]; exact owns_raise o6 (by omega)
      have b7 : Below w.heap.size w w6 := hp5.bel.trans (k6.below (fun j hj => by have e : j = w.heap.size + 1 := hj; omega) hp5.bel.size)
      have O7 := hide o7
      refine hK.out _ _ (sup_held hs6) (fun _ => ?_)
      clear hK K o6 o7
      refine wpAnyH_done (by kernel_rfl) ?_ _
      go_wp2_with fail
      go_ret
      exact ⟨_, rfl, O7.out, b7⟩
    | _ + 21, hR, ih => exact hR.elim

end Go.Proofs.Ytfjkmgfjlckmlaa
