/- Contracts: SameAll, patch. -/
import Derived.Test.YtjhbljkoapbkfaaL9b
import Derived.Test.YtjhbljkoapbkfaaLr
import Derived.Test.YtjhbljkoapbkfaaR3
set_option linter.unusedSimpArgs false
set_option linter.unusedVariables false
namespace Go.Proofs.Ytjhbljkoapbkfaa
open Go.RowKit Go.Attic Go.Shelf

theorem RcAt.held {w : World} {b off : Nat} {r : Rc} {v : Value} (h : RcAt w b off r v) : w.cell? ⟨b, off, none⟩ = some (.int .i64 r.k) ∧ w.cell? ⟨b, off + 1, none⟩ = some (.int .i64 r.b) ∧ w.cell? ⟨b, off + 2, none⟩ = some (.int .i64 r.o) ∧ w.cell? ⟨b, off + 3, none⟩ = some v ∧ w.cell? ⟨b, off + 4, none⟩ = some (.int .i64 r.m) := ⟨h.c0, h.c1, h.c2, h.c3, h.c4⟩
theorem RcAt.mono {w w' : World} {b off : Nat} {r : Rc} {v : Value} (h : RcAt w b off r v) (hb : Below w.heap.size w w') : RcAt w' b off r v := h.keeps (S := fun _ => False) (Keeps.of_below hb) id

set_option maxRecDepth 100000 in
set_option maxHeartbeats 1000000 in
theorem sameAll_yes (w : World) (F1 F2 : Nat → Prop) (v1 v2 : Value) (rs : List Rc) (h1 : Rs w F1 v1 rs) (h2 : Rs w F2 v2 rs) (hlen : rs.length ≤ 140737488355328) :
    Calls Try.prog 14 #[v1, v2] w fun e w' => e = .returned (.bool true) ∧ Below w.heap.size w w' := by
  obtain ⟨a1, c1, e1, hc1⟩ := h1.slice
  obtain ⟨a2, c2, e2, hc2⟩ := h2.slice
  obtain ⟨L, hL⟩ : ∃ L, rs.length = L := ⟨_, rfl⟩
  rw [hL] at e1 e2 hlen hc1 hc2
  subst e1 e2
  have HL := hide hL
  have H1 := hide h1
  have H2 := hide h2
  clear h1 h2 hL
  go_enter Try.func14, Try.ntmps14
  go_wp2_with fail
  go_loopw [5] (fun i wr => ∃ k : Nat, k ≤ L ∧ i = .int .i64 (k : Int) ∧ Below w.heap.size w wr) (fun i _ => L - (intOf i).toNat)
  case atStart => exact ⟨0, Nat.zero_le _, rfl, Below.refl _ _⟩
  case round =>
    obtain ⟨k, hk, rfl, hbr⟩ := hrel
    by_cases hkL : k < L
    · have hkl : k < rs.length := by have := HL.out; omega
      obtain ⟨-, b1, o1, u1, rfl, -, hat1, hub1, -⟩ := (H1.out.mono hbr).at k hkl
      obtain ⟨-, b2, o2, u2, rfl, -, hat2, hub2, -⟩ := (H2.out.mono hbr).at k hkl
      generalize rs[k] = x at *
      have hsm : sameB x.k x.b x.o x.m x.l x.k x.b x.o x.m x.l = true := by simp [sameB]
      obtain ⟨ua1, uc1, rfl, -⟩ := id hub1
      obtain ⟨ua2, uc2, rfl, -⟩ := id hub2
      have x0 := hat1.c0
      have x1 := hat1.c1
      have x2 := hat1.c2
      have x3 := hat1.c3
      have x4 := hat1.c4
      have y0 := hat2.c0
      have y1 := hat2.c1
      have y2 := hat2.c2
      have y3 := hat2.c3
      have y4 := hat2.c4
      have hcall := rsame_any x.k x.b x.o x.m x.k x.b x.o x.m (.slice ua1 x.l.length uc1) (.slice ua2 x.l.length uc2) x.l x.l wr.drew hub1.drew hub2.drew
      rw [hsm] at hcall
      have Ht1 := hide hat1
      have Ht2 := hide hat2
      clear hat1 hat2 hsm
      go_wp2_with fail
      go_region_held3 (fun w' => (w'.cell? ⟨b1, o1 + k * 5, none⟩ = some (.int .i64 x.k) ∧ w'.cell? ⟨b1, o1 + k * 5 + 1, none⟩ = some (.int .i64 x.b) ∧ w'.cell? ⟨b1, o1 + k * 5 + 2, none⟩ = some (.int .i64 x.o) ∧ w'.cell? ⟨b1, o1 + k * 5 + 3, none⟩ = some (.slice ua1 x.l.length uc1) ∧ w'.cell? ⟨b1, o1 + k * 5 + 4, none⟩ = some (.int .i64 x.m)) ∧ (w'.cell? ⟨b2, o2 + k * 5, none⟩ = some (.int .i64 x.k) ∧ w'.cell? ⟨b2, o2 + k * 5 + 1, none⟩ = some (.int .i64 x.b) ∧ w'.cell? ⟨b2, o2 + k * 5 + 2, none⟩ = some (.int .i64 x.o) ∧ w'.cell? ⟨b2, o2 + k * 5 + 3, none⟩ = some (.slice ua2 x.l.length uc2) ∧ w'.cell? ⟨b2, o2 + k * 5 + 4, none⟩ = some (.int .i64 x.m)))
        (first | exact ⟨Ht1.out.held, Ht2.out.held⟩ | exact ⟨(Ht1.out.mono hb4').held, (Ht2.out.mono hb4').held⟩)
        (first | (go_at_call 24; refine hcall.mono ?_; rintro e w4 ⟨rfl, hb4⟩; have hb4' : Below wr.heap.size wr w4 := ⟨hb4.os, hb4.tape, hb4.output, hb4.size, hb4.block⟩))
      rename_i hHeld
      clear hHeld hcall
      go_wp2_with fail
      go_roundw
      case rel => exact ⟨k + 1, by omega, by go_num, hbr.trans (hb4'.mono hbr.size)⟩
      case measure => simp [intOf]; omega
    · obtain rfl : k = L := by omega
      go_wp2_with fail
      go_ret
      exact ⟨by simp, hbr⟩

/-- The statement's record of a number. -/
def patchR (n : Nat) : Rc := ⟨1, n, 3, 0, [n, 7]⟩

theorem bs_two (w : World) (o : Obj) (a : Nat) (ha : a < 256) : Bs ((w.alloc o).alloc (.cells #[.int .u8 (a : Int), .int .u8 7] 5)) (.slice (some ⟨w.heap.size + 1, 0, none⟩) 2 2) [a, 7] := by
  have hb : ((w.alloc o).alloc (.cells #[.int .u8 (a : Int), .int .u8 7] 5)).heap[w.heap.size + 1]? = some (.cells #[.int .u8 (a : Int), .int .u8 7] 5 (0, 0)) := by
    have := World.alloc_heap_new (w.alloc o) (.cells #[.int .u8 (a : Int), .int .u8 7] 5)
    simpa using this
  refine ⟨some ⟨w.heap.size + 1, 0, none⟩, 2, rfl, by simp, by simp, by simp; omega, fun _ => ⟨w.heap.size + 1, 0, rfl, fun i hi => ?_⟩⟩
  unfold World.cell?
  rw [hb]
  match i, hi with
  | 0, _ => rfl
  | 1, _ => rfl

set_option maxRecDepth 100000 in
set_option maxHeartbeats 400000 in
theorem patch_1 (w : World) : Calls Try.prog 23 #[.int .i64 1] w fun e w' => ∃ ub, e = .returned (.agg #[.int .i64 1, .int .i64 1, .int .i64 3, .slice (some ⟨ub, 0, none⟩) 2 2, .int .i64 0]) ∧ Bs w' (.slice (some ⟨ub, 0, none⟩) 2 2) [1, 7] ∧ w.heap.size ≤ ub ∧ ub < w'.heap.size ∧ Below w.heap.size w w' := by
  go_enter Try.func23, Try.ntmps23
  go_wp2
  refine bodyPost_ret (v := .agg #[.int .i64 1, .int .i64 1, .int .i64 3, .slice (some ⟨w.heap.size + 1, 0, none⟩) 2 2, .int .i64 0]) (by simp [results, Try.results23, go_sem]) rfl ⟨_, rfl, ?_, by omega, by simp, ((Below.refl _ _).alloc (Nat.le_refl _) _).alloc (by simp) _⟩
  exact bs_two w _ 1 (by omega)
set_option maxRecDepth 100000 in
set_option maxHeartbeats 400000 in
theorem patch_2 (w : World) : Calls Try.prog 23 #[.int .i64 2] w fun e w' => ∃ ub, e = .returned (.agg #[.int .i64 1, .int .i64 2, .int .i64 3, .slice (some ⟨ub, 0, none⟩) 2 2, .int .i64 0]) ∧ Bs w' (.slice (some ⟨ub, 0, none⟩) 2 2) [2, 7] ∧ w.heap.size ≤ ub ∧ ub < w'.heap.size ∧ Below w.heap.size w w' := by
  go_enter Try.func23, Try.ntmps23
  go_wp2
  refine bodyPost_ret (v := .agg #[.int .i64 1, .int .i64 2, .int .i64 3, .slice (some ⟨w.heap.size + 1, 0, none⟩) 2 2, .int .i64 0]) (by simp [results, Try.results23, go_sem]) rfl ⟨_, rfl, ?_, by omega, by simp, ((Below.refl _ _).alloc (Nat.le_refl _) _).alloc (by simp) _⟩
  exact bs_two w _ 2 (by omega)

/-- A disk of noughts holds no record; one on which a log was laid from its head on, and whose other sectors are old, holds that log. -/
theorem scanned_new {n base blocks head : Nat} {rs : List Rc} (hfit : base + blocks ≤ n) (hb : 1 ≤ blocks) (h : Scanned (secAt (newS n) base blocks) head (4 * blocks) rs) : rs = [] := by
  refine h.one ⟨fun i hi => by simp at hi, by simp, .inr ?_⟩
  have hlt : (head + 0) / 4 % blocks < blocks := Nat.mod_lt _ (by omega)
  show NoRc (secAt (newS n) base blocks (head + 0)) (head + 0)
  unfold secAt
  have e : readL (newS n) (base + (head + 0) / 4 % blocks) = blockL (newS n).med (base + (head + 0) / 4 % blocks) := by simp [readL, newS, ofS, lastW]
  rw [e, blockL_new n _ (by omega)]
  exact zeros_no _

end Go.Proofs.Ytjhbljkoapbkfaa
