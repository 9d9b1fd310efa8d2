/- Contracts: Bytes of a record. A record's cells behind stores. Contracts: Clone of a record, and the document's. -/
import Derived.Test.YtjhbljkoapbkfaaGreatM3
import Derived.Test.YtjhbljkoapbkfaaGreatM2
import Derived.Deep.RegionHeld3
set_option linter.unusedSimpArgs false
set_option linter.unusedVariables false

namespace Go.Proofs.YtjhbljkoapbkfaaGreat
open Go.RowKit Go.Attic

set_option maxRecDepth 100000 in
set_option maxHeartbeats 400000 in
theorem bytes_arg (p k b o m : Int) (v : Value) (l : List Nat) (w : World) (hv : Bs w v l) (h : placeB p = false) :
    Calls Tryz.prog 73 #[.int .i64 p, .agg #[.int .i64 k, .int .i64 b, .int .i64 o, v, .int .i64 m]] w (NewBsE w [] 1) := by
  obtain ⟨ao, cap, rfl, -⟩ := id hv
  go_enter Tryz.func73, Tryz.ntmps73
  go_wp2_with (go_at_call 86; refine (isPlace_any p _).mono ?_; rintro e w1 ⟨rfl, rfl⟩)
  go_ret2
  exact ⟨_, rfl, World.ownsRow_nil _ _ _ _, (Below.refl _ w).alloc (Nat.le_refl _) _⟩

set_option maxRecDepth 100000 in
set_option maxHeartbeats 400000 in
theorem bytes_rec (p k b o m : Int) (v : Value) (l : List Nat) (w : World) (hv : Bs w v l) (hlen : l.length ≤ 140737488355328) (h : placeB p = true) (h2 : chkR k b o m l.length ≠ 0) :
    Calls Tryz.prog 73 #[.int .i64 p, .agg #[.int .i64 k, .int .i64 b, .int .i64 o, v, .int .i64 m]] w (NewBsE w [] (chkR k b o m l.length)) := by
  obtain ⟨ao, cap, rfl, -⟩ := id hv
  have hc := fun w => check_any k b o m l.length cap ao w hlen
  generalize chkR k b o m l.length = q at *
  have hq : (q != 0) = true := by simp [h2]
  clear h2
  go_enter Tryz.func73, Tryz.ntmps73
  go_wp2_with (first | (go_at_call 86; refine (isPlace_any p _).mono ?_; rintro e w1 ⟨rfl, rfl⟩) | (go_at_call 47; refine (hc _).mono ?_; rintro e w1 ⟨rfl, hb1⟩))
  go_ret2
  exact ⟨_, rfl, World.ownsRow_nil _ _ _ _, ((Below.refl _ w).alloc (Nat.le_refl _) _).trans (hb1.mono (by simp))⟩

set_option maxRecDepth 100000 in
set_option maxHeartbeats 400000 in
theorem bytes_of (p k b o m : Int) (v : Value) (l : List Nat) (w : World) (hv : Bs w v l) (hlen : l.length ≤ 140737488355328) (h : placeB p = true) (h2 : chkR k b o m l.length = 0) (B : List Nat) (hB : B.length = 60) (hBx : ∀ y ∈ B, y < 256)
    (hsum : ∀ w, Bs w v l → Calls Tryz.prog 89 #[.int .i64 p, .agg #[.int .i64 k, .int .i64 b, .int .i64 o, v, .int .i64 m]] w (NewBs w B)) :
    Calls Tryz.prog 73 #[.int .i64 p, .agg #[.int .i64 k, .int .i64 b, .int .i64 o, v, .int .i64 m]] w (NewBsE w (sealN B) 0) := by
  obtain ⟨ao, cap, rfl, -⟩ := id hv
  have hc := fun w => check_any k b o m l.length cap ao w hlen
  rw [h2] at hc
  clear h2
  have hR0 := RecAt.new w k b o (.slice ao l.length cap) m
  have hv0 := hv.alloc (.cells #[.int .i64 k, .int .i64 b, .int .i64 o, .slice ao l.length cap, .int .i64 m] 52)
  have HB := hide hB
  clear hB
  go_enter Tryz.func73, Tryz.ntmps73
  go_wp2_with (first | (go_at_call 86; refine (isPlace_any p _).mono ?_; rintro e w1 ⟨rfl, rfl⟩) | (go_at_call 47; refine (hc _).mono ?_; rintro e w1 ⟨rfl, hb1⟩; have B1 : Below w.heap.size w w1 := ((Below.refl _ w).alloc (Nat.le_refl _) _).trans (hb1.mono (by simp)); obtain ⟨c0, c1, c2, c3, c4, -, -, -, -, -, -⟩ := hR0.mono hb1; have hv1 := hv0.mono hb1; clear hb1 hR0 hv0))
  clear c0 c1 c2 c3 c4
  refine (hsum _ hv1).mono ?_
  rintro e w3 ⟨v3, rfl, ho3, hb3⟩
  have hbs3 := Bs.of_owns ho3 hBx
  obtain ⟨ao3, cap3, rfl, -, -⟩ := owns_form ho3
  have B3 := B1.trans (hb3.mono B1.size)
  clear ho3 hb3 B1
  go_wp2_with fail
  refine (seal_any _ B _ hbs3 (by rw [HB.out]; omega)).mono ?_
  rintro e w4 ⟨v4, rfl, ho4, hb4⟩
  have B4 := B3.trans (hb4.mono B3.size)
  have O := hide (owns_base ho4 B3.size)
  clear ho4 hb4 hbs3
  go_wp2_with fail
  go_ret2
  exact ⟨_, rfl, O.out, B4⟩

theorem bytes_yes (p k b o m : Nat) (v : Value) (l : List Nat) (w : World) (hv : Bs w v l) (hp : p ≤ 2305843009213693952) (h : okR k b o m l.length) :
    Calls Tryz.prog 73 #[.int .i64 (p : Nat), .agg #[.int .i64 (k : Nat), .int .i64 (b : Nat), .int .i64 (o : Nat), v, .int .i64 (m : Nat)]] w (NewBsE w (secR p k b o m l) 0) := by
  have r := okR_range h
  have hx := hv.lt
  refine bytes_of p k b o m v l w hv (by omega) (by simp [placeB]; omega) (chkR_ok h) (bodyR p k (numR k b m) o l) (bodyR_length _ _ _ _ _ (by omega)) (bodyR_lt _ _ _ _ _ (by omega) (by omega) (by omega) hx) (fun w hv => ?_)
  rcases h with h | h
  · obtain ⟨h1, h2, h3, h4, h5, h6, h7, h8⟩ := h
    obtain rfl : k = 1 := by omega
    obtain rfl : m = 0 := by omega
    exact summed_P p b o l v w hv hp (by omega) (by omega) h4 h5
  · obtain ⟨h1, h2, h3, h4, h5, h6⟩ := h
    obtain rfl : k = 2 := by omega
    obtain rfl : b = 0 := by omega
    obtain rfl : o = 0 := by omega
    obtain rfl : l = [] := List.eq_nil_of_length_eq_zero h6
    exact summed_C p m v w hv hp (by omega)


end Go.Proofs.YtjhbljkoapbkfaaGreat

namespace Go.Proofs.YtjhbljkoapbkfaaGreat
open Go.RowKit Go.Attic

theorem cell_set_o {w : World} {g o o' : Nat} {u v : Value} (h : w.cell? ⟨g, o', none⟩ = some v) (hne : o ≠ o') : (w.setCell ⟨g, o, none⟩ u).cell? ⟨g, o', none⟩ = some v := by
  rw [World.cell?_setCell_other _ _ _ _ (by intro e; injection e with e1 e2; omega)]
  exact h
theorem cell_set_s {w : World} {g o : Nat} {u v : Value} (h : w.cell? ⟨g, o, none⟩ = some v) : (w.setCell ⟨g, o, none⟩ u).cell? ⟨g, o, none⟩ = some u := by
  exact World.cell?_setCell_same _ _ _ h
theorem cell_set_b {w : World} {g g' o o' : Nat} {u v : Value} (h : w.cell? ⟨g, o', none⟩ = some v) (hne : g' ≠ g) : (w.setCell ⟨g', o, none⟩ u).cell? ⟨g, o', none⟩ = some v := by
  rw [World.cell?_setCell_other _ _ _ _ (by intro e; injection e with e1 e2; omega)]
  exact h
theorem RecAt.setOther {w : World} {g g' p : Nat} {u : Value} {k b o : Int} {v : Value} {m : Int} (h : RecAt w g k b o v m) (hne : g' ≠ g) : RecAt (w.setCell ⟨g', p, none⟩ u) g k b o v m :=
  ⟨cell_set_b h.c0 hne, cell_set_b h.c1 hne, cell_set_b h.c2 hne, cell_set_b h.c3 hne, cell_set_b h.c4 hne, by simpa using h.f0, by simpa using h.f1, by simpa using h.f2, by simpa using h.f3, by simpa using h.f4, by simpa using h.lt⟩
theorem RecAt.set0 {w : World} {g : Nat} {k b o : Int} {v : Value} {m : Int} (h : RecAt w g k b o v m) (y : Int) : RecAt (w.setCell ⟨g, 0, none⟩ (.int .i64 y)) g y b o v m :=
  ⟨cell_set_s h.c0, cell_set_o h.c1 (by omega), cell_set_o h.c2 (by omega), cell_set_o h.c3 (by omega), cell_set_o h.c4 (by omega), by simpa using h.f0, by simpa using h.f1, by simpa using h.f2, by simpa using h.f3, by simpa using h.f4, by simpa using h.lt⟩
theorem RecAt.set1 {w : World} {g : Nat} {k b o : Int} {v : Value} {m : Int} (h : RecAt w g k b o v m) (y : Int) : RecAt (w.setCell ⟨g, 1, none⟩ (.int .i64 y)) g k y o v m :=
  ⟨cell_set_o h.c0 (by omega), cell_set_s h.c1, cell_set_o h.c2 (by omega), cell_set_o h.c3 (by omega), cell_set_o h.c4 (by omega), by simpa using h.f0, by simpa using h.f1, by simpa using h.f2, by simpa using h.f3, by simpa using h.f4, by simpa using h.lt⟩
theorem RecAt.set2 {w : World} {g : Nat} {k b o : Int} {v : Value} {m : Int} (h : RecAt w g k b o v m) (y : Int) : RecAt (w.setCell ⟨g, 2, none⟩ (.int .i64 y)) g k b y v m :=
  ⟨cell_set_o h.c0 (by omega), cell_set_o h.c1 (by omega), cell_set_s h.c2, cell_set_o h.c3 (by omega), cell_set_o h.c4 (by omega), by simpa using h.f0, by simpa using h.f1, by simpa using h.f2, by simpa using h.f3, by simpa using h.f4, by simpa using h.lt⟩
theorem RecAt.set3 {w : World} {g : Nat} {k b o : Int} {v : Value} {m : Int} (h : RecAt w g k b o v m) (y : Value) : RecAt (w.setCell ⟨g, 3, none⟩ y) g k b o y m :=
  ⟨cell_set_o h.c0 (by omega), cell_set_o h.c1 (by omega), cell_set_o h.c2 (by omega), cell_set_s h.c3, cell_set_o h.c4 (by omega), by simpa using h.f0, by simpa using h.f1, by simpa using h.f2, by simpa using h.f3, by simpa using h.f4, by simpa using h.lt⟩
theorem RecAt.set4 {w : World} {g : Nat} {k b o : Int} {v : Value} {m : Int} (h : RecAt w g k b o v m) (y : Int) : RecAt (w.setCell ⟨g, 4, none⟩ (.int .i64 y)) g k b o v y :=
  ⟨cell_set_o h.c0 (by omega), cell_set_o h.c1 (by omega), cell_set_o h.c2 (by omega), cell_set_o h.c3 (by omega), cell_set_s h.c4, by simpa using h.f0, by simpa using h.f1, by simpa using h.f2, by simpa using h.f3, by simpa using h.f4, by simpa using h.lt⟩
theorem RecAt.setAll {w : World} {g : Nat} {k b o : Int} {v : Value} {m : Int} (h : RecAt w g k b o v m) (k' b' o' : Int) (v' : Value) (m' : Int) : RecAt ((((((w).setCell ⟨g, 0, none⟩ (.int .i64 k')).setCell ⟨g, 1, none⟩ (.int .i64 b')).setCell ⟨g, 2, none⟩ (.int .i64 o')).setCell ⟨g, 3, none⟩ v').setCell ⟨g, 4, none⟩ (.int .i64 m')) g k' b' o' v' m' :=
  ((((h.set0 k').set1 b').set2 o').set3 v').set4 m'
theorem RecAt.setOthers {w : World} {g g' : Nat} {k b o : Int} {v : Value} {m : Int} (h : RecAt w g k b o v m) (hne : g' ≠ g) (k' b' o' : Int) (v' : Value) (m' : Int) : RecAt ((((((w).setCell ⟨g', 0, none⟩ (.int .i64 k')).setCell ⟨g', 1, none⟩ (.int .i64 b')).setCell ⟨g', 2, none⟩ (.int .i64 o')).setCell ⟨g', 3, none⟩ v').setCell ⟨g', 4, none⟩ (.int .i64 m')) g k b o v m :=
  ((((h.setOther hne).setOther hne).setOther hne).setOther hne).setOther hne
theorem RecAt.drew {w : World} {g : Nat} {k b o : Int} {v : Value} {m : Int} (h : RecAt w g k b o v m) : RecAt w.drew g k b o v m := h.mono (Below.refl _ _).drew
theorem RecAt.held {w : World} {g : Nat} {k b o : Int} {v : Value} {m : Int} (h : RecAt w g k b o v m) : w.cell? ⟨g, 0, none⟩ = some (.int .i64 k) ∧ w.cell? ⟨g, 1, none⟩ = some (.int .i64 b) ∧ w.cell? ⟨g, 2, none⟩ = some (.int .i64 o) ∧ w.cell? ⟨g, 3, none⟩ = some v ∧ w.cell? ⟨g, 4, none⟩ = some (.int .i64 m) := ⟨h.c0, h.c1, h.c2, h.c3, h.c4⟩
theorem RecAt.new1 (w : World) (x : Obj) (k b o : Int) (v : Value) (m : Int) : RecAt ((w.alloc x).alloc (.cells #[.int .i64 k, .int .i64 b, .int .i64 o, v, .int .i64 m] 52)) (w.heap.size + 1) k b o v m := by
  have := RecAt.new (w.alloc x) k b o v m
  rw [World.size_alloc] at this
  exact this
theorem keeps_all (w : World) (g : Nat) (k b o : Int) (v : Value) (m : Int) : Keeps (fun j => j = g) w (((((w.setCell ⟨g, 0, none⟩ (.int .i64 k)).setCell ⟨g, 1, none⟩ (.int .i64 b)).setCell ⟨g, 2, none⟩ (.int .i64 o)).setCell ⟨g, 3, none⟩ v).setCell ⟨g, 4, none⟩ (.int .i64 m)) :=
  (((((Keeps.refl (fun j => j = g) w).set rfl _).set rfl _).set rfl _).set rfl _).set rfl _
theorem RecAt.there {w : World} {g : Nat} {k b o : Int} {v : Value} {m : Int} (h : RecAt w g k b o v m) : w.there g 0 5 := by
  intro j hj
  rw [Nat.zero_add]
  match j, hj with
  | 0, _ => exact ⟨by rw [h.c0]; rfl, h.f0⟩
  | 1, _ => exact ⟨by rw [h.c1]; rfl, h.f1⟩
  | 2, _ => exact ⟨by rw [h.c2]; rfl, h.f2⟩
  | 3, _ => exact ⟨by rw [h.c3]; rfl, h.f3⟩
  | 4, _ => exact ⟨by rw [h.c4]; rfl, h.f4⟩
theorem Tryz.size52 : (Tryz.prog.info? 52).map (·.size) = some 5 := by kernel_rfl
/-- A record is stored into its block: one step of a region that draws. -/
theorem step_store_rec {ops : Array Oper} {op : Oper} {a : Act} {w : World} {K : Act → World → Prop} {Q : Exit → Act → World → Prop} {E : Prop} (hgd : op.guard = none) (x y : Operand) (ho : op.op = .store 52 x y) (g : Nat) (k b o : Int) (ao : Option Addr) (n cap : Nat) (m : Int) (hx : a.eval x = .pointer (some ⟨g, 0, none⟩)) (hy : a.eval y = .agg #[.int .i64 k, .int .i64 b, .int .i64 o, .slice ao n cap, .int .i64 m])
    {k0 b0 o0 : Int} {v0 : Value} {m0 : Int} (hR : RecAt w g k0 b0 o0 v0 m0) (h : K (a.put op.dst undef) (((((w.setCell ⟨g, 0, none⟩ (.int .i64 k)).setCell ⟨g, 1, none⟩ (.int .i64 b)).setCell ⟨g, 2, none⟩ (.int .i64 o)).setCell ⟨g, 3, none⟩ (.slice ao n cap)).setCell ⟨g, 4, none⟩ (.int .i64 m))) :
    if Region.wanted op (yielded ops a.tmps) = true then Oper.wp Tryz.prog op a w K Q else E := by
  have hw : Region.wanted op (yielded ops a.tmps) = true := by simp [Region.wanted, hgd]
  rw [if_pos hw]
  exact wp_store_mid 52 x y ho g 0 #[.int .i64 k, .int .i64 b, .int .i64 o, .slice ao n cap, .int .i64 m] hx hy hR.there Tryz.size52 (by simp [Value.oneCell']) h


end Go.Proofs.YtjhbljkoapbkfaaGreat

namespace Go.Proofs.YtjhbljkoapbkfaaGreat
open Go.RowKit Go.Attic

/-- A new record: its bytes are the call's own. -/
def NewRec (w : World) (k b o : Int) (l : List Nat) (m : Int) (e : Ending) (w' : World) : Prop :=
  ∃ v, e = .returned (.agg #[.int .i64 k, .int .i64 b, .int .i64 o, v, .int .i64 m]) ∧ w'.ownsRow w.heap.size 5 1 v l.length (cellsB l) ∧ Below w.heap.size w w'

theorem clone_any' (v : Value) (l : List Nat) (w : World) (h : Bs w v l) (hlen : l.length ≤ 140737488355328) : Calls Tryz.prog 75 #[v] w (NewBs w l) := clone_any v l w h hlen

set_option maxRecDepth 100000 in
set_option maxHeartbeats 400000 in
theorem clone_rec (k b o m : Int) (v : Value) (l : List Nat) (w : World) (hv : Bs w v l) (hlen : l.length ≤ 140737488355328) :
    Calls Tryz.prog 49 #[.agg #[.int .i64 k, .int .i64 b, .int .i64 o, v, .int .i64 m]] w (NewRec w k b o l m) := by
  obtain ⟨i0, hi, hz0, hz1, hz2⟩ := info_parts Tryz.info5
  obtain ⟨ao, cap, rfl, -⟩ := id hv
  have hv2 := (hv.alloc (.cells #[.int .i64 k, .int .i64 b, .int .i64 o, .slice ao l.length cap, .int .i64 m] 52)).alloc (.cells #[.int .i64 0, .int .i64 0, .int .i64 0, .slice none 0 0, .int .i64 0] 52)
  have hA := (RecAt.new w k b o (.slice ao l.length cap) m).alloc (.cells #[.int .i64 0, .int .i64 0, .int .i64 0, .slice none 0 0, .int .i64 0] 52)
  have hR := RecAt.new (w.alloc (.cells #[.int .i64 k, .int .i64 b, .int .i64 o, .slice ao l.length cap, .int .i64 m] 52)) 0 0 0 (.slice none 0 0) 0
  rw [World.size_alloc] at hR
  clear hv
  go_enter Tryz.func49, Tryz.ntmps49
  go_wp2_with fail
  refine (clone_any' _ l _ hv2 hlen).mono ?_
  rintro e w1 ⟨v1, rfl, ho1, hb1⟩
  obtain ⟨ao1, cap1, rfl, -, -⟩ := owns_form ho1
  obtain ⟨c0, c1, c2, c3, c4, f0, f1, f2, f3, f4, lp⟩ := hA.mono hb1
  obtain ⟨d0, d1, d2, d3, d4, e0, e1, e2, e3, e4, lq⟩ := hR.mono hb1
  have ho2 : w1.ownsRow (w.heap.size + 2) 5 1 (.slice ao1 l.length cap1) l.length (cellsB l) := by simpa using ho1
  have hB1 : Below w.heap.size w w1 := (((Below.refl _ w).alloc (Nat.le_refl _) _).alloc (by simp) _).trans (hb1.mono (by simp; omega))
  have O := hide ho2
  clear ho1 ho2 hb1 hA hR hv2
  go_wp2_with fail
  refine bodyPost_ret (v := .agg #[.int .i64 k, .int .i64 b, .int .i64 o, .slice ao1 l.length cap1, .int .i64 m]) (by simp [results, Tryz.results49, go_sem, d0, d1, d2, d3, d4]) rfl ⟨_, rfl, ?_, ?_⟩
  · refine owns_base (Keeps.owns (S := fun k => k < w.heap.size + 2) ((((((Keeps.refl _ _).set (by simp) _).set (by simp) _).set (by simp) _).set (by simp) _).set (by simp) _ |>.set (by simp) _) O.out (fun b hb hk => ?_)) (by omega)
    have := owns_lt O.out b hb
    have hk' : b < w.heap.size + 2 := hk
    omega
  · exact (((((hB1.setCell (by simp) _).setCell (by simp) _).setCell (by simp) _).setCell (by simp) _).setCell (by simp) _).setCell (by simp) _


end Go.Proofs.YtjhbljkoapbkfaaGreat
