/- A record's cells behind stores. -/
import Derived.Test.YtgdlbfoihpdlhaaR1
import Derived.Deep.RegionHeld3
set_option linter.unusedSimpArgs false
set_option linter.unusedVariables false
namespace Go.Proofs.Ytgdlbfoihpdlhaa
open Go.RowKit Go.Attic

theorem cell_set_o {w : World} {g o o' : Nat} {u v : Value} (h : w.cell? ⟨g, o', none⟩ = some v) (hne : o ≠ o') : (w.setCell ⟨g, o, none⟩ u).cell? ⟨g, o', none⟩ = some v := by
  rw [World.cell?_setCell_other _ _ _ _ (by intro e; injection e with e1 e2; omega)]
  exact h
theorem cell_set_s {w : World} {g o : Nat} {u v : Value} (h : w.cell? ⟨g, o, none⟩ = some v) : (w.setCell ⟨g, o, none⟩ u).cell? ⟨g, o, none⟩ = some u := by
  exact World.cell?_setCell_same _ _ _ h
theorem cell_set_b {w : World} {g g' o o' : Nat} {u v : Value} (h : w.cell? ⟨g, o', none⟩ = some v) (hne : g' ≠ g) : (w.setCell ⟨g', o, none⟩ u).cell? ⟨g, o', none⟩ = some v := by
  rw [World.cell?_setCell_other _ _ _ _ (by intro e; injection e with e1 e2; omega)]
  exact h
theorem RecAt.setOther {w : World} {g g' p : Nat} {u : Value} {k b o : Int} {v : Value} {m : Int} (h : RecAt w g k b o v m) (hne : g' ≠ g) : RecAt (w.setCell ⟨g', p, none⟩ u) g k b o v m :=
  ⟨cell_set_b h.c0 hne, cell_set_b h.c1 hne, cell_set_b h.c2 hne, cell_set_b h.c3 hne, cell_set_b h.c4 hne, by simpa using h.f0, by simpa using h.f1, by simpa using h.f2, by simpa using h.f3, by simpa using h.f4, by simpa using h.lt⟩
theorem RecAt.set0 {w : World} {g : Nat} {k b o : Int} {v : Value} {m : Int} (h : RecAt w g k b o v m) (y : Int) : RecAt (w.setCell ⟨g, 0, none⟩ (.int .i64 y)) g y b o v m :=
  ⟨cell_set_s h.c0, cell_set_o h.c1 (by omega), cell_set_o h.c2 (by omega), cell_set_o h.c3 (by omega), cell_set_o h.c4 (by omega), by simpa using h.f0, by simpa using h.f1, by simpa using h.f2, by simpa using h.f3, by simpa using h.f4, by simpa using h.lt⟩
theorem RecAt.set1 {w : World} {g : Nat} {k b o : Int} {v : Value} {m : Int} (h : RecAt w g k b o v m) (y : Int) : RecAt (w.setCell ⟨g, 1, none⟩ (.int .i64 y)) g k y o v m :=
  ⟨cell_set_o h.c0 (by omega), cell_set_s h.c1, cell_set_o h.c2 (by omega), cell_set_o h.c3 (by omega), cell_set_o h.c4 (by omega), by simpa using h.f0, by simpa using h.f1, by simpa using h.f2, by simpa using h.f3, by simpa using h.f4, by simpa using h.lt⟩
theorem RecAt.set2 {w : World} {g : Nat} {k b o : Int} {v : Value} {m : Int} (h : RecAt w g k b o v m) (y : Int) : RecAt (w.setCell ⟨g, 2, none⟩ (.int .i64 y)) g k b y v m :=
  ⟨cell_set_o h.c0 (by omega), cell_set_o h.c1 (by omega), cell_set_s h.c2, cell_set_o h.c3 (by omega), cell_set_o h.c4 (by omega), by simpa using h.f0, by simpa using h.f1, by simpa using h.f2, by simpa using h.f3, by simpa using h.f4, by simpa using h.lt⟩
theorem RecAt.set3 {w : World} {g : Nat} {k b o : Int} {v : Value} {m : Int} (h : RecAt w g k b o v m) (y : Value) : RecAt (w.setCell ⟨g, 3, none⟩ y) g k b o y m :=
  ⟨cell_set_o h.c0 (by omega), cell_set_o h.c1 (by omega), cell_set_o h.c2 (by omega), cell_set_s h.c3, cell_set_o h.c4 (by omega), by simpa using h.f0, by simpa using h.f1, by simpa using h.f2, by simpa using h.f3, by simpa using h.f4, by simpa using h.lt⟩
theorem RecAt.set4 {w : World} {g : Nat} {k b o : Int} {v : Value} {m : Int} (h : RecAt w g k b o v m) (y : Int) : RecAt (w.setCell ⟨g, 4, none⟩ (.int .i64 y)) g k b o v y :=
  ⟨cell_set_o h.c0 (by omega), cell_set_o h.c1 (by omega), cell_set_o h.c2 (by omega), cell_set_o h.c3 (by omega), cell_set_s h.c4, by simpa using h.f0, by simpa using h.f1, by simpa using h.f2, by simpa using h.f3, by simpa using h.f4, by simpa using h.lt⟩
theorem RecAt.setAll {w : World} {g : Nat} {k b o : Int} {v : Value} {m : Int} (h : RecAt w g k b o v m) (k' b' o' : Int) (v' : Value) (m' : Int) : RecAt ((((((w).setCell ⟨g, 0, none⟩ (.int .i64 k')).setCell ⟨g, 1, none⟩ (.int .i64 b')).setCell ⟨g, 2, none⟩ (.int .i64 o')).setCell ⟨g, 3, none⟩ v').setCell ⟨g, 4, none⟩ (.int .i64 m')) g k' b' o' v' m' :=
  ((((h.set0 k').set1 b').set2 o').set3 v').set4 m'
theorem RecAt.setOthers {w : World} {g g' : Nat} {k b o : Int} {v : Value} {m : Int} (h : RecAt w g k b o v m) (hne : g' ≠ g) (k' b' o' : Int) (v' : Value) (m' : Int) : RecAt ((((((w).setCell ⟨g', 0, none⟩ (.int .i64 k')).setCell ⟨g', 1, none⟩ (.int .i64 b')).setCell ⟨g', 2, none⟩ (.int .i64 o')).setCell ⟨g', 3, none⟩ v').setCell ⟨g', 4, none⟩ (.int .i64 m')) g k b o v m :=
  ((((h.setOther hne).setOther hne).setOther hne).setOther hne).setOther hne
theorem RecAt.drew {w : World} {g : Nat} {k b o : Int} {v : Value} {m : Int} (h : RecAt w g k b o v m) : RecAt w.drew g k b o v m := h.mono (Below.refl _ _).drew
theorem RecAt.held {w : World} {g : Nat} {k b o : Int} {v : Value} {m : Int} (h : RecAt w g k b o v m) : w.cell? ⟨g, 0, none⟩ = some (.int .i64 k) ∧ w.cell? ⟨g, 1, none⟩ = some (.int .i64 b) ∧ w.cell? ⟨g, 2, none⟩ = some (.int .i64 o) ∧ w.cell? ⟨g, 3, none⟩ = some v ∧ w.cell? ⟨g, 4, none⟩ = some (.int .i64 m) := ⟨h.c0, h.c1, h.c2, h.c3, h.c4⟩
theorem RecAt.new1 (w : World) (x : Obj) (k b o : Int) (v : Value) (m : Int) : RecAt ((w.alloc x).alloc (.cells #[.int .i64 k, .int .i64 b, .int .i64 o, v, .int .i64 m] 48)) (w.heap.size + 1) k b o v m := by
  have := RecAt.new (w.alloc x) k b o v m
  rw [World.size_alloc] at this
  exact this
theorem keeps_all (w : World) (g : Nat) (k b o : Int) (v : Value) (m : Int) : Keeps (fun j => j = g) w (((((w.setCell ⟨g, 0, none⟩ (.int .i64 k)).setCell ⟨g, 1, none⟩ (.int .i64 b)).setCell ⟨g, 2, none⟩ (.int .i64 o)).setCell ⟨g, 3, none⟩ v).setCell ⟨g, 4, none⟩ (.int .i64 m)) :=
  (((((Keeps.refl (fun j => j = g) w).set rfl _).set rfl _).set rfl _).set rfl _).set rfl _
theorem RecAt.there {w : World} {g : Nat} {k b o : Int} {v : Value} {m : Int} (h : RecAt w g k b o v m) : w.there g 0 5 := by
  intro j hj
  rw [Nat.zero_add]
  match j, hj with
  | 0, _ => exact ⟨by rw [h.c0]; rfl, h.f0⟩
  | 1, _ => exact ⟨by rw [h.c1]; rfl, h.f1⟩
  | 2, _ => exact ⟨by rw [h.c2]; rfl, h.f2⟩
  | 3, _ => exact ⟨by rw [h.c3]; rfl, h.f3⟩
  | 4, _ => exact ⟨by rw [h.c4]; rfl, h.f4⟩
theorem Try.size48 : (Try.prog.info? 48).map (·.size) = some 5 := by kernel_rfl
/-- A record is stored into its block: one step of a region that draws. -/
theorem step_store_rec {ops : Array Oper} {op : Oper} {a : Act} {w : World} {K : Act → World → Prop} {Q : Exit → Act → World → Prop} {E : Prop} (hgd : op.guard = none) (x y : Operand) (ho : op.op = .store 48 x y) (g : Nat) (k b o : Int) (ao : Option Addr) (n cap : Nat) (m : Int) (hx : a.eval x = .pointer (some ⟨g, 0, none⟩)) (hy : a.eval y = .agg #[.int .i64 k, .int .i64 b, .int .i64 o, .slice ao n cap, .int .i64 m])
    {k0 b0 o0 : Int} {v0 : Value} {m0 : Int} (hR : RecAt w g k0 b0 o0 v0 m0) (h : K (a.put op.dst undef) (((((w.setCell ⟨g, 0, none⟩ (.int .i64 k)).setCell ⟨g, 1, none⟩ (.int .i64 b)).setCell ⟨g, 2, none⟩ (.int .i64 o)).setCell ⟨g, 3, none⟩ (.slice ao n cap)).setCell ⟨g, 4, none⟩ (.int .i64 m))) :
    if Region.wanted op (yielded ops a.tmps) = true then Oper.wp Try.prog op a w K Q else E := by
  have hw : Region.wanted op (yielded ops a.tmps) = true := by simp [Region.wanted, hgd]
  rw [if_pos hw]
  exact wp_store_mid 48 x y ho g 0 #[.int .i64 k, .int .i64 b, .int .i64 o, .slice ao n cap, .int .i64 m] hx hy hR.there Try.size48 (by simp [Value.oneCell']) h



end Go.Proofs.Ytgdlbfoihpdlhaa
