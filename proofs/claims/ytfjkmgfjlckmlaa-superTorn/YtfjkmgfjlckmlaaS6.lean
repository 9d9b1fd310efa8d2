/- Contracts: fields (what stands in bytes where a super's fields stand). -/
import Derived.Test.YtfjkmgfjlckmlaaW3
import Derived.Test.YtfjkmgfjlckmlaaSP
import Derived.Test.YtfjkmgfjlckmlaaS5
set_option linter.unusedSimpArgs false
set_option linter.unusedVariables false
namespace Go.Proofs.Ytfjkmgfjlckmlaa
open Go.RowKit Go.Attic

/-- A reader's answers, one behind the other. -/
def rd0 (L : List Nat) : List Nat × Int := ((bytesS L 0 8).2.1, (bytesS L 0 8).2.2)
def rdn (s : List Nat × Int) (n : Int) : List Nat × Int := ((numS s.1 s.2 n).2.1, (numS s.1 s.2 n).2.2)
def rdv (s : List Nat × Int) (n : Int) : Nat := (numS s.1 s.2 n).1
def st1 (L : List Nat) := rdn (rd0 L) 8
def st2 (L : List Nat) := rdn (st1 L) 4
def st3 (L : List Nat) := rdn (st2 L) 4
def st4 (L : List Nat) := rdn (st3 L) 4
def st5 (L : List Nat) := rdn (st4 L) 4
def fEp (L : List Nat) : Int := wrap64 (rdv (rd0 L) 8 : Nat)
def fB (L : List Nat) : Int := wrap64 (rdv (st1 L) 4 : Nat)
def fL (L : List Nat) : Int := wrap64 (rdv (st2 L) 4 : Nat)
def fD (L : List Nat) : Int := wrap64 (rdv (st3 L) 4 : Nat)
def fX (L : List Nat) : Int := wrap64 (rdv (st4 L) 4 : Nat)
def fH (L : List Nat) : Int := wrap64 (rdv (st5 L) 8 : Nat)

theorem numS_len (L : List Nat) (x n : Int) : (numS L x n).2.1.length ≤ L.length := by
  unfold numS
  repeat' split
  all_goals simp
theorem bytesS_len (L : List Nat) (x n : Int) : (bytesS L x n).2.1.length ≤ L.length := by
  unfold bytesS
  repeat' split
  all_goals simp

/-- The reader in block g, the super that is filled in block s, the result's cells in block w.heap.size. -/
structure Fl (w W : World) (g : Nat) (dd : Option Nat) (s : Nat) (L : List Nat) (x : Int) (a0 a1 a2 a3 a4 a5 : Int) : Prop where
  rd : Rd W g dd L x
  sup : SupAt W s a0 a1 a2 a3 a4 a5
  res : SupAt W w.heap.size 0 0 0 0 0 0
  bel : Below w.heap.size w W
  gs : g ≠ s
  ds : dd ≠ some s
  g0 : w.heap.size < g
  s0 : w.heap.size < s
  len : L.length ≤ 140737488355328

theorem Fl.set0 {w W : World} {g s : Nat} {dd : Option Nat} {L : List Nat} {x : Int} {a0 a1 a2 a3 a4 a5 : Int} (F : Fl w W g dd s L x a0 a1 a2 a3 a4 a5) (y : Int) : Fl w (W.setCell ⟨s, 0, none⟩ (.int .i64 y)) g dd s L x y a1 a2 a3 a4 a5 :=
  ⟨F.rd.kept (grown_setCell W s 0 _) F.gs F.ds, ⟨cell_set_same F.sup.c0, cell_set_other F.sup.c1 (by omega), cell_set_other F.sup.c2 (by omega), cell_set_other F.sup.c3 (by omega), cell_set_other F.sup.c4 (by omega), cell_set_other F.sup.c5 (by omega), by simpa using F.sup.f0, by simpa using F.sup.f1, by simpa using F.sup.f2, by simpa using F.sup.f3, by simpa using F.sup.f4, by simpa using F.sup.f5, by simpa using F.sup.lt⟩, F.res.grown (grown_setCell W s 0 _) (by have := F.s0; intro e; injection e; omega), F.bel.setCell (Nat.le_of_lt F.s0) _, F.gs, F.ds, F.g0, F.s0, F.len⟩
theorem Fl.set1 {w W : World} {g s : Nat} {dd : Option Nat} {L : List Nat} {x : Int} {a0 a1 a2 a3 a4 a5 : Int} (F : Fl w W g dd s L x a0 a1 a2 a3 a4 a5) (y : Int) : Fl w (W.setCell ⟨s, 1, none⟩ (.int .i64 y)) g dd s L x a0 y a2 a3 a4 a5 :=
  ⟨F.rd.kept (grown_setCell W s 1 _) F.gs F.ds, ⟨cell_set_other F.sup.c0 (by omega), cell_set_same F.sup.c1, cell_set_other F.sup.c2 (by omega), cell_set_other F.sup.c3 (by omega), cell_set_other F.sup.c4 (by omega), cell_set_other F.sup.c5 (by omega), by simpa using F.sup.f0, by simpa using F.sup.f1, by simpa using F.sup.f2, by simpa using F.sup.f3, by simpa using F.sup.f4, by simpa using F.sup.f5, by simpa using F.sup.lt⟩, F.res.grown (grown_setCell W s 1 _) (by have := F.s0; intro e; injection e; omega), F.bel.setCell (Nat.le_of_lt F.s0) _, F.gs, F.ds, F.g0, F.s0, F.len⟩
theorem Fl.set2 {w W : World} {g s : Nat} {dd : Option Nat} {L : List Nat} {x : Int} {a0 a1 a2 a3 a4 a5 : Int} (F : Fl w W g dd s L x a0 a1 a2 a3 a4 a5) (y : Int) : Fl w (W.setCell ⟨s, 2, none⟩ (.int .i64 y)) g dd s L x a0 a1 y a3 a4 a5 :=
  ⟨F.rd.kept (grown_setCell W s 2 _) F.gs F.ds, ⟨cell_set_other F.sup.c0 (by omega), cell_set_other F.sup.c1 (by omega), cell_set_same F.sup.c2, cell_set_other F.sup.c3 (by omega), cell_set_other F.sup.c4 (by omega), cell_set_other F.sup.c5 (by omega), by simpa using F.sup.f0, by simpa using F.sup.f1, by simpa using F.sup.f2, by simpa using F.sup.f3, by simpa using F.sup.f4, by simpa using F.sup.f5, by simpa using F.sup.lt⟩, F.res.grown (grown_setCell W s 2 _) (by have := F.s0; intro e; injection e; omega), F.bel.setCell (Nat.le_of_lt F.s0) _, F.gs, F.ds, F.g0, F.s0, F.len⟩
theorem Fl.set3 {w W : World} {g s : Nat} {dd : Option Nat} {L : List Nat} {x : Int} {a0 a1 a2 a3 a4 a5 : Int} (F : Fl w W g dd s L x a0 a1 a2 a3 a4 a5) (y : Int) : Fl w (W.setCell ⟨s, 3, none⟩ (.int .i64 y)) g dd s L x a0 a1 a2 y a4 a5 :=
  ⟨F.rd.kept (grown_setCell W s 3 _) F.gs F.ds, ⟨cell_set_other F.sup.c0 (by omega), cell_set_other F.sup.c1 (by omega), cell_set_other F.sup.c2 (by omega), cell_set_same F.sup.c3, cell_set_other F.sup.c4 (by omega), cell_set_other F.sup.c5 (by omega), by simpa using F.sup.f0, by simpa using F.sup.f1, by simpa using F.sup.f2, by simpa using F.sup.f3, by simpa using F.sup.f4, by simpa using F.sup.f5, by simpa using F.sup.lt⟩, F.res.grown (grown_setCell W s 3 _) (by have := F.s0; intro e; injection e; omega), F.bel.setCell (Nat.le_of_lt F.s0) _, F.gs, F.ds, F.g0, F.s0, F.len⟩
theorem Fl.set4 {w W : World} {g s : Nat} {dd : Option Nat} {L : List Nat} {x : Int} {a0 a1 a2 a3 a4 a5 : Int} (F : Fl w W g dd s L x a0 a1 a2 a3 a4 a5) (y : Int) : Fl w (W.setCell ⟨s, 4, none⟩ (.int .i64 y)) g dd s L x a0 a1 a2 a3 y a5 :=
  ⟨F.rd.kept (grown_setCell W s 4 _) F.gs F.ds, ⟨cell_set_other F.sup.c0 (by omega), cell_set_other F.sup.c1 (by omega), cell_set_other F.sup.c2 (by omega), cell_set_other F.sup.c3 (by omega), cell_set_same F.sup.c4, cell_set_other F.sup.c5 (by omega), by simpa using F.sup.f0, by simpa using F.sup.f1, by simpa using F.sup.f2, by simpa using F.sup.f3, by simpa using F.sup.f4, by simpa using F.sup.f5, by simpa using F.sup.lt⟩, F.res.grown (grown_setCell W s 4 _) (by have := F.s0; intro e; injection e; omega), F.bel.setCell (Nat.le_of_lt F.s0) _, F.gs, F.ds, F.g0, F.s0, F.len⟩
theorem Fl.set5 {w W : World} {g s : Nat} {dd : Option Nat} {L : List Nat} {x : Int} {a0 a1 a2 a3 a4 a5 : Int} (F : Fl w W g dd s L x a0 a1 a2 a3 a4 a5) (y : Int) : Fl w (W.setCell ⟨s, 5, none⟩ (.int .i64 y)) g dd s L x a0 a1 a2 a3 a4 y :=
  ⟨F.rd.kept (grown_setCell W s 5 _) F.gs F.ds, ⟨cell_set_other F.sup.c0 (by omega), cell_set_other F.sup.c1 (by omega), cell_set_other F.sup.c2 (by omega), cell_set_other F.sup.c3 (by omega), cell_set_other F.sup.c4 (by omega), cell_set_same F.sup.c5, by simpa using F.sup.f0, by simpa using F.sup.f1, by simpa using F.sup.f2, by simpa using F.sup.f3, by simpa using F.sup.f4, by simpa using F.sup.f5, by simpa using F.sup.lt⟩, F.res.grown (grown_setCell W s 5 _) (by have := F.s0; intro e; injection e; omega), F.bel.setCell (Nat.le_of_lt F.s0) _, F.gs, F.ds, F.g0, F.s0, F.len⟩

theorem rdNum_st {w W : World} {g s : Nat} {dd : Option Nat} {st : List Nat × Int} {a0 a1 a2 a3 a4 a5 : Int} (F : Fl w W g dd s st.1 st.2 a0 a1 a2 a3 a4 a5) (n : Int) :
    Calls Try.prog 43 #[.pointer (some ⟨g, 0, none⟩), .int .i64 n] W fun e W' => e = .returned (.int .u64 (rdv st n : Nat)) ∧ Fl w W' g dd s (rdn st n).1 (rdn st n).2 a0 a1 a2 a3 a4 a5 := by
  refine (rdNum_any n F.rd F.len).mono ?_
  rintro e W' ⟨he, hR, hg⟩
  refine ⟨he, hR, F.sup.grown hg (by intro e; injection e with e; exact F.gs e), F.res.grown hg (by have := F.g0; intro e; injection e; omega), F.bel.grown hg F.bel.size (by have := F.g0; intro k hk; injection hk; omega), F.gs, F.ds, F.g0, F.s0, Nat.le_trans (numS_len _ _ _) F.len⟩

set_option maxRecDepth 100000 in
set_option maxHeartbeats 1000000 in
theorem fields_any (v : Value) (L : List Nat) (w : World) (hv : Bs w v L) (hlen : L.length ≤ 140737488355328) :
    Calls Try.prog 32 #[v] w fun e w' => e = .returned (.agg #[.int .i64 (fEp L), .int .i64 (fB L), .int .i64 (fL L), .int .i64 (fD L), .int .i64 (fX L), .int .i64 (fH L)]) ∧ Below w.heap.size w w' := by
  have hv0 := hv.alloc (.cells #[.int .i64 0, .int .i64 0, .int .i64 0, .int .i64 0, .int .i64 0, .int .i64 0] 25)
  have hres := SupAt.new w 0 0 0 0 0 0
  have hz : (w.alloc (.cells #[.int .i64 0, .int .i64 0, .int .i64 0, .int .i64 0, .int .i64 0, .int .i64 0] 25)).heap.size = w.heap.size + 1 := by simp
  have Hz := hide hz
  clear hz
  obtain ⟨ao, cap, rfl, -⟩ := id hv
  clear hv
  go_enter Try.func32, Try.ntmps32
  go_wp2_with fail
  refine (read_any _ L _ hv0 hlen).mono ?_
  rintro e w1 ⟨g, dd, rfl, hR1, hb1, hg1, hg2, hd⟩
  have hres1 := hres.mono hb1
  have hB1 : Below w.heap.size w w1 := ((Below.refl _ w).alloc (Nat.le_refl _) _).trans (hb1.mono (by simp))
  rw [Hz.out] at hg1 hd
  clear hv0 hres hb1
  go_wp2_with fail
  refine (rdBytes_any 8 hR1 hlen).mono ?_
  rintro e w2 ⟨vx, rfl, hox, hR2, hgr2⟩
  have F2 : Fl w (w2.alloc (.cells #[.int .i64 0, .int .i64 0, .int .i64 0, .int .i64 0, .int .i64 0, .int .i64 0] 25)) g dd w2.heap.size (rd0 L).1 (rd0 L).2 0 0 0 0 0 0 := by
    have hz2 := hgr2.size
    have hB2 : Below w.heap.size w w2 := hB1.grown hgr2 hB1.size (by intro k hk; injection hk; omega)
    refine ⟨hR2.mono ((Below.refl _ _).alloc (Nat.le_refl _) _), SupAt.new w2 0 0 0 0 0 0, (hres1.grown hgr2 (by intro e; injection e; omega)).alloc _, hB2.alloc hB2.size _, by omega, ?_, by omega, by omega, Nat.le_trans (bytesS_len _ _ _) hlen⟩
    intro e
    have := hd _ e
    omega
  clear hox hR2 hR1 hgr2 hd hres1 hB1 hg1 hg2
  go_wp2_with fail
  refine (rdNum_st (st := rd0 L) F2 8).mono ?_
  rintro e w3 ⟨rfl, G3⟩
  have c0 := G3.sup.c0
  have f0 := G3.sup.f0
  have F3 := G3.set0 (wrap64 (rdv (rd0 L) 8 : Nat))
  clear F2 G3
  go_wp2_with fail
  clear c0 f0
  refine (rdNum_st (st := st1 L) F3 4).mono ?_
  rintro e w4 ⟨rfl, G4⟩
  have c1 := G4.sup.c1
  have f1 := G4.sup.f1
  have F4 := G4.set1 (wrap64 (rdv (st1 L) 4 : Nat))
  clear F3 G4
  go_wp2_with fail
  clear c1 f1
  refine (rdNum_st (st := st2 L) F4 4).mono ?_
  rintro e w5 ⟨rfl, G5⟩
  have c2 := G5.sup.c2
  have f2 := G5.sup.f2
  have F5 := G5.set2 (wrap64 (rdv (st2 L) 4 : Nat))
  clear F4 G5
  go_wp2_with fail
  clear c2 f2
  refine (rdNum_st (st := st3 L) F5 4).mono ?_
  rintro e w6 ⟨rfl, G6⟩
  have c3 := G6.sup.c3
  have f3 := G6.sup.f3
  have F6 := G6.set3 (wrap64 (rdv (st3 L) 4 : Nat))
  clear F5 G6
  go_wp2_with fail
  clear c3 f3
  refine (rdNum_st (st := st4 L) F6 4).mono ?_
  rintro e w7 ⟨rfl, G7⟩
  have c4 := G7.sup.c4
  have f4 := G7.sup.f4
  have F7 := G7.set4 (wrap64 (rdv (st4 L) 4 : Nat))
  clear F6 G7
  go_wp2_with fail
  clear c4 f4
  refine (rdNum_st (st := st5 L) F7 8).mono ?_
  rintro e w8 ⟨rfl, G8⟩
  obtain ⟨g0, g1, g2, g3, g4, g5, e0, e1, e2, e3, e4, e5, lg⟩ := G8.sup
  obtain ⟨d0, d1, d2, d3, d4, d5, h0, h1, h2, h3, h4, h5, lh⟩ := G8.res
  have hne := G8.s0
  have F8 := G8.set5 (wrap64 (rdv (st5 L) 8 : Nat))
  have hBel := F8.bel
  clear F7 G8 F8
  go_wp2_with fail
  refine bodyPost_ret (v := .agg #[.int .i64 (fEp L), .int .i64 (fB L), .int .i64 (fL L), .int .i64 (fD L), .int .i64 (fX L), .int .i64 (fH L)]) (by simp [results, Try.results32, go_sem, d0, d1, d2, d3, d4, d5, fEp, fB, fL, fD, fX, fH]) rfl ⟨rfl, ?_⟩
  exact (((((hBel.setCell (by simp) _).setCell (by simp) _).setCell (by simp) _).setCell (by simp) _).setCell (by simp) _).setCell (by simp) _

end Go.Proofs.Ytfjkmgfjlckmlaa
