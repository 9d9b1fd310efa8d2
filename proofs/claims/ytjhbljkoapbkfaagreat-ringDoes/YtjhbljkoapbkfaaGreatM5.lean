/- Contracts: Take and Lsn, whatever parse answers. Contracts: fields, what stands where a record's fields stand. Contracts: parse of a sector, whatever fields and Bytes answer. -/
import Derived.Test.YtjhbljkoapbkfaaGreatM4
import Derived.Test.YtjhbljkoapbkfaaGreatM3
import Derived.Deep.RegionHeld3
import Derived.Deep.RegionHeldLaw
set_option linter.unusedSimpArgs false
set_option linter.unusedVariables false

namespace Go.Proofs.YtjhbljkoapbkfaaGreat
open Go.RowKit Go.Attic

/-- A record and an error; the record's bytes are the call's own. -/
def TakeE (w : World) (k b o : Int) (l : List Nat) (m er : Int) (e : Ending) (w' : World) : Prop :=
  ∃ v, e = .returned (.tuple #[.agg #[.int .i64 k, .int .i64 b, .int .i64 o, v, .int .i64 m], .int .i64 er]) ∧ w'.ownsRow w.heap.size 5 1 v l.length (cellsB l) ∧ Below w.heap.size w w'

set_option maxRecDepth 100000 in
set_option maxHeartbeats 400000 in
theorem take_arg (v : Value) (L : List Nat) (q : Int) (w : World) (hv : Bs w v L) (h : placeB q = false) :
    Calls Tryz.prog 67 #[v, .int .i64 q] w (TakeE w 0 0 0 [] 0 1) := by
  obtain ⟨c0, c1, c2, c3, c4, f0, f1, f2, f3, f4, lp⟩ := RecAt.new w 0 0 0 (.slice none 0 0) 0
  obtain ⟨ao, cap, rfl, -⟩ := hv
  go_enter Tryz.func67, Tryz.ntmps67
  go_wp2_with (go_at_call 86; refine (isPlace_any q _).mono ?_; rintro e w1 ⟨rfl, rfl⟩)
  refine bodyPost_ret (v := .tuple #[.agg #[.int .i64 0, .int .i64 0, .int .i64 0, .slice none 0 0, .int .i64 0], .int .i64 1]) (by simp [results, Tryz.results67, go_sem, c0, c1, c2, c3, c4]) rfl ⟨_, rfl, World.ownsRow_nil _ _ _ _, ?_⟩
  exact (Below.refl _ w).alloc (Nat.le_refl _) _

set_option maxRecDepth 100000 in
set_option maxHeartbeats 400000 in
theorem take_stale (v : Value) (L : List Nat) (q : Int) (w : World) (hv : Bs w v L) (h : placeB q = true) (p k b o m er : Int) (l : List Nat) (vr : Value) (hvr : ∀ w, Bs w v L → Bs w vr l)
    (hp : ∀ w, Bs w v L → Calls Tryz.prog 87 #[v] w fun e w' => e = .returned (.tuple #[.int .i64 p, .agg #[.int .i64 k, .int .i64 b, .int .i64 o, vr, .int .i64 m], .int .i64 er]) ∧ Below w.heap.size w w') (herr : (er != 0) = true) :
    Calls Tryz.prog 67 #[v, .int .i64 q] w (TakeE w 0 0 0 [] 0 61) := by
  have hr := RecAt.new w 0 0 0 (.slice none 0 0) 0
  have hv1 := hv.alloc (.cells #[.int .i64 0, .int .i64 0, .int .i64 0, .slice none 0 0, .int .i64 0] 52)
  have hbr := hvr _ hv1
  obtain ⟨rao, rcap, rfl, -, -, -, -⟩ := id hbr
  clear hvr
  obtain ⟨ao, cap, rfl, -, -, -, -⟩ := id hv
  go_enter Tryz.func67, Tryz.ntmps67
  go_wp2_with (go_at_call 86; refine (isPlace_any q _).mono ?_; rintro e w1 ⟨rfl, rfl⟩)
  refine (hp _ hv1).mono ?_
  rintro e w1 ⟨rfl, hb1⟩
  have hr1 := (hr.mono hb1).alloc (.cells #[.int .i64 k, .int .i64 b, .int .i64 o, .slice rao l.length rcap, .int .i64 m] 52)
  have hs1 := RecAt.new w1 k b o (.slice rao l.length rcap) m
  have hbr1 := (hbr.mono hb1).alloc (.cells #[.int .i64 k, .int .i64 b, .int .i64 o, .slice rao l.length rcap, .int .i64 m] 52)
  have hB1 : Below w.heap.size w w1 := ((Below.refl _ w).alloc (Nat.le_refl _) _).trans (hb1.mono (by simp))
  have hne : w.heap.size < w1.heap.size := by have := hb1.size; simp at this; omega
  have hB2 := hB1.alloc hB1.size (.cells #[.int .i64 k, .int .i64 b, .int .i64 o, .slice rao l.length rcap, .int .i64 m] 52)
  have hr0 := hr.mono hb1
  obtain ⟨c0, c1, c2, c3, c4, f0, f1, f2, f3, f4, lp⟩ := id hr0
  clear hb1 hr hv1 hp hv
  go_wp2_with fail
  obtain ⟨k0, k1, k2, k3, k4, -, -, -, -, -, -⟩ := (hr0.setAll 0 0 0 (.slice none 0 0) 0).alloc (.cells #[.int .i64 k, .int .i64 b, .int .i64 o, .slice rao l.length rcap, .int .i64 m] 52)
  refine bodyPost_ret (v := .tuple #[.agg #[.int .i64 0, .int .i64 0, .int .i64 0, .slice none 0 0, .int .i64 0], .int .i64 61]) (by simp [results, Tryz.results67, go_sem, k0, k1, k2, k3, k4]) rfl ⟨_, rfl, World.ownsRow_nil _ _ _ _, ?_⟩
  exact (((((hB1.setCell (Nat.le_refl _) _).setCell (Nat.le_refl _) _).setCell (Nat.le_refl _) _).setCell (Nat.le_refl _) _).setCell (Nat.le_refl _) _).alloc (by simpa using hB1.size) _

set_option maxRecDepth 100000 in
set_option maxHeartbeats 400000 in
theorem take_other (v : Value) (L : List Nat) (q : Int) (w : World) (hv : Bs w v L) (h : placeB q = true) (p k b o m er : Int) (l : List Nat) (vr : Value) (hvr : ∀ w, Bs w v L → Bs w vr l)
    (hp : ∀ w, Bs w v L → Calls Tryz.prog 87 #[v] w fun e w' => e = .returned (.tuple #[.int .i64 p, .agg #[.int .i64 k, .int .i64 b, .int .i64 o, vr, .int .i64 m], .int .i64 er]) ∧ Below w.heap.size w w') (herr : er = 0) (hq : (p != q) = true) :
    Calls Tryz.prog 67 #[v, .int .i64 q] w (TakeE w 0 0 0 [] 0 61) := by
  subst herr
  have hr := RecAt.new w 0 0 0 (.slice none 0 0) 0
  have hv1 := hv.alloc (.cells #[.int .i64 0, .int .i64 0, .int .i64 0, .slice none 0 0, .int .i64 0] 52)
  have hbr := hvr _ hv1
  obtain ⟨rao, rcap, rfl, -, -, -, -⟩ := id hbr
  clear hvr
  obtain ⟨ao, cap, rfl, -, -, -, -⟩ := id hv
  go_enter Tryz.func67, Tryz.ntmps67
  go_wp2_with (go_at_call 86; refine (isPlace_any q _).mono ?_; rintro e w1 ⟨rfl, rfl⟩)
  refine (hp _ hv1).mono ?_
  rintro e w1 ⟨rfl, hb1⟩
  have hr1 := (hr.mono hb1).alloc (.cells #[.int .i64 k, .int .i64 b, .int .i64 o, .slice rao l.length rcap, .int .i64 m] 52)
  have hs1 := RecAt.new w1 k b o (.slice rao l.length rcap) m
  have hbr1 := (hbr.mono hb1).alloc (.cells #[.int .i64 k, .int .i64 b, .int .i64 o, .slice rao l.length rcap, .int .i64 m] 52)
  have hB1 : Below w.heap.size w w1 := ((Below.refl _ w).alloc (Nat.le_refl _) _).trans (hb1.mono (by simp))
  have hne : w.heap.size < w1.heap.size := by have := hb1.size; simp at this; omega
  have hB2 := hB1.alloc hB1.size (.cells #[.int .i64 k, .int .i64 b, .int .i64 o, .slice rao l.length rcap, .int .i64 m] 52)
  have hr0 := hr.mono hb1
  obtain ⟨c0, c1, c2, c3, c4, f0, f1, f2, f3, f4, lp⟩ := id hr0
  clear hb1 hr hv1 hp hv
  go_wp2_with fail
  obtain ⟨k0, k1, k2, k3, k4, -, -, -, -, -, -⟩ := (hr0.setAll 0 0 0 (.slice none 0 0) 0).alloc (.cells #[.int .i64 k, .int .i64 b, .int .i64 o, .slice rao l.length rcap, .int .i64 m] 52)
  refine bodyPost_ret (v := .tuple #[.agg #[.int .i64 0, .int .i64 0, .int .i64 0, .slice none 0 0, .int .i64 0], .int .i64 61]) (by simp [results, Tryz.results67, go_sem, k0, k1, k2, k3, k4]) rfl ⟨_, rfl, World.ownsRow_nil _ _ _ _, ?_⟩
  exact (((((hB1.setCell (Nat.le_refl _) _).setCell (Nat.le_refl _) _).setCell (Nat.le_refl _) _).setCell (Nat.le_refl _) _).setCell (Nat.le_refl _) _).alloc (by simpa using hB1.size) _

set_option maxRecDepth 100000 in
set_option maxHeartbeats 400000 in
theorem take_yes (v : Value) (L : List Nat) (q : Int) (w : World) (hv : Bs w v L) (h : placeB q = true) (p k b o m er : Int) (l : List Nat) (vr : Value) (hvr : ∀ w, Bs w v L → Bs w vr l)
    (hp : ∀ w, Bs w v L → Calls Tryz.prog 87 #[v] w fun e w' => e = .returned (.tuple #[.int .i64 p, .agg #[.int .i64 k, .int .i64 b, .int .i64 o, vr, .int .i64 m], .int .i64 er]) ∧ Below w.heap.size w w') (hlen : l.length ≤ 140737488355328) (herr : er = 0) (hq : (p != q) = false) :
    Calls Tryz.prog 67 #[v, .int .i64 q] w (TakeE w k b o l m 0) := by
  subst herr
  have hr := RecAt.new w 0 0 0 (.slice none 0 0) 0
  have hv1 := hv.alloc (.cells #[.int .i64 0, .int .i64 0, .int .i64 0, .slice none 0 0, .int .i64 0] 52)
  have hbr := hvr _ hv1
  obtain ⟨rao, rcap, rfl, -, -, -, -⟩ := id hbr
  clear hvr
  obtain ⟨ao, cap, rfl, -, -, -, -⟩ := id hv
  go_enter Tryz.func67, Tryz.ntmps67
  go_wp2_with (go_at_call 86; refine (isPlace_any q _).mono ?_; rintro e w1 ⟨rfl, rfl⟩)
  refine (hp _ hv1).mono ?_
  rintro e w1 ⟨rfl, hb1⟩
  have hr1 := (hr.mono hb1).alloc (.cells #[.int .i64 k, .int .i64 b, .int .i64 o, .slice rao l.length rcap, .int .i64 m] 52)
  have hs1 := RecAt.new w1 k b o (.slice rao l.length rcap) m
  have hbr1 := (hbr.mono hb1).alloc (.cells #[.int .i64 k, .int .i64 b, .int .i64 o, .slice rao l.length rcap, .int .i64 m] 52)
  have hB1 : Below w.heap.size w w1 := ((Below.refl _ w).alloc (Nat.le_refl _) _).trans (hb1.mono (by simp))
  have hne : w.heap.size < w1.heap.size := by have := hb1.size; simp at this; omega
  have hB2 := hB1.alloc hB1.size (.cells #[.int .i64 k, .int .i64 b, .int .i64 o, .slice rao l.length rcap, .int .i64 m] 52)
  have hr0 := hr.mono hb1
  obtain ⟨c0, c1, c2, c3, c4, f0, f1, f2, f3, f4, lp⟩ := id hr0
  clear hb1 hr hv1 hp hv
  obtain ⟨d0, d1, d2, d3, d4, e0, e1, e2, e3, e4, lq⟩ := id hs1
  go_wp2_with fail
  clear c0 c1 c2 c3 c4 f0 f1 f2 f3 f4 lp d0 d1 d2 d3 d4 e0 e1 e2 e3 e4 lq
  refine (clone_rec k b o m _ l _ hbr1 hlen).mono ?_
  rintro e w2 ⟨vy, rfl, hoy, hby⟩
  obtain ⟨yo, yc, rfl, -, -⟩ := owns_form hoy
  have hR := hr1.mono hby
  have hBU := hB2.trans (hby.mono hB2.size)
  have hO : w2.ownsRow (w.heap.size + 1) 5 1 (.slice yo l.length yc) l.length (cellsB l) := owns_base hoy (by simp; omega)
  have hOU := (keeps_all w2 w.heap.size k b o (.slice yo l.length yc) m).owns hO (fun j hj e => by have := owns_lt hO j hj; have e' : j = w.heap.size := e; omega)
  have hcU := hR.setAll k b o (.slice yo l.length yc) m
  have hbU : Below w.heap.size w (((((w2.setCell ⟨w.heap.size, 0, none⟩ (.int .i64 k)).setCell ⟨w.heap.size, 1, none⟩ (.int .i64 b)).setCell ⟨w.heap.size, 2, none⟩ (.int .i64 o)).setCell ⟨w.heap.size, 3, none⟩ (.slice yo l.length yc)).setCell ⟨w.heap.size, 4, none⟩ (.int .i64 m)) := ((((hBU.setCell (Nat.le_refl _) _).setCell (Nat.le_refl _) _).setCell (Nat.le_refl _) _).setCell (Nat.le_refl _) _).setCell (Nat.le_refl _) _
  obtain ⟨c0, c1, c2, c3, c4, f0, f1, f2, f3, f4, lp⟩ := hR
  have O := hide hOU
  clear hoy hby hO hOU hB2 hBU hr1 hs1 hbr hbr1
  go_wp2_with fail
  clear c0 c1 c2 c3 c4 f0 f1 f2 f3 f4 lp
  generalize (((((w2.setCell ⟨w.heap.size, 0, none⟩ (.int .i64 k)).setCell ⟨w.heap.size, 1, none⟩ (.int .i64 b)).setCell ⟨w.heap.size, 2, none⟩ (.int .i64 o)).setCell ⟨w.heap.size, 3, none⟩ (.slice yo l.length yc)).setCell ⟨w.heap.size, 4, none⟩ (.int .i64 m)) = U at O hcU hbU ⊢
  obtain ⟨c0, c1, c2, c3, c4, -, -, -, -, -, -⟩ := hcU
  refine bodyPost_ret (v := .tuple #[.agg #[.int .i64 k, .int .i64 b, .int .i64 o, .slice yo l.length yc, .int .i64 m], .int .i64 0]) (by simp [results, Tryz.results67, go_sem, c0, c1, c2, c3, c4]) rfl ⟨_, rfl, owns_base O.out (Nat.le_succ _), hbU⟩


end Go.Proofs.YtjhbljkoapbkfaaGreat

namespace Go.Proofs.YtjhbljkoapbkfaaGreat
open Go.RowKit Go.Attic

theorem drew_cell (w : World) (a : Addr) : w.drew.cell? a = w.cell? a := rfl
theorem Bs.mid {w : World} {vb off cap : Nat} {L : List Nat} (hv : Bs w (.slice (some ⟨vb, off, none⟩) L.length cap) L) (n : Nat) (h : 16 + n ≤ L.length) : Bs w (.slice (some ⟨vb, off + 16, none⟩) n n) ((L.drop 16).take n) := by
  obtain ⟨ao, cap', e, _, _, hx, hc⟩ := hv
  injection e with e1 e2 e3
  have hl : ((L.drop 16).take n).length = n := by simp; omega
  refine ⟨some ⟨vb, off + 16, none⟩, n, by rw [hl], by omega, by simp, fun x hx' => hx x (List.mem_of_mem_drop (List.mem_of_mem_take hx')), fun hp => ⟨vb, off + 16, rfl, fun i hi => ?_⟩⟩
  rw [hl] at hi
  obtain ⟨b, o, hao, hcell⟩ := hc (by omega)
  rw [← e1] at hao
  injection hao with hao
  injection hao with h1 h2
  subst h1 h2
  rw [Nat.add_assoc, hcell (16 + i) (by omega)]
  simp [List.getD, hi]
/-- The record's bytes within a sector's. -/
def dataV : Value → Nat → Value
  | .slice (some ⟨b, o, s⟩) _ _, n => if n = 0 then .slice (some ⟨b, o, s⟩) 0 0 else .slice (some ⟨b, o + 16, s⟩) n n
  | v, _ => v
theorem dataV_bs {w : World} {v : Value} {L : List Nat} (hv : Bs w v L) (hl : L.length = 64) (n : Nat) (hn : n ≤ 44) : Bs w (dataV v n) ((L.drop 16).take n) := by
  obtain ⟨ao, cap, rfl, -, -, -, hc⟩ := id hv
  obtain ⟨vb, off, rfl, -⟩ := hc (by omega)
  by_cases h0 : n = 0
  · subst h0
    exact ⟨some ⟨vb, off, none⟩, 0, rfl, Nat.le_refl _, by simp, by simp, by simp⟩
  · rw [show dataV (.slice (some ⟨vb, off, none⟩) L.length cap) n = .slice (some ⟨vb, off + 16, none⟩) n n from if_neg h0]
    exact Bs.mid hv n (by omega)
theorem get8 (v : Value) (L : List Nat) (w : World) (h : Bs w v L) (hl : L.length = 64) : Calls Tryz.prog 101 #[v, .int .i64 2, .int .i64 8] w fun e w' => e = .returned (.tuple #[.int .u64 (getN L 2 8 : Nat), .bool true]) ∧ w = w' := get_yes v L 2 8 w h (by omega) (by omega) (by omega) (by omega)
theorem get4 (v : Value) (L : List Nat) (w : World) (h : Bs w v L) (hl : L.length = 64) : Calls Tryz.prog 101 #[v, .int .i64 10, .int .i64 4] w fun e w' => e = .returned (.tuple #[.int .u64 (getN L 10 4 : Nat), .bool true]) ∧ w = w' := get_yes v L 10 4 w h (by omega) (by omega) (by omega) (by omega)

set_option maxRecDepth 100000 in
set_option maxHeartbeats 400000 in
theorem fields_C (v : Value) (L : List Nat) (w : World) (hv : Bs w v L) (hl : L.length = 64) (h0 : L.getD 0 0 = 2) (pi : Int) (hpi : IntKind.i64.wrap ((getN L 2 8 : Nat) : Int) = pi) :
    Calls Tryz.prog 94 #[v] w fun e w' => e = .returned (.tuple #[.int .i64 pi, .agg #[.int .i64 2, .int .i64 0, .int .i64 (L.getD 14 0 : Nat), .slice none 0 0, .int .i64 (getN L 10 4 : Nat)]]) ∧ Below w.heap.size w w' := by
  have g8 := fun w h => get8 v L w h hl
  have g4 := fun w h => get4 v L w h hl
  have hlt := hv.lt
  have hq : getN L 10 4 < 4294967296 := getN_lt hlt 10 4
  have h14 := getD_lt hlt 14
  obtain ⟨ao, cap, rfl, -, -, -, hc⟩ := id hv
  obtain ⟨vb, off, rfl, hcell⟩ := hc (by omega)
  have d0 := hcell 0 (by omega)
  rw [Nat.add_zero] at d0
  have d14 := hcell 14 (by omega)
  rw [h0] at d0
  have hvl : vb < w.heap.size := by have := World.block_lt_of_cell? w _ d0; simpa using this
  clear hc hcell hlt h0
  have hv1 := hv.alloc (.cells #[.int .i64 0, .int .i64 0, .int .i64 0, .slice none 0 0, .int .i64 0] 52)
  have hR := RecAt.new w 0 0 0 (.slice none 0 0) 0
  have hcap := hv.cap
  rw [hl] at hv hv1 g8 g4 hcap ⊢
  generalize ((getN L 2 8 : Nat) : Int) = P at *
  generalize getN L 10 4 = Q at *
  generalize L.getD 14 0 = o at *
  have hS1 : (w.alloc (.cells #[.int .i64 0, .int .i64 0, .int .i64 0, .slice none 0 0, .int .i64 0] 52)).drew.cell? ⟨vb, off, none⟩ = some (.int .u8 2) ∧ (w.alloc (.cells #[.int .i64 0, .int .i64 0, .int .i64 0, .slice none 0 0, .int .i64 0] 52)).drew.cell? ⟨vb, off + 14, none⟩ = some (.int .u8 (o : Nat)) := by
    have hB := ((Below.refl w.heap.size w).alloc (Nat.le_refl _) (.cells #[.int .i64 0, .int .i64 0, .int .i64 0, .slice none 0 0, .int .i64 0] 52)).drew
    rw [hB.cell (p := ⟨vb, off, none⟩) hvl, hB.cell (p := ⟨vb, off + 14, none⟩) hvl]; exact ⟨d0, d14⟩
  have hS2 : ∀ x, ((w.alloc (.cells #[.int .i64 0, .int .i64 0, .int .i64 0, .slice none 0 0, .int .i64 0] 52)).alloc x).drew.cell? ⟨vb, off, none⟩ = some (.int .u8 2) ∧ ((w.alloc (.cells #[.int .i64 0, .int .i64 0, .int .i64 0, .slice none 0 0, .int .i64 0] 52)).alloc x).drew.cell? ⟨vb, off + 14, none⟩ = some (.int .u8 (o : Nat)) := by
    intro x
    have hB := (((Below.refl w.heap.size w).alloc (Nat.le_refl _) (.cells #[.int .i64 0, .int .i64 0, .int .i64 0, .slice none 0 0, .int .i64 0] 52)).alloc (by simp) x).drew
    rw [hB.cell (p := ⟨vb, off, none⟩) hvl, hB.cell (p := ⟨vb, off + 14, none⟩) hvl]; exact ⟨d0, d14⟩
  go_enter Tryz.func94, Tryz.ntmps94
  go_wp2_with fail
  refine (g8 _ hv1).mono ?_
  rintro e w1 ⟨rfl, rfl⟩
  go_wp2_with fail
  refine (g4 _ hv1).mono ?_
  rintro e w1 ⟨rfl, rfl⟩
  go_wp2_with fail
  go_region_held3 (fun w' => w'.cell? ⟨vb, off, none⟩ = some (.int .u8 2) ∧ w'.cell? ⟨vb, off + 14, none⟩ = some (.int .u8 (o : Nat)))
    (first | exact hS1 | exact hS2 _) (first | fail)
  simp only [show IntKind.i64.wrap (2 : Int) = 2 by decide, show IntKind.i64.wrap (o : Int) = (o : Int) by rw [IntKind.wrap_i64]; omega]
  have hA : RecAt ((w.alloc (.cells #[.int .i64 0, .int .i64 0, .int .i64 0, .slice none 0 0, .int .i64 0] 52)).alloc (.cells #[.int .i64 2, .int .i64 0, .int .i64 (o : Nat), .slice none 0 0, .int .i64 0] 52)).drew w.heap.size 0 0 0 (.slice none 0 0) 0 := (hR.alloc _).mono (Below.refl _ _).drew
  have hN : RecAt ((w.alloc (.cells #[.int .i64 0, .int .i64 0, .int .i64 0, .slice none 0 0, .int .i64 0] 52)).alloc (.cells #[.int .i64 2, .int .i64 0, .int .i64 (o : Nat), .slice none 0 0, .int .i64 0] 52)).drew (w.heap.size + 1) 2 0 (o : Nat) (.slice none 0 0) 0 := by
    have := (RecAt.new (w.alloc (.cells #[.int .i64 0, .int .i64 0, .int .i64 0, .slice none 0 0, .int .i64 0] 52)) 2 0 (o : Nat) (.slice none 0 0) 0).mono (Below.refl _ _).drew
    rw [World.size_alloc] at this
    exact this
  have hB : Below w.heap.size w ((w.alloc (.cells #[.int .i64 0, .int .i64 0, .int .i64 0, .slice none 0 0, .int .i64 0] 52)).alloc (.cells #[.int .i64 2, .int .i64 0, .int .i64 (o : Nat), .slice none 0 0, .int .i64 0] 52)).drew := (((Below.refl w.heap.size w).alloc (Nat.le_refl _) (.cells #[.int .i64 0, .int .i64 0, .int .i64 0, .slice none 0 0, .int .i64 0] 52)).alloc (by simp) _).drew
  clear hS1 hS2 hR hv1
  generalize ((w.alloc (.cells #[.int .i64 0, .int .i64 0, .int .i64 0, .slice none 0 0, .int .i64 0] 52)).alloc (.cells #[.int .i64 2, .int .i64 0, .int .i64 (o : Nat), .slice none 0 0, .int .i64 0] 52)).drew = W at *
  have hne : w.heap.size ≠ w.heap.size + 1 := by omega
  have hN4 := hN.set4 (Q : Nat)
  have hA4 : RecAt (W.setCell ⟨w.heap.size + 1, 4, none⟩ (.int .i64 (Q : Nat))) w.heap.size 0 0 0 (.slice none 0 0) 0 := hA.setOther (Ne.symm hne)
  have hB4 : Below w.heap.size w (W.setCell ⟨w.heap.size + 1, 4, none⟩ (.int .i64 (Q : Nat))) := hB.setCell (by simp) _
  obtain ⟨n0, n1, n2, n3, n4, e0, e1, e2, e3, e4, lq⟩ := hN
  clear hA hB
  go_wp2_with fail
  clear n0 n1 n2 n3 n4 e0 e1 e2 e3 e4 lq
  generalize (W.setCell ⟨w.heap.size + 1, 4, none⟩ (.int .i64 (Q : Nat))) = V at *
  refine wp_region_noPanic ?_
  refine wp_region_held_drew (S := (fun w' => w'.cell? ⟨w.heap.size + 1, 0, none⟩ = some (.int .i64 2) ∧ w'.cell? ⟨w.heap.size + 1, 1, none⟩ = some (.int .i64 0) ∧ w'.cell? ⟨w.heap.size + 1, 2, none⟩ = some (.int .i64 (o : Nat)) ∧ w'.cell? ⟨w.heap.size + 1, 3, none⟩ = some (.slice none 0 0) ∧ w'.cell? ⟨w.heap.size + 1, 4, none⟩ = some (.int .i64 (Q : Nat)))) (by kernel_rfl) hN4.drew.held (fun hHeld => ?_)
  refine wpAnyH_take (i := 0) (oi := { dst := some 35, op := Op.move (Operand.tmp 4), type := 118, pos := _, after := #[], guard := none }) (v := .int .u64 P) rfl (by kernel_rfl) (by kernel_rfl) (by kernel_rfl) (fun _ _ _ h => h) (Or.inl ⟨by rfl, fun w' hw => by go_simp⟩) hHeld ?_
  simp only [Act.put, List.setIfInBounds_toArray, List.set_cons_zero, List.set_cons_succ]
  refine wpAnyH_take (i := 1) (oi := { dst := some 36, op := Op.convert 118 2 (Operand.tmp 35), type := 2, pos := _, after := #[{ on := 0, ground := Ground.data }], guard := none }) (v := .int .i64 pi) rfl (by kernel_rfl) (by kernel_rfl) (by kernel_rfl) (fun _ _ _ h => h) (Or.inl ⟨by rfl, fun w' hw => by go_simp⟩) hHeld ?_
  simp only [Act.put, List.setIfInBounds_toArray, List.set_cons_zero, List.set_cons_succ]
  refine wpAnyH_take (i := 2) (oi := { dst := some 37, op := Op.load 52 (Operand.tmp 8), type := 52, pos := _, after := #[{ on := 3, ground := Ground.gcOnly Departure.lateStores }], guard := none }) (v := .agg #[.int .i64 2, .int .i64 0, .int .i64 (o : Nat), .slice none 0 0, .int .i64 (Q : Nat)]) rfl (by kernel_rfl) (by kernel_rfl) (by kernel_rfl) (fun _ _ _ h => h) (Or.inl ⟨by rfl, fun w' hw => by obtain ⟨k0, k1, k2, k3, k4⟩ := hw; go_simp⟩) hHeld ?_
  simp only [Act.put, List.setIfInBounds_toArray, List.set_cons_zero, List.set_cons_succ]
  refine wpAnyH_take (i := 3) (oi := { dst := some 2, op := Op.assign (Operand.tmp 36), type := 2, pos := _, after := #[{ on := 1, ground := Ground.data }, { on := 0, ground := Ground.phase }, { on := 1, ground := Ground.phase }, { on := 2, ground := Ground.textOnly Departure.lateStores }], guard := none }) (v := .int .i64 pi) rfl (by kernel_rfl) (by kernel_rfl) (by kernel_rfl) (fun _ _ _ h => h) (Or.inl ⟨by rfl, fun w' hw => by go_simp⟩) hHeld ?_
  simp only [Act.put, List.setIfInBounds_toArray, List.set_cons_zero, List.set_cons_succ]
  refine wpAnyH_ready (rs := [4]) (by kernel_rfl) (by simp) ?_
  refine AllReadyH.cons (o := { dst := none, op := Op.store 52 (Operand.tmp 3) (Operand.tmp 37), type := 0, pos := _, after := #[{ on := 2, ground := Ground.data }, { on := 3, ground := Ground.chain }, { on := 0, ground := Ground.phase }, { on := 1, ground := Ground.phase }, { on := 2, ground := Ground.phase }, { on := 3, ground := Ground.phase }], guard := none }) rfl (fun K hK => ?_) AllReadyH.nil
  refine step_store_rec rfl (.tmp 3) (.tmp 37) rfl w.heap.size 2 0 (o : Nat) none 0 0 (Q : Nat) rfl rfl hA4.drew ?_
  refine hK.out _ _ (hN4.drew.setOthers hne 2 0 (o : Nat) (.slice none 0 0) (Q : Nat)).held (fun _ => ?_)
  refine wpAnyH_done (by kernel_rfl) ?_ _
  clear hK K
  refine NoPanic.normal ?_
  simp only [Act.put]
  have hcU := hA4.drew.setAll 2 0 (o : Nat) (.slice none 0 0) (Q : Nat)
  have hbU : Below w.heap.size w (((((V.drew.setCell ⟨w.heap.size, 0, none⟩ (.int .i64 2)).setCell ⟨w.heap.size, 1, none⟩ (.int .i64 0)).setCell ⟨w.heap.size, 2, none⟩ (.int .i64 (o : Nat))).setCell ⟨w.heap.size, 3, none⟩ (.slice none 0 0)).setCell ⟨w.heap.size, 4, none⟩ (.int .i64 (Q : Nat))) := ((((hB4.drew.setCell (Nat.le_refl _) _).setCell (Nat.le_refl _) _).setCell (Nat.le_refl _) _).setCell (Nat.le_refl _) _).setCell (Nat.le_refl _) _
  generalize (((((V.drew.setCell ⟨w.heap.size, 0, none⟩ (.int .i64 2)).setCell ⟨w.heap.size, 1, none⟩ (.int .i64 0)).setCell ⟨w.heap.size, 2, none⟩ (.int .i64 (o : Nat))).setCell ⟨w.heap.size, 3, none⟩ (.slice none 0 0)).setCell ⟨w.heap.size, 4, none⟩ (.int .i64 (Q : Nat))) = U at hcU hbU ⊢
  obtain ⟨c0, c1, c2, c3, c4, -, -, -, -, -, -⟩ := hcU
  clear hA4 hN4 hB4 g8 g4 hHeld
  go_wp2_with fail
  refine bodyPost_ret (v := .tuple #[.int .i64 pi, .agg #[.int .i64 2, .int .i64 0, .int .i64 (o : Nat), .slice none 0 0, .int .i64 (Q : Nat)]]) (by simp [results, Tryz.results94, go_sem, c0, c1, c2, c3, c4]) rfl ⟨rfl, ?_⟩
  exact hbU

set_option maxRecDepth 100000 in
set_option maxHeartbeats 400000 in
theorem fields_P0 (v : Value) (L : List Nat) (w : World) (hv : Bs w v L) (hl : L.length = 64) (h0 : L.getD 0 0 ≠ 2) (h44 : L.getD 1 0 = 0) (pi : Int) (hpi : IntKind.i64.wrap ((getN L 2 8 : Nat) : Int) = pi) :
    Calls Tryz.prog 94 #[v] w fun e w' => e = .returned (.tuple #[.int .i64 pi, .agg #[.int .i64 (L.getD 0 0 : Nat), .int .i64 (getN L 10 4 : Nat), .int .i64 (L.getD 14 0 : Nat), dataV v (L.getD 1 0), .int .i64 0]]) ∧ Below w.heap.size w w' := by
  have g8 := fun w h => get8 v L w h hl
  have g4 := fun w h => get4 v L w h hl
  have hlt := hv.lt
  have hq : getN L 10 4 < 4294967296 := getN_lt hlt 10 4
  have h14 := getD_lt hlt 14
  obtain ⟨ao, cap, rfl, -, -, -, hc⟩ := id hv
  obtain ⟨vb, off, rfl, hcell⟩ := hc (by omega)
  have d0 := hcell 0 (by omega)
  rw [Nat.add_zero] at d0
  have d14 := hcell 14 (by omega)
  have d1 := hcell 1 (by omega)
  rw [h44] at d1 ⊢
  have hkb := getD_lt hlt 0
  have hvl : vb < w.heap.size := by have := World.block_lt_of_cell? w _ d0; simpa using this
  clear hc hcell hlt
  have hv1 := hv.alloc (.cells #[.int .i64 0, .int .i64 0, .int .i64 0, .slice none 0 0, .int .i64 0] 52)
  have hR := RecAt.new w 0 0 0 (.slice none 0 0) 0
  have hcap := hv.cap
  rw [hl] at hv hv1 g8 g4 hcap ⊢
  generalize ((getN L 2 8 : Nat) : Int) = P at *
  generalize getN L 10 4 = Q at *
  generalize L.getD 14 0 = o at *
  generalize L.getD 0 0 = k at *
  clear h44
  rw [show dataV (.slice (some ⟨vb, off, none⟩) 64 cap) 0 = .slice (some ⟨vb, off, none⟩) 0 0 from rfl]
  have hk2 : ((k : Int) == 2) = false := by simp; omega
  clear h0
  have hS1 : (w.alloc (.cells #[.int .i64 0, .int .i64 0, .int .i64 0, .slice none 0 0, .int .i64 0] 52)).drew.cell? ⟨vb, off, none⟩ = some (.int .u8 (k : Nat)) ∧ (w.alloc (.cells #[.int .i64 0, .int .i64 0, .int .i64 0, .slice none 0 0, .int .i64 0] 52)).drew.cell? ⟨vb, off + 14, none⟩ = some (.int .u8 (o : Nat)) := by
    have hB := ((Below.refl w.heap.size w).alloc (Nat.le_refl _) (.cells #[.int .i64 0, .int .i64 0, .int .i64 0, .slice none 0 0, .int .i64 0] 52)).drew
    rw [hB.cell (p := ⟨vb, off, none⟩) hvl, hB.cell (p := ⟨vb, off + 14, none⟩) hvl]; exact ⟨d0, d14⟩
  have hS2 : ∀ x, ((w.alloc (.cells #[.int .i64 0, .int .i64 0, .int .i64 0, .slice none 0 0, .int .i64 0] 52)).alloc x).drew.cell? ⟨vb, off, none⟩ = some (.int .u8 (k : Nat)) ∧ ((w.alloc (.cells #[.int .i64 0, .int .i64 0, .int .i64 0, .slice none 0 0, .int .i64 0] 52)).alloc x).drew.cell? ⟨vb, off + 14, none⟩ = some (.int .u8 (o : Nat)) := by
    intro x
    have hB := (((Below.refl w.heap.size w).alloc (Nat.le_refl _) (.cells #[.int .i64 0, .int .i64 0, .int .i64 0, .slice none 0 0, .int .i64 0] 52)).alloc (by simp) x).drew
    rw [hB.cell (p := ⟨vb, off, none⟩) hvl, hB.cell (p := ⟨vb, off + 14, none⟩) hvl]; exact ⟨d0, d14⟩
  go_enter Tryz.func94, Tryz.ntmps94
  go_wp2_with fail
  refine (g8 _ hv1).mono ?_
  rintro e w1 ⟨rfl, rfl⟩
  go_wp2_with fail
  refine (g4 _ hv1).mono ?_
  rintro e w1 ⟨rfl, rfl⟩
  go_wp2_with fail
  go_region_held3 (fun w' => w'.cell? ⟨vb, off, none⟩ = some (.int .u8 (k : Nat)) ∧ w'.cell? ⟨vb, off + 14, none⟩ = some (.int .u8 (o : Nat)))
    (first | exact hS1 | exact hS2 _) (first | fail)
  simp only [show IntKind.i64.wrap (k : Int) = (k : Int) by rw [IntKind.wrap_i64]; omega, show IntKind.i64.wrap (o : Int) = (o : Int) by rw [IntKind.wrap_i64]; omega]
  have hA : RecAt ((w.alloc (.cells #[.int .i64 0, .int .i64 0, .int .i64 0, .slice none 0 0, .int .i64 0] 52)).alloc (.cells #[.int .i64 (k : Nat), .int .i64 0, .int .i64 (o : Nat), .slice none 0 0, .int .i64 0] 52)).drew w.heap.size 0 0 0 (.slice none 0 0) 0 := (hR.alloc _).mono (Below.refl _ _).drew
  have hN : RecAt ((w.alloc (.cells #[.int .i64 0, .int .i64 0, .int .i64 0, .slice none 0 0, .int .i64 0] 52)).alloc (.cells #[.int .i64 (k : Nat), .int .i64 0, .int .i64 (o : Nat), .slice none 0 0, .int .i64 0] 52)).drew (w.heap.size + 1) (k : Nat) 0 (o : Nat) (.slice none 0 0) 0 := by
    have := (RecAt.new (w.alloc (.cells #[.int .i64 0, .int .i64 0, .int .i64 0, .slice none 0 0, .int .i64 0] 52)) (k : Nat) 0 (o : Nat) (.slice none 0 0) 0).mono (Below.refl _ _).drew
    rw [World.size_alloc] at this
    exact this
  have hB : Below w.heap.size w ((w.alloc (.cells #[.int .i64 0, .int .i64 0, .int .i64 0, .slice none 0 0, .int .i64 0] 52)).alloc (.cells #[.int .i64 (k : Nat), .int .i64 0, .int .i64 (o : Nat), .slice none 0 0, .int .i64 0] 52)).drew := (((Below.refl w.heap.size w).alloc (Nat.le_refl _) (.cells #[.int .i64 0, .int .i64 0, .int .i64 0, .slice none 0 0, .int .i64 0] 52)).alloc (by simp) _).drew
  clear hS1 hS2 hR hv1
  generalize ((w.alloc (.cells #[.int .i64 0, .int .i64 0, .int .i64 0, .slice none 0 0, .int .i64 0] 52)).alloc (.cells #[.int .i64 (k : Nat), .int .i64 0, .int .i64 (o : Nat), .slice none 0 0, .int .i64 0] 52)).drew = W at *
  have d1W : W.cell? ⟨vb, off + 1, none⟩ = some (.int .u8 0) := by rw [hB.cell (p := ⟨vb, off + 1, none⟩) hvl]; exact d1
  have hne : w.heap.size ≠ w.heap.size + 1 := by omega
  have hne2 : vb ≠ w.heap.size + 1 := by omega
  obtain ⟨n0, n1, n2, n3, n4, e0, e1, e2, e3, e4, lq⟩ := id hN
  clear g8 g4 hv d0 d14
  go_wp2_with fail
  clear n0 n1 n2 n3 n4 e0 e1 e2 e3 e4 lq
  have hN4 := (hN.set1 (Q : Nat)).set3 (.slice (some ⟨vb, off, none⟩) 0 0)
  have hA4 : RecAt ((W.setCell ⟨w.heap.size + 1, 1, none⟩ (.int .i64 (Q : Nat))).setCell ⟨w.heap.size + 1, 3, none⟩ (.slice (some ⟨vb, off, none⟩) 0 0)) w.heap.size 0 0 0 (.slice none 0 0) 0 := (hA.setOther (Ne.symm hne)).setOther (Ne.symm hne)
  have hB4 : Below w.heap.size w ((W.setCell ⟨w.heap.size + 1, 1, none⟩ (.int .i64 (Q : Nat))).setCell ⟨w.heap.size + 1, 3, none⟩ (.slice (some ⟨vb, off, none⟩) 0 0)) := (hB.setCell (by simp) _).setCell (by simp) _
  clear hA hB hN d1W
  generalize ((W.setCell ⟨w.heap.size + 1, 1, none⟩ (.int .i64 (Q : Nat))).setCell ⟨w.heap.size + 1, 3, none⟩ (.slice (some ⟨vb, off, none⟩) 0 0)) = V at *
  refine wp_region_noPanic ?_
  refine wp_region_held_drew (S := (fun w' => w'.cell? ⟨w.heap.size + 1, 0, none⟩ = some (.int .i64 (k : Nat)) ∧ w'.cell? ⟨w.heap.size + 1, 1, none⟩ = some (.int .i64 (Q : Nat)) ∧ w'.cell? ⟨w.heap.size + 1, 2, none⟩ = some (.int .i64 (o : Nat)) ∧ w'.cell? ⟨w.heap.size + 1, 3, none⟩ = some (.slice (some ⟨vb, off, none⟩) 0 0) ∧ w'.cell? ⟨w.heap.size + 1, 4, none⟩ = some (.int .i64 0))) (by kernel_rfl) hN4.drew.held (fun hHeld => ?_)
  refine wpAnyH_take (i := 0) (oi := { dst := some 51, op := Op.move (Operand.tmp 4), type := 118, pos := _, after := #[], guard := none }) (v := .int .u64 P) rfl (by kernel_rfl) (by kernel_rfl) (by kernel_rfl) (fun _ _ _ h => h) (Or.inl ⟨by rfl, fun w' hw => by go_simp⟩) hHeld ?_
  simp only [Act.put, List.setIfInBounds_toArray, List.set_cons_zero, List.set_cons_succ]
  refine wpAnyH_take (i := 1) (oi := { dst := some 52, op := Op.convert 118 2 (Operand.tmp 51), type := 2, pos := _, after := #[{ on := 0, ground := Ground.data }], guard := none }) (v := .int .i64 pi) rfl (by kernel_rfl) (by kernel_rfl) (by kernel_rfl) (fun _ _ _ h => h) (Or.inl ⟨by rfl, fun w' hw => by go_simp⟩) hHeld ?_
  simp only [Act.put, List.setIfInBounds_toArray, List.set_cons_zero, List.set_cons_succ]
  refine wpAnyH_take (i := 2) (oi := { dst := some 53, op := Op.load 52 (Operand.tmp 8), type := 52, pos := _, after := #[{ on := 3, ground := Ground.gcOnly Departure.lateStores }], guard := none }) (v := .agg #[.int .i64 (k : Nat), .int .i64 (Q : Nat), .int .i64 (o : Nat), .slice (some ⟨vb, off, none⟩) 0 0, .int .i64 0]) rfl (by kernel_rfl) (by kernel_rfl) (by kernel_rfl) (fun _ _ _ h => h) (Or.inl ⟨by rfl, fun w' hw => by obtain ⟨k0, k1, k2, k3, k4⟩ := hw; go_simp⟩) hHeld ?_
  simp only [Act.put, List.setIfInBounds_toArray, List.set_cons_zero, List.set_cons_succ]
  refine wpAnyH_take (i := 3) (oi := { dst := some 2, op := Op.assign (Operand.tmp 52), type := 2, pos := _, after := #[{ on := 1, ground := Ground.data }, { on := 0, ground := Ground.phase }, { on := 1, ground := Ground.phase }, { on := 2, ground := Ground.textOnly Departure.lateStores }], guard := none }) (v := .int .i64 pi) rfl (by kernel_rfl) (by kernel_rfl) (by kernel_rfl) (fun _ _ _ h => h) (Or.inl ⟨by rfl, fun w' hw => by go_simp⟩) hHeld ?_
  simp only [Act.put, List.setIfInBounds_toArray, List.set_cons_zero, List.set_cons_succ]
  refine wpAnyH_ready (rs := [4]) (by kernel_rfl) (by simp) ?_
  refine AllReadyH.cons (o := { dst := none, op := Op.store 52 (Operand.tmp 3) (Operand.tmp 53), type := 0, pos := _, after := #[{ on := 2, ground := Ground.data }, { on := 3, ground := Ground.chain }, { on := 0, ground := Ground.phase }, { on := 1, ground := Ground.phase }, { on := 2, ground := Ground.phase }, { on := 3, ground := Ground.phase }], guard := none }) rfl (fun K hK => ?_) AllReadyH.nil
  refine step_store_rec rfl (.tmp 3) (.tmp 53) rfl w.heap.size (k : Nat) (Q : Nat) (o : Nat) (some ⟨vb, off, none⟩) 0 0 0 rfl rfl hA4.drew ?_
  refine hK.out _ _ (hN4.drew.setOthers hne (k : Nat) (Q : Nat) (o : Nat) (.slice (some ⟨vb, off, none⟩) 0 0) 0).held (fun _ => ?_)
  refine wpAnyH_done (by kernel_rfl) ?_ _
  clear hK K
  refine NoPanic.normal ?_
  simp only [Act.put]
  have hcU := hA4.drew.setAll (k : Nat) (Q : Nat) (o : Nat) (.slice (some ⟨vb, off, none⟩) 0 0) 0
  have hbU : Below w.heap.size w (((((V.drew.setCell ⟨w.heap.size, 0, none⟩ (.int .i64 (k : Nat))).setCell ⟨w.heap.size, 1, none⟩ (.int .i64 (Q : Nat))).setCell ⟨w.heap.size, 2, none⟩ (.int .i64 (o : Nat))).setCell ⟨w.heap.size, 3, none⟩ (.slice (some ⟨vb, off, none⟩) 0 0)).setCell ⟨w.heap.size, 4, none⟩ (.int .i64 0)) := ((((hB4.drew.setCell (Nat.le_refl _) _).setCell (Nat.le_refl _) _).setCell (Nat.le_refl _) _).setCell (Nat.le_refl _) _).setCell (Nat.le_refl _) _
  generalize (((((V.drew.setCell ⟨w.heap.size, 0, none⟩ (.int .i64 (k : Nat))).setCell ⟨w.heap.size, 1, none⟩ (.int .i64 (Q : Nat))).setCell ⟨w.heap.size, 2, none⟩ (.int .i64 (o : Nat))).setCell ⟨w.heap.size, 3, none⟩ (.slice (some ⟨vb, off, none⟩) 0 0)).setCell ⟨w.heap.size, 4, none⟩ (.int .i64 0)) = U at hcU hbU ⊢
  obtain ⟨c0, c1, c2, c3, c4, -, -, -, -, -, -⟩ := hcU
  clear hA4 hN4 hB4 hHeld
  go_wp2_with fail
  refine bodyPost_ret (v := .tuple #[.int .i64 pi, .agg #[.int .i64 (k : Nat), .int .i64 (Q : Nat), .int .i64 (o : Nat), .slice (some ⟨vb, off, none⟩) 0 0, .int .i64 0]]) (by simp [results, Tryz.results94, go_sem, c0, c1, c2, c3, c4]) rfl ⟨rfl, hbU⟩

set_option maxRecDepth 100000 in
set_option maxHeartbeats 400000 in
theorem fields_P1 (v : Value) (L : List Nat) (w : World) (hv : Bs w v L) (hl : L.length = 64) (h0 : L.getD 0 0 ≠ 2) (h44 : L.getD 1 0 ≤ 44) (h1 : 0 < L.getD 1 0) (pi : Int) (hpi : IntKind.i64.wrap ((getN L 2 8 : Nat) : Int) = pi) :
    Calls Tryz.prog 94 #[v] w fun e w' => e = .returned (.tuple #[.int .i64 pi, .agg #[.int .i64 (L.getD 0 0 : Nat), .int .i64 (getN L 10 4 : Nat), .int .i64 (L.getD 14 0 : Nat), dataV v (L.getD 1 0), .int .i64 0]]) ∧ Below w.heap.size w w' := by
  have g8 := fun w h => get8 v L w h hl
  have g4 := fun w h => get4 v L w h hl
  have hlt := hv.lt
  have hq : getN L 10 4 < 4294967296 := getN_lt hlt 10 4
  have h14 := getD_lt hlt 14
  obtain ⟨ao, cap, rfl, -, -, -, hc⟩ := id hv
  obtain ⟨vb, off, rfl, hcell⟩ := hc (by omega)
  have d0 := hcell 0 (by omega)
  rw [Nat.add_zero] at d0
  have d14 := hcell 14 (by omega)
  have d1 := hcell 1 (by omega)
  have hkb := getD_lt hlt 0
  have hvl : vb < w.heap.size := by have := World.block_lt_of_cell? w _ d0; simpa using this
  clear hc hcell hlt
  have hv1 := hv.alloc (.cells #[.int .i64 0, .int .i64 0, .int .i64 0, .slice none 0 0, .int .i64 0] 52)
  have hR := RecAt.new w 0 0 0 (.slice none 0 0) 0
  have hcap := hv.cap
  rw [hl] at hv hv1 g8 g4 hcap ⊢
  generalize ((getN L 2 8 : Nat) : Int) = P at *
  generalize getN L 10 4 = Q at *
  generalize L.getD 14 0 = o at *
  generalize L.getD 0 0 = k at *
  generalize L.getD 1 0 = n at *
  rw [show dataV (.slice (some ⟨vb, off, none⟩) 64 cap) n = .slice (some ⟨vb, off + 16, none⟩) n n from if_neg (by omega)]
  have hk2 : ((k : Int) == 2) = false := by simp; omega
  clear h0
  have hS1 : (w.alloc (.cells #[.int .i64 0, .int .i64 0, .int .i64 0, .slice none 0 0, .int .i64 0] 52)).drew.cell? ⟨vb, off, none⟩ = some (.int .u8 (k : Nat)) ∧ (w.alloc (.cells #[.int .i64 0, .int .i64 0, .int .i64 0, .slice none 0 0, .int .i64 0] 52)).drew.cell? ⟨vb, off + 14, none⟩ = some (.int .u8 (o : Nat)) := by
    have hB := ((Below.refl w.heap.size w).alloc (Nat.le_refl _) (.cells #[.int .i64 0, .int .i64 0, .int .i64 0, .slice none 0 0, .int .i64 0] 52)).drew
    rw [hB.cell (p := ⟨vb, off, none⟩) hvl, hB.cell (p := ⟨vb, off + 14, none⟩) hvl]; exact ⟨d0, d14⟩
  have hS2 : ∀ x, ((w.alloc (.cells #[.int .i64 0, .int .i64 0, .int .i64 0, .slice none 0 0, .int .i64 0] 52)).alloc x).drew.cell? ⟨vb, off, none⟩ = some (.int .u8 (k : Nat)) ∧ ((w.alloc (.cells #[.int .i64 0, .int .i64 0, .int .i64 0, .slice none 0 0, .int .i64 0] 52)).alloc x).drew.cell? ⟨vb, off + 14, none⟩ = some (.int .u8 (o : Nat)) := by
    intro x
    have hB := (((Below.refl w.heap.size w).alloc (Nat.le_refl _) (.cells #[.int .i64 0, .int .i64 0, .int .i64 0, .slice none 0 0, .int .i64 0] 52)).alloc (by simp) x).drew
    rw [hB.cell (p := ⟨vb, off, none⟩) hvl, hB.cell (p := ⟨vb, off + 14, none⟩) hvl]; exact ⟨d0, d14⟩
  go_enter Tryz.func94, Tryz.ntmps94
  go_wp2_with fail
  refine (g8 _ hv1).mono ?_
  rintro e w1 ⟨rfl, rfl⟩
  go_wp2_with fail
  refine (g4 _ hv1).mono ?_
  rintro e w1 ⟨rfl, rfl⟩
  go_wp2_with fail
  go_region_held3 (fun w' => w'.cell? ⟨vb, off, none⟩ = some (.int .u8 (k : Nat)) ∧ w'.cell? ⟨vb, off + 14, none⟩ = some (.int .u8 (o : Nat)))
    (first | exact hS1 | exact hS2 _) (first | fail)
  simp only [show IntKind.i64.wrap (k : Int) = (k : Int) by rw [IntKind.wrap_i64]; omega, show IntKind.i64.wrap (o : Int) = (o : Int) by rw [IntKind.wrap_i64]; omega]
  have hA : RecAt ((w.alloc (.cells #[.int .i64 0, .int .i64 0, .int .i64 0, .slice none 0 0, .int .i64 0] 52)).alloc (.cells #[.int .i64 (k : Nat), .int .i64 0, .int .i64 (o : Nat), .slice none 0 0, .int .i64 0] 52)).drew w.heap.size 0 0 0 (.slice none 0 0) 0 := (hR.alloc _).mono (Below.refl _ _).drew
  have hN : RecAt ((w.alloc (.cells #[.int .i64 0, .int .i64 0, .int .i64 0, .slice none 0 0, .int .i64 0] 52)).alloc (.cells #[.int .i64 (k : Nat), .int .i64 0, .int .i64 (o : Nat), .slice none 0 0, .int .i64 0] 52)).drew (w.heap.size + 1) (k : Nat) 0 (o : Nat) (.slice none 0 0) 0 := by
    have := (RecAt.new (w.alloc (.cells #[.int .i64 0, .int .i64 0, .int .i64 0, .slice none 0 0, .int .i64 0] 52)) (k : Nat) 0 (o : Nat) (.slice none 0 0) 0).mono (Below.refl _ _).drew
    rw [World.size_alloc] at this
    exact this
  have hB : Below w.heap.size w ((w.alloc (.cells #[.int .i64 0, .int .i64 0, .int .i64 0, .slice none 0 0, .int .i64 0] 52)).alloc (.cells #[.int .i64 (k : Nat), .int .i64 0, .int .i64 (o : Nat), .slice none 0 0, .int .i64 0] 52)).drew := (((Below.refl w.heap.size w).alloc (Nat.le_refl _) (.cells #[.int .i64 0, .int .i64 0, .int .i64 0, .slice none 0 0, .int .i64 0] 52)).alloc (by simp) _).drew
  clear hS1 hS2 hR hv1
  generalize ((w.alloc (.cells #[.int .i64 0, .int .i64 0, .int .i64 0, .slice none 0 0, .int .i64 0] 52)).alloc (.cells #[.int .i64 (k : Nat), .int .i64 0, .int .i64 (o : Nat), .slice none 0 0, .int .i64 0] 52)).drew = W at *
  have d1W : W.cell? ⟨vb, off + 1, none⟩ = some (.int .u8 (n : Nat)) := by rw [hB.cell (p := ⟨vb, off + 1, none⟩) hvl]; exact d1
  have hne : w.heap.size ≠ w.heap.size + 1 := by omega
  have hne2 : vb ≠ w.heap.size + 1 := by omega
  obtain ⟨n0, n1, n2, n3, n4, e0, e1, e2, e3, e4, lq⟩ := id hN
  clear g8 g4 hv d0 d14
  have hn16 : ¬ (16 + n = 16) := by omega
  have hn0 : ¬ (n = 0) := by omega
  go_wp2_with fail
  clear n0 n1 n2 n3 n4 e0 e1 e2 e3 e4 lq
  have hN4 := (hN.set1 (Q : Nat)).set3 (.slice (some ⟨vb, off + 16, none⟩) n n)
  have hA4 : RecAt ((W.setCell ⟨w.heap.size + 1, 1, none⟩ (.int .i64 (Q : Nat))).setCell ⟨w.heap.size + 1, 3, none⟩ (.slice (some ⟨vb, off + 16, none⟩) n n)) w.heap.size 0 0 0 (.slice none 0 0) 0 := (hA.setOther (Ne.symm hne)).setOther (Ne.symm hne)
  have hB4 : Below w.heap.size w ((W.setCell ⟨w.heap.size + 1, 1, none⟩ (.int .i64 (Q : Nat))).setCell ⟨w.heap.size + 1, 3, none⟩ (.slice (some ⟨vb, off + 16, none⟩) n n)) := (hB.setCell (by simp) _).setCell (by simp) _
  clear hA hB hN d1W
  generalize ((W.setCell ⟨w.heap.size + 1, 1, none⟩ (.int .i64 (Q : Nat))).setCell ⟨w.heap.size + 1, 3, none⟩ (.slice (some ⟨vb, off + 16, none⟩) n n)) = V at *
  refine wp_region_noPanic ?_
  refine wp_region_held_drew (S := (fun w' => w'.cell? ⟨w.heap.size + 1, 0, none⟩ = some (.int .i64 (k : Nat)) ∧ w'.cell? ⟨w.heap.size + 1, 1, none⟩ = some (.int .i64 (Q : Nat)) ∧ w'.cell? ⟨w.heap.size + 1, 2, none⟩ = some (.int .i64 (o : Nat)) ∧ w'.cell? ⟨w.heap.size + 1, 3, none⟩ = some (.slice (some ⟨vb, off + 16, none⟩) n n) ∧ w'.cell? ⟨w.heap.size + 1, 4, none⟩ = some (.int .i64 0))) (by kernel_rfl) hN4.drew.held (fun hHeld => ?_)
  refine wpAnyH_take (i := 0) (oi := { dst := some 51, op := Op.move (Operand.tmp 4), type := 118, pos := _, after := #[], guard := none }) (v := .int .u64 P) rfl (by kernel_rfl) (by kernel_rfl) (by kernel_rfl) (fun _ _ _ h => h) (Or.inl ⟨by rfl, fun w' hw => by go_simp⟩) hHeld ?_
  simp only [Act.put, List.setIfInBounds_toArray, List.set_cons_zero, List.set_cons_succ]
  refine wpAnyH_take (i := 1) (oi := { dst := some 52, op := Op.convert 118 2 (Operand.tmp 51), type := 2, pos := _, after := #[{ on := 0, ground := Ground.data }], guard := none }) (v := .int .i64 pi) rfl (by kernel_rfl) (by kernel_rfl) (by kernel_rfl) (fun _ _ _ h => h) (Or.inl ⟨by rfl, fun w' hw => by go_simp⟩) hHeld ?_
  simp only [Act.put, List.setIfInBounds_toArray, List.set_cons_zero, List.set_cons_succ]
  refine wpAnyH_take (i := 2) (oi := { dst := some 53, op := Op.load 52 (Operand.tmp 8), type := 52, pos := _, after := #[{ on := 3, ground := Ground.gcOnly Departure.lateStores }], guard := none }) (v := .agg #[.int .i64 (k : Nat), .int .i64 (Q : Nat), .int .i64 (o : Nat), .slice (some ⟨vb, off + 16, none⟩) n n, .int .i64 0]) rfl (by kernel_rfl) (by kernel_rfl) (by kernel_rfl) (fun _ _ _ h => h) (Or.inl ⟨by rfl, fun w' hw => by obtain ⟨k0, k1, k2, k3, k4⟩ := hw; go_simp⟩) hHeld ?_
  simp only [Act.put, List.setIfInBounds_toArray, List.set_cons_zero, List.set_cons_succ]
  refine wpAnyH_take (i := 3) (oi := { dst := some 2, op := Op.assign (Operand.tmp 52), type := 2, pos := _, after := #[{ on := 1, ground := Ground.data }, { on := 0, ground := Ground.phase }, { on := 1, ground := Ground.phase }, { on := 2, ground := Ground.textOnly Departure.lateStores }], guard := none }) (v := .int .i64 pi) rfl (by kernel_rfl) (by kernel_rfl) (by kernel_rfl) (fun _ _ _ h => h) (Or.inl ⟨by rfl, fun w' hw => by go_simp⟩) hHeld ?_
  simp only [Act.put, List.setIfInBounds_toArray, List.set_cons_zero, List.set_cons_succ]
  refine wpAnyH_ready (rs := [4]) (by kernel_rfl) (by simp) ?_
  refine AllReadyH.cons (o := { dst := none, op := Op.store 52 (Operand.tmp 3) (Operand.tmp 53), type := 0, pos := _, after := #[{ on := 2, ground := Ground.data }, { on := 3, ground := Ground.chain }, { on := 0, ground := Ground.phase }, { on := 1, ground := Ground.phase }, { on := 2, ground := Ground.phase }, { on := 3, ground := Ground.phase }], guard := none }) rfl (fun K hK => ?_) AllReadyH.nil
  refine step_store_rec rfl (.tmp 3) (.tmp 53) rfl w.heap.size (k : Nat) (Q : Nat) (o : Nat) (some ⟨vb, off + 16, none⟩) n n 0 rfl rfl hA4.drew ?_
  refine hK.out _ _ (hN4.drew.setOthers hne (k : Nat) (Q : Nat) (o : Nat) (.slice (some ⟨vb, off + 16, none⟩) n n) 0).held (fun _ => ?_)
  refine wpAnyH_done (by kernel_rfl) ?_ _
  clear hK K
  refine NoPanic.normal ?_
  simp only [Act.put]
  have hcU := hA4.drew.setAll (k : Nat) (Q : Nat) (o : Nat) (.slice (some ⟨vb, off + 16, none⟩) n n) 0
  have hbU : Below w.heap.size w (((((V.drew.setCell ⟨w.heap.size, 0, none⟩ (.int .i64 (k : Nat))).setCell ⟨w.heap.size, 1, none⟩ (.int .i64 (Q : Nat))).setCell ⟨w.heap.size, 2, none⟩ (.int .i64 (o : Nat))).setCell ⟨w.heap.size, 3, none⟩ (.slice (some ⟨vb, off + 16, none⟩) n n)).setCell ⟨w.heap.size, 4, none⟩ (.int .i64 0)) := ((((hB4.drew.setCell (Nat.le_refl _) _).setCell (Nat.le_refl _) _).setCell (Nat.le_refl _) _).setCell (Nat.le_refl _) _).setCell (Nat.le_refl _) _
  generalize (((((V.drew.setCell ⟨w.heap.size, 0, none⟩ (.int .i64 (k : Nat))).setCell ⟨w.heap.size, 1, none⟩ (.int .i64 (Q : Nat))).setCell ⟨w.heap.size, 2, none⟩ (.int .i64 (o : Nat))).setCell ⟨w.heap.size, 3, none⟩ (.slice (some ⟨vb, off + 16, none⟩) n n)).setCell ⟨w.heap.size, 4, none⟩ (.int .i64 0)) = U at hcU hbU ⊢
  obtain ⟨c0, c1, c2, c3, c4, -, -, -, -, -, -⟩ := hcU
  clear hA4 hN4 hB4 hHeld
  go_wp2_with fail
  refine bodyPost_ret (v := .tuple #[.int .i64 pi, .agg #[.int .i64 (k : Nat), .int .i64 (Q : Nat), .int .i64 (o : Nat), .slice (some ⟨vb, off + 16, none⟩) n n, .int .i64 0]]) (by simp [results, Tryz.results94, go_sem, c0, c1, c2, c3, c4]) rfl ⟨rfl, hbU⟩

theorem fields_P (v : Value) (L : List Nat) (w : World) (hv : Bs w v L) (hl : L.length = 64) (h0 : L.getD 0 0 ≠ 2) (h44 : L.getD 1 0 ≤ 44) (pi : Int) (hpi : IntKind.i64.wrap ((getN L 2 8 : Nat) : Int) = pi) :
    Calls Tryz.prog 94 #[v] w fun e w' => e = .returned (.tuple #[.int .i64 pi, .agg #[.int .i64 (L.getD 0 0 : Nat), .int .i64 (getN L 10 4 : Nat), .int .i64 (L.getD 14 0 : Nat), dataV v (L.getD 1 0), .int .i64 0]]) ∧ Below w.heap.size w w' := by
  by_cases h1 : L.getD 1 0 = 0
  · exact fields_P0 v L w hv hl h0 h1 pi hpi
  · exact fields_P1 v L w hv hl h0 h44 (by omega) pi hpi


end Go.Proofs.YtjhbljkoapbkfaaGreat

namespace Go.Proofs.YtjhbljkoapbkfaaGreat
open Go.RowKit Go.Attic

set_option maxRecDepth 100000 in
set_option maxHeartbeats 400000 in
theorem parse_short (v : Value) (L : List Nat) (w : World) (hv : Bs w v L) (hlen : L.length ≤ 140737488355328) (hn : L.length ≠ 64) :
    Calls Tryz.prog 87 #[v] w fun e w' => e = .returned (.tuple #[.int .i64 0, .agg #[.int .i64 0, .int .i64 0, .int .i64 0, .slice none 0 0, .int .i64 0], .int .i64 61]) ∧ Below w.heap.size w w' := by
  obtain ⟨c0, c1, c2, c3, c4, f0, f1, f2, f3, f4, lp⟩ := RecAt.new w 0 0 0 (.slice none 0 0) 0
  obtain ⟨ao, cap, rfl, -⟩ := hv
  have hnb : ((L.length : Int) != 64) = true := by simp; omega
  clear hn
  go_enter Tryz.func87, Tryz.ntmps87
  go_wp2_with fail
  refine bodyPost_ret (v := .tuple #[.int .i64 0, .agg #[.int .i64 0, .int .i64 0, .int .i64 0, .slice none 0 0, .int .i64 0], .int .i64 61]) (by simp [results, Tryz.results87, go_sem, c0, c1, c2, c3, c4]) rfl ⟨rfl, ?_⟩
  exact (Below.refl _ w).alloc (Nat.le_refl _) _

set_option maxRecDepth 100000 in
set_option maxHeartbeats 400000 in
theorem parse_big (v : Value) (L : List Nat) (w : World) (hv : Bs w v L) (hn : L.length = 64) (h1 : 44 < L.getD 1 0) :
    Calls Tryz.prog 87 #[v] w fun e w' => e = .returned (.tuple #[.int .i64 0, .agg #[.int .i64 0, .int .i64 0, .int .i64 0, .slice none 0 0, .int .i64 0], .int .i64 61]) ∧ Below w.heap.size w w' := by
  obtain ⟨c0, c1, c2, c3, c4, f0, f1, f2, f3, f4, lp⟩ := RecAt.new w 0 0 0 (.slice none 0 0) 0
  have hv1 := hv.alloc (.cells #[.int .i64 0, .int .i64 0, .int .i64 0, .slice none 0 0, .int .i64 0] 52)
  obtain ⟨ao, cap, rfl, -, -, -, -⟩ := id hv
  obtain ⟨ao', cap', e, -, -, -, hc⟩ := hv1
  injection e with e1 e2 e3
  subst e1 e3
  obtain ⟨vb, off, rfl, hcell⟩ := hc (by omega)
  have d1 := hcell 1 (by omega)
  rw [hn]
  generalize L.getD 1 0 = n at *
  clear hc hcell hv
  go_enter Tryz.func87, Tryz.ntmps87
  go_wp2_with fail
  refine bodyPost_ret (v := .tuple #[.int .i64 0, .agg #[.int .i64 0, .int .i64 0, .int .i64 0, .slice none 0 0, .int .i64 0], .int .i64 61]) (by simp [results, Tryz.results87, go_sem, c0, c1, c2, c3, c4]) rfl ⟨rfl, ?_⟩
  exact (Below.refl _ w).alloc (Nat.le_refl _) _

set_option maxRecDepth 100000 in
set_option maxHeartbeats 400000 in
theorem parse_err (v : Value) (L : List Nat) (w : World) (hv : Bs w v L) (hn : L.length = 64) (h1 : L.getD 1 0 ≤ 44) (pi k b o m : Int) (l : List Nat) (vr : Value) (hvr : ∀ w, Bs w v L → Bs w vr l)
    (hf : ∀ w, Bs w v L → Calls Tryz.prog 94 #[v] w fun e w' => e = .returned (.tuple #[.int .i64 pi, .agg #[.int .i64 k, .int .i64 b, .int .i64 o, vr, .int .i64 m]]) ∧ Below w.heap.size w w')
    (M : List Nat) (er : Int) (hby : ∀ w, Bs w vr l → Calls Tryz.prog 73 #[.int .i64 pi, .agg #[.int .i64 k, .int .i64 b, .int .i64 o, vr, .int .i64 m]] w (NewBsE w M er)) (hMx : ∀ y ∈ M, y < 256) (herr : (er != 0) = true) :
    Calls Tryz.prog 87 #[v] w fun e w' => e = .returned (.tuple #[.int .i64 0, .agg #[.int .i64 0, .int .i64 0, .int .i64 0, .slice none 0 0, .int .i64 0], .int .i64 61]) ∧ Below w.heap.size w w' := by
  have hr := RecAt.new w 0 0 0 (.slice none 0 0) 0
  have hv1 := hv.alloc (.cells #[.int .i64 0, .int .i64 0, .int .i64 0, .slice none 0 0, .int .i64 0] 52)
  have hbr := hvr _ hv1
  obtain ⟨rao, rcap, rfl, -, -, -, -⟩ := id hbr
  clear hvr
  obtain ⟨ao, cap, rfl, -, -, -, -⟩ := id hv
  obtain ⟨ao', cap', e, -, -, -, hc⟩ := id hv1
  injection e with e1 e2 e3
  subst e1 e3
  obtain ⟨vb, off, rfl, hcell⟩ := hc (by omega)
  have d1 := hcell 1 (by omega)
  have Hn := hide hn
  rw [hn] at hv hv1 hf ⊢
  generalize L.getD 1 0 = n at *
  clear hc hcell hn hv
  go_enter Tryz.func87, Tryz.ntmps87
  go_wp2_with fail
  refine (hf _ hv1).mono ?_
  rintro e w1 ⟨rfl, hb1⟩
  have hr1 := (hr.mono hb1).alloc (.cells #[.int .i64 k, .int .i64 b, .int .i64 o, .slice rao l.length rcap, .int .i64 m] 52)
  have hs1 := RecAt.new w1 k b o (.slice rao l.length rcap) m
  have hbr1 := (hbr.mono hb1).alloc (.cells #[.int .i64 k, .int .i64 b, .int .i64 o, .slice rao l.length rcap, .int .i64 m] 52)
  have hv2 := (hv1.mono hb1).alloc (.cells #[.int .i64 k, .int .i64 b, .int .i64 o, .slice rao l.length rcap, .int .i64 m] 52)
  have hB1 : Below w.heap.size w w1 := ((Below.refl _ w).alloc (Nat.le_refl _) _).trans (hb1.mono (by simp))
  have hne : w.heap.size < w1.heap.size := by have := hb1.size; simp at this; omega
  have hB2 := hB1.alloc hB1.size (.cells #[.int .i64 k, .int .i64 b, .int .i64 o, .slice rao l.length rcap, .int .i64 m] 52)
  clear hb1 hr hv1 hB1 hf d1
  go_wp2_with fail
  refine (hby _ hbr1).mono ?_
  rintro e w2 ⟨vx, rfl, hox, hbx⟩
  have hbs := Bs.of_owns hox hMx
  obtain ⟨xo, xc, rfl, -, -⟩ := owns_form hox
  have hvU := hv2.mono hbx
  have hBU := hB2.trans (hbx.mono hB2.size)
  have hR := hr1.mono hbx
  have hS := hs1.mono hbx
  obtain ⟨c0, c1, c2, c3, c4, f0, f1, f2, f3, f4, lp⟩ := id hR
  clear hox hbx hr1 hs1 hv2 hB2 hbr1
  go_wp2_with fail
  refine bodyPost_ret (v := .tuple #[.int .i64 0, .agg #[.int .i64 0, .int .i64 0, .int .i64 0, .slice none 0 0, .int .i64 0], .int .i64 61]) (by simp [results, Tryz.results87, go_sem, c0, c1, c2, c3, c4]) rfl ⟨rfl, ?_⟩
  exact ((((hBU.setCell (by simp) _).setCell (by simp) _).setCell (by simp) _).setCell (by simp) _).setCell (by simp) _

set_option maxRecDepth 100000 in
set_option maxHeartbeats 400000 in
theorem parse_ne (v : Value) (L : List Nat) (w : World) (hv : Bs w v L) (hn : L.length = 64) (h1 : L.getD 1 0 ≤ 44) (pi k b o m : Int) (l : List Nat) (vr : Value) (hvr : ∀ w, Bs w v L → Bs w vr l)
    (hf : ∀ w, Bs w v L → Calls Tryz.prog 94 #[v] w fun e w' => e = .returned (.tuple #[.int .i64 pi, .agg #[.int .i64 k, .int .i64 b, .int .i64 o, vr, .int .i64 m]]) ∧ Below w.heap.size w w')
    (M : List Nat) (er : Int) (hby : ∀ w, Bs w vr l → Calls Tryz.prog 73 #[.int .i64 pi, .agg #[.int .i64 k, .int .i64 b, .int .i64 o, vr, .int .i64 m]] w (NewBsE w M er)) (hMx : ∀ y ∈ M, y < 256) (herr : er = 0) (hd : decide (L = M) = false) :
    Calls Tryz.prog 87 #[v] w fun e w' => e = .returned (.tuple #[.int .i64 0, .agg #[.int .i64 0, .int .i64 0, .int .i64 0, .slice none 0 0, .int .i64 0], .int .i64 61]) ∧ Below w.heap.size w w' := by
  subst herr
  have hr := RecAt.new w 0 0 0 (.slice none 0 0) 0
  have hv1 := hv.alloc (.cells #[.int .i64 0, .int .i64 0, .int .i64 0, .slice none 0 0, .int .i64 0] 52)
  have hbr := hvr _ hv1
  obtain ⟨rao, rcap, rfl, -, -, -, -⟩ := id hbr
  clear hvr
  obtain ⟨ao, cap, rfl, -, -, -, -⟩ := id hv
  obtain ⟨ao', cap', e, -, -, -, hc⟩ := id hv1
  injection e with e1 e2 e3
  subst e1 e3
  obtain ⟨vb, off, rfl, hcell⟩ := hc (by omega)
  have d1 := hcell 1 (by omega)
  have Hn := hide hn
  rw [hn] at hv hv1 hf ⊢
  generalize L.getD 1 0 = n at *
  clear hc hcell hn hv
  go_enter Tryz.func87, Tryz.ntmps87
  go_wp2_with fail
  refine (hf _ hv1).mono ?_
  rintro e w1 ⟨rfl, hb1⟩
  have hr1 := (hr.mono hb1).alloc (.cells #[.int .i64 k, .int .i64 b, .int .i64 o, .slice rao l.length rcap, .int .i64 m] 52)
  have hs1 := RecAt.new w1 k b o (.slice rao l.length rcap) m
  have hbr1 := (hbr.mono hb1).alloc (.cells #[.int .i64 k, .int .i64 b, .int .i64 o, .slice rao l.length rcap, .int .i64 m] 52)
  have hv2 := (hv1.mono hb1).alloc (.cells #[.int .i64 k, .int .i64 b, .int .i64 o, .slice rao l.length rcap, .int .i64 m] 52)
  have hB1 : Below w.heap.size w w1 := ((Below.refl _ w).alloc (Nat.le_refl _) _).trans (hb1.mono (by simp))
  have hne : w.heap.size < w1.heap.size := by have := hb1.size; simp at this; omega
  have hB2 := hB1.alloc hB1.size (.cells #[.int .i64 k, .int .i64 b, .int .i64 o, .slice rao l.length rcap, .int .i64 m] 52)
  clear hb1 hr hv1 hB1 hf d1
  go_wp2_with fail
  refine (hby _ hbr1).mono ?_
  rintro e w2 ⟨vx, rfl, hox, hbx⟩
  have hbs := Bs.of_owns hox hMx
  obtain ⟨xo, xc, rfl, -, -⟩ := owns_form hox
  have hvU := hv2.mono hbx
  have hBU := hB2.trans (hbx.mono hB2.size)
  have hR := hr1.mono hbx
  have hS := hs1.mono hbx
  obtain ⟨c0, c1, c2, c3, c4, f0, f1, f2, f3, f4, lp⟩ := id hR
  clear hox hbx hr1 hs1 hv2 hB2 hbr1
  go_wp2_with fail
  refine (equal_any _ _ L M _ hvU hbs).mono ?_
  rintro e w3 ⟨rfl, rfl⟩
  rw [hd]
  go_wp2_with fail
  refine bodyPost_ret (v := .tuple #[.int .i64 0, .agg #[.int .i64 0, .int .i64 0, .int .i64 0, .slice none 0 0, .int .i64 0], .int .i64 61]) (by simp [results, Tryz.results87, go_sem, c0, c1, c2, c3, c4]) rfl ⟨rfl, ?_⟩
  exact ((((hBU.setCell (by simp) _).setCell (by simp) _).setCell (by simp) _).setCell (by simp) _).setCell (by simp) _

set_option maxRecDepth 100000 in
set_option maxHeartbeats 400000 in
theorem parse_eq (v : Value) (L : List Nat) (w : World) (hv : Bs w v L) (hn : L.length = 64) (h1 : L.getD 1 0 ≤ 44) (pi k b o m : Int) (l : List Nat) (vr : Value) (hvr : ∀ w, Bs w v L → Bs w vr l)
    (hf : ∀ w, Bs w v L → Calls Tryz.prog 94 #[v] w fun e w' => e = .returned (.tuple #[.int .i64 pi, .agg #[.int .i64 k, .int .i64 b, .int .i64 o, vr, .int .i64 m]]) ∧ Below w.heap.size w w')
    (M : List Nat) (er : Int) (hby : ∀ w, Bs w vr l → Calls Tryz.prog 73 #[.int .i64 pi, .agg #[.int .i64 k, .int .i64 b, .int .i64 o, vr, .int .i64 m]] w (NewBsE w M er)) (hMx : ∀ y ∈ M, y < 256) (herr : er = 0) (hd : decide (L = M) = true) :
    Calls Tryz.prog 87 #[v] w fun e w' => e = .returned (.tuple #[.int .i64 pi, .agg #[.int .i64 k, .int .i64 b, .int .i64 o, vr, .int .i64 m], .int .i64 0]) ∧ Below w.heap.size w w' := by
  subst herr
  have hr := RecAt.new w 0 0 0 (.slice none 0 0) 0
  have hv1 := hv.alloc (.cells #[.int .i64 0, .int .i64 0, .int .i64 0, .slice none 0 0, .int .i64 0] 52)
  have hbr := hvr _ hv1
  obtain ⟨rao, rcap, rfl, -, -, -, -⟩ := id hbr
  clear hvr
  obtain ⟨ao, cap, rfl, -, -, -, -⟩ := id hv
  obtain ⟨ao', cap', e, -, -, -, hc⟩ := id hv1
  injection e with e1 e2 e3
  subst e1 e3
  obtain ⟨vb, off, rfl, hcell⟩ := hc (by omega)
  have d1 := hcell 1 (by omega)
  have Hn := hide hn
  rw [hn] at hv hv1 hf ⊢
  generalize L.getD 1 0 = n at *
  clear hc hcell hn hv
  go_enter Tryz.func87, Tryz.ntmps87
  go_wp2_with fail
  refine (hf _ hv1).mono ?_
  rintro e w1 ⟨rfl, hb1⟩
  have hr1 := (hr.mono hb1).alloc (.cells #[.int .i64 k, .int .i64 b, .int .i64 o, .slice rao l.length rcap, .int .i64 m] 52)
  have hs1 := RecAt.new w1 k b o (.slice rao l.length rcap) m
  have hbr1 := (hbr.mono hb1).alloc (.cells #[.int .i64 k, .int .i64 b, .int .i64 o, .slice rao l.length rcap, .int .i64 m] 52)
  have hv2 := (hv1.mono hb1).alloc (.cells #[.int .i64 k, .int .i64 b, .int .i64 o, .slice rao l.length rcap, .int .i64 m] 52)
  have hB1 : Below w.heap.size w w1 := ((Below.refl _ w).alloc (Nat.le_refl _) _).trans (hb1.mono (by simp))
  have hne : w.heap.size < w1.heap.size := by have := hb1.size; simp at this; omega
  have hB2 := hB1.alloc hB1.size (.cells #[.int .i64 k, .int .i64 b, .int .i64 o, .slice rao l.length rcap, .int .i64 m] 52)
  clear hb1 hr hv1 hB1 hf d1
  go_wp2_with fail
  refine (hby _ hbr1).mono ?_
  rintro e w2 ⟨vx, rfl, hox, hbx⟩
  have hbs := Bs.of_owns hox hMx
  obtain ⟨xo, xc, rfl, -, -⟩ := owns_form hox
  have hvU := hv2.mono hbx
  have hBU := hB2.trans (hbx.mono hB2.size)
  have hR := hr1.mono hbx
  have hS := hs1.mono hbx
  obtain ⟨c0, c1, c2, c3, c4, f0, f1, f2, f3, f4, lp⟩ := id hR
  clear hox hbx hr1 hs1 hv2 hB2 hbr1
  go_wp2_with fail
  refine (equal_any _ _ L M _ hvU hbs).mono ?_
  rintro e w3 ⟨rfl, rfl⟩
  rw [hd]
  go_wp2_with fail
  clear c0 c1 c2 c3 c4 f0 f1 f2 f3 f4 lp
  refine wp_region_noPanic ?_
  refine wp_region_held_drew (S := (fun w' => w'.cell? ⟨w1.heap.size, 0, none⟩ = some (.int .i64 k) ∧ w'.cell? ⟨w1.heap.size, 1, none⟩ = some (.int .i64 b) ∧ w'.cell? ⟨w1.heap.size, 2, none⟩ = some (.int .i64 o) ∧ w'.cell? ⟨w1.heap.size, 3, none⟩ = some (.slice rao l.length rcap) ∧ w'.cell? ⟨w1.heap.size, 4, none⟩ = some (.int .i64 m))) (by kernel_rfl) hS.drew.held (fun hHeld => ?_)
  refine wpAnyH_take (i := 0) (oi := { dst := some 39, op := Op.move (Operand.tmp 5), type := 2, pos := _, after := #[], guard := none }) (v := .int .i64 pi) rfl (by kernel_rfl) (by kernel_rfl) (by kernel_rfl) (fun _ _ _ h => h) (Or.inl ⟨by rfl, fun w' hw => by go_simp⟩) hHeld ?_
  simp only [Act.put, List.setIfInBounds_toArray, List.set_cons_zero, List.set_cons_succ]
  refine wpAnyH_take (i := 1) (oi := { dst := some 40, op := Op.load 52 (Operand.tmp 6), type := 52, pos := _, after := #[{ on := 2, ground := Ground.gcOnly Departure.lateStores }], guard := none }) (v := .agg #[.int .i64 k, .int .i64 b, .int .i64 o, .slice rao l.length rcap, .int .i64 m]) rfl (by kernel_rfl) (by kernel_rfl) (by kernel_rfl) (fun _ _ _ h => h) (Or.inl ⟨by rfl, fun w' hw => by obtain ⟨k0, k1, k2, k3, k4⟩ := hw; go_simp⟩) hHeld ?_
  simp only [Act.put, List.setIfInBounds_toArray, List.set_cons_zero, List.set_cons_succ]
  refine wpAnyH_take (i := 2) (oi := { dst := some 2, op := Op.assign (Operand.tmp 39), type := 2, pos := _, after := #[{ on := 0, ground := Ground.data }, { on := 0, ground := Ground.phase }, { on := 1, ground := Ground.textOnly Departure.lateStores }], guard := none }) (v := .int .i64 pi) rfl (by kernel_rfl) (by kernel_rfl) (by kernel_rfl) (fun _ _ _ h => h) (Or.inl ⟨by rfl, fun w' hw => by go_simp⟩) hHeld ?_
  simp only [Act.put, List.setIfInBounds_toArray, List.set_cons_zero, List.set_cons_succ]
  refine wpAnyH_ready (rs := [3]) (by kernel_rfl) (by simp) ?_
  refine AllReadyH.cons (o := { dst := none, op := Op.store 52 (Operand.tmp 3) (Operand.tmp 40), type := 0, pos := _, after := #[{ on := 1, ground := Ground.data }, { on := 2, ground := Ground.chain }, { on := 0, ground := Ground.phase }, { on := 1, ground := Ground.phase }, { on := 2, ground := Ground.phase }], guard := none }) rfl (fun K hK => ?_) AllReadyH.nil
  refine step_store_rec rfl (.tmp 3) (.tmp 40) rfl w.heap.size k b o rao l.length rcap m rfl rfl hR.drew ?_
  have hH2 := (hS.drew.setOthers (Nat.ne_of_lt hne) k b o (.slice rao l.length rcap) m).held
  refine hK.out _ _ hH2 (fun _ => ?_)
  clear hK K
  simp only [Act.put]
  refine wpAnyH_take (i := 4) (oi := { dst := some 4, op := Op.assign (Operand.const (Value.int IntKind.i64 0)), type := 42, pos := _, after := #[{ on := 3, ground := Ground.chain }, { on := 0, ground := Ground.phase }, { on := 1, ground := Ground.phase }, { on := 2, ground := Ground.phase }, { on := 3, ground := Ground.phase }], guard := none }) (v := .int .i64 0) rfl (by kernel_rfl) (by kernel_rfl) (by kernel_rfl) (fun _ _ _ h => h) (Or.inl ⟨by rfl, fun w' hw => by go_simp⟩) hH2 ?_
  simp only [Act.put, List.setIfInBounds_toArray, List.set_cons_zero, List.set_cons_succ]
  refine wpAnyH_done (by kernel_rfl) ?_ _
  refine NoPanic.normal ?_
  have hcU := hR.drew.setAll k b o (.slice rao l.length rcap) m
  have hbU : Below w.heap.size w (((((w2.drew.setCell ⟨w.heap.size, 0, none⟩ (.int .i64 k)).setCell ⟨w.heap.size, 1, none⟩ (.int .i64 b)).setCell ⟨w.heap.size, 2, none⟩ (.int .i64 o)).setCell ⟨w.heap.size, 3, none⟩ (.slice rao l.length rcap)).setCell ⟨w.heap.size, 4, none⟩ (.int .i64 m)) := ((((hBU.drew.setCell (Nat.le_refl _) _).setCell (Nat.le_refl _) _).setCell (Nat.le_refl _) _).setCell (Nat.le_refl _) _).setCell (Nat.le_refl _) _
  clear hH2
  generalize (((((w2.drew.setCell ⟨w.heap.size, 0, none⟩ (.int .i64 k)).setCell ⟨w.heap.size, 1, none⟩ (.int .i64 b)).setCell ⟨w.heap.size, 2, none⟩ (.int .i64 o)).setCell ⟨w.heap.size, 3, none⟩ (.slice rao l.length rcap)).setCell ⟨w.heap.size, 4, none⟩ (.int .i64 m)) = U at hcU hbU ⊢
  obtain ⟨c0, c1, c2, c3, c4, -, -, -, -, -, -⟩ := hcU
  clear hR hS hHeld
  go_wp2_with fail
  refine bodyPost_ret (v := .tuple #[.int .i64 pi, .agg #[.int .i64 k, .int .i64 b, .int .i64 o, .slice rao l.length rcap, .int .i64 m], .int .i64 0]) (by simp [results, Tryz.results87, go_sem, c0, c1, c2, c3, c4]) rfl ⟨rfl, hbU⟩


end Go.Proofs.YtjhbljkoapbkfaaGreat
