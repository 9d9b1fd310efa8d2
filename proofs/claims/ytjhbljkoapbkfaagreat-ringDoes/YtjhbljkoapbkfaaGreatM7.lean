/- Contracts: block, sector, reach. Stores into a disk's cells; contracts: settle, powerOff, Crash, operate, Arm, Restart. Contracts: settle, powerOff, Crash, operate, Arm, Restart. -/
import Derived.Test.YtjhbljkoapbkfaaGreatM6
import Derived.Deep.RegionHeld3
set_option linter.unusedSimpArgs false
set_option linter.unusedVariables false

namespace Go.Proofs.YtjhbljkoapbkfaaGreat
open Go.RowKit Go.Attic

set_option maxRecDepth 100000 in
set_option maxHeartbeats 400000 in
/-- A block of the medium, the medium's own bytes. -/
theorem block_yes {w : World} {g m cap n L i : Nat} (c0 : w.cell? ⟨g, 0, none⟩ = some (.slice (some ⟨m, 0, none⟩) L cap)) (hL : L = 256 * n) (hc : L ≤ cap) (hi : i < n) (hn : n ≤ 2048) :
    Calls Tryz.prog 85 #[.pointer (some ⟨g, 0, none⟩), .int .i64 (i : Int)] w fun e w' => e = .returned (.slice (some ⟨m, i * 256, none⟩) 256 (cap - i * 256)) ∧ w = w' := by
  subst hL
  have h1 : 256 * i + 256 ≤ cap := by omega
  have h2 : (i : Int) * 256 ≤ 256 * n := by omega
  go_enter Tryz.func85, Tryz.ntmps85
  go_wp2
  go_ret
  exact ⟨by simp, rfl⟩

set_option maxRecDepth 100000 in
set_option maxHeartbeats 400000 in
theorem sector_yes {w : World} {m off cap k : Nat} (hc : 256 ≤ cap) (hk : k < 4) :
    Calls Tryz.prog 98 #[.slice (some ⟨m, off, none⟩) 256 cap, .int .i64 (k : Int)] w fun e w' => e = .returned (.slice (some ⟨m, off + k * 64, none⟩) 64 (cap - k * 64)) ∧ w = w' := by
  have h1 : 64 * k + 64 ≤ cap := by omega
  have h2 : (k : Int) * 64 ≤ 256 := by omega
  go_enter Tryz.func98, Tryz.ntmps98
  go_wp2
  go_ret
  exact ⟨by simp, rfl⟩

theorem shr_and (x k : Nat) (hx : x < 256) (hk : k < 8) : (bits .and .u8 ((x : Int) / 2 ^ k) 1 == 1) = x.testBit k := by
  have e : (x : Int) / 2 ^ k = ((x / 2 ^ k : Nat) : Int) := by simp
  have h2 : x / 2 ^ k < 256 := Nat.lt_of_le_of_lt (Nat.div_le_self _ _) hx
  rw [e, show (1 : Int) = ((1 : Nat) : Int) from rfl, u8_and_nat _ _ h2 (by omega)]
  rw [Nat.testBit_eq_decide_div_mod_eq, Nat.and_one_is_mod]
  rw [Bool.eq_iff_iff]
  simp only [beq_iff_eq, decide_eq_true_eq]
  omega

/-- The medium alone turns. -/
theorem Dk.setMed {w w' : World} {g m : Nat} {p : Option Nat} {F : Nat → Prop} {n : Nat} {s : St} {cap : Nat} {med : List Nat} (h : Dk w g m p F n s) (c0 : w.cell? ⟨g, 0, none⟩ = some (.slice (some ⟨m, 0, none⟩) s.med.length cap))
    (hk : Keeps (fun k => k = m) w w') (ho : w'.ownsRow 0 5 1 (.slice (some ⟨m, 0, none⟩) s.med.length cap) s.med.length (cellsB med)) (hx : ∀ x ∈ med, x < 256) : Dk w' g m p F n { s with med := med } := by
  have hlen : med.length = s.med.length := by have := ho.1; simp [cellsB] at this; omega
  obtain ⟨v, vs, b1, b2⟩ := h.c1
  obtain ⟨v3, d1, d2, d3⟩ := h.c3
  have hl := h.gl
  have hg : ¬ (fun k => k = m) g := h.ne
  have hS : ∀ k, F k → ¬ (fun k => k = m) k := fun k hk e => h.Fm (by have e' : k = m := e; exact e' ▸ hk)
  exact ⟨⟨cap, by dsimp only; rw [hlen]; exact hk.cell c0 hg, by dsimp only; rw [hlen]; exact ho⟩, ⟨v, vs, hk.cell b1 hg, b2.keeps hk hS⟩, hk.cell h.c2 hg, ⟨v3, hk.cell d1 hg, hk.bs d2 (fun b hb => hS b (d3 b hb).1), d3⟩, hk.cell h.c4 hg, hk.cell h.c5 hg,
    by rw [hk.frozen (a := ⟨g, 0, none⟩) hl hg]; exact h.f0, by rw [hk.frozen (a := ⟨g, 1, none⟩) hl hg]; exact h.f1, by rw [hk.frozen (a := ⟨g, 2, none⟩) hl hg]; exact h.f2, by rw [hk.frozen (a := ⟨g, 3, none⟩) hl hg]; exact h.f3, by rw [hk.frozen (a := ⟨g, 4, none⟩) hl hg]; exact h.f4, by rw [hk.frozen (a := ⟨g, 5, none⟩) hl hg]; exact h.f5,
    h.ne, h.Fg, h.Fm, fun k hk' => Nat.lt_of_lt_of_le (h.Fl k hk') hk.size, h.ok.med hlen hx⟩

set_option maxRecDepth 100000 in
set_option maxHeartbeats 1000000 in
theorem reach_yes {w : World} {g m : Nat} {p : Option Nat} {F : Nat → Prop} {n : Nat} {s : St} (h : Dk w g m p F n s) (b : Nat) (v : Value) (bytes : List Nat) (pick : Nat) (hb : b < n) (hv : Bs w v bytes) (hl : bytes.length = 256) (hm : v.ownBlock ≠ some m) (hp : pick < 256) :
    Calls Tryz.prog 90 #[.pointer (some ⟨g, 0, none⟩), .agg #[.int .i64 (b : Int), v], .int .u8 (pick : Int)] w fun e w' => e = .returned (.tuple #[]) ∧ Dk w' g m p F n { s with med := reachL s.med b bytes pick } ∧ Keeps (fun k => k = m) w w' := by
  obtain ⟨cap, c0, ho⟩ := h.c0
  have hn := h.ok.n2
  have hlen := h.ok.len
  have hlt := h.ok.lt
  have hcap : s.med.length ≤ cap := (Bs.of_owns ho hlt).cap
  have hml := h.ml
  have hgl := h.gl
  have vlt := hv.lt
  have hv' := hv
  obtain ⟨ao, vcap, rfl, hvc, hvn, hvx, hcell⟩ := hv
  obtain ⟨vb, voff, rfl, hcel⟩ := hcell (by omega)
  rw [hl] at hv' hvc hm ⊢
  have hvb : vb ≠ m := by intro e; exact hm (by rw [e]; rfl)
  have hinf : (Tryz.prog.info? 5).map (·.size) = some 1 := by kernel_rfl
  have H := hide h
  have HL := hide hlen
  have Hcell : Hid (∀ i, i < 256 → w.cell? ⟨vb, voff + i, none⟩ = some (.int .u8 ((bytes.getD i 0 : Nat) : Int))) := fun i hi => hcel i (by omega)
  have Hl := hide hl
  clear h hlen hcell hcel hl hm
  go_enter Tryz.func90, Tryz.ntmps90
  go_wp2_with fail
  have c0' : (w.alloc (.cells #[.int .i64 (b : Int), .slice (some ⟨vb, voff, none⟩) 256 vcap] 131)).cell? ⟨g, 0, none⟩ = some (.slice (some ⟨m, 0, none⟩) s.med.length cap) := (Keeps.alloc (S := fun _ => False) w _).cell c0 id
  refine (block_yes c0' HL.out hcap hb hn).mono ?_
  rintro e w' ⟨rfl, rfl⟩
  obtain ⟨w0, hw0⟩ : ∃ w0, w.alloc (.cells #[.int .i64 (b : Int), .slice (some ⟨vb, voff, none⟩) 256 vcap] 131) = w0 := ⟨_, rfl⟩
  have k0 : Keeps (fun k => k = m) w w0 := hw0 ▸ Keeps.alloc w _
  have bx0 : w0.cell? ⟨w.heap.size, 1, none⟩ = some (.slice (some ⟨vb, voff, none⟩) 256 vcap) := by rw [← hw0]; simp
  have o0 : w0.ownsRow 0 5 1 (.slice (some ⟨m, 0, none⟩) s.med.length cap) s.med.length (cellsB (reachK s.med b bytes pick 0)) := by
    rw [reachK_zero, ← hw0]
    exact ho.alloc _
  rw [hw0]
  go_wp2_with fail
  have Ho := hide ho
  have Hc0 := hide c0
  clear hw0 c0' c0 ho
  go_loopw [12] (fun i wr => ∃ k : Nat, k ≤ 4 ∧ i = .int .i64 k ∧ wr.ownsRow 0 5 1 (.slice (some ⟨m, 0, none⟩) s.med.length cap) s.med.length (cellsB (reachK s.med b bytes pick k)) ∧ Keeps (fun k => k = m) w wr ∧ wr.cell? ⟨w.heap.size, 1, none⟩ = some (.slice (some ⟨vb, voff, none⟩) 256 vcap)) (fun i _ => 4 - (intOf i).toNat)
  case atStart => exact ⟨0, by omega, rfl, o0, k0, bx0⟩
  case round =>
    obtain ⟨k, hk, rfl, o1, k1, bx1⟩ := hrel
    clear o0 k0 bx0
    by_cases hk4 : k < 4
    · have ht := shr_and pick k hp (by omega)
      cases hbit : pick.testBit k with
      | false =>
        rw [hbit] at ht
        have o2 := o1
        rw [← reachK_skip _ _ _ _ _ hbit] at o2
        have Ho2 := hide o2
        clear o1 o2 hbit
        go_wp2_with fail
        exact ⟨⟨k + 1, by omega, by go_num, Ho2.out, k1, bx1⟩, by simp [intOf]; omega⟩
      | true =>
        rw [hbit] at ht
        have Hb := hide hbit
        clear hbit
        have S0 : wr.drew.cell? ⟨w.heap.size, 1, none⟩ = some (.slice (some ⟨vb, voff, none⟩) 256 vcap) := bx1
        have hne : w.heap.size ≠ m := by omega
        have hsrc : ∀ j u, (cellsB ((bytes.drop (k * 64)).take 64))[j]? = some u → wr.drew.cell? ((⟨vb, voff + k * 64, none⟩ : Addr).add j) = some u := by
          intro j u hj
          have hjl : j < 64 := by have := (List.getElem?_eq_some_iff.1 hj).1; simp [cellsB] at this; omega
          have e1 := k1.cell (Hcell.out (k * 64 + j) (by omega)) hvb
          rw [Addr.add_lit, Nat.add_assoc]
          rw [show wr.drew.cell? ⟨vb, voff + (k * 64 + j), none⟩ = wr.cell? ⟨vb, voff + (k * 64 + j), none⟩ from rfl, e1, ← hj]
          have hj2 : k * 64 + j < bytes.length := by rw [Hl.out]; omega
          simp [cellsB, List.getElem?_take, hjl, List.getElem?_drop, List.getD_eq_getElem?_getD, hj2]
        have hcl : ((bytes.drop (k * 64)).take 64).length = 64 := by have := Hl.out; simp; omega
        have hfit : b * 256 + k * 64 + (cellsB ((bytes.drop (k * 64)).take 64)).length ≤ s.med.length := by rw [cellsB_length, hcl, HL.out]; omega
        have hcl2 : (cellsB ((bytes.drop (k * 64)).take 64)).length = Nat.min 64 64 := by rw [cellsB_length, hcl]; rfl
        have hcap2 : 256 ≤ cap - b * 256 := by have := HL.out; omega
        have o1' := World.ownsRow.drew o1
        have Hcl := hide hcl
        clear o1 hcl
        go_wp2_with fail
        go_region_held3 (fun w' => w'.cell? ⟨w.heap.size, 1, none⟩ = some (.slice (some ⟨vb, voff, none⟩) 256 vcap))
          (first | exact S0 | exact k2.cell S0 hne)
          (first
            | (go_at_call 98; refine (sector_yes (by omega) hk4).mono ?_; rintro e wE ⟨rfl, rfl⟩)
            | (refine step_copy_own rfl (.tmp 22) (.tmp 26) 30 30 rfl 5 Tryz.underlying30 hinf m (b * 256 + k * 64) 64 _ ⟨vb, voff + k * 64, none⟩ 64 _ rfl rfl s.med.length cap _ o1' (cellsB ((bytes.drop (k * 64)).take 64)) hcl2 hsrc hfit (cellsB_oneCell _) ?_; intro w2 o2 k2))
        rw [cellsB_splice, ← reachK_copy _ _ _ _ _ n Hb.out hk4 hb HL.out Hl.out] at o2
        have Ho2 := hide o2
        have bx2 := k2.cell S0 hne
        have k3 : Keeps (fun k => k = m) w w2 := (k1.trans (Keeps.drew wr)).trans k2
        clear o2 o1' hsrc k2 S0 bx1
        go_wp2_with fail
        exact ⟨⟨k + 1, by omega, by go_num, Ho2.out, k3, bx2⟩, by simp [intOf]; omega⟩
    · obtain rfl : k = 4 := by omega
      have Ho1 := hide o1
      clear o1
      go_wp2_with fail
      go_end0
      exact ⟨rfl, H.out.setMed Hc0.out k1 Ho1.out (reachK_lt _ _ _ _ _ hlt vlt), k1⟩



end Go.Proofs.YtjhbljkoapbkfaaGreat

namespace Go.Proofs.YtjhbljkoapbkfaaGreat
open Go.RowKit Go.Attic

theorem cell_set_other {w : World} {g o o' : Nat} {u v : Value} (h : w.cell? ⟨g, o', none⟩ = some v) (hne : o ≠ o') : (w.setCell ⟨g, o, none⟩ u).cell? ⟨g, o', none⟩ = some v := by
  rw [World.cell?_setCell_other _ _ _ _ (by intro e; injection e with e1 e2; omega)]
  exact h
theorem cell_set_same {w : World} {g o : Nat} {u v : Value} (h : w.cell? ⟨g, o, none⟩ = some v) : (w.setCell ⟨g, o, none⟩ u).cell? ⟨g, o, none⟩ = some u := by
  exact World.cell?_setCell_same _ _ _ h

theorem Ws.widen {e : TypeId} {w : World} {p : Option Nat} {F F' : Nat → Prop} {v : Value} {ps : List (Nat × List Nat)} {vs : List Value} (h : Ws e w p F v ps vs) (hF : ∀ k, F k → F' k) : Ws e w p F' v ps vs :=
  ⟨h.row, h.own, h.len, fun b hb => hF b (h.pF b hb), fun i hi hv => ⟨(h.bs i hi hv).1, fun b hb => ⟨hF b ((h.bs i hi hv).2 b hb).1, ((h.bs i hi hv).2 b hb).2⟩⟩⟩

theorem Dk.widen {w : World} {g m : Nat} {p : Option Nat} {F F' : Nat → Prop} {n : Nat} {s : St} (h : Dk w g m p F n s) (hF : ∀ k, F k → F' k) (hg : ¬ F' g) (hm : ¬ F' m) (hl : ∀ k, F' k → k < w.heap.size) : Dk w g m p F' n s := by
  obtain ⟨v, vs, b1, b2⟩ := h.c1
  obtain ⟨v3, d1, d2, d3⟩ := h.c3
  exact ⟨h.c0, ⟨v, vs, b1, b2.widen hF⟩, h.c2, ⟨v3, d1, d2, fun b hb => ⟨hF b (d3 b hb).1, (d3 b hb).2⟩⟩, h.c4, h.c5, h.f0, h.f1, h.f2, h.f3, h.f4, h.f5, h.ne, hg, hm, hl, h.ok⟩

theorem Dk.store2 {w : World} {g m : Nat} {p : Option Nat} {F : Nat → Prop} {n : Nat} {s : St} {l : Nat} (h : Dk w g m p F n s) (hl : l ≤ 9223372036854775807) : Dk (w.setCell ⟨g, 2, none⟩ (.int .i64 (l : Int))) g m p F n { s with left := l } := by
  obtain ⟨cap, a1, a2⟩ := h.c0
  obtain ⟨v, vs, b1, b2⟩ := h.c1
  obtain ⟨v3, d1, d2, d3⟩ := h.c3
  have hk : Keeps (fun k => k = g) w (w.setCell ⟨g, 2, none⟩ (.int .i64 (l : Int))) := Keeps.setCell (S := fun k => k = g) w rfl _
  have hm : ¬ (fun k => k = g) m := fun e => h.ne (by have e' : m = g := e; exact e'.symm)
  have hS : ∀ k, F k → ¬ (fun k => k = g) k := fun k hk e => h.Fg (by have e' : k = g := e; exact e' ▸ hk)
  exact ⟨⟨cap, cell_set_other a1 (by omega), hk.owns a2 (fun b hb => by cases hb; exact hm)⟩, ⟨v, vs, cell_set_other b1 (by omega), b2.keeps hk hS⟩, cell_set_same h.c2, ⟨v3, cell_set_other d1 (by omega), hk.bs d2 (fun b hb => hS b (d3 b hb).1), d3⟩, cell_set_other h.c4 (by omega), cell_set_other h.c5 (by omega),
    by simpa using h.f0, by simpa using h.f1, by simpa using h.f2, by simpa using h.f3, by simpa using h.f4, by simpa using h.f5,
    h.ne, h.Fg, h.Fm, fun k hk' => Nat.lt_of_lt_of_le (h.Fl k hk') hk.size, ⟨h.ok.len, h.ok.n1, h.ok.n2, h.ok.lt, h.ok.pend, hl, h.ok.picks⟩⟩

theorem Dk.store3 {w : World} {g m : Nat} {p : Option Nat} {F : Nat → Prop} {n : Nat} {s : St} {u : Value} {l : List Nat} (h : Dk w g m p F n s) (hu : Bs w u l) (hl : l.length ≤ 140737488355328) (hb : ∀ b, u.ownBlock = some b → F b ∧ p ≠ some b) : Dk (w.setCell ⟨g, 3, none⟩ u) g m p F n { s with picks := l } := by
  obtain ⟨cap, a1, a2⟩ := h.c0
  obtain ⟨v, vs, b1, b2⟩ := h.c1
  obtain ⟨v3, d1, d2, d3⟩ := h.c3
  have hk : Keeps (fun k => k = g) w (w.setCell ⟨g, 3, none⟩ u) := Keeps.setCell (S := fun k => k = g) w rfl _
  have hm : ¬ (fun k => k = g) m := fun e => h.ne (by have e' : m = g := e; exact e'.symm)
  have hS : ∀ k, F k → ¬ (fun k => k = g) k := fun k hk e => h.Fg (by have e' : k = g := e; exact e' ▸ hk)
  exact ⟨⟨cap, cell_set_other a1 (by omega), hk.owns a2 (fun b hb => by cases hb; exact hm)⟩, ⟨v, vs, cell_set_other b1 (by omega), b2.keeps hk hS⟩, cell_set_other h.c2 (by omega), ⟨u, cell_set_same d1, hk.bs hu (fun b hb' => hS b (hb b hb').1), hb⟩, cell_set_other h.c4 (by omega), cell_set_other h.c5 (by omega),
    by simpa using h.f0, by simpa using h.f1, by simpa using h.f2, by simpa using h.f3, by simpa using h.f4, by simpa using h.f5,
    h.ne, h.Fg, h.Fm, fun k hk' => Nat.lt_of_lt_of_le (h.Fl k hk') hk.size, ⟨h.ok.len, h.ok.n1, h.ok.n2, h.ok.lt, h.ok.pend, h.ok.left, hl⟩⟩

theorem Dk.store4 {w : World} {g m : Nat} {p : Option Nat} {F : Nat → Prop} {n : Nat} {s : St} {l : Nat} (h : Dk w g m p F n s)  : Dk (w.setCell ⟨g, 4, none⟩ (.int .i64 (l : Int))) g m p F n { s with ops := l } := by
  obtain ⟨cap, a1, a2⟩ := h.c0
  obtain ⟨v, vs, b1, b2⟩ := h.c1
  obtain ⟨v3, d1, d2, d3⟩ := h.c3
  have hk : Keeps (fun k => k = g) w (w.setCell ⟨g, 4, none⟩ (.int .i64 (l : Int))) := Keeps.setCell (S := fun k => k = g) w rfl _
  have hm : ¬ (fun k => k = g) m := fun e => h.ne (by have e' : m = g := e; exact e'.symm)
  have hS : ∀ k, F k → ¬ (fun k => k = g) k := fun k hk e => h.Fg (by have e' : k = g := e; exact e' ▸ hk)
  exact ⟨⟨cap, cell_set_other a1 (by omega), hk.owns a2 (fun b hb => by cases hb; exact hm)⟩, ⟨v, vs, cell_set_other b1 (by omega), b2.keeps hk hS⟩, cell_set_other h.c2 (by omega), ⟨v3, cell_set_other d1 (by omega), hk.bs d2 (fun b hb => hS b (d3 b hb).1), d3⟩, cell_set_same h.c4, cell_set_other h.c5 (by omega),
    by simpa using h.f0, by simpa using h.f1, by simpa using h.f2, by simpa using h.f3, by simpa using h.f4, by simpa using h.f5,
    h.ne, h.Fg, h.Fm, fun k hk' => Nat.lt_of_lt_of_le (h.Fl k hk') hk.size, ⟨h.ok.len, h.ok.n1, h.ok.n2, h.ok.lt, h.ok.pend, h.ok.left, h.ok.picks⟩⟩

theorem Dk.store5 {w : World} {g m : Nat} {p : Option Nat} {F : Nat → Prop} {n : Nat} {s : St} {b : Bool} (h : Dk w g m p F n s)  : Dk (w.setCell ⟨g, 5, none⟩ (.bool b)) g m p F n { s with on := b } := by
  obtain ⟨cap, a1, a2⟩ := h.c0
  obtain ⟨v, vs, b1, b2⟩ := h.c1
  obtain ⟨v3, d1, d2, d3⟩ := h.c3
  have hk : Keeps (fun k => k = g) w (w.setCell ⟨g, 5, none⟩ (.bool b)) := Keeps.setCell (S := fun k => k = g) w rfl _
  have hm : ¬ (fun k => k = g) m := fun e => h.ne (by have e' : m = g := e; exact e'.symm)
  have hS : ∀ k, F k → ¬ (fun k => k = g) k := fun k hk e => h.Fg (by have e' : k = g := e; exact e' ▸ hk)
  exact ⟨⟨cap, cell_set_other a1 (by omega), hk.owns a2 (fun b hb => by cases hb; exact hm)⟩, ⟨v, vs, cell_set_other b1 (by omega), b2.keeps hk hS⟩, cell_set_other h.c2 (by omega), ⟨v3, cell_set_other d1 (by omega), hk.bs d2 (fun b hb => hS b (d3 b hb).1), d3⟩, cell_set_other h.c4 (by omega), cell_set_same h.c5,
    by simpa using h.f0, by simpa using h.f1, by simpa using h.f2, by simpa using h.f3, by simpa using h.f4, by simpa using h.f5,
    h.ne, h.Fg, h.Fm, fun k hk' => Nat.lt_of_lt_of_le (h.Fl k hk') hk.size, ⟨h.ok.len, h.ok.n1, h.ok.n2, h.ok.lt, h.ok.pend, h.ok.left, h.ok.picks⟩⟩

/-- Nothing is pending any more. -/
theorem Dk.store1 {w : World} {g m : Nat} {p : Option Nat} {F : Nat → Prop} {n : Nat} {s : St} (h : Dk w g m p F n s) : Dk (w.setCell ⟨g, 1, none⟩ (.slice none 0 0)) g m none F n { s with pend := [] } := by
  obtain ⟨cap, a1, a2⟩ := h.c0
  obtain ⟨v, vs, b1, b2⟩ := h.c1
  obtain ⟨v3, d1, d2, d3⟩ := h.c3
  have hk : Keeps (fun k => k = g) w (w.setCell ⟨g, 1, none⟩ (.slice none 0 0)) := Keeps.setCell (S := fun k => k = g) w rfl _
  have hm : ¬ (fun k => k = g) m := fun e => h.ne (by have e' : m = g := e; exact e'.symm)
  have hS : ∀ k, F k → ¬ (fun k => k = g) k := fun k hk e => h.Fg (by have e' : k = g := e; exact e' ▸ hk)
  exact ⟨⟨cap, cell_set_other a1 (by omega), hk.owns a2 (fun b hb => by cases hb; exact hm)⟩, ⟨_, [], cell_set_same b1, ⟨World.ownsRow_nil _ _ _ _, rfl, rfl, by simp, by simp⟩⟩, cell_set_other h.c2 (by omega), ⟨v3, cell_set_other d1 (by omega), hk.bs d2 (fun b hb => hS b (d3 b hb).1), fun b hb => ⟨(d3 b hb).1, by simp⟩⟩, cell_set_other h.c4 (by omega), cell_set_other h.c5 (by omega),
    by simpa using h.f0, by simpa using h.f1, by simpa using h.f2, by simpa using h.f3, by simpa using h.f4, by simpa using h.f5,
    h.ne, h.Fg, h.Fm, fun k hk' => Nat.lt_of_lt_of_le (h.Fl k hk') hk.size, ⟨h.ok.len, h.ok.n1, h.ok.n2, h.ok.lt, by simp, h.ok.left, h.ok.picks⟩⟩

theorem cellsW_at {ps : List (Nat × List Nat)} {vs : List Value} (hl : vs.length = ps.length) (i : Nat) (hi : i < ps.length) :
    (cellsW ps vs)[i * 2]? = some (Value.int .i64 ((ps[i]).1 : Int)) ∧ (cellsW ps vs)[i * 2 + 1]? = some (vs[i]'(by omega)) := by
  induction ps generalizing vs i with
  | nil => simp at hi
  | cons x ps ih =>
    cases vs with
    | nil => simp at hl
    | cons v vs =>
      cases i with
      | zero => simp [cellsW]
      | succ i =>
        have := ih (vs := vs) (by simpa using hl) i (by simpa using hi)
        simp only [cellsW, List.zip_cons_cons, List.flatMap_cons, List.cons_append, List.nil_append, List.getElem_cons_succ] at this ⊢
        rw [show (i + 1) * 2 = i * 2 + 1 + 1 by omega]
        simpa using this

/-- The cells of a pending write. -/
theorem Ws.cells {e : TypeId} {w : World} {p : Option Nat} {F : Nat → Prop} {v : Value} {ps : List (Nat × List Nat)} {vs : List Value} (h : Ws e w p F v ps vs) (i : Nat) (hi : i < ps.length) :
    ∃ b cap, v = .slice (some ⟨b, 0, none⟩) ps.length cap ∧ p = some b ∧ w.cell? ⟨b, i * 2, none⟩ = some (.int .i64 ((ps[i]).1 : Int)) ∧ w.cell? ⟨b, i * 2 + 1, none⟩ = some (vs[i]'(by have := h.len; omega)) := by
  obtain ⟨ao, cap, rfl, _, hg⟩ := owns_form h.row
  obtain ⟨b, rfl, _⟩ := hg (by omega)
  obtain ⟨c1, c2⟩ := cellsW_at h.len i hi
  have e1 := h.row.cells (g := b) rfl _ _ c1
  have e2 := h.row.cells (g := b) rfl _ _ c2
  rw [Addr.add_lit, Nat.zero_add] at e1 e2
  exact ⟨b, cap, rfl, h.own.symm, e1, e2⟩



end Go.Proofs.YtjhbljkoapbkfaaGreat

namespace Go.Proofs.YtjhbljkoapbkfaaGreat
open Go.RowKit Go.Attic

theorem min_if (a b : Nat) : (if b < a then b else a) = min a b := by
  rw [Nat.min_def]; split <;> split <;> omega

set_option maxRecDepth 100000 in
set_option maxHeartbeats 1000000 in
theorem settle_yes {w : World} {g m : Nat} {p : Option Nat} {F : Nat → Prop} {n : Nat} {s : St} (h : Dk w g m p F n s) (vp : Value) (picks : List Nat) (hv : Bs w vp picks) (hvm : 0 < picks.length → ∀ b, vp.ownBlock = some b → b ≠ m) (hpl : s.pend.length ≤ 1000000) (hpk : picks.length ≤ 140737488355328) :
    Calls Tryz.prog 79 #[.pointer (some ⟨g, 0, none⟩), vp] w fun e w' => e = .returned (.tuple #[]) ∧ Dk w' g m none F n { s with med := settleL s.med s.pend picks, pend := [] } ∧ Keeps (fun k => k = g ∨ k = m) w w' := by
  obtain ⟨pv, vs, c1, hW⟩ := h.c1
  obtain ⟨pao, pcap, rfl, hpc, hpg⟩ := owns_form hW.row
  have hv' := hv
  have hvx := hv.lt
  obtain ⟨ao, vcap, rfl, hvc, hvn, _, hcell⟩ := hv
  have Hcell := hide hcell
  have H := hide h
  have HW := hide hW
  have Hpg := hide hpg
  have hgl := h.gl
  have f1 := h.f1
  obtain ⟨q, hq⟩ : ∃ q, min s.pend.length picks.length = q := ⟨_, rfl⟩
  have hq1 : q ≤ s.pend.length := by omega
  have hq2 : q ≤ picks.length := by omega
  have Hq := hide hq
  clear hcell h hW hpg hq hvn
  go_enter Tryz.func79, Tryz.ntmps79
  go_wp2_with fail
  go_quiet (fail)
  go_wp2_with fail
  case' inl => rw [show picks.length = q by have := Hq.out; omega]
  case' inr => rw [show s.pend.length = q by have := Hq.out; omega]
  all_goals
    go_loopw [20] (fun i wr => ∃ k : Nat, k ≤ q ∧ i = .int .i64 k ∧ Dk wr g m p F n { s with med := settleL s.med (s.pend.take k) (picks.take k) } ∧ Keeps (fun k => k = m) w wr) (fun i _ => q - (intOf i).toNat)
    case atStart => exact ⟨0, by omega, rfl, by simpa [settleL] using H.out.mono (below_drewN (Below.refl _ _) _), Keeps.drewN _ _⟩
    case round =>
      obtain ⟨k, hk, rfl, hD, k1⟩ := hrel
      have c1' := k1.cell c1 H.out.ne
      have f1' : wr.frozen? ⟨g, 1, none⟩ = false := by rw [k1.frozen (a := ⟨g, 1, none⟩) hgl H.out.ne]; exact f1
      by_cases hkq : k < q
      · have hks : k < s.pend.length := by omega
        have hkp : k < picks.length := by omega
        obtain ⟨pv, vs', c1r, hWr⟩ := hD.c1
        rw [c1'] at c1r
        obtain rfl := Option.some.inj c1r
        obtain ⟨pb, pcap', e1, hpb, cb, cv⟩ := hWr.cells k hks
        injection e1 with e1 _ e3
        subst e1
        subst e3
        obtain ⟨hbk, hbF⟩ := hWr.bs k hks (by have := hWr.len; omega)
        generalize (vs'[k]'(by have := hWr.len; omega)) = vk at *
        have hokk := hD.ok.pend (s.pend[k]) (List.getElem_mem hks)
        obtain ⟨kb, koff, rfl, hkc⟩ := Hcell.out (by omega)
        have hpk1 := k1.cell (hkc k hkp) (fun e => hvm (by omega) kb rfl e)
        have hpx := getD_lt hvx k
        have hst := settleL_take s.med s.pend picks k hks hkp
        obtain ⟨med1, hmed1⟩ : ∃ x, settleL s.med (s.pend.take k) (picks.take k) = x := ⟨_, rfl⟩
        rw [hmed1] at hD hst
        generalize picks.getD k 0 = pk at *
        generalize s.pend[k] = wk at *
        obtain ⟨blk, byt⟩ := wk
        obtain ⟨hok1, hok2, hok3⟩ := hokk
        dsimp only at hok1 hok2 hok3 hbk hst cb
        have hbk' := hbk
        obtain ⟨vao, vcap2, rfl, hbk2, _⟩ := hbk'
        rw [hok2] at hbk hbF cv
        have HD := hide hD
        have Hst := hide hst
        have Hbk := hide hbk
        have Hok2 := hide hok2
        clear hD hst hmed1 hbk hWr hkc c1r hok2
        obtain ⟨wb, hwb⟩ : ∃ wb, wr.alloc (.cells #[.int .i64 (blk : Int), .slice vao 256 vcap2] 131) = wb := ⟨_, rfl⟩
        have kb0 : Keeps (fun k => k = m) wr wb.drew := by rw [← hwb]; exact (Keeps.alloc wr _).trans (Keeps.drew _)
        have S0 : wb.drew.cell? ⟨wr.heap.size, 0, none⟩ = some (.int .i64 (blk : Int)) ∧ wb.drew.cell? ⟨wr.heap.size, 1, none⟩ = some (.slice vao 256 vcap2) ∧ wb.drew.cell? ⟨kb, koff + k, none⟩ = some (.int .u8 (pk : Int)) := by
          refine ⟨by rw [← hwb]; simp, by rw [← hwb]; simp, ?_⟩
          rw [← hwb]
          exact (((Keeps.alloc (S := fun _ => False) wr _).trans (Keeps.drew _)).cell hpk1 id)
        have hzm : wr.heap.size ≠ m := by have := H.out.ml; have := k1.size; omega
        have hkm : kb ≠ m := fun e => hvm (by omega) kb rfl e
        have hD1 : Dk wb.drew g m p F n { s with med := med1 } := HD.out.mono (by rw [← hwb]; exact ((Below.refl _ _).alloc (Nat.le_refl _) _).drew)
        have hb1 : Bs wb.drew (.slice vao 256 vcap2) byt := kb0.bs Hbk.out (fun b hb e => by have e' : b = m := e; exact HD.out.Fm (e' ▸ (hbF b hb).1))
        have HD1 := hide hD1
        have Hb1 := hide hb1
        clear hD1 hb1
        go_wp2_with fail
        go_region_held3 (fun w' => w'.cell? ⟨wr.heap.size, 0, none⟩ = some (.int .i64 (blk : Int)) ∧ w'.cell? ⟨wr.heap.size, 1, none⟩ = some (.slice vao 256 vcap2) ∧ w'.cell? ⟨kb, koff + k, none⟩ = some (.int .u8 (pk : Int)))
          (first | exact S0 | exact ⟨k2.cell S0.1 hzm, k2.cell S0.2.1 hzm, k2.cell S0.2.2 hkm⟩)
          (first
            | (go_at_call 90; refine (reach_yes HD1.out blk _ byt pk hok1 Hb1.out Hok2.out (fun e => HD.out.Fm (hbF m e).1) hpx).mono ?_; rintro e w2 ⟨rfl, hD2, k2⟩))
        have k3 : Keeps (fun k => k = m) w w2 := (k1.trans kb0).trans k2
        clear S0 HD1 Hb1 k2 kb0 hwb
        rw [← Hst.out] at hD2
        have HD2 := hide hD2
        clear hD2
        go_wp2_with fail
        go_roundw
        case rel => exact ⟨k + 1, by omega, by go_num, HD2.out, k3⟩
        case measure => simp [intOf]; omega
      · obtain rfl : k = q := by omega
        have HD := hide hD
        clear hD
        go_wp2_with fail
        go_end0
        refine ⟨rfl, ?_, ?_⟩
        · have hD := HD.out.store1
          dsimp only at hD
          rw [← Hq.out, settleL_min] at hD
          exact hD
        · exact (k1.mono (fun _ h => .inr h)).trans (Keeps.setCell wr (.inl rfl) _)

set_option maxRecDepth 100000 in
set_option maxHeartbeats 400000 in
theorem powerOff_yes {w : World} {g m : Nat} {p : Option Nat} {F : Nat → Prop} {n : Nat} {s : St} (h : Dk w g m p F n s) (vp : Value) (picks : List Nat) (hv : Bs w vp picks) (hvm : 0 < picks.length → ∀ b, vp.ownBlock = some b → b ≠ m) (hpl : s.pend.length ≤ 1000000) (hpk : picks.length ≤ 140737488355328) :
    Calls Tryz.prog 61 #[.pointer (some ⟨g, 0, none⟩), vp] w fun e w' => e = .returned (.tuple #[]) ∧ Dk w' g m none F n (crashed s picks) ∧ Keeps (fun k => k = g ∨ k = m) w w' := by
  go_enter Tryz.func61, Tryz.ntmps61
  go_wp2_with fail
  refine (settle_yes h vp picks hv hvm hpl hpk).mono ?_
  rintro e w1 ⟨rfl, h1, k1⟩
  have c2 := h1.c2
  obtain ⟨v3, c3, _⟩ := h1.c3
  have c5 := h1.c5
  have f2 := h1.f2
  have f3 := h1.f3
  have f5 := h1.f5
  have HD := hide (((h1.store2 (l := 0) (by omega)).store3 (u := .slice none 0 0) (l := []) (Bs.nil _) (by simp) (by simp [Value.ownBlock])).store5 (b := false))
  clear h1
  go_wp2
  go_end0
  refine ⟨rfl, HD.out, ?_⟩
  exact ((k1.trans (Keeps.setCell w1 (.inl rfl) _)).trans (Keeps.setCell _ (.inl rfl) _)).trans (Keeps.setCell _ (.inl rfl) _)

theorem Own.gm {g m : Nat} {F : Nat → Prop} : ∀ k, (k = g ∨ k = m) → Own g m F k := fun k h => h.elim .inl (fun h => .inr (.inl h))

set_option maxRecDepth 100000 in
set_option maxHeartbeats 400000 in
theorem crash_yes {w : World} {g m : Nat} {p : Option Nat} {F : Nat → Prop} {n : Nat} {s : St} (h : Dk w g m p F n s) (vp : Value) (picks : List Nat) (hv : Bs w vp picks) (hvm : 0 < picks.length → ∀ b, vp.ownBlock = some b → b ≠ m) (hpl : s.pend.length ≤ 1000000) (hpk : picks.length ≤ 140737488355328) :
    Calls Tryz.prog 26 #[.pointer (some ⟨g, 0, none⟩), vp] w fun e w' => e = .returned (.int .i64 (crashS s picks).2) ∧ Turn w g m F n (crashS s picks).1 w' := by
  have hp := powered_yes h
  cases hon : s.on with
  | false =>
    have e : crashS s picks = (s, 5) := by simp [crashS, hon]
    rw [e]; clear e
    rw [hon] at hp
    go_enter Tryz.func26, Tryz.ntmps26
    go_wp2_with fail
    refine hp.mono ?_
    rintro e w' ⟨rfl, rfl⟩
    go_wp2
    go_ret
    exact ⟨rfl, p, F, h, Keeps.refl _ _, fun _ h => .inl h⟩
  | true =>
    have e : crashS s picks = (crashed s picks, 0) := by simp [crashS, hon]
    rw [e]; clear e
    rw [hon] at hp
    go_enter Tryz.func26, Tryz.ntmps26
    go_wp2_with fail
    refine hp.mono ?_
    rintro e w' ⟨rfl, rfl⟩
    go_wp2_with fail
    refine (powerOff_yes h vp picks hv hvm hpl hpk).mono ?_
    rintro e w1 ⟨rfl, h1, k1⟩
    go_wp2
    go_ret
    exact ⟨rfl, none, F, h1, k1.mono Own.gm, fun _ h => .inl h⟩

/-- What an operation leaves. -/
def OperP (w : World) (g m : Nat) (p : Option Nat) (F : Nat → Prop) (n : Nat) (s : St × Int) (w' : World) : Prop :=
  ∃ p', Dk w' g m p' F n s.1 ∧ Keeps (fun k => k = g ∨ k = m) w w' ∧ (s.2 = 0 → p' = p)

set_option maxRecDepth 100000 in
set_option maxHeartbeats 400000 in
theorem operate_yes {w : World} {g m : Nat} {p : Option Nat} {F : Nat → Prop} {n : Nat} {s : St} (h : Dk w g m p F n s) (hpl : s.pend.length ≤ 1000000) (ho : s.ops ≤ 1000000) :
    Calls Tryz.prog 78 #[.pointer (some ⟨g, 0, none⟩)] w fun e w' => e = .returned (.int .i64 (operS s).2) ∧ OperP w g m p F n (operS s) w' := by
  have c2 := h.c2
  have c4 := h.c4
  have f2 := h.f2
  have f4 := h.f4
  have hleft := h.ok.left
  have h4 := h.store4 (l := s.ops + 1)
  have e4 : ((s.ops + 1 : Nat) : Int) = (s.ops : Int) + 1 := by omega
  rw [e4] at h4
  have k4 : Keeps (fun k => k = g ∨ k = m) w (w.setCell ⟨g, 4, none⟩ (.int .i64 ((s.ops : Int) + 1))) := Keeps.setCell w (.inl rfl) _
  have H4 := hide h4
  have K4 := hide k4
  clear h4 e4 k4
  by_cases h0 : s.left = 0
  · have e : operS s = ({ s with ops := s.ops + 1 }, 0) := by simp [operS, h0]
    rw [e]; clear e
    rw [h0] at c2
    go_enter Tryz.func78, Tryz.ntmps78
    go_wp2
    go_ret
    exact ⟨rfl, p, H4.out, K4.out, fun _ => rfl⟩
  · by_cases h1 : s.left = 1
    · have e : operS s = (crashed { s with ops := s.ops + 1 } s.picks, 5) := by simp [operS, h1]
      rw [e]; clear e
      rw [h1] at c2
      obtain ⟨v3, c3, b3, d3⟩ := h.c3
      have h2 : Dk ((w.setCell ⟨g, 4, none⟩ (.int .i64 ((s.ops : Int) + 1))).setCell ⟨g, 2, none⟩ (.int .i64 0)) g m p F n { s with ops := s.ops + 1, left := 0 } := H4.out.store2 (l := 0) (by omega)
      have k2 : Keeps (fun k => k = g ∨ k = m) w ((w.setCell ⟨g, 4, none⟩ (.int .i64 ((s.ops : Int) + 1))).setCell ⟨g, 2, none⟩ (.int .i64 0)) := K4.out.trans (Keeps.setCell _ (.inl rfl) _)
      have b3' := k2.bs b3 (fun b hb e => by rcases e with e | e; exact h.Fg (e ▸ (d3 b hb).1); exact h.Fm (e ▸ (d3 b hb).1))
      have Hp := hide (powerOff_yes h2 v3 s.picks b3' (fun _ b hb e => h2.Fm (e ▸ (d3 b hb).1)) (by simpa using hpl) h2.ok.picks)
      have K2 := hide k2
      clear b3' k2 d3 h2
      obtain ⟨ao3, cap3, rfl, _⟩ := b3
      go_enter Tryz.func78, Tryz.ntmps78
      go_wp2_with fail
      refine (Hp.out).mono ?_
      rintro e w1 ⟨rfl, h5, k5⟩
      go_wp2
      go_ret
      exact ⟨rfl, none, h5, K2.out.trans k5, fun h => by simp at h⟩
    · have e : operS s = ({ s with ops := s.ops + 1, left := s.left - 1 }, 0) := by simp [operS, h0, h1]
      rw [e]; clear e
      have h2 := H4.out.store2 (l := s.left - 1) (by omega)
      have e5 : ((s.left - 1 : Nat) : Int) = (s.left : Int) - 1 := by omega
      rw [e5] at h2
      have H2 := hide h2
      clear h2 e5
      have h2 : 2 ≤ s.left := by omega
      clear h0 h1
      have h3 : ((s.left : Int) == 0) = false := by simp; omega
      go_enter Tryz.func78, Tryz.ntmps78
      go_wp2
      go_ret
      exact ⟨rfl, p, H2.out, K4.out.trans (Keeps.setCell _ (.inl rfl) _), fun _ => rfl⟩

set_option maxRecDepth 100000 in
set_option maxHeartbeats 400000 in
theorem restart_yes {w : World} {g m : Nat} {p : Option Nat} {F : Nat → Prop} {n : Nat} {s : St} (h : Dk w g m p F n s) :
    Calls Tryz.prog 28 #[.pointer (some ⟨g, 0, none⟩)] w fun e w' => e = .returned (.int .i64 (restartS s).2) ∧ Turn w g m F n (restartS s).1 w' := by
  have c5 := h.c5
  have f5 := h.f5
  cases hon : s.on with
  | true =>
    have e : restartS s = (s, 7) := by simp [restartS, hon]
    rw [e]; clear e
    rw [hon] at c5
    go_enter Tryz.func28, Tryz.ntmps28
    go_wp2_with fail
    refine (isMade_yes h).mono ?_
    rintro e w' ⟨rfl, rfl⟩
    go_wp2
    go_ret
    exact ⟨rfl, p, F, h, Keeps.refl _ _, fun _ h => .inl h⟩
  | false =>
    have e : restartS s = ({ s with on := true }, 0) := by simp [restartS, hon]
    rw [e]; clear e
    rw [hon] at c5
    have H5 := hide (h.store5 (b := true))
    go_enter Tryz.func28, Tryz.ntmps28
    go_wp2_with fail
    refine (isMade_yes h).mono ?_
    rintro e w' ⟨rfl, rfl⟩
    go_wp2
    go_ret
    exact ⟨rfl, p, F, H5.out, Keeps.setCell _ (.inl rfl) _, fun _ h => .inl h⟩



end Go.Proofs.YtjhbljkoapbkfaaGreat
