/- Contracts: block, sector, reach. -/
import Derived.Test.YtjcmmigbkhiplaaD1
import Derived.Deep.RegionHeld3
set_option linter.unusedSimpArgs false
set_option linter.unusedVariables false
namespace Go.Proofs.Ytjcmmigbkhiplaa
open Go.RowKit Go.Attic

set_option maxRecDepth 100000 in
set_option maxHeartbeats 400000 in
/-- A block of the medium, the medium's own bytes. -/
theorem block_yes {w : World} {g m cap n L i : Nat} (c0 : w.cell? ⟨g, 0, none⟩ = some (.slice (some ⟨m, 0, none⟩) L cap)) (hL : L = 256 * n) (hc : L ≤ cap) (hi : i < n) (hn : n ≤ 2048) :
    Calls Try.prog 52 #[.pointer (some ⟨g, 0, none⟩), .int .i64 (i : Int)] w fun e w' => e = .returned (.slice (some ⟨m, i * 256, none⟩) 256 (cap - i * 256)) ∧ w = w' := by
  subst hL
  have h1 : 256 * i + 256 ≤ cap := by omega
  have h2 : (i : Int) * 256 ≤ 256 * n := by omega
  go_enter Try.func52, Try.ntmps52
  go_wp2
  go_ret
  exact ⟨by simp, rfl⟩

set_option maxRecDepth 100000 in
set_option maxHeartbeats 400000 in
theorem sector_yes {w : World} {m off cap k : Nat} (hc : 256 ≤ cap) (hk : k < 4) :
    Calls Try.prog 84 #[.slice (some ⟨m, off, none⟩) 256 cap, .int .i64 (k : Int)] w fun e w' => e = .returned (.slice (some ⟨m, off + k * 64, none⟩) 64 (cap - k * 64)) ∧ w = w' := by
  have h1 : 64 * k + 64 ≤ cap := by omega
  have h2 : (k : Int) * 64 ≤ 256 := by omega
  go_enter Try.func84, Try.ntmps84
  go_wp2
  go_ret
  exact ⟨by simp, rfl⟩

theorem shr_and (x k : Nat) (hx : x < 256) (hk : k < 8) : (bits .and .u8 ((x : Int) / 2 ^ k) 1 == 1) = x.testBit k := by
  have e : (x : Int) / 2 ^ k = ((x / 2 ^ k : Nat) : Int) := by simp
  have h2 : x / 2 ^ k < 256 := Nat.lt_of_le_of_lt (Nat.div_le_self _ _) hx
  rw [e, show (1 : Int) = ((1 : Nat) : Int) from rfl, u8_and_nat _ _ h2 (by omega)]
  rw [Nat.testBit_eq_decide_div_mod_eq, Nat.and_one_is_mod]
  rw [Bool.eq_iff_iff]
  simp only [beq_iff_eq, decide_eq_true_eq]
  omega

/-- The medium alone turns. -/
theorem Dk.setMed {w w' : World} {g m : Nat} {p : Option Nat} {F : Nat → Prop} {n : Nat} {s : St} {cap : Nat} {med : List Nat} (h : Dk w g m p F n s) (c0 : w.cell? ⟨g, 0, none⟩ = some (.slice (some ⟨m, 0, none⟩) s.med.length cap))
    (hk : Keeps (fun k => k = m) w w') (ho : w'.ownsRow 0 5 1 (.slice (some ⟨m, 0, none⟩) s.med.length cap) s.med.length (cellsB med)) (hx : ∀ x ∈ med, x < 256) : Dk w' g m p F n { s with med := med } := by
  have hlen : med.length = s.med.length := by have := ho.1; simp [cellsB] at this; omega
  obtain ⟨v, vs, b1, b2⟩ := h.c1
  obtain ⟨v3, d1, d2, d3⟩ := h.c3
  have hl := h.gl
  have hg : ¬ (fun k => k = m) g := h.ne
  have hS : ∀ k, F k → ¬ (fun k => k = m) k := fun k hk e => h.Fm (by have e' : k = m := e; exact e' ▸ hk)
  exact ⟨⟨cap, by dsimp only; rw [hlen]; exact hk.cell c0 hg, by dsimp only; rw [hlen]; exact ho⟩, ⟨v, vs, hk.cell b1 hg, b2.keeps hk hS⟩, hk.cell h.c2 hg, ⟨v3, hk.cell d1 hg, hk.bs d2 (fun b hb => hS b (d3 b hb).1), d3⟩, hk.cell h.c4 hg, hk.cell h.c5 hg,
    by rw [hk.frozen (a := ⟨g, 0, none⟩) hl hg]; exact h.f0, by rw [hk.frozen (a := ⟨g, 1, none⟩) hl hg]; exact h.f1, by rw [hk.frozen (a := ⟨g, 2, none⟩) hl hg]; exact h.f2, by rw [hk.frozen (a := ⟨g, 3, none⟩) hl hg]; exact h.f3, by rw [hk.frozen (a := ⟨g, 4, none⟩) hl hg]; exact h.f4, by rw [hk.frozen (a := ⟨g, 5, none⟩) hl hg]; exact h.f5,
    h.ne, h.Fg, h.Fm, fun k hk' => Nat.lt_of_lt_of_le (h.Fl k hk') hk.size, h.ok.med hlen hx⟩

set_option maxRecDepth 100000 in
set_option maxHeartbeats 1000000 in
theorem reach_yes {w : World} {g m : Nat} {p : Option Nat} {F : Nat → Prop} {n : Nat} {s : St} (h : Dk w g m p F n s) (b : Nat) (v : Value) (bytes : List Nat) (pick : Nat) (hb : b < n) (hv : Bs w v bytes) (hl : bytes.length = 256) (hm : v.ownBlock ≠ some m) (hp : pick < 256) :
    Calls Try.prog 77 #[.pointer (some ⟨g, 0, none⟩), .agg #[.int .i64 (b : Int), v], .int .u8 (pick : Int)] w fun e w' => e = .returned (.tuple #[]) ∧ Dk w' g m p F n { s with med := reachL s.med b bytes pick } ∧ Keeps (fun k => k = m) w w' := by
  obtain ⟨cap, c0, ho⟩ := h.c0
  have hn := h.ok.n2
  have hlen := h.ok.len
  have hlt := h.ok.lt
  have hcap : s.med.length ≤ cap := (Bs.of_owns ho hlt).cap
  have hml := h.ml
  have hgl := h.gl
  have vlt := hv.lt
  have hv' := hv
  obtain ⟨ao, vcap, rfl, hvc, hvn, hvx, hcell⟩ := hv
  obtain ⟨vb, voff, rfl, hcel⟩ := hcell (by omega)
  rw [hl] at hv' hvc hm ⊢
  have hvb : vb ≠ m := by intro e; exact hm (by rw [e]; rfl)
  have hinf : (Try.prog.info? 5).map (·.size) = some 1 := by kernel_rfl
  have H := hide h
  have HL := hide hlen
  have Hcell : Hid (∀ i, i < 256 → w.cell? ⟨vb, voff + i, none⟩ = some (.int .u8 ((bytes.getD i 0 : Nat) : Int))) := fun i hi => hcel i (by omega)
  have Hl := hide hl
  clear h hlen hcell hcel hl hm
  go_enter Try.func77, Try.ntmps77
  go_wp2_with fail
  have c0' : (w.alloc (.cells #[.int .i64 (b : Int), .slice (some ⟨vb, voff, none⟩) 256 vcap] 93)).cell? ⟨g, 0, none⟩ = some (.slice (some ⟨m, 0, none⟩) s.med.length cap) := (Keeps.alloc (S := fun _ => False) w _).cell c0 id
  refine (block_yes c0' HL.out hcap hb hn).mono ?_
  rintro e w' ⟨rfl, rfl⟩
  obtain ⟨w0, hw0⟩ : ∃ w0, w.alloc (.cells #[.int .i64 (b : Int), .slice (some ⟨vb, voff, none⟩) 256 vcap] 93) = w0 := ⟨_, rfl⟩
  have k0 : Keeps (fun k => k = m) w w0 := hw0 ▸ Keeps.alloc w _
  have bx0 : w0.cell? ⟨w.heap.size, 1, none⟩ = some (.slice (some ⟨vb, voff, none⟩) 256 vcap) := by rw [← hw0]; simp
  have o0 : w0.ownsRow 0 5 1 (.slice (some ⟨m, 0, none⟩) s.med.length cap) s.med.length (cellsB (reachK s.med b bytes pick 0)) := by
    rw [reachK_zero, ← hw0]
    exact ho.alloc _
  rw [hw0]
  go_wp2_with fail
  have Ho := hide ho
  have Hc0 := hide c0
  clear hw0 c0' c0 ho
  go_loopw [12] (fun i wr => ∃ k : Nat, k ≤ 4 ∧ i = .int .i64 k ∧ wr.ownsRow 0 5 1 (.slice (some ⟨m, 0, none⟩) s.med.length cap) s.med.length (cellsB (reachK s.med b bytes pick k)) ∧ Keeps (fun k => k = m) w wr ∧ wr.cell? ⟨w.heap.size, 1, none⟩ = some (.slice (some ⟨vb, voff, none⟩) 256 vcap)) (fun i _ => 4 - (intOf i).toNat)
  case atStart => exact ⟨0, by omega, rfl, o0, k0, bx0⟩
  case round =>
    obtain ⟨k, hk, rfl, o1, k1, bx1⟩ := hrel
    clear o0 k0 bx0
    by_cases hk4 : k < 4
    · have ht := shr_and pick k hp (by omega)
      cases hbit : pick.testBit k with
      | false =>
        rw [hbit] at ht
        have o2 := o1
        rw [← reachK_skip _ _ _ _ _ hbit] at o2
        have Ho2 := hide o2
        clear o1 o2 hbit
        go_wp2_with fail
        exact ⟨⟨k + 1, by omega, by go_num, Ho2.out, k1, bx1⟩, by simp [intOf]; omega⟩
      | true =>
        rw [hbit] at ht
        have Hb := hide hbit
        clear hbit
        have S0 : wr.drew.cell? ⟨w.heap.size, 1, none⟩ = some (.slice (some ⟨vb, voff, none⟩) 256 vcap) := bx1
        have hne : w.heap.size ≠ m := by omega
        have hsrc : ∀ j u, (cellsB ((bytes.drop (k * 64)).take 64))[j]? = some u → wr.drew.cell? ((⟨vb, voff + k * 64, none⟩ : Addr).add j) = some u := by
          intro j u hj
          have hjl : j < 64 := by have := (List.getElem?_eq_some_iff.1 hj).1; simp [cellsB] at this; omega
          have e1 := k1.cell (Hcell.out (k * 64 + j) (by omega)) hvb
          rw [Addr.add_lit, Nat.add_assoc]
          rw [show wr.drew.cell? ⟨vb, voff + (k * 64 + j), none⟩ = wr.cell? ⟨vb, voff + (k * 64 + j), none⟩ from rfl, e1, ← hj]
          have hj2 : k * 64 + j < bytes.length := by rw [Hl.out]; omega
          simp [cellsB, List.getElem?_take, hjl, List.getElem?_drop, List.getD_eq_getElem?_getD, hj2]
        have hcl : ((bytes.drop (k * 64)).take 64).length = 64 := by have := Hl.out; simp; omega
        have hfit : b * 256 + k * 64 + (cellsB ((bytes.drop (k * 64)).take 64)).length ≤ s.med.length := by rw [cellsB_length, hcl, HL.out]; omega
        have hcl2 : (cellsB ((bytes.drop (k * 64)).take 64)).length = Nat.min 64 64 := by rw [cellsB_length, hcl]; rfl
        have hcap2 : 256 ≤ cap - b * 256 := by have := HL.out; omega
        have o1' := World.ownsRow.drew o1
        have Hcl := hide hcl
        clear o1 hcl
        go_wp2_with fail
        go_region_held3 (fun w' => w'.cell? ⟨w.heap.size, 1, none⟩ = some (.slice (some ⟨vb, voff, none⟩) 256 vcap))
          (first | exact S0 | exact k2.cell S0 hne)
          (first
            | (go_at_call 84; refine (sector_yes (by omega) hk4).mono ?_; rintro e wE ⟨rfl, rfl⟩)
            | (refine step_copy_own rfl (.tmp 22) (.tmp 26) 37 37 rfl 5 Try.underlying37 hinf m (b * 256 + k * 64) 64 _ ⟨vb, voff + k * 64, none⟩ 64 _ rfl rfl s.med.length cap _ o1' (cellsB ((bytes.drop (k * 64)).take 64)) hcl2 hsrc hfit (cellsB_oneCell _) ?_; intro w2 o2 k2))
        rw [cellsB_splice, ← reachK_copy _ _ _ _ _ n Hb.out hk4 hb HL.out Hl.out] at o2
        have Ho2 := hide o2
        have bx2 := k2.cell S0 hne
        have k3 : Keeps (fun k => k = m) w w2 := (k1.trans (Keeps.drew wr)).trans k2
        clear o2 o1' hsrc k2 S0 bx1
        go_wp2_with fail
        exact ⟨⟨k + 1, by omega, by go_num, Ho2.out, k3, bx2⟩, by simp [intOf]; omega⟩
    · obtain rfl : k = 4 := by omega
      have Ho1 := hide o1
      clear o1
      go_wp2_with fail
      go_end0
      exact ⟨rfl, H.out.setMed Hc0.out k1 Ho1.out (reachK_lt _ _ _ _ _ hlt vlt), k1⟩


end Go.Proofs.Ytjcmmigbkhiplaa
