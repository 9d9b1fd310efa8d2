/- Contract: the document's own reach. -/
import Derived.Test.YtjcmmigbkhiplaaQ5
set_option linter.unusedSimpArgs false
set_option linter.unusedVariables false
namespace Go.Proofs.Ytjcmmigbkhiplaa
open Go.RowKit Go.Attic

theorem owns_byte {w : World} {base : Nat} {n cap g : Nat} {l : List Nat} (h : w.ownsRow base 5 1 (.slice (some ⟨g, 0, none⟩) n cap) n (cellsB l)) (k x : Nat) :
    (w.setCell ⟨g, k, none⟩ (.int .u8 (x : Int))).ownsRow base 5 1 (.slice (some ⟨g, 0, none⟩) n cap) n (cellsB (l.set k x)) := by
  have := (h.stored k (.int .u8 (x : Int))).1
  rw [show cellsB (l.set k x) = (cellsB l).set k (.int .u8 (x : Int)) by simp only [cellsB, List.map_set]]
  exact this
theorem owns_cell {w : World} {base : Nat} {n cap g : Nat} {l : List Nat} (h : w.ownsRow base 5 1 (.slice (some ⟨g, 0, none⟩) n cap) n (cellsB l)) (hn : n = l.length) (k : Nat) (hk : k < l.length) :
    w.cell? ⟨g, k, none⟩ = some (.int .u8 ((l.getD k 0 : Nat) : Int)) := by
  rw [h.cellAt k (by omega)]
  simp [cellsB, List.getD, hk]


/-- A block behind the bytes below k of a write. -/
def mixK (old bytes : List Nat) (pick k : Nat) : List Nat := (List.range 256).map fun j => if j < k ∧ pick.testBit (j / 64) = true then bytes.getD j 0 else old.getD j 0
theorem mixK_length (old bytes : List Nat) (pick k : Nat) : (mixK old bytes pick k).length = 256 := by simp only [mixK, List.length_map, List.length_range]
theorem mixK_getD (old bytes : List Nat) (pick k j : Nat) (hj : j < 256) : (mixK old bytes pick k).getD j 0 = if j < k ∧ pick.testBit (j / 64) = true then bytes.getD j 0 else old.getD j 0 := by
  simp [mixK, List.getD_eq_getElem?_getD, hj]
theorem mixK_zero (old bytes : List Nat) (pick : Nat) (h : old.length = 256) : mixK old bytes pick 0 = old := by
  refine ext_getD (by rw [mixK_length, h]) fun j hj => ?_
  rw [mixK_length] at hj
  rw [mixK_getD _ _ _ _ _ hj, if_neg (by omega)]
theorem mixK_skip (old bytes : List Nat) (pick k : Nat) (h : pick.testBit (k / 64) = false) : mixK old bytes pick (k + 1) = mixK old bytes pick k := by
  refine ext_getD (by rw [mixK_length, mixK_length]) fun j hj => ?_
  rw [mixK_length] at hj
  rw [mixK_getD _ _ _ _ _ hj, mixK_getD _ _ _ _ _ hj]
  by_cases he : j = k
  · subst he; rw [if_neg (by rw [h]; simp), if_neg (by rw [h]; simp)]
  · have : j < k + 1 ↔ j < k := by omega
    simp only [this]
theorem mixK_set (old bytes : List Nat) (pick k : Nat) (hk : k < 256) (h : pick.testBit (k / 64) = true) : (mixK old bytes pick k).set k (bytes.getD k 0) = mixK old bytes pick (k + 1) := by
  refine ext_getD (by rw [List.length_set, mixK_length, mixK_length]) fun j hj => ?_
  rw [List.length_set, mixK_length] at hj
  rw [mixK_getD _ _ _ _ _ hj]
  simp only [List.getD_eq_getElem?_getD, List.getElem?_set]
  by_cases he : k = j
  · subst he
    rw [if_pos rfl, if_pos (by rw [mixK_length]; omega), if_pos ⟨by omega, h⟩]; rfl
  · rw [if_neg he]
    have := mixK_getD old bytes pick k j hj
    rw [List.getD_eq_getElem?_getD] at this
    rw [this]
    have h2 : j < k + 1 ↔ j < k := by omega
    simp only [h2, List.getD_eq_getElem?_getD]
theorem mixK_lt {old bytes : List Nat} (pick k : Nat) (h1 : ∀ x ∈ old, x < 256) (h2 : ∀ x ∈ bytes, x < 256) : ∀ x ∈ mixK old bytes pick k, x < 256 := by
  intro x hx
  obtain ⟨i, hi, rfl⟩ := mem_getD hx
  rw [mixK_length] at hi
  rw [mixK_getD _ _ _ _ _ hi]
  split
  · exact getD_lt h2 _
  · exact getD_lt h1 _

theorem block_mix (med : List Nat) (b : Nat) (bytes : List Nat) (pick n : Nat) (hb : b < n) (hl : med.length = 256 * n) : blockL (reachL med b bytes pick) b = mixK (blockL med b) bytes pick 256 := by
  have h1 : (blockL (reachL med b bytes pick) b).length = 256 := blockL_len _ _ n hb (by rw [reachL_length, hl])
  refine ext_getD (by rw [h1, mixK_length]) fun j hj => ?_
  rw [h1] at hj
  have g : ∀ m : List Nat, (blockL m b).getD j 0 = m.getD (256 * b + j) 0 := fun m => by simp [blockL, List.getD_eq_getElem?_getD, List.getElem?_take, hj, List.getElem?_drop]
  rw [g, mixK_getD _ _ _ _ _ hj, g]
  unfold reachL
  rw [reachK_getD _ _ _ _ _ _ (by omega)]
  have e1 : (256 * b + j) / 256 = b := by omega
  have e2 : (256 * b + j) % 256 = j := by omega
  rw [e1, e2]
  by_cases h : pick.testBit (j / 64) = true
  · rw [if_pos ⟨rfl, by omega, h⟩, if_pos ⟨hj, h⟩]
  · rw [if_neg (fun x => h x.2.2), if_neg (fun x => h x.2)]

theorem block_other (med : List Nat) (b : Nat) (bytes : List Nat) (pick n i : Nat) (hi : i < n) (hl : med.length = 256 * n) (hne : i ≠ b) : blockL (reachL med b bytes pick) i = blockL med i := by
  have h1 : (blockL (reachL med b bytes pick) i).length = 256 := blockL_len _ _ n hi (by rw [reachL_length, hl])
  refine ext_getD (by rw [h1, blockL_len _ _ n hi hl]) fun j hj => ?_
  rw [h1] at hj
  have g : ∀ m : List Nat, (blockL m i).getD j 0 = m.getD (256 * i + j) 0 := fun m => by simp [blockL, List.getD_eq_getElem?_getD, List.getElem?_take, hj, List.getElem?_drop]
  rw [g, g]
  unfold reachL
  rw [reachK_getD _ _ _ _ _ _ (by omega), if_neg (by rintro ⟨e, _⟩; omega)]

/-- A block of the row is another slice from now on. -/
theorem Dr.setBlock {w : World} {g qb n b : Nat} {p : Option Nat} {F : Nat → Prop} {s : St} (h : Dr w g (some qb) p F n s) (u : Value) (bytes : List Nat) (pick : Nat) (hu : Bs w u (mixK (blockL s.med b) bytes pick 256)) (hub : ∀ c, u.ownBlock = some c → F c ∧ p ≠ some c ∧ qb ≠ c) (hb : b < n)
    (hone : u.oneCell' = true) (hx : ∀ x ∈ bytes, x < 256) : Dr (w.setCell ⟨qb, b, none⟩ u) g (some qb) p F n { s with med := reachL s.med b bytes pick } := by
  obtain ⟨v, vs, a1, a2⟩ := h.c0
  obtain ⟨v1, vs1, b1, b2, b3⟩ := h.c1
  obtain ⟨v5, pk, d1, d2, d3, d4, d5⟩ := h.c5
  have hk : Keeps (fun k => k = qb) w (w.setCell ⟨qb, b, none⟩ u) := keeps_set w qb b u
  obtain ⟨hqF, hqp⟩ := h.qF qb rfl
  have hg : ¬ (fun k => k = qb) g := fun e => h.Fg (by have e' : g = qb := e; rw [e']; exact hqF)
  have hl := h.gl
  have hvl := a2.len
  obtain ⟨bb, cap, e1, e2, _⟩ := a2.cell b hb
  have e3 : qb = bb := by injection e2
  subst e3
  subst e1
  have hrow := (a2.row.stored b u).1
  refine ⟨⟨_, vs.set b u, hk.cell a1 hg, ⟨hrow, a2.own, fun i hv => ?_⟩⟩, ⟨v1, vs1, hk.cell b1 hg, ⟨hk.owns b2.row (fun c hc e => hqp (by have e' : c = qb := e; rw [← e', ← b2.own]; exact hc)), b2.own, b2.len, b2.pF, fun i hi hv => ⟨hk.bs (b2.bs i hi hv).1 (fun c hc e => b3 i hv c hc (by have e' : c = qb := e; rw [e'])), (b2.bs i hi hv).2⟩⟩, b3⟩,
    hk.cell h.c2 hg, hk.cell h.c3 hg, hk.cell h.c4 hg, ⟨v5, pk, hk.cell d1 hg, hk.bs d2 (fun c hc e => (d5 c hc).2.2 (by have e' : c = qb := e; rw [e'])), d3, d4, d5⟩,
    by rw [hk.frozen (a := ⟨g, 0, none⟩) hl hg]; exact h.f0, by rw [hk.frozen (a := ⟨g, 1, none⟩) hl hg]; exact h.f1, by rw [hk.frozen (a := ⟨g, 2, none⟩) hl hg]; exact h.f2, by rw [hk.frozen (a := ⟨g, 3, none⟩) hl hg]; exact h.f3, by rw [hk.frozen (a := ⟨g, 4, none⟩) hl hg]; exact h.f4, by rw [hk.frozen (a := ⟨g, 5, none⟩) hl hg]; exact h.f5,
    h.qF, h.Fg, fun k hk' => Nat.lt_of_lt_of_le (h.Fl k hk') hk.size, h.ok.med (reachL_length _ _ _ _) (reachK_lt _ _ _ _ _ h.ok.lt hx)⟩
  simp at hv
  by_cases hib : b = i
  · subst hib
    simp only [List.getElem_set_self]
    refine ⟨?_, fun c hc => ⟨(hub c hc).1, (hub c hc).2.1, fun e => (hub c hc).2.2 (by injection e)⟩⟩
    rw [block_mix _ _ _ _ n hb h.ok.len]
    exact hk.bs hu (fun c hc e => (hub c hc).2.2 (by have e' : c = qb := e; exact e'.symm))
  · simp only [List.getElem_set_ne hib]
    obtain ⟨x1, x2⟩ := a2.bs i hv
    refine ⟨?_, x2⟩
    rw [block_other _ _ _ _ n i (by omega) h.ok.len (fun e => hib e.symm)]
    exact hk.bs x1 (fun c hc e => (x2 c hc).2.2 (by have e' : c = qb := e; rw [e']))

set_option maxRecDepth 100000 in
set_option maxHeartbeats 2000000 in
theorem rreach_yes {w : World} {g qb n : Nat} {p : Option Nat} {F : Nat → Prop} {s : St} (h : Dr w g (some qb) p F n s) (b : Nat) (v : Value) (bytes : List Nat) (pick : Nat) (hb : b < n) (hv : Bs w v bytes) (hl : bytes.length = 256) (hvq : v.ownBlock ≠ some qb) (hp : pick < 256) :
    Calls Try.prog 59 #[.pointer (some ⟨g, 0, none⟩), .agg #[.int .i64 (b : Int), v], .int .u8 (pick : Int)] w fun e w' => e = .returned (.tuple #[]) ∧ ∃ F', Dr w' g (some qb) p F' n { s with med := reachL s.med b bytes pick } ∧ Keeps (fun k => k = qb) w w' ∧ (∀ k, F' k → F k ∨ w.heap.size ≤ k) ∧ ∀ k, F k → F' k := by
  obtain ⟨i0, hi, hz0, hz1, hz2⟩ := info_parts Try.info5
  obtain ⟨rv, vs, c0, hR⟩ := h.c0
  obtain ⟨qb', cap, e1, e2, ck⟩ := hR.cell b hb
  obtain rfl : qb = qb' := by injection e2
  subst e1
  obtain ⟨hbo, hbF⟩ := hR.bs b (by have := hR.len; omega)
  have hvlt := hv.lt
  have hfz : w.frozen? ⟨qb, b, none⟩ = false := hR.row.frozenAt b
  generalize (vs[b]'(by have := hR.len; omega)) = vo at *
  have hlo := blockL_len s.med b n hb h.ok.len
  have holt := blockL_lt h.ok.lt b
  obtain ⟨oao, ocap, rfl, _⟩ := id hbo
  rw [hlo] at ck hbo hbF
  have hvf := hv
  obtain ⟨vao, vcap, rfl, hvc, _, _, hcell⟩ := hv
  obtain ⟨vb, voff, rfl, hcel⟩ := hcell (by omega)
  rw [hl] at hvf hvc hvq ⊢
  have hvb : vb ≠ qb := fun e => hvq (by rw [e]; rfl)
  have Hcel : Hid (∀ i, i < 256 → w.cell? ⟨vb, voff + i, none⟩ = some (.int .u8 ((bytes.getD i 0 : Nat) : Int))) := fun i hi => hcel i (by omega)
  have hgl := h.gl
  have hql : qb < w.heap.size := h.Fl qb (h.qF qb rfl).1
  have hgq : g ≠ qb := fun e => h.Fg (e ▸ (h.qF qb rfl).1)
  obtain ⟨old, hold⟩ : ∃ old, blockL s.med b = old := ⟨_, rfl⟩
  rw [hold] at hbo hlo holt
  have Hold := hide hold
  have Hlo := hide hlo
  have Hl := hide hl
  have H := hide h
  obtain ⟨wb, hwb⟩ : ∃ wb, w.alloc (.cells #[.int .i64 (b : Int), .slice (some ⟨vb, voff, none⟩) 256 vcap] 95) = wb := ⟨_, rfl⟩
  have kb : Below w.heap.size w wb := by rw [← hwb]; exact (Below.refl _ _).alloc (Nat.le_refl _) _
  have hzb : wb.heap.size = w.heap.size + 1 := by rw [← hwb]; simp
  have cb0 : wb.cell? ⟨w.heap.size, 0, none⟩ = some (.int .i64 (b : Int)) := by rw [← hwb]; simp
  have cb1 : wb.cell? ⟨w.heap.size, 1, none⟩ = some (.slice (some ⟨vb, voff, none⟩) 256 vcap) := by rw [← hwb]; simp
  have kbk := Keeps.of_below (S := fun _ => False) kb
  have c0b := kbk.cell c0 id
  have ckb := kbk.cell ck id
  have hbob := hbo.mono kb
  have Hzb := hide hzb
  clear hold hlo hl h hcell hcel hR hvf hzb
  have hbi : (b : Int) < (n : Int) := by omega
  have hbi0 : (0 : Int) ≤ (b : Int) := by omega
  have Sd : wb.drew.cell? ⟨g, 0, none⟩ = some (.slice (some ⟨qb, 0, none⟩) n cap) ∧ wb.drew.cell? ⟨w.heap.size, 0, none⟩ = some (.int .i64 (b : Int)) ∧ wb.drew.cell? ⟨qb, b, none⟩ = some (.slice oao 256 ocap) := ⟨c0b, cb0, ckb⟩
  go_enter Try.func59, Try.ntmps59
  go_wp2_with fail
  go_region_held3 (fun w' => w'.cell? ⟨g, 0, none⟩ = some (.slice (some ⟨qb, 0, none⟩) n cap) ∧ w'.cell? ⟨w.heap.size, 0, none⟩ = some (.int .i64 (b : Int)) ∧ w'.cell? ⟨qb, b, none⟩ = some (.slice oao 256 ocap))
    (first | exact Sd | exact S1)
    (first
      | (refine step_append_bs rfl (.const (.slice none 0 0)) (.tmp 15) 37 rfl wb.heap.size 5 i0 (.int .u8 0) Try.underlying37 hi hz0 hz1 hz2 rfl (.slice none 0 0) 0 [] rfl (World.ownsRow_nil _ _ _ _) _ old rfl hbob.drew (by rw [Hlo.out]; omega) (Nat.le_refl _) ?_; intro v1 w1 ho1 hg1
         rw [Nat.zero_add, List.nil_append, Hlo.out] at ho1
         obtain ⟨ao1, cap1, rfl, _, hgg⟩ := owns_form ho1
         obtain ⟨g1, rfl, _⟩ := hgg (by omega)
         have hb1 : Below wb.heap.size wb w1 := ⟨hg1.os, hg1.tape, hg1.output, hg1.size, fun k hk => hg1.block k hk (by simp [Value.ownBlock])⟩
         have k1 := Keeps.of_below (S := fun _ => False) hb1
         have S1 : w1.cell? ⟨g, 0, none⟩ = some (.slice (some ⟨qb, 0, none⟩) n cap) ∧ w1.cell? ⟨w.heap.size, 0, none⟩ = some (.int .i64 (b : Int)) ∧ w1.cell? ⟨qb, b, none⟩ = some (.slice oao 256 ocap) := ⟨k1.cell c0b id, k1.cell cb0 id, k1.cell ckb id⟩
         skip))
  have hlt1 := ho1.lt
  have z1 := hb1.size
  have cb11 := k1.cell cb1 id
  rw [← mixK_zero old bytes pick Hlo.out] at ho1
  have hgne : g1 ≠ qb ∧ g1 ≠ w.heap.size ∧ g1 ≠ g ∧ g1 ≠ vb := by
    have h1 := (hlt1 g1 rfl).1
    have h2 := Hzb.out
    have h3 : vb < w.heap.size := by have := World.block_lt_of_cell? w _ (Hcel.out 0 (by omega)); simpa using this
    omega
  clear hg1 hgg Sd S1 k1 c0b cb0 ckb hbob cb1 kbk
  go_wp2_with fail
  go_loopw [7] (fun i wr => ∃ k : Nat, k ≤ 256 ∧ i = .int .i64 k ∧ wr.ownsRow wb.heap.size 5 1 (.slice (some ⟨g1, 0, none⟩) 256 cap1) 256 (cellsB (mixK old bytes pick k)) ∧ Keeps (fun j => j = g1) w1 wr) (fun i _ => 256 - (intOf i).toNat)
  case atStart => exact ⟨0, by omega, rfl, ho1, Keeps.refl _ _⟩
  case round =>
    obtain ⟨k, hk, rfl, o1, kr⟩ := hrel
    clear ho1
    by_cases hk2 : k < 256
    · have hcl := owns_cell o1 (mixK_length _ _ _ _).symm k (by rw [mixK_length]; exact hk2)
      have hfk := o1.frozenAt k
      have hbx := kr.cell cb11 (fun e => hgne.2.1 (show g1 = w.heap.size from (show w.heap.size = g1 from e).symm))
      have hby := kr.cell ((Keeps.of_below (S := fun _ => False) (hb1)).cell ((Keeps.of_below (S := fun _ => False) kb).cell (Hcel.out k hk2) id) id) (fun e => hgne.2.2.2 (show g1 = vb from (show vb = g1 from e).symm))
      have ht := shr_and pick (k / 64) hp (by omega)
      cases hbit : pick.testBit (k / 64) with
      | false =>
        rw [hbit] at ht
        have o2 := o1
        rw [← mixK_skip _ _ _ _ hbit] at o2
        have Ho2 := hide o2
        clear o1 o2 hbit
        go_wp2_with fail
        exact ⟨⟨k + 1, by omega, by go_num, Ho2.out, kr⟩, by simp [intOf]; omega⟩
      | true =>
        rw [hbit] at ht
        have hst := owns_byte o1 k (bytes.getD k 0)
        rw [mixK_set _ _ _ _ hk2 hbit] at hst
        have k2 := kr.trans (keeps_set wr g1 k (.int .u8 ((bytes.getD k 0 : Nat) : Int)))
        generalize bytes.getD k 0 = y at *
        have Hst := hide hst
        have K2 := hide k2
        clear hst k2 o1 hbit
        go_wp2_with fail
        exact ⟨⟨k + 1, by omega, by go_num, Hst.out, K2.out⟩, by simp [intOf]; omega⟩
    · obtain rfl : k = 256 := by omega
      have hg1l : g1 < wr.heap.size := owns_lt' o1 g1 rfl
      have hDr := ((H.out.mono kb).mono hb1).keeps kr (fun e => hgne.2.2.1 (show g1 = g from (show g = g1 from e).symm)) (fun j hj e => by
        have e' : j = g1 := e
        have := H.out.Fl j hj
        have := (hlt1 g1 rfl).1
        have := Hzb.out
        omega)
      have hDw := hDr.widen (F' := fun j => F j ∨ j = g1) (fun _ h => .inl h) (by
        rintro (e | e)
        · exact H.out.Fg e
        · exact hgne.2.2.1 e.symm) (by
        rintro j (e | e)
        · exact hDr.Fl j e
        · omega)
      have hpne : p ≠ some g1 := fun e => by
        obtain ⟨v1', vs1', _, hW1, _⟩ := H.out.c1
        have := H.out.Fl g1 (hW1.pF g1 e)
        have := (hlt1 g1 rfl).1
        have := Hzb.out
        omega
      have hmix := Bs.of_owns o1 (mixK_lt pick 256 holt hvlt)
      have hSB := hDw.setBlock (b := b) (.slice (some ⟨g1, 0, none⟩) 256 cap1) bytes pick (by rw [Hold.out]; exact hmix) (fun c hc => by
        have e : g1 = c := by simpa [Value.ownBlock] using hc
        subst e
        exact ⟨.inr rfl, hpne, fun e => hgne.1 e.symm⟩) hb rfl hvlt
      have kw : Keeps (fun j => j = qb) w (wr.setCell ⟨qb, b, none⟩ (.slice (some ⟨g1, 0, none⟩) 256 cap1)) := by
        have ka : Keeps (fun j => j = qb) w w1 := (Keeps.of_below kb).trans' (Keeps.of_below (S := fun _ => False) hb1) (fun _ h => h.elim)
        have kb2 := ka.trans' kr (fun j e => .inr (by have e' : j = g1 := e; have := (hlt1 g1 rfl).1; have := Hzb.out; omega))
        exact kb2.trans (keeps_set wr qb b _)
      have q1 := Keeps.of_below (S := fun _ => False) kb
      have q2 := Keeps.of_below (S := fun _ => False) hb1
      have c0r := kr.cell (q2.cell (q1.cell c0 id) id) (fun e => hgne.2.2.1 (show g1 = g from (show g = g1 from e).symm))
      have ckr := kr.cell (q2.cell (q1.cell ck id) id) (fun e => hgne.1 (show g1 = qb from (show qb = g1 from e).symm))
      have cb0' : wb.cell? ⟨w.heap.size, 0, none⟩ = some (.int .i64 (b : Int)) := by rw [← hwb]; simp
      have cbr := kr.cell (q2.cell cb0' id) (fun e => hgne.2.1 (show g1 = w.heap.size from (show w.heap.size = g1 from e).symm))
      have fzr : wr.frozen? ⟨qb, b, none⟩ = false := by
        rw [kr.frozen (a := ⟨qb, b, none⟩) (by show qb < w1.heap.size; have := Hzb.out; omega) (fun e => hgne.1 (show g1 = qb from (show qb = g1 from e).symm)), q2.frozen (a := ⟨qb, b, none⟩) (by show qb < wb.heap.size; have := Hzb.out; omega) id, q1.frozen (a := ⟨qb, b, none⟩) hql id]
        exact hfz
      have HSB := hide hSB
      have Kw := hide kw
      have Sr : wr.drew.cell? ⟨g, 0, none⟩ = some (.slice (some ⟨qb, 0, none⟩) n cap) ∧ wr.drew.cell? ⟨w.heap.size, 0, none⟩ = some (.int .i64 (b : Int)) := ⟨c0r, cbr⟩
      have hwne : w.heap.size ≠ qb := by omega
      have qs := keeps_set wr qb b (.slice (some ⟨g1, 0, none⟩) 256 cap1)
      have Ss : (wr.setCell ⟨qb, b, none⟩ (.slice (some ⟨g1, 0, none⟩) 256 cap1)).drew.cell? ⟨g, 0, none⟩ = some (.slice (some ⟨qb, 0, none⟩) n cap) ∧ (wr.setCell ⟨qb, b, none⟩ (.slice (some ⟨g1, 0, none⟩) 256 cap1)).drew.cell? ⟨w.heap.size, 0, none⟩ = some (.int .i64 (b : Int)) := ⟨qs.cell c0r hgq, qs.cell cbr hwne⟩
      clear hSB kw hDr hDw hmix o1
      go_wp2_with fail
      go_region_held3 (fun w' => w'.cell? ⟨g, 0, none⟩ = some (.slice (some ⟨qb, 0, none⟩) n cap) ∧ w'.cell? ⟨w.heap.size, 0, none⟩ = some (.int .i64 (b : Int)))
        (first | exact Sr | exact Ss) (fail)
      go_wp2_with fail
      go_end0
      exact ⟨rfl, _, HSB.out.mono (Below.refl _ _).drew, Kw.out.trans (Keeps.drew _), fun j hj => hj.imp id (fun e => by have := (hlt1 g1 rfl).1; have := Hzb.out; omega), fun _ h => .inl h⟩


end Go.Proofs.Ytjcmmigbkhiplaa
