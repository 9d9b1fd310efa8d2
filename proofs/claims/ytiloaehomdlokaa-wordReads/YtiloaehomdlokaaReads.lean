/- WordReads answers true for every slice of bytes and every list of questions: a reader answers each of them, its first error, how much is left and its end as the document's own reader does. No conditions. -/
import Derived.Test.YtiloaehomdlokaaR4
import Derived.Test.YtiloaehomdlokaaFrame
import Derived.Deep.RegionHeld3
import Derived.Deep.SlicePairs
set_option linter.unusedSimpArgs false
set_option linter.unusedVariables false
namespace Go.Proofs.Ytiloaehomdlokaa
open Go.RowKit Go.Attic Go.ChangeShapes Go.WideShapes

/-- A slice of n questions. -/
def As (w : World) (v : Value) (n : Nat) : Prop :=
  ∃ ao cap, v = .slice ao n cap ∧ n ≤ maxLen ∧ (0 < n → ∃ b off, ao = some ⟨b, off, none⟩ ∧ ∀ i, i < n → ∃ x y : Int, w.cell? ⟨b, off + i * 2, none⟩ = some (.int .i64 x) ∧ w.cell? ⟨b, off + i * 2 + 1, none⟩ = some (.int .i64 y))

/-- Both readers, and that nothing that was there has turned. -/
structure Both (w : World) (B : Nat) (g : Nat) (d : Option Nat) (g2 : Nat) (d2 : Option Nat) (n : Nat) (wr : World) : Prop where
  ex : ∃ lx x, lx.length ≤ n ∧ (∀ y ∈ lx, y < 256) ∧ Rd wr g d lx x ∧ Rr wr g2 d2 lx x
  bel : Below w.heap.size w wr
  sz : B ≤ wr.heap.size

theorem numS_sub (l : List Nat) (x n : Int) : ∃ j, (numS l x n).2.1 = l.drop j := by
  unfold numS
  split
  · exact ⟨0, rfl⟩
  · split
    · exact ⟨0, rfl⟩
    · split
      · exact ⟨0, rfl⟩
      · exact ⟨_, rfl⟩
theorem bytesS_sub (l : List Nat) (x n : Int) : ∃ j, (bytesS l x n).2.1 = l.drop j := by
  unfold bytesS
  split
  · exact ⟨0, rfl⟩
  · split
    · exact ⟨0, rfl⟩
    · split
      · exact ⟨0, rfl⟩
      · exact ⟨_, rfl⟩
theorem bytesS_lt {l : List Nat} (h : ∀ y ∈ l, y < 256) (x n : Int) : ∀ y ∈ (bytesS l x n).1, y < 256 := by
  unfold bytesS
  split
  · simp
  · split
    · simp
    · split
      · simp
      · exact fun y hy => h y (List.mem_of_mem_take hy)
theorem uvarS_sub (l : List Nat) (x : Int) : ∃ j, (uvarS l x).2.1 = l.drop j := by
  unfold uvarS
  split
  · exact ⟨0, rfl⟩
  · split
    · exact ⟨0, rfl⟩
    · exact ⟨_, rfl⟩

theorem owns_keptO' {w w' : World} {base : Nat} {v : Value} {n : Nat} {xs : List Value} {r : Option Nat} (h : w.ownsRow base 5 1 v n xs) (hg : w.grownBy w' r) (hne : ∀ k, v.ownBlock = some k → r ≠ some k) : w'.ownsRow base 5 1 v n xs := by
  refine h.kept hg ?_
  cases hv : v.ownBlock with
  | none => exact .inl rfl
  | some k => exact .inr (fun e => hne k hv e.symm)

theorem sub_facts {lx ly : List Nat} {n : Nat} (hl : lx.length ≤ n) (hx : ∀ y ∈ lx, y < 256) (h : ∃ j, ly = lx.drop j) : ly.length ≤ n ∧ ∀ y ∈ ly, y < 256 := by
  obtain ⟨j, rfl⟩ := h
  exact ⟨by simp; omega, fun y hy => hx y (List.mem_of_mem_drop hy)⟩

set_option maxRecDepth 100000 in
set_option maxHeartbeats 1000000 in
theorem reads_walk (v : Value) (l : List Nat) (va : Value) (n : Nat) (w : World) (h : Bs w v l) (hlen : l.length ≤ 140737488351232) (ha : As w va n) :
    Calls Try.prog 6 #[v, va] w fun e w' => e = .returned (.bool true) ∧ Below w.heap.size w w' := by
  obtain ⟨ao, cap, rfl, hn, hca⟩ := ha
  unfold maxLen at hn
  have Hca := hide hca
  clear hca
  go_enter Try.func6, Try.ntmps6
  go_wp2_with fail
  refine (read_any _ l _ h (by omega)).mono ?_
  rintro e w1 ⟨g, d, rfl, hR1, hb1, hg1, hg1', hd1⟩
  go_wp2_with fail
  refine (rread_any _ l _ (h.mono hb1) (by omega)).mono ?_
  rintro e w2 ⟨g2, d2, rfl, hQ2, hb2, hg2, hg2', hd2⟩
  have z1 := hb1.size
  have z2 := hb2.size
  go_wp2_with fail
  refine (live_any _).mono ?_
  rintro e w3 ⟨rfl, hb3⟩
  have z3 := hb3.size
  have hR3 := (hR1.mono hb2).mono hb3
  have hQ3 := hQ2.mono hb3
  have hb3' := (hb1.trans (hb2.mono (by omega))).trans (hb3.mono (by omega))
  have hlt := h.lt
  have HB : Hid (Both w w2.heap.size g d g2 d2 l.length w3) := ⟨⟨l, 0, Nat.le_refl _, hlt, hR3, hQ3⟩, hb3', by omega⟩
  clear hR1 hR3 hQ2 hQ3 hb1 hb2 hb3 hb3' h
  go_wp2_with fail
  go_loopw [22] (fun i wr => ∃ k : Nat, k ≤ n ∧ i = .int .i64 k ∧ Both w w2.heap.size g d g2 d2 l.length wr) (fun i _ => n - (intOf i).toNat)
  case atStart => exact ⟨0, by omega, rfl, HB.out⟩
  case round =>
    obtain ⟨k, hk, rfl, hB⟩ := hrel
    obtain ⟨⟨lx, x, hlx, hxl, hR, hQ⟩, hbel, hsz⟩ := hB
    clear HB
    by_cases hkn : k < n
    · obtain ⟨b, off, rfl, hcell⟩ := Hca.out (by omega)
      obtain ⟨qd, qn, q0, q1⟩ := hcell k hkn
      have q0' : wr.cell? ⟨b, off + k * 2, none⟩ = some (.int .i64 qd) := by
        rw [hbel.cell (p := ⟨b, off + k * 2, none⟩) (by have := World.block_lt_of_cell? w _ q0; simpa using this)]; exact q0
      have q1' : wr.cell? ⟨b, off + k * 2 + 1, none⟩ = some (.int .i64 qn) := by
        rw [hbel.cell (p := ⟨b, off + k * 2 + 1, none⟩) (by have := World.block_lt_of_cell? w _ q1; simpa using this)]; exact q1
      clear hcell q0 q1
      have HW : ∀ (cs : Array Value), Hid (Rd (wr.alloc (.cells cs 49)) g d lx x ∧ Rr (wr.alloc (.cells cs 49)) g2 d2 lx x ∧ Below w.heap.size w (wr.alloc (.cells cs 49)) ∧ w2.heap.size ≤ (wr.alloc (.cells cs 49)).heap.size) := fun cs =>
        ⟨hR.mono ((Below.refl _ _).alloc (Nat.le_refl _) _), hQ.mono ((Below.refl _ _).alloc (Nat.le_refl _) _), hbel.alloc hbel.size _, by simp; omega⟩
      have hA1 : g ≠ wr.heap.size := by omega
      have hA2 : g2 ≠ wr.heap.size := by omega
      have hgg : g ≠ g2 := by omega
      have hdg : d ≠ some g2 := by intro e; have := hd1 g2 e; omega
      have hdg2 : d2 ≠ some g := by intro e; have := hd2 g e; omega
      clear hR hQ hbel
      have hlx2 : lx.length ≤ 140737488355328 := by omega
      by_cases hd0 : qd = 0
      case' pos =>
        subst hd0
        go_wp2_with fail
        have cN : (wr.alloc (.cells #[.int .i64 0, .int .i64 qn] 49)).cell? ⟨wr.heap.size, 1, none⟩ = some (.int .i64 qn) := by simp
        obtain ⟨hR4, hQ4, hb4, hs4⟩ := (HW #[.int .i64 0, .int .i64 qn]).out
        generalize wr.alloc (.cells #[.int .i64 0, .int .i64 qn] 49) = w4 at *
        have hR5 := hR4.mono (Below.refl _ _).drew
        have hQ5 := hQ4.mono (Below.refl _ _).drew
        have cN5 : w4.drew.cell? ⟨wr.heap.size, 1, none⟩ = some (.int .i64 qn) := cN
        have hb5 := hb4.drew
        have hs5 : w2.heap.size ≤ w4.drew.heap.size := hs4
        clear hR4 hQ4 cN hb4 hs4 q0' q1'
        go_region_held3 (fun w' => w'.cell? ⟨wr.heap.size, 1, none⟩ = some (.int .i64 qn))
          (first | exact cN5 | exact cN6 | exact cN7)
          (first
            | (go_at_call 29; refine (rdNum_any qn hR5 hlx2).mono ?_; rintro e w6 ⟨rfl, hR6, hg6⟩; have cN6 := hg6.cell cN5 (by simpa using hA1.symm); have hQ6 := hQ5.kept hg6 hgg.symm hdg2)
            | (go_at_call 30; refine (rrNum_any qn hQ6 hlx2).mono ?_; rintro e w7 ⟨rfl, hQ7, hg7⟩; have cN7 := hg7.cell cN6 (by simpa using hA2.symm); have hR7 := hR6.kept hg7 hgg hdg))
        have hb7 : Below w.heap.size w w7 := (hb5.grown hg6 hb5.size (by intro j hj; injection hj with hj; omega)).grown hg7 (by have := hb5.size; have := hg6.size; omega) (by intro j hj; injection hj with hj; omega)
        have hs7 : w2.heap.size ≤ w7.heap.size := by have := hg6.size; have := hg7.size; omega
        have hsub := sub_facts hlx hxl (numS_sub lx x qn)
        clear hR5 hQ5 hR6 hQ6 cN5 cN6 cN7 hb5 hg6 hg7 HW hs5 hlx hxl
        generalize (numS lx x qn).2.1 = ly at *
        generalize (numS lx x qn).2.2 = y at *
        go_wp2_with fail
      case' neg =>
        have hd0' : (qd == 0) = false := by simp [hd0]
        clear hd0
        by_cases hd1' : qd = 1
        case' pos =>
          subst hd1'
          go_wp2_with fail
          have cN : (wr.alloc (.cells #[.int .i64 1, .int .i64 qn] 49)).cell? ⟨wr.heap.size, 1, none⟩ = some (.int .i64 qn) := by simp
          obtain ⟨hR4, hQ4, hb4, hs4⟩ := (HW #[.int .i64 1, .int .i64 qn]).out
          generalize wr.alloc (.cells #[.int .i64 1, .int .i64 qn] 49) = w4 at *
          have hR5 := hR4.mono (Below.refl _ _).drew
          have hQ5 := hQ4.mono (Below.refl _ _).drew
          have cN5 : w4.drew.cell? ⟨wr.heap.size, 1, none⟩ = some (.int .i64 qn) := cN
          have hb5 := hb4.drew
          have hs5 : w2.heap.size ≤ w4.drew.heap.size := hs4
          clear hR4 hQ4 cN hb4 hs4 q0' q1'
          have hlt2 := bytesS_lt hxl x qn
          go_region_held3 (fun w' => w'.cell? ⟨wr.heap.size, 1, none⟩ = some (.int .i64 qn))
            (first | exact cN5 | exact cN6 | exact cN7)
            (first
              | (go_at_call 31; refine (rdBytes_any qn hR5 hlx2).mono ?_; rintro e w6 ⟨v6, rfl, ho6, hR6, hg6⟩; have cN6 := hg6.cell cN5 (by simpa using hA1.symm); have hQ6 := hQ5.kept hg6 hgg.symm hdg2; have z6 := hg6.size)
              | (go_at_call 32; refine (rrBytes_any qn hQ6 hlx2).mono ?_; rintro e w7 ⟨v7, rfl, ho7, hQ7, hg7⟩; have cN7 := hg7.cell cN6 (by simpa using hA2.symm); have hR7 := hR6.kept hg7 hgg hdg; have ho6' := owns_keptO' ho6 hg7 (by intro j hj e; injection e with e; have := (ho6.lt j hj).1; omega))
              | (go_at_call 14; refine (equal_any _ _ _ _ _ (Bs.of_owns ho6' hlt2) (Bs.of_owns ho7 hlt2)).mono ?_; rintro e w8 ⟨rfl, rfl⟩))
          have hb7 : Below w.heap.size w w7 := (hb5.grown hg6 hb5.size (by intro j hj; injection hj with hj; omega)).grown hg7 (by have := hb5.size; have := hg6.size; omega) (by intro j hj; injection hj with hj; omega)
          have hs7 : w2.heap.size ≤ w7.heap.size := by have := hg6.size; have := hg7.size; omega
          have hsub := sub_facts hlx hxl (bytesS_sub lx x qn)
          clear hR5 hQ5 hR6 hQ6 cN5 cN6 cN7 hb5 hg6 hg7 HW hs5 ho6 ho7 ho6' hlt2 hlx hxl
          generalize (bytesS lx x qn).2.1 = ly at *
          generalize (bytesS lx x qn).2.2 = y at *
          generalize (bytesS lx x qn).1 = lr at *
          go_wp2_with fail
        case' neg =>
          have hd1'' : (qd == 1) = false := by simp [hd1']
          clear hd1'
          go_wp2_with fail
          obtain ⟨hR5, hQ5, hb5, hs5⟩ := (HW #[.int .i64 qd, .int .i64 qn]).out
          generalize wr.alloc (.cells #[.int .i64 qd, .int .i64 qn] 49) = w4 at *
          refine (rdUvar_any hR5 hlx2).mono ?_
          rintro e w6 ⟨rfl, hR6, hg6⟩
          have hQ6 := hQ5.kept hg6 hgg.symm hdg2
          go_wp2_with fail
          refine (rrUvar_any hQ6 hlx2).mono ?_
          rintro e w7 ⟨rfl, hQ7, hg7⟩
          have hR7 := hR6.kept hg7 hgg hdg
          have hb7 : Below w.heap.size w w7 := (hb5.grown hg6 hb5.size (by intro j hj; injection hj with hj; omega)).grown hg7 (by have := hb5.size; have := hg6.size; omega) (by intro j hj; injection hj with hj; omega)
          have hs7 : w2.heap.size ≤ w7.heap.size := by have := hg6.size; have := hg7.size; omega
          have hsub := sub_facts hlx hxl (uvarS_sub lx x)
          clear hR5 hQ5 hR6 hQ6 hb5 hg6 hg7 HW hs5 q0' q1' hlx hxl
          generalize (uvarS lx x).2.1 = ly at *
          generalize (uvarS lx x).2.2 = y at *
          go_wp2_with fail
      all_goals
        obtain ⟨aoq, capq, q0, qbs, _⟩ := hQ7.ex
        have q1 := hQ7.c1
        have hR8 := hR7.mono (Below.refl _ _).drew
        have hQ8 := hQ7.mono (Below.refl _ _).drew
        have HB8 : Hid (Both w w2.heap.size g d g2 d2 l.length w7.drew) := ⟨⟨ly, y, hsub.1, hsub.2, hR8, hQ8⟩, hb7.drew, hs7⟩
        have S0 : w7.drew.cell? ⟨g2, 1, none⟩ = some (.int .i64 y) ∧ w7.drew.cell? ⟨g2, 0, none⟩ = some (.slice aoq ly.length capq) := ⟨q1, q0⟩
        clear hR7 hQ7 q0 q1 qbs hb7 hs7 hsub
        go_region_held3 (fun w' => w'.cell? ⟨g2, 1, none⟩ = some (.int .i64 y) ∧ w'.cell? ⟨g2, 0, none⟩ = some (.slice aoq ly.length capq))
          (first | exact S0 | assumption)
          (first
            | (go_at_call 35; refine (err_yes hR8).mono ?_; rintro e w8 ⟨rfl, rfl⟩)
            | (go_at_call 36; refine (rest_yes hR8).mono ?_; rintro e w8 ⟨rfl, rfl⟩)
            | (go_at_call 37; refine (end_yes hR8).mono ?_; rintro e w8 ⟨rfl, rfl⟩)
            | (go_at_call 38; refine (rrEnd_any hQ8).mono ?_; rintro e w8 ⟨rfl, rfl⟩))
        all_goals
          go_wp2_with fail
          go_roundw
          case rel => exact ⟨k + 1, by omega, by go_num, HB8.out⟩
          case measure => simp [intOf]; omega
    · obtain rfl : k = n := by omega
      go_wp2_with fail
      refine (end_yes hR).mono ?_
      rintro e w8 ⟨rfl, rfl⟩
      go_wp2_with fail
      refine (rrEnd_any hQ).mono ?_
      rintro e w8 ⟨rfl, rfl⟩
      go_wp2
      go_ret
      exact ⟨by simp, hbel⟩

theorem wordReads_lifted (os : Os) (started : os.Started) (H : Type) (enc : TypeId × Value → H) :
    ReturnsInHanded {} Try.checked os 6 .any (Rows.wordReadsSpec.pre6 enc Try.prog Try.f6 Rows.wordReadsRow.domain false) (Rows.wordReadsSpec.post enc Try.prog Try.f6 false true false false) := by
  refine law_frame (C := Try.checked) rfl Try.own started (by kernel_rfl) Try.func6
    (ChangeSpec.witness6 (enc := enc) (C := Try.checked) false ⟨#[], #[.slice none 0 0, .slice none 0 0], []⟩ 8 (by kernel_rfl) (by kernel_rfl) (by kernel_rfl) (by kernel_rfl))
    Try.laidOut ?_ 4 rfl Try.underlying4 ?_ ?_
  · rw [Try.params6]
    intro t ht
    simp at ht
    rcases ht with rfl | rfl <;> exact ⟨by kernel_rfl, of_decide_eq_true (by kernel_rfl)⟩
  · intro ds hn
    rw [Try.params6] at hn
    match ds, hn with
    | [d1, d2], _ => rfl
  · intro W base args ds p hval0 hA hsz
    have hval : ∀ (j : Nat) t v, Try.f6.params[j]? = some t → args[j]? = some v → Value.okWide Try.prog W .any base t v := hval0
    rw [Try.params6] at hA hsz hval
    obtain ⟨v0, vs0, d0, ds0, p0, q0, hargs, rfl, rfl, h0, r0⟩ := trodAll_cons hA
    obtain ⟨v1, vs1, d1, ds1, p1, q1, rfl, rfl, rfl, h1, r1⟩ := trodAll_cons r0
    obtain ⟨rfl, rfl, rfl⟩ := trodAll_nil r1
    obtain rfl : args = #[v0, v1] := by cases args; simp_all
    obtain ⟨l0, hbs0, hl0⟩ := Bs.came Try.underlying22 Try.underlying5 (by kernel_rfl) (hval 0 22 v0 rfl rfl) h0
    have hlen0 := came_len hsz (j := 0) (t := 22) rfl rfl Try.underlying22 (by kernel_rfl) hl0
    obtain ⟨n1, hq1⟩ : ∃ n, As W v1 n := by
      obtain ⟨a0, len0, cap0, rfl⟩ := okWide_slice Try.underlying43 (hval 1 43 v1 rfl rfl)
      obtain ⟨fuel, hf⟩ := h1
      rcases Deep.open_slice_pairs Try.underlying43 Try.underlying49 (by kernel_rfl) rfl rfl (by kernel_rfl) (by kernel_rfl) hf with ⟨hcs, _⟩ | ⟨a, len, cap, m, n, V0, V1, D0, D1, P0, P1, hcs, _, hl, hm, hmm, _, hx⟩
      · simp [Value.cells] at hcs
        obtain ⟨rfl, rfl, rfl⟩ := hcs
        exact ⟨0, none, 0, rfl, by simp, by simp⟩
      · simp [Value.cells] at hcs
        obtain ⟨rfl, rfl, rfl⟩ := hcs
        simp at hmm
        refine ⟨len0, some a, cap0, rfl, by omega, fun hp => ?_⟩
        obtain ⟨b, off, spot⟩ := a
        have hspot : spot = none := by simpa [Addr.add] using World.cell?_spot (hx 0 (by omega)).1
        subst hspot
        refine ⟨b, off, rfl, fun i hi => ?_⟩
        obtain ⟨e0, e1, t0, t1⟩ := hx i (by omega)
        rw [Addr.add_lit] at e0 e1
        obtain ⟨x0, y0, _, _⟩ := DataW.trod_int Try.underlying3 t0
        obtain ⟨x1, y1, _, _⟩ := DataW.trod_int Try.underlying3 t1
        simp at y0 y1
        exact ⟨x0, x1, by rw [e0, y0], by rw [← Nat.add_assoc] at e1; rw [e1, y1]⟩
    exact reads_walk v0 l0 v1 n1 W hbs0 hlen0 hq1

theorem wordReads_holds : Rows.WordReadsSaid :=
  OpenClaim.holds_of_wide 6 Try.f6 rfl rfl rfl rfl rfl rfl rfl ⟨rfl, rfl, rfl, rfl, rfl⟩ rfl rfl rfl rfl rfl (by kernel_rfl) Try.func6 (by kernel_rfl)
    (of_decide_eq_true (by kernel_rfl)) (by unfold Func.isWrapper; first | (rw [if_pos (by decide +kernel)]; kernel_rfl) | (rw [if_neg (by decide +kernel)]; exact ⟨rfl, rfl⟩))
    (fun os started H enc _ => wordReads_lifted os started H enc)
#print axioms wordReads_holds
end Go.Proofs.Ytiloaehomdlokaa
