/- GeomWhole: for every geometry, all blocks lie in just one area, as many in each as the plan says, one behind the other (P4.6). -/
import Derived.Test.YtecbcjdihnbdhaaC9
import Derived.Test.YtecbcjdihnbdhaaCame
set_option linter.unusedSimpArgs false
set_option linter.unusedVariables false
namespace Go.Proofs.Ytecbcjdihnbdhaa
open Go.RowKit Go.Attic Go.ChangeShapes Go.WideShapes Go.ChangeAt

/-- How many of the first n blocks lie in the area j. -/
def cntJ (f : Nat → Int) (n : Int) (j : Nat) : Int := if n ≤ f j then 0 else if j < 7 ∧ f (j + 1) ≤ n then f (j + 1) - f j else n - f j

theorem cnt_here {f : Nat → Int} {n : Int} {a : Nat} (h7 : a ≤ 7) (h1 : ∀ j, j ≤ 7 → a < j → n < f j) (h2 : f a ≤ n) : cntJ f n a = n - f a ∧ cntJ f (n + 1) a = n - f a + 1 := by
  unfold cntJ
  have hn : ¬ (a < 7 ∧ f (a + 1) ≤ n) := fun h => by have := h1 (a + 1) (by omega) (by omega); omega
  refine ⟨?_, ?_⟩
  · by_cases h : n ≤ f a
    · rw [if_pos h]; omega
    · rw [if_neg h, if_neg hn]
  · rw [if_neg (by omega)]
    by_cases h : a < 7 ∧ f (a + 1) ≤ n + 1
    · rw [if_pos h]
      have := h1 (a + 1) (by omega) (by omega)
      omega
    · rw [if_neg h]; omega

theorem cnt_there {f : Nat → Int} {n : Int} {a j : Nat} (h1 : ∀ j, j ≤ 7 → a < j → n < f j) (h2 : ∀ j, j ≤ a → f j ≤ n) (hu : ∀ j, j < 7 → f j < f (j + 1)) (h7 : a ≤ 7) (hj : j ≤ 7) (hne : j ≠ a) : cntJ f (n + 1) j = cntJ f n j := by
  unfold cntJ
  rcases Nat.lt_or_ge j a with h | h
  · have k1 := h2 (j + 1) (by omega)
    have k2 := hu j (by omega)
    rw [if_neg (show ¬ n + 1 ≤ f j by omega), if_neg (show ¬ n ≤ f j by omega), if_pos (show j < 7 ∧ f (j + 1) ≤ n + 1 by omega), if_pos (show j < 7 ∧ f (j + 1) ≤ n by omega)]
  · have k1 := h1 j hj (by omega)
    rw [if_pos (show n + 1 ≤ f j by omega), if_pos (show n ≤ f j by omega)]

structure Arr8 (w : World) (g : Nat) (c : Nat → Int) : Prop where
  cell : ∀ j, j ≤ 7 → w.cell? ⟨g, j, none⟩ = some (.int .i64 (c j))
  froz : ∀ j, w.frozen? ⟨g, j, none⟩ = false
  lt : g < w.heap.size

theorem Arr8.mono {w w' : World} {g : Nat} {c : Nat → Int} (h : Arr8 w g c) (hb : Below w.heap.size w w') : Arr8 w' g c :=
  ⟨fun j hj => by rw [hb.cell (p := ⟨g, j, none⟩) h.lt]; exact h.cell j hj, fun j => by rw [hb.frozen (p := ⟨g, j, none⟩) h.lt]; exact h.froz j, Nat.lt_of_lt_of_le h.lt hb.size⟩

theorem Arr8.new (w : World) : Arr8 (w.alloc (.cells #[.int .i64 0, .int .i64 0, .int .i64 0, .int .i64 0, .int .i64 0, .int .i64 0, .int .i64 0, .int .i64 0] 46)) w.heap.size (fun _ => 0) :=
  ⟨fun j hj => by rcases below8 hj with rfl | rfl | rfl | rfl | rfl | rfl | rfl | rfl <;> simp, fun j => by simp, by simp⟩

theorem Arr8.set {w : World} {g : Nat} {c c' : Nat → Int} {a : Nat} {v : Int} (h : Arr8 w g c) (ha : a ≤ 7) (h1 : c' a = v) (h2 : ∀ j, j ≤ 7 → j ≠ a → c' j = c j) : Arr8 (w.setCell ⟨g, a, none⟩ (.int .i64 v)) g c' := by
  refine ⟨fun j hj => ?_, fun j => by rw [World.frozen?_setCell]; exact h.froz j, by simpa using h.lt⟩
  by_cases hja : j = a
  · subst hja
    rw [World.cell?_setCell_same _ _ _ (h.cell j hj), h1]
  · rw [World.cell?_setCell_other _ _ _ _ (by intro e; injection e with e1 e2; omega), h.cell j hj, h2 j hj hja]

theorem GeoAt.set {w : World} {g k j : Nat} {b l d x : Int} {v : Value} (h : GeoAt w g b l d x) (hk : k ≠ g) : GeoAt (w.setCell ⟨k, j, none⟩ v) g b l d x := by
  obtain ⟨c0, c1, c2, c3, f0, f1, f2, f3, lt⟩ := h
  constructor
  all_goals first
    | (rw [World.cell?_setCell_far _ _ _ _ hk]; assumption)
    | (rw [World.frozen?_setCell]; assumption)
    | simpa using lt

theorem PlanAt.set {w : World} {g k j : Nat} {a0 a1 a2 a3 a4 a5 : Int} {v : Value} (h : PlanAt w g a0 a1 a2 a3 a4 a5) (hk : k ≠ g) : PlanAt (w.setCell ⟨k, j, none⟩ v) g a0 a1 a2 a3 a4 a5 := by
  obtain ⟨c0, c1, c2, c3, c4, c5, f0, f1, f2, f3, f4, f5, lt⟩ := h
  constructor
  all_goals first
    | (rw [World.cell?_setCell_far _ _ _ _ hk]; assumption)
    | (rw [World.frozen?_setCell]; assumption)
    | simpa using lt

set_option maxRecDepth 100000 in
set_option maxHeartbeats 1000000 in
theorem whole_no (b l d x : Int) (w : World) (kb : -9223372036854775808 ≤ b ∧ b ≤ 9223372036854775807) (h : ¬ okG b l d x) :
    Calls Try.prog 7 #[.agg #[.int .i64 b, .int .i64 l, .int .i64 d, .int .i64 x]] w fun r w' => r = .returned (.bool true) ∧ Below w.heap.size w w' := by
  have ho := fun w => of_no b l d x w kb.1 kb.2 h
  clear h
  go_enter Try.func7, Try.ntmps7
  go_wp2_with (go_at_call 8; refine (ho _).mono ?_; rintro r w1 ⟨rfl, hb1⟩; have hB1 : Below w.heap.size w w1 := ((Below.refl _ w).alloc (Nat.le_refl _) _).trans (hb1.mono (by simp)); have hB1' := hB1.alloc hB1.size (.cells #[.int .i64 0, .int .i64 0, .int .i64 0, .int .i64 0, .int .i64 0, .int .i64 0] 25))
  go_wp2_with (go_at_call 10; refine (begun_any _).mono ?_; rintro r w2 ⟨rfl, hb2⟩; have hB2 := hB1'.trans (hb2.mono hB1'.size))
  go_wp2_with (go_at_call 10; refine (begun_any _).mono ?_; rintro r w3 ⟨rfl, hb3⟩; have hB3 := hB2.trans (hb3.mono hB2.size))
  go_ret
  exact ⟨rfl, hB3⟩

set_option maxRecDepth 100000 in
set_option maxHeartbeats 2000000 in
theorem whole_walk (N : Nat) (l d x tt mm dd hp bb : Int) (f : Nat → Int) (ar : Nat → Nat) (w : World) (hN : N ≤ 2048) (hx1 : 1 ≤ x) (hx2 : x ≤ 256) (hm1 : -1000000 ≤ mm) (hm2 : mm ≤ 1000000) (ht1 : -1000000 ≤ tt) (ht2 : tt ≤ 1000000) (hd1 : -1000000 ≤ dd) (hd2 : dd ≤ 1000000) (hb1 : -1000000 ≤ bb) (hb2 : bb ≤ 1000000)
    (ho : ∀ w, Calls Try.prog 8 #[.agg #[.int .i64 (N : Int), .int .i64 l, .int .i64 d, .int .i64 x]] w fun r w' => r = .returned (.tuple #[.agg #[.int .i64 3, .int .i64 tt, .int .i64 mm, .int .i64 dd, .int .i64 hp, .int .i64 bb], .int .i64 0]) ∧ Below w.heap.size w w')
    (hW : ∀ n, n < N → ∀ w, Calls Try.prog 25 #[.agg #[.int .i64 (N : Int), .int .i64 l, .int .i64 d, .int .i64 x], .int .i64 (n : Nat)] w fun r w' => r = .returned (.tuple #[.int .i64 (ar n : Nat), .int .i64 ((n : Nat) - f (ar n)), .int .i64 0]) ∧ Below w.heap.size w w')
    (hA : ∀ n, n < N → ar n ≤ 7 ∧ (∀ j, j ≤ 7 → ar n < j → (n : Int) < f j) ∧ (∀ j, j ≤ ar n → f j ≤ (n : Int)))
    (hf0 : f 0 = 0) (hu : ∀ j, j < 7 → f j < f (j + 1)) (hf1 : ∀ j, j ≤ 7 → 0 ≤ f j ∧ f j ≤ 2048)
    (hend : cntJ f N 0 = 2 ∧ cntJ f N 1 = 1 ∧ cntJ f N 2 = l ∧ cntJ f N 3 = mm - tt ∧ cntJ f N 4 = dd - mm ∧ cntJ f N 5 = d ∧ cntJ f N 6 = 4 * x ∧ cntJ f N 7 = N - bb) :
    Calls Try.prog 7 #[.agg #[.int .i64 (N : Int), .int .i64 l, .int .i64 d, .int .i64 x]] w fun r w' => r = .returned (.bool true) ∧ Below w.heap.size w w' := by
  have hgu := fun op x y xs ys w => run_eqGuard_agg (P := Try.prog) w op 46 x y xs ys (by kernel_rfl)
  have hG := GeoAt.new w N l d x
  have HW := hide hW
  have HA := hide hA
  have Hu := hide hu
  have Hf := hide hf1
  have Hf0 := hide hf0
  have He := hide hend
  have hqe := fun w => eql46_same 2 1 l (mm - tt) (dd - mm) d (4 * x) ((N : Int) - bb) w
  clear hW hA hu hf1 hf0 hend
  go_enter Try.func7, Try.ntmps7
  go_wp2_with (go_at_call 8; refine (ho _).mono ?_; rintro r w1 ⟨rfl, hb1⟩; have hB1 : Below w.heap.size w w1 := ((Below.refl _ w).alloc (Nat.le_refl _) _).trans (hb1.mono (by simp)); have hB1' := hB1.alloc hB1.size (.cells #[.int .i64 3, .int .i64 tt, .int .i64 mm, .int .i64 dd, .int .i64 hp, .int .i64 bb] 25); have hG1 := (hG.mono hb1).alloc (.cells #[.int .i64 3, .int .i64 tt, .int .i64 mm, .int .i64 dd, .int .i64 hp, .int .i64 bb] 25); have hP1 := PlanAt.new w1 3 tt mm dd hp bb; clear hG hb1)
  go_wp2_with (go_at_call 10; refine (begun_any _).mono ?_; rintro r w2 ⟨rfl, hb2⟩; have hB2 := hB1'.trans (hb2.mono hB1'.size); have hG2 := (hG1.mono hb2).alloc (.cells #[.int .i64 0, .int .i64 0, .int .i64 0, .int .i64 0, .int .i64 0, .int .i64 0, .int .i64 0, .int .i64 0] 46); have hP2 := (hP1.mono hb2).alloc (.cells #[.int .i64 0, .int .i64 0, .int .i64 0, .int .i64 0, .int .i64 0, .int .i64 0, .int .i64 0, .int .i64 0] 46); have hA2 := Arr8.new w2; have hB3 := hB2.alloc hB2.size (.cells #[.int .i64 0, .int .i64 0, .int .i64 0, .int .i64 0, .int .i64 0, .int .i64 0, .int .i64 0, .int .i64 0] 46); have g0 := hG2.c0; have hgs : w2.heap.size ≠ w.heap.size := (by have := (hG1.mono hb2).lt; omega); have hps : w2.heap.size ≠ w1.heap.size := (by have := (hP1.mono hb2).lt; omega); have hws := hB2.size; clear hG1 hP1 hb2 hB1 hB1')
  generalize w2.alloc (.cells #[.int .i64 0, .int .i64 0, .int .i64 0, .int .i64 0, .int .i64 0, .int .i64 0, .int .i64 0, .int .i64 0] 46) = w3 at *
  generalize w2.heap.size = g at *
  generalize w1.heap.size = gp at *
  have hA3 : Arr8 w3 g (cntJ f ((0 : Nat) : Int)) := by
    refine ⟨fun j hj => ?_, hA2.froz, hA2.lt⟩
    have h0 := (Hf.out j hj).1
    rw [hA2.cell j hj, show cntJ f ((0 : Nat) : Int) j = 0 from by unfold cntJ; rw [if_pos (by omega)]]
  have HI := hide (And.intro hA3 (And.intro hG2 (And.intro hP2 hB3)))
  clear hA2 hA3 hG2 hP2 hB2 hB3 g0 ho
  go_loopw [25, 6] (fun v la wr => ∃ n lst : Nat, n ≤ N ∧ v = .int .i64 n ∧ la = .int .i64 lst ∧ Hid (lst ≤ 7 ∧ f lst ≤ (n : Int)) ∧ Hid (Arr8 wr g (cntJ f (n : Int)) ∧ GeoAt wr w.heap.size N l d x ∧ PlanAt wr gp 3 tt mm dd hp bb ∧ Below w.heap.size w wr)) (fun v la _ => N - (intOf v).toNat)
  case atStart => exact ⟨0, 0, Nat.zero_le _, rfl, rfl, ⟨by omega, by have := Hf0.out; simp; omega⟩, HI.out⟩
  case round =>
    clear HI
    obtain ⟨n, lst, hnN, rfl, rfl, Hl, HR⟩ := hrel
    rcases Nat.lt_or_ge n N with hn | hn
    · have hWn := HW.out n hn
      obtain ⟨ha7, ha1, ha2⟩ := HA.out n hn
      have hcn := cnt_here ha7 ha1 (ha2 _ (Nat.le_refl _))
      have hct := fun j hj hne => cnt_there (f := f) (n := (n : Int)) (a := ar n) (j := j) ha1 ha2 Hu.out ha7 hj hne
      have hal : lst ≤ ar n := by
        rcases Nat.lt_or_ge (ar n) lst with h | h
        · have := ha1 lst Hl.out.1 h
          have := Hl.out.2
          omega
        · exact h
      have hfa := ha2 _ (Nat.le_refl _)
      have hfs := Hf.out (ar n) ha7
      have Hc1 := hide hcn
      have Hc2 := hide hct
      have Hfa := hide hfa
      generalize ar n = a at *
      generalize hy : (n : Int) - f a = y at *
      have hy0 : 0 ≤ y := by omega
      have hy1 : y ≤ 2048 := by omega
      have Hy := hide hy
      clear hy ha1 ha2 hcn hct hfs hfa
      have hi8 : (a : Int) < 8 := by omega
      have g0 := HR.out.2.1.c0
      have g1 := HR.out.2.1.c1
      have g2 := HR.out.2.1.c2
      have g3 := HR.out.2.1.c3
      have eyy : (y != y) = false := by simp
      go_wp2_with (go_at_call 25; refine (hWn _).mono ?_; rintro r w5 ⟨rfl, hb5⟩; have HR5 := hide (And.intro (HR.out.1.mono hb5) (And.intro (HR.out.2.1.mono hb5) (And.intro (HR.out.2.2.1.mono hb5) (HR.out.2.2.2.trans (hb5.mono HR.out.2.2.2.size))))); have ca : w5.cell? ⟨g, a, none⟩ = some (.int .i64 y) := (by rw [HR5.out.1.cell a ha7, Hc1.out.1]); have fa : w5.frozen? ⟨g, a, none⟩ = false := HR5.out.1.froz a; clear hb5)
      refine ⟨⟨n + 1, a, by omega, by simp, rfl, ⟨ha7, by have := Hfa.out; simp; omega⟩, ?_, HR5.out.2.1.set hgs, HR5.out.2.2.1.set hps, HR5.out.2.2.2.setCell hws _⟩, by simp [intOf]; omega⟩
      exact HR5.out.1.set ha7 (by simpa using Hc1.out.2) (fun j hj hne => by simpa using Hc2.out j hj hne)
    · have hnn : n = N := by omega
      subst hnn
      have d0 : wr.cell? ⟨g, 0, none⟩ = some (.int .i64 (2)) := by rw [HR.out.1.cell 0 (by omega), He.out.1]
      have d1 : wr.cell? ⟨g, 1, none⟩ = some (.int .i64 (1)) := by rw [HR.out.1.cell 1 (by omega), He.out.2.1]
      have d2 : wr.cell? ⟨g, 2, none⟩ = some (.int .i64 (l)) := by rw [HR.out.1.cell 2 (by omega), He.out.2.2.1]
      have d3 : wr.cell? ⟨g, 3, none⟩ = some (.int .i64 (mm - tt)) := by rw [HR.out.1.cell 3 (by omega), He.out.2.2.2.1]
      have d4 : wr.cell? ⟨g, 4, none⟩ = some (.int .i64 (dd - mm)) := by rw [HR.out.1.cell 4 (by omega), He.out.2.2.2.2.1]
      have d5 : wr.cell? ⟨g, 5, none⟩ = some (.int .i64 (d)) := by rw [HR.out.1.cell 5 (by omega), He.out.2.2.2.2.2.1]
      have d6 : wr.cell? ⟨g, 6, none⟩ = some (.int .i64 (4 * x)) := by rw [HR.out.1.cell 6 (by omega), He.out.2.2.2.2.2.2.1]
      have d7 : wr.cell? ⟨g, 7, none⟩ = some (.int .i64 ((n : Int) - bb)) := by rw [HR.out.1.cell 7 (by omega), He.out.2.2.2.2.2.2.2]
      obtain ⟨g0, g1, g2, g3, _, _, _, _, _⟩ := HR.out.2.1
      obtain ⟨p0, p1, p2, p3, p4, p5, _, _, _, _, _, _, _⟩ := HR.out.2.2.1
      clear HW
      go_wp2_with fail
      go_ret
      exact ⟨rfl, HR.out.2.2.2⟩

theorem whole_any (b l d x : Int) (w : World) (kb : -9223372036854775808 ≤ b ∧ b ≤ 9223372036854775807) :
    Calls Try.prog 7 #[.agg #[.int .i64 b, .int .i64 l, .int .i64 d, .int .i64 x]] w fun r w' => r = .returned (.bool true) ∧ Below w.heap.size w w' := by
  by_cases h : okG b l d x
  · have h' := h
    obtain ⟨h1, h2, h3, h4, h5, h6, h7, h8⟩ := h'
    have h7' : stOf l d x 7 ≤ b := h7
    have hu := st_up l d x h1 h3 h5
    have h0 : stOf l d x 0 = 0 := rfl
    obtain ⟨N, rfl⟩ := Int.eq_ofNat_of_zero_le (show 0 ≤ b by omega)
    have hup : ∀ j, j < 7 → stOf l d x j < stOf l d x (j + 1) := by
      intro j hj
      rcases below8 (j := j) (by omega) with rfl | rfl | rfl | rfl | rfl | rfl | rfl | rfl <;> first | omega | (simp only [Nat.reduceAdd]; omega)
    have hin : ∀ j, j ≤ 7 → 0 ≤ stOf l d x j ∧ stOf l d x j ≤ 2048 := by
      intro j hj
      rcases below8 hj with rfl | rfl | rfl | rfl | rfl | rfl | rfl | rfl <;> omega
    refine whole_walk N l d x _ _ _ _ _ (stOf l d x) (fun n => arOf l d x (n : Nat)) w (by omega) h5 h6 (by omega) (by omega) (by omega) (by omega) (by omega) (by omega) (by omega) (by omega)
      (fun w => of_yes (N : Int) l d x w h) (fun n hn w => where_yes (N : Int) l d x (n : Nat) w h (by omega) (by omega)) (fun n hn => ar_spec l d x (n : Nat) h1 h3 h5 (by omega)) h0 hup hin ?_
    have hj : ∀ j, j < 7 → cntJ (stOf l d x) (N : Int) j = stOf l d x (j + 1) - stOf l d x j := by
      intro j hj
      have k1 := hup j hj
      have k2 : stOf l d x (j + 1) ≤ (N : Int) := by
        rcases below8 (j := j) (by omega) with rfl | rfl | rfl | rfl | rfl | rfl | rfl | rfl <;> first | omega | (simp only [Nat.reduceAdd]; omega)
      unfold cntJ
      rw [if_neg (show ¬ (N : Int) ≤ stOf l d x j by omega), if_pos (show j < 7 ∧ stOf l d x (j + 1) ≤ (N : Int) by omega)]
    have h77 : cntJ (stOf l d x) (N : Int) 7 = (N : Int) - stOf l d x 7 := by
      unfold cntJ
      by_cases hc : (N : Int) ≤ stOf l d x 7
      · rw [if_pos hc]; omega
      · rw [if_neg hc, if_neg (by omega)]
    refine ⟨?_, ?_, ?_, ?_, ?_, ?_, ?_, ?_⟩
    · rw [hj 0 (by omega)]; simp only [stOf]; omega
    · rw [hj 1 (by omega)]; simp only [stOf]; omega
    · rw [hj 2 (by omega)]; simp only [stOf]; omega
    · rw [hj 3 (by omega)]; simp only [stOf]
    · rw [hj 4 (by omega)]; simp only [stOf]
    · rw [hj 5 (by omega)]; simp only [stOf]; omega
    · rw [hj 6 (by omega)]; simp only [stOf]; omega
    · rw [h77]; simp only [stOf]
  · exact whole_no b l d x w kb h

theorem geomWhole_lifted (os : Os) (started : os.Started) (H : Type) (enc : TypeId × Value → H) :
    ReturnsInHanded {} Try.checked os 7 .any (Rows.geomWholeSpec.pre6 enc Try.prog Try.f7 Rows.geomWholeRow.domain false) (Rows.geomWholeSpec.post enc Try.prog Try.f7 false true false false) := by
  refine law_frame (C := Try.checked) rfl Try.own started (by kernel_rfl) Try.func7
    (ChangeSpec.witness6 (enc := enc) (C := Try.checked) false ⟨#[], #[.agg #[.int .i64 0, .int .i64 0, .int .i64 0, .int .i64 0]], []⟩ 8 (by kernel_rfl) (by kernel_rfl) (by kernel_rfl) (by kernel_rfl))
    Try.laidOut ?_ 4 rfl Try.underlying4 ?_ ?_
  · rw [Try.params7]
    intro t ht
    simp at ht
    rcases ht with rfl <;> exact ⟨by kernel_rfl, of_decide_eq_true (by kernel_rfl)⟩
  · intro ds hn
    rw [Try.params7] at hn
    match ds, hn with
    | [d1], _ => rfl
  · intro W base args ds p hval0 hA hsz
    have hval : ∀ (j : Nat) t v, Try.f7.params[j]? = some t → args[j]? = some v → Value.okWide Try.prog W .any base t v := hval0
    rw [Try.params7] at hA hsz hval
    obtain ⟨v0, vs0, d0, ds0, p0, q0, hargs, rfl, rfl, h0, r0⟩ := trodAll_cons hA
    obtain ⟨rfl, rfl, rfl⟩ := trodAll_nil r0
    obtain rfl : args = #[v0] := by cases args; simp_all
    obtain ⟨b, l, d, x, rfl, kb, kl, kd, kx⟩ := came4 Try.underlying23 (by kernel_rfl) (by kernel_rfl) (by intro f hf; simp at hf; rcases hf with rfl | rfl | rfl | rfl <;> exact Try.underlying3) (hval 0 23 v0 rfl rfl) h0
    exact whole_any b l d x W kb

theorem geomWhole_holds : Rows.GeomWholeSaid :=
  OpenClaim.holds_of_wide 7 Try.f7 rfl rfl rfl rfl rfl rfl rfl ⟨rfl, rfl, rfl, rfl, rfl⟩ rfl rfl rfl rfl rfl (by kernel_rfl) Try.func7 (by kernel_rfl)
    (of_decide_eq_true (by kernel_rfl)) (by unfold Func.isWrapper; first | (rw [if_pos (by decide +kernel)]; kernel_rfl) | (rw [if_neg (by decide +kernel)]; exact ⟨rfl, rfl⟩))
    (fun os started H enc _ => geomWhole_lifted os started H enc)
#print axioms geomWhole_holds
end Go.Proofs.Ytecbcjdihnbdhaa
