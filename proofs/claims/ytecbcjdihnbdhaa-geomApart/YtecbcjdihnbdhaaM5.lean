/- GeomApart's walk: a geometry that may be. -/
import Derived.Test.YtecbcjdihnbdhaaM4
set_option linter.unusedSimpArgs false
set_option linter.unusedVariables false
namespace Go.Proofs.Ytecbcjdihnbdhaa
open Go.RowKit Go.Attic Go.Maps

set_option maxRecDepth 100000 in
set_option maxHeartbeats 4000000 in
theorem apart_walk (b l d x tt mm dd hp bb : Int) (e f c1 c2 : Nat) (w : World) (S : Sizes x tt mm dd hp bb) (he : e < 256) (hf : f < 256) (hc1 : c1 < 256) (hc2 : c2 < 256)
    (hW3 : WhereIs b l d x tt mm 3) (hW4 : WhereIs b l d x mm dd 4) (hW6 : WhereIs b l d x hp bb 6)
    (ho : ∀ w, Calls Try.prog 8 #[.agg #[.int .i64 b, .int .i64 l, .int .i64 d, .int .i64 x]] w fun r w' => r = .returned (.tuple #[.agg #[.int .i64 3, .int .i64 tt, .int .i64 mm, .int .i64 dd, .int .i64 hp, .int .i64 bb], .int .i64 0]) ∧ Below w.heap.size w w') :
    Calls Try.prog 6 #[.agg #[.int .i64 b, .int .i64 l, .int .i64 d, .int .i64 x], .int .u8 (e : Nat), .int .u8 (f : Nat), .int .u8 (c1 : Nat), .int .u8 (c2 : Nat)] w fun r w' => r = .returned (.bool true) ∧ Below w.heap.size w w' := by
  have hG := GeoAt.new w b l d x
  have hmm := @run_makeMap Try.prog
  have hx1 := S.x1
  have hx2 := S.x2
  have Hs := hide (And.intro S (And.intro hW3 (And.intro hW4 hW6)))
  clear S hW3 hW4 hW6
  have hC10 : 0 ≤ (c1 : Int) % 6 := by omega
  have hC11 : (c1 : Int) % 6 < 6 := by omega
  have hC20 : 0 ≤ (c2 : Int) % 6 := by omega
  have hC21 : (c2 : Int) % 6 < 6 := by omega
  go_enter Try.func6, Try.ntmps6
  go_wp2_with (go_at_call 8; refine (ho _).mono ?_; rintro r w1 ⟨rfl, hb1⟩; have hB1 : Below w.heap.size w w1 := ((Below.refl _ w).alloc (Nat.le_refl _) _).trans (hb1.mono (by simp)); have hB1' := hB1.alloc hB1.size (.cells #[.int .i64 3, .int .i64 tt, .int .i64 mm, .int .i64 dd, .int .i64 hp, .int .i64 bb] 25); have hG1 := (hG.mono hb1).alloc (.cells #[.int .i64 3, .int .i64 tt, .int .i64 mm, .int .i64 dd, .int .i64 hp, .int .i64 bb] 25); have hP1 := PlanAt.new w1 3 tt mm dd hp bb; clear hG hb1)
  go_wp2_with (go_at_call 10; refine (begun_any _).mono ?_; rintro r w2 ⟨rfl, hb2⟩; have hB2 := hB1'.trans (hb2.mono hB1'.size); have hG2 := hG1.mono hb2; have hP2 := hP1.mono hb2; have g3 := hG2.c3; clear hG1 hP1 hb2 hB1 hB1')
  go_quiet (fail)
  have hA0 : 0 ≤ (e : Int) % x := Int.emod_nonneg _ (by omega)
  have hA1 : (e : Int) % x < x := Int.emod_lt_of_pos _ (by omega)
  have hF0 : 0 ≤ (f : Int) % x := Int.emod_nonneg _ (by omega)
  have hF1 : (f : Int) % x < x := Int.emod_lt_of_pos _ (by omega)
  have hbq : Below w2.heap.size w2 (w2.drewN nq) := ⟨rfl, rfl, rfl, Nat.le_refl _, fun _ _ => rfl⟩
  generalize (e : Int) % x = A at *
  generalize (f : Int) % x = B at *
  clear ho
  by_cases hab : B = A
  · subst hab
    go_wp2_with fail
    have hT0 : Stand w ((((w2.drewN nq).alloc (.map #[] 0)).alloc (.cells #[.map (some w2.heap.size)] 41)).alloc (.cells #[.int .i64 B] 3)) w.heap.size w1.heap.size (w2.heap.size + 1) w2.heap.size (w2.heap.size + 1 + 1) (1036 * 0) b l d x tt mm dd hp bb [B] (UL tt mm hp ([B].take 0)) := by
      refine (stand0 hB2 hG2 hP2 hbq rfl).row ((Below.refl _ _).alloc (Nat.le_refl _) _) (by omega) (fun j hj => ?_) (fun t h => h.elim)
      have hj0 : j = 0 := by simp at hj; exact hj
      subst hj0
      exact cell_new1 _ _ (by simp) _ rfl
    have HI := hide hT0
    clear hT0 hB2 hG2 hP2 g3 hbq hmm
    generalize (((w2.drewN nq).alloc (.map #[] 0)).alloc (.cells #[.map (some w2.heap.size)] 41)).alloc (.cells #[.int .i64 B] 3) = w3 at *
    generalize w2.heap.size + 1 + 1 = sg at *
    generalize w2.heap.size + 1 = ub at *
    generalize w2.heap.size = mb at *
    generalize w1.heap.size = pb at *
    go_loopw [63] (fun v wr => ∃ k : Nat, k ≤ 1 ∧ v = .int .i64 k ∧ Hid (Stand w wr w.heap.size pb ub mb sg (1036 * k) b l d x tt mm dd hp bb [B] (UL tt mm hp ([B].take k)))) (fun v _ => 1 - (intOf v).toNat)
    case atStart => exact ⟨0, by omega, rfl, HI.out⟩
    case round =>
      clear HI
      obtain ⟨k, hkN, rfl, HR⟩ := hrel
      rcases (show k = 0 ∨ k = 1 by omega) with rfl | rfl
      · clear hkN
        have hcE : wr.cell? ⟨sg, 0, none⟩ = some (.int .i64 B) := HR.out.sl 0 (by simp)
        have HR0 : Hid (Stand w wr w.heap.size pb ub mb sg 0 b l d x tt mm dd hp bb [B] (UL tt mm hp [])) := HR
        clear HR
        obtain ⟨C, hC⟩ : ∃ C, (c1 : Int) % 6 = C := ⟨_, rfl⟩
        have hCa : 0 ≤ C := by omega
        have hCb : C < 6 := by omega
        obtain ⟨m, q, hmq, hq1, hm1, hm2, hq2, hSl, hSb, hSA⟩ := class_all 3 tt mm dd hp bb C hCa hCb
        have hE0 : 0 ≤ B := by omega
        have hE1 : B < 256 := by omega
        have HL : Hid (∀ e ∈ [], 0 ≤ e ∧ e < x ∧ e ≠ B) := (fun e he => by simp at he)
        obtain ⟨S, hW3, hW4, hW6⟩ := Hs.out
        have hta := fun w => tableAt_yes 3 tt mm dd hp bb B w ⟨by have := S.t0; omega, by obtain ⟨_, _, _, _, _, _, _, _⟩ := S; omega, hE0, hE1⟩
        have hma := fun w => marksAt_yes 3 tt mm dd hp bb B w ⟨by obtain ⟨_, _, _, _, _, _, _, _⟩ := S; omega, by obtain ⟨_, _, _, _, _, _, _, _⟩ := S; omega, hE0, hE1⟩
        have hsa := hSA B ⟨by obtain ⟨_, _, _, _, _, _, _, _⟩ := S; omega, by obtain ⟨_, _, _, _, _, _, _, _⟩ := S; omega, hE0, hE1⟩
        have hp1 := fun W n L (hS : Stand w W w.heap.size pb ub mb sg n b l d x tt mm dd hp bb L (UL tt mm hp [])) (hn : n ≤ 100000) =>
          place_tab S ⟨hE0, by omega⟩ HL.out hW3 hS hn
        have hp2 := fun W n L (hS : Stand w W w.heap.size pb ub mb sg n b l d x tt mm dd hp bb L (fun t => UL tt mm hp [] t ∨ tabB tt B t)) (hn : n ≤ 100000) =>
          place_mar S ⟨hE0, by omega⟩ HL.out hW4 hS hn
        have hp3 := fun W n L (z : Nat) (hz : z + q ≤ 1024) (hS : Stand w W w.heap.size pb ub mb sg n b l d x tt mm dd hp bb L (fun t => ((UL tt mm hp [] t ∨ tabB tt B t) ∨ marB mm B t) ∨ sloB hp B (z : Nat) t)) (hn : n ≤ 100000) =>
          place_slo (q := q) S ⟨hE0, by omega⟩ HL.out hW6 hz hS hn
        have HSA := hide hsa
        have Hmq := hide hmq
        have HP := hide (And.intro hp1 (And.intro hp2 hp3))
        clear hSA hsa hmq S hW3 hW4 hW6 hp1 hp2 hp3
        obtain ⟨p0, p1, p2, p3, p4, p5, _, _, _, _, _, _, _⟩ := HR0.out.pl
        go_wp2_with (go_at_call 13; refine (hta _).mono ?_; rintro r w4 ⟨rfl, hb4⟩; have HR4 := hide (HR0.out.below hb4); clear p0 p1 p2 p3 p4 p5 hb4; obtain ⟨p0, p1, p2, p3, p4, p5, _, _, _, _, _, _, _⟩ := HR4.out.pl)
        go_wp2_with (go_at_call 15; refine (hma _).mono ?_; rintro r w5 ⟨rfl, hb5⟩; have HR5 := hide (HR4.out.below hb5); clear p0 p1 p2 p3 p4 p5 hb5)
        refine (HP.out.1 _ _ _ HR5.out (by omega)).mono ?_
        rintro r w6 ⟨rfl, hS6⟩
        have HR6 := hide hS6
        clear hS6 HR5 HR4 hta hma
        go_wp2_with fail
        refine (HP.out.2.1 _ _ _ HR6.out (by omega)).mono ?_
        rintro r w7 ⟨rfl, hS7⟩
        have HR7 := hide hS7
        clear hS7 HR6
        go_wp2_with (go_at_call 21; refine (hSl _).mono ?_; rintro r w8 ⟨rfl, rfl⟩)
        go_loopw [112] (fun v ws => ∃ s : Nat, s ≤ m ∧ v = .int .i64 s ∧ Hid (Stand w ws w.heap.size pb ub mb sg (0 + 8 + 4 + s * q) b l d x tt mm dd hp bb [B] (fun t => ((UL tt mm hp [] t ∨ tabB tt B t) ∨ marB mm B t) ∨ sloB hp B ((s * q : Nat) : Int) t))) (fun v _ => m - (intOf v).toNat)
        case atStart => exact ⟨0, by omega, rfl, HR7.out.weak (by simp) (fun t h => Or.inl h)⟩
        case round =>
          clear HR7
          obtain ⟨s, hsm, rfl, HS⟩ := hrel
          rcases Nat.lt_or_ge s m with hs | hs
          · have hsa := HSA.out s hs
            have hzq : s * q + q ≤ 1024 := by
              have h1 : (s + 1) * q ≤ m * q := Nat.mul_le_mul_right q hs
              rw [Hmq.out, Nat.add_mul, Nat.one_mul] at h1
              exact h1
            have Hzs := hide (show (s + 1) * q = s * q + q from by rw [Nat.add_mul, Nat.one_mul])
            generalize s * q = z at *
            obtain ⟨p0, p1, p2, p3, p4, p5, _, _, _, _, _, _, _⟩ := HS.out.pl
            go_wp2_with (go_at_call 19; refine (hsa _).mono ?_; rintro r w9 ⟨rfl, hb9⟩; have HS9 := hide (HS.out.below hb9); clear p0 p1 p2 p3 p4 p5 hb9)
            go_wp2_with (go_at_call 23; refine (hSb _).mono ?_; rintro r w10 ⟨rfl, rfl⟩)
            refine (HP.out.2.2 _ _ _ z hzq HS9.out (by omega)).mono ?_
            rintro r w11 ⟨rfl, hS11⟩
            have HS11 := hide hS11
            clear hS11 HS9
            go_wp2_with fail
            go_roundw
            case rel =>
              refine ⟨s + 1, by omega, by simp, ?_⟩
              rw [Hzs.out]
              exact HS11.out.weak (by omega) (fun t h => h)
            case measure => simp [intOf]; omega
          · have hsm2 : s = m := by omega
            have Hsm := hide hsm2
            clear hsm2
            have hge : ¬ ((s : Int) < (m : Int)) := by omega
            go_wp2_with fail
            go_roundw
            case rel =>
              have hq0 : s * q = 1024 := by rw [Hsm.out]; exact Hmq.out
              refine ⟨1, by omega, by simp, ?_⟩
              have HS' := HS.out
              rw [hq0] at HS'
              exact HS'.weak (by omega) (fun t h => UL_snoc (L := []) (E := B) h)
            case measure => simp [intOf]
      · clear hkN
        have v5 := HR.out.tk.var
        have hlen := HR.out.tk.map.len
        go_wp2_with fail
        go_ret
        exact ⟨rfl, HR.out.bl⟩
  · have hne : (B == A) = false := by simpa using hab
    have Hab := hide hab
    clear hab
    go_wp2_with fail
    generalize (Question.appendCap 2 1 3).cut (w2.tape (w2.drewN nq).drawn (Question.appendCap 2 1 3)) = cp at *
    have hT0 : Stand w (((((((w2.drewN nq).alloc (.map #[] 0)).alloc (.cells #[.map (some w2.heap.size)] 41)).alloc (.cells #[.int .i64 A] 3)).alloc (.cells #[.int .i64 B] 3)).alloc (.cells (#[.int .i64 A, .int .i64 B] ++ Builtin.zeroCells #[.int .i64 0] (cp - 2)) 3)).drew) w.heap.size w1.heap.size (w2.heap.size + 1) w2.heap.size (w2.heap.size + 1 + 1 + 1 + 1) (1036 * 0) b l d x tt mm dd hp bb [A, B] (UL tt mm hp ([A, B].take 0)) := by
      refine (stand0 hB2 hG2 hP2 hbq rfl).row (((((Below.refl _ _).alloc (Nat.le_refl _) _).alloc (by simp) _).alloc (by simp) _).drew) (by omega) (fun j hj => ?_) (fun t h => h.elim)
      have hj0 : j = 0 ∨ j = 1 := by simp at hj; omega
      rcases hj0 with rfl | rfl
      · exact (cell_new2 _ _ (by simp) _ _ _).1
      · exact (cell_new2 _ _ (by simp) _ _ _).2
    have HI := hide hT0
    clear hT0 hB2 hG2 hP2 g3 hbq hmm
    generalize ((((((w2.drewN nq).alloc (.map #[] 0)).alloc (.cells #[.map (some w2.heap.size)] 41)).alloc (.cells #[.int .i64 A] 3)).alloc (.cells #[.int .i64 B] 3)).alloc (.cells (#[.int .i64 A, .int .i64 B] ++ Builtin.zeroCells #[.int .i64 0] (cp - 2)) 3)).drew = w3 at *
    generalize w2.heap.size + 1 + 1 + 1 + 1 = sg at *
    generalize w2.heap.size + 1 = ub at *
    generalize w2.heap.size = mb at *
    generalize w1.heap.size = pb at *
    go_loopw [63] (fun v wr => ∃ k : Nat, k ≤ 2 ∧ v = .int .i64 k ∧ Hid (Stand w wr w.heap.size pb ub mb sg (1036 * k) b l d x tt mm dd hp bb [A, B] (UL tt mm hp ([A, B].take k)))) (fun v _ => 2 - (intOf v).toNat)
    case atStart => exact ⟨0, by omega, rfl, HI.out⟩
    case round =>
      clear HI
      obtain ⟨k, hkN, rfl, HR⟩ := hrel
      rcases (show k = 0 ∨ k = 1 ∨ k = 2 by omega) with rfl | rfl | rfl
      · clear hkN
        have hcE : wr.cell? ⟨sg, 0, none⟩ = some (.int .i64 A) := HR.out.sl 0 (by simp)
        have HR0 : Hid (Stand w wr w.heap.size pb ub mb sg 0 b l d x tt mm dd hp bb [A, B] (UL tt mm hp [])) := HR
        clear HR
        obtain ⟨C, hC⟩ : ∃ C, (c1 : Int) % 6 = C := ⟨_, rfl⟩
        have hCa : 0 ≤ C := by omega
        have hCb : C < 6 := by omega
        obtain ⟨m, q, hmq, hq1, hm1, hm2, hq2, hSl, hSb, hSA⟩ := class_all 3 tt mm dd hp bb C hCa hCb
        have hE0 : 0 ≤ A := by omega
        have hE1 : A < 256 := by omega
        have HL : Hid (∀ e ∈ [], 0 ≤ e ∧ e < x ∧ e ≠ A) := (fun e he => by simp at he)
        obtain ⟨S, hW3, hW4, hW6⟩ := Hs.out
        have hta := fun w => tableAt_yes 3 tt mm dd hp bb A w ⟨by have := S.t0; omega, by obtain ⟨_, _, _, _, _, _, _, _⟩ := S; omega, hE0, hE1⟩
        have hma := fun w => marksAt_yes 3 tt mm dd hp bb A w ⟨by obtain ⟨_, _, _, _, _, _, _, _⟩ := S; omega, by obtain ⟨_, _, _, _, _, _, _, _⟩ := S; omega, hE0, hE1⟩
        have hsa := hSA A ⟨by obtain ⟨_, _, _, _, _, _, _, _⟩ := S; omega, by obtain ⟨_, _, _, _, _, _, _, _⟩ := S; omega, hE0, hE1⟩
        have hp1 := fun W n L (hS : Stand w W w.heap.size pb ub mb sg n b l d x tt mm dd hp bb L (UL tt mm hp [])) (hn : n ≤ 100000) =>
          place_tab S ⟨hE0, by omega⟩ HL.out hW3 hS hn
        have hp2 := fun W n L (hS : Stand w W w.heap.size pb ub mb sg n b l d x tt mm dd hp bb L (fun t => UL tt mm hp [] t ∨ tabB tt A t)) (hn : n ≤ 100000) =>
          place_mar S ⟨hE0, by omega⟩ HL.out hW4 hS hn
        have hp3 := fun W n L (z : Nat) (hz : z + q ≤ 1024) (hS : Stand w W w.heap.size pb ub mb sg n b l d x tt mm dd hp bb L (fun t => ((UL tt mm hp [] t ∨ tabB tt A t) ∨ marB mm A t) ∨ sloB hp A (z : Nat) t)) (hn : n ≤ 100000) =>
          place_slo (q := q) S ⟨hE0, by omega⟩ HL.out hW6 hz hS hn
        have HSA := hide hsa
        have Hmq := hide hmq
        have HP := hide (And.intro hp1 (And.intro hp2 hp3))
        clear hSA hsa hmq S hW3 hW4 hW6 hp1 hp2 hp3
        obtain ⟨p0, p1, p2, p3, p4, p5, _, _, _, _, _, _, _⟩ := HR0.out.pl
        go_wp2_with (go_at_call 13; refine (hta _).mono ?_; rintro r w4 ⟨rfl, hb4⟩; have HR4 := hide (HR0.out.below hb4); clear p0 p1 p2 p3 p4 p5 hb4; obtain ⟨p0, p1, p2, p3, p4, p5, _, _, _, _, _, _, _⟩ := HR4.out.pl)
        go_wp2_with (go_at_call 15; refine (hma _).mono ?_; rintro r w5 ⟨rfl, hb5⟩; have HR5 := hide (HR4.out.below hb5); clear p0 p1 p2 p3 p4 p5 hb5)
        refine (HP.out.1 _ _ _ HR5.out (by omega)).mono ?_
        rintro r w6 ⟨rfl, hS6⟩
        have HR6 := hide hS6
        clear hS6 HR5 HR4 hta hma
        go_wp2_with fail
        refine (HP.out.2.1 _ _ _ HR6.out (by omega)).mono ?_
        rintro r w7 ⟨rfl, hS7⟩
        have HR7 := hide hS7
        clear hS7 HR6
        go_wp2_with (go_at_call 21; refine (hSl _).mono ?_; rintro r w8 ⟨rfl, rfl⟩)
        go_loopw [112] (fun v ws => ∃ s : Nat, s ≤ m ∧ v = .int .i64 s ∧ Hid (Stand w ws w.heap.size pb ub mb sg (0 + 8 + 4 + s * q) b l d x tt mm dd hp bb [A, B] (fun t => ((UL tt mm hp [] t ∨ tabB tt A t) ∨ marB mm A t) ∨ sloB hp A ((s * q : Nat) : Int) t))) (fun v _ => m - (intOf v).toNat)
        case atStart => exact ⟨0, by omega, rfl, HR7.out.weak (by simp) (fun t h => Or.inl h)⟩
        case round =>
          clear HR7
          obtain ⟨s, hsm, rfl, HS⟩ := hrel
          rcases Nat.lt_or_ge s m with hs | hs
          · have hsa := HSA.out s hs
            have hzq : s * q + q ≤ 1024 := by
              have h1 : (s + 1) * q ≤ m * q := Nat.mul_le_mul_right q hs
              rw [Hmq.out, Nat.add_mul, Nat.one_mul] at h1
              exact h1
            have Hzs := hide (show (s + 1) * q = s * q + q from by rw [Nat.add_mul, Nat.one_mul])
            generalize s * q = z at *
            obtain ⟨p0, p1, p2, p3, p4, p5, _, _, _, _, _, _, _⟩ := HS.out.pl
            go_wp2_with (go_at_call 19; refine (hsa _).mono ?_; rintro r w9 ⟨rfl, hb9⟩; have HS9 := hide (HS.out.below hb9); clear p0 p1 p2 p3 p4 p5 hb9)
            go_wp2_with (go_at_call 23; refine (hSb _).mono ?_; rintro r w10 ⟨rfl, rfl⟩)
            refine (HP.out.2.2 _ _ _ z hzq HS9.out (by omega)).mono ?_
            rintro r w11 ⟨rfl, hS11⟩
            have HS11 := hide hS11
            clear hS11 HS9
            go_wp2_with fail
            go_roundw
            case rel =>
              refine ⟨s + 1, by omega, by simp, ?_⟩
              rw [Hzs.out]
              exact HS11.out.weak (by omega) (fun t h => h)
            case measure => simp [intOf]; omega
          · have hsm2 : s = m := by omega
            have Hsm := hide hsm2
            clear hsm2
            have hge : ¬ ((s : Int) < (m : Int)) := by omega
            go_wp2_with fail
            go_roundw
            case rel =>
              have hq0 : s * q = 1024 := by rw [Hsm.out]; exact Hmq.out
              refine ⟨1, by omega, by simp, ?_⟩
              have HS' := HS.out
              rw [hq0] at HS'
              exact HS'.weak (by omega) (fun t h => UL_snoc (L := []) (E := A) h)
            case measure => simp [intOf]
      · clear hkN
        have hcE : wr.cell? ⟨sg, 1, none⟩ = some (.int .i64 B) := HR.out.sl 1 (by simp)
        have HR0 : Hid (Stand w wr w.heap.size pb ub mb sg 1036 b l d x tt mm dd hp bb [A, B] (UL tt mm hp [A])) := HR
        clear HR
        obtain ⟨C, hC⟩ : ∃ C, (c2 : Int) % 6 = C := ⟨_, rfl⟩
        have hCa : 0 ≤ C := by omega
        have hCb : C < 6 := by omega
        obtain ⟨m, q, hmq, hq1, hm1, hm2, hq2, hSl, hSb, hSA⟩ := class_all 3 tt mm dd hp bb C hCa hCb
        have hE0 : 0 ≤ B := by omega
        have hE1 : B < 256 := by omega
        have HL : Hid (∀ e ∈ [A], 0 ≤ e ∧ e < x ∧ e ≠ B) := (fun e he => by simp at he; subst he; exact ⟨hA0, hA1, fun h => Hab.out h.symm⟩)
        obtain ⟨S, hW3, hW4, hW6⟩ := Hs.out
        have hta := fun w => tableAt_yes 3 tt mm dd hp bb B w ⟨by have := S.t0; omega, by obtain ⟨_, _, _, _, _, _, _, _⟩ := S; omega, hE0, hE1⟩
        have hma := fun w => marksAt_yes 3 tt mm dd hp bb B w ⟨by obtain ⟨_, _, _, _, _, _, _, _⟩ := S; omega, by obtain ⟨_, _, _, _, _, _, _, _⟩ := S; omega, hE0, hE1⟩
        have hsa := hSA B ⟨by obtain ⟨_, _, _, _, _, _, _, _⟩ := S; omega, by obtain ⟨_, _, _, _, _, _, _, _⟩ := S; omega, hE0, hE1⟩
        have hp1 := fun W n L (hS : Stand w W w.heap.size pb ub mb sg n b l d x tt mm dd hp bb L (UL tt mm hp [A])) (hn : n ≤ 100000) =>
          place_tab S ⟨hE0, by omega⟩ HL.out hW3 hS hn
        have hp2 := fun W n L (hS : Stand w W w.heap.size pb ub mb sg n b l d x tt mm dd hp bb L (fun t => UL tt mm hp [A] t ∨ tabB tt B t)) (hn : n ≤ 100000) =>
          place_mar S ⟨hE0, by omega⟩ HL.out hW4 hS hn
        have hp3 := fun W n L (z : Nat) (hz : z + q ≤ 1024) (hS : Stand w W w.heap.size pb ub mb sg n b l d x tt mm dd hp bb L (fun t => ((UL tt mm hp [A] t ∨ tabB tt B t) ∨ marB mm B t) ∨ sloB hp B (z : Nat) t)) (hn : n ≤ 100000) =>
          place_slo (q := q) S ⟨hE0, by omega⟩ HL.out hW6 hz hS hn
        have HSA := hide hsa
        have Hmq := hide hmq
        have HP := hide (And.intro hp1 (And.intro hp2 hp3))
        clear hSA hsa hmq S hW3 hW4 hW6 hp1 hp2 hp3
        obtain ⟨p0, p1, p2, p3, p4, p5, _, _, _, _, _, _, _⟩ := HR0.out.pl
        go_wp2_with (go_at_call 13; refine (hta _).mono ?_; rintro r w4 ⟨rfl, hb4⟩; have HR4 := hide (HR0.out.below hb4); clear p0 p1 p2 p3 p4 p5 hb4; obtain ⟨p0, p1, p2, p3, p4, p5, _, _, _, _, _, _, _⟩ := HR4.out.pl)
        go_wp2_with (go_at_call 15; refine (hma _).mono ?_; rintro r w5 ⟨rfl, hb5⟩; have HR5 := hide (HR4.out.below hb5); clear p0 p1 p2 p3 p4 p5 hb5)
        refine (HP.out.1 _ _ _ HR5.out (by omega)).mono ?_
        rintro r w6 ⟨rfl, hS6⟩
        have HR6 := hide hS6
        clear hS6 HR5 HR4 hta hma
        go_wp2_with fail
        refine (HP.out.2.1 _ _ _ HR6.out (by omega)).mono ?_
        rintro r w7 ⟨rfl, hS7⟩
        have HR7 := hide hS7
        clear hS7 HR6
        go_wp2_with (go_at_call 21; refine (hSl _).mono ?_; rintro r w8 ⟨rfl, rfl⟩)
        go_loopw [112] (fun v ws => ∃ s : Nat, s ≤ m ∧ v = .int .i64 s ∧ Hid (Stand w ws w.heap.size pb ub mb sg (1036 + 8 + 4 + s * q) b l d x tt mm dd hp bb [A, B] (fun t => ((UL tt mm hp [A] t ∨ tabB tt B t) ∨ marB mm B t) ∨ sloB hp B ((s * q : Nat) : Int) t))) (fun v _ => m - (intOf v).toNat)
        case atStart => exact ⟨0, by omega, rfl, HR7.out.weak (by simp) (fun t h => Or.inl h)⟩
        case round =>
          clear HR7
          obtain ⟨s, hsm, rfl, HS⟩ := hrel
          rcases Nat.lt_or_ge s m with hs | hs
          · have hsa := HSA.out s hs
            have hzq : s * q + q ≤ 1024 := by
              have h1 : (s + 1) * q ≤ m * q := Nat.mul_le_mul_right q hs
              rw [Hmq.out, Nat.add_mul, Nat.one_mul] at h1
              exact h1
            have Hzs := hide (show (s + 1) * q = s * q + q from by rw [Nat.add_mul, Nat.one_mul])
            generalize s * q = z at *
            obtain ⟨p0, p1, p2, p3, p4, p5, _, _, _, _, _, _, _⟩ := HS.out.pl
            go_wp2_with (go_at_call 19; refine (hsa _).mono ?_; rintro r w9 ⟨rfl, hb9⟩; have HS9 := hide (HS.out.below hb9); clear p0 p1 p2 p3 p4 p5 hb9)
            go_wp2_with (go_at_call 23; refine (hSb _).mono ?_; rintro r w10 ⟨rfl, rfl⟩)
            refine (HP.out.2.2 _ _ _ z hzq HS9.out (by omega)).mono ?_
            rintro r w11 ⟨rfl, hS11⟩
            have HS11 := hide hS11
            clear hS11 HS9
            go_wp2_with fail
            go_roundw
            case rel =>
              refine ⟨s + 1, by omega, by simp, ?_⟩
              rw [Hzs.out]
              exact HS11.out.weak (by omega) (fun t h => h)
            case measure => simp [intOf]; omega
          · have hsm2 : s = m := by omega
            have Hsm := hide hsm2
            clear hsm2
            have hge : ¬ ((s : Int) < (m : Int)) := by omega
            go_wp2_with fail
            go_roundw
            case rel =>
              have hq0 : s * q = 1024 := by rw [Hsm.out]; exact Hmq.out
              refine ⟨2, by omega, by simp, ?_⟩
              have HS' := HS.out
              rw [hq0] at HS'
              exact HS'.weak (by omega) (fun t h => UL_snoc (L := [A]) (E := B) h)
            case measure => simp [intOf]
      · clear hkN
        have v5 := HR.out.tk.var
        have hlen := HR.out.tk.map.len
        go_wp2_with fail
        go_ret
        exact ⟨rfl, HR.out.bl⟩

end Go.Proofs.Ytecbcjdihnbdhaa
