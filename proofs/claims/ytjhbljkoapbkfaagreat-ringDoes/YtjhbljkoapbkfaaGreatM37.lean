/- Contract: both rings are found the same. -/
import Derived.Test.YtjhbljkoapbkfaaGreatM36
set_option linter.unusedSimpArgs false
set_option linter.unusedVariables false

namespace Go.Proofs.YtjhbljkoapbkfaaGreat
open Go.RowKit Go.Attic Go.Shelf

set_option maxRecDepth 100000 in
set_option maxHeartbeats 2000000 in
theorem same_yes {W w : World} {tb : Nat} {A B C : Nat → Prop} {r g m x gx n base blocks : Nat} {head0 : Int} {hd : Nat} {s : St} {rs : List Rc} (h : Tw W w tb A B C r g m x gx n base blocks head0 hd s rs hd s rs) :
    Calls Tryz.prog 7 #[.pointer (some ⟨tb, 0, none⟩)] w fun e w' => e = .returned (.bool true) ∧ Below w.heap.size w w' := by
  obtain ⟨pa, Fa, Fr, a1, -⟩ := h.a
  obtain ⟨q, pb, Fb, Fx, b1, -, -⟩ := h.b
  have ht := h.t
  have hln := a1.rk.ln
  have hb2 := a1.rk.b2
  have hrl : rs.length ≤ 1024 := by omega
  have hps : ∀ y ∈ rs, y.l.length ≤ 44 := fun y hy => okRc_len (a1.rk.ok y hy)
  have htk : rs.take 1048576 = rs := List.take_of_length_le (by omega)
  have ht1 : (rs.take 1).length = min 1 rs.length := by simp
  clear h
  have told0 : ∀ V, Below w.heap.size w V → Calls Tryz.prog 31 #[.pointer (some ⟨r, 0, none⟩), .int .i64 1048576] V fun e w' => ∃ v, e = .returned (.tuple #[v, .bool true]) ∧ Rs w' (fun k => V.heap.size ≤ k) v rs ∧ Below V.heap.size V w' := fun V hV => by
    have := told_yes (a1.mono hV).rk 1048576 (by omega) hps
    rw [htk] at this
    exact this
  have told1 : ∀ V, Below w.heap.size w V → Calls Tryz.prog 31 #[.pointer (some ⟨r, 0, none⟩), .int .i64 1] V fun e w' => ∃ ao cap, e = .returned (.tuple #[.slice ao (min 1 rs.length) cap, .bool true]) ∧ Below V.heap.size V w' := fun V hV =>
    (told_yes (a1.mono hV).rk 1 (by omega) hps).mono (fun e w' ⟨v, u1, u2, u3⟩ => by
      obtain ⟨ao, cap, e1, -⟩ := u2.slice
      exact ⟨ao, cap, by rw [u1, e1, ht1], u3⟩)
  obtain ⟨tl, htl⟩ : ∃ tl, hd + rs.length = tl := ⟨_, rfl⟩
  obtain ⟨rm, hrm⟩ : ∃ rm, 4 * blocks - rs.length = rm := ⟨_, rfl⟩
  have hHd : ∀ V, Below w.heap.size w V → Calls Tryz.prog 33 #[.pointer (some ⟨r, 0, none⟩)] V fun e w' => e = .returned (.int .i64 (hd : Int)) ∧ Below w.heap.size w w' := fun V hV => (head_yes (a1.mono hV).rk).mono (fun e w' ⟨u1, u2⟩ => ⟨u1, u2 ▸ hV⟩)
  have hTl : ∀ V, Below w.heap.size w V → Calls Tryz.prog 16 #[.pointer (some ⟨r, 0, none⟩)] V fun e w' => e = .returned (.int .i64 (tl : Int)) ∧ Below w.heap.size w w' := fun V hV => (tail_yes (a1.mono hV).rk).mono (fun e w' ⟨u1, n1, u2⟩ => ⟨by rw [u1, htl], u2 ▸ below_drewN hV n1⟩)
  have hTx : ∀ V, Below w.heap.size w V → Calls Tryz.prog 30 #[.pointer (some ⟨x, 0, none⟩)] V fun e w' => e = .returned (.int .i64 (tl : Int)) ∧ Below w.heap.size w w' := fun V hV => (rtail_yes (b1.mono hV).rk).mono (fun e w' ⟨u1, n1, u2⟩ => ⟨by rw [u1, htl], u2 ▸ below_drewN hV n1⟩)
  have hRm : ∀ V, Below w.heap.size w V → Calls Tryz.prog 17 #[.pointer (some ⟨r, 0, none⟩)] V fun e w' => e = .returned (.int .i64 (rm : Int)) ∧ Below w.heap.size w w' := fun V hV => (room_yes (a1.mono hV).rk).mono (fun e w' ⟨u1, n1, u2⟩ => ⟨by rw [u1, hrm], u2 ▸ below_drewN hV n1⟩)
  have hRx : ∀ V, Below w.heap.size w V → Calls Tryz.prog 34 #[.pointer (some ⟨x, 0, none⟩)] V fun e w' => e = .returned (.int .i64 (rm : Int)) ∧ Below w.heap.size w w' := fun V hV => (rroom_yes (b1.mono hV).rk).mono (fun e w' ⟨u1, n1, u2⟩ => ⟨by rw [u1, hrm], u2 ▸ below_drewN hV n1⟩)
  have hmlt := a1.dk.ok.lt
  have hIm : ∀ V, Below w.heap.size w V → Calls Tryz.prog 36 #[.pointer (some ⟨g, 0, none⟩)] V fun e w' => ∃ v, e = .returned v ∧ Bs w' v s.med ∧ Below w.heap.size w w' := fun V hV => (image_yes (a1.mono hV).dk).mono (fun e w' ⟨v, u1, u2, u3⟩ => ⟨v, u1, NewBs.bs u2 hmlt, hV.trans (u3.mono hV.size)⟩)
  have hIx : ∀ V (v : Value), Below w.heap.size w V → Bs V v s.med → Calls Tryz.prog 37 #[.pointer (some ⟨gx, 0, none⟩)] V fun e w' => ∃ v', e = .returned v' ∧ Bs w' v' s.med ∧ Bs w' v s.med ∧ Below w.heap.size w w' := fun V v hV hv => (rimage_yes (b1.mono hV).dk).mono (fun e w' ⟨v', u1, u2, u3⟩ => ⟨v', u1, NewBs.bs u2 hmlt, hv.mono u3, hV.trans (u3.mono hV.size)⟩)
  obtain ⟨xao, xcap, xc4, xR, -⟩ := b1.rk.c4
  have hcell : ∀ V, Below w.heap.size w V → V.cell? ⟨tb, 1, none⟩ = some (.int .i64 (base : Int)) ∧ V.cell? ⟨tb, 4, none⟩ = some (.pointer (some ⟨g, 0, none⟩)) ∧ V.cell? ⟨tb, 5, none⟩ = some (.pointer (some ⟨r, 0, none⟩)) ∧ V.cell? ⟨tb, 6, none⟩ = some (.pointer (some ⟨gx, 0, none⟩)) ∧ V.cell? ⟨tb, 7, none⟩ = some (.pointer (some ⟨x, 0, none⟩)) ∧ V.cell? ⟨x, 3, none⟩ = some (.int .i64 (hd : Int)) ∧ V.cell? ⟨x, 4, none⟩ = some (.slice xao rs.length xcap) := fun V hV => by
    have q := ht.keeps (S := fun _ => False) (Keeps.of_below hV) id
    exact ⟨q.t1, q.t4, q.t5, q.t6, q.t7, (b1.mono hV).rk.c3, (Keeps.of_below (S := fun _ => False) hV).cell xc4 id⟩
  have hmin : (if (rs.length : Int) < 1 then (rs.length : Int) else 1) = ((min 1 rs.length : Nat) : Int) := by
    by_cases h0 : rs.length = 0
    · rw [if_pos (by omega)]; omega
    · rw [if_neg (by omega)]; omega
  have XR := hide xR
  have Hb0 : Below w.heap.size w w := Below.refl _ _
  obtain ⟨mn, hmn⟩ : ∃ mn, min 1 rs.length = mn := ⟨_, rfl⟩
  rw [hmn] at hmin
  simp only [hmn] at told1
  have Hmn := hide hmn
  clear a1 b1 ht hps htk ht1 htl hrm xR xc4 hmn
  obtain ⟨t1_w, t4_w, t5_w, t6_w, t7_w, x3_w, x4_w⟩ := hcell w Hb0
  go_enter Tryz.func7, Tryz.ntmps7
  go_wp2_with fail
  refine (told0 _ Hb0).mono ?_
  rintro e w1 ⟨v1, rfl, hR1, hb1⟩
  obtain ⟨ao1, cap1, rfl, -⟩ := hR1.slice
  have hB1 : Below w.heap.size w w1 := hb1
  obtain ⟨t1_w1, t4_w1, t5_w1, t6_w1, t7_w1, x3_w1, x4_w1⟩ := hcell w1 hB1
  go_wp2_with fail
  refine (told1 _ hB1).mono ?_
  rintro e w2 ⟨ao2, cap2, rfl, hb2⟩
  have hB2 : Below w.heap.size w w2 := hB1.trans (hb2.mono hB1.size)
  obtain ⟨t1_w2, t4_w2, t5_w2, t6_w2, t7_w2, x3_w2, x4_w2⟩ := hcell w2 hB2
  have hB2d : Below w.heap.size w w2.drew := hB2.drew
  have hsame : Calls Tryz.prog 32 #[.slice ao1 rs.length cap1, .slice xao rs.length xcap] w2.drew fun e w' => e = .returned (.bool true) ∧ Below w.heap.size w w' := (sameAll_yes w2.drew _ _ _ _ rs ((hR1.mono hb2).mono (Below.refl _ _).drew) (XR.out.mono hB2d) (by omega)).mono (fun e w' ⟨u1, u2⟩ => ⟨u1, hB2d.trans (u2.mono hB2d.size)⟩)
  have hheld : ∀ V, Below w.heap.size w V → V.cell? ⟨tb, 4, none⟩ = some (.pointer (some ⟨g, 0, none⟩)) ∧ V.cell? ⟨tb, 5, none⟩ = some (.pointer (some ⟨r, 0, none⟩)) ∧ V.cell? ⟨tb, 6, none⟩ = some (.pointer (some ⟨gx, 0, none⟩)) ∧ V.cell? ⟨tb, 7, none⟩ = some (.pointer (some ⟨x, 0, none⟩)) ∧ V.cell? ⟨x, 3, none⟩ = some (.int .i64 (hd : Int)) ∧ V.cell? ⟨x, 4, none⟩ = some (.slice xao rs.length xcap) := fun V hV => (hcell V hV).2
  clear hcell told0 told1 hR1 XR hb1 hb2
  go_wp2_with fail
  simp only [List.append_eq, List.cons_append, List.nil_append]
  refine wp_region_noPanic ?_
  refine wp_region_held_drew (S := (fun V => V.cell? ⟨tb, 4, none⟩ = some (.pointer (some ⟨g, 0, none⟩)) ∧ V.cell? ⟨tb, 5, none⟩ = some (.pointer (some ⟨r, 0, none⟩)) ∧ V.cell? ⟨tb, 6, none⟩ = some (.pointer (some ⟨gx, 0, none⟩)) ∧ V.cell? ⟨tb, 7, none⟩ = some (.pointer (some ⟨x, 0, none⟩)) ∧ V.cell? ⟨x, 3, none⟩ = some (.int .i64 (hd : Int)) ∧ V.cell? ⟨x, 4, none⟩ = some (.slice xao rs.length xcap))) (by kernel_rfl) (hheld _ hB2d) (fun hHeld => ?_)
  clear hHeld
  refine wpAnyH_take (i := 0) (oi := { dst := some 47, op := Op.move (Operand.tmp 4), type := 4, pos := _, after := #[], guard := none }) (v := .bool true) rfl (by kernel_rfl) (by kernel_rfl) (by kernel_rfl) (fun _ _ _ h => h) (Or.inl ⟨by rfl, fun w' hw => by go_simp⟩) (hheld _ hB2d) ?_
  simp only [Act.put, List.setIfInBounds_toArray, List.set_cons_zero, List.set_cons_succ]
  refine wpAnyH_take (i := 1) (oi := { dst := some 48, op := Op.move (Operand.tmp 47), type := 4, pos := _, after := #[{ on := 0, ground := Ground.data }], guard := none }) (v := .bool true) rfl (by kernel_rfl) (by kernel_rfl) (by kernel_rfl) (fun _ _ _ h => h) (Or.inl ⟨by rfl, fun w' hw => by go_simp⟩) (hheld _ hB2d) ?_
  simp only [Act.put, List.setIfInBounds_toArray, List.set_cons_zero, List.set_cons_succ]
  refine wpAnyH_take (i := 2) (oi := { dst := some 49, op := Op.move (Operand.tmp 6), type := 4, pos := _, after := #[{ on := 1, ground := Ground.guard }], guard := some (1, true) }) (v := .bool true) rfl (by kernel_rfl) (by kernel_rfl) (by kernel_rfl) (fun _ _ _ h => h) (Or.inl ⟨by rfl, fun w' hw => by go_simp⟩) (hheld _ hB2d) ?_
  simp only [Act.put, List.setIfInBounds_toArray, List.set_cons_zero, List.set_cons_succ]
  refine wpAnyH_take (i := 3) (oi := { dst := some 50, op := Op.pick (Operand.tmp 48) (Operand.tmp 49) (Operand.const (Value.bool false)), type := 4, pos := _, after := #[{ on := 1, ground := Ground.data }, { on := 2, ground := Ground.data }], guard := none }) (v := .bool true) rfl (by kernel_rfl) (by kernel_rfl) (by kernel_rfl) (fun _ _ _ h => h) (Or.inl ⟨by rfl, fun w' hw => by go_simp⟩) (hheld _ hB2d) ?_
  simp only [Act.put, List.setIfInBounds_toArray, List.set_cons_zero, List.set_cons_succ]
  refine wpAnyH_take (i := 4) (oi := { dst := some 51, op := Op.move (Operand.tmp 50), type := 4, pos := _, after := #[{ on := 3, ground := Ground.data }, { on := 1, ground := Ground.chain }], guard := none }) (v := .bool true) rfl (by kernel_rfl) (by kernel_rfl) (by kernel_rfl) (fun _ _ _ h => h) (Or.inl ⟨by rfl, fun w' hw => by go_simp⟩) (hheld _ hB2d) ?_
  simp only [Act.put, List.setIfInBounds_toArray, List.set_cons_zero, List.set_cons_succ]
  refine wpAnyH_take (i := 5) (oi := { dst := some 52, op := Op.move (Operand.tmp 5), type := 29, pos := _, after := #[{ on := 4, ground := Ground.guard }], guard := some (4, true) }) (v := .slice ao2 mn cap2) rfl (by kernel_rfl) (by kernel_rfl) (by kernel_rfl) (fun _ _ _ h => h) (Or.inl ⟨by rfl, fun w' hw => by go_simp⟩) (hheld _ hB2d) ?_
  simp only [Act.put, List.setIfInBounds_toArray, List.set_cons_zero, List.set_cons_succ]
  refine wpAnyH_take (i := 6) (oi := { dst := some 53, op := Op.call { callee := Callee.builtin Builtin.len, args := #[Operand.tmp 52], argTypes := #[29] }, type := 3, pos := _, after := #[{ on := 5, ground := Ground.data }, { on := 4, ground := Ground.guard }], guard := some (4, true) }) (v := .int .i64 (mn : Int)) rfl (by kernel_rfl) (by kernel_rfl) (by kernel_rfl) (fun _ _ _ h => h) (Or.inl ⟨by rfl, fun w' hw => by go_simp⟩) (hheld _ hB2d) ?_
  simp only [Act.put, List.setIfInBounds_toArray, List.set_cons_zero, List.set_cons_succ]
  refine wpAnyH_take (i := 7) (oi := { dst := some 54, op := Op.move (Operand.tmp 0), type := 25, pos := _, after := #[{ on := 4, ground := Ground.guard }], guard := some (4, true) }) (v := .pointer (some ⟨tb, 0, none⟩)) rfl (by kernel_rfl) (by kernel_rfl) (by kernel_rfl) (fun _ _ _ h => h) (Or.inl ⟨by rfl, fun w' hw => by go_simp⟩) (hheld _ hB2d) ?_
  simp only [Act.put, List.setIfInBounds_toArray, List.set_cons_zero, List.set_cons_succ]
  refine wpAnyH_take (i := 8) (oi := { dst := some 55, op := Op.nilCheck (Operand.tmp 54), type := 0, pos := _, after := #[{ on := 7, ground := Ground.data }, { on := 4, ground := Ground.guard }], guard := some (4, true) }) (v := .pointer (some ⟨tb, 0, none⟩)) rfl (by kernel_rfl) (by kernel_rfl) (by kernel_rfl) (fun _ _ _ h => h) (Or.inl ⟨by rfl, fun w' hw => by go_simp⟩) (hheld _ hB2d) ?_
  simp only [Act.put, List.setIfInBounds_toArray, List.set_cons_zero, List.set_cons_succ]
  refine wpAnyH_take (i := 9) (oi := { dst := some 56, op := Op.fieldAddr 39 (Operand.tmp 55) 4, type := 0, pos := _, after := #[{ on := 8, ground := Ground.data }, { on := 4, ground := Ground.guard }], guard := some (4, true) }) (v := .pointer (some ⟨tb, 7, none⟩)) rfl (by kernel_rfl) (by kernel_rfl) (by kernel_rfl) (fun _ _ _ h => h) (Or.inl ⟨by rfl, fun w' hw => by go_simp⟩) (hheld _ hB2d) ?_
  simp only [Act.put, List.setIfInBounds_toArray, List.set_cons_zero, List.set_cons_succ]
  refine wpAnyH_take (i := 10) (oi := { dst := some 57, op := Op.load 37 (Operand.tmp 56), type := 37, pos := _, after := #[{ on := 9, ground := Ground.data }, { on := 4, ground := Ground.guard }], guard := some (4, true) }) (v := .pointer (some ⟨x, 0, none⟩)) rfl (by kernel_rfl) (by kernel_rfl) (by kernel_rfl) (fun _ _ _ h => h) (Or.inl ⟨by rfl, fun w' hw => by obtain ⟨d4, d5, d6, d7, d8, d9⟩ := hw; go_simp⟩) (hheld _ hB2d) ?_
  simp only [Act.put, List.setIfInBounds_toArray, List.set_cons_zero, List.set_cons_succ]
  refine wpAnyH_take (i := 11) (oi := { dst := some 58, op := Op.nilCheck (Operand.tmp 57), type := 0, pos := _, after := #[{ on := 10, ground := Ground.data }, { on := 4, ground := Ground.guard }], guard := some (4, true) }) (v := .pointer (some ⟨x, 0, none⟩)) rfl (by kernel_rfl) (by kernel_rfl) (by kernel_rfl) (fun _ _ _ h => h) (Or.inl ⟨by rfl, fun w' hw => by go_simp⟩) (hheld _ hB2d) ?_
  simp only [Act.put, List.setIfInBounds_toArray, List.set_cons_zero, List.set_cons_succ]
  refine wpAnyH_take (i := 12) (oi := { dst := some 59, op := Op.fieldAddr 62 (Operand.tmp 58) 4, type := 0, pos := _, after := #[{ on := 11, ground := Ground.data }, { on := 4, ground := Ground.guard }], guard := some (4, true) }) (v := .pointer (some ⟨x, 4, none⟩)) rfl (by kernel_rfl) (by kernel_rfl) (by kernel_rfl) (fun _ _ _ h => h) (Or.inl ⟨by rfl, fun w' hw => by go_simp⟩) (hheld _ hB2d) ?_
  simp only [Act.put, List.setIfInBounds_toArray, List.set_cons_zero, List.set_cons_succ]
  refine wpAnyH_take (i := 13) (oi := { dst := some 60, op := Op.load 29 (Operand.tmp 59), type := 29, pos := _, after := #[{ on := 12, ground := Ground.data }, { on := 4, ground := Ground.guard }], guard := some (4, true) }) (v := .slice xao rs.length xcap) rfl (by kernel_rfl) (by kernel_rfl) (by kernel_rfl) (fun _ _ _ h => h) (Or.inl ⟨by rfl, fun w' hw => by obtain ⟨d4, d5, d6, d7, d8, d9⟩ := hw; go_simp⟩) (hheld _ hB2d) ?_
  simp only [Act.put, List.setIfInBounds_toArray, List.set_cons_zero, List.set_cons_succ]
  refine wpAnyH_take (i := 14) (oi := { dst := some 61, op := Op.call { callee := Callee.builtin Builtin.len, args := #[Operand.tmp 60], argTypes := #[29] }, type := 3, pos := _, after := #[{ on := 13, ground := Ground.data }, { on := 4, ground := Ground.guard }], guard := some (4, true) }) (v := .int .i64 (rs.length : Int)) rfl (by kernel_rfl) (by kernel_rfl) (by kernel_rfl) (fun _ _ _ h => h) (Or.inl ⟨by rfl, fun w' hw => by go_simp⟩) (hheld _ hB2d) ?_
  simp only [Act.put, List.setIfInBounds_toArray, List.set_cons_zero, List.set_cons_succ]
  refine wpAnyH_take (i := 15) (oi := { dst := some 62, op := Op.call { callee := Callee.builtin Builtin.min, args := #[Operand.const (Value.int IntKind.i64 1), Operand.tmp 61], argTypes := #[3, 3] }, type := 3, pos := _, after := #[{ on := 14, ground := Ground.data }, { on := 4, ground := Ground.guard }], guard := some (4, true) }) (v := .int .i64 (mn : Int)) rfl (by kernel_rfl) (by kernel_rfl) (by kernel_rfl) (fun _ _ _ h => h) (Or.inl ⟨by rfl, fun w' hw => by go_simp⟩) (hheld _ hB2d) ?_
  simp only [Act.put, List.setIfInBounds_toArray, List.set_cons_zero, List.set_cons_succ]
  refine wpAnyH_take (i := 16) (oi := { dst := some 63, op := Op.binOp BinOp.eql 3 (Operand.tmp 53) (Operand.tmp 62) 3, type := 4, pos := _, after := #[{ on := 6, ground := Ground.data }, { on := 15, ground := Ground.data }, { on := 4, ground := Ground.guard }], guard := some (4, true) }) (v := .bool true) rfl (by kernel_rfl) (by kernel_rfl) (by kernel_rfl) (fun _ _ _ h => h) (Or.inl ⟨by rfl, fun w' hw => by go_simp⟩) (hheld _ hB2d) ?_
  simp only [Act.put, List.setIfInBounds_toArray, List.set_cons_zero, List.set_cons_succ]
  refine wpAnyH_take (i := 17) (oi := { dst := some 64, op := Op.pick (Operand.tmp 51) (Operand.tmp 63) (Operand.const (Value.bool false)), type := 4, pos := _, after := #[{ on := 4, ground := Ground.data }, { on := 16, ground := Ground.data }], guard := none }) (v := .bool true) rfl (by kernel_rfl) (by kernel_rfl) (by kernel_rfl) (fun _ _ _ h => h) (Or.inl ⟨by rfl, fun w' hw => by go_simp⟩) (hheld _ hB2d) ?_
  simp only [Act.put, List.setIfInBounds_toArray, List.set_cons_zero, List.set_cons_succ]
  refine wpAnyH_take (i := 18) (oi := { dst := some 65, op := Op.move (Operand.tmp 64), type := 4, pos := _, after := #[{ on := 17, ground := Ground.data }, { on := 4, ground := Ground.chain }], guard := none }) (v := .bool true) rfl (by kernel_rfl) (by kernel_rfl) (by kernel_rfl) (fun _ _ _ h => h) (Or.inl ⟨by rfl, fun w' hw => by go_simp⟩) (hheld _ hB2d) ?_
  simp only [Act.put, List.setIfInBounds_toArray, List.set_cons_zero, List.set_cons_succ]
  refine wpAnyH_take (i := 19) (oi := { dst := some 66, op := Op.move (Operand.tmp 3), type := 29, pos := _, after := #[{ on := 18, ground := Ground.guard }], guard := some (18, true) }) (v := .slice ao1 rs.length cap1) rfl (by kernel_rfl) (by kernel_rfl) (by kernel_rfl) (fun _ _ _ h => h) (Or.inl ⟨by rfl, fun w' hw => by go_simp⟩) (hheld _ hB2d) ?_
  simp only [Act.put, List.setIfInBounds_toArray, List.set_cons_zero, List.set_cons_succ]
  refine wpAnyH_take (i := 20) (oi := { dst := some 67, op := Op.move (Operand.tmp 0), type := 25, pos := _, after := #[{ on := 18, ground := Ground.guard }], guard := some (18, true) }) (v := .pointer (some ⟨tb, 0, none⟩)) rfl (by kernel_rfl) (by kernel_rfl) (by kernel_rfl) (fun _ _ _ h => h) (Or.inl ⟨by rfl, fun w' hw => by go_simp⟩) (hheld _ hB2d) ?_
  simp only [Act.put, List.setIfInBounds_toArray, List.set_cons_zero, List.set_cons_succ]
  refine wpAnyH_take (i := 21) (oi := { dst := some 68, op := Op.nilCheck (Operand.tmp 67), type := 0, pos := _, after := #[{ on := 20, ground := Ground.data }, { on := 18, ground := Ground.guard }], guard := some (18, true) }) (v := .pointer (some ⟨tb, 0, none⟩)) rfl (by kernel_rfl) (by kernel_rfl) (by kernel_rfl) (fun _ _ _ h => h) (Or.inl ⟨by rfl, fun w' hw => by go_simp⟩) (hheld _ hB2d) ?_
  simp only [Act.put, List.setIfInBounds_toArray, List.set_cons_zero, List.set_cons_succ]
  refine wpAnyH_take (i := 22) (oi := { dst := some 69, op := Op.fieldAddr 39 (Operand.tmp 68) 4, type := 0, pos := _, after := #[{ on := 21, ground := Ground.data }, { on := 18, ground := Ground.guard }], guard := some (18, true) }) (v := .pointer (some ⟨tb, 7, none⟩)) rfl (by kernel_rfl) (by kernel_rfl) (by kernel_rfl) (fun _ _ _ h => h) (Or.inl ⟨by rfl, fun w' hw => by go_simp⟩) (hheld _ hB2d) ?_
  simp only [Act.put, List.setIfInBounds_toArray, List.set_cons_zero, List.set_cons_succ]
  refine wpAnyH_take (i := 23) (oi := { dst := some 70, op := Op.load 37 (Operand.tmp 69), type := 37, pos := _, after := #[{ on := 22, ground := Ground.data }, { on := 18, ground := Ground.guard }], guard := some (18, true) }) (v := .pointer (some ⟨x, 0, none⟩)) rfl (by kernel_rfl) (by kernel_rfl) (by kernel_rfl) (fun _ _ _ h => h) (Or.inl ⟨by rfl, fun w' hw => by obtain ⟨d4, d5, d6, d7, d8, d9⟩ := hw; go_simp⟩) (hheld _ hB2d) ?_
  simp only [Act.put, List.setIfInBounds_toArray, List.set_cons_zero, List.set_cons_succ]
  refine wpAnyH_take (i := 24) (oi := { dst := some 71, op := Op.nilCheck (Operand.tmp 70), type := 0, pos := _, after := #[{ on := 23, ground := Ground.data }, { on := 18, ground := Ground.guard }], guard := some (18, true) }) (v := .pointer (some ⟨x, 0, none⟩)) rfl (by kernel_rfl) (by kernel_rfl) (by kernel_rfl) (fun _ _ _ h => h) (Or.inl ⟨by rfl, fun w' hw => by go_simp⟩) (hheld _ hB2d) ?_
  simp only [Act.put, List.setIfInBounds_toArray, List.set_cons_zero, List.set_cons_succ]
  refine wpAnyH_take (i := 25) (oi := { dst := some 72, op := Op.fieldAddr 62 (Operand.tmp 71) 4, type := 0, pos := _, after := #[{ on := 24, ground := Ground.data }, { on := 18, ground := Ground.guard }], guard := some (18, true) }) (v := .pointer (some ⟨x, 4, none⟩)) rfl (by kernel_rfl) (by kernel_rfl) (by kernel_rfl) (fun _ _ _ h => h) (Or.inl ⟨by rfl, fun w' hw => by go_simp⟩) (hheld _ hB2d) ?_
  simp only [Act.put, List.setIfInBounds_toArray, List.set_cons_zero, List.set_cons_succ]
  refine wpAnyH_take (i := 26) (oi := { dst := some 73, op := Op.load 29 (Operand.tmp 72), type := 29, pos := _, after := #[{ on := 25, ground := Ground.data }, { on := 18, ground := Ground.guard }], guard := some (18, true) }) (v := .slice xao rs.length xcap) rfl (by kernel_rfl) (by kernel_rfl) (by kernel_rfl) (fun _ _ _ h => h) (Or.inl ⟨by rfl, fun w' hw => by obtain ⟨d4, d5, d6, d7, d8, d9⟩ := hw; go_simp⟩) (hheld _ hB2d) ?_
  simp only [Act.put, List.setIfInBounds_toArray, List.set_cons_zero, List.set_cons_succ]
  refine wpAnyH_ready (rs := [27]) (by kernel_rfl) (by simp) ?_
  refine AllReadyH.cons (o := { dst := some 74, op := Op.call { callee := Callee.value (Operand.func 32), args := #[Operand.tmp 66, Operand.tmp 73], argTypes := #[29, 29] }, type := 4, pos := _, after := #[{ on := 19, ground := Ground.data }, { on := 26, ground := Ground.data }, { on := 18, ground := Ground.chain }, { on := 18, ground := Ground.guard }], guard := some (18, true) }) rfl (fun K hK => ?_) AllReadyH.nil
  go_simp
  refine hsame.mono ?_
  rintro e y1 ⟨rfl, hy1⟩
  refine hK.out _ _ (hheld _ hy1) (fun _ => ?_)
  clear hK K
  refine wpAnyH_take (i := 28) (oi := { dst := some 75, op := Op.pick (Operand.tmp 65) (Operand.tmp 74) (Operand.const (Value.bool false)), type := 4, pos := _, after := #[{ on := 18, ground := Ground.data }, { on := 27, ground := Ground.data }], guard := none }) (v := .bool true) rfl (by kernel_rfl) (by kernel_rfl) (by kernel_rfl) (fun _ _ _ h => h) (Or.inl ⟨by rfl, fun w' hw => by go_simp⟩) (hheld _ hy1) ?_
  simp only [Act.put, List.setIfInBounds_toArray, List.set_cons_zero, List.set_cons_succ]
  refine wpAnyH_take (i := 29) (oi := { dst := some 76, op := Op.move (Operand.tmp 75), type := 4, pos := _, after := #[{ on := 28, ground := Ground.data }, { on := 27, ground := Ground.chain }], guard := none }) (v := .bool true) rfl (by kernel_rfl) (by kernel_rfl) (by kernel_rfl) (fun _ _ _ h => h) (Or.inl ⟨by rfl, fun w' hw => by go_simp⟩) (hheld _ hy1) ?_
  simp only [Act.put, List.setIfInBounds_toArray, List.set_cons_zero, List.set_cons_succ]
  refine wpAnyH_take (i := 30) (oi := { dst := some 77, op := Op.move (Operand.tmp 0), type := 25, pos := _, after := #[{ on := 29, ground := Ground.guard }], guard := some (29, true) }) (v := .pointer (some ⟨tb, 0, none⟩)) rfl (by kernel_rfl) (by kernel_rfl) (by kernel_rfl) (fun _ _ _ h => h) (Or.inl ⟨by rfl, fun w' hw => by go_simp⟩) (hheld _ hy1) ?_
  simp only [Act.put, List.setIfInBounds_toArray, List.set_cons_zero, List.set_cons_succ]
  refine wpAnyH_take (i := 31) (oi := { dst := some 78, op := Op.nilCheck (Operand.tmp 77), type := 0, pos := _, after := #[{ on := 30, ground := Ground.data }, { on := 29, ground := Ground.guard }], guard := some (29, true) }) (v := .pointer (some ⟨tb, 0, none⟩)) rfl (by kernel_rfl) (by kernel_rfl) (by kernel_rfl) (fun _ _ _ h => h) (Or.inl ⟨by rfl, fun w' hw => by go_simp⟩) (hheld _ hy1) ?_
  simp only [Act.put, List.setIfInBounds_toArray, List.set_cons_zero, List.set_cons_succ]
  refine wpAnyH_take (i := 32) (oi := { dst := some 79, op := Op.fieldAddr 39 (Operand.tmp 78) 2, type := 0, pos := _, after := #[{ on := 31, ground := Ground.data }, { on := 29, ground := Ground.guard }], guard := some (29, true) }) (v := .pointer (some ⟨tb, 5, none⟩)) rfl (by kernel_rfl) (by kernel_rfl) (by kernel_rfl) (fun _ _ _ h => h) (Or.inl ⟨by rfl, fun w' hw => by go_simp⟩) (hheld _ hy1) ?_
  simp only [Act.put, List.setIfInBounds_toArray, List.set_cons_zero, List.set_cons_succ]
  refine wpAnyH_take (i := 33) (oi := { dst := some 80, op := Op.load 35 (Operand.tmp 79), type := 35, pos := _, after := #[{ on := 32, ground := Ground.data }, { on := 29, ground := Ground.guard }], guard := some (29, true) }) (v := .pointer (some ⟨r, 0, none⟩)) rfl (by kernel_rfl) (by kernel_rfl) (by kernel_rfl) (fun _ _ _ h => h) (Or.inl ⟨by rfl, fun w' hw => by obtain ⟨d4, d5, d6, d7, d8, d9⟩ := hw; go_simp⟩) (hheld _ hy1) ?_
  simp only [Act.put, List.setIfInBounds_toArray, List.set_cons_zero, List.set_cons_succ]
  refine wpAnyH_take (i := 35) (oi := { dst := some 82, op := Op.move (Operand.tmp 0), type := 25, pos := _, after := #[{ on := 29, ground := Ground.guard }], guard := some (29, true) }) (v := .pointer (some ⟨tb, 0, none⟩)) rfl (by kernel_rfl) (by kernel_rfl) (by kernel_rfl) (fun _ _ _ h => h) (Or.inl ⟨by rfl, fun w' hw => by go_simp⟩) (hheld _ hy1) ?_
  simp only [Act.put, List.setIfInBounds_toArray, List.set_cons_zero, List.set_cons_succ]
  refine wpAnyH_take (i := 36) (oi := { dst := some 83, op := Op.nilCheck (Operand.tmp 82), type := 0, pos := _, after := #[{ on := 35, ground := Ground.data }, { on := 29, ground := Ground.guard }], guard := some (29, true) }) (v := .pointer (some ⟨tb, 0, none⟩)) rfl (by kernel_rfl) (by kernel_rfl) (by kernel_rfl) (fun _ _ _ h => h) (Or.inl ⟨by rfl, fun w' hw => by go_simp⟩) (hheld _ hy1) ?_
  simp only [Act.put, List.setIfInBounds_toArray, List.set_cons_zero, List.set_cons_succ]
  refine wpAnyH_take (i := 37) (oi := { dst := some 84, op := Op.fieldAddr 39 (Operand.tmp 83) 4, type := 0, pos := _, after := #[{ on := 36, ground := Ground.data }, { on := 29, ground := Ground.guard }], guard := some (29, true) }) (v := .pointer (some ⟨tb, 7, none⟩)) rfl (by kernel_rfl) (by kernel_rfl) (by kernel_rfl) (fun _ _ _ h => h) (Or.inl ⟨by rfl, fun w' hw => by go_simp⟩) (hheld _ hy1) ?_
  simp only [Act.put, List.setIfInBounds_toArray, List.set_cons_zero, List.set_cons_succ]
  refine wpAnyH_take (i := 38) (oi := { dst := some 85, op := Op.load 37 (Operand.tmp 84), type := 37, pos := _, after := #[{ on := 37, ground := Ground.data }, { on := 29, ground := Ground.guard }], guard := some (29, true) }) (v := .pointer (some ⟨x, 0, none⟩)) rfl (by kernel_rfl) (by kernel_rfl) (by kernel_rfl) (fun _ _ _ h => h) (Or.inl ⟨by rfl, fun w' hw => by obtain ⟨d4, d5, d6, d7, d8, d9⟩ := hw; go_simp⟩) (hheld _ hy1) ?_
  simp only [Act.put, List.setIfInBounds_toArray, List.set_cons_zero, List.set_cons_succ]
  refine wpAnyH_take (i := 39) (oi := { dst := some 86, op := Op.nilCheck (Operand.tmp 85), type := 0, pos := _, after := #[{ on := 38, ground := Ground.data }, { on := 29, ground := Ground.guard }], guard := some (29, true) }) (v := .pointer (some ⟨x, 0, none⟩)) rfl (by kernel_rfl) (by kernel_rfl) (by kernel_rfl) (fun _ _ _ h => h) (Or.inl ⟨by rfl, fun w' hw => by go_simp⟩) (hheld _ hy1) ?_
  simp only [Act.put, List.setIfInBounds_toArray, List.set_cons_zero, List.set_cons_succ]
  refine wpAnyH_take (i := 40) (oi := { dst := some 87, op := Op.fieldAddr 62 (Operand.tmp 86) 3, type := 0, pos := _, after := #[{ on := 39, ground := Ground.data }, { on := 29, ground := Ground.guard }], guard := some (29, true) }) (v := .pointer (some ⟨x, 3, none⟩)) rfl (by kernel_rfl) (by kernel_rfl) (by kernel_rfl) (fun _ _ _ h => h) (Or.inl ⟨by rfl, fun w' hw => by go_simp⟩) (hheld _ hy1) ?_
  simp only [Act.put, List.setIfInBounds_toArray, List.set_cons_zero, List.set_cons_succ]
  refine wpAnyH_take (i := 41) (oi := { dst := some 88, op := Op.load 2 (Operand.tmp 87), type := 2, pos := _, after := #[{ on := 40, ground := Ground.data }, { on := 29, ground := Ground.guard }], guard := some (29, true) }) (v := .int .i64 (hd : Int)) rfl (by kernel_rfl) (by kernel_rfl) (by kernel_rfl) (fun _ _ _ h => h) (Or.inl ⟨by rfl, fun w' hw => by obtain ⟨d4, d5, d6, d7, d8, d9⟩ := hw; go_simp⟩) (hheld _ hy1) ?_
  simp only [Act.put, List.setIfInBounds_toArray, List.set_cons_zero, List.set_cons_succ]
  refine wpAnyH_ready (rs := [34]) (by kernel_rfl) (by simp) ?_
  refine AllReadyH.cons (o := { dst := some 81, op := Op.call { callee := Callee.value (Operand.func 33), args := #[Operand.tmp 80], argTypes := #[35] }, type := 2, pos := _, after := #[{ on := 33, ground := Ground.data }, { on := 29, ground := Ground.chain }, { on := 29, ground := Ground.guard }], guard := some (29, true) }) rfl (fun K hK => ?_) AllReadyH.nil
  go_simp
  refine (hHd _ hy1).mono ?_
  rintro e y2 ⟨rfl, hy2⟩
  refine hK.out _ _ (hheld _ hy2) (fun _ => ?_)
  clear hK K
  refine wpAnyH_take (i := 42) (oi := { dst := some 89, op := Op.binOp BinOp.eql 2 (Operand.tmp 81) (Operand.tmp 88) 2, type := 4, pos := _, after := #[{ on := 34, ground := Ground.data }, { on := 41, ground := Ground.data }, { on := 29, ground := Ground.guard }], guard := some (29, true) }) (v := .bool true) rfl (by kernel_rfl) (by kernel_rfl) (by kernel_rfl) (fun _ _ _ h => h) (Or.inl ⟨by rfl, fun w' hw => by go_simp⟩) (hheld _ hy2) ?_
  simp only [Act.put, List.setIfInBounds_toArray, List.set_cons_zero, List.set_cons_succ]
  refine wpAnyH_take (i := 43) (oi := { dst := some 90, op := Op.pick (Operand.tmp 76) (Operand.tmp 89) (Operand.const (Value.bool false)), type := 4, pos := _, after := #[{ on := 29, ground := Ground.data }, { on := 42, ground := Ground.data }], guard := none }) (v := .bool true) rfl (by kernel_rfl) (by kernel_rfl) (by kernel_rfl) (fun _ _ _ h => h) (Or.inl ⟨by rfl, fun w' hw => by go_simp⟩) (hheld _ hy2) ?_
  simp only [Act.put, List.setIfInBounds_toArray, List.set_cons_zero, List.set_cons_succ]
  refine wpAnyH_take (i := 44) (oi := { dst := some 91, op := Op.move (Operand.tmp 90), type := 4, pos := _, after := #[{ on := 43, ground := Ground.data }, { on := 34, ground := Ground.chain }], guard := none }) (v := .bool true) rfl (by kernel_rfl) (by kernel_rfl) (by kernel_rfl) (fun _ _ _ h => h) (Or.inl ⟨by rfl, fun w' hw => by go_simp⟩) (hheld _ hy2) ?_
  simp only [Act.put, List.setIfInBounds_toArray, List.set_cons_zero, List.set_cons_succ]
  refine wpAnyH_take (i := 45) (oi := { dst := some 92, op := Op.move (Operand.tmp 0), type := 25, pos := _, after := #[{ on := 44, ground := Ground.guard }], guard := some (44, true) }) (v := .pointer (some ⟨tb, 0, none⟩)) rfl (by kernel_rfl) (by kernel_rfl) (by kernel_rfl) (fun _ _ _ h => h) (Or.inl ⟨by rfl, fun w' hw => by go_simp⟩) (hheld _ hy2) ?_
  simp only [Act.put, List.setIfInBounds_toArray, List.set_cons_zero, List.set_cons_succ]
  refine wpAnyH_take (i := 46) (oi := { dst := some 93, op := Op.nilCheck (Operand.tmp 92), type := 0, pos := _, after := #[{ on := 45, ground := Ground.data }, { on := 44, ground := Ground.guard }], guard := some (44, true) }) (v := .pointer (some ⟨tb, 0, none⟩)) rfl (by kernel_rfl) (by kernel_rfl) (by kernel_rfl) (fun _ _ _ h => h) (Or.inl ⟨by rfl, fun w' hw => by go_simp⟩) (hheld _ hy2) ?_
  simp only [Act.put, List.setIfInBounds_toArray, List.set_cons_zero, List.set_cons_succ]
  refine wpAnyH_take (i := 47) (oi := { dst := some 94, op := Op.fieldAddr 39 (Operand.tmp 93) 2, type := 0, pos := _, after := #[{ on := 46, ground := Ground.data }, { on := 44, ground := Ground.guard }], guard := some (44, true) }) (v := .pointer (some ⟨tb, 5, none⟩)) rfl (by kernel_rfl) (by kernel_rfl) (by kernel_rfl) (fun _ _ _ h => h) (Or.inl ⟨by rfl, fun w' hw => by go_simp⟩) (hheld _ hy2) ?_
  simp only [Act.put, List.setIfInBounds_toArray, List.set_cons_zero, List.set_cons_succ]
  refine wpAnyH_take (i := 48) (oi := { dst := some 95, op := Op.load 35 (Operand.tmp 94), type := 35, pos := _, after := #[{ on := 47, ground := Ground.data }, { on := 44, ground := Ground.guard }], guard := some (44, true) }) (v := .pointer (some ⟨r, 0, none⟩)) rfl (by kernel_rfl) (by kernel_rfl) (by kernel_rfl) (fun _ _ _ h => h) (Or.inl ⟨by rfl, fun w' hw => by obtain ⟨d4, d5, d6, d7, d8, d9⟩ := hw; go_simp⟩) (hheld _ hy2) ?_
  simp only [Act.put, List.setIfInBounds_toArray, List.set_cons_zero, List.set_cons_succ]
  refine wpAnyH_take (i := 50) (oi := { dst := some 97, op := Op.move (Operand.tmp 0), type := 25, pos := _, after := #[{ on := 44, ground := Ground.guard }], guard := some (44, true) }) (v := .pointer (some ⟨tb, 0, none⟩)) rfl (by kernel_rfl) (by kernel_rfl) (by kernel_rfl) (fun _ _ _ h => h) (Or.inl ⟨by rfl, fun w' hw => by go_simp⟩) (hheld _ hy2) ?_
  simp only [Act.put, List.setIfInBounds_toArray, List.set_cons_zero, List.set_cons_succ]
  refine wpAnyH_take (i := 51) (oi := { dst := some 98, op := Op.nilCheck (Operand.tmp 97), type := 0, pos := _, after := #[{ on := 50, ground := Ground.data }, { on := 44, ground := Ground.guard }], guard := some (44, true) }) (v := .pointer (some ⟨tb, 0, none⟩)) rfl (by kernel_rfl) (by kernel_rfl) (by kernel_rfl) (fun _ _ _ h => h) (Or.inl ⟨by rfl, fun w' hw => by go_simp⟩) (hheld _ hy2) ?_
  simp only [Act.put, List.setIfInBounds_toArray, List.set_cons_zero, List.set_cons_succ]
  refine wpAnyH_take (i := 52) (oi := { dst := some 99, op := Op.fieldAddr 39 (Operand.tmp 98) 4, type := 0, pos := _, after := #[{ on := 51, ground := Ground.data }, { on := 44, ground := Ground.guard }], guard := some (44, true) }) (v := .pointer (some ⟨tb, 7, none⟩)) rfl (by kernel_rfl) (by kernel_rfl) (by kernel_rfl) (fun _ _ _ h => h) (Or.inl ⟨by rfl, fun w' hw => by go_simp⟩) (hheld _ hy2) ?_
  simp only [Act.put, List.setIfInBounds_toArray, List.set_cons_zero, List.set_cons_succ]
  refine wpAnyH_take (i := 53) (oi := { dst := some 100, op := Op.load 37 (Operand.tmp 99), type := 37, pos := _, after := #[{ on := 52, ground := Ground.data }, { on := 44, ground := Ground.guard }], guard := some (44, true) }) (v := .pointer (some ⟨x, 0, none⟩)) rfl (by kernel_rfl) (by kernel_rfl) (by kernel_rfl) (fun _ _ _ h => h) (Or.inl ⟨by rfl, fun w' hw => by obtain ⟨d4, d5, d6, d7, d8, d9⟩ := hw; go_simp⟩) (hheld _ hy2) ?_
  simp only [Act.put, List.setIfInBounds_toArray, List.set_cons_zero, List.set_cons_succ]
  refine wpAnyH_ready (rs := [49]) (by kernel_rfl) (by simp) ?_
  refine AllReadyH.cons (o := { dst := some 96, op := Op.call { callee := Callee.value (Operand.func 16), args := #[Operand.tmp 95], argTypes := #[35] }, type := 2, pos := _, after := #[{ on := 48, ground := Ground.data }, { on := 44, ground := Ground.chain }, { on := 44, ground := Ground.guard }], guard := some (44, true) }) rfl (fun K hK => ?_) AllReadyH.nil
  go_simp
  refine (hTl _ hy2).mono ?_
  rintro e y3 ⟨rfl, hy3⟩
  refine hK.out _ _ (hheld _ hy3) (fun _ => ?_)
  clear hK K
  refine wpAnyH_ready (rs := [54]) (by kernel_rfl) (by simp) ?_
  refine AllReadyH.cons (o := { dst := some 101, op := Op.call { callee := Callee.value (Operand.func 30), args := #[Operand.tmp 100], argTypes := #[37] }, type := 2, pos := _, after := #[{ on := 53, ground := Ground.data }, { on := 49, ground := Ground.chain }, { on := 44, ground := Ground.guard }], guard := some (44, true) }) rfl (fun K hK => ?_) AllReadyH.nil
  go_simp
  refine (hTx _ hy3).mono ?_
  rintro e y4 ⟨rfl, hy4⟩
  refine hK.out _ _ (hheld _ hy4) (fun _ => ?_)
  clear hK K
  refine wpAnyH_take (i := 55) (oi := { dst := some 102, op := Op.binOp BinOp.eql 2 (Operand.tmp 96) (Operand.tmp 101) 2, type := 4, pos := _, after := #[{ on := 49, ground := Ground.data }, { on := 54, ground := Ground.data }, { on := 44, ground := Ground.guard }], guard := some (44, true) }) (v := .bool true) rfl (by kernel_rfl) (by kernel_rfl) (by kernel_rfl) (fun _ _ _ h => h) (Or.inl ⟨by rfl, fun w' hw => by go_simp⟩) (hheld _ hy4) ?_
  simp only [Act.put, List.setIfInBounds_toArray, List.set_cons_zero, List.set_cons_succ]
  refine wpAnyH_take (i := 56) (oi := { dst := some 103, op := Op.pick (Operand.tmp 91) (Operand.tmp 102) (Operand.const (Value.bool false)), type := 4, pos := _, after := #[{ on := 44, ground := Ground.data }, { on := 55, ground := Ground.data }], guard := none }) (v := .bool true) rfl (by kernel_rfl) (by kernel_rfl) (by kernel_rfl) (fun _ _ _ h => h) (Or.inl ⟨by rfl, fun w' hw => by go_simp⟩) (hheld _ hy4) ?_
  simp only [Act.put, List.setIfInBounds_toArray, List.set_cons_zero, List.set_cons_succ]
  refine wpAnyH_take (i := 57) (oi := { dst := some 104, op := Op.move (Operand.tmp 103), type := 4, pos := _, after := #[{ on := 56, ground := Ground.data }, { on := 54, ground := Ground.chain }], guard := none }) (v := .bool true) rfl (by kernel_rfl) (by kernel_rfl) (by kernel_rfl) (fun _ _ _ h => h) (Or.inl ⟨by rfl, fun w' hw => by go_simp⟩) (hheld _ hy4) ?_
  simp only [Act.put, List.setIfInBounds_toArray, List.set_cons_zero, List.set_cons_succ]
  refine wpAnyH_take (i := 58) (oi := { dst := some 105, op := Op.move (Operand.tmp 0), type := 25, pos := _, after := #[{ on := 57, ground := Ground.guard }], guard := some (57, true) }) (v := .pointer (some ⟨tb, 0, none⟩)) rfl (by kernel_rfl) (by kernel_rfl) (by kernel_rfl) (fun _ _ _ h => h) (Or.inl ⟨by rfl, fun w' hw => by go_simp⟩) (hheld _ hy4) ?_
  simp only [Act.put, List.setIfInBounds_toArray, List.set_cons_zero, List.set_cons_succ]
  refine wpAnyH_take (i := 59) (oi := { dst := some 106, op := Op.nilCheck (Operand.tmp 105), type := 0, pos := _, after := #[{ on := 58, ground := Ground.data }, { on := 57, ground := Ground.guard }], guard := some (57, true) }) (v := .pointer (some ⟨tb, 0, none⟩)) rfl (by kernel_rfl) (by kernel_rfl) (by kernel_rfl) (fun _ _ _ h => h) (Or.inl ⟨by rfl, fun w' hw => by go_simp⟩) (hheld _ hy4) ?_
  simp only [Act.put, List.setIfInBounds_toArray, List.set_cons_zero, List.set_cons_succ]
  refine wpAnyH_take (i := 60) (oi := { dst := some 107, op := Op.fieldAddr 39 (Operand.tmp 106) 2, type := 0, pos := _, after := #[{ on := 59, ground := Ground.data }, { on := 57, ground := Ground.guard }], guard := some (57, true) }) (v := .pointer (some ⟨tb, 5, none⟩)) rfl (by kernel_rfl) (by kernel_rfl) (by kernel_rfl) (fun _ _ _ h => h) (Or.inl ⟨by rfl, fun w' hw => by go_simp⟩) (hheld _ hy4) ?_
  simp only [Act.put, List.setIfInBounds_toArray, List.set_cons_zero, List.set_cons_succ]
  refine wpAnyH_take (i := 61) (oi := { dst := some 108, op := Op.load 35 (Operand.tmp 107), type := 35, pos := _, after := #[{ on := 60, ground := Ground.data }, { on := 57, ground := Ground.guard }], guard := some (57, true) }) (v := .pointer (some ⟨r, 0, none⟩)) rfl (by kernel_rfl) (by kernel_rfl) (by kernel_rfl) (fun _ _ _ h => h) (Or.inl ⟨by rfl, fun w' hw => by obtain ⟨d4, d5, d6, d7, d8, d9⟩ := hw; go_simp⟩) (hheld _ hy4) ?_
  simp only [Act.put, List.setIfInBounds_toArray, List.set_cons_zero, List.set_cons_succ]
  refine wpAnyH_take (i := 63) (oi := { dst := some 110, op := Op.move (Operand.tmp 0), type := 25, pos := _, after := #[{ on := 57, ground := Ground.guard }], guard := some (57, true) }) (v := .pointer (some ⟨tb, 0, none⟩)) rfl (by kernel_rfl) (by kernel_rfl) (by kernel_rfl) (fun _ _ _ h => h) (Or.inl ⟨by rfl, fun w' hw => by go_simp⟩) (hheld _ hy4) ?_
  simp only [Act.put, List.setIfInBounds_toArray, List.set_cons_zero, List.set_cons_succ]
  refine wpAnyH_take (i := 64) (oi := { dst := some 111, op := Op.nilCheck (Operand.tmp 110), type := 0, pos := _, after := #[{ on := 63, ground := Ground.data }, { on := 57, ground := Ground.guard }], guard := some (57, true) }) (v := .pointer (some ⟨tb, 0, none⟩)) rfl (by kernel_rfl) (by kernel_rfl) (by kernel_rfl) (fun _ _ _ h => h) (Or.inl ⟨by rfl, fun w' hw => by go_simp⟩) (hheld _ hy4) ?_
  simp only [Act.put, List.setIfInBounds_toArray, List.set_cons_zero, List.set_cons_succ]
  refine wpAnyH_take (i := 65) (oi := { dst := some 112, op := Op.fieldAddr 39 (Operand.tmp 111) 4, type := 0, pos := _, after := #[{ on := 64, ground := Ground.data }, { on := 57, ground := Ground.guard }], guard := some (57, true) }) (v := .pointer (some ⟨tb, 7, none⟩)) rfl (by kernel_rfl) (by kernel_rfl) (by kernel_rfl) (fun _ _ _ h => h) (Or.inl ⟨by rfl, fun w' hw => by go_simp⟩) (hheld _ hy4) ?_
  simp only [Act.put, List.setIfInBounds_toArray, List.set_cons_zero, List.set_cons_succ]
  refine wpAnyH_take (i := 66) (oi := { dst := some 113, op := Op.load 37 (Operand.tmp 112), type := 37, pos := _, after := #[{ on := 65, ground := Ground.data }, { on := 57, ground := Ground.guard }], guard := some (57, true) }) (v := .pointer (some ⟨x, 0, none⟩)) rfl (by kernel_rfl) (by kernel_rfl) (by kernel_rfl) (fun _ _ _ h => h) (Or.inl ⟨by rfl, fun w' hw => by obtain ⟨d4, d5, d6, d7, d8, d9⟩ := hw; go_simp⟩) (hheld _ hy4) ?_
  simp only [Act.put, List.setIfInBounds_toArray, List.set_cons_zero, List.set_cons_succ]
  refine wpAnyH_ready (rs := [62]) (by kernel_rfl) (by simp) ?_
  refine AllReadyH.cons (o := { dst := some 109, op := Op.call { callee := Callee.value (Operand.func 17), args := #[Operand.tmp 108], argTypes := #[35] }, type := 3, pos := _, after := #[{ on := 61, ground := Ground.data }, { on := 57, ground := Ground.chain }, { on := 57, ground := Ground.guard }], guard := some (57, true) }) rfl (fun K hK => ?_) AllReadyH.nil
  go_simp
  refine (hRm _ hy4).mono ?_
  rintro e y5 ⟨rfl, hy5⟩
  refine hK.out _ _ (hheld _ hy5) (fun _ => ?_)
  clear hK K
  refine wpAnyH_ready (rs := [67]) (by kernel_rfl) (by simp) ?_
  refine AllReadyH.cons (o := { dst := some 114, op := Op.call { callee := Callee.value (Operand.func 34), args := #[Operand.tmp 113], argTypes := #[37] }, type := 3, pos := _, after := #[{ on := 66, ground := Ground.data }, { on := 62, ground := Ground.chain }, { on := 57, ground := Ground.guard }], guard := some (57, true) }) rfl (fun K hK => ?_) AllReadyH.nil
  go_simp
  refine (hRx _ hy5).mono ?_
  rintro e y6 ⟨rfl, hy6⟩
  refine hK.out _ _ (hheld _ hy6) (fun _ => ?_)
  clear hK K
  refine wpAnyH_take (i := 68) (oi := { dst := some 115, op := Op.binOp BinOp.eql 3 (Operand.tmp 109) (Operand.tmp 114) 3, type := 4, pos := _, after := #[{ on := 62, ground := Ground.data }, { on := 67, ground := Ground.data }, { on := 57, ground := Ground.guard }], guard := some (57, true) }) (v := .bool true) rfl (by kernel_rfl) (by kernel_rfl) (by kernel_rfl) (fun _ _ _ h => h) (Or.inl ⟨by rfl, fun w' hw => by go_simp⟩) (hheld _ hy6) ?_
  simp only [Act.put, List.setIfInBounds_toArray, List.set_cons_zero, List.set_cons_succ]
  refine wpAnyH_take (i := 69) (oi := { dst := some 116, op := Op.pick (Operand.tmp 104) (Operand.tmp 115) (Operand.const (Value.bool false)), type := 4, pos := _, after := #[{ on := 57, ground := Ground.data }, { on := 68, ground := Ground.data }], guard := none }) (v := .bool true) rfl (by kernel_rfl) (by kernel_rfl) (by kernel_rfl) (fun _ _ _ h => h) (Or.inl ⟨by rfl, fun w' hw => by go_simp⟩) (hheld _ hy6) ?_
  simp only [Act.put, List.setIfInBounds_toArray, List.set_cons_zero, List.set_cons_succ]
  refine wpAnyH_take (i := 70) (oi := { dst := some 117, op := Op.move (Operand.tmp 116), type := 4, pos := _, after := #[{ on := 69, ground := Ground.data }, { on := 67, ground := Ground.chain }], guard := none }) (v := .bool true) rfl (by kernel_rfl) (by kernel_rfl) (by kernel_rfl) (fun _ _ _ h => h) (Or.inl ⟨by rfl, fun w' hw => by go_simp⟩) (hheld _ hy6) ?_
  simp only [Act.put, List.setIfInBounds_toArray, List.set_cons_zero, List.set_cons_succ]
  refine wpAnyH_take (i := 71) (oi := { dst := some 118, op := Op.move (Operand.tmp 0), type := 25, pos := _, after := #[{ on := 70, ground := Ground.guard }], guard := some (70, true) }) (v := .pointer (some ⟨tb, 0, none⟩)) rfl (by kernel_rfl) (by kernel_rfl) (by kernel_rfl) (fun _ _ _ h => h) (Or.inl ⟨by rfl, fun w' hw => by go_simp⟩) (hheld _ hy6) ?_
  simp only [Act.put, List.setIfInBounds_toArray, List.set_cons_zero, List.set_cons_succ]
  refine wpAnyH_take (i := 72) (oi := { dst := some 119, op := Op.nilCheck (Operand.tmp 118), type := 0, pos := _, after := #[{ on := 71, ground := Ground.data }, { on := 70, ground := Ground.guard }], guard := some (70, true) }) (v := .pointer (some ⟨tb, 0, none⟩)) rfl (by kernel_rfl) (by kernel_rfl) (by kernel_rfl) (fun _ _ _ h => h) (Or.inl ⟨by rfl, fun w' hw => by go_simp⟩) (hheld _ hy6) ?_
  simp only [Act.put, List.setIfInBounds_toArray, List.set_cons_zero, List.set_cons_succ]
  refine wpAnyH_take (i := 73) (oi := { dst := some 120, op := Op.fieldAddr 39 (Operand.tmp 119) 1, type := 0, pos := _, after := #[{ on := 72, ground := Ground.data }, { on := 70, ground := Ground.guard }], guard := some (70, true) }) (v := .pointer (some ⟨tb, 4, none⟩)) rfl (by kernel_rfl) (by kernel_rfl) (by kernel_rfl) (fun _ _ _ h => h) (Or.inl ⟨by rfl, fun w' hw => by go_simp⟩) (hheld _ hy6) ?_
  simp only [Act.put, List.setIfInBounds_toArray, List.set_cons_zero, List.set_cons_succ]
  refine wpAnyH_take (i := 74) (oi := { dst := some 121, op := Op.load 34 (Operand.tmp 120), type := 34, pos := _, after := #[{ on := 73, ground := Ground.data }, { on := 70, ground := Ground.guard }], guard := some (70, true) }) (v := .pointer (some ⟨g, 0, none⟩)) rfl (by kernel_rfl) (by kernel_rfl) (by kernel_rfl) (fun _ _ _ h => h) (Or.inl ⟨by rfl, fun w' hw => by obtain ⟨d4, d5, d6, d7, d8, d9⟩ := hw; go_simp⟩) (hheld _ hy6) ?_
  simp only [Act.put, List.setIfInBounds_toArray, List.set_cons_zero, List.set_cons_succ]
  refine wpAnyH_take (i := 76) (oi := { dst := some 123, op := Op.move (Operand.tmp 0), type := 25, pos := _, after := #[{ on := 70, ground := Ground.guard }], guard := some (70, true) }) (v := .pointer (some ⟨tb, 0, none⟩)) rfl (by kernel_rfl) (by kernel_rfl) (by kernel_rfl) (fun _ _ _ h => h) (Or.inl ⟨by rfl, fun w' hw => by go_simp⟩) (hheld _ hy6) ?_
  simp only [Act.put, List.setIfInBounds_toArray, List.set_cons_zero, List.set_cons_succ]
  refine wpAnyH_take (i := 77) (oi := { dst := some 124, op := Op.nilCheck (Operand.tmp 123), type := 0, pos := _, after := #[{ on := 76, ground := Ground.data }, { on := 70, ground := Ground.guard }], guard := some (70, true) }) (v := .pointer (some ⟨tb, 0, none⟩)) rfl (by kernel_rfl) (by kernel_rfl) (by kernel_rfl) (fun _ _ _ h => h) (Or.inl ⟨by rfl, fun w' hw => by go_simp⟩) (hheld _ hy6) ?_
  simp only [Act.put, List.setIfInBounds_toArray, List.set_cons_zero, List.set_cons_succ]
  refine wpAnyH_take (i := 78) (oi := { dst := some 125, op := Op.fieldAddr 39 (Operand.tmp 124) 3, type := 0, pos := _, after := #[{ on := 77, ground := Ground.data }, { on := 70, ground := Ground.guard }], guard := some (70, true) }) (v := .pointer (some ⟨tb, 6, none⟩)) rfl (by kernel_rfl) (by kernel_rfl) (by kernel_rfl) (fun _ _ _ h => h) (Or.inl ⟨by rfl, fun w' hw => by go_simp⟩) (hheld _ hy6) ?_
  simp only [Act.put, List.setIfInBounds_toArray, List.set_cons_zero, List.set_cons_succ]
  refine wpAnyH_take (i := 79) (oi := { dst := some 126, op := Op.load 36 (Operand.tmp 125), type := 36, pos := _, after := #[{ on := 78, ground := Ground.data }, { on := 70, ground := Ground.guard }], guard := some (70, true) }) (v := .pointer (some ⟨gx, 0, none⟩)) rfl (by kernel_rfl) (by kernel_rfl) (by kernel_rfl) (fun _ _ _ h => h) (Or.inl ⟨by rfl, fun w' hw => by obtain ⟨d4, d5, d6, d7, d8, d9⟩ := hw; go_simp⟩) (hheld _ hy6) ?_
  simp only [Act.put, List.setIfInBounds_toArray, List.set_cons_zero, List.set_cons_succ]
  refine wpAnyH_ready (rs := [75]) (by kernel_rfl) (by simp) ?_
  refine AllReadyH.cons (o := { dst := some 122, op := Op.call { callee := Callee.value (Operand.func 36), args := #[Operand.tmp 121], argTypes := #[34] }, type := 30, pos := _, after := #[{ on := 74, ground := Ground.data }, { on := 70, ground := Ground.chain }, { on := 70, ground := Ground.guard }], guard := some (70, true) }) rfl (fun K hK => ?_) AllReadyH.nil
  go_simp
  refine (hIm _ hy6).mono ?_
  rintro e y7 ⟨v7, rfl, hv7, hy7⟩
  refine hK.out _ _ (hheld _ hy7) (fun _ => ?_)
  clear hK K
  refine wpAnyH_ready (rs := [80]) (by kernel_rfl) (by simp) ?_
  refine AllReadyH.cons (o := { dst := some 127, op := Op.call { callee := Callee.value (Operand.func 37), args := #[Operand.tmp 126], argTypes := #[36] }, type := 30, pos := _, after := #[{ on := 79, ground := Ground.data }, { on := 75, ground := Ground.chain }, { on := 70, ground := Ground.guard }], guard := some (70, true) }) rfl (fun K hK => ?_) AllReadyH.nil
  go_simp
  refine (hIx _ v7 hy7 hv7).mono ?_
  rintro e y8 ⟨v8, rfl, hv8, hv78, hy8⟩
  refine hK.out _ _ (hheld _ hy8) (fun _ => ?_)
  clear hK K
  refine wpAnyH_ready (rs := [81]) (by kernel_rfl) (by simp) ?_
  refine AllReadyH.cons (o := { dst := some 128, op := Op.call { callee := Callee.value (Operand.func 35), args := #[Operand.tmp 122, Operand.tmp 127], argTypes := #[30, 30] }, type := 4, pos := _, after := #[{ on := 75, ground := Ground.data }, { on := 80, ground := Ground.data }, { on := 80, ground := Ground.chain }, { on := 70, ground := Ground.guard }], guard := some (70, true) }) rfl (fun K hK => ?_) AllReadyH.nil
  go_simp
  refine (equal_any _ _ s.med s.med _ hv78 hv8).mono ?_
  rintro e y9 ⟨rfl, hy9⟩
  rw [show decide (s.med = s.med) = true by simp]
  subst hy9
  refine hK.out _ _ (hheld _ hy8) (fun _ => ?_)
  clear hK K
  refine wpAnyH_take (i := 82) (oi := { dst := some 129, op := Op.pick (Operand.tmp 117) (Operand.tmp 128) (Operand.const (Value.bool false)), type := 4, pos := _, after := #[{ on := 70, ground := Ground.data }, { on := 81, ground := Ground.data }], guard := none }) (v := .bool true) rfl (by kernel_rfl) (by kernel_rfl) (by kernel_rfl) (fun _ _ _ h => h) (Or.inl ⟨by rfl, fun w' hw => by go_simp⟩) (hheld _ hy8) ?_
  simp only [Act.put, List.setIfInBounds_toArray, List.set_cons_zero, List.set_cons_succ]
  refine wpAnyH_take (i := 83) (oi := { dst := some 2, op := Op.assign (Operand.tmp 129), type := 4, pos := _, after := #[{ on := 82, ground := Ground.data }, { on := 81, ground := Ground.chain }, { on := 0, ground := Ground.phase }, { on := 1, ground := Ground.phase }, { on := 2, ground := Ground.phase }, { on := 3, ground := Ground.phase }, { on := 4, ground := Ground.phase }, { on := 5, ground := Ground.phase }, { on := 6, ground := Ground.phase }, { on := 7, ground := Ground.phase }, { on := 8, ground := Ground.phase }, { on := 9, ground := Ground.phase }, { on := 10, ground := Ground.phase }, { on := 11, ground := Ground.phase }, { on := 12, ground := Ground.phase }, { on := 13, ground := Ground.phase }, { on := 14, ground := Ground.phase }, { on := 15, ground := Ground.phase }, { on := 16, ground := Ground.phase }, { on := 17, ground := Ground.phase }, { on := 18, ground := Ground.phase }, { on := 19, ground := Ground.phase }, { on := 20, ground := Ground.phase }, { on := 21, ground := Ground.phase }, { on := 22, ground := Ground.phase }, { on := 23, ground := Ground.phase }, { on := 24, ground := Ground.phase }, { on := 25, ground := Ground.phase }, { on := 26, ground := Ground.phase }, { on := 27, ground := Ground.phase }, { on := 28, ground := Ground.phase }, { on := 29, ground := Ground.phase }, { on := 30, ground := Ground.phase }, { on := 31, ground := Ground.phase }, { on := 32, ground := Ground.phase }, { on := 33, ground := Ground.phase }, { on := 34, ground := Ground.phase }, { on := 35, ground := Ground.phase }, { on := 36, ground := Ground.phase }, { on := 37, ground := Ground.phase }, { on := 38, ground := Ground.phase }, { on := 39, ground := Ground.phase }, { on := 40, ground := Ground.phase }, { on := 41, ground := Ground.phase }, { on := 42, ground := Ground.phase }, { on := 43, ground := Ground.phase }, { on := 44, ground := Ground.phase }, { on := 45, ground := Ground.phase }, { on := 46, ground := Ground.phase }, { on := 47, ground := Ground.phase }, { on := 48, ground := Ground.phase }, { on := 49, ground := Ground.phase }, { on := 50, ground := Ground.phase }, { on := 51, ground := Ground.phase }, { on := 52, ground := Ground.phase }, { on := 53, ground := Ground.phase }, { on := 54, ground := Ground.phase }, { on := 55, ground := Ground.phase }, { on := 56, ground := Ground.phase }, { on := 57, ground := Ground.phase }, { on := 58, ground := Ground.phase }, { on := 59, ground := Ground.phase }, { on := 60, ground := Ground.phase }, { on := 61, ground := Ground.phase }, { on := 62, ground := Ground.phase }, { on := 63, ground := Ground.phase }, { on := 64, ground := Ground.phase }, { on := 65, ground := Ground.phase }, { on := 66, ground := Ground.phase }, { on := 67, ground := Ground.phase }, { on := 68, ground := Ground.phase }, { on := 69, ground := Ground.phase }, { on := 70, ground := Ground.phase }, { on := 71, ground := Ground.phase }, { on := 72, ground := Ground.phase }, { on := 73, ground := Ground.phase }, { on := 74, ground := Ground.phase }, { on := 75, ground := Ground.phase }, { on := 76, ground := Ground.phase }, { on := 77, ground := Ground.phase }, { on := 78, ground := Ground.phase }, { on := 79, ground := Ground.phase }, { on := 80, ground := Ground.phase }, { on := 81, ground := Ground.phase }, { on := 82, ground := Ground.phase }], guard := none }) (v := .bool true) rfl (by kernel_rfl) (by kernel_rfl) (by kernel_rfl) (fun _ _ _ h => h) (Or.inl ⟨by rfl, fun w' hw => by go_simp⟩) (hheld _ hy8) ?_
  simp only [Act.put, List.setIfInBounds_toArray, List.set_cons_zero, List.set_cons_succ]
  refine wpAnyH_done (by kernel_rfl) ?_ _
  refine NoPanic.normal ?_
  go_wp2_with fail
  go_ret
  exact ⟨rfl, hy8⟩

end Go.Proofs.YtjhbljkoapbkfaaGreat
