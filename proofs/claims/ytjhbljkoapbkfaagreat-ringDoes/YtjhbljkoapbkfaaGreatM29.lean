/- Contract: load, where the power is off. -/
import Derived.Test.YtjhbljkoapbkfaaGreatM16
set_option linter.unusedSimpArgs false
set_option linter.unusedVariables false

namespace Go.Proofs.YtjhbljkoapbkfaaGreat
open Go.RowKit Go.Attic Go.Shelf

attribute [local go_sem] Oper.semAt_some

set_option maxRecDepth 100000 in
set_option maxHeartbeats 1000000 in
theorem load_off {w : World} {g m : Nat} {p : Option Nat} {F : Nat → Prop} {n : Nat} {s : St} (h : Dk w g m p F n s) (hon : s.on = false) (hpl : s.pend.length ≤ 1000000) (base blocks head : Nat) (h1 : 1 ≤ blocks) (h2 : blocks ≤ 256) (h3 : base + blocks ≤ n) (hh : head ≤ 1152921504606846976) :
    Calls Tryz.prog 44 #[.agg #[.pointer (some ⟨g, 0, none⟩), .int .i64 (base : Int), .int .i64 (blocks : Int)], .int .i64 (head : Int)] w fun e w' => e = .returned (.tuple #[.slice none 0 0, .int .i64 5]) ∧ Below w.heap.size w w' := by
  obtain ⟨i0, hi, hz0, hz1', hz2'⟩ := info_parts Tryz.info52
  have hn2 := h.ok.n2
  have hgl := h.gl
  obtain ⟨T, hT⟩ : ∃ T, w.heap.size = T := ⟨_, rfl⟩
  obtain ⟨w1, hw1⟩ : ∃ w1, (((w.alloc (.cells #[.pointer (some ⟨g, 0, none⟩), .int .i64 (base : Int), .int .i64 (blocks : Int)] 85)).alloc (.cells #[.slice none 0 0] 29)).alloc (.cells #[.int .i64 0] 42)).alloc (.cells #[.slice none 0 0] 29) = w1 := ⟨_, rfl⟩
  have hb1 : Below w.heap.size w w1 := by rw [← hw1]; exact ((((Below.refl _ w).alloc (Nat.le_refl _) _).alloc (by simp) _).alloc (by simp; omega) _).alloc (by simp; omega) _
  have hz1 : w1.heap.size = T + 4 := by rw [← hw1, ← hT]; simp
  have b0 : w1.heap[T]? = some (.cells #[.pointer (some ⟨g, 0, none⟩), .int .i64 (base : Int), .int .i64 (blocks : Int)] 85 (0, 0)) := by
    rw [← hw1, ← hT, Below.heap_alloc _ _ _ (by simp; omega), Below.heap_alloc _ _ _ (by simp; omega), Below.heap_alloc _ _ _ (by simp)]; exact World.alloc_heap_new w _
  have b1 : Boxed w1 (T + 1) 29 (.slice none 0 0) := by
    rw [← hw1, ← hT]
    have := ((Boxed.new (w.alloc (.cells #[.pointer (some ⟨g, 0, none⟩), .int .i64 (base : Int), .int .i64 (blocks : Int)] 85)) 29 (.slice none 0 0)).alloc (.cells #[.int .i64 0] 42)).alloc (.cells #[.slice none 0 0] 29)
    simpa using this
  have b2 : Boxed w1 (T + 1 + 1) 42 (.int .i64 0) := by
    rw [← hw1, ← hT]
    have := (Boxed.new ((w.alloc (.cells #[.pointer (some ⟨g, 0, none⟩), .int .i64 (base : Int), .int .i64 (blocks : Int)] 85)).alloc (.cells #[.slice none 0 0] 29)) 42 (.int .i64 0)).alloc (.cells #[.slice none 0 0] 29)
    simpa using this
  have b3 : Boxed w1 (T + 1 + 1 + 1) 29 (.slice none 0 0) := by
    rw [← hw1, ← hT]
    have := Boxed.new (((w.alloc (.cells #[.pointer (some ⟨g, 0, none⟩), .int .i64 (base : Int), .int .i64 (blocks : Int)] 85)).alloc (.cells #[.slice none 0 0] 29)).alloc (.cells #[.int .i64 0] 42)) 29 (.slice none 0 0)
    simpa using this
  have c2 : w1.cell? ⟨T, 2, none⟩ = some (.int .i64 (blocks : Int)) := by unfold World.cell?; rw [b0]; rfl
  obtain ⟨L, hL⟩ : ∃ L, 4 * blocks = L := ⟨_, rfl⟩
  have hlap := fun w => gLap_any blocks w h2
  rw [hL] at hlap
  have HL := hide hL
  clear hL
  refine (callsIn_wide (n := 3)).1 ?_
  refine callsIn_of_wp_marks Tryz.func44 rfl trivial ?_ rfl
  simp only [Tryz.ntmps44, List.size_toArray, List.length_cons, List.length_nil, Nat.reduceAdd, Nat.reduceSub, Array.replicate_succ, Array.replicate_zero, List.push_toArray, List.append_toArray, List.nil_append, List.cons_append]
  gi_wp2
  refine ⟨trivial, (callsIn_wide.2 (hlap _)).mono ?_⟩
  rintro e w' ⟨rfl, rfl⟩
  gi_wp2
  refine ⟨trivial, (callsIn_wide.2 (runs_any head L _)).mono ?_⟩
  rintro e w' ⟨rfl, rfl⟩
  gi_wp2
  have bV4 : Boxed ((w1.alloc (.cells #[.int .i64 (head : Int)] 2)).alloc (.cells #[.int .i64 (L : Int)] 3)) (T + 4) 2 (.int .i64 (head : Int)) := by rw [← hz1]; exact (Boxed.new w1 2 _).alloc _
  have bV5 : Boxed ((w1.alloc (.cells #[.int .i64 (head : Int)] 2)).alloc (.cells #[.int .i64 (L : Int)] 3)) (T + 4 + 1) 3 (.int .i64 (L : Int)) := by rw [← hz1]; simpa using Boxed.new (w1.alloc (.cells #[.int .i64 (head : Int)] 2)) 3 (.int .i64 (L : Int))
  have kV : Below w1.heap.size w1 ((w1.alloc (.cells #[.int .i64 (head : Int)] 2)).alloc (.cells #[.int .i64 (L : Int)] 3)) := ((Below.refl _ _).alloc (Nat.le_refl _) _).alloc (by simp) _
  have hzV : ((w1.alloc (.cells #[.int .i64 (head : Int)] 2)).alloc (.cells #[.int .i64 (L : Int)] 3)).heap.size = T + 6 := by simp [hz1]
  obtain ⟨V, hV⟩ : ∃ V, (w1.alloc (.cells #[.int .i64 (head : Int)] 2)).alloc (.cells #[.int .i64 (L : Int)] 3) = V := ⟨_, rfl⟩
  rw [hV] at bV4 bV5 kV hzV ⊢
  have hwV : Below w.heap.size w V := hb1.trans (kV.mono (by omega))
  have hDV := h.mono hwV
  have HV := hide hV
  have Hw1 := hide hw1
  clear hV hw1
  have v0 := (kV.block T (by omega)).trans b0
  have v1 : Boxed V (T + 1) 29 (.slice none 0 0) := (kV.block _ (by omega)).trans b1
  have v2 : Boxed V (T + 1 + 1) 42 (.int .i64 0) := (kV.block _ (by omega)).trans b2
  have v3 : Boxed V (T + 1 + 1 + 1) 29 (.slice none 0 0) := (kV.block _ (by omega)).trans b3
  clear b0 b1 b2 b3 c2
  have hseq := runs1_any (fun k => k < V.heap.size ∧ k ≠ T + 1 + 1 + 1) head L _ _ V bV4 bV5 (by omega) (by have := HL.out; omega) ⟨by omega, by omega⟩ ⟨by omega, by omega⟩
  refine range_law (n := 3) (gf := 82) (lb := #[.pointer (some ⟨T + 4 + 1, 0, none⟩), .pointer (some ⟨T + 4, 0, none⟩)]) rfl (enters_of Tryz.func82 (by kernel_rfl) rfl) hseq (Below.refl _ _) (fun k hk => hk.1) (fun _ => rfl)
    (fun pre U => pre = [] ∧ Keeps (fun k => k = T + 1 + 1 + 1) V U)
    (fun code pre U => code = .ret ∧ ((Below w.heap.size w U ∧ Boxed U (T + 1 + 1) 42 (.int .i64 5)) ∧ Boxed U (T + 1) 29 (.slice none 0 0)))
    (Stands.and (Stands.pure _ _ _) (stands_keeps _ _ (Nat.le_refl _)))
    (fun code => Stands.and (Stands.pure _ _ _) (Stands.and (Stands.and (stands_below _ _ (Nat.le_refl _) (by omega)) (stands_boxed _ _ _ (.inl (by omega)))) (stands_boxed _ _ _ (.inl (by omega)))))
    ⟨rfl, Keeps.refl _ _⟩
    (fun x => { tmps := #[.agg #[.pointer (some ⟨g, 0, none⟩), .int .i64 (base : Int), .int .i64 (blocks : Int)], .int .i64 (head : Int), .pointer (some ⟨T, 0, none⟩), undef, .pointer (some ⟨T + 1, 0, none⟩), .pointer (some ⟨T + 1 + 1, 0, none⟩), .pointer (some ⟨T + 1 + 1 + 1, 0, none⟩), .int .i64 (x.1 : Int), .int .i64 (x.2 : Int), undef, undef, undef, undef, undef,
      .int .i64 (head : Int), .pointer (some ⟨T, 2, none⟩), .int .i64 (blocks : Int), .int .i64 (L : Int), .func (.func 82) #[] #[.pointer (some ⟨T + 4 + 1, 0, none⟩), .pointer (some ⟨T + 4, 0, none⟩)], .int .i64 (x.1 : Int), .int .i64 (x.2 : Int), undef, undef, undef, undef, undef, undef, undef, undef, undef, undef, undef, undef, undef, undef, undef, undef, undef, undef, undef, undef, undef, undef, undef, undef, undef, undef, undef, undef, undef, undef, undef, undef, undef, undef, undef, undef], defers := [] })
    ?assign ?body ?done ?stop
  case assign =>
    rintro l' ⟨xa, xb⟩ U T' hT'
    clear hseq
    gi_wp2
    exact hT'
  case body =>
    rintro pre ⟨fi, ma⟩ W hSp ⟨hpre, hkW⟩ hsW ⟨r, hr⟩
    obtain ⟨e1, e2, e3⟩ := hSp.of
    dsimp only at e1 e2 e3
    have hfi : fi ≤ 1152921504606846976 + 1024 := by have := HL.out; omega
    have hma : 1 ≤ ma ∧ ma ≤ 4 ∧ fi % 4 + ma ≤ 4 ∧ tot pre + ma ≤ L := by omega
    have E1 := hide e1
    have E2 := hide e2
    have E3 := hide e3
    clear e1 e2 e3
    have w0 := (hkW.block T (by omega) (by omega)).trans v0
    have c0 : W.cell? ⟨T, 0, none⟩ = some (.pointer (some ⟨g, 0, none⟩)) := by unfold World.cell?; rw [w0]; rfl
    have c1 : W.cell? ⟨T, 1, none⟩ = some (.int .i64 (base : Int)) := by unfold World.cell?; rw [w0]; rfl
    have c2 : W.cell? ⟨T, 2, none⟩ = some (.int .i64 (blocks : Int)) := by unfold World.cell?; rw [w0]; rfl
    have hwW : Below w.heap.size w W := by
      have := hkW.below (B := w.heap.size) (fun k hk => by have e : k = T + 1 + 1 + 1 := hk; omega) hwV.size
      exact hwV.trans this
    have hDW := h.mono hwW
    obtain ⟨bk, hbk⟩ : ∃ bk, base + fi / 4 % blocks = bk := ⟨_, rfl⟩
    have hbn : bk < n := by have : fi / 4 % blocks < blocks := Nat.mod_lt _ (by omega)
                            omega
    have hrd : readS s n (bk : Int) = ([], 5) := by simp [readS, hon]
    obtain ⟨hrl1, hrl2⟩ := readL_ok hDW.ok hbn
    obtain ⟨er, her⟩ : ∃ er : Int, er = 5 := ⟨_, rfl⟩
    have hread : ∀ W1, Below W.drew.heap.size W.drew W1 → Calls Tryz.prog 65 #[.pointer (some ⟨g, 0, none⟩), .int .i64 ((base + fi / 4 % blocks : Nat) : Int)] W1 fun e w' => ∃ v, e = .returned (.tuple #[v, .int .i64 er]) ∧ w'.ownsRow W1.heap.size 5 1 v 0 (cellsB []) ∧ Below W1.heap.size W1 w' := by
      intro W1 hB
      have q := read_yes ((hDW.mono (below_drew' W)).mono hB) (bk : Int) hpl
      rw [hrd] at q
      rw [hbk, her]
      exact q
    have Hrd := hide hrd
    have Hbk := hide hbk
    have Hw0 := hide w0
    have HwW := hide hwW
    have HDW := hide hDW
    have HDV := hide hDV
    have Hh := hide h
    have Hr := hide hr
    have Her := hide her
    have Hv1 := hide v1
    have Hv2 := hide v2
    have Hv3 := hide v3
    clear hseq hrd hbk w0 hwW hDW hDV h hr her v0 v1 v2 v3 bV4 bV5
    gi_wp2
    have sW : W.drew.cell? ⟨T, 0, none⟩ = some (.pointer (some ⟨g, 0, none⟩)) ∧ W.drew.cell? ⟨T, 1, none⟩ = some (.int .i64 (base : Int)) ∧ W.drew.cell? ⟨T, 2, none⟩ = some (.int .i64 (blocks : Int)) := ⟨c0, c1, c2⟩
    refine wpIn_region_round (fun w' => w'.cell? ⟨T, 0, none⟩ = some (.pointer (some ⟨g, 0, none⟩)) ∧ w'.cell? ⟨T, 1, none⟩ = some (.int .i64 (base : Int)) ∧ w'.cell? ⟨T, 2, none⟩ = some (.int .i64 (blocks : Int))) (by kernel_rfl) (by kernel_rfl) (fun ⟨a', w', hh⟩ => hh) ?_
    refine wpAnyH_take (i := 0) (oi := { dst := some 22, op := Op.fieldAddr 85 (Operand.tmp 2) 0, type := 0, pos := _, after := #[], guard := none }) (v := .pointer (some ⟨T, 0, none⟩)) rfl (by kernel_rfl) (by kernel_rfl) (by kernel_rfl) (fun _ _ _ h => h) (Or.inl ⟨by rfl, fun w' hw => by obtain ⟨d0, d1, d2⟩ := hw; go_simp⟩) sW ?_
    simp only [Act.put, List.setIfInBounds_toArray, List.set_cons_zero, List.set_cons_succ]
    refine wpAnyH_take (i := 1) (oi := { dst := some 23, op := Op.load 34 (Operand.tmp 22), type := 34, pos := _, after := #[{ on := 0, ground := Ground.data }], guard := none }) (v := .pointer (some ⟨g, 0, none⟩)) rfl (by kernel_rfl) (by kernel_rfl) (by kernel_rfl) (fun _ _ _ h => h) (Or.inl ⟨by rfl, fun w' hw => by obtain ⟨d0, d1, d2⟩ := hw; go_simp⟩) sW ?_
    simp only [Act.put, List.setIfInBounds_toArray, List.set_cons_zero, List.set_cons_succ]
    refine wpAnyH_take (i := 2) (oi := { dst := some 24, op := Op.load 85 (Operand.tmp 2), type := 85, pos := _, after := #[], guard := none }) (v := .agg #[.pointer (some ⟨g, 0, none⟩), .int .i64 (base : Int), .int .i64 (blocks : Int)]) rfl (by kernel_rfl) (by kernel_rfl) (by kernel_rfl) (fun _ _ _ h => h) (Or.inl ⟨by rfl, fun w' hw => by obtain ⟨d0, d1, d2⟩ := hw; go_simp⟩) sW ?_
    simp only [Act.put, List.setIfInBounds_toArray, List.set_cons_zero, List.set_cons_succ]
    refine wpAnyH_take (i := 3) (oi := { dst := some 25, op := Op.move (Operand.tmp 7), type := 2, pos := _, after := #[], guard := none }) (v := .int .i64 (fi : Int)) rfl (by kernel_rfl) (by kernel_rfl) (by kernel_rfl) (fun _ _ _ h => h) (Or.inl ⟨by rfl, fun w' hw => by obtain ⟨d0, d1, d2⟩ := hw; go_simp⟩) sW ?_
    simp only [Act.put, List.setIfInBounds_toArray, List.set_cons_zero, List.set_cons_succ]
    refine wpAnyH_ready (rs := [4]) (by kernel_rfl) (by simp) ?_
    refine AllReadyH.cons (o := { dst := some 26, op := Op.call { callee := Callee.value (Operand.func 66), args := #[Operand.tmp 24, Operand.tmp 25], argTypes := #[85, 2] }, type := 3, pos := _, after := #[{ on := 2, ground := Ground.data }, { on := 3, ground := Ground.data }], guard := none }) rfl (fun K hK => ?_) AllReadyH.nil
    go_simp
    refine (gBlock_any g base blocks fi _ h1 h2 (by omega) (by omega)).mono ?_
    rintro e W1 ⟨rfl, hB1⟩
    have sW1 : W1.cell? ⟨T, 0, none⟩ = some (.pointer (some ⟨g, 0, none⟩)) ∧ W1.cell? ⟨T, 1, none⟩ = some (.int .i64 (base : Int)) ∧ W1.cell? ⟨T, 2, none⟩ = some (.int .i64 (blocks : Int)) := by
      have kk := Keeps.of_below (S := fun _ => False) hB1
      exact ⟨kk.cell sW.1 id, kk.cell sW.2.1 id, kk.cell sW.2.2 id⟩
    refine hK.out _ _ sW1 (fun _ => ?_)
    clear hK K
    refine wpAnyH_ready (rs := [5]) (by kernel_rfl) (by simp) ?_
    refine AllReadyH.cons (o := { dst := some 27, op := Op.call { callee := Callee.value (Operand.func 65), args := #[Operand.tmp 23, Operand.tmp 26], argTypes := #[34, 3] }, type := 98, pos := _, after := #[{ on := 1, ground := Ground.data }, { on := 4, ground := Ground.data }, { on := 4, ground := Ground.chain }], guard := none }) rfl (fun K hK => ?_) AllReadyH.nil
    go_simp
    refine (hread W1 hB1).mono ?_
    rintro e W2 ⟨vb, rfl, hob, hB2⟩
    have sW2 : W2.cell? ⟨T, 0, none⟩ = some (.pointer (some ⟨g, 0, none⟩)) ∧ W2.cell? ⟨T, 1, none⟩ = some (.int .i64 (base : Int)) ∧ W2.cell? ⟨T, 2, none⟩ = some (.int .i64 (blocks : Int)) := by
      have kk := Keeps.of_below (S := fun _ => False) hB2
      exact ⟨kk.cell sW1.1 id, kk.cell sW1.2.1 id, kk.cell sW1.2.2 id⟩
    refine hK.out _ _ sW2 (fun _ => ?_)
    clear hK K
    refine wpAnyH_take (i := 6) (oi := { dst := some 21, op := Op.move (Operand.tmp 27), type := 98, pos := _, after := #[{ on := 5, ground := Ground.data }], guard := none }) (v := .tuple #[vb, .int .i64 er]) rfl (by kernel_rfl) (by kernel_rfl) (by kernel_rfl) (fun _ _ _ h => h) (Or.inl ⟨by rfl, fun w' hw => by obtain ⟨d0, d1, d2⟩ := hw; go_simp⟩) sW2 ?_
    simp only [Act.put, List.setIfInBounds_toArray, List.set_cons_zero, List.set_cons_succ]
    refine wpAnyH_take (i := 7) (oi := { dst := some 28, op := Op.extract (Operand.tmp 21) 0, type := 30, pos := _, after := #[{ on := 6, ground := Ground.data }], guard := none }) (v := vb) rfl (by kernel_rfl) (by kernel_rfl) (by kernel_rfl) (fun _ _ _ h => h) (Or.inl ⟨by rfl, fun w' hw => by obtain ⟨d0, d1, d2⟩ := hw; go_simp⟩) sW2 ?_
    simp only [Act.put, List.setIfInBounds_toArray, List.set_cons_zero, List.set_cons_succ]
    refine wpAnyH_take (i := 8) (oi := { dst := some 29, op := Op.extract (Operand.tmp 21) 1, type := 42, pos := _, after := #[{ on := 6, ground := Ground.data }, { on := 9, ground := Ground.gcOnly Departure.lateStores }], guard := none }) (v := .int .i64 er) rfl (by kernel_rfl) (by kernel_rfl) (by kernel_rfl) (fun _ _ _ h => h) (Or.inl ⟨by rfl, fun w' hw => by obtain ⟨d0, d1, d2⟩ := hw; go_simp⟩) sW2 ?_
    simp only [Act.put, List.setIfInBounds_toArray, List.set_cons_zero, List.set_cons_succ]
    refine wpAnyH_take (i := 9) (oi := { dst := some 9, op := Op.assign (Operand.tmp 28), type := 30, pos := _, after := #[{ on := 7, ground := Ground.data }, { on := 5, ground := Ground.chain }, { on := 0, ground := Ground.phase }, { on := 1, ground := Ground.phase }, { on := 2, ground := Ground.phase }, { on := 3, ground := Ground.phase }, { on := 4, ground := Ground.phase }, { on := 5, ground := Ground.phase }, { on := 6, ground := Ground.phase }, { on := 7, ground := Ground.phase }, { on := 8, ground := Ground.textOnly Departure.lateStores }], guard := none }) (v := vb) rfl (by kernel_rfl) (by kernel_rfl) (by kernel_rfl) (fun _ _ _ h => h) (Or.inl ⟨by rfl, fun w' hw => by obtain ⟨d0, d1, d2⟩ := hw; go_simp⟩) sW2 ?_
    simp only [Act.put, List.setIfInBounds_toArray, List.set_cons_zero, List.set_cons_succ]
    refine wpAnyH_take (i := 10) (oi := { dst := some 10, op := Op.assign (Operand.tmp 29), type := 42, pos := _, after := #[{ on := 8, ground := Ground.data }, { on := 9, ground := Ground.chain }, { on := 0, ground := Ground.phase }, { on := 1, ground := Ground.phase }, { on := 2, ground := Ground.phase }, { on := 3, ground := Ground.phase }, { on := 4, ground := Ground.phase }, { on := 5, ground := Ground.phase }, { on := 6, ground := Ground.phase }, { on := 7, ground := Ground.phase }, { on := 8, ground := Ground.phase }, { on := 9, ground := Ground.phase }], guard := none }) (v := .int .i64 er) rfl (by kernel_rfl) (by kernel_rfl) (by kernel_rfl) (fun _ _ _ h => h) (Or.inl ⟨by rfl, fun w' hw => by obtain ⟨d0, d1, d2⟩ := hw; go_simp⟩) sW2 ?_
    simp only [Act.put, List.setIfInBounds_toArray, List.set_cons_zero, List.set_cons_succ]
    refine wpAnyH_done (by kernel_rfl) ?_ _
    have he := Her.out
    subst he
    obtain ⟨uao, ucap, rfl, -, hug⟩ := owns_form hob
    have hkW2 : Keeps (fun _ => False) W W2 := (Keeps.drew W).trans ((Keeps.of_below hB1).trans (Keeps.of_below hB2))
    have hkV2 : ∀ b, b < T + 6 → b ≠ T + 1 + 1 + 1 → W2.heap[b]? = V.heap[b]? := fun b hb hne => (hkW2.block b (by omega) id).trans (hkW.block b (by omega) hne)
    have q1 : Boxed W2 (T + 1) 29 (.slice none 0 0) := (hkV2 _ (by omega) (by omega)).trans Hv1.out
    have q2 : Boxed W2 (T + 1 + 1) 42 (.int .i64 0) := (hkV2 _ (by omega) (by omega)).trans Hv2.out
    have d1 := q1.cell
    have d1f := q1.frozen
    have d2 := q2.cell
    have d2f := q2.frozen
    clear hread sW sW1 sW2 c0 c1 c2 hob
    gi_wp2
    have kC := ((keeps_set W2 (T + 1) 0 (.slice none 0 0)).mono (T := fun b => b = T + 1 ∨ b = T + 1 + 1) (fun b hb => .inl hb)).trans ((keeps_set _ (T + 1 + 1) 0 (.int .i64 5)).mono (fun b hb => .inr hb))
    have bU1 : Boxed ((W2.setCell ⟨T + 1, 0, none⟩ (.slice none 0 0)).setCell ⟨T + 1 + 1, 0, none⟩ (.int .i64 5)) (T + 1) 29 (.slice none 0 0) := ((q1.set (.slice none 0 0)).other (by omega) (.int .i64 5))
    have bU2 : Boxed ((W2.setCell ⟨T + 1, 0, none⟩ (.slice none 0 0)).setCell ⟨T + 1 + 1, 0, none⟩ (.int .i64 5)) (T + 1 + 1) 42 (.int .i64 5) := ((q2.other (by omega) (.slice none 0 0)).set (.int .i64 5))
    generalize (W2.setCell ⟨T + 1, 0, none⟩ (.slice none 0 0)).setCell ⟨T + 1 + 1, 0, none⟩ (.int .i64 5) = U at *
    have kWU : Keeps (fun b => b = T + 1 ∨ b = T + 1 + 1) W U := (hkW2.mono (fun _ h => h.elim)).trans kC
    refine ⟨⟨kWU.size, fun b h1 h2 => kWU.block b (by omega) (fun h' => by rcases h' with h' | h' <;> omega)⟩, rfl, ⟨?_, bU2⟩, bU1⟩
    first | exact HwW.out.trans (kWU.below (fun b hb => by rcases hb with h' | h' <;> omega) HwW.out.size) | (rw [← hT]; exact HwW.out.trans (kWU.below (fun b hb => by rcases hb with h' | h' <;> omega) HwW.out.size))
  case done =>
    rintro xs U htot ⟨hpre, hkU⟩ hsU hK
    subst hpre
    have := HL.out
    simp [tot] at htot
    omega
  case stop =>
    rintro code pre U hSp ⟨rfl, ⟨hbU, b2U⟩, b1U⟩ hsU hK
    clear hseq
    have HzV := hide hzV
    gi_wp2
    refine ⟨by simp, .inl ⟨_, _, rfl, run_takeDeferred hK, ?_⟩⟩
    have b1Y := (World.putObj_heap_other (w := U) (r := V.heap.size) (o := .deferred none) (k := T + 1) (by omega)).trans b1U
    have b2Y := (World.putObj_heap_other (w := U) (r := V.heap.size) (o := .deferred none) (k := T + 1 + 1) (by omega)).trans b2U
    refine ⟨_, results_cell2 rfl _ _ _ _ _ _ rfl rfl (isAgg29 _) (isAgg42 _) (Boxed.cell b1Y) (Boxed.cell b2Y), rfl, ?_⟩
    exact hbU.trans (belowK_b (w := w) (Nat.le_refl _) _ _ _ _ (by omega) hK rfl rfl)


end Go.Proofs.YtjhbljkoapbkfaaGreat
