/- Contract: both rings are opened. -/
import Derived.Test.YtjhbljkoapbkfaaGreatM36
set_option linter.unusedSimpArgs false
set_option linter.unusedVariables false

namespace Go.Proofs.YtjhbljkoapbkfaaGreat
open Go.RowKit Go.Attic Go.Shelf

/-- Both disks, and the struct that holds them, whatever stands for the rings. -/
structure Ds (W w : World) (tb : Nat) (A B C : Nat → Prop) (g m gx n : Nat) (base blocks head0 : Int) (rv xv : Value) (s : St) : Prop where
  a : ∃ p F, Dk w g m p F n s ∧ ∀ k, Own g m F k → A k
  b : ∃ q p F, Dr w gx q p F n s ∧ ∀ k, OwnX gx F k → B k
  ap : Apart W w tb A B C
  t : TAt w tb n base blocks head0 g gx rv xv

theorem Ds.still {W w w' : World} {tb : Nat} {A B C : Nat → Prop} {g m gx n : Nat} {base blocks head0 : Int} {rv xv : Value} {s : St} (h : Ds W w tb A B C g m gx n base blocks head0 rv xv s) (hk : Below w.heap.size w w') : Ds W w' tb A B C g m gx n base blocks head0 rv xv s := by
  obtain ⟨p, F, a1, a2⟩ := h.a
  obtain ⟨q, p', F', b1, b2⟩ := h.b
  exact ⟨⟨p, F, a1.mono hk, a2⟩, ⟨q, p', F', b1.mono hk, b2⟩, h.ap.still hk, h.t.keeps (S := fun _ => False) (Keeps.of_below hk) id⟩

/-- Other rings are put into the struct. -/
theorem TAt.put {w : World} {tb n : Nat} {base blocks head0 : Int} {g gx : Nat} {rv xv : Value} (h : TAt w tb n base blocks head0 g gx rv xv) (rv' xv' : Value) : TAt ((w.setCell ⟨tb, 5, none⟩ rv').setCell ⟨tb, 7, none⟩ xv') tb n base blocks head0 g gx rv' xv' :=
  ⟨cell_set_other (cell_set_other h.t0 (by omega)) (by omega), cell_set_other (cell_set_other h.t1 (by omega)) (by omega), cell_set_other (cell_set_other h.t2 (by omega)) (by omega), cell_set_other (cell_set_other h.t3 (by omega)) (by omega), cell_set_other (cell_set_other h.t4 (by omega)) (by omega), cell_set_other (cell_set_same h.t5) (by omega), cell_set_other (cell_set_other h.t6 (by omega)) (by omega), cell_set_same (cell_set_other h.t7 (by omega)), by simpa using h.f5, by simpa using h.f7⟩

def OpensE (W : World) (tb g m gx n : Nat) (base blocks head0 head : Int) (s : St) (e : Ending) (w' : World) : Prop :=
  e = .returned (.bool true) ∧ ((∃ (r x base' blocks' hd : Nat) (rs : List Rc) (A B C : Nat → Prop), base = (base' : Int) ∧ blocks = (blocks' : Int) ∧ head = (hd : Int) ∧ Tw W w' tb A B C r g m x gx n base' blocks' head0 hd s rs hd s rs ∧ Scanned (secAt s base' blocks') hd (4 * blocks') rs) ∨
    (TAt w' tb n base blocks head0 g gx (.pointer none) (.pointer none) ∧ Below W.heap.size W w'))

set_option maxRecDepth 100000 in
set_option maxHeartbeats 1000000 in
/-- Where neither is opened. -/
theorem opens_none {W w : World} {tb : Nat} {A B C : Nat → Prop} {g m gx n : Nat} {base blocks head0 : Int} {rv xv : Value} {s : St} (h : Ds W w tb A B C g m gx n base blocks head0 rv xv s) (head : Int) (er : Int) (her : er ≠ 0)
    (hP : ∀ V, Below w.heap.size w V → Calls Tryz.prog 13 #[.pointer (some ⟨g, 0, none⟩), .int .i64 base, .int .i64 blocks, .int .i64 head] V (NoO V er))
    (hD : ∀ V, Below w.heap.size w V → Calls Tryz.prog 42 #[.pointer (some ⟨gx, 0, none⟩), .int .i64 base, .int .i64 blocks, .int .i64 head] V (NoO V er)) :
    Calls Tryz.prog 12 #[.pointer (some ⟨tb, 0, none⟩), .int .i64 head] w (OpensE W tb g m gx n base blocks head0 head s) := by
  have t1 := h.t.t1
  have t2 := h.t.t2
  have t4 := h.t.t4
  have t6 := h.t.t6
  have hheld : ∀ V, Below w.heap.size w V → V.cell? ⟨tb, 1, none⟩ = some (.int .i64 base) ∧ V.cell? ⟨tb, 2, none⟩ = some (.int .i64 blocks) ∧ V.cell? ⟨tb, 4, none⟩ = some (.pointer (some ⟨g, 0, none⟩)) ∧ V.cell? ⟨tb, 6, none⟩ = some (.pointer (some ⟨gx, 0, none⟩)) := fun V hV => by
    have q := h.t.keeps (S := fun _ => False) (Keeps.of_below hV) id
    exact ⟨q.t1, q.t2, q.t4, q.t6⟩
  have H := hide h
  have hB0 : Below w.heap.size w w.drew := (Below.refl _ _).drew
  have hP0 := hP _ hB0
  clear h
  go_enter Tryz.func12, Tryz.ntmps12
  go_wp2_with fail
  go_region_held3 (fun V => V.cell? ⟨tb, 1, none⟩ = some (.int .i64 base) ∧ V.cell? ⟨tb, 2, none⟩ = some (.int .i64 blocks) ∧ V.cell? ⟨tb, 4, none⟩ = some (.pointer (some ⟨g, 0, none⟩)) ∧ V.cell? ⟨tb, 6, none⟩ = some (.pointer (some ⟨gx, 0, none⟩)))
    (first | exact ⟨t1, t2, t4, t6⟩ | exact hheld _ hy1)
    (first
    | (go_at_call 13; refine hP0.mono ?_; rintro e y1 ⟨rfl, hb1⟩; have hy1 : Below w.heap.size w y1 := hB0.trans (hb1.mono hB0.size)))
  rename_i hH1
  clear hH1 hP0
  obtain ⟨u1, u2, u4, u6⟩ := hheld _ hy1
  have hB1 : Below w.heap.size w y1.drew := hy1.drew
  have hD0 := hD _ hB1
  go_wp2_with fail
  go_region_held3 (fun V => V.cell? ⟨tb, 1, none⟩ = some (.int .i64 base) ∧ V.cell? ⟨tb, 2, none⟩ = some (.int .i64 blocks) ∧ V.cell? ⟨tb, 4, none⟩ = some (.pointer (some ⟨g, 0, none⟩)) ∧ V.cell? ⟨tb, 6, none⟩ = some (.pointer (some ⟨gx, 0, none⟩)))
    (first | exact ⟨u1, u2, u4, u6⟩ | exact hheld _ hy2)
    (first
    | (go_at_call 42; refine hD0.mono ?_; rintro e y2 ⟨rfl, hb2⟩; have hy2 : Below w.heap.size w y2 := hB1.trans (hb2.mono hB1.size)))
  rename_i hH2
  clear hH2 hD0
  have h2 := H.out.still hy2
  have c5 := h2.t.t5
  have c7 := h2.t.t7
  have f5 := h2.t.f5
  have f7 := h2.t.f7
  have hput := hide (h2.t.put (.pointer none) (.pointer none))
  have hbe : Below W.heap.size y2 ((y2.setCell ⟨tb, 5, none⟩ (.pointer none)).setCell ⟨tb, 7, none⟩ (.pointer none)) := (((keeps_set y2 tb 5 _)).trans (keeps_set _ tb 7 _)).below (fun k hk => by have e : k = tb := hk; have := h2.ap.tW; omega) h2.ap.bel.size
  have Hbe := hide (h2.ap.bel.trans hbe)
  have hsame := fun W => sameAll_yes W (fun _ => False) (fun _ => False) (.slice none 0 0) (.slice none 0 0) [] (Rs.nil _ _) (Rs.nil _ _) (by simp)
  have hee : (er == er) = true := by simp
  have hen : (er != 0) = true := by simp [her]
  clear h2 hbe
  go_wp2_with fail
  refine (hsame _).mono ?_
  rintro e y3 ⟨rfl, hb3⟩
  go_wp2_with fail
  go_ret
  exact ⟨by simp, .inr ⟨hput.out.keeps (S := fun _ => False) (Keeps.of_below hb3) id, Hbe.out.trans (hb3.mono Hbe.out.size)⟩⟩

set_option maxRecDepth 100000 in
set_option maxHeartbeats 1000000 in
/-- Where both are opened. -/
theorem opens_some {W w : World} {tb : Nat} {A B C : Nat → Prop} {g m gx n : Nat} {base blocks hd : Nat} {head0 : Int} {rv xv : Value} {s : St} (h : Ds W w tb A B C g m gx n (base : Int) (blocks : Int) head0 rv xv s) (hon : s.on = true) (hpl : s.pend.length ≤ 1000000) (h1 : 1 ≤ blocks) (h2 : blocks ≤ 256) (h3 : base + blocks ≤ n) (hh : hd ≤ 1152921504606846976) :
    Calls Tryz.prog 12 #[.pointer (some ⟨tb, 0, none⟩), .int .i64 (hd : Int)] w (OpensE W tb g m gx n (base : Int) (blocks : Int) head0 (hd : Int) s) := by
  obtain ⟨pa, Fa, a1, a2⟩ := h.a
  obtain ⟨qb, pb, Fb, b1, b2⟩ := h.b
  have hap := h.ap
  have ht := h.t
  have t1 := h.t.t1
  have t2 := h.t.t2
  have t4 := h.t.t4
  have t6 := h.t.t6
  have hheld : ∀ V, Below w.heap.size w V → V.cell? ⟨tb, 1, none⟩ = some (.int .i64 (base : Int)) ∧ V.cell? ⟨tb, 2, none⟩ = some (.int .i64 (blocks : Int)) ∧ V.cell? ⟨tb, 4, none⟩ = some (.pointer (some ⟨g, 0, none⟩)) ∧ V.cell? ⟨tb, 6, none⟩ = some (.pointer (some ⟨gx, 0, none⟩)) := fun V hV => by
    have q := h.t.keeps (S := fun _ => False) (Keeps.of_below hV) id
    exact ⟨q.t1, q.t2, q.t4, q.t6⟩
  have Hap := hide hap
  have Ht := hide ht
  have Ha1 := hide a1
  have Hb1 := hide b1
  have htl := ht.tl
  have hB0 : Below w.heap.size w w.drew := (Below.refl _ _).drew
  have hP0 := open_on (a1.mono hB0) hon hpl base blocks hd h1 h2 h3 hh
  clear h hap ht a1 b1
  go_enter Tryz.func12, Tryz.ntmps12
  go_wp2_with fail
  go_region_held3 (fun V => V.cell? ⟨tb, 1, none⟩ = some (.int .i64 (base : Int)) ∧ V.cell? ⟨tb, 2, none⟩ = some (.int .i64 (blocks : Int)) ∧ V.cell? ⟨tb, 4, none⟩ = some (.pointer (some ⟨g, 0, none⟩)) ∧ V.cell? ⟨tb, 6, none⟩ = some (.pointer (some ⟨gx, 0, none⟩)))
    (first | exact ⟨t1, t2, t4, t6⟩ | exact hheld _ hy1)
    (first
    | (go_at_call 13; refine hP0.mono ?_; rintro e y1 ⟨rs, r, vt, Fr, rfl, hsc1, hRk1, hr1, hFr1, hRs1, hb1⟩; have hy1 : Below w.heap.size w y1 := hB0.trans (hb1.mono hB0.size)))
  rename_i hH1
  clear hH1 hP0
  obtain ⟨u1, u2, u4, u6⟩ := hheld _ hy1
  have hB1 : Below w.heap.size w y1.drew := hy1.drew
  have hD0 := ropen_on (Hb1.out.mono hB1) hon hpl base blocks hd h1 h2 h3 hh
  obtain ⟨ao1, cap1, rfl, -⟩ := hRs1.slice
  have HRk1 := hide hRk1
  have HRs1 := hide hRs1
  have Hsc1 := hide hsc1
  have HFr1 := hide hFr1
  clear hRk1 hRs1 hsc1 hFr1
  go_wp2_with fail
  go_region_held3 (fun V => V.cell? ⟨tb, 1, none⟩ = some (.int .i64 (base : Int)) ∧ V.cell? ⟨tb, 2, none⟩ = some (.int .i64 (blocks : Int)) ∧ V.cell? ⟨tb, 4, none⟩ = some (.pointer (some ⟨g, 0, none⟩)) ∧ V.cell? ⟨tb, 6, none⟩ = some (.pointer (some ⟨gx, 0, none⟩)))
    (first | exact ⟨u1, u2, u4, u6⟩ | exact hheld _ hy2)
    (first
    | (go_at_call 42; refine hD0.mono ?_; rintro e y2 ⟨rs2, x, vx, Fx, rfl, hsc2, hWk2, hx2, hFx2, hRs2, hb2⟩; have hy2 : Below w.heap.size w y2 := hB1.trans (hb2.mono hB1.size)))
  rename_i hH2
  clear hH2 hD0
  obtain rfl : rs = rs2 := Hsc1.out.one hsc2
  obtain ⟨ao2, cap2, rfl, -⟩ := hRs2.slice
  have hz1 : w.heap.size ≤ y1.heap.size := hy1.size
  have hz2 : y1.heap.size ≤ y2.heap.size := hb2.size
  have ht2 := Ht.out.keeps (S := fun _ => False) (Keeps.of_below hy2) id
  have hb12 : Below y1.heap.size y1 y2 := (below_drew' y1).trans hb2
  have c5 := ht2.t5
  have c7 := ht2.t7
  have f5 := ht2.f5
  have f7 := ht2.f7
  have hrlt : r < y1.heap.size := HRk1.out.rl
  have hxlt : x < y2.heap.size := hWk2.xl
  have hln := HRk1.out.ln
  have hsame := sameAll_yes ((y2.setCell ⟨tb, 5, none⟩ (.pointer (some ⟨r, 0, none⟩))).setCell ⟨tb, 7, none⟩ (.pointer (some ⟨x, 0, none⟩))) _ _ _ _ rs
    ((HRs1.out.mono hb12).keeps ((keeps_set y2 tb 5 (.pointer (some ⟨r, 0, none⟩))).trans (keeps_set _ tb 7 (.pointer (some ⟨x, 0, none⟩)))) (fun k hk e => by have e' : k = tb := e; have hk' : w.drew.heap.size ≤ k := hk; have e3 : w.drew.heap.size = w.heap.size := rfl; omega))
    (hRs2.keeps ((keeps_set y2 tb 5 (.pointer (some ⟨r, 0, none⟩))).trans (keeps_set _ tb 7 (.pointer (some ⟨x, 0, none⟩)))) (fun k hk e => by have e' : k = tb := e; have hk' : y1.drew.heap.size ≤ k := hk; have e3 : y1.drew.heap.size = y1.heap.size := rfl; omega)) (by omega)
  have Hhput := hide (ht2.put (.pointer (some ⟨r, 0, none⟩)) (.pointer (some ⟨x, 0, none⟩)))
  have HWk2 := hide hWk2
  have HFx2 := hide hFx2
  have Hhx2 := hide hx2
  clear ht2 hWk2 hFx2 hRs2 hsc2 hx2
  go_wp2_with fail
  refine hsame.mono ?_
  rintro e y3 ⟨rfl, hb3⟩
  go_wp2_with fail
  go_ret
  refine ⟨by simp, .inl ⟨r, x, base, blocks, hd, rs, fun k => A k ∨ (w.heap.size ≤ k ∧ k < y1.heap.size), fun k => B k ∨ (y1.heap.size ≤ k ∧ k < y2.heap.size), fun k => C k ∨ (y1.heap.size ≤ k ∧ k < y2.heap.size), rfl, rfl, rfl, ?_, Hsc1.out⟩⟩
  have hD := Hb1.out.ownLt
  have hA2 := fun k hk => Hap.out.AW k (a2 k hk)
  have hr1' : w.heap.size ≤ r := hr1
  have hFr1' : ∀ k, Fr k → w.heap.size ≤ k := HFr1.out
  have hx2' : y1.heap.size ≤ x := Hhx2.out
  have hFx2' : ∀ k, Fx k → y1.heap.size ≤ k := HFx2.out
  have ha3 : RD y1 r g m pa Fa Fr n base blocks hd s rs := RD.opened Ha1.out hy1 HRk1.out hr1' hFr1' h3
  have hS : Keeps (fun k => k = tb) y2 ((y2.setCell ⟨tb, 5, none⟩ (.pointer (some ⟨r, 0, none⟩))).setCell ⟨tb, 7, none⟩ (.pointer (some ⟨x, 0, none⟩))) := (keeps_set y2 tb 5 _).trans (keeps_set _ tb 7 _)
  have hsz : ((y2.setCell ⟨tb, 5, none⟩ (.pointer (some ⟨r, 0, none⟩))).setCell ⟨tb, 7, none⟩ (.pointer (some ⟨x, 0, none⟩))).heap.size = y2.heap.size := by simp
  have hAk : ∀ k, OwnR r g m Fa Fr k → A k ∨ (w.heap.size ≤ k ∧ k < y1.heap.size) := fun k hk => by
    rcases hk with e | e | e
    · exact .inl (a2 k e)
    · exact .inr (by omega)
    · exact .inr ⟨hFr1' k e, HRk1.out.Fl k e⟩
  have hnt : ¬ (A tb ∨ (w.heap.size ≤ tb ∧ tb < y1.heap.size)) := fun h => by
    rcases h with e | e
    · exact Hap.out.tA e
    · omega
  refine Tw.still ⟨⟨pa, Fa, Fr, (ha3.mono hb12).keeps hS (fun k hk e => hnt (by have e' : k = tb := e; exact e' ▸ hAk k hk)), hAk⟩, ⟨qb, pb, Fb, Fx, ⟨(Hb1.out.mono hy2).keeps hS (fun e => Hap.out.tB (by have e' : gx = tb := e; exact e' ▸ b2 gx (.inl rfl))) (fun k hk e => Hap.out.tB (by have e' : k = tb := e; exact e' ▸ b2 k (.inr hk))), HWk2.out.keeps hS (fun e => by have e' : x = tb := e; omega) (fun k hk e => by have e' : k = tb := e; have := hFx2' k hk; omega), fun h => by have := hD x h; omega, fun k hk h => by have := hD k h; have := hFx2' k hk; omega, h3⟩, fun k hk => ?_, fun k hk => ?_⟩, ⟨fun k hA hB => ?_, fun k hA hC => ?_, hnt, fun h => ?_, fun k hk => ?_, fun k hk => ?_, fun k hk => ?_, Hap.out.tW, ?_⟩, Hhput.out⟩ hb3
  · rcases hk with e | e
    · exact .inl (b2 k e)
    · exact .inr (by omega)
  · exact .inr ⟨hFx2' k hk, HWk2.out.Fl k hk⟩
  · rcases hA with e | e <;> rcases hB with e2 | e2
    · exact Hap.out.AB k e e2
    · have := Hap.out.AW k e; omega
    · have := Hap.out.BW k e2; omega
    · omega
  · rcases hA with e | e <;> rcases hC with e2 | e2
    · exact Hap.out.AC k e e2
    · have := Hap.out.AW k e; omega
    · have := Hap.out.Cl k e2; omega
    · omega
  · rcases h with e | e
    · exact Hap.out.tB e
    · omega
  · have hb := Hap.out.bel.size
    rw [hsz]
    rcases hk with e | e
    · have := Hap.out.AW k e; omega
    · omega
  · have hb := Hap.out.bel.size
    rw [hsz]
    rcases hk with e | e
    · have := Hap.out.BW k e; omega
    · omega
  · rw [hsz]
    rcases hk with e | e
    · have := Hap.out.Cl k e; omega
    · omega
  · have hb := Hap.out.bel.size
    exact (Hap.out.bel.trans (hy2.mono hb)).trans (hS.below (fun k hk => by have e : k = tb := hk; have := Hap.out.tW; omega) (by omega))

end Go.Proofs.YtjhbljkoapbkfaaGreat
