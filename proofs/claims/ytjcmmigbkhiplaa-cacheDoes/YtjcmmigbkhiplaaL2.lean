/- Contract: Clean of a cache. -/
import Derived.Test.YtjcmmigbkhiplaaL1
import Derived.Test.YtjcmmigbkhiplaaIter4
set_option linter.unusedSimpArgs false
set_option linter.unusedVariables false
namespace Go.Proofs.Ytjcmmigbkhiplaa
open Go.RowKit Go.Attic Go.Shelf
attribute [local go_sem] Oper.semAt_some

def cleanC (n : Nat) (s : St) (A : List En) : St × List En × Int := cleanF n s A (dirtyL A)

theorem results_cell1 {P : Program} {fn : Func} {p : Tmp} {ty : TypeId} (h : fn.results = #[.cell p ty]) (tmps : Array Value) (w : World) (a1 : Addr) (v1 : Value) (h1 : tmps.getD p undef = .pointer (some a1))
    (g1 : (isAgg ty).run P w = .ok false w) (c1 : w.cell? a1 = some v1) : (results fn tmps).run P w = .ok v1 w := by
  simp only [results, h]
  simp only [Array.getD_eq_getD_getElem?] at h1
  simp [Sem.run_bind, Result.andThen, h1, asAddr, loadVar, g1, c1]

/-- What stands in the rounds: the cache and its disk, whose blocks lie ahead of w or from E on. -/
def Rnd (w : World) (E : Nat) (c g : Nat) (S : Nat → Prop) (room n Q : Nat) (t : St × List En × Int) (U : World) : Prop :=
  ∃ S', CD U c g S' room n Q t.1 t.2.1 ∧ Keeps S w U ∧ ∀ k, S' k → S k ∨ (w.heap.size ≤ k ∧ E ≤ k)

theorem Rnd.stands {w : World} {D E : Nat} {c g : Nat} {S : Nat → Prop} {room n Q : Nat} {β : Type} (t : β → St × List En × Int) (hD : w.heap.size ≤ D) (hS : ∀ k, S k → k < w.heap.size) : Stands D E (fun s U => Rnd w E c g S room n Q (t s) U) := by
  rintro s A B row ⟨S', h1, h2, h3⟩ hg hm
  have hk : Keeps (fun k => D ≤ k ∧ k < E) A B := Keeps.of_grown hg (fun k e => hm k e)
  refine ⟨S', h1.keeps hk (fun k hk' => ?_), h2.trans' hk (fun k hk' => .inr (by omega)), h3⟩
  rintro ⟨a, b⟩
  rcases h3 k hk' with h | h
  · have := hS k h; omega
  · omega

theorem stands_rnd {w : World} {D E : Nat} {c g : Nat} {S : Nat → Prop} {room n Q : Nat} {A : List En} {s : St} (hD : w.heap.size ≤ D) (hS : ∀ k, S k → k < w.heap.size) : Stands D E (fun pre U => Rnd w E c g S room n Q (cleanF n s A pre) U) := Rnd.stands _ hD hS

theorem keeps_put (w : World) (l : Nat) (o : Obj) : Keeps (fun k => k = l) w (w.putObj l o) := ⟨rfl, rfl, rfl, by simp, fun k _ h => World.putObj_heap_other h⟩

section
variable {w : World} {c g : Nat} {S : Nat → Prop} {room n Q : Nat} {s : St} {A : List En}

set_option maxRecDepth 100000 in
set_option maxHeartbeats 1000000 in
theorem cclean_any (h : CD w c g S room n Q s A) (hr : room ≤ 256) (hpl : s.pend.length ≤ 900000) (ho : s.ops ≤ 900000) :
    Calls Try.prog 18 #[.pointer (some ⟨c, 0, none⟩)] w fun e w' => e = .returned (.int .i64 (cleanC n s A).2.2) ∧ ∃ S', CT w c g S room n Q (cleanC n s A).1 (cleanC n s A).2.1 w' S' := by
  have hlen : (dirtyL A).length ≤ 256 := by
    rw [dirtyL_len]
    have := List.length_filter_le (fun x : En => x.d) A
    have := h.few
    omega
  have hSl := h.lt
  have H := hide h
  clear h
  refine (callsIn_wide (n := 3)).1 ?_
  refine callsIn_of_wp_marks Try.func18 rfl trivial ?_ rfl
  simp only [Try.ntmps18, List.size_toArray, List.length_cons, List.length_nil, Nat.reduceAdd, Nat.reduceSub, Array.replicate_succ, Array.replicate_zero, List.push_toArray, List.append_toArray, List.nil_append, List.cons_append]
  gi_wp2
  have hW : Below w.heap.size w ((w.alloc (.cells #[.pointer (some ⟨c, 0, none⟩)] 31)).alloc (.cells #[.int .i64 0] 24)) := ((Below.refl _ w).alloc (Nat.le_refl _) _).alloc (by simp) _
  have bM0 := (Boxed.new w 31 (.pointer (some ⟨c, 0, none⟩))).alloc (.cells #[.int .i64 0] 24)
  have bL0 := Boxed.new (w.alloc (.cells #[.pointer (some ⟨c, 0, none⟩)] 31)) 24 (.int .i64 0)
  rw [World.size_alloc] at bL0
  have hszW : ((w.alloc (.cells #[.pointer (some ⟨c, 0, none⟩)] 31)).alloc (.cells #[.int .i64 0] 24)).heap.size = w.heap.size + 2 := by simp
  obtain ⟨W1, hW1⟩ : ∃ W1, (w.alloc (.cells #[.pointer (some ⟨c, 0, none⟩)] 31)).alloc (.cells #[.int .i64 0] 24) = W1 := ⟨_, rfl⟩
  rw [hW1] at hW bM0 bL0 hszW ⊢
  clear hW1
  have cM0 := bM0.cell
  obtain ⟨m, -, -, hm⟩ := (H.out.mono hW).front
  gi_wp2
  refine ⟨trivial, (callsIn_wide.2 hm).mono ?_⟩
  rintro e w' ⟨rfl, rfl⟩
  clear hm
  gi_wp2
  refine ⟨trivial, (callsIn_wide.2 (cdirty_any (H.out.mono hW))).mono ?_⟩
  rintro e V ⟨f, rfl, ⟨rb, v, rfl, hrb, hv, hrlo, hvb⟩, hb⟩
  have hb' := hb.mono (show w.heap.size ≤ W1.heap.size by omega)
  rw [hszW] at hrlo hvb hb
  have bM : Boxed V w.heap.size 31 (.pointer (some ⟨c, 0, none⟩)) := (hb.block _ (by omega)).trans bM0
  have bL : Boxed V (w.heap.size + 1) 24 (.int .i64 0) := (hb.block _ (by omega)).trans bL0
  have hB0 : Below w.heap.size w V := hW.trans hb'
  have hsz := hb.size
  rw [hszW] at hsz
  have hrbl := hrb.lt
  clear bM0 bL0 hb hb' hW hszW cM0
  obtain ⟨zs, hzs⟩ : ∃ zs, dirtyL A = zs := ⟨_, rfl⟩
  have hzm : ∀ z ∈ zs, ∃ x ∈ A, (x.i : Int) = z := fun z hz => by
    rw [← hzs, dirtyL_mem] at hz
    obtain ⟨x, hx, _, e⟩ := hz
    exact ⟨x, hx, e.symm⟩
  rw [hzs] at hlen hv
  have Hzs := hide hzs
  have Hzm := hide hzm
  clear hzs hzm
  gi_wp2
  have hseq := values1_any (fun k => w.heap.size + 2 ≤ k ∧ k < V.heap.size) zs v rb V hrb hv (by omega) ⟨hrlo, hrbl⟩ hvb
  refine range_law (n := 3) (gf := 64) (lb := #[.pointer (some ⟨rb, 0, none⟩)]) rfl (enters_of Try.func64 (by kernel_rfl) rfl) hseq (Below.refl _ _)
    (fun k hk => hk.2) (fun _ => rfl)
    (fun pre U => (cleanF n s A pre).2.2 = 0 ∧ (Rnd w (V.heap.size + 2 + 0) c g S room n Q (cleanF n s A pre) U ∧ (Boxed U w.heap.size 31 (.pointer (some ⟨c, 0, none⟩)) ∧ Boxed U (w.heap.size + 1) 24 (.int .i64 0))))
    (fun code pre U => (code = .ret ∧ (cleanF n s A pre).2.2 ≠ 0) ∧ (Rnd w (V.heap.size + 2 + 0) c g S room n Q (cleanF n s A pre) U ∧ Boxed U (w.heap.size + 1) 24 (.int .i64 (cleanF n s A pre).2.2)))
    (Stands.and (Stands.pure _ _ _) (Stands.and (stands_rnd hB0.size hSl) (Stands.and (stands_boxed _ _ _ (.inl (by omega))) (stands_boxed _ _ _ (.inl (by omega))))))
    (fun code => Stands.and (Stands.pure _ _ _) (Stands.and (stands_rnd hB0.size hSl) (stands_boxed _ _ _ (.inl (by omega)))))
    ⟨rfl, ⟨S, H.out.mono hB0, Keeps.of_below hB0, fun k hk => .inl hk⟩, bM, bL⟩
    (fun x => { tmps := #[.pointer (some ⟨c, 0, none⟩), .pointer (some ⟨w.heap.size, 0, none⟩), .pointer (some ⟨w.heap.size + 1, 0, none⟩), .int .i64 x, undef, undef, .pointer (some ⟨c, 0, none⟩), .bool true, .bool false, .pointer (some ⟨c, 0, none⟩), .func (.func 64) #[] #[.pointer (some ⟨rb, 0, none⟩)], .int .i64 x, undef, undef, undef, undef, undef, undef, undef, undef, undef, undef, undef, undef, undef, undef, undef, undef, undef, undef, undef, undef, undef, undef], defers := [] })
    ?assign ?body ?done ?stop
  case assign =>
    intro l' x U T hT
    gi_wp2
    exact hT
  case body =>
    rintro pre x U hSp ⟨herr, ⟨S1, hD1, hk1, hS1⟩, bM1, bL1⟩ hsU ⟨r, hr9⟩
    have hxz : x ∈ zs := hSp.subset (by simp)
    have hpl1 : pre.length + 1 ≤ 256 := by have := hSp.length_le; simp at this; omega
    have hpe := cleanF_pend n s A pre
    have hii := cleanF_i n s A pre
    have hsn := cleanF_snoc n s A pre x
    obtain ⟨⟨s1, A1, er0⟩, hst⟩ : ∃ t, cleanF n s A pre = t := ⟨_, rfl⟩
    rw [hst] at herr hD1 hpe hii hsn
    simp only at herr hD1 hpe hii
    subst herr
    obtain ⟨ea, hea, heai⟩ := Hzm.out x hxz
    have hiA : ea.i ∈ A1.map En.i := by rw [hii]; exact List.mem_map.2 ⟨ea, hea, rfl⟩
    obtain ⟨ya, hya, hyai⟩ := List.mem_map.1 hiA
    obtain ⟨m1, q1, B, F1, gm1, p1, Fd1, hx1, rfl, hq1⟩ := hD1
    obtain ⟨y, hy, rfl⟩ := List.mem_map.1 hya
    have hyx : (y.i : Int) = x := by rw [← heai, ← hyai]; rfl
    subst hyx
    have hfi : findI (B.map Bu.en) (y.i : Int) = some y.en := by
      unfold findI
      rw [en_find]
      have : B.find? (fun z => (z.en.i : Int) == (y.i : Int)) = some y := by
        cases hf : B.find? (fun z => (z.en.i : Int) == (y.i : Int)) with
        | none => have := List.find?_eq_none.1 hf y hy; simp [Bu.en] at this
        | some z =>
          have h1 := List.mem_of_find?_eq_some hf
          have h2 := List.find?_some hf
          have h3 : (z.i : Int) = (y.i : Int) := by simpa [Bu.en] using h2
          rw [same_i hx1.ca.nodup h1 hy (by omega)]
      rw [this]; rfl
    have hby := hx1.ca.bu y hy
    have cB := bM1.cell
    have cc0 := hx1.ca.c0
    have cc2 := hx1.ca.c2
    have cy0 := hby.c0
    have cy1 := hby.c1
    have fy1 := hby.f1
    have hlk := hx1.ca.mp.look ((y.i : Int), y.p) (List.mem_map.2 ⟨y, hy, rfl⟩)
    simp only at hlk
    have cL := bL1.cell
    have fL := bL1.frozen
    obtain ⟨s2, er, hwr⟩ : ∃ s2 er, writeS s1 n (y.i : Int) y.l = (s2, er) := ⟨_, _, rfl⟩
    have hcall : ∀ W, W = U.drew → Calls Try.prog 20 #[.pointer (some ⟨g, 0, none⟩), .int .i64 (y.i : Int), .slice (some ⟨y.r, 0, none⟩) 256 y.cap] W fun e w' => e = .returned (.int .i64 er) ∧ Turn W g gm1 Fd1 n s2 w' := by
      rintro W rfl
      have := write_yes (w := U.drew) (hx1.dk.mono (Below.refl _ U).drew) (y.i : Int) _ y.l (hby.bs.mono (Below.refl _ U).drew) (by rw [hby.len]; omega) (by omega) (by omega)
      rw [hwr] at this
      exact this
    have hpS : S1 y.p ∧ S1 c := ⟨hx1.inS _ (.inl (.inr (hx1.ca.inF y hy).1)), hx1.inS _ (.inl (.inl rfl))⟩
    have hlow : ∀ k, S1 k → k < w.heap.size ∨ V.heap.size + 2 + 0 ≤ k := fun k hk => by rcases hS1 k hk with h | h; exact .inl (hSl k h); exact .inr h.2
    have hkey : ∀ W1, Turn U.drew g gm1 Fd1 n s2 W1 → (W1.cell? ⟨w.heap.size, 0, none⟩ = some (.pointer (some ⟨c, 0, none⟩)) ∧ W1.cell? ⟨c, 0, none⟩ = some (.pointer (some ⟨g, 0, none⟩)) ∧ W1.cell? ⟨y.p, 0, none⟩ = some (.slice (some ⟨y.r, 0, none⟩) 256 y.cap)) ∧
        ∃ p2 Fd2 S2, CDx W1 c g S2 room n s2 m1 q1 B F1 gm1 p2 Fd2 ∧ Keeps S1 U W1 ∧ ∀ k, S2 k → S1 k ∨ U.heap.size ≤ k := by
      intro W1 hT
      have hT' : Turn U g gm1 Fd1 n s2 W1 := by
        obtain ⟨p', F', a, b, d⟩ := hT
        exact ⟨p', F', a, (Keeps.drew U).trans b, d⟩
      obtain ⟨p2, Fd2, S2, h2, hk2, hS2⟩ := hx1.dturn hT'
      have hbM : Boxed W1 w.heap.size 31 (.pointer (some ⟨c, 0, none⟩)) := (hk2.block _ (by omega) (fun hs => by rcases hlow _ hs with h | h <;> omega)).trans bM1
      exact ⟨⟨hbM.cell, h2.ca.c0, (h2.ca.bu y hy).c0⟩, p2, Fd2, S2, h2, hk2, hS2⟩
    have hstep : cleanStep n (s1, B.map Bu.en, 0) (y.i : Int) = if er = 0 then (s2, markC (B.map Bu.en) (y.i : Int), 0) else (s2, B.map Bu.en, er) := by
      unfold cleanStep
      simp only [ne_eq, not_true_eq_false, if_false]
      rw [hfi]
      simp only [show y.en.l = y.l from rfl, hwr]
    rw [hstep] at hsn
    have Hwr := hide hcall
    have Hkey := hide hkey
    have Hsn := hide hsn
    have Hx1 := hide hx1
    have Hby := hide hby
    clear hseq bM bL hrb hv hcall hkey hstep hsn hst hii hpe hfi hwr hx1 hby hea heai hya hyai hiA hSp hr9
    gi_wp2
    have sW : U.drew.cell? ⟨w.heap.size, 0, none⟩ = some (.pointer (some ⟨c, 0, none⟩)) ∧ U.drew.cell? ⟨c, 0, none⟩ = some (.pointer (some ⟨g, 0, none⟩)) ∧ U.drew.cell? ⟨y.p, 0, none⟩ = some (.slice (some ⟨y.r, 0, none⟩) 256 y.cap) := ⟨cB, cc0, cy0⟩
    refine wpIn_region_round (fun w' => w'.cell? ⟨w.heap.size, 0, none⟩ = some (.pointer (some ⟨c, 0, none⟩)) ∧ w'.cell? ⟨c, 0, none⟩ = some (.pointer (some ⟨g, 0, none⟩)) ∧ w'.cell? ⟨y.p, 0, none⟩ = some (.slice (some ⟨y.r, 0, none⟩) 256 y.cap)) (by kernel_rfl) (by kernel_rfl) (fun ⟨a', w', hh⟩ => hh) ?_
    refine wpAnyH_take (i := 0) (oi := { dst := some 18, op := Op.load 31 (Operand.tmp 1), type := 31, pos := _, after := #[], guard := none }) (v := .pointer (some ⟨c, 0, none⟩)) rfl (by kernel_rfl) (by kernel_rfl) (by kernel_rfl) (fun _ _ _ h => h) (Or.inl ⟨by rfl, fun w' hw => by obtain ⟨d0, d1, d2⟩ := hw; go_simp⟩) sW ?_
    simp only [Act.put, List.setIfInBounds_toArray, List.set_cons_zero, List.set_cons_succ]
    refine wpAnyH_take (i := 1) (oi := { dst := some 19, op := Op.nilCheck (Operand.tmp 18), type := 0, pos := _, after := #[{ on := 0, ground := Ground.data }], guard := none }) (v := .pointer (some ⟨c, 0, none⟩)) rfl (by kernel_rfl) (by kernel_rfl) (by kernel_rfl) (fun _ _ _ h => h) (Or.inl ⟨by rfl, fun w' hw => by obtain ⟨d0, d1, d2⟩ := hw; go_simp⟩) sW ?_
    simp only [Act.put, List.setIfInBounds_toArray, List.set_cons_zero, List.set_cons_succ]
    refine wpAnyH_take (i := 2) (oi := { dst := some 20, op := Op.fieldAddr 62 (Operand.tmp 19) 0, type := 0, pos := _, after := #[{ on := 1, ground := Ground.data }], guard := none }) (v := .pointer (some ⟨c, 0, none⟩)) rfl (by kernel_rfl) (by kernel_rfl) (by kernel_rfl) (fun _ _ _ h => h) (Or.inl ⟨by rfl, fun w' hw => by obtain ⟨d0, d1, d2⟩ := hw; go_simp⟩) sW ?_
    simp only [Act.put, List.setIfInBounds_toArray, List.set_cons_zero, List.set_cons_succ]
    refine wpAnyH_take (i := 3) (oi := { dst := some 21, op := Op.load 23 (Operand.tmp 20), type := 23, pos := _, after := #[{ on := 2, ground := Ground.data }], guard := none }) (v := .pointer (some ⟨g, 0, none⟩)) rfl (by kernel_rfl) (by kernel_rfl) (by kernel_rfl) (fun _ _ _ h => h) (Or.inl ⟨by rfl, fun w' hw => by obtain ⟨d0, d1, d2⟩ := hw; go_simp⟩) sW ?_
    simp only [Act.put, List.setIfInBounds_toArray, List.set_cons_zero, List.set_cons_succ]
    refine wpAnyH_take (i := 4) (oi := { dst := some 22, op := Op.move (Operand.tmp 3), type := 3, pos := _, after := #[], guard := none }) (v := .int .i64 (y.i : Int)) rfl (by kernel_rfl) (by kernel_rfl) (by kernel_rfl) (fun _ _ _ h => h) (Or.inl ⟨by rfl, fun w' hw => by obtain ⟨d0, d1, d2⟩ := hw; go_simp⟩) sW ?_
    simp only [Act.put, List.setIfInBounds_toArray, List.set_cons_zero, List.set_cons_succ]
    refine wpAnyH_take (i := 5) (oi := { dst := some 23, op := Op.move (Operand.tmp 4), type := 80, pos := _, after := #[], guard := none }) (v := .pointer (some ⟨y.p, 0, none⟩)) rfl (by kernel_rfl) (by kernel_rfl) (by kernel_rfl) (fun _ _ _ h => h) (Or.inl ⟨by rfl, fun w' hw => by obtain ⟨d0, d1, d2⟩ := hw; go_simp⟩) sW ?_
    simp only [Act.put, List.setIfInBounds_toArray, List.set_cons_zero, List.set_cons_succ]
    refine wpAnyH_take (i := 6) (oi := { dst := some 24, op := Op.nilCheck (Operand.tmp 23), type := 0, pos := _, after := #[{ on := 5, ground := Ground.data }], guard := none }) (v := .pointer (some ⟨y.p, 0, none⟩)) rfl (by kernel_rfl) (by kernel_rfl) (by kernel_rfl) (fun _ _ _ h => h) (Or.inl ⟨by rfl, fun w' hw => by obtain ⟨d0, d1, d2⟩ := hw; go_simp⟩) sW ?_
    simp only [Act.put, List.setIfInBounds_toArray, List.set_cons_zero, List.set_cons_succ]
    refine wpAnyH_take (i := 7) (oi := { dst := some 25, op := Op.fieldAddr 84 (Operand.tmp 24) 0, type := 0, pos := _, after := #[{ on := 6, ground := Ground.data }], guard := none }) (v := .pointer (some ⟨y.p, 0, none⟩)) rfl (by kernel_rfl) (by kernel_rfl) (by kernel_rfl) (fun _ _ _ h => h) (Or.inl ⟨by rfl, fun w' hw => by obtain ⟨d0, d1, d2⟩ := hw; go_simp⟩) sW ?_
    simp only [Act.put, List.setIfInBounds_toArray, List.set_cons_zero, List.set_cons_succ]
    refine wpAnyH_take (i := 8) (oi := { dst := some 26, op := Op.load 37 (Operand.tmp 25), type := 37, pos := _, after := #[{ on := 7, ground := Ground.data }], guard := none }) (v := .slice (some ⟨y.r, 0, none⟩) 256 y.cap) rfl (by kernel_rfl) (by kernel_rfl) (by kernel_rfl) (fun _ _ _ h => h) (Or.inl ⟨by rfl, fun w' hw => by obtain ⟨d0, d1, d2⟩ := hw; go_simp⟩) sW ?_
    simp only [Act.put, List.setIfInBounds_toArray, List.set_cons_zero, List.set_cons_succ]
    refine wpAnyH_ready (rs := [9]) (by kernel_rfl) (by simp) ?_
    refine AllReadyH.cons (o := { dst := some 27, op := Op.call { callee := Callee.value (Operand.func 20), args := #[Operand.tmp 21, Operand.tmp 22, Operand.tmp 26], argTypes := #[23, 3, 37] }, type := 24, pos := _, after := #[{ on := 3, ground := Ground.data }, { on := 4, ground := Ground.data }, { on := 8, ground := Ground.data }], guard := none }) rfl (fun K hK => ?_) AllReadyH.nil
    go_simp
    refine (Hwr.out _ rfl).mono ?_
    rintro e W1 ⟨rfl, hT⟩
    obtain ⟨sW1, hP1⟩ := Hkey.out W1 hT
    refine hK.out _ _ sW1 (fun _ => ?_)
    clear hK K
    refine wpAnyH_take (i := 10) (oi := { dst := some 5, op := Op.assign (Operand.tmp 27), type := 24, pos := _, after := #[{ on := 9, ground := Ground.data }, { on := 9, ground := Ground.chain }, { on := 0, ground := Ground.phase }, { on := 1, ground := Ground.phase }, { on := 2, ground := Ground.phase }, { on := 3, ground := Ground.phase }, { on := 4, ground := Ground.phase }, { on := 5, ground := Ground.phase }, { on := 6, ground := Ground.phase }, { on := 7, ground := Ground.phase }, { on := 8, ground := Ground.phase }, { on := 9, ground := Ground.phase }], guard := none }) (v := .int .i64 er) rfl (by kernel_rfl) (by kernel_rfl) (by kernel_rfl) (fun _ _ _ h => h) (Or.inl ⟨by rfl, fun w' hw => by obtain ⟨d0, d1, d2⟩ := hw; go_simp⟩) sW1 ?_
    simp only [Act.put, List.setIfInBounds_toArray, List.set_cons_zero, List.set_cons_succ]
    refine wpAnyH_done (by kernel_rfl) ?_ _
    obtain ⟨p2, Fd2, S2, h2, hk2, hS2⟩ := hP1
    have cL1 : Boxed W1 (w.heap.size + 1) 24 (.int .i64 0) := (hk2.block _ (by omega) (fun hs => by rcases hlow _ hs with h | h <;> omega)).trans bL1
    have cB1 : Boxed W1 w.heap.size 31 (.pointer (some ⟨c, 0, none⟩)) := (hk2.block _ (by omega) (fun hs => by rcases hlow _ hs with h | h <;> omega)).trans bM1
    have hS2' : ∀ k, S2 k → S k ∨ (w.heap.size ≤ k ∧ V.heap.size + 2 + 0 ≤ k) := fun k hk => by
      rcases hS2 k hk with h | h
      · exact hS1 k h
      · exact .inr (by omega)
    have hkW : Keeps S w W1 := hk1.trans' hk2 (fun k hk => (hS1 k hk).imp id (fun h => h.1))
    have hStill : Still V.heap.size (V.heap.size + 2 + 0) U W1 := ⟨hk2.size, fun k h1 h2 => hk2.block k (by omega) (fun hs => by rcases hlow k hs with h | h <;> omega)⟩
    have hKeepS : KeepS (fun k => w.heap.size + 2 ≤ k ∧ k < V.heap.size) U W1 := ⟨hk2.size, fun k hk => hk2.block k (by omega) (fun hs => by rcases hlow k hs with h | h <;> omega)⟩
    by_cases her : er = 0
    · subst her
      have hsn := Hsn.out
      rw [if_pos rfl] at hsn
      have hb2 := h2.ca.bu y hy
      have cy1' := hb2.c1
      have fy1' := hb2.f1
      have h3 := h2.mark hy
      have hin := h2.inS _ (.inl (.inr (h2.ca.inF y hy).1))
      have H3 := hide h3
      have Hsn2 := hide hsn
      clear h3 hsn hb2
      gi_wp2
      have hS2y := hS2' _ hin
      have hyw : y.p < w.heap.size ∨ V.heap.size + 2 + 0 ≤ y.p := by rcases hS2y with h | h; exact .inl (hSl _ h); exact .inr h.2
      refine ⟨?_, ?_, ?_⟩
      · exact hStill.trans ⟨by simp [World.setCell], fun k h1 h2 => Below.heap_setCell _ _ _ k (fun e => by have e' : k = y.p := e; omega)⟩
      · exact hKeepS.trans ⟨by simp [World.setCell], fun k hk => Below.heap_setCell _ _ _ k (fun e => by have e' : k = y.p := e; omega)⟩
      · dsimp only
        rw [Hsn2.out]
        have hkS : Keeps (fun k => k = y.p) W1 (W1.setCell ⟨y.p, 1, none⟩ (.bool false)) := Keeps.setCell (S := fun k => k = y.p) W1 rfl _
        refine ⟨rfl, ⟨S2, ⟨m1, q1, _, F1, gm1, p2, Fd2, H3.out, markB_en _ _, hq1⟩, hkW.trans' hkS (fun k e => by have e' : k = y.p := e; rw [e']; exact hS2y.imp id (fun h => h.1)), hS2'⟩, ?_, ?_⟩
        · exact (hkS.block _ (by have := cB1.lt; exact this) (fun e => by have e' : w.heap.size = y.p := e; omega)).trans cB1
        · exact (hkS.block _ (by have := cL1.lt; exact this) (fun e => by have e' : w.heap.size + 1 = y.p := e; omega)).trans cL1
    · have hsn := Hsn.out
      rw [if_neg her] at hsn
      have hnb : (er != 0) = true := by simp [her]
      have cL2 := cL1.cell
      have fL2 := cL1.frozen
      have H2 := hide h2
      have Hsn2 := hide hsn
      clear h2 hsn
      gi_wp2
      refine ⟨?_, ?_⟩
      · exact hStill.trans (Still.set (.inl (by omega)) _)
      · dsimp only
        rw [Hsn2.out]
        have hkS : Keeps (fun k => k = w.heap.size + 1) W1 (W1.setCell ⟨w.heap.size + 1, 0, none⟩ (.int .i64 er)) := Keeps.setCell (S := fun k => k = w.heap.size + 1) W1 rfl _
        have hno : ∀ k, S2 k → ¬ k = w.heap.size + 1 := fun k hk e => by
          rcases hS2' k hk with h | h
          · have := hSl k h; omega
          · omega
        exact ⟨⟨rfl, her⟩, ⟨S2, ⟨m1, q1, B, F1, gm1, p2, Fd2, H2.out.keeps hkS hno, rfl, hq1⟩, hkW.trans' hkS (fun k e => .inr (by have e' : k = w.heap.size + 1 := e; omega)), hS2'⟩, cL1.set _⟩
  case done =>
    rintro xs U rfl ⟨herr, ⟨S1, hD1, hk1, hS1⟩, bM1, bL1⟩ hsU hK
    clear hseq
    have cL := bL1.cell
    have fL := bL1.frozen
    have e9 : cleanC n s A = cleanF n s A xs := by unfold cleanC; rw [Hzs.out]
    have HD1 := hide hD1
    clear hD1 bM bL hrb hv
    gi_wp2
    have bL2 := bL1.set (.int .i64 0)
    have hkS : Keeps (fun k => k = w.heap.size + 1) U (U.setCell ⟨w.heap.size + 1, 0, none⟩ (.int .i64 0)) := Keeps.setCell (S := fun k => k = w.heap.size + 1) U rfl _
    have hK4 := (hkS.block V.heap.size (by omega) (fun e => by have e' : V.heap.size = w.heap.size + 1 := e; omega)).trans hK
    refine ⟨by simp, .inl ⟨_, _, rfl, run_takeDeferred hK4, ?_⟩⟩
    have bL3 := (World.putObj_heap_other (w := U.setCell ⟨w.heap.size + 1, 0, none⟩ (.int .i64 0)) (r := V.heap.size) (o := .deferred none) (k := w.heap.size + 1) (by omega)).trans bL2
    have hkP := keeps_put (U.setCell ⟨w.heap.size + 1, 0, none⟩ (.int .i64 0)) V.heap.size (.deferred none)
    have hno : ∀ k, S1 k → ¬ (k = w.heap.size + 1) ∧ ¬ (k = V.heap.size) := fun k hk => by
      rcases hS1 k hk with h | h
      · have := hSl k h; omega
      · omega
    refine ⟨_, results_cell1 rfl _ _ _ _ rfl (isAgg24 _) (Boxed.cell bL3), by rw [e9, herr], S1, ?_, ?_, ?_⟩
    · rw [e9]
      exact (HD1.out.keeps hkS (fun k hk => (hno k hk).1)).keeps hkP (fun k hk => (hno k hk).2)
    · exact (hk1.trans' hkS (fun k e => .inr (by have e' : k = w.heap.size + 1 := e; omega))).trans' hkP (fun k e => .inr (by have e' : k = V.heap.size := e; omega))
    · exact fun k hk => (hS1 k hk).imp id (fun h => h.1)
  case stop =>
    rintro code pre U hSp ⟨⟨rfl, hne⟩, ⟨S1, hD1, hk1, hS1⟩, bL1⟩ hsU hK
    clear hseq
    have e9 : cleanC n s A = cleanF n s A pre := by unfold cleanC; rw [Hzs.out]; exact cleanF_pre hSp hne
    have HD1 := hide hD1
    clear hD1 bM bL hrb hv
    gi_wp2
    refine ⟨by simp, .inl ⟨_, _, rfl, run_takeDeferred hK, ?_⟩⟩
    have bL3 := (World.putObj_heap_other (w := U) (r := V.heap.size) (o := .deferred none) (k := w.heap.size + 1) (by omega)).trans bL1
    have hkP := keeps_put U V.heap.size (.deferred none)
    have hno : ∀ k, S1 k → ¬ (k = V.heap.size) := fun k hk => by
      rcases hS1 k hk with h | h
      · have := hSl k h; omega
      · omega
    refine ⟨_, results_cell1 rfl _ _ _ _ rfl (isAgg24 _) (Boxed.cell bL3), by rw [e9], S1, ?_, ?_, ?_⟩
    · rw [e9]
      exact HD1.out.keeps hkP (fun k hk => hno k hk)
    · exact hk1.trans' hkP (fun k e => .inr (by have e' : k = V.heap.size := e; omega))
    · exact fun k hk => (hS1 k hk).imp id (fun h => h.1)

end

end Go.Proofs.Ytjcmmigbkhiplaa
