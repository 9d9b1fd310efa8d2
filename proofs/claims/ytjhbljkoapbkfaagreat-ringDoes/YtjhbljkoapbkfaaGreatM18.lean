/- Contract: lay. -/
import Derived.Test.YtjhbljkoapbkfaaGreatM16
set_option linter.unusedSimpArgs false
set_option linter.unusedVariables false

namespace Go.Proofs.YtjhbljkoapbkfaaGreat
open Go.RowKit Go.Attic Go.Shelf

attribute [local go_sem] Oper.semAt_some

theorem wpListIn_copy_owns {Fn : Fence} {nF : Nat} {P : Program} {w : World} {ops : Array Oper} {rest : List Oper} {o : Oper} {a : Act} {Q : Exit → Act → World → Prop} (hgd : o.guard = none) (d s : Operand) (dT sT : TypeId)
    (ho : o.op = .call { callee := .builtin .copy, args := #[d, s], argTypes := #[dT, sT] }) (elem : TypeId) (hu : P.underlying dT = some (.slice elem)) (hsz : (P.info? elem).map (·.size) = some 1)
    (m off dLen dCap : Nat) (ad : Addr) (sLen sCap : Nat) (hd : a.eval d = .slice (some ⟨m, off, none⟩) dLen dCap) (hs : a.eval s = .slice (some ad) sLen sCap)
    (n cap : Nat) (xs : List Value) (hown : w.ownsRow 0 elem 1 (.slice (some ⟨m, 0, none⟩) n cap) n xs) (cs : List Value) (hn : cs.length = Nat.min sLen dLen)
    (hsrc : ∀ j v, cs[j]? = some v → w.cell? (ad.add j) = some v) (hfit : off + cs.length ≤ n) (h1 : ∀ v ∈ cs, v.oneCell' = true)
    (h : ∀ w', w'.ownsRow 0 elem 1 (.slice (some ⟨m, 0, none⟩) n cap) n (splice xs off cs) → Keeps (fun k => k = m) w w' → wpListIn Fn nF P ops Q rest (a.put o.dst (goInt cs.length)) w') :
    wpListIn Fn nF P ops Q (o :: rest) a w := by
  have hown' := hown
  rcases hown.2 with ⟨hv, _⟩ | ⟨g, cap', cur, hv, _, hg, hnc, hcm, hcs, htake⟩
  · cases hv
  · injection hv with e1 e2 e3
    subst e3
    injection e1 with e1
    injection e1 with e1
    subst e1
    refine wpListIn_plain hgd fun K hK => ?_
    have hrun := run_copy_row (P := P) w dT sT o.type elem m off dLen dCap ad sLen sCap cur elem cs hu hsz hg hn hsrc (by omega) h1
    unfold Oper.wpIn
    refine ⟨by simp [Oper.about, ho, resolve, Target.leads, Sem.run_pure], ?_⟩
    rw [Oper.semAt_plain Fn _ _ (by rw [ho]; intro c hc'; cases hc')]
    simp [execOp, ho, resolve, invoke, builtin, hd, hs, hrun, Result.andThen]
    have r := h _ (owns_splice hown' hg hfit) (Keeps.setRow (S := fun k => k = m) w rfl _)
    exact hK _ _ r

theorem size5 : (Tryz.prog.info? 5).map (·.size) = some 1 := by kernel_rfl
theorem Rs.lt {F : Nat → Prop} {w : World} {v : Value} {rs : List Rc} (h : Rs w F v rs) : ∀ r ∈ rs, ∀ x ∈ r.l, x < 256 := by
  obtain ⟨ao, cap, vs, rfl, h1, h2, h3, h4⟩ := h
  intro r hr
  obtain ⟨i, hi, rfl⟩ := List.getElem_of_mem hr
  exact (h4 i hi (by omega)).1.lt
theorem layB_lt (bytes : List Nat) (t : Nat) (rs : List Rc) (hb : ∀ x ∈ bytes, x < 256) (hr : ∀ r ∈ rs, okRc r) (hl : ∀ r ∈ rs, ∀ x ∈ r.l, x < 256) : ∀ x ∈ layB bytes t rs, x < 256 := by
  induction rs generalizing bytes t with
  | nil => exact hb
  | cons r rs ih =>
    refine ih _ _ (fun x hx => ?_) (fun x hx => hr x (by simp [hx])) (fun x hx => hl x (by simp [hx]))
    simp only [splice, List.mem_append] at hx
    rcases hx with hx | hx | hx
    · exact hb x (List.mem_of_mem_take hx)
    · exact secRc_lt (hr r (by simp)) (hl r (by simp)) x hx
    · exact hb x (List.mem_of_mem_drop hx)
theorem layB_snoc (bytes : List Nat) (t : Nat) (a : List Rc) (r : Rc) : layB bytes t (a ++ [r]) = splice (layB bytes t a) ((t + a.length) % 4 * 64) (secRc (t + a.length) r) := by
  induction a generalizing bytes t with
  | nil => simp [layB]
  | cons x a ih =>
    simp only [List.cons_append, layB, List.length_cons]
    rw [ih, show t + 1 + a.length = t + (a.length + 1) by omega]

theorem results_cell1 {P : Program} {fn : Func} {p : Tmp} {ty : TypeId} (h : fn.results = #[.cell p ty]) (tmps : Array Value) (w : World) (a1 : Addr) (v1 : Value) (h1 : tmps.getD p undef = .pointer (some a1))
    (g1 : (isAgg ty).run P w = .ok false w) (c1 : w.cell? a1 = some v1) : (results fn tmps).run P w = .ok v1 w := by
  simp only [results, h]
  simp only [Array.getD_eq_getD_getElem?] at h1
  simp [Sem.run_bind, Result.andThen, h1, asAddr, loadVar, g1, c1]

/-- The disk, in a state, in the midst of a range. -/
def DkE (g m : Nat) (F : Nat → Prop) (n E : Nat) (s : St) (U : World) : Prop := ∃ p' F', Dk U g m p' F' n s ∧ ∀ k, F' k → F k ∨ E ≤ k
theorem stands_dk {β : Type} {D E g m n : Nat} {F : Nat → Prop} (f : β → St) (hg : g < D) (hm : m < D) (hF : ∀ k, F k → k < D) : Stands D E (fun s U => DkE g m F n E (f s) U) := by
  rintro s A B row ⟨p', F', hd, hF'⟩ hgr hmi
  refine ⟨p', F', hd.keeps (keeps_grown hgr) (fun e => by have := (hmi g e).1; omega) (fun e => by have := (hmi m e).1; omega) (fun k hk e => ?_), hF'⟩
  have h2 := hmi k e
  rcases hF' k hk with h | h
  · have := hF k h; omega
  · omega

theorem writeS_grows (s : St) (n : Nat) (i : Int) (b : List Nat) : (writeS s n i b).1.pend.length ≤ s.pend.length + 1 ∧ (writeS s n i b).1.ops ≤ s.ops + 1 := by
  unfold writeS
  split
  · simp
  · split
    · simp
    · split
      · simp
      · unfold operS
        split
        · simp
        · split
          · simp [crashed]
          · simp

/-- What stands of a log that is laid, behind some of its runs. -/
def LayI (g m : Nat) (F : Nat → Prop) (n base blocks E L : Nat) (s : St) (t : Nat) (rs : List Rc) (Z : St × Int) (d : Nat) (U : World) : Prop :=
  ∃ s1 f, (layN n base blocks f s1 (t + d) (rs.drop d) = Z ∧ L - d ≤ f ∧ s1.pend.length ≤ s.pend.length + d ∧ s1.ops ≤ s.ops + d) ∧ DkE g m F n E s1 U
theorem stands_layI {D E g m n base blocks L t : Nat} {F : Nat → Prop} {s : St} {rs : List Rc} {Z : St × Int} (f : List (Nat × Nat) → Nat) (hg : g < D) (hm : m < D) (hF : ∀ k, F k → k < D) : Stands D E (fun pre U => LayI g m F n base blocks E L s t rs Z (f pre) U) :=
  Stands.ex fun s1 => Stands.ex fun f => Stands.and (Stands.pure _ _ _) (stands_dk _ hg hm hF)

theorem layN_off {n base blocks f t : Nat} {s : St} {rs : List Rc} (h : 0 < rs.length) (hon : s.on = false) : layN n base blocks (f + 1) s t rs = (s, 5) := by
  simp only [layN]
  rw [if_neg (by omega), if_pos hon]
theorem layN_err {n base blocks f t c : Nat} {s : St} {rs : List Rc} {b : List Nat} (h : 0 < rs.length) (hon : s.on = true) (hc : min rs.length (4 - t % 4) = c) (hb : layB (readL s (base + t / 4 % blocks)) t (rs.take c) = b) (he : (writeS s n ((base + t / 4 % blocks : Nat) : Int) b).2 ≠ 0) :
    layN n base blocks (f + 1) s t rs = writeS s n ((base + t / 4 % blocks : Nat) : Int) b := by
  simp only [layN]
  rw [if_neg (by omega), if_neg (by simp [hon]), hc, hb, if_pos he]
theorem layN_go {n base blocks f t c : Nat} {s : St} {rs : List Rc} {b : List Nat} (h : 0 < rs.length) (hon : s.on = true) (hc : min rs.length (4 - t % 4) = c) (hb : layB (readL s (base + t / 4 % blocks)) t (rs.take c) = b) (he : (writeS s n ((base + t / 4 % blocks : Nat) : Int) b).2 = 0) :
    layN n base blocks (f + 1) s t rs = layN n base blocks f (writeS s n ((base + t / 4 % blocks : Nat) : Int) b).1 (t + c) (rs.drop c) := by
  simp only [layN]
  rw [if_neg (by omega), if_neg (by simp [hon]), hc, hb, if_neg (by simpa using he)]
theorem layN_nil {n base blocks f t : Nat} {s : St} {rs : List Rc} (h : rs.length = 0) : layN n base blocks f s t rs = (s, 0) := by
  cases f with
  | zero => rfl
  | succ f => simp only [layN]; rw [if_pos h]

set_option maxRecDepth 100000 in
set_option maxHeartbeats 1000000 in
theorem lay_any {w : World} {g m : Nat} {p : Option Nat} {F : Nat → Prop} {n : Nat} {s : St} (h : Dk w g m p F n s) (hpl : s.pend.length + 2000 ≤ 1000000) (ho : s.ops + 2000 ≤ 1000000) (base blocks t : Nat) (h1 : 1 ≤ blocks) (h2 : blocks ≤ 256) (h3 : base + blocks ≤ n) (ht : t ≤ 1152921504606846976 + 1024)
    (v : Value) (rs : List Rc) (Fr : Nat → Prop) (hR : Rs w Fr v rs) (hFr : ∀ k, Fr k → k < w.heap.size ∧ ¬ Own g m F k) (hc : rs.length ≤ 1024) (hok : ∀ r ∈ rs, okRc r) :
    Calls Tryz.prog 48 #[.agg #[.pointer (some ⟨g, 0, none⟩), .int .i64 (base : Int), .int .i64 (blocks : Int)], .int .i64 (t : Int), v] w fun e w' => e = .returned (.int .i64 (layN n base blocks rs.length s t rs).2) ∧ Turn w g m F n (layN n base blocks rs.length s t rs).1 w' := by
  have hn2 := h.ok.n2
  have hgl := h.gl
  have hml := h.ml
  have hFl := h.Fl
  obtain ⟨ao, cap, hv, hcap⟩ := hR.slice
  obtain ⟨L, hL⟩ : ∃ L, rs.length = L := ⟨_, rfl⟩
  rw [hL] at hv hcap hc ⊢
  subst hv
  obtain ⟨T, hT⟩ : ∃ T, w.heap.size = T := ⟨_, rfl⟩
  obtain ⟨w1, hw1⟩ : ∃ w1, (((w.alloc (.cells #[.pointer (some ⟨g, 0, none⟩), .int .i64 (base : Int), .int .i64 (blocks : Int)] 85)).alloc (.cells #[.int .i64 (t : Int)] 2)).alloc (.cells #[.slice ao L cap] 29)).alloc (.cells #[.int .i64 0] 42) = w1 := ⟨_, rfl⟩
  have hb1 : Below w.heap.size w w1 := by rw [← hw1]; exact ((((Below.refl _ w).alloc (Nat.le_refl _) _).alloc (by simp) _).alloc (by simp; omega) _).alloc (by simp; omega) _
  have hz1 : w1.heap.size = T + 4 := by rw [← hw1, ← hT]; simp
  have b0 : w1.heap[T]? = some (.cells #[.pointer (some ⟨g, 0, none⟩), .int .i64 (base : Int), .int .i64 (blocks : Int)] 85 (0, 0)) := by
    rw [← hw1, ← hT, Below.heap_alloc _ _ _ (by simp; omega), Below.heap_alloc _ _ _ (by simp; omega), Below.heap_alloc _ _ _ (by simp)]; exact World.alloc_heap_new w _
  have b1 : Boxed w1 (T + 1) 2 (.int .i64 (t : Int)) := by
    rw [← hw1, ← hT]
    have := ((Boxed.new (w.alloc (.cells #[.pointer (some ⟨g, 0, none⟩), .int .i64 (base : Int), .int .i64 (blocks : Int)] 85)) 2 (.int .i64 (t : Int))).alloc (.cells #[.slice ao L cap] 29)).alloc (.cells #[.int .i64 0] 42)
    simpa using this
  have b2 : Boxed w1 (T + 1 + 1) 29 (.slice ao L cap) := by
    rw [← hw1, ← hT]
    have := (Boxed.new ((w.alloc (.cells #[.pointer (some ⟨g, 0, none⟩), .int .i64 (base : Int), .int .i64 (blocks : Int)] 85)).alloc (.cells #[.int .i64 (t : Int)] 2)) 29 (.slice ao L cap)).alloc (.cells #[.int .i64 0] 42)
    simpa using this
  have b3 : Boxed w1 (T + 1 + 1 + 1) 42 (.int .i64 0) := by
    rw [← hw1, ← hT]
    have := Boxed.new (((w.alloc (.cells #[.pointer (some ⟨g, 0, none⟩), .int .i64 (base : Int), .int .i64 (blocks : Int)] 85)).alloc (.cells #[.int .i64 (t : Int)] 2)).alloc (.cells #[.slice ao L cap] 29)) 42 (.int .i64 0)
    simpa using this
  have d1 := b1.cell
  have d2 := b2.cell
  obtain ⟨Z, hZ⟩ : ∃ Z, layN n base blocks L s t rs = Z := ⟨_, rfl⟩
  rw [hZ]
  have HZ := hide hZ
  have HL := hide hL
  have HR := hide hR
  have Hh := hide h
  have Hok := hide hok
  have Hlt := hide (Rs.lt hR)
  clear hZ hL hR h hok
  refine (callsIn_wide (n := 3)).1 ?_
  refine callsIn_of_wp_marks Tryz.func48 rfl trivial ?_ rfl
  simp only [Tryz.ntmps48, List.size_toArray, List.length_cons, List.length_nil, Nat.reduceAdd, Nat.reduceSub, Array.replicate_succ, Array.replicate_zero, List.push_toArray, List.append_toArray, List.nil_append, List.cons_append]
  gi_wp2
  refine ⟨trivial, (callsIn_wide.2 (runs_any t L _)).mono ?_⟩
  rintro e w' ⟨rfl, rfl⟩
  gi_wp2
  have bV4 : Boxed ((w1.alloc (.cells #[.int .i64 (t : Int)] 2)).alloc (.cells #[.int .i64 (L : Int)] 3)) (T + 4) 2 (.int .i64 (t : Int)) := by rw [← hz1]; exact (Boxed.new w1 2 _).alloc _
  have bV5 : Boxed ((w1.alloc (.cells #[.int .i64 (t : Int)] 2)).alloc (.cells #[.int .i64 (L : Int)] 3)) (T + 4 + 1) 3 (.int .i64 (L : Int)) := by rw [← hz1]; simpa using Boxed.new (w1.alloc (.cells #[.int .i64 (t : Int)] 2)) 3 (.int .i64 (L : Int))
  have kV : Below w1.heap.size w1 ((w1.alloc (.cells #[.int .i64 (t : Int)] 2)).alloc (.cells #[.int .i64 (L : Int)] 3)) := ((Below.refl _ _).alloc (Nat.le_refl _) _).alloc (by simp) _
  have hzV : ((w1.alloc (.cells #[.int .i64 (t : Int)] 2)).alloc (.cells #[.int .i64 (L : Int)] 3)).heap.size = T + 6 := by simp [hz1]
  obtain ⟨V, hV⟩ : ∃ V, (w1.alloc (.cells #[.int .i64 (t : Int)] 2)).alloc (.cells #[.int .i64 (L : Int)] 3) = V := ⟨_, rfl⟩
  rw [hV] at bV4 bV5 kV hzV ⊢
  have hwV : Below w.heap.size w V := hb1.trans (kV.mono (by omega))
  have hDV := Hh.out.mono hwV
  have HV := hide hV
  have Hw1 := hide hw1
  clear hV hw1
  have v0 := (kV.block T (by omega)).trans b0
  have v1 : Boxed V (T + 1) 2 (.int .i64 (t : Int)) := (kV.block _ (by omega)).trans b1
  have v2 : Boxed V (T + 1 + 1) 29 (.slice ao L cap) := (kV.block _ (by omega)).trans b2
  have v3 : Boxed V (T + 1 + 1 + 1) 42 (.int .i64 0) := (kV.block _ (by omega)).trans b3
  clear b0 b1 b2 b3 d1 d2
  have hseq := runs1_any (fun k => k = T + 4 ∨ k = T + 4 + 1) t L _ _ V bV4 bV5 (by omega) (by omega) (.inl rfl) (.inr rfl)
  refine range_law (n := 3) (gf := 82) (lb := #[.pointer (some ⟨T + 4 + 1, 0, none⟩), .pointer (some ⟨T + 4, 0, none⟩)]) rfl (enters_of Tryz.func82 (by kernel_rfl) rfl) hseq (Below.refl _ _) (fun k hk => by omega) (fun _ => rfl)
    (fun pre U => Keeps (Own g m F) V U ∧ LayI g m F n base blocks (V.heap.size + 2 + 0) L s t rs Z (tot pre) U)
    (fun code pre U => code = .ret ∧ (Keeps (fun k => Own g m F k ∨ k = T + 1 + 1 + 1) V U ∧ (Boxed U (T + 1 + 1 + 1) 42 (.int .i64 Z.2) ∧ DkE g m F n (V.heap.size + 2 + 0) Z.1 U)))
    (Stands.and (stands_keeps _ _ (Nat.le_refl _)) (stands_layI _ (by omega) (by omega) (fun k hk => by have := hFl k hk; omega)))
    (fun code => Stands.and (Stands.pure _ _ _) (Stands.and (stands_keeps _ _ (Nat.le_refl _)) (Stands.and (stands_boxed _ _ _ (.inl (by omega))) (stands_dk _ (by omega) (by omega) (fun k hk => by have := hFl k hk; omega)))))
    ⟨Keeps.refl _ _, s, L, ⟨by simpa [tot] using HZ.out, by omega, by simp [tot], by simp [tot]⟩, p, F, hDV, fun k hk => .inl hk⟩
    (fun x => { tmps := #[.agg #[.pointer (some ⟨g, 0, none⟩), .int .i64 (base : Int), .int .i64 (blocks : Int)], .int .i64 (t : Int), .slice ao L cap, .pointer (some ⟨T, 0, none⟩), .pointer (some ⟨T + 1, 0, none⟩), .pointer (some ⟨T + 1 + 1, 0, none⟩), .pointer (some ⟨T + 1 + 1 + 1, 0, none⟩), .int .i64 (x.1 : Int), .int .i64 (x.2 : Int), undef, undef, undef, undef, undef, undef,
      .int .i64 (t : Int), .slice ao L cap, .int .i64 (L : Int), .func (.func 82) #[] #[.pointer (some ⟨T + 4 + 1, 0, none⟩), .pointer (some ⟨T + 4, 0, none⟩)], .int .i64 (x.1 : Int), .int .i64 (x.2 : Int), undef, undef, undef, undef, undef, undef, undef, undef, undef, undef, undef, undef, undef, undef, undef, undef, undef, undef, undef, undef, undef, undef, undef, undef, undef, undef, undef, undef, undef, undef, undef, undef, undef, undef, undef, undef, undef, undef, undef, undef, undef, undef, undef, undef, undef, undef], defers := [] })
    ?assign ?body ?done ?stop
  case assign =>
    rintro l' ⟨xa, xb⟩ U T' hT'
    clear hseq
    gi_wp2
    exact hT'
  case body =>
    rintro pre ⟨fi, ma⟩ W hSp ⟨hkW, s1, f, ⟨hlay, hf, hp1, ho1⟩, pW, FW, hDW, hFW⟩ hsW ⟨r, hr⟩
    obtain ⟨e1, e2, e3⟩ := hSp.of
    dsimp only at e1 e2 e3
    have hfi : fi ≤ 1152921504606846976 + 2048 := by omega
    have hma : 1 ≤ ma ∧ ma ≤ 4 ∧ fi % 4 + ma ≤ 4 ∧ tot pre + ma ≤ L := by omega
    have hTown : ∀ k, T ≤ k → ¬ Own g m F k := fun k hk hh => by rcases hh with hh | hh | hh; omega; omega; have := hFl k hh; omega
    have hTW : ∀ k, T ≤ k → k < T + 8 → ¬ Own g m FW k := fun k hk hk8 hh => by
      rcases hh with hh | hh | hh
      · omega
      · omega
      · rcases hFW k hh with h' | h'
        · have := hFl k h'; omega
        · omega
    have w0 := (hkW.block T (by omega) (hTown _ (Nat.le_refl _))).trans v0
    have w1' : Boxed W (T + 1) 2 (.int .i64 (t : Int)) := (hkW.block _ (by omega) (hTown _ (by omega))).trans v1
    have w2' : Boxed W (T + 1 + 1) 29 (.slice ao L cap) := (hkW.block _ (by omega) (hTown _ (by omega))).trans v2
    have w3' : Boxed W (T + 1 + 1 + 1) 42 (.int .i64 0) := (hkW.block _ (by omega) (hTown _ (by omega))).trans v3
    have c0 : W.cell? ⟨T, 0, none⟩ = some (.pointer (some ⟨g, 0, none⟩)) := by unfold World.cell?; rw [w0]; rfl
    have c1 : W.cell? ⟨T, 1, none⟩ = some (.int .i64 (base : Int)) := by unfold World.cell?; rw [w0]; rfl
    have c2 : W.cell? ⟨T, 2, none⟩ = some (.int .i64 (blocks : Int)) := by unfold World.cell?; rw [w0]; rfl
    obtain ⟨bk, hbk⟩ : ∃ bk, base + fi / 4 % blocks = bk := ⟨_, rfl⟩
    have hbn : bk < n := by have : fi / 4 % blocks < blocks := Nat.mod_lt _ (by omega)
                            omega
    obtain ⟨f', rfl⟩ : ∃ f', f = f' + 1 := ⟨f - 1, by omega⟩
    have hdl : (rs.drop (tot pre)).length = L - tot pre := by rw [List.length_drop, HL.out]
    have hRW : Rs W Fr (.slice ao L cap) rs := (HR.out.mono hwV).keeps hkW (fun k hk => (hFr k hk).2)
    have hread : ∀ (er : Int) (B : List Nat), readS s1 n (bk : Int) = (B, er) → ∀ W1, Below W.drew.heap.size W.drew W1 → Calls Tryz.prog 65 #[.pointer (some ⟨g, 0, none⟩), .int .i64 ((base + fi / 4 % blocks : Nat) : Int)] W1 fun e w' => ∃ v, e = .returned (.tuple #[v, .int .i64 er]) ∧ w'.ownsRow W1.heap.size 5 1 v B.length (cellsB B) ∧ Below W1.heap.size W1 w' := by
      intro er B hrd W1 hB
      have q := read_yes ((hDW.mono (below_drew' W)).mono hB) (bk : Int) (by omega)
      rw [hrd] at q
      rw [hbk]
      exact q
    have E1 := hide e1
    have E2 := hide e2
    have E3 := hide e3
    have Hbk := hide hbk
    have Hw0 := hide w0
    have Hw1' := hide w1'
    have Hw2' := hide w2'
    have Hw3' := hide w3'
    have HDW := hide hDW
    have HDV := hide hDV
    have Hr := hide hr
    have Hlay := hide hlay
    have Hdl := hide hdl
    have HRW := hide hRW
    clear hseq hbk w0 w1' w2' w3' hDW hDV hr v0 v1 v2 v3 bV4 bV5 e1 e2 e3 hlay hdl hRW
    cases hon : s1.on with
    | false =>
      have hread := hread 5 [] (by simp [readS, hon])
      obtain ⟨er, her⟩ : ∃ er : Int, er = 5 := ⟨_, rfl⟩
      rw [← her] at hread
      have Hon := hide hon
      have Her := hide her
      clear hon her
      gi_wp2
      have sW : W.drew.cell? ⟨T, 0, none⟩ = some (.pointer (some ⟨g, 0, none⟩)) ∧ W.drew.cell? ⟨T, 1, none⟩ = some (.int .i64 (base : Int)) ∧ W.drew.cell? ⟨T, 2, none⟩ = some (.int .i64 (blocks : Int)) := ⟨c0, c1, c2⟩
      refine wpIn_region_round (fun w' => w'.cell? ⟨T, 0, none⟩ = some (.pointer (some ⟨g, 0, none⟩)) ∧ w'.cell? ⟨T, 1, none⟩ = some (.int .i64 (base : Int)) ∧ w'.cell? ⟨T, 2, none⟩ = some (.int .i64 (blocks : Int))) (by kernel_rfl) (by kernel_rfl) (fun ⟨a', w', hh⟩ => hh) ?_
      refine wpAnyH_take (i := 0) (oi := { dst := some 22, op := Op.fieldAddr 85 (Operand.tmp 3) 0, type := 0, pos := _, after := #[], guard := none }) (v := .pointer (some ⟨T, 0, none⟩)) rfl (by kernel_rfl) (by kernel_rfl) (by kernel_rfl) (fun _ _ _ h => h) (Or.inl ⟨by rfl, fun w' hw => by obtain ⟨d0, d1, d2⟩ := hw; go_simp⟩) sW ?_
      simp only [Act.put, List.setIfInBounds_toArray, List.set_cons_zero, List.set_cons_succ]
      refine wpAnyH_take (i := 1) (oi := { dst := some 23, op := Op.load 34 (Operand.tmp 22), type := 34, pos := _, after := #[{ on := 0, ground := Ground.data }], guard := none }) (v := .pointer (some ⟨g, 0, none⟩)) rfl (by kernel_rfl) (by kernel_rfl) (by kernel_rfl) (fun _ _ _ h => h) (Or.inl ⟨by rfl, fun w' hw => by obtain ⟨d0, d1, d2⟩ := hw; go_simp⟩) sW ?_
      simp only [Act.put, List.setIfInBounds_toArray, List.set_cons_zero, List.set_cons_succ]
      refine wpAnyH_take (i := 2) (oi := { dst := some 24, op := Op.load 85 (Operand.tmp 3), type := 85, pos := _, after := #[], guard := none }) (v := .agg #[.pointer (some ⟨g, 0, none⟩), .int .i64 (base : Int), .int .i64 (blocks : Int)]) rfl (by kernel_rfl) (by kernel_rfl) (by kernel_rfl) (fun _ _ _ h => h) (Or.inl ⟨by rfl, fun w' hw => by obtain ⟨d0, d1, d2⟩ := hw; go_simp⟩) sW ?_
      simp only [Act.put, List.setIfInBounds_toArray, List.set_cons_zero, List.set_cons_succ]
      refine wpAnyH_take (i := 3) (oi := { dst := some 25, op := Op.move (Operand.tmp 7), type := 2, pos := _, after := #[], guard := none }) (v := .int .i64 (fi : Int)) rfl (by kernel_rfl) (by kernel_rfl) (by kernel_rfl) (fun _ _ _ h => h) (Or.inl ⟨by rfl, fun w' hw => by obtain ⟨d0, d1, d2⟩ := hw; go_simp⟩) sW ?_
      simp only [Act.put, List.setIfInBounds_toArray, List.set_cons_zero, List.set_cons_succ]
      refine wpAnyH_ready (rs := [4]) (by kernel_rfl) (by simp) ?_
      refine AllReadyH.cons (o := { dst := some 26, op := Op.call { callee := Callee.value (Operand.func 66), args := #[Operand.tmp 24, Operand.tmp 25], argTypes := #[85, 2] }, type := 3, pos := _, after := #[{ on := 2, ground := Ground.data }, { on := 3, ground := Ground.data }], guard := none }) rfl (fun K hK => ?_) AllReadyH.nil
      go_simp
      refine (gBlock_any g base blocks fi _ h1 h2 (by omega) (by omega)).mono ?_
      rintro e W1 ⟨rfl, hB1⟩
      have sW1 : W1.cell? ⟨T, 0, none⟩ = some (.pointer (some ⟨g, 0, none⟩)) ∧ W1.cell? ⟨T, 1, none⟩ = some (.int .i64 (base : Int)) ∧ W1.cell? ⟨T, 2, none⟩ = some (.int .i64 (blocks : Int)) := by
        have kk := Keeps.of_below (S := fun _ => False) hB1
        exact ⟨kk.cell sW.1 id, kk.cell sW.2.1 id, kk.cell sW.2.2 id⟩
      refine hK.out _ _ sW1 (fun _ => ?_)
      clear hK K
      refine wpAnyH_ready (rs := [5]) (by kernel_rfl) (by simp) ?_
      refine AllReadyH.cons (o := { dst := some 27, op := Op.call { callee := Callee.value (Operand.func 65), args := #[Operand.tmp 23, Operand.tmp 26], argTypes := #[34, 3] }, type := 98, pos := _, after := #[{ on := 1, ground := Ground.data }, { on := 4, ground := Ground.data }, { on := 4, ground := Ground.chain }], guard := none }) rfl (fun K hK => ?_) AllReadyH.nil
      go_simp
      refine (hread W1 hB1).mono ?_
      rintro e W2 ⟨vb, rfl, hob, hB2⟩
      have sW2 : W2.cell? ⟨T, 0, none⟩ = some (.pointer (some ⟨g, 0, none⟩)) ∧ W2.cell? ⟨T, 1, none⟩ = some (.int .i64 (base : Int)) ∧ W2.cell? ⟨T, 2, none⟩ = some (.int .i64 (blocks : Int)) := by
        have kk := Keeps.of_below (S := fun _ => False) hB2
        exact ⟨kk.cell sW1.1 id, kk.cell sW1.2.1 id, kk.cell sW1.2.2 id⟩
      refine hK.out _ _ sW2 (fun _ => ?_)
      clear hK K
      refine wpAnyH_take (i := 6) (oi := { dst := some 21, op := Op.move (Operand.tmp 27), type := 98, pos := _, after := #[{ on := 5, ground := Ground.data }], guard := none }) (v := .tuple #[vb, .int .i64 er]) rfl (by kernel_rfl) (by kernel_rfl) (by kernel_rfl) (fun _ _ _ h => h) (Or.inl ⟨by rfl, fun w' hw => by obtain ⟨d0, d1, d2⟩ := hw; go_simp⟩) sW2 ?_
      simp only [Act.put, List.setIfInBounds_toArray, List.set_cons_zero, List.set_cons_succ]
      refine wpAnyH_take (i := 7) (oi := { dst := some 28, op := Op.extract (Operand.tmp 21) 0, type := 30, pos := _, after := #[{ on := 6, ground := Ground.data }], guard := none }) (v := vb) rfl (by kernel_rfl) (by kernel_rfl) (by kernel_rfl) (fun _ _ _ h => h) (Or.inl ⟨by rfl, fun w' hw => by obtain ⟨d0, d1, d2⟩ := hw; go_simp⟩) sW2 ?_
      simp only [Act.put, List.setIfInBounds_toArray, List.set_cons_zero, List.set_cons_succ]
      refine wpAnyH_take (i := 8) (oi := { dst := some 29, op := Op.extract (Operand.tmp 21) 1, type := 42, pos := _, after := #[{ on := 6, ground := Ground.data }, { on := 9, ground := Ground.gcOnly Departure.lateStores }], guard := none }) (v := .int .i64 er) rfl (by kernel_rfl) (by kernel_rfl) (by kernel_rfl) (fun _ _ _ h => h) (Or.inl ⟨by rfl, fun w' hw => by obtain ⟨d0, d1, d2⟩ := hw; go_simp⟩) sW2 ?_
      simp only [Act.put, List.setIfInBounds_toArray, List.set_cons_zero, List.set_cons_succ]
      refine wpAnyH_take (i := 9) (oi := { dst := some 9, op := Op.assign (Operand.tmp 28), type := 30, pos := _, after := #[{ on := 7, ground := Ground.data }, { on := 5, ground := Ground.chain }, { on := 0, ground := Ground.phase }, { on := 1, ground := Ground.phase }, { on := 2, ground := Ground.phase }, { on := 3, ground := Ground.phase }, { on := 4, ground := Ground.phase }, { on := 5, ground := Ground.phase }, { on := 6, ground := Ground.phase }, { on := 7, ground := Ground.phase }, { on := 8, ground := Ground.textOnly Departure.lateStores }], guard := none }) (v := vb) rfl (by kernel_rfl) (by kernel_rfl) (by kernel_rfl) (fun _ _ _ h => h) (Or.inl ⟨by rfl, fun w' hw => by obtain ⟨d0, d1, d2⟩ := hw; go_simp⟩) sW2 ?_
      simp only [Act.put, List.setIfInBounds_toArray, List.set_cons_zero, List.set_cons_succ]
      refine wpAnyH_take (i := 10) (oi := { dst := some 10, op := Op.assign (Operand.tmp 29), type := 42, pos := _, after := #[{ on := 8, ground := Ground.data }, { on := 9, ground := Ground.chain }, { on := 0, ground := Ground.phase }, { on := 1, ground := Ground.phase }, { on := 2, ground := Ground.phase }, { on := 3, ground := Ground.phase }, { on := 4, ground := Ground.phase }, { on := 5, ground := Ground.phase }, { on := 6, ground := Ground.phase }, { on := 7, ground := Ground.phase }, { on := 8, ground := Ground.phase }, { on := 9, ground := Ground.phase }], guard := none }) (v := .int .i64 er) rfl (by kernel_rfl) (by kernel_rfl) (by kernel_rfl) (fun _ _ _ h => h) (Or.inl ⟨by rfl, fun w' hw => by obtain ⟨d0, d1, d2⟩ := hw; go_simp⟩) sW2 ?_
      simp only [Act.put, List.setIfInBounds_toArray, List.set_cons_zero, List.set_cons_succ]
      refine wpAnyH_done (by kernel_rfl) ?_ _
      have he := Her.out
      subst he
      obtain ⟨uao, ucap, rfl, -, hug⟩ := owns_form hob
      have hkW2 : Keeps (fun _ => False) W W2 := (Keeps.drew W).trans ((Keeps.of_below hB1).trans (Keeps.of_below hB2))
      have q3 : Boxed W2 (T + 1 + 1 + 1) 42 (.int .i64 0) := (hkW2.block _ (by omega) id).trans Hw3'.out
      have d3 := q3.cell
      have d3f := q3.frozen
      clear hread sW sW1 sW2 c0 c1 c2 hob
      gi_wp2
      have hZ : Z = (s1, 5) := by rw [← Hlay.out]; exact layN_off (by rw [Hdl.out]; omega) Hon.out
      have kU := keeps_set W2 (T + 1 + 1 + 1) 0 (.int .i64 5)
      have bU := q3.set (.int .i64 5)
      generalize W2.setCell ⟨T + 1 + 1 + 1, 0, none⟩ (.int .i64 5) = U at *
      have kWU : Keeps (fun k => k = T + 1 + 1 + 1) W U := (hkW2.mono (fun _ h => h.elim)).trans kU
      refine ⟨⟨kWU.size, fun b h1 h2 => kWU.block b (by omega) (fun h' => by omega)⟩, rfl, ?_, ?_, ?_⟩
      · exact (hkW.mono (fun k h' => .inl h')).trans (kWU.mono (fun k h' => .inr h'))
      · rw [hZ]; exact bU
      · rw [hZ]
        exact ⟨pW, FW, HDW.out.keeps kWU (fun h' => by have e : g = T + 1 + 1 + 1 := h'; omega) (fun h' => by have e : m = T + 1 + 1 + 1 := h'; omega) (fun k hk h' => hTW (T + 1 + 1 + 1) (by omega) (by omega) (.inr (.inr (h' ▸ hk)))), fun k hk => (hFW k hk).imp id (by omega)⟩
    | true =>
      have hin : inS n (bk : Int) = true := by simp [inS]; omega
      have hread := hread 0 (readL s1 bk) (by simp [readS, hon, hin])
      obtain ⟨hrl1, hrl2⟩ := readL_ok HDW.out.ok hbn
      obtain ⟨er, her⟩ : ∃ er : Int, er = 0 := ⟨_, rfl⟩
      rw [← her] at hread
      have Hon := hide hon
      have Her := hide her
      have Hin := hide hin
      clear hon her hin
      gi_wp2
      have sW : W.drew.cell? ⟨T, 0, none⟩ = some (.pointer (some ⟨g, 0, none⟩)) ∧ W.drew.cell? ⟨T, 1, none⟩ = some (.int .i64 (base : Int)) ∧ W.drew.cell? ⟨T, 2, none⟩ = some (.int .i64 (blocks : Int)) := ⟨c0, c1, c2⟩
      refine wpIn_region_round (fun w' => w'.cell? ⟨T, 0, none⟩ = some (.pointer (some ⟨g, 0, none⟩)) ∧ w'.cell? ⟨T, 1, none⟩ = some (.int .i64 (base : Int)) ∧ w'.cell? ⟨T, 2, none⟩ = some (.int .i64 (blocks : Int))) (by kernel_rfl) (by kernel_rfl) (fun ⟨a', w', hh⟩ => hh) ?_
      refine wpAnyH_take (i := 0) (oi := { dst := some 22, op := Op.fieldAddr 85 (Operand.tmp 3) 0, type := 0, pos := _, after := #[], guard := none }) (v := .pointer (some ⟨T, 0, none⟩)) rfl (by kernel_rfl) (by kernel_rfl) (by kernel_rfl) (fun _ _ _ h => h) (Or.inl ⟨by rfl, fun w' hw => by obtain ⟨d0, d1, d2⟩ := hw; go_simp⟩) sW ?_
      simp only [Act.put, List.setIfInBounds_toArray, List.set_cons_zero, List.set_cons_succ]
      refine wpAnyH_take (i := 1) (oi := { dst := some 23, op := Op.load 34 (Operand.tmp 22), type := 34, pos := _, after := #[{ on := 0, ground := Ground.data }], guard := none }) (v := .pointer (some ⟨g, 0, none⟩)) rfl (by kernel_rfl) (by kernel_rfl) (by kernel_rfl) (fun _ _ _ h => h) (Or.inl ⟨by rfl, fun w' hw => by obtain ⟨d0, d1, d2⟩ := hw; go_simp⟩) sW ?_
      simp only [Act.put, List.setIfInBounds_toArray, List.set_cons_zero, List.set_cons_succ]
      refine wpAnyH_take (i := 2) (oi := { dst := some 24, op := Op.load 85 (Operand.tmp 3), type := 85, pos := _, after := #[], guard := none }) (v := .agg #[.pointer (some ⟨g, 0, none⟩), .int .i64 (base : Int), .int .i64 (blocks : Int)]) rfl (by kernel_rfl) (by kernel_rfl) (by kernel_rfl) (fun _ _ _ h => h) (Or.inl ⟨by rfl, fun w' hw => by obtain ⟨d0, d1, d2⟩ := hw; go_simp⟩) sW ?_
      simp only [Act.put, List.setIfInBounds_toArray, List.set_cons_zero, List.set_cons_succ]
      refine wpAnyH_take (i := 3) (oi := { dst := some 25, op := Op.move (Operand.tmp 7), type := 2, pos := _, after := #[], guard := none }) (v := .int .i64 (fi : Int)) rfl (by kernel_rfl) (by kernel_rfl) (by kernel_rfl) (fun _ _ _ h => h) (Or.inl ⟨by rfl, fun w' hw => by obtain ⟨d0, d1, d2⟩ := hw; go_simp⟩) sW ?_
      simp only [Act.put, List.setIfInBounds_toArray, List.set_cons_zero, List.set_cons_succ]
      refine wpAnyH_ready (rs := [4]) (by kernel_rfl) (by simp) ?_
      refine AllReadyH.cons (o := { dst := some 26, op := Op.call { callee := Callee.value (Operand.func 66), args := #[Operand.tmp 24, Operand.tmp 25], argTypes := #[85, 2] }, type := 3, pos := _, after := #[{ on := 2, ground := Ground.data }, { on := 3, ground := Ground.data }], guard := none }) rfl (fun K hK => ?_) AllReadyH.nil
      go_simp
      refine (gBlock_any g base blocks fi _ h1 h2 (by omega) (by omega)).mono ?_
      rintro e W1 ⟨rfl, hB1⟩
      have sW1 : W1.cell? ⟨T, 0, none⟩ = some (.pointer (some ⟨g, 0, none⟩)) ∧ W1.cell? ⟨T, 1, none⟩ = some (.int .i64 (base : Int)) ∧ W1.cell? ⟨T, 2, none⟩ = some (.int .i64 (blocks : Int)) := by
        have kk := Keeps.of_below (S := fun _ => False) hB1
        exact ⟨kk.cell sW.1 id, kk.cell sW.2.1 id, kk.cell sW.2.2 id⟩
      refine hK.out _ _ sW1 (fun _ => ?_)
      clear hK K
      refine wpAnyH_ready (rs := [5]) (by kernel_rfl) (by simp) ?_
      refine AllReadyH.cons (o := { dst := some 27, op := Op.call { callee := Callee.value (Operand.func 65), args := #[Operand.tmp 23, Operand.tmp 26], argTypes := #[34, 3] }, type := 98, pos := _, after := #[{ on := 1, ground := Ground.data }, { on := 4, ground := Ground.data }, { on := 4, ground := Ground.chain }], guard := none }) rfl (fun K hK => ?_) AllReadyH.nil
      go_simp
      refine (hread W1 hB1).mono ?_
      rintro e W2 ⟨vb, rfl, hob, hB2⟩
      have sW2 : W2.cell? ⟨T, 0, none⟩ = some (.pointer (some ⟨g, 0, none⟩)) ∧ W2.cell? ⟨T, 1, none⟩ = some (.int .i64 (base : Int)) ∧ W2.cell? ⟨T, 2, none⟩ = some (.int .i64 (blocks : Int)) := by
        have kk := Keeps.of_below (S := fun _ => False) hB2
        exact ⟨kk.cell sW1.1 id, kk.cell sW1.2.1 id, kk.cell sW1.2.2 id⟩
      refine hK.out _ _ sW2 (fun _ => ?_)
      clear hK K
      refine wpAnyH_take (i := 6) (oi := { dst := some 21, op := Op.move (Operand.tmp 27), type := 98, pos := _, after := #[{ on := 5, ground := Ground.data }], guard := none }) (v := .tuple #[vb, .int .i64 er]) rfl (by kernel_rfl) (by kernel_rfl) (by kernel_rfl) (fun _ _ _ h => h) (Or.inl ⟨by rfl, fun w' hw => by obtain ⟨d0, d1, d2⟩ := hw; go_simp⟩) sW2 ?_
      simp only [Act.put, List.setIfInBounds_toArray, List.set_cons_zero, List.set_cons_succ]
      refine wpAnyH_take (i := 7) (oi := { dst := some 28, op := Op.extract (Operand.tmp 21) 0, type := 30, pos := _, after := #[{ on := 6, ground := Ground.data }], guard := none }) (v := vb) rfl (by kernel_rfl) (by kernel_rfl) (by kernel_rfl) (fun _ _ _ h => h) (Or.inl ⟨by rfl, fun w' hw => by obtain ⟨d0, d1, d2⟩ := hw; go_simp⟩) sW2 ?_
      simp only [Act.put, List.setIfInBounds_toArray, List.set_cons_zero, List.set_cons_succ]
      refine wpAnyH_take (i := 8) (oi := { dst := some 29, op := Op.extract (Operand.tmp 21) 1, type := 42, pos := _, after := #[{ on := 6, ground := Ground.data }, { on := 9, ground := Ground.gcOnly Departure.lateStores }], guard := none }) (v := .int .i64 er) rfl (by kernel_rfl) (by kernel_rfl) (by kernel_rfl) (fun _ _ _ h => h) (Or.inl ⟨by rfl, fun w' hw => by obtain ⟨d0, d1, d2⟩ := hw; go_simp⟩) sW2 ?_
      simp only [Act.put, List.setIfInBounds_toArray, List.set_cons_zero, List.set_cons_succ]
      refine wpAnyH_take (i := 9) (oi := { dst := some 9, op := Op.assign (Operand.tmp 28), type := 30, pos := _, after := #[{ on := 7, ground := Ground.data }, { on := 5, ground := Ground.chain }, { on := 0, ground := Ground.phase }, { on := 1, ground := Ground.phase }, { on := 2, ground := Ground.phase }, { on := 3, ground := Ground.phase }, { on := 4, ground := Ground.phase }, { on := 5, ground := Ground.phase }, { on := 6, ground := Ground.phase }, { on := 7, ground := Ground.phase }, { on := 8, ground := Ground.textOnly Departure.lateStores }], guard := none }) (v := vb) rfl (by kernel_rfl) (by kernel_rfl) (by kernel_rfl) (fun _ _ _ h => h) (Or.inl ⟨by rfl, fun w' hw => by obtain ⟨d0, d1, d2⟩ := hw; go_simp⟩) sW2 ?_
      simp only [Act.put, List.setIfInBounds_toArray, List.set_cons_zero, List.set_cons_succ]
      refine wpAnyH_take (i := 10) (oi := { dst := some 10, op := Op.assign (Operand.tmp 29), type := 42, pos := _, after := #[{ on := 8, ground := Ground.data }, { on := 9, ground := Ground.chain }, { on := 0, ground := Ground.phase }, { on := 1, ground := Ground.phase }, { on := 2, ground := Ground.phase }, { on := 3, ground := Ground.phase }, { on := 4, ground := Ground.phase }, { on := 5, ground := Ground.phase }, { on := 6, ground := Ground.phase }, { on := 7, ground := Ground.phase }, { on := 8, ground := Ground.phase }, { on := 9, ground := Ground.phase }], guard := none }) (v := .int .i64 er) rfl (by kernel_rfl) (by kernel_rfl) (by kernel_rfl) (fun _ _ _ h => h) (Or.inl ⟨by rfl, fun w' hw => by obtain ⟨d0, d1, d2⟩ := hw; go_simp⟩) sW2 ?_
      simp only [Act.put, List.setIfInBounds_toArray, List.set_cons_zero, List.set_cons_succ]
      refine wpAnyH_done (by kernel_rfl) ?_ _
      have he := Her.out
      subst he
      rw [hrl1] at hob
      obtain ⟨gb, cb, evb, hgb⟩ : ∃ gb cb, vb = .slice (some ⟨gb, 0, none⟩) 256 cb ∧ W1.heap.size ≤ gb := by
        obtain ⟨ao, cap, e, _, hg⟩ := owns_form hob
        obtain ⟨gb, rfl, hgb⟩ := hg (by omega)
        exact ⟨gb, cap, e, hgb⟩
      subst evb
      have hcb := (Bs.of_owns hob hrl2).cap
      have hgb2 : gb < W2.heap.size := owns_lt' hob gb rfl
      have hz2 : W.heap.size ≤ W1.heap.size ∧ W1.heap.size ≤ W2.heap.size := ⟨hB1.size, hB2.size⟩
      have hkW2 : Keeps (fun _ => False) W W2 := (Keeps.drew W).trans ((Keeps.of_below hB1).trans (Keeps.of_below hB2))
      have hD2 := HDW.out.keeps hkW2 id id (fun _ _ => id)
      obtain ⟨bytes, hby⟩ : ∃ bytes, readL s1 bk = bytes := ⟨_, rfl⟩
      obtain ⟨rs1, hrs1⟩ : ∃ rs1, rs.drop (tot pre) = rs1 := ⟨_, rfl⟩
      have hrsl : rs1.length = L - tot pre := by rw [← hrs1]; exact Hdl.out
      have hrs1k : ∀ k, k < ma → ∃ hj : tot pre + k < rs.length, rs1[k]? = some rs[tot pre + k] := by
        intro k hk
        have hj : tot pre + k < rs.length := by rw [HL.out]; omega
        exact ⟨hj, by rw [← hrs1]; simp [hj]⟩
      have hok1 : ∀ x ∈ rs1, okRc x := fun x hx => Hok.out x (List.mem_of_mem_drop (by rw [hrs1]; exact hx))
      have ho2 : W2.ownsRow 0 5 1 (.slice (some ⟨gb, 0, none⟩) 256 cb) 256 (cellsB (layB bytes fi (rs1.take 0))) := by simpa [layB, ← hby] using owns_base hob (Nat.zero_le _)
      rw [hby] at hrl1 hrl2 hcb
      have Hby := hide hby
      have Hrs1 := hide hrs1
      have Hrsl := hide hrsl
      have Hrl1 := hide hrl1
      have Hob := hide hob
      have HD2 := hide hD2
      have Hok1 := hide hok1
      clear hread sW sW1 sW2 hby hrs1 hrsl hrl1 hob hD2 hok1 c0 c1 c2
      gi_wp2
      gi_loopw [11] (fun i wr => ∃ k : Nat, k ≤ ma ∧ i = .int .i64 ((fi : Int) + (k : Int)) ∧ wr.ownsRow 0 5 1 (.slice (some ⟨gb, 0, none⟩) 256 cb) 256 (cellsB (layB bytes fi (rs1.take k))) ∧ Keeps (fun b => b = gb) W2 wr) (fun i _ => fi + ma - (intOf i).toNat)
      case atStart => exact ⟨0, Nat.zero_le _, by simp, ho2, Keeps.refl _ _⟩
      case round =>
        obtain ⟨k, hk, rfl, hok, hkk⟩ := hrel
        clear ho2
        by_cases hkm : k < ma
        · obtain ⟨hj, hjk⟩ := hrs1k k hkm
          have hRr : Rs wr Fr (.slice ao L cap) rs := (HRW.out.keeps hkW2 (fun _ _ => id)).keeps hkk (fun b hb e => by have e' : b = gb := e; have := (hFr b hb).1; omega)
          obtain ⟨-, lb, lo, u, rfl, hFb, hat, hub, huF⟩ := hRr.at (tot pre + k) hj
          have hokr := Hok.out _ (List.getElem_mem hj)
          generalize rs[tot pre + k] = x at *
          obtain ⟨uao, ucap, rfl, -⟩ := id hub
          have x0 := hat.c0
          have x1 := hat.c1
          have x2 := hat.c2
          have x3 := hat.c3
          have x4 := hat.c4
          have hbyt := bytes_ok (fi + k) x (by omega) hokr _ wr hub
          rw [show ((fi + k : Nat) : Int) = (fi : Int) + (k : Int) by omega] at hbyt
          have hzr : W2.heap.size ≤ wr.heap.size := hkk.size
          have y1 : Boxed wr (T + 1) 2 (.int .i64 (t : Int)) := (hkk.block _ (by omega) (fun e => by omega)).trans ((hkW2.block _ (by omega) id).trans Hw1'.out)
          have y2 : Boxed wr (T + 1 + 1) 29 (.slice (some ⟨lb, lo, none⟩) L cap) := (hkk.block _ (by omega) (fun e => by omega)).trans ((hkW2.block _ (by omega) id).trans Hw2'.out)
          have y1c := y1.cell
          have y2c := y2.cell
          have hjI : (fi : Int) + (k : Int) - (t : Int) = ((tot pre + k : Nat) : Int) := by have := E1.out; omega
          have hjL : tot pre + k < L := by omega
          generalize tot pre + k = j at *
          have Hat := hide hat
          have Hub := hide hub
          have Hk := hide hok
          have Hkk := hide hkk
          have Hokr := hide hokr
          clear hat hub hok hkk hokr hRr y1 y2
          gi_wp2
          refine ⟨trivial, ((callsIn_wide.2 hbyt).inRound _).mono ?_⟩
          rintro e W4 ⟨v4, rfl, ho4, hB4⟩
          have hs64 := secRc_length (n := fi + k) Hokr.out
          rw [hs64] at ho4
          obtain ⟨g4, c4, ev4, hg4⟩ : ∃ g4 c4, v4 = .slice (some ⟨g4, 0, none⟩) 64 c4 ∧ wr.heap.size ≤ g4 := by
            obtain ⟨ao, cap, e, _, hg⟩ := owns_form ho4
            obtain ⟨gb, rfl, hgb⟩ := hg (by omega)
            exact ⟨gb, cap, e, hgb⟩
          subst ev4
          have hgs := gSector_any gb 0 cb (fi + k) W4 (by have := Hrl1.out; omega) (by omega)
          rw [show ((fi + k : Nat) : Int) = (fi : Int) + (k : Int) by omega] at hgs
          obtain ⟨so, hso⟩ : ∃ so, 0 + (fi + k) % 4 * 64 = so := ⟨_, rfl⟩
          rw [hso] at hgs
          generalize cb - (fi + k) % 4 * 64 = sc at hgs
          have hrow4 := (Keeps.of_below (S := fun _ => False) hB4).owns Hk.out (fun _ _ => id)
          have hsrc := fun j' v' => ho4.cells (g := g4) rfl j' v'
          have hso2 : so + 64 ≤ 256 := by omega
          have Hso := hide hso
          have Ho4 := hide ho4
          have Hs64 := hide hs64
          have Hsrc := hide hsrc
          clear hbyt x0 x1 x2 x3 x4 y1c y2c hso ho4 hs64 hsrc
          gi_wp2
          refine ⟨trivial, ((callsIn_wide.2 hgs).inRound _).mono ?_⟩
          rintro e w' ⟨rfl, rfl⟩
          gi_wp2_with (refine wpListIn_copy_owns rfl (.tmp 54) (.tmp 55) 30 30 rfl 5 Tryz.underlying30 size5 gb so 64 sc ⟨g4, 0, none⟩ 64 c4 rfl rfl 256 cb (cellsB (layB bytes fi (rs1.take k))) hrow4 (cellsB (secRc (fi + k) x)) (by rw [cellsB_length, Hs64.out]; rfl) Hsrc.out (by rw [cellsB_length, Hs64.out]; exact hso2) (cellsB_oneCell _) ?_; intro w5 ho5 hk5)
          refine ⟨⟨k + 1, by omega, by go_num, ?_, ?_⟩, by simp [intOf]; omega⟩
          · rw [List.take_add_one, hjk, Option.toList_some, layB_snoc, List.length_take, show min k rs1.length = k by have := Hrsl.out; omega, ← cellsB_splice, show (fi + k) % 4 * 64 = so by have := Hso.out; omega]
            exact ho5
          · exact Hkk.out.trans ((Keeps.of_below hB4).trans hk5)
        · obtain rfl : k = ma := by omega
          have hzr : W2.heap.size ≤ wr.heap.size := hkk.size
          have hD5 := HD2.out.keeps hkk (fun e => by have e' : g = gb := e; omega) (fun e => by have e' : m = gb := e; omega) (fun b hb e => by have e' : b = gb := e; have := HDW.out.Fl b hb; omega)
          have hbl := layB_length bytes fi (rs1.take k) Hrl1.out (fun x hx => Hok1.out x (List.mem_of_mem_take hx))
          obtain ⟨bb, hbb⟩ : ∃ bb, layB bytes fi (rs1.take k) = bb := ⟨_, rfl⟩
          rw [hbb] at hok hbl
          have hbx : Bs wr (.slice (some ⟨gb, 0, none⟩) 256 cb) bb := Bs.of_owns hok (by
            rw [← hbb]
            exact layB_lt _ _ _ hrl2 (fun x hx => Hok1.out x (List.mem_of_mem_take hx)) (fun x hx => Hlt.out x (List.mem_of_mem_drop (by rw [Hrs1.out]; exact List.mem_of_mem_take hx))))
          obtain ⟨Y, hY⟩ : ∃ Y, writeS s1 n (bk : Int) bb = Y := ⟨_, rfl⟩
          obtain ⟨we, hwe⟩ : ∃ we, Y.2 = we := ⟨_, rfl⟩
          have hwrite : ∀ X1, Below wr.drew.heap.size wr.drew X1 → Calls Tryz.prog 74 #[.pointer (some ⟨g, 0, none⟩), .int .i64 ((base + fi / 4 % blocks : Nat) : Int), .slice (some ⟨gb, 0, none⟩) 256 cb] X1 fun e w' => e = .returned (.int .i64 we) ∧ Turn X1 g m FW n Y.1 w' := by
            intro X1 hB
            have hb0 : Below wr.heap.size wr X1 := (below_drew' wr).trans hB
            have q := write_yes (hD5.mono hb0) (bk : Int) _ bb (hbx.mono hb0) (by omega) (by omega) (by omega)
            rw [hY, hwe] at q
            rw [Hbk.out]
            exact q
          have hT0 := hTW T (Nat.le_refl _) (by omega)
          have z0 := (hkk.block T (by omega) (fun e => by omega)).trans ((hkW2.block T (by omega) id).trans Hw0.out)
          have x0 : wr.cell? ⟨T, 0, none⟩ = some (.pointer (some ⟨g, 0, none⟩)) := by unfold World.cell?; rw [z0]; rfl
          have x1 : wr.cell? ⟨T, 1, none⟩ = some (.int .i64 (base : Int)) := by unfold World.cell?; rw [z0]; rfl
          have x2 : wr.cell? ⟨T, 2, none⟩ = some (.int .i64 (blocks : Int)) := by unfold World.cell?; rw [z0]; rfl
          have hlay : layN n base blocks (f' + 1) s1 fi rs1 = Z := by rw [← Hlay.out, ← E1.out, Hrs1.out]
          have hcm : min rs1.length (4 - fi % 4) = k := by rw [Hrsl.out]; exact E3.out.symm
          have hrpos : 0 < rs1.length := by rw [Hrsl.out]; have := E2.out; omega
          have hbbl : layB (readL s1 (base + fi / 4 % blocks)) fi (rs1.take k) = bb := by rw [Hbk.out, Hby.out]; exact hbb
          have hY' : writeS s1 n ((base + fi / 4 % blocks : Nat) : Int) bb = Y := by rw [Hbk.out]; exact hY
          have Hlay2 := hide hlay
          have Hcm := hide hcm
          have Hbbl := hide hbbl
          have HY := hide hY'
          have Hkk := hide hkk
          have Hwe := hide hwe
          have Hz0 := hide z0
          have HD5 := hide hD5
          have Hbx := hide hbx
          have hgrow := writeS_grows s1 n (bk : Int) bb
          rw [hY] at hgrow
          clear hlay hcm hbbl hY hY' hkk hwe hok hbl hbb z0 hD5 hbx hrs1k
          gi_wp2
          have sX : wr.drew.cell? ⟨T, 0, none⟩ = some (.pointer (some ⟨g, 0, none⟩)) ∧ wr.drew.cell? ⟨T, 1, none⟩ = some (.int .i64 (base : Int)) ∧ wr.drew.cell? ⟨T, 2, none⟩ = some (.int .i64 (blocks : Int)) := ⟨x0, x1, x2⟩
          refine wpIn_region_round (fun w' => w'.cell? ⟨T, 0, none⟩ = some (.pointer (some ⟨g, 0, none⟩)) ∧ w'.cell? ⟨T, 1, none⟩ = some (.int .i64 (base : Int)) ∧ w'.cell? ⟨T, 2, none⟩ = some (.int .i64 (blocks : Int))) (by kernel_rfl) (by kernel_rfl) (fun ⟨a', w', hh⟩ => hh) ?_
          refine wpAnyH_take (i := 0) (oi := { dst := some 57, op := Op.fieldAddr 85 (Operand.tmp 3) 0, type := 0, pos := _, after := #[], guard := none }) (v := .pointer (some ⟨T, 0, none⟩)) rfl (by kernel_rfl) (by kernel_rfl) (by kernel_rfl) (fun _ _ _ h => h) (Or.inl ⟨by rfl, fun w' hw => by obtain ⟨d0, d1, d2⟩ := hw; go_simp⟩) sX ?_
          simp only [Act.put, List.setIfInBounds_toArray, List.set_cons_zero, List.set_cons_succ]
          refine wpAnyH_take (i := 1) (oi := { dst := some 58, op := Op.load 34 (Operand.tmp 57), type := 34, pos := _, after := #[{ on := 0, ground := Ground.data }], guard := none }) (v := .pointer (some ⟨g, 0, none⟩)) rfl (by kernel_rfl) (by kernel_rfl) (by kernel_rfl) (fun _ _ _ h => h) (Or.inl ⟨by rfl, fun w' hw => by obtain ⟨d0, d1, d2⟩ := hw; go_simp⟩) sX ?_
          simp only [Act.put, List.setIfInBounds_toArray, List.set_cons_zero, List.set_cons_succ]
          refine wpAnyH_take (i := 2) (oi := { dst := some 59, op := Op.load 85 (Operand.tmp 3), type := 85, pos := _, after := #[], guard := none }) (v := .agg #[.pointer (some ⟨g, 0, none⟩), .int .i64 (base : Int), .int .i64 (blocks : Int)]) rfl (by kernel_rfl) (by kernel_rfl) (by kernel_rfl) (fun _ _ _ h => h) (Or.inl ⟨by rfl, fun w' hw => by obtain ⟨d0, d1, d2⟩ := hw; go_simp⟩) sX ?_
          simp only [Act.put, List.setIfInBounds_toArray, List.set_cons_zero, List.set_cons_succ]
          refine wpAnyH_take (i := 3) (oi := { dst := some 60, op := Op.move (Operand.tmp 7), type := 2, pos := _, after := #[], guard := none }) (v := .int .i64 (fi : Int)) rfl (by kernel_rfl) (by kernel_rfl) (by kernel_rfl) (fun _ _ _ h => h) (Or.inl ⟨by rfl, fun w' hw => by obtain ⟨d0, d1, d2⟩ := hw; go_simp⟩) sX ?_
          simp only [Act.put, List.setIfInBounds_toArray, List.set_cons_zero, List.set_cons_succ]
          refine wpAnyH_take (i := 5) (oi := { dst := some 62, op := Op.move (Operand.tmp 9), type := 30, pos := _, after := #[], guard := none }) (v := .slice (some ⟨gb, 0, none⟩) 256 cb) rfl (by kernel_rfl) (by kernel_rfl) (by kernel_rfl) (fun _ _ _ h => h) (Or.inl ⟨by rfl, fun w' hw => by obtain ⟨d0, d1, d2⟩ := hw; go_simp⟩) sX ?_
          simp only [Act.put, List.setIfInBounds_toArray, List.set_cons_zero, List.set_cons_succ]
          refine wpAnyH_ready (rs := [4]) (by kernel_rfl) (by simp) ?_
          refine AllReadyH.cons (o := { dst := some 61, op := Op.call { callee := Callee.value (Operand.func 66), args := #[Operand.tmp 59, Operand.tmp 60], argTypes := #[85, 2] }, type := 3, pos := _, after := #[{ on := 2, ground := Ground.data }, { on := 3, ground := Ground.data }], guard := none }) rfl (fun K hK => ?_) AllReadyH.nil
          go_simp
          refine (gBlock_any g base blocks fi _ h1 h2 (by omega) (by omega)).mono ?_
          rintro e X1 ⟨rfl, hX1⟩
          have sX1 : X1.cell? ⟨T, 0, none⟩ = some (.pointer (some ⟨g, 0, none⟩)) ∧ X1.cell? ⟨T, 1, none⟩ = some (.int .i64 (base : Int)) ∧ X1.cell? ⟨T, 2, none⟩ = some (.int .i64 (blocks : Int)) := by
            have kk := Keeps.of_below (S := fun _ => False) hX1
            exact ⟨kk.cell sX.1 id, kk.cell sX.2.1 id, kk.cell sX.2.2 id⟩
          refine hK.out _ _ sX1 (fun _ => ?_)
          clear hK K
          refine wpAnyH_ready (rs := [6]) (by kernel_rfl) (by simp) ?_
          refine AllReadyH.cons (o := { dst := some 63, op := Op.call { callee := Callee.value (Operand.func 74), args := #[Operand.tmp 58, Operand.tmp 61, Operand.tmp 62], argTypes := #[34, 3, 30] }, type := 42, pos := _, after := #[{ on := 1, ground := Ground.data }, { on := 4, ground := Ground.data }, { on := 5, ground := Ground.data }, { on := 4, ground := Ground.chain }], guard := none }) rfl (fun K hK => ?_) AllReadyH.nil
          go_simp
          refine (hwrite X1 hX1).mono ?_
          rintro e X2 ⟨rfl, pX, FX, hDX, hkX, hFX⟩
          have sX2 : X2.cell? ⟨T, 0, none⟩ = some (.pointer (some ⟨g, 0, none⟩)) ∧ X2.cell? ⟨T, 1, none⟩ = some (.int .i64 (base : Int)) ∧ X2.cell? ⟨T, 2, none⟩ = some (.int .i64 (blocks : Int)) :=
            ⟨hkX.cell sX1.1 hT0, hkX.cell sX1.2.1 hT0, hkX.cell sX1.2.2 hT0⟩
          refine hK.out _ _ sX2 (fun _ => ?_)
          clear hK K
          refine wpAnyH_take (i := 7) (oi := { dst := some 14, op := Op.assign (Operand.tmp 63), type := 42, pos := _, after := #[{ on := 6, ground := Ground.data }, { on := 6, ground := Ground.chain }, { on := 0, ground := Ground.phase }, { on := 1, ground := Ground.phase }, { on := 2, ground := Ground.phase }, { on := 3, ground := Ground.phase }, { on := 4, ground := Ground.phase }, { on := 5, ground := Ground.phase }, { on := 6, ground := Ground.phase }], guard := none }) (v := .int .i64 we) rfl (by kernel_rfl) (by kernel_rfl) (by kernel_rfl) (fun _ _ _ h => h) (Or.inl ⟨by rfl, fun w' hw => by obtain ⟨d0, d1, d2⟩ := hw; go_simp⟩) sX2 ?_
          simp only [Act.put, List.setIfInBounds_toArray, List.set_cons_zero, List.set_cons_succ]
          refine wpAnyH_done (by kernel_rfl) ?_ _
          have hkWX : Keeps (fun b => Own g m FW b ∨ b = gb) W X2 := (hkW2.mono (fun _ h => h.elim)).trans ((Hkk.out.mono (fun _ h => .inr h)).trans ((Keeps.drew wr).trans ((Keeps.of_below hX1).trans (hkX.mono (fun _ h => .inl h)))))
          have hzX : wr.heap.size ≤ X1.heap.size := hX1.size
          have hFX' : ∀ b, FX b → F b ∨ V.heap.size + 2 + 0 ≤ b := fun b hb => by
            rcases hFX b hb with h' | h'
            · exact hFW b h'
            · exact .inr (by omega)
          have hKV : Keeps (Own g m F) V X2 := hkW.trans' hkWX (fun b hb => by
            rcases hb with (h' | h' | h') | h'
            · exact .inl (.inl h')
            · exact .inl (.inr (.inl h'))
            · rcases hFW b h' with h' | h'
              · exact .inl (.inr (.inr h'))
              · exact .inr (by omega)
            · exact .inr (by omega))
          have hStill : ∀ b, T + 6 ≤ b → b < T + 8 → X2.heap[b]? = W.heap[b]? := fun b h1 h2 => hkWX.block b (by omega) (fun h' => by
            rcases h' with h' | h'
            · exact hTW b (by omega) h2 h'
            · omega)
          have y3 : Boxed X2 (T + 1 + 1 + 1) 42 (.int .i64 0) := (hkWX.block _ (by omega) (fun h' => by
            rcases h' with h' | h'
            · exact hTW _ (by omega) (by omega) h'
            · omega)).trans Hw3'.out
          have hzWX := hkWX.size
          clear hwrite sX sX1 sX2 x0 x1 x2
          by_cases hw0 : we = 0
          · subst hw0
            gi_wp2
            have hgo := layN_go (f := f') hrpos Hon.out Hcm.out Hbbl.out (by rw [HY.out]; exact Hwe.out)
            rw [HY.out, Hlay2.out] at hgo
            refine ⟨⟨hzWX, fun b h1 h2 => hStill b (by omega) (by omega)⟩, ⟨hzWX, fun b hb => hkWX.block b (by rcases hb with h' | h' <;> omega) (fun h' => ?_)⟩, hKV, Y.1, f', ⟨?_, ?_, ?_, ?_⟩, pX, FX, hDX, hFX'⟩
            · rcases h' with h' | h'
              · rcases hb with hb | hb
                · exact hTW b (by omega) (by omega) h'
                · exact hTW b (by omega) (by omega) h'
              · rcases hb with hb | hb <;> omega
            · rw [tot_snoc, ← List.drop_drop, Hrs1.out, ← Nat.add_assoc, ← E1.out]; exact hgo.symm
            · rw [tot_snoc]; dsimp only; omega
            · rw [tot_snoc]; dsimp only; omega
            · rw [tot_snoc]; dsimp only; omega
          · have hwb : (we != 0) = true := by simpa using hw0
            have d3 := y3.cell
            have d3f := y3.frozen
            gi_wp2
            have herr := layN_err (f := f') hrpos Hon.out Hcm.out Hbbl.out (by rw [HY.out, Hwe.out]; exact hw0)
            rw [HY.out, Hlay2.out] at herr
            have kU := keeps_set X2 (T + 1 + 1 + 1) 0 (.int .i64 we)
            have bU := y3.set (.int .i64 we)
            generalize X2.setCell ⟨T + 1 + 1 + 1, 0, none⟩ (.int .i64 we) = U at *
            refine ⟨⟨Nat.le_trans hzWX kU.size, fun b h1 h2 => (kU.block b (by omega) (fun h' => by omega)).trans (hStill b (by omega) (by omega))⟩, rfl, (hKV.mono (fun k h' => .inl h')).trans (kU.mono (fun k h' => .inr h')), ?_, ?_⟩
            · rw [herr, Hwe.out]; exact bU
            · rw [herr]
              exact ⟨pX, FX, hDX.keeps kU (fun h' => by have e : g = T + 1 + 1 + 1 := h'; omega) (fun h' => by have e : m = T + 1 + 1 + 1 := h'; omega) (fun k hk h' => by
                have e : k = T + 1 + 1 + 1 := h'
                rcases hFX' k hk with h' | h'
                · have := hFl k h'; omega
                · omega), fun k hk => (hFX' k hk).imp id (by omega)⟩
  case done =>
    rintro xs U htot ⟨hkU, s1, f, ⟨hlay, hf, hp1, ho1⟩, pU, FU, hDU, hFU⟩ hsU hK
    have hTown : ∀ k, T ≤ k → ¬ Own g m F k := fun k hk hh => by rcases hh with hh | hh | hh; omega; omega; have := hFl k hh; omega
    have q3 : Boxed U (T + 1 + 1 + 1) 42 (.int .i64 0) := (hkU.block _ (by omega) (hTown _ (by omega))).trans v3
    have c3 := q3.cell
    have f3 := q3.frozen
    have hZ : Z = (s1, 0) := by rw [← hlay]; exact layN_nil (by rw [List.length_drop, HL.out]; omega)
    have Hlay := hide hlay
    have HZ2 := hide hZ
    have HDU := hide hDU
    have HzV := hide hzV
    clear hseq hlay hZ hDU
    gi_wp2
    have kC := keeps_set U (T + 1 + 1 + 1) 0 (.int .i64 0)
    have bU := q3.set (.int .i64 0)
    generalize U.setCell ⟨T + 1 + 1 + 1, 0, none⟩ (.int .i64 0) = U3 at *
    have hK4 : U3.heap[V.heap.size]? = some (.deferred (some [])) := (kC.block V.heap.size (by omega) (fun h' => by have e : V.heap.size = T + 1 + 1 + 1 := h'; omega)).trans hK
    refine ⟨by simp, .inl ⟨_, _, rfl, run_takeDeferred hK4, ?_⟩⟩
    have bY := (World.putObj_heap_other (w := U3) (r := V.heap.size) (o := .deferred none) (k := T + 1 + 1 + 1) (by omega)).trans bU
    have kP := keeps_put U3 V.heap.size (.deferred none)
    refine ⟨_, results_cell1 rfl _ _ _ _ rfl (isAgg42 _) (Boxed.cell bY), by rw [HZ2.out], pU, FU, ?_, ?_, ?_⟩
    · rw [HZ2.out]
      refine (HDU.out.keeps kC (fun h' => by have e : g = T + 1 + 1 + 1 := h'; omega) (fun h' => by have e : m = T + 1 + 1 + 1 := h'; omega) (fun k hk h' => ?_)).keeps kP (fun h' => by have e : g = V.heap.size := h'; omega) (fun h' => by have e : m = V.heap.size := h'; omega) (fun k hk h' => ?_)
      · have e : k = T + 1 + 1 + 1 := h'
        rcases hFU k hk with h' | h'
        · have := hFl k h'; omega
        · omega
      · have e : k = V.heap.size := h'
        rcases hFU k hk with h' | h'
        · have := hFl k h'; omega
        · omega
    · have k1 : Keeps (Own g m F) w U := (Keeps.of_below hwV).trans hkU
      exact (k1.trans' kC (fun k h' => .inr (by have e : k = T + 1 + 1 + 1 := h'; omega))).trans' kP (fun k h' => .inr (by have e : k = V.heap.size := h'; omega))
    · intro k hk
      rcases hFU k hk with h' | h'
      · exact .inl h'
      · exact .inr (by omega)
  case stop =>
    rintro code pre U hSp ⟨rfl, hkU, b3U, pU, FU, hDU, hFU⟩ hsU hK
    have HDU := hide hDU
    have HzV := hide hzV
    clear hseq hDU
    gi_wp2
    refine ⟨by simp, .inl ⟨_, _, rfl, run_takeDeferred hK, ?_⟩⟩
    have bY := (World.putObj_heap_other (w := U) (r := V.heap.size) (o := .deferred none) (k := T + 1 + 1 + 1) (by omega)).trans b3U
    have kP := keeps_put U V.heap.size (.deferred none)
    refine ⟨_, results_cell1 rfl _ _ _ _ rfl (isAgg42 _) (Boxed.cell bY), rfl, pU, FU, ?_, ?_, ?_⟩
    · refine HDU.out.keeps kP (fun h' => by have e : g = V.heap.size := h'; omega) (fun h' => by have e : m = V.heap.size := h'; omega) (fun k hk h' => ?_)
      have e : k = V.heap.size := h'
      rcases hFU k hk with h' | h'
      · have := hFl k h'; omega
      · omega
    · have k1 : Keeps (Own g m F) w U := (Keeps.of_below hwV).trans' hkU (fun k h' => h'.imp id (fun h' => by omega))
      exact k1.trans' kP (fun k h' => .inr (by have e : k = V.heap.size := h'; omega))
    · intro k hk
      rcases hFU k hk with h' | h'
      · exact .inl h'
      · exact .inr (by omega)


end Go.Proofs.YtjhbljkoapbkfaaGreat
