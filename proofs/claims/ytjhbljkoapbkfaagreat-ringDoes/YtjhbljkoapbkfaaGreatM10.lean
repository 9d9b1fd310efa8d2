/- The law of a loop over an iterator whose round begins by laying a block of its own. Nothing here speaks of one program. Contract: Read. Records as plain data; what stands in a sector; a log read and written, as plain lists. No function of the program is called here. -/
import Derived.Test.YtjhbljkoapbkfaaGreatM9
import Derived.Maps.AppendAt
import Derived.Test.YtjhbljkoapbkfaaGreatM6
set_option linter.unusedVariables false
set_option linter.unusedSimpArgs false

namespace Go.Attic
open Go.RowKit

/-- One round, from the walk of its body: whichever way that is left, the record was busy there, and R holds of what is answered and of the world in which the record says so. -/
theorem yield_of2 {n : Nat} {P : Program} {l D : Nat} {fn : FuncId} {tmps : Array Value} {ps : Array Tmp} {assign body : Code} {args : Array Value} {W W2 : World} {a₁ : Act} {R : Ending → World → Prop} {Post : Exit → Act → World → Prop}
    (hl : W.heap[l]? = some (.loop (loopIs fn tmps ps assign body D .ready none))) (hl2 : W2.heap[l]? = some (.loop (loopIs fn tmps ps assign body D .ready none))) (hs : args.size = ps.size)
    (hassign : ∀ T : Act → World → Prop, T a₁ W2 → assign.wpIn (Fence.wide.inRound l) n P (Exit.then T (fun _ _ _ => False)) { tmps := (ps.zip args).foldl (fun t (p, v) => t.setIfInBounds p v) tmps, defers := [] } W)
    (hbody : body.wpIn (Fence.wide.inRound l) n P Post a₁ (W2.putObj l (.loop (loopIs fn tmps ps assign body D .busy none))))
    (hpost : ∀ e a U, Post e a U → ∃ j, jumpOf e = some j ∧ U.heap[l]? = some (.loop (loopIs fn tmps ps assign body D .busy none)) ∧
      R (.returned (.bool j.isNone)) (U.putObj l (.loop (loopIs fn tmps ps assign body D (if j.isNone then .ready else .done) j)))) :
    YieldAt Fence.wide 0 P l args W R := by
  have begin := run_beginRound (P := P) hl2 rfl
  refine ⟨fn, _, assign, body, run_yield hl hs, roundIn_any (m := n) (roundIn_of_wpIn trivial (hassign _ ⟨_, begin, wpIn_mono hbody ?_⟩))⟩
  intro e a U hU
  obtain ⟨j, hj, hb, hR⟩ := hpost e a U hU
  have ending := run_endRound (P := P) j hb
  cases e <;> simp only [jumpOf, Option.some.injEq, reduceCtorEq] at hj
  all_goals
    subst hj
    exact ⟨_, _, ending, hR⟩

/-- One loop over such an iterator, at a function's top. -/
theorem range_law2 {α : Type} {n : Nat} {P : Program} {g : Operand} {ps : Array Tmp} {assign body : Code} {Q : Exit → Act → World → Prop} {a : Act} {w : World}
    {gf : Nat} {lb : Array Value} (hg : a.eval g = .func (.func gf) #[] lb) (eg : ∀ args w, (callFunc gf args).run P w = .ok (.enter gf args) w)
    {encs : α → Array Value} {K : Nat → Prop} {c : Nat} {S Sp : List α → Prop} {w0 : World} (hseq : SeqP P gf lb encs K c S Sp w0) (hb0 : Below w0.heap.size w0 w) (hKw : ∀ k, K k → k < w.heap.size) (hps : ∀ x, (encs x).size = ps.size)
    (I : List α → World → Prop) (Ix : Code → List α → World → Prop) (hI : Stands w.heap.size (w.heap.size + 2 + c) I) (hIx : ∀ code, Stands w.heap.size (w.heap.size + 2 + c) (Ix code)) (h0 : I [] w) (a₁ : α → World → Act) (aw : α → World → World) (haw : ∀ x W, Below W.heap.size W (aw x W))
    (hassign : ∀ (l : Nat) (x : α) (W : World) (T : Act → World → Prop), T (a₁ x W) (aw x W) →
      assign.wpIn (Fence.wide.inRound l) n P (Exit.then T (fun _ _ _ => False)) { tmps := (ps.zip (encs x)).foldl (fun t (p, v) => t.setIfInBounds p v) a.tmps, defers := [] } W)
    (hbody : ∀ (pre : List α) (x : α) (U W : World), Sp (pre ++ [x]) → I pre W → w.heap.size + 2 + c ≤ U.heap.size → (∃ r, W.heap[w.heap.size + 1]? = some (.loop r)) → W.heap.size = (aw x U).heap.size → (∀ k, k ≠ w.heap.size + 1 → W.heap[k]? = (aw x U).heap[k]?) →
      body.wpIn (Fence.wide.inRound (w.heap.size + 1)) n P (RoundPost K w.heap.size (w.heap.size + 2 + c) I Ix (pre ++ [x]) W) (a₁ x U) W)
    (hdone : ∀ (xs : List α) (W : World), S xs → I xs W → w.heap.size + 2 ≤ W.heap.size → W.heap[w.heap.size]? = some (.deferred (some [])) → Q .normal { a with defers := { target := .collected w.heap.size, args := #[] } :: a.defers } W)
    (hstop : ∀ (code : Code) (pre : List α) (W : World), Sp pre → Ix code pre W → w.heap.size + 2 ≤ W.heap.size → W.heap[w.heap.size]? = some (.deferred (some [])) → code.wpIn Fence.wide n P Q { a with defers := { target := .collected w.heap.size, args := #[] } :: a.defers } W) :
    (Code.rangeFunc g ps assign body).wpIn Fence.wide n P Q a w := by
  refine wpIn_rangeFunc fun fn _ => ?_
  obtain ⟨D, hD⟩ : ∃ D, w.heap.size = D := ⟨_, rfl⟩
  obtain ⟨mk, hmk⟩ : ∃ mk, loopIs fn a.tmps ps assign body w.heap.size = mk := ⟨_, rfl⟩
  have henter := run_enterLoop_outer (P := P) (w := w) fn a.tmps ps assign body
  obtain ⟨V, hV⟩ : ∃ V, (w.alloc (.deferred (some []))).alloc (.loop (mk .ready none)) = V := ⟨_, rfl⟩
  have eD : V.heap[D]? = some (.deferred (some [])) := by
    rw [← hV, ← hD, Below.heap_alloc _ _ _ (by simp)]; exact World.alloc_heap_new w _
  have eL : V.heap[D + 1]? = some (.loop (mk .ready none)) := by
    have h := World.alloc_heap_new (w.alloc (.deferred (some []))) (.loop (mk .ready none))
    rw [World.size_alloc, hV, hD] at h; exact h
  have eV : V.heap.size = D + 2 := by rw [← hV, ← hD]; simp
  have bV : Below w0.heap.size w0 V := by
    have h := ((Below.refl w0.heap.size w).alloc hb0.size (.deferred (some []))).alloc (by have := hb0.size; simp; omega) (.loop (mk .ready none))
    rw [hV] at h; exact hb0.trans h
  have iV : I [] V := by rw [← hV]; exact hI.alloc (hI.alloc h0 _) _
  rw [hD] at hI hIx hKw hbody hdone hstop
  -- what the law keeps beside I: the record and the block for deferred calls
  let J : List α → World → Prop := fun pre U => I pre U ∧ (U.heap[D + 1]? = some (.loop (mk .ready none)) ∧ U.heap[D]? = some (.deferred (some [])))
  let Jx : List α → World → Prop := fun pre U => ∃ code, Ix code pre U ∧ (U.heap[D + 1]? = some (.loop (mk .done (some code))) ∧ U.heap[D]? = some (.deferred (some [])))
  have fixed : ∀ (k : Nat) (o : Obj), k < V.heap.size → Stands (β := List α) V.heap.size (V.heap.size + c) (fun _ U => U.heap[k]? = some o) := by
    intro k o hk _ A B row hs hg hm
    refine (hg.block k (Array.getElem?_eq_some_iff.1 hs).1 (fun e => ?_)).trans hs
    have := (hm k e.symm).1
    omega
  have sJ : Stands V.heap.size (V.heap.size + c) J := Stands.and (hI.mono (by omega) (by omega)) (Stands.and (fixed _ _ (by omega)) (fixed _ _ (by omega)))
  have sJx : Stands V.heap.size (V.heap.size + c) Jx := Stands.ex fun code => Stands.and ((hIx code).mono (by omega) (by omega)) (Stands.and (fixed _ _ (by omega)) (fixed _ _ (by omega)))
  have hK' : ¬ K (D + 1) := fun hk => by have := hKw _ hk; omega
  refine ⟨D + 1, [{ target := .collected D, args := #[] }], V, { target := .fn (.func gf) lb, args := #[.func (.yield (D + 1)) #[] #[]] }, V, gf, _, V, ?_, ?_, fun _ _ => trivial, ?_, (fun h => by simp [Fence.wide] at h),
    callsIn_wide.2 ((hseq (D + 1) J Jx V bV sJ sJx ?_ ⟨iV, eL, eD⟩).mono ?_)⟩
  · rw [← hV, ← hmk, ← hD]; exact henter
  · simp only [resolve, hg]
    simp [go_sem]
  · simp [invoke, go_sem, eg]
  · -- one round
    rintro pre x U hSp ⟨hi, hl, hk⟩ hsU
    rw [eV] at hsU ⊢
    have hl' := hl
    rw [← hmk] at hl'
    have hbw := haw x U
    have hzw := hbw.size
    have hl2 : (aw x U).heap[D + 1]? = some (.loop (mk .ready none)) := (hbw.block _ (Array.getElem?_eq_some_iff.1 hl).1).trans hl
    have hl2' := hl2
    rw [← hmk] at hl2'
    have hi2 : I pre (aw x U) := hI pre U _ none hi ⟨hbw.os, hbw.tape, hbw.output, hbw.size, fun k hk _ => hbw.block k hk⟩ (fun r e => by cases e)
    have put1 : ∀ (A : World) (o : Obj) (k : Nat), k ≠ D + 1 → (A.putObj (D + 1) o).heap[k]? = A.heap[k]? := fun A o k h => World.putObj_heap_other h
    have busy : ((aw x U).putObj (D + 1) (.loop (mk .busy none))).heap[D + 1]? = some (.loop (mk .busy none)) := World.putObj_heap_same (Array.getElem?_eq_some_iff.1 hl2).1
    refine yield_of2 hl' hl2' (hps x) (hassign _ x U) (by rw [hmk]; exact hbody pre x U _ hSp (hI.put hi2 (by omega) (by omega) _) (by omega) ⟨_, busy⟩ World.putObj_size (fun k hk => put1 _ _ k hk)) ?_
    rw [hmk]
    have turn : ∀ (j : Option Code) (X : World), Still D (D + 2 + c) ((aw x U).putObj (D + 1) (.loop (mk .busy none))) X →
        X.heap[D + 1]? = some (.loop (mk .busy none)) ∧ Still (D + 2) (D + 2 + c) U (X.putObj (D + 1) (.loop (mk (if j.isNone then .ready else .done) j))) ∧
        (X.putObj (D + 1) (.loop (mk (if j.isNone then .ready else .done) j))).heap[D + 1]? = some (.loop (mk (if j.isNone then .ready else .done) j)) ∧
        (X.putObj (D + 1) (.loop (mk (if j.isNone then .ready else .done) j))).heap[D]? = some (.deferred (some [])) := by
      intro j X hX
      have hx := (hX.same (D + 1) (by omega) (by omega)).trans busy
      have z := hX.size
      rw [World.putObj_size] at z
      refine ⟨hx, ⟨by rw [World.putObj_size]; omega, fun k h1 h2 => ?_⟩, World.putObj_heap_same (Array.getElem?_eq_some_iff.1 hx).1, ?_⟩
      · rw [put1 _ _ k (by omega), hX.same k (by omega) (by omega), put1 _ _ k (by omega), hbw.block k (by omega)]
      · rw [put1 _ _ D (by omega), hX.same D (by omega) (by omega), put1 _ _ D (by omega), hbw.block D (by omega)]; exact hk
    intro e a' X hp
    cases e with
    | normal =>
      obtain ⟨hX, hKX, hiX⟩ := hp
      obtain ⟨t1, t2, t3, t4⟩ := turn none X hX
      exact ⟨none, rfl, t1, t2, .inl ⟨rfl, ⟨hI.put hiX (by omega) (by omega) _, t3, t4⟩, ((KeepS.below hbw (fun k hk => by have := hKw _ hk; omega)).trans ((KeepS.put hK' _).trans hKX)).trans (KeepS.put hK' _)⟩⟩
    | ret =>
      obtain ⟨t1, t2, t3, t4⟩ := turn (some .ret) X hp.1
      exact ⟨_, rfl, t1, t2, .inr ⟨rfl, _, (hIx _).put hp.2 (by omega) (by omega) _, t3, t4⟩⟩
    | exit id =>
      obtain ⟨t1, t2, t3, t4⟩ := turn (some (.exit id)) X hp.1
      exact ⟨_, rfl, t1, t2, .inr ⟨rfl, _, (hIx _).put hp.2 (by omega) (by omega) _, t3, t4⟩⟩
    | goto t =>
      obtain ⟨t1, t2, t3, t4⟩ := turn (some (.goto t)) X hp.1
      exact ⟨_, rfl, t1, t2, .inr ⟨rfl, _, (hIx _).put hp.2 (by omega) (by omega) _, t3, t4⟩⟩
    | panic _ => exact hp.elim
    | outgrown => exact hp.elim
  · -- behind the iterator
    rintro e X ⟨⟨v, rfl⟩, h⟩
    have out : ∀ (pe : Option Code) (st : LoopState), st ≠ .busy → X.heap[D + 1]? = some (.loop (mk st pe)) → ∃ o, (Instr.endLoop (D + 1)).run P X = .ok pe (X.putObj (D + 1) o) := by
      intro pe st hst hx
      rw [← hmk] at hx
      exact ⟨_, run_endLoop hx hst⟩
    have at0 : ∀ o, X.heap[D]? = some (.deferred (some [])) → (X.putObj (D + 1) o).heap[D]? = some (.deferred (some [])) := fun o h => (World.putObj_heap_other (by omega)).trans h
    have big : ∀ (o o' : Obj), X.heap[D + 1]? = some o → D + 2 ≤ (X.putObj (D + 1) o').heap.size := fun o o' h => by have := (Array.getElem?_eq_some_iff.1 h).1; rw [World.putObj_size]; omega
    rcases h with ⟨xs, hS, hi, hl, hk⟩ | ⟨pre, hSp, code, hi, hl, hk⟩
    · obtain ⟨o, ho⟩ := out none .ready (by simp) hl
      exact ⟨none, _, ho, hdone xs _ hS (hI.put hi (by omega) (by omega) _) (big _ _ hl) (at0 _ hk)⟩
    · obtain ⟨o, ho⟩ := out (some code) .done (by simp) hl
      exact ⟨some code, _, ho, hstop code pre _ hSp ((hIx code).put hi (by omega) (by omega) _) (big _ _ hl) (at0 _ hk)⟩

end Go.Attic

namespace Go.Proofs.YtjhbljkoapbkfaaGreat
open Go.RowKit Go.Attic Go.Shelf
attribute [local go_sem] Oper.semAt_some

theorem lastW_append (ps : List (Nat × List Nat)) (x : Nat × List Nat) (i : Nat) : lastW (ps ++ [x]) i = if x.1 = i then some x.2 else lastW ps i := by
  induction ps with
  | nil => simp [lastW]
  | cons y ps ih =>
    simp only [List.cons_append, lastW, ih]
    by_cases h : x.1 = i
    · simp [h]
    · simp [h]

theorem lastW_none {ps : List (Nat × List Nat)} {i : Nat} (h : ∀ j, (hj : j < ps.length) → (ps[j]).1 ≠ i) : lastW ps i = none := by
  induction ps with
  | nil => rfl
  | cons y ps ih =>
    have h1 := ih (fun j hj => by have := h (j + 1) (by simpa using hj); simpa using this)
    have h2 := h 0 (by simp)
    simp only [lastW, h1]
    simpa using h2

theorem lastW_at {ps : List (Nat × List Nat)} {i j : Nat} (hj : j < ps.length) (he : (ps[j]).1 = i) (hn : ∀ k, j < k → (hk : k < ps.length) → (ps[k]).1 ≠ i) : lastW ps i = some (ps[j]).2 := by
  induction ps generalizing j with
  | nil => simp at hj
  | cons y ps ih =>
    cases j with
    | zero =>
      have h1 : lastW ps i = none := lastW_none (fun k hk => by have := hn (k + 1) (by omega) (by simpa using hk); simpa using this)
      simp only [lastW, h1]
      simp at he
      simp [he]
    | succ j =>
      have h1 := ih (j := j) (by simpa using hj) (by simpa using he) (fun k hk hk' => by have := hn (k + 1) (by omega) (by simpa using hk'); simpa using this)
      simp only [lastW, h1, List.getElem_cons_succ]

theorem results_cell2 {P : Program} {fn : Func} {p u : Tmp} {ty ty' : TypeId} (h : fn.results = #[.cell p ty, .cell u ty']) (tmps : Array Value) (w : World) (a1 a2 : Addr) (v1 v2 : Value) (h1 : tmps.getD p undef = .pointer (some a1)) (h2 : tmps.getD u undef = .pointer (some a2))
    (g1 : (isAgg ty).run P w = .ok false w) (g2 : (isAgg ty').run P w = .ok false w) (c1 : w.cell? a1 = some v1) (c2 : w.cell? a2 = some v2) : (results fn tmps).run P w = .ok (.tuple #[v1, v2]) w := by
  simp only [results, h]
  simp only [Array.getD_eq_getD_getElem?] at h1 h2
  simp [Sem.run_bind, Result.andThen, h1, h2, asAddr, loadVar, g1, g2, c1, c2]

theorem isAgg30 (w : World) : (isAgg 30).run Tryz.prog w = .ok false w := by
  simp [isAgg, run_underlying Tryz.underlying30]
theorem isAgg42 (w : World) : (isAgg 42).run Tryz.prog w = .ok false w := by
  simp [isAgg, run_underlying Tryz.underlying42]

set_option maxRecDepth 100000 in
set_option maxHeartbeats 1000000 in
theorem read_yes {w : World} {g m : Nat} {p : Option Nat} {F : Nat → Prop} {n : Nat} {s : St} (h : Dk w g m p F n s) (i : Int) (hpl : s.pend.length ≤ 1000000) :
    Calls Tryz.prog 65 #[.pointer (some ⟨g, 0, none⟩), .int .i64 i] w fun e w' => ∃ v, e = .returned (.tuple #[v, .int .i64 (readS s n i).2]) ∧ w'.ownsRow w.heap.size 5 1 v (readS s n i).1.length (cellsB (readS s n i).1) ∧ Below w.heap.size w w' := by
  obtain ⟨w1, hw1⟩ : ∃ w1, ((w.alloc (.cells #[.int .i64 i] 3)).alloc (.cells #[.slice none 0 0] 30)).alloc (.cells #[.int .i64 0] 42) = w1 := ⟨_, rfl⟩
  have hb1 : Below w.heap.size w w1 := by rw [← hw1]; exact (((Below.refl _ w).alloc (Nat.le_refl _) _).alloc (by simp) _).alloc (by simp; omega) _
  have hz1 : w1.heap.size = w.heap.size + 3 := by rw [← hw1]; simp
  have b0 : Boxed w1 w.heap.size 3 (.int .i64 i) := by rw [← hw1]; exact ((Boxed.new w 3 _).alloc _).alloc _
  have b1 : Boxed w1 (w.heap.size + 1) 30 (.slice none 0 0) := by
    rw [← hw1]
    have := (Boxed.new (w.alloc (.cells #[.int .i64 i] 3)) 30 (.slice none 0 0)).alloc (.cells #[.int .i64 0] 42)
    simpa using this
  have b2 : Boxed w1 (w.heap.size + 1 + 1) 42 (.int .i64 0) := by
    rw [← hw1]
    have := Boxed.new ((w.alloc (.cells #[.int .i64 i] 3)).alloc (.cells #[.slice none 0 0] 30)) 42 (.int .i64 0)
    simpa using this
  have h1 := h.mono hb1
  have hf := findable_yes i h1
  have c0 := b0.cell
  refine (callsIn_wide (n := 3)).1 ?_
  refine callsIn_of_wp_marks Tryz.func65 rfl trivial ?_ rfl
  simp only [Tryz.ntmps65, List.size_toArray, List.length_cons, List.length_nil, Nat.reduceAdd, Nat.reduceSub, Array.replicate_succ, Array.replicate_zero, List.push_toArray, List.append_toArray, List.nil_append, List.cons_append]
  rcases findS_cases s n i with ⟨hon, he⟩ | ⟨hon, hin, he⟩ | ⟨hon, hin, he, k, rfl, hk⟩
  · have e : readS s n i = ([], 5) := by simp [readS, hon]
    rw [e]; clear e
    rw [he] at hf
    have c1 := b1.cell
    have f1 := b1.frozen
    have c2 := b2.cell
    have f2 := b2.frozen
    gi_wp2
    refine ⟨trivial, (callsIn_wide.2 hf).mono ?_⟩
    rintro e w' ⟨rfl, rfl⟩
    gi_wp2
    refine ⟨_, results_cell2 rfl _ _ _ _ _ _ rfl rfl (isAgg30 _) (isAgg42 _) ((b1.set _).other (by omega) _).cell ((b2.other (by omega) _).set _).cell, _, rfl, World.ownsRow_nil _ _ _ _, (hb1.setCell (p := ⟨w.heap.size + 1, 0, none⟩) (by simp) _).setCell (p := ⟨w.heap.size + 1 + 1, 0, none⟩) (by simp; omega) _⟩
  · have e : readS s n i = ([], 30) := by simp [readS, hon, hin]
    rw [e]; clear e
    rw [he] at hf
    have c1 := b1.cell
    have f1 := b1.frozen
    have c2 := b2.cell
    have f2 := b2.frozen
    gi_wp2
    refine ⟨trivial, (callsIn_wide.2 hf).mono ?_⟩
    rintro e w' ⟨rfl, rfl⟩
    gi_wp2
    refine ⟨_, results_cell2 rfl _ _ _ _ _ _ rfl rfl (isAgg30 _) (isAgg42 _) ((b1.set _).other (by omega) _).cell ((b2.other (by omega) _).set _).cell, _, rfl, World.ownsRow_nil _ _ _ _, (hb1.setCell (p := ⟨w.heap.size + 1, 0, none⟩) (by simp) _).setCell (p := ⟨w.heap.size + 1 + 1, 0, none⟩) (by simp; omega) _⟩
  · have e : readS s n (k : Int) = (readL s k, 0) := by simp [readS, hon, hin]
    obtain ⟨rl, hrl⟩ : ∃ rl, readL s k = rl := ⟨_, rfl⟩
    rw [e, hrl]; clear e
    have Hrl := hide hrl
    clear hrl
    rw [he] at hf
    clear hon hin he
    obtain ⟨pv, vs, cp, hW⟩ := h1.c1
    obtain ⟨pao, pcap, rfl⟩ := owns_slice hW.row
    have HW := hide hW
    have H1 := hide h1
    clear hW h1 h
    gi_wp2
    refine ⟨trivial, (callsIn_wide.2 hf).mono ?_⟩
    rintro e w' ⟨rfl, rfl⟩
    gi_wp2
    refine ⟨trivial, (callsIn_wide.2 (backward_any _ _ ⟨_, _, _, rfl⟩)).mono ?_⟩
    rintro e w' ⟨rfl, rfl⟩
    gi_wp2
    have bV := Boxed.new w1 73 (.slice pao s.pend.length pcap)
    have kV : Below w1.heap.size w1 (w1.alloc (.cells #[.slice pao s.pend.length pcap] 73)) := (Below.refl _ _).alloc (Nat.le_refl _) _
    have hzV : (w1.alloc (.cells #[.slice pao s.pend.length pcap] 73)).heap.size = w.heap.size + 4 := by simp [hz1]
    obtain ⟨V, hV⟩ : ∃ V, w1.alloc (.cells #[.slice pao s.pend.length pcap] 73) = V := ⟨_, rfl⟩
    rw [hV] at bV kV hzV ⊢
    rw [hz1] at bV
    have HV := hide hV
    clear hV
    have hDV := H1.out.mono kV
    have hWV : Ws 131 V p F (.slice pao s.pend.length pcap) s.pend vs := HW.out.keeps (Keeps.of_below (S := fun _ => False) kV) (fun _ _ => id)
    have hseq := backward1_any (fun k => k < V.heap.size) s.pend vs _ _ V bV hWV.row hWV.len (fun u hu => by
      obtain ⟨j, hj, rfl⟩ := List.getElem_of_mem hu
      obtain ⟨ao, cap, e, _⟩ := (hWV.bs j (by have := hWV.len; omega) hj).1
      exact ⟨ao, _, cap, e⟩) hpl (by omega) (fun b hb => by have := H1.out.Fl b (hWV.pF b (hWV.own ▸ hb)); omega)
    refine range_law2 (n := 3) (gf := 93) (lb := #[.pointer (some ⟨w.heap.size + 3, 0, none⟩)]) rfl (enters_of Tryz.func93 (by kernel_rfl) rfl) hseq (Below.refl _ _) (fun k hk => hk) (fun _ => rfl)
      (fun pre U => (∀ j ∈ pre, (s.pend.getD j (0, [])).1 ≠ k) ∧ Below V.heap.size V U)
      (fun code pre U => code = .ret ∧ ((∃ l, lastW s.pend k = some l ∧ ∃ v, Boxed U (w.heap.size + 1) 30 v ∧ U.ownsRow (V.heap.size + 2 + 0) 5 1 v l.length (cellsB l)) ∧ (Boxed U (w.heap.size + 1 + 1) 42 (.int .i64 0) ∧ Below w.heap.size w U)))
      (Stands.and (Stands.pure _ _ _) (stands_below _ _ (Nat.le_refl _) (Nat.le_refl _)))
      (fun code => Stands.and (Stands.pure _ _ _) (Stands.and (Stands.ex fun l => Stands.and (Stands.pure _ _ _) (Stands.ex fun v => Stands.and (stands_boxed _ _ _ (.inl (by omega))) (stands_owns _ _ _ _ _ _ (Nat.le_refl _)))) (Stands.and (stands_boxed _ _ _ (.inl (by omega))) (stands_below _ _ (Nat.le_refl _) (by omega)))))
      ⟨by simp, Below.refl _ _⟩
      (fun x U => { tmps := #[.pointer (some ⟨g, 0, none⟩), .int .i64 (k : Int), undef, .pointer (some ⟨w.heap.size, 0, none⟩), .pointer (some ⟨w.heap.size + 1, 0, none⟩), .pointer (some ⟨w.heap.size + 1 + 1, 0, none⟩), .int .i64 0, undef, .pointer (some ⟨U.heap.size, 0, none⟩), .pointer (some ⟨g, 0, none⟩), .int .i64 (k : Int), .int .i64 0, .int .i64 0, .bool false, undef, .pointer (some ⟨g, 0, none⟩), .pointer (some ⟨g, 0, none⟩), .pointer (some ⟨g, 1, none⟩), .slice pao s.pend.length pcap, .func (.func 93) #[] #[.pointer (some ⟨w.heap.size + 3, 0, none⟩)], .int .i64 (x : Int), wAt s.pend vs x, undef, undef, undef, undef, undef, undef, undef, undef, undef, undef, undef], defers := [] })
      (fun x U => U.alloc (.cells #[.int .i64 ((s.pend.getD x (0, [])).1 : Int), vs.getD x (.slice none 0 0)] 131)) (fun x U => (Below.refl _ _).alloc (Nat.le_refl _) _)
      ?assign ?body ?done ?stop
    case assign =>
      intro l' x U T hT
      obtain ⟨ao, mm, cc, e⟩ : ∃ ao mm cc, vs.getD x (.slice none 0 0) = .slice ao mm cc := by
        by_cases hx : x < vs.length
        · obtain ⟨ao, cap, e, _⟩ := (hWV.bs x (by have := hWV.len; omega) hx).1
          exact ⟨ao, _, cap, by rw [← e]; simp [List.getD_eq_getElem?_getD, hx]⟩
        · exact ⟨none, 0, 0, by simp [List.getD_eq_getElem?_getD, List.getElem?_eq_none (show vs.length ≤ x by omega)]⟩
      simp only [wAt, e] at hT ⊢
      generalize (s.pend.getD x (0, [])).1 = blk at *
      clear hseq hWV hDV e
      gi_wp2
      exact hT
    case body =>
      rintro pre x U W hSp ⟨hpre, hbW⟩ hsU ⟨r, hr⟩ hzW hcW
      have hx : x < s.pend.length := by
        have := hSp.subset (show x ∈ pre ++ [x] by simp)
        simpa using this
      have hxv : x < vs.length := by have := hWV.len; omega
      obtain ⟨hbx, hFx⟩ := hWV.bs x hx hxv
      have hbox : W.heap[U.heap.size]? = some (.cells #[.int .i64 ((s.pend[x]).1 : Int), vs[x]] 131 (0, 0)) := by
        rw [hcW _ (by omega), World.alloc_heap_new]
        simp [List.getD_eq_getElem?_getD, hx, hxv]
      have cb0 : W.cell? ⟨U.heap.size, 0, none⟩ = some (.int .i64 ((s.pend[x]).1 : Int)) := by simp [World.cell?, hbox]
      have cb1 : W.cell? ⟨U.heap.size, 1, none⟩ = some vs[x] := by simp [World.cell?, hbox]
      have hlast := fun (he : (s.pend[x]).1 = k) (hn : ∀ j, x < j → (hj : j < s.pend.length) → (s.pend[j]).1 ≠ k) => lastW_at hx he hn
      have hnext : ∀ j, x < j → (hj : j < s.pend.length) → j ∈ pre := by
        intro j hxj hj
        obtain ⟨t, ht⟩ := hSp
        have h1 : j ∈ (List.range s.pend.length).reverse := by simpa using hj
        rw [← ht] at h1
        simp only [List.append_assoc, List.mem_append, List.mem_singleton, List.cons_append, List.nil_append, List.mem_cons] at h1
        rcases h1 with h1 | h1 | h1
        · exact h1
        · omega
        · exfalso
          have hs : ((List.range s.pend.length).reverse).Pairwise (· > ·) := by
            rw [List.pairwise_reverse]; exact List.pairwise_lt_range
          rw [← ht, List.append_assoc, List.pairwise_append] at hs
          have := (List.pairwise_cons.1 hs.2.1).1 j h1
          omega
      have b0W : Boxed W w.heap.size 3 (.int .i64 (k : Int)) := (hbW.block _ (by omega)).trans ((kV.block _ (by omega)).trans b0)
      have b1W : Boxed W (w.heap.size + 1) 30 (.slice none 0 0) := (hbW.block _ (by omega)).trans ((kV.block _ (by omega)).trans b1)
      have b2W : Boxed W (w.heap.size + 1 + 1) 42 (.int .i64 0) := (hbW.block _ (by omega)).trans ((kV.block _ (by omega)).trans b2)
      have c0W := b0W.cell
      have hbsW := hbx.mono hbW
      have hwx : wAt s.pend vs x = .agg #[.int .i64 ((s.pend[x]).1 : Int), vs[x]] := by simp [wAt, List.getD_eq_getElem?_getD, hx, hxv]
      have hgx : s.pend.getD x (0, []) = s.pend[x] := by simp [List.getD_eq_getElem?_getD, hx]
      have hokx := (H1.out.ok.pend _ (List.getElem_mem hx)).2.1
      rw [hwx]
      generalize vs[x] = vx at *
      generalize s.pend[x] = px at *
      obtain ⟨blk, byt⟩ := px
      dsimp only at *
      obtain ⟨xao, xcap, rfl, _⟩ := hbx
      have Hok := hide hokx
      rw [hokx] at hbsW cb1 ⊢
      clear hokx
      by_cases hbk : blk = k
      · subst hbk
        have hl := hlast rfl (fun j h1 h2 => by have := hpre j (hnext j h1 h2); simpa [List.getD_eq_getElem?_getD, h2] using this)
        have Hl := hide hl
        have c1W := b1W.cell
        have f1W := b1W.frozen
        have c2W := b2W.cell
        have f2W := b2W.frozen
        clear hl hlast hseq hgx hwx hbox hcW
        gi_wp2
        refine ⟨trivial, ((callsIn_wide.2 (own_any _ byt _ hbsW (by rw [Hok.out]; omega))).inRound _).mono ?_⟩
        rintro e W3 ⟨v3, rfl, ho3, hb3⟩
        have hzW' : w.heap.size + 6 ≤ W.heap.size := by simp at hzW; omega
        have b1X : Boxed W3 (w.heap.size + 1) 30 (.slice none 0 0) := (hb3.block _ (by omega)).trans b1W
        have b2X : Boxed W3 (w.heap.size + 1 + 1) 42 (.int .i64 0) := (hb3.block _ (by omega)).trans b2W
        obtain ⟨ao3, cap3, rfl⟩ := owns_slice ho3
        have hlt3 := ho3.lt
        have c1X := b1X.cell
        have f1X := b1X.frozen
        have c2X := b2X.cell
        have f2X := b2X.frozen
        have Ho3 := hide ho3
        clear ho3 c1W f1W c2W f2W c0W cb0 cb1
        gi_wp2
        have hS : Still (w.heap.size + 4) (w.heap.size + 6) W ((W3.setCell ⟨w.heap.size + 1, 0, none⟩ (.slice ao3 byt.length cap3)).setCell ⟨w.heap.size + 1 + 1, 0, none⟩ (.int .i64 0)) :=
          ((Still.below hb3 (by omega)).trans (Still.set (.inl (by omega)) _)).trans (Still.set (.inl (by omega)) _)
        refine ⟨?_, rfl, ⟨byt, Hl.out, _, ((b1X.set _).other (by omega) _), ?_⟩, ((b2X.other (by omega) _).set _), ?_⟩
        · first | exact hS | (rw [hzV]; exact hS)
        · have q := ((keeps_set W3 (w.heap.size + 1) 0 (.slice ao3 byt.length cap3)).owns Ho3.out (fun b hb e => by have := (hlt3 b hb).1; have e' : b = w.heap.size + 1 := e; omega))
          have q2 := ((keeps_set _ (w.heap.size + 1 + 1) 0 (.int .i64 0)).owns q (fun b hb e => by have := (hlt3 b hb).1; have e' : b = w.heap.size + 1 + 1 := e; omega))
          exact owns_base q2 (by omega)
        · have hB : Below w.heap.size w W3 := ((hb1.trans (kV.mono (by omega))).trans (hbW.mono (by omega))).trans (hb3.mono (by omega))
          exact (hB.setCell (p := ⟨w.heap.size + 1, 0, none⟩) (by simp) _).setCell (p := ⟨w.heap.size + 1 + 1, 0, none⟩) (by simp; omega) _
      · have hne : ((blk : Int) == (k : Int)) = false := by simp; omega
        clear hlast hseq hwx hbox
        gi_wp2
        refine ⟨Still.refl _ _ _, KeepS.refl _ _, fun j hj => ?_, by first | exact hbW | (rw [hzV] at hbW; exact hbW)⟩
        simp only [List.mem_append, List.mem_singleton] at hj
        rcases hj with hj | rfl
        · have := hpre j hj; simpa [List.getD_eq_getElem?_getD] using this
        · have e := hgx
          first
            | (rw [e]; exact hbk)
            | (rw [List.getD_eq_getElem?_getD] at e; rw [e]; exact hbk)
    case done =>
      rintro xs U rfl ⟨hpre, hbU⟩ hsU hK
      have hlast : lastW s.pend k = none := lastW_none (fun j hj => by have := hpre j (by simpa using hj); simpa [List.getD_eq_getElem?_getD, hj] using this)
      have hrl : rl = blockL s.med k := by rw [← Hrl.out]; simp [readL, hlast]
      have Hrl2 := hide hrl
      clear hrl
      have hDU := hDV.mono hbU
      obtain ⟨mcap, cm, hmb⟩ := hDU.medBs
      have hmc := hmb.cap
      have b0U : Boxed U w.heap.size 3 (.int .i64 (k : Int)) := (hbU.block _ (by omega)).trans ((kV.block _ (by omega)).trans b0)
      have b1U : Boxed U (w.heap.size + 1) 30 (.slice none 0 0) := (hbU.block _ (by omega)).trans ((kV.block _ (by omega)).trans b1)
      have b2U : Boxed U (w.heap.size + 1 + 1) 42 (.int .i64 0) := (hbU.block _ (by omega)).trans ((kV.block _ (by omega)).trans b2)
      have c0U := b0U.cell
      have hblk := block_yes cm hDU.ok.len hmc hk hDU.ok.n2
      have hml : s.med.length = 256 * n := hDU.ok.len
      have hbk : Bs U (.slice (some ⟨m, k * 256, none⟩) 256 (mcap - k * 256)) (blockL s.med k) := by
        have q := hmb.drop (lo := k * 256) (by omega)
        rw [if_neg (by omega), Option.map_some, Addr.add_lit, Nat.zero_add] at q
        have q2 := q.take (h := 256) (by simp; omega)
        rw [Nat.mul_comm] at q2
        rw [Nat.mul_comm k 256]
        exact q2
      have hbl : (blockL s.med k).length = 256 := by simp [blockL]; omega
      have Hml := hide hml
      clear hseq hml
      gi_wp2
      refine ⟨trivial, (callsIn_wide.2 hblk).mono ?_⟩
      rintro e w' ⟨rfl, rfl⟩
      gi_wp2
      refine ⟨trivial, (callsIn_wide.2 (own_any _ _ _ hbk (by omega))).mono ?_⟩
      rintro e U3 ⟨v3, rfl, ho3, hb3⟩
      have b1X : Boxed U3 (w.heap.size + 1) 30 (.slice none 0 0) := (hb3.block _ (by omega)).trans b1U
      have b2X : Boxed U3 (w.heap.size + 1 + 1) 42 (.int .i64 0) := (hb3.block _ (by omega)).trans b2U
      have hK3 := (hb3.block V.heap.size (by omega)).trans hK
      obtain ⟨ao3, cap3, rfl⟩ := owns_slice ho3
      have hlt3 := ho3.lt
      have c1X := b1X.cell
      have f1X := b1X.frozen
      have c2X := b2X.cell
      have f2X := b2X.frozen
      have Ho3 := hide ho3
      have HzV := hide hzV
      have Hbl := hide hbl
      clear ho3 c0U hzV hbl hblk
      gi_wp2
      have hK4 : ((U3.setCell ⟨w.heap.size + 1, 0, none⟩ (.slice ao3 (blockL s.med k).length cap3)).setCell ⟨w.heap.size + 1 + 1, 0, none⟩ (.int .i64 0)).heap[w.heap.size + 4]? = some (.deferred (some [])) := by
        rw [← HzV.out]; exact ((keeps_set _ _ 0 _).block V.heap.size (by simp; have := HzV.out; have := hb3.size; omega) (by have := HzV.out; intro e; have e' : V.heap.size = w.heap.size + 1 + 1 := e; omega)).trans (((keeps_set _ _ 0 _).block V.heap.size (by have := HzV.out; have := hb3.size; omega) (by have := HzV.out; intro e; have e' : V.heap.size = w.heap.size + 1 := e; omega)).trans hK3)
      refine ⟨by simp, .inl ⟨_, _, rfl, run_takeDeferred hK4, ?_⟩⟩
      have b1Y := (World.putObj_heap_other (w := ((U3.setCell ⟨w.heap.size + 1, 0, none⟩ (.slice ao3 (blockL s.med k).length cap3)).setCell ⟨w.heap.size + 1 + 1, 0, none⟩ (.int .i64 0))) (r := w.heap.size + 4) (o := .deferred none) (k := w.heap.size + 1) (by omega)).trans ((b1X.set _).other (by omega) _)
      have b2Y := (World.putObj_heap_other (w := ((U3.setCell ⟨w.heap.size + 1, 0, none⟩ (.slice ao3 (blockL s.med k).length cap3)).setCell ⟨w.heap.size + 1 + 1, 0, none⟩ (.int .i64 0))) (r := w.heap.size + 4) (o := .deferred none) (k := w.heap.size + 1 + 1) (by omega)).trans ((b2X.other (by omega) _).set _)
      refine ⟨_, results_cell2 rfl _ _ _ _ _ _ rfl rfl (isAgg30 _) (isAgg42 _) (Boxed.cell b1Y) (Boxed.cell b2Y), _, rfl, ?_, ?_⟩
      · rw [Hrl2.out]
        have q := ((keeps_set U3 (w.heap.size + 1) 0 (.slice ao3 (blockL s.med k).length cap3)).owns Ho3.out (fun b hb e => by have := (hlt3 b hb).1; have e' : b = w.heap.size + 1 := e; have := HzV.out; omega))
        have q2 := ((keeps_set _ (w.heap.size + 1 + 1) 0 (.int .i64 0)).owns q (fun b hb e => by have := (hlt3 b hb).1; have e' : b = w.heap.size + 1 + 1 := e; have := HzV.out; omega))
        exact owns_base (ownsRow_putObj q2 _ hK4 rfl) (by have := hb3.size; have := HzV.out; omega)
      · have hB : Below w.heap.size w U3 := ((hb1.trans (kV.mono (by omega))).trans (hbU.mono (by have := HzV.out; omega))).trans (hb3.mono (by have := HzV.out; omega))
        exact ((hB.setCell (p := ⟨w.heap.size + 1, 0, none⟩) (by simp) _).setCell (p := ⟨w.heap.size + 1 + 1, 0, none⟩) (by simp; omega) _).trans (belowK_b (w := w) (Nat.le_refl _) _ _ _ _ (by omega) hK4 rfl rfl)
    case stop =>
      rintro code pre U hSp ⟨rfl, ⟨l, hl, v, b1U, hown⟩, b2U, hbU⟩ hsU hK
      have hrl : rl = l := by rw [← Hrl.out]; simp [readL, hl]
      subst hrl
      clear hseq
      have HzV := hide hzV
      gi_wp2
      have hK4 : U.heap[w.heap.size + 4]? = some (.deferred (some [])) := by
        rw [← HzV.out]; exact hK
      refine ⟨by simp, .inl ⟨_, _, rfl, run_takeDeferred hK4, ?_⟩⟩
      have b1Y := (World.putObj_heap_other (w := U) (r := w.heap.size + 4) (o := .deferred none) (k := w.heap.size + 1) (by omega)).trans b1U
      have b2Y := (World.putObj_heap_other (w := U) (r := w.heap.size + 4) (o := .deferred none) (k := w.heap.size + 1 + 1) (by omega)).trans b2U
      refine ⟨_, results_cell2 rfl _ _ _ _ _ _ rfl rfl (isAgg30 _) (isAgg42 _) (Boxed.cell b1Y) (Boxed.cell b2Y), _, rfl, ?_, ?_⟩
      · exact owns_base (ownsRow_putObj hown _ hK4 rfl) (by have := HzV.out; omega)
      · exact hbU.trans (belowK_b (w := w) (Nat.le_refl _) _ _ _ _ (by omega) hK4 rfl rfl)



end Go.Proofs.YtjhbljkoapbkfaaGreat

namespace Go.Proofs.YtjhbljkoapbkfaaGreat
open Go.RowKit Go.Attic Go.Shelf

structure Rc where
  k : Int
  b : Int
  o : Int
  m : Int
  l : List Nat

/-- The sector of a number within a block's bytes. -/
def secOf (bytes : List Nat) (n : Nat) : List Nat := (bytes.drop (n % 4 * 64)).take 64

/-- A sector is the record r at the number n. -/
def IsRc (L : List Nat) (n : Nat) (r : Rc) : Prop := ∃ (k b o m : Nat) (l : List Nat), r = ⟨k, b, o, m, l⟩ ∧ IsR L n k b o m l
def NoRc (L : List Nat) (n : Nat) : Prop := ∀ r, ¬ IsRc L n r

theorem IsRc.one {L : List Nat} {n n' : Nat} {r r' : Rc} (h : IsRc L n r) (h' : IsRc L n' r') : n = n' ∧ r = r' := by
  obtain ⟨k, b, o, m, l, rfl, h⟩ := h
  obtain ⟨k', b', o', m', l', rfl, h'⟩ := h'
  obtain ⟨rfl, rfl, rfl, rfl, rfl, rfl⟩ := h.one h'
  exact ⟨rfl, rfl⟩
theorem rc_em (L : List Nat) (n : Nat) : (∃ r, IsRc L n r) ∨ NoRc L n := by
  by_cases h : ∃ r, IsRc L n r
  · exact .inl h
  · exact .inr fun r hr => h ⟨r, hr⟩

/-- A record that may be. -/
def okRc (r : Rc) : Prop := okR r.k r.b r.o r.m r.l.length
theorem IsRc.ok {L : List Nat} {n : Nat} {r : Rc} (h : IsRc L n r) : okRc r ∧ r.l.length ≤ 44 ∧ (∀ x ∈ r.l, x < 256) ∧ L.length = 64 := by
  obtain ⟨k, b, o, m, l, rfl, h⟩ := h
  exact ⟨h.1, (okR_range h.1).2.2.2.2.2, h.2.2.1, h.len⟩

/-- The sector of a record that may be. -/
def secRc (n : Nat) (r : Rc) : List Nat := secR n r.k.toNat r.b.toNat r.o.toNat r.m.toNat r.l
theorem secRc_is {n : Nat} {r : Rc} (h : okRc r) (hn : n ≤ 2305843009213693952) (hx : ∀ x ∈ r.l, x < 256) : IsRc (secRc n r) n r := by
  obtain ⟨k, b, o, m, l⟩ := r
  obtain ⟨k', b', o', m', h1, h2, h3, h4⟩ := okR_nat h
  dsimp only at h1 h2 h3 h4 hx
  subst h1 h2 h3 h4
  exact ⟨k', b', o', m', l, rfl, h, hn, hx, rfl⟩
theorem secRc_length {n : Nat} {r : Rc} (h : okRc r) : (secRc n r).length = 64 := by
  obtain ⟨k, b, o, m, l⟩ := r
  obtain ⟨k', b', o', m', h1, h2, h3, h4⟩ := okR_nat h
  dsimp only at h1 h2 h3 h4
  subst h1 h2 h3 h4
  exact secR_length _ _ _ _ _ _ (okR_range h).2.2.2.2.2
theorem secRc_lt {n : Nat} {r : Rc} (h : okRc r) (hx : ∀ x ∈ r.l, x < 256) : ∀ y ∈ secRc n r, y < 256 := by
  obtain ⟨k, b, o, m, l⟩ := r
  obtain ⟨k', b', o', m', h1, h2, h3, h4⟩ := okR_nat h
  dsimp only at h1 h2 h3 h4 hx
  subst h1 h2 h3 h4
  have q := okR_range h
  exact secR_lt _ _ _ _ _ _ (by simp only [Int.toNat_natCast]; omega) (by simp only [Int.toNat_natCast]; omega) q.2.2.2.2.2 hx

/-- What Bytes answers of a record that may be. -/
theorem bytes_ok (n : Nat) (r : Rc) (hn : n ≤ 2305843009213693952) (h : okRc r) (v : Value) (w : World) (hv : Bs w v r.l) :
    Calls Tryz.prog 73 #[.int .i64 (n : Int), .agg #[.int .i64 r.k, .int .i64 r.b, .int .i64 r.o, v, .int .i64 r.m]] w (NewBsE w (secRc n r) 0) := by
  obtain ⟨k, b, o, m, l⟩ := r
  obtain ⟨k', b', o', m', h1, h2, h3, h4⟩ := okR_nat h
  dsimp only at h1 h2 h3 h4 hv
  subst h1 h2 h3 h4
  exact bytes_yes n k' b' o' m' v l w hv hn h

/-- What Take answers of a sector. -/
theorem take_is (L : List Nat) (n : Nat) (r : Rc) (h : IsRc L n r) (v : Value) (w : World) (hv : Bs w v L) :
    Calls Tryz.prog 67 #[v, .int .i64 (n : Int)] w (TakeE w r.k r.b r.o r.l r.m 0) := by
  obtain ⟨k, b, o, m, l, er, hT, hc⟩ := take_both L n hv.lt (by have := h.ok.2.2.2; omega)
  obtain ⟨k', b', o', m', l', rfl, hi⟩ := h
  rcases hT with ⟨rfl, p, k2, b2, o2, m2, hp, rfl, rfl, rfl, rfl, h2⟩ | ⟨_, _, h2⟩
  · obtain ⟨_, rfl, rfl, rfl, rfl, rfl⟩ := hi.one h2
    exact hc v w hv
  · exact absurd rfl (h2 _ _ _ _ _ _ hi)
theorem take_not (L : List Nat) (n : Nat) (h : NoRc L n) (hl : L.length ≤ 140737488355328) (hx : ∀ x ∈ L, x < 256) : ∃ (k b o m er : Int), (er = 1 ∨ er = 61) ∧ ∀ (v : Value) (w : World), Bs w v L →
    Calls Tryz.prog 67 #[v, .int .i64 (n : Int)] w (TakeE w k b o [] m er) := by
  obtain ⟨k, b, o, m, l, er, hT, hc⟩ := take_both L n hx hl
  rcases hT with ⟨rfl, p, k2, b2, o2, m2, hp, rfl, rfl, rfl, rfl, h2⟩ | ⟨he, rfl, h2⟩
  · exact absurd ⟨k2, b2, o2, m2, l, rfl, by have : n = p := by omega
                                             rw [this]; exact h2⟩ (h ⟨k2, b2, o2, m2, l⟩)
  · exact ⟨k, b, o, m, er, he, fun v w hv => hc v w hv⟩

/-- The sector in which a number stands, as it is read. -/
def secAt (s : St) (base blocks n : Nat) : List Nat := secOf (readL s (base + n / 4 % blocks)) n

/-- The records rs are those from head on, at most c, as long as there is one. -/
def Got (f : Nat → List Nat) (head : Nat) (rs : List Rc) : Prop := ∀ i (h : i < rs.length), IsRc (f (head + i)) (head + i) rs[i]
def Scanned (f : Nat → List Nat) (head c : Nat) (rs : List Rc) : Prop := Got f head rs ∧ rs.length ≤ c ∧ (rs.length = c ∨ NoRc (f (head + rs.length)) (head + rs.length))

theorem Got.snoc {f : Nat → List Nat} {head : Nat} {rs : List Rc} {r : Rc} (h : Got f head rs) (hr : IsRc (f (head + rs.length)) (head + rs.length) r) : Got f head (rs ++ [r]) := by
  intro i hi
  by_cases h1 : i < rs.length
  · rw [List.getElem_append_left h1]; exact h i h1
  · have e : i = rs.length := by simp at hi; omega
    subst e
    simpa using hr

theorem Scanned.one {f : Nat → List Nat} {head c : Nat} {rs rs' : List Rc} (h : Scanned f head c rs) (h' : Scanned f head c rs') : rs = rs' := by
  have key : ∀ {a b : List Rc}, Scanned f head c a → Scanned f head c b → a.length ≤ b.length := by
    intro a b ha hb
    rcases Nat.lt_or_ge b.length a.length with hlt | hge
    · exfalso
      rcases hb.2.2 with e | e
      · have := ha.2.1; omega
      · exact e _ (ha.1 b.length hlt)
    · exact hge
  have hl : rs.length = rs'.length := Nat.le_antisymm (key h h') (key h' h)
  apply List.ext_getElem hl
  intro i h1 h2
  exact ((h.1 i h1).one (h'.1 i h2)).2

/-- Records laid into a block's bytes, from the number t on. -/
def layB (bytes : List Nat) (t : Nat) : List Rc → List Nat
  | [] => bytes
  | r :: rs => layB (splice bytes (t % 4 * 64) (secRc t r)) (t + 1) rs

/-- A log's records are written, run by run. -/
def layN (n base blocks : Nat) : Nat → St → Nat → List Rc → St × Int
  | 0, s, _, _ => (s, 0)
  | f + 1, s, t, rs => if rs.length = 0 then (s, 0) else if s.on = false then (s, 5) else
      if (writeS s n ((base + t / 4 % blocks : Nat) : Int) (layB (readL s (base + t / 4 % blocks)) t (rs.take (min rs.length (4 - t % 4))))).2 ≠ 0 then
        writeS s n ((base + t / 4 % blocks : Nat) : Int) (layB (readL s (base + t / 4 % blocks)) t (rs.take (min rs.length (4 - t % 4))))
      else layN n base blocks f (writeS s n ((base + t / 4 % blocks : Nat) : Int) (layB (readL s (base + t / 4 % blocks)) t (rs.take (min rs.length (4 - t % 4))))).1 (t + min rs.length (4 - t % 4)) (rs.drop (min rs.length (4 - t % 4)))

theorem readL_ok {s : St} {n i : Nat} (h : s.Ok n) (hi : i < n) : (readL s i).length = 256 ∧ ∀ x ∈ readL s i, x < 256 := by
  have key : ∀ (ps : List (Nat × List Nat)) (l : List Nat), lastW ps i = some l → ∃ x ∈ ps, x.2 = l := by
    intro ps
    induction ps with
    | nil => intro l h; cases h
    | cons w ps ih =>
      intro l h
      simp only [lastW] at h
      cases hw : lastW ps i with
      | some l' => rw [hw] at h; obtain ⟨x, hx, e⟩ := ih l' hw; injection h with h; exact ⟨x, by simp [hx], e.trans h⟩
      | none =>
        rw [hw] at h
        by_cases hb : w.1 = i
        · simp only [hb] at h; injection h with h; exact ⟨w, by simp, h⟩
        · simp [hb] at h
  unfold readL
  cases hw : lastW s.pend i with
  | some l =>
    obtain ⟨x, hx, rfl⟩ := key _ _ hw
    exact (h.pend x hx).2
  | none =>
    refine ⟨by simp [blockL]; have := h.len; omega, fun x hx => h.lt x (List.mem_of_mem_drop (List.mem_of_mem_take hx))⟩

theorem layB_length (bytes : List Nat) (t : Nat) (rs : List Rc) (hb : bytes.length = 256) (hr : ∀ r ∈ rs, okRc r) : (layB bytes t rs).length = 256 := by
  induction rs generalizing bytes t with
  | nil => exact hb
  | cons r rs ih =>
    have hl := secRc_length (n := t) (hr r (by simp))
    exact ih _ _ (by rw [length_splice _ _ _ (by omega)]; exact hb) (fun x hx => hr x (by simp [hx]))


end Go.Proofs.YtjhbljkoapbkfaaGreat
