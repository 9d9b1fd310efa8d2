/- The law of a loop over an iterator whose round begins by laying a block of its own. Nothing here speaks of one program. -/
import Derived.Test.YtjcmmigbkhiplaaIter
set_option linter.unusedVariables false
namespace Go.Attic
open Go.RowKit

/-- One round, from the walk of its body: whichever way that is left, the record was busy there, and R holds of what is answered and of the world in which the record says so. -/
theorem yield_of2 {n : Nat} {P : Program} {l D : Nat} {fn : FuncId} {tmps : Array Value} {ps : Array Tmp} {assign body : Code} {args : Array Value} {W W2 : World} {a₁ : Act} {R : Ending → World → Prop} {Post : Exit → Act → World → Prop}
    (hl : W.heap[l]? = some (.loop (loopIs fn tmps ps assign body D .ready none))) (hl2 : W2.heap[l]? = some (.loop (loopIs fn tmps ps assign body D .ready none))) (hs : args.size = ps.size)
    (hassign : ∀ T : Act → World → Prop, T a₁ W2 → assign.wpIn (Fence.wide.inRound l) n P (Exit.then T (fun _ _ _ => False)) { tmps := (ps.zip args).foldl (fun t (p, v) => t.setIfInBounds p v) tmps, defers := [] } W)
    (hbody : body.wpIn (Fence.wide.inRound l) n P Post a₁ (W2.putObj l (.loop (loopIs fn tmps ps assign body D .busy none))))
    (hpost : ∀ e a U, Post e a U → ∃ j, jumpOf e = some j ∧ U.heap[l]? = some (.loop (loopIs fn tmps ps assign body D .busy none)) ∧
      R (.returned (.bool j.isNone)) (U.putObj l (.loop (loopIs fn tmps ps assign body D (if j.isNone then .ready else .done) j)))) :
    YieldAt Fence.wide 0 P l args W R := by
  have begin := run_beginRound (P := P) hl2 rfl
  refine ⟨fn, _, assign, body, run_yield hl hs, roundIn_any (m := n) (roundIn_of_wpIn trivial (hassign _ ⟨_, begin, wpIn_mono hbody ?_⟩))⟩
  intro e a U hU
  obtain ⟨j, hj, hb, hR⟩ := hpost e a U hU
  have ending := run_endRound (P := P) j hb
  cases e <;> simp only [jumpOf, Option.some.injEq, reduceCtorEq] at hj
  all_goals
    subst hj
    exact ⟨_, _, ending, hR⟩

/-- One loop over such an iterator, at a function's top. -/
theorem range_law2 {α : Type} {n : Nat} {P : Program} {g : Operand} {ps : Array Tmp} {assign body : Code} {Q : Exit → Act → World → Prop} {a : Act} {w : World}
    {gf : Nat} {lb : Array Value} (hg : a.eval g = .func (.func gf) #[] lb) (eg : ∀ args w, (callFunc gf args).run P w = .ok (.enter gf args) w)
    {encs : α → Array Value} {K : Nat → Prop} {c : Nat} {S Sp : List α → Prop} {w0 : World} (hseq : SeqP P gf lb encs K c S Sp w0) (hb0 : Below w0.heap.size w0 w) (hKw : ∀ k, K k → k < w.heap.size) (hps : ∀ x, (encs x).size = ps.size)
    (I : List α → World → Prop) (Ix : Code → List α → World → Prop) (hI : Stands w.heap.size (w.heap.size + 2 + c) I) (hIx : ∀ code, Stands w.heap.size (w.heap.size + 2 + c) (Ix code)) (h0 : I [] w) (a₁ : α → World → Act) (aw : α → World → World) (haw : ∀ x W, Below W.heap.size W (aw x W))
    (hassign : ∀ (l : Nat) (x : α) (W : World) (T : Act → World → Prop), T (a₁ x W) (aw x W) →
      assign.wpIn (Fence.wide.inRound l) n P (Exit.then T (fun _ _ _ => False)) { tmps := (ps.zip (encs x)).foldl (fun t (p, v) => t.setIfInBounds p v) a.tmps, defers := [] } W)
    (hbody : ∀ (pre : List α) (x : α) (U W : World), Sp (pre ++ [x]) → I pre W → w.heap.size + 2 + c ≤ U.heap.size → (∃ r, W.heap[w.heap.size + 1]? = some (.loop r)) → W.heap.size = (aw x U).heap.size → (∀ k, k ≠ w.heap.size + 1 → W.heap[k]? = (aw x U).heap[k]?) →
      body.wpIn (Fence.wide.inRound (w.heap.size + 1)) n P (RoundPost K w.heap.size (w.heap.size + 2 + c) I Ix (pre ++ [x]) W) (a₁ x U) W)
    (hdone : ∀ (xs : List α) (W : World), S xs → I xs W → w.heap.size + 2 ≤ W.heap.size → W.heap[w.heap.size]? = some (.deferred (some [])) → Q .normal { a with defers := { target := .collected w.heap.size, args := #[] } :: a.defers } W)
    (hstop : ∀ (code : Code) (pre : List α) (W : World), Sp pre → Ix code pre W → w.heap.size + 2 ≤ W.heap.size → W.heap[w.heap.size]? = some (.deferred (some [])) → code.wpIn Fence.wide n P Q { a with defers := { target := .collected w.heap.size, args := #[] } :: a.defers } W) :
    (Code.rangeFunc g ps assign body).wpIn Fence.wide n P Q a w := by
  refine wpIn_rangeFunc fun fn _ => ?_
  obtain ⟨D, hD⟩ : ∃ D, w.heap.size = D := ⟨_, rfl⟩
  obtain ⟨mk, hmk⟩ : ∃ mk, loopIs fn a.tmps ps assign body w.heap.size = mk := ⟨_, rfl⟩
  have henter := run_enterLoop_outer (P := P) (w := w) fn a.tmps ps assign body
  obtain ⟨V, hV⟩ : ∃ V, (w.alloc (.deferred (some []))).alloc (.loop (mk .ready none)) = V := ⟨_, rfl⟩
  have eD : V.heap[D]? = some (.deferred (some [])) := by
    rw [← hV, ← hD, Below.heap_alloc _ _ _ (by simp)]; exact World.alloc_heap_new w _
  have eL : V.heap[D + 1]? = some (.loop (mk .ready none)) := by
    have h := World.alloc_heap_new (w.alloc (.deferred (some []))) (.loop (mk .ready none))
    rw [World.size_alloc, hV, hD] at h; exact h
  have eV : V.heap.size = D + 2 := by rw [← hV, ← hD]; simp
  have bV : Below w0.heap.size w0 V := by
    have h := ((Below.refl w0.heap.size w).alloc hb0.size (.deferred (some []))).alloc (by have := hb0.size; simp; omega) (.loop (mk .ready none))
    rw [hV] at h; exact hb0.trans h
  have iV : I [] V := by rw [← hV]; exact hI.alloc (hI.alloc h0 _) _
  rw [hD] at hI hIx hKw hbody hdone hstop
  -- what the law keeps beside I: the record and the block for deferred calls
  let J : List α → World → Prop := fun pre U => I pre U ∧ (U.heap[D + 1]? = some (.loop (mk .ready none)) ∧ U.heap[D]? = some (.deferred (some [])))
  let Jx : List α → World → Prop := fun pre U => ∃ code, Ix code pre U ∧ (U.heap[D + 1]? = some (.loop (mk .done (some code))) ∧ U.heap[D]? = some (.deferred (some [])))
  have fixed : ∀ (k : Nat) (o : Obj), k < V.heap.size → Stands (β := List α) V.heap.size (V.heap.size + c) (fun _ U => U.heap[k]? = some o) := by
    intro k o hk _ A B row hs hg hm
    refine (hg.block k (Array.getElem?_eq_some_iff.1 hs).1 (fun e => ?_)).trans hs
    have := (hm k e.symm).1
    omega
  have sJ : Stands V.heap.size (V.heap.size + c) J := Stands.and (hI.mono (by omega) (by omega)) (Stands.and (fixed _ _ (by omega)) (fixed _ _ (by omega)))
  have sJx : Stands V.heap.size (V.heap.size + c) Jx := Stands.ex fun code => Stands.and ((hIx code).mono (by omega) (by omega)) (Stands.and (fixed _ _ (by omega)) (fixed _ _ (by omega)))
  have hK' : ¬ K (D + 1) := fun hk => by have := hKw _ hk; omega
  refine ⟨D + 1, [{ target := .collected D, args := #[] }], V, { target := .fn (.func gf) lb, args := #[.func (.yield (D + 1)) #[] #[]] }, V, gf, _, V, ?_, ?_, fun _ _ => trivial, ?_, (fun h => by simp [Fence.wide] at h),
    callsIn_wide.2 ((hseq (D + 1) J Jx V bV sJ sJx ?_ ⟨iV, eL, eD⟩).mono ?_)⟩
  · rw [← hV, ← hmk, ← hD]; exact henter
  · simp only [resolve, hg]
    simp [go_sem]
  · simp [invoke, go_sem, eg]
  · -- one round
    rintro pre x U hSp ⟨hi, hl, hk⟩ hsU
    rw [eV] at hsU ⊢
    have hl' := hl
    rw [← hmk] at hl'
    have hbw := haw x U
    have hzw := hbw.size
    have hl2 : (aw x U).heap[D + 1]? = some (.loop (mk .ready none)) := (hbw.block _ (Array.getElem?_eq_some_iff.1 hl).1).trans hl
    have hl2' := hl2
    rw [← hmk] at hl2'
    have hi2 : I pre (aw x U) := hI pre U _ none hi ⟨hbw.os, hbw.tape, hbw.output, hbw.size, fun k hk _ => hbw.block k hk⟩ (fun r e => by cases e)
    have put1 : ∀ (A : World) (o : Obj) (k : Nat), k ≠ D + 1 → (A.putObj (D + 1) o).heap[k]? = A.heap[k]? := fun A o k h => World.putObj_heap_other h
    have busy : ((aw x U).putObj (D + 1) (.loop (mk .busy none))).heap[D + 1]? = some (.loop (mk .busy none)) := World.putObj_heap_same (Array.getElem?_eq_some_iff.1 hl2).1
    refine yield_of2 hl' hl2' (hps x) (hassign _ x U) (by rw [hmk]; exact hbody pre x U _ hSp (hI.put hi2 (by omega) (by omega) _) (by omega) ⟨_, busy⟩ World.putObj_size (fun k hk => put1 _ _ k hk)) ?_
    rw [hmk]
    have turn : ∀ (j : Option Code) (X : World), Still D (D + 2 + c) ((aw x U).putObj (D + 1) (.loop (mk .busy none))) X →
        X.heap[D + 1]? = some (.loop (mk .busy none)) ∧ Still (D + 2) (D + 2 + c) U (X.putObj (D + 1) (.loop (mk (if j.isNone then .ready else .done) j))) ∧
        (X.putObj (D + 1) (.loop (mk (if j.isNone then .ready else .done) j))).heap[D + 1]? = some (.loop (mk (if j.isNone then .ready else .done) j)) ∧
        (X.putObj (D + 1) (.loop (mk (if j.isNone then .ready else .done) j))).heap[D]? = some (.deferred (some [])) := by
      intro j X hX
      have hx := (hX.same (D + 1) (by omega) (by omega)).trans busy
      have z := hX.size
      rw [World.putObj_size] at z
      refine ⟨hx, ⟨by rw [World.putObj_size]; omega, fun k h1 h2 => ?_⟩, World.putObj_heap_same (Array.getElem?_eq_some_iff.1 hx).1, ?_⟩
      · rw [put1 _ _ k (by omega), hX.same k (by omega) (by omega), put1 _ _ k (by omega), hbw.block k (by omega)]
      · rw [put1 _ _ D (by omega), hX.same D (by omega) (by omega), put1 _ _ D (by omega), hbw.block D (by omega)]; exact hk
    intro e a' X hp
    cases e with
    | normal =>
      obtain ⟨hX, hKX, hiX⟩ := hp
      obtain ⟨t1, t2, t3, t4⟩ := turn none X hX
      exact ⟨none, rfl, t1, t2, .inl ⟨rfl, ⟨hI.put hiX (by omega) (by omega) _, t3, t4⟩, ((KeepS.below hbw (fun k hk => by have := hKw _ hk; omega)).trans ((KeepS.put hK' _).trans hKX)).trans (KeepS.put hK' _)⟩⟩
    | ret =>
      obtain ⟨t1, t2, t3, t4⟩ := turn (some .ret) X hp.1
      exact ⟨_, rfl, t1, t2, .inr ⟨rfl, _, (hIx _).put hp.2 (by omega) (by omega) _, t3, t4⟩⟩
    | exit id =>
      obtain ⟨t1, t2, t3, t4⟩ := turn (some (.exit id)) X hp.1
      exact ⟨_, rfl, t1, t2, .inr ⟨rfl, _, (hIx _).put hp.2 (by omega) (by omega) _, t3, t4⟩⟩
    | goto t =>
      obtain ⟨t1, t2, t3, t4⟩ := turn (some (.goto t)) X hp.1
      exact ⟨_, rfl, t1, t2, .inr ⟨rfl, _, (hIx _).put hp.2 (by omega) (by omega) _, t3, t4⟩⟩
    | panic _ => exact hp.elim
    | outgrown => exact hp.elim
  · -- behind the iterator
    rintro e X ⟨⟨v, rfl⟩, h⟩
    have out : ∀ (pe : Option Code) (st : LoopState), st ≠ .busy → X.heap[D + 1]? = some (.loop (mk st pe)) → ∃ o, (Instr.endLoop (D + 1)).run P X = .ok pe (X.putObj (D + 1) o) := by
      intro pe st hst hx
      rw [← hmk] at hx
      exact ⟨_, run_endLoop hx hst⟩
    have at0 : ∀ o, X.heap[D]? = some (.deferred (some [])) → (X.putObj (D + 1) o).heap[D]? = some (.deferred (some [])) := fun o h => (World.putObj_heap_other (by omega)).trans h
    have big : ∀ (o o' : Obj), X.heap[D + 1]? = some o → D + 2 ≤ (X.putObj (D + 1) o').heap.size := fun o o' h => by have := (Array.getElem?_eq_some_iff.1 h).1; rw [World.putObj_size]; omega
    rcases h with ⟨xs, hS, hi, hl, hk⟩ | ⟨pre, hSp, code, hi, hl, hk⟩
    · obtain ⟨o, ho⟩ := out none .ready (by simp) hl
      exact ⟨none, _, ho, hdone xs _ hS (hI.put hi (by omega) (by omega) _) (big _ _ hl) (at0 _ hk)⟩
    · obtain ⟨o, ho⟩ := out (some code) .done (by simp) hl
      exact ⟨some code, _, ho, hstop code pre _ hSp ((hIx code).put hi (by omega) (by omega) _) (big _ _ hl) (at0 _ hk)⟩

end Go.Attic
