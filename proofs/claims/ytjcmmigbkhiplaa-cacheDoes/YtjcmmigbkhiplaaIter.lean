/- Ranges over functions whose iterators keep state of their own: the contract of such an iterator (SeqP), and one law for the loop over it. Nothing here speaks of one program. -/
import Derived.RangeFuncNested
import Derived.RangeFuncBound
import Derived.RangeFuncLeaves
import Derived.Test.YtjcmmigbkhiplaaBytes
set_option linter.unusedVariables false
namespace Go.Attic
open Go.RowKit

/-- What an iterator that began where the heap had D blocks may turn: its own blocks, those below E. -/
def Mine (D E : Nat) (A : World) (row : Option Nat) : Prop := ∀ r, row = some r → D ≤ r ∧ r < E
/-- What the one who loops says does not mind that. -/
def Stands {β : Type} (D E : Nat) (J : β → World → Prop) : Prop := ∀ s A B row, J s A → A.grownBy B row → Mine D E A row → J s B
/-- The blocks from D on, below E, lie as they lay. -/
structure Still (D E : Nat) (A B : World) : Prop where
  size : A.heap.size ≤ B.heap.size
  same : ∀ k, D ≤ k → k < E → B.heap[k]? = A.heap[k]?

theorem Still.refl (D E : Nat) (A : World) : Still D E A A := ⟨Nat.le_refl _, fun _ _ _ => rfl⟩
theorem Still.trans {D E : Nat} {A B C : World} (h : Still D E A B) (k : Still D E B C) : Still D E A C :=
  ⟨Nat.le_trans h.size k.size, fun i h1 h2 => (k.same i h1 h2).trans (h.same i h1 h2)⟩
theorem Still.mono {D E D' E' : Nat} {A B : World} (h : Still D E A B) (hD : D ≤ D') (hE : E' ≤ E) : Still D' E' A B :=
  ⟨h.size, fun k h1 h2 => h.same k (by omega) (by omega)⟩
theorem Still.grown {D E : Nat} {A B : World} {row : Option Nat} (h : A.grownBy B row) (hE : E ≤ A.heap.size) (hr : ∀ k, row = some k → k < D ∨ E ≤ k) : Still D E A B :=
  ⟨h.size, fun k h1 h2 => h.block k (by omega) (fun e => by rcases hr k e.symm with h | h <;> omega)⟩
theorem Still.below {D E B0 : Nat} {A B : World} (h : Below B0 A B) (hE : E ≤ B0) : Still D E A B := ⟨h.size, fun k _ h2 => h.block k (by omega)⟩
theorem Still.boxed {D E : Nat} {A B : World} (h : Still D E A B) {k : Nat} {t : TypeId} {v : Value} (hb : Boxed A k t v) (h1 : D ≤ k) (h2 : k < E) : Boxed B k t v := (h.same k h1 h2).trans hb

theorem Stands.alloc {β : Type} {D E : Nat} {J : β → World → Prop} (h : Stands D E J) {s : β} {A : World} (hs : J s A) (o : Obj) : J s (A.alloc o) :=
  h s A _ none hs (World.grownBy_alloc A o none) (fun r e => by cases e)
theorem Stands.put {β : Type} {D E : Nat} {J : β → World → Prop} (h : Stands D E J) {s : β} {A : World} (hs : J s A) {l : Nat} (h1 : D ≤ l) (h2 : l < E) (o : Obj) : J s (A.putObj l o) :=
  h s A _ (some l) hs (grownBy_putObj' A l o) (fun r e => by cases e; exact ⟨h1, h2⟩)
theorem Stands.set {β : Type} {D E : Nat} {J : β → World → Prop} (h : Stands D E J) {s : β} {A : World} (hs : J s A) {l : Nat} (h1 : D ≤ l) (h2 : l < E) (v : Value) : J s (A.setCell ⟨l, 0, none⟩ v) :=
  h s A _ (some l) hs (grownBy_setCell' A l v) (fun r e => by cases e; exact ⟨h1, h2⟩)
theorem Stands.mono {β : Type} {D E D' E' : Nat} {J : β → World → Prop} (h : Stands D E J) (hD : D ≤ D') (hE : E' ≤ E) : Stands D' E' J :=
  fun s A B row hs hg hm => h s A B row hs hg (fun r e => by
    obtain ⟨h1, h2⟩ := hm r e
    exact ⟨by omega, by omega⟩)
theorem Stands.and {β : Type} {D E : Nat} {I J : β → World → Prop} (h : Stands D E I) (k : Stands D E J) : Stands D E (fun s W => I s W ∧ J s W) :=
  fun s A B row hs hg hm => ⟨h s A B row hs.1 hg hm, k s A B row hs.2 hg hm⟩
theorem Stands.pure {β : Type} (D E : Nat) (p : β → Prop) : Stands D E (fun s (_ : World) => p s) := fun _ _ _ _ hs _ _ => hs
theorem Stands.ex {β γ : Type} {D E : Nat} {J : γ → β → World → Prop} (h : ∀ c, Stands D E (J c)) : Stands D E (fun s W => ∃ c, J c s W) :=
  fun s A B row hs hg hm => by obtain ⟨c, hc⟩ := hs; exact ⟨c, h c s A B row hc hg hm⟩

/-- A block that holds cells is no walk. -/
theorem mine_ne {D E : Nat} {A : World} {row : Option Nat} (hm : Mine D E A row) {k : Nat} {cs : Array Value} {t : TypeId} {m : Nat × Nat} (hk : A.heap[k]? = some (.cells cs t m)) (h : k < D ∨ E ≤ k) : some k ≠ row := by
  intro e
  obtain ⟨h1, h2⟩ := hm k e.symm
  omega
theorem stands_boxed {β : Type} {D E : Nat} (k : Nat) (t : TypeId) (f : β → Value) (h : k < D ∨ E ≤ k) : Stands D E (fun s W => Boxed W k t (f s)) :=
  fun s A B row hs hg hm => hs.kept hg (mine_ne hm hs h)
theorem stands_owns {β : Type} {D E : Nat} (base : Nat) (e : TypeId) (size : Nat) (f : β → Value) (n : β → Nat) (xs : β → List Value) (h : E ≤ base) : Stands D E (fun s W => W.ownsRow base e size (f s) (n s) (xs s)) :=
  fun s A B row hs hg hm => by
    refine hs.kept hg ?_
    rcases hs.2 with ⟨e1, _⟩ | ⟨g, cap, cur, e1, hb, hgb, _⟩
    · exact .inl (by rw [e1]; rfl)
    · refine .inr ?_
      rw [e1]
      exact mine_ne hm (k := g) hgb (.inr (Nat.le_trans h hb))
theorem stands_below {β : Type} {D E : Nat} (B0 : Nat) (w : World) (hB : B0 ≤ w.heap.size) (h : B0 ≤ D) : Stands D E (fun (_ : β) W => Below B0 w W) :=
  fun s A B row hs hg hm => hs.grown hg (by have := hs.size; omega) (fun k e => by have := (hm k e).1; omega)

/-- The blocks of K lie as they lay. -/
structure KeepS (K : Nat → Prop) (A B : World) : Prop where
  size : A.heap.size ≤ B.heap.size
  same : ∀ k, K k → B.heap[k]? = A.heap[k]?
theorem KeepS.refl (K : Nat → Prop) (A : World) : KeepS K A A := ⟨Nat.le_refl _, fun _ _ => rfl⟩
theorem KeepS.trans {K : Nat → Prop} {A B C : World} (h : KeepS K A B) (k : KeepS K B C) : KeepS K A C :=
  ⟨Nat.le_trans h.size k.size, fun i h1 => (k.same i h1).trans (h.same i h1)⟩
theorem KeepS.put {K : Nat → Prop} {A : World} {l : Nat} (h : ¬ K l) (o : Obj) : KeepS K A (A.putObj l o) :=
  ⟨by simp, fun k hk => World.putObj_heap_other (fun e => h (e ▸ hk))⟩
theorem KeepS.set {K : Nat → Prop} {A : World} {l : Nat} (h : ¬ K l) (v : Value) : KeepS K A (A.setCell ⟨l, 0, none⟩ v) :=
  ⟨(grownBy_setCell' A l v).size, fun k hk => Below.heap_setCell _ _ _ k (fun e => h (by have e' : k = l := e; exact e' ▸ hk))⟩
theorem KeepS.below {K : Nat → Prop} {A B : World} {n : Nat} (h : Below n A B) (hK : ∀ k, K k → k < n) : KeepS K A B := ⟨h.size, fun k hk => h.block k (hK k hk)⟩
theorem KeepS.boxed {K : Nat → Prop} {A B : World} (h : KeepS K A B) {k : Nat} {t : TypeId} {v : Value} (hb : Boxed A k t v) (h1 : K k) : Boxed B k t v := (h.same k h1).trans hb
theorem KeepS.bs {K : Nat → Prop} {A B : World} (h : KeepS K A B) {v : Value} {l : List Nat} (hb : Bs A v l) (hv : ∀ b, v.ownBlock = some b → K b) : Bs B v l := by
  obtain ⟨ao, cap, rfl, h1, h2, h3, h4⟩ := hb
  refine ⟨ao, cap, rfl, h1, h2, h3, fun hp => ?_⟩
  obtain ⟨b, off, rfl, hc⟩ := h4 hp
  exact ⟨b, off, rfl, fun i hi => (World.cell?_of_block (h.same b (hv b rfl))).trans (hc i hi)⟩

/-- The contract of an iterator that keeps c blocks of its own: as long as each round keeps them, and the blocks of K, it gives all (S), or a part (Sp) behind a round that said no. -/
def SeqP {α : Type} (P : Program) (g : Nat) (lb : Array Value) (encs : α → Array Value) (K : Nat → Prop) (c : Nat) (S Sp : List α → Prop) (w0 : World) : Prop :=
  ∀ (l : Nat) (J Jx : List α → World → Prop) (W : World), Below w0.heap.size w0 W → Stands W.heap.size (W.heap.size + c) J → Stands W.heap.size (W.heap.size + c) Jx →
    (∀ pre x W1, Sp (pre ++ [x]) → J pre W1 → W.heap.size + c ≤ W1.heap.size → YieldAt Fence.wide 0 P l (encs x) W1 fun e W' =>
      Still W.heap.size (W.heap.size + c) W1 W' ∧ ((e = .returned (.bool true) ∧ J (pre ++ [x]) W' ∧ KeepS K W1 W') ∨ (e = .returned (.bool false) ∧ Jx (pre ++ [x]) W'))) →
    J [] W →
    Calls P g (#[.func (.yield l) #[] #[]] ++ lb) W fun e W' => (∃ v, e = .returned v) ∧ ((∃ xs, S xs ∧ J xs W') ∨ (∃ pre, Sp pre ∧ Jx pre W'))

/-- How a round's body may be left. -/
def RoundPost {α : Type} (K : Nat → Prop) (D E : Nat) (I : List α → World → Prop) (Ix : Code → List α → World → Prop) (xs : List α) (W : World) : Exit → Act → World → Prop
  | .normal, _, W' => Still D E W W' ∧ KeepS K W W' ∧ I xs W'
  | .ret, _, W' => Still D E W W' ∧ Ix .ret xs W'
  | .exit id, _, W' => Still D E W W' ∧ Ix (.exit id) xs W'
  | .goto t, _, W' => Still D E W W' ∧ Ix (.goto t) xs W'
  | .panic _, _, _ => False
  | .outgrown, _, _ => False

theorem wide_room (k : Nat) : Fence.wide.room k := room_wide k
theorem roundIn_any {m m' : Nat} {P : Program} {l : Nat} {f : FuncId} {tmps : Array Value} {assign body : Code} {w : World} {R : Ending → World → Prop}
    (h : RoundIn Fence.wide m P l f tmps assign body w R) : RoundIn Fence.wide m' P l f tmps assign body w R := ⟨h.1, fun c cs _ => h.2 c cs (room_wide _)⟩

/-- A round goes into a round as it is. -/
theorem roundIn_in {m m' l1 : Nat} {P : Program} {l : Nat} {f : FuncId} {tmps : Array Value} {assign body : Code} {w : World} {R : Ending → World → Prop}
    (h : RoundIn Fence.wide m P l f tmps assign body w R) : RoundIn (Fence.wide.inRound l1) m' P l f tmps assign body w R := ⟨h.1, fun c cs _ => h.2 c cs (room_wide _)⟩
theorem Still.set {D E : Nat} {A : World} {l : Nat} (h : l < D ∨ E ≤ l) (v : Value) : Still D E A (A.setCell ⟨l, 0, none⟩ v) :=
  ⟨(grownBy_setCell' A l v).size, fun k h1 h2 => Below.heap_setCell _ _ _ k (fun e => by have e' : k = l := e; omega)⟩

/-- The record that a loop keeps, in the state st, with the jump pe. -/
def loopIs (fn : FuncId) (tmps : Array Value) (ps : Array Tmp) (assign body : Code) (D : Nat) (st : LoopState) (pe : Option Code) : Loop :=
  { state := st, pending := pe, fn := fn, tmps := tmps, params := ps, assign := assign, body := body, defers := D }

/-- The way in which a body was left, as a jump that the loop keeps. -/
def jumpOf : Exit → Option (Option Code)
  | .normal => some none
  | .ret => some (some .ret)
  | .exit id => some (some (.exit id))
  | .goto t => some (some (.goto t))
  | .panic _ => none
  | .outgrown => none

/-- One round, from the walk of its body: whichever way that is left, the record was busy there, and R holds of what is answered and of the world in which the record says so. -/
theorem yield_of {n : Nat} {P : Program} {l D : Nat} {fn : FuncId} {tmps : Array Value} {ps : Array Tmp} {assign body : Code} {args : Array Value} {W : World} {a₁ : Act} {R : Ending → World → Prop} {Post : Exit → Act → World → Prop}
    (hl : W.heap[l]? = some (.loop (loopIs fn tmps ps assign body D .ready none))) (hs : args.size = ps.size)
    (hassign : ∀ T : Act → World → Prop, T a₁ W → assign.wpIn (Fence.wide.inRound l) n P (Exit.then T (fun _ _ _ => False)) { tmps := (ps.zip args).foldl (fun t (p, v) => t.setIfInBounds p v) tmps, defers := [] } W)
    (hbody : body.wpIn (Fence.wide.inRound l) n P Post a₁ (W.putObj l (.loop (loopIs fn tmps ps assign body D .busy none))))
    (hpost : ∀ e a U, Post e a U → ∃ j, jumpOf e = some j ∧ U.heap[l]? = some (.loop (loopIs fn tmps ps assign body D .busy none)) ∧
      R (.returned (.bool j.isNone)) (U.putObj l (.loop (loopIs fn tmps ps assign body D (if j.isNone then .ready else .done) j)))) :
    YieldAt Fence.wide 0 P l args W R := by
  have begin := run_beginRound (P := P) hl rfl
  refine ⟨fn, _, assign, body, run_yield hl hs, roundIn_any (m := n) (roundIn_of_wpIn trivial (hassign _ ⟨_, begin, wpIn_mono hbody ?_⟩))⟩
  intro e a U hU
  obtain ⟨j, hj, hb, hR⟩ := hpost e a U hU
  have ending := run_endRound (P := P) j hb
  cases e <;> simp only [jumpOf, Option.some.injEq, reduceCtorEq] at hj
  all_goals
    subst hj
    exact ⟨_, _, ending, hR⟩

/-- One loop over such an iterator, at a function's top. -/
theorem range_law {α : Type} {n : Nat} {P : Program} {g : Operand} {ps : Array Tmp} {assign body : Code} {Q : Exit → Act → World → Prop} {a : Act} {w : World}
    {gf : Nat} {lb : Array Value} (hg : a.eval g = .func (.func gf) #[] lb) (eg : ∀ args w, (callFunc gf args).run P w = .ok (.enter gf args) w)
    {encs : α → Array Value} {K : Nat → Prop} {c : Nat} {S Sp : List α → Prop} {w0 : World} (hseq : SeqP P gf lb encs K c S Sp w0) (hb0 : Below w0.heap.size w0 w) (hKw : ∀ k, K k → k < w.heap.size) (hps : ∀ x, (encs x).size = ps.size)
    (I : List α → World → Prop) (Ix : Code → List α → World → Prop) (hI : Stands w.heap.size (w.heap.size + 2 + c) I) (hIx : ∀ code, Stands w.heap.size (w.heap.size + 2 + c) (Ix code)) (h0 : I [] w) (a₁ : α → Act)
    (hassign : ∀ (l : Nat) (x : α) (W : World) (T : Act → World → Prop), T (a₁ x) W →
      assign.wpIn (Fence.wide.inRound l) n P (Exit.then T (fun _ _ _ => False)) { tmps := (ps.zip (encs x)).foldl (fun t (p, v) => t.setIfInBounds p v) a.tmps, defers := [] } W)
    (hbody : ∀ (pre : List α) (x : α) (W : World), Sp (pre ++ [x]) → I pre W → w.heap.size + 2 + c ≤ W.heap.size → (∃ r, W.heap[w.heap.size + 1]? = some (.loop r)) →
      body.wpIn (Fence.wide.inRound (w.heap.size + 1)) n P (RoundPost K w.heap.size (w.heap.size + 2 + c) I Ix (pre ++ [x]) W) (a₁ x) W)
    (hdone : ∀ (xs : List α) (W : World), S xs → I xs W → w.heap.size + 2 ≤ W.heap.size → W.heap[w.heap.size]? = some (.deferred (some [])) → Q .normal { a with defers := { target := .collected w.heap.size, args := #[] } :: a.defers } W)
    (hstop : ∀ (code : Code) (pre : List α) (W : World), Sp pre → Ix code pre W → w.heap.size + 2 ≤ W.heap.size → W.heap[w.heap.size]? = some (.deferred (some [])) → code.wpIn Fence.wide n P Q { a with defers := { target := .collected w.heap.size, args := #[] } :: a.defers } W) :
    (Code.rangeFunc g ps assign body).wpIn Fence.wide n P Q a w := by
  refine wpIn_rangeFunc fun fn _ => ?_
  obtain ⟨D, hD⟩ : ∃ D, w.heap.size = D := ⟨_, rfl⟩
  obtain ⟨mk, hmk⟩ : ∃ mk, loopIs fn a.tmps ps assign body w.heap.size = mk := ⟨_, rfl⟩
  have henter := run_enterLoop_outer (P := P) (w := w) fn a.tmps ps assign body
  obtain ⟨V, hV⟩ : ∃ V, (w.alloc (.deferred (some []))).alloc (.loop (mk .ready none)) = V := ⟨_, rfl⟩
  have eD : V.heap[D]? = some (.deferred (some [])) := by
    rw [← hV, ← hD, Below.heap_alloc _ _ _ (by simp)]; exact World.alloc_heap_new w _
  have eL : V.heap[D + 1]? = some (.loop (mk .ready none)) := by
    have h := World.alloc_heap_new (w.alloc (.deferred (some []))) (.loop (mk .ready none))
    rw [World.size_alloc, hV, hD] at h; exact h
  have eV : V.heap.size = D + 2 := by rw [← hV, ← hD]; simp
  have bV : Below w0.heap.size w0 V := by
    have h := ((Below.refl w0.heap.size w).alloc hb0.size (.deferred (some []))).alloc (by have := hb0.size; simp; omega) (.loop (mk .ready none))
    rw [hV] at h; exact hb0.trans h
  have iV : I [] V := by rw [← hV]; exact hI.alloc (hI.alloc h0 _) _
  rw [hD] at hI hIx hKw hbody hdone hstop
  -- what the law keeps beside I: the record and the block for deferred calls
  let J : List α → World → Prop := fun pre U => I pre U ∧ (U.heap[D + 1]? = some (.loop (mk .ready none)) ∧ U.heap[D]? = some (.deferred (some [])))
  let Jx : List α → World → Prop := fun pre U => ∃ code, Ix code pre U ∧ (U.heap[D + 1]? = some (.loop (mk .done (some code))) ∧ U.heap[D]? = some (.deferred (some [])))
  have fixed : ∀ (k : Nat) (o : Obj), k < V.heap.size → Stands (β := List α) V.heap.size (V.heap.size + c) (fun _ U => U.heap[k]? = some o) := by
    intro k o hk _ A B row hs hg hm
    refine (hg.block k (Array.getElem?_eq_some_iff.1 hs).1 (fun e => ?_)).trans hs
    have := (hm k e.symm).1
    omega
  have sJ : Stands V.heap.size (V.heap.size + c) J := Stands.and (hI.mono (by omega) (by omega)) (Stands.and (fixed _ _ (by omega)) (fixed _ _ (by omega)))
  have sJx : Stands V.heap.size (V.heap.size + c) Jx := Stands.ex fun code => Stands.and ((hIx code).mono (by omega) (by omega)) (Stands.and (fixed _ _ (by omega)) (fixed _ _ (by omega)))
  have hK' : ¬ K (D + 1) := fun hk => by have := hKw _ hk; omega
  refine ⟨D + 1, [{ target := .collected D, args := #[] }], V, { target := .fn (.func gf) lb, args := #[.func (.yield (D + 1)) #[] #[]] }, V, gf, _, V, ?_, ?_, fun _ _ => trivial, ?_, (fun h => by simp [Fence.wide] at h),
    callsIn_wide.2 ((hseq (D + 1) J Jx V bV sJ sJx ?_ ⟨iV, eL, eD⟩).mono ?_)⟩
  · rw [← hV, ← hmk, ← hD]; exact henter
  · simp only [resolve, hg]
    simp [go_sem]
  · simp [invoke, go_sem, eg]
  · -- one round
    rintro pre x U hSp ⟨hi, hl, hk⟩ hsU
    rw [eV] at hsU ⊢
    have hl' := hl
    rw [← hmk] at hl'
    have put1 : ∀ (A : World) (o : Obj) (k : Nat), k ≠ D + 1 → (A.putObj (D + 1) o).heap[k]? = A.heap[k]? := fun A o k h => World.putObj_heap_other h
    have busy : (U.putObj (D + 1) (.loop (mk .busy none))).heap[D + 1]? = some (.loop (mk .busy none)) := World.putObj_heap_same (Array.getElem?_eq_some_iff.1 hl).1
    refine yield_of hl' (hps x) (hassign _ x U) (by rw [hmk]; exact hbody pre x _ hSp (hI.put hi (by omega) (by omega) _) (by rw [World.putObj_size]; omega) ⟨_, busy⟩) ?_
    rw [hmk]
    have turn : ∀ (j : Option Code) (X : World), Still D (D + 2 + c) (U.putObj (D + 1) (.loop (mk .busy none))) X →
        X.heap[D + 1]? = some (.loop (mk .busy none)) ∧ Still (D + 2) (D + 2 + c) U (X.putObj (D + 1) (.loop (mk (if j.isNone then .ready else .done) j))) ∧
        (X.putObj (D + 1) (.loop (mk (if j.isNone then .ready else .done) j))).heap[D + 1]? = some (.loop (mk (if j.isNone then .ready else .done) j)) ∧
        (X.putObj (D + 1) (.loop (mk (if j.isNone then .ready else .done) j))).heap[D]? = some (.deferred (some [])) := by
      intro j X hX
      have hx := (hX.same (D + 1) (by omega) (by omega)).trans busy
      have z := hX.size
      rw [World.putObj_size] at z
      refine ⟨hx, ⟨by rw [World.putObj_size]; exact z, fun k h1 h2 => ?_⟩, World.putObj_heap_same (Array.getElem?_eq_some_iff.1 hx).1, ?_⟩
      · rw [put1 _ _ k (by omega), hX.same k (by omega) (by omega), put1 _ _ k (by omega)]
      · rw [put1 _ _ D (by omega), hX.same D (by omega) (by omega), put1 _ _ D (by omega)]; exact hk
    intro e a' X hp
    cases e with
    | normal =>
      obtain ⟨hX, hKX, hiX⟩ := hp
      obtain ⟨t1, t2, t3, t4⟩ := turn none X hX
      exact ⟨none, rfl, t1, t2, .inl ⟨rfl, ⟨hI.put hiX (by omega) (by omega) _, t3, t4⟩, ((KeepS.put hK' _).trans hKX).trans (KeepS.put hK' _)⟩⟩
    | ret =>
      obtain ⟨t1, t2, t3, t4⟩ := turn (some .ret) X hp.1
      exact ⟨_, rfl, t1, t2, .inr ⟨rfl, _, (hIx _).put hp.2 (by omega) (by omega) _, t3, t4⟩⟩
    | exit id =>
      obtain ⟨t1, t2, t3, t4⟩ := turn (some (.exit id)) X hp.1
      exact ⟨_, rfl, t1, t2, .inr ⟨rfl, _, (hIx _).put hp.2 (by omega) (by omega) _, t3, t4⟩⟩
    | goto t =>
      obtain ⟨t1, t2, t3, t4⟩ := turn (some (.goto t)) X hp.1
      exact ⟨_, rfl, t1, t2, .inr ⟨rfl, _, (hIx _).put hp.2 (by omega) (by omega) _, t3, t4⟩⟩
    | panic _ => exact hp.elim
    | outgrown => exact hp.elim
  · -- behind the iterator
    rintro e X ⟨⟨v, rfl⟩, h⟩
    have out : ∀ (pe : Option Code) (st : LoopState), st ≠ .busy → X.heap[D + 1]? = some (.loop (mk st pe)) → ∃ o, (Instr.endLoop (D + 1)).run P X = .ok pe (X.putObj (D + 1) o) := by
      intro pe st hst hx
      rw [← hmk] at hx
      exact ⟨_, run_endLoop hx hst⟩
    have at0 : ∀ o, X.heap[D]? = some (.deferred (some [])) → (X.putObj (D + 1) o).heap[D]? = some (.deferred (some [])) := fun o h => (World.putObj_heap_other (by omega)).trans h
    have big : ∀ (o o' : Obj), X.heap[D + 1]? = some o → D + 2 ≤ (X.putObj (D + 1) o').heap.size := fun o o' h => by have := (Array.getElem?_eq_some_iff.1 h).1; rw [World.putObj_size]; omega
    rcases h with ⟨xs, hS, hi, hl, hk⟩ | ⟨pre, hSp, code, hi, hl, hk⟩
    · obtain ⟨o, ho⟩ := out none .ready (by simp) hl
      exact ⟨none, _, ho, hdone xs _ hS (hI.put hi (by omega) (by omega) _) (big _ _ hl) (at0 _ hk)⟩
    · obtain ⟨o, ho⟩ := out (some code) .done (by simp) hl
      exact ⟨some code, _, ho, hstop code pre _ hSp ((hIx code).put hi (by omega) (by omega) _) (big _ _ hl) (at0 _ hk)⟩

end Go.Attic
