/- Ranges over functions whose iterators keep state of their own: the contract of such an iterator (SeqP), and one law for the loop over it. Nothing here speaks of one program. -/
import Derived.RangeFuncNested
import Derived.RangeFuncBound
import Derived.RangeFuncLeaves
import Derived.Test.YtkdajahcadjpfaaBytes
set_option linter.unusedVariables false
namespace Go.Attic
open Go.RowKit

/-- What an iterator that began where the heap had D blocks may turn: its own blocks, those below E, and walks. -/
def Mine (D E : Nat) (A : World) (row : Option Nat) : Prop := ∀ r, row = some r → D ≤ r ∧ (r < E ∨ ∃ o : Obj, A.heap[r]? = some o ∧ o.isWalk = true)
/-- What the one who loops says does not mind that. -/
def Stands {β : Type} (D E : Nat) (J : β → World → Prop) : Prop := ∀ s A B row, J s A → A.grownBy B row → Mine D E A row → J s B
/-- The blocks from D on, below E, lie as they lay. -/
structure Still (D E : Nat) (A B : World) : Prop where
  size : A.heap.size ≤ B.heap.size
  same : ∀ k, D ≤ k → k < E → B.heap[k]? = A.heap[k]?

theorem Still.refl (D E : Nat) (A : World) : Still D E A A := ⟨Nat.le_refl _, fun _ _ _ => rfl⟩
theorem Still.trans {D E : Nat} {A B C : World} (h : Still D E A B) (k : Still D E B C) : Still D E A C :=
  ⟨Nat.le_trans h.size k.size, fun i h1 h2 => (k.same i h1 h2).trans (h.same i h1 h2)⟩
theorem Still.mono {D E D' E' : Nat} {A B : World} (h : Still D E A B) (hD : D ≤ D') (hE : E' ≤ E) : Still D' E' A B :=
  ⟨h.size, fun k h1 h2 => h.same k (by omega) (by omega)⟩
theorem Still.grown {D E : Nat} {A B : World} {row : Option Nat} (h : A.grownBy B row) (hE : E ≤ A.heap.size) (hr : ∀ k, row = some k → k < D ∨ E ≤ k) : Still D E A B :=
  ⟨h.size, fun k h1 h2 => h.block k (by omega) (fun e => by rcases hr k e.symm with h | h <;> omega)⟩
theorem Still.below {D E B0 : Nat} {A B : World} (h : Below B0 A B) (hE : E ≤ B0) : Still D E A B := ⟨h.size, fun k _ h2 => h.block k (by omega)⟩
theorem Still.boxed {D E : Nat} {A B : World} (h : Still D E A B) {k : Nat} {t : TypeId} {v : Value} (hb : Boxed A k t v) (h1 : D ≤ k) (h2 : k < E) : Boxed B k t v := (h.same k h1 h2).trans hb

theorem Stands.alloc {β : Type} {D E : Nat} {J : β → World → Prop} (h : Stands D E J) {s : β} {A : World} (hs : J s A) (o : Obj) : J s (A.alloc o) :=
  h s A _ none hs (World.grownBy_alloc A o none) (fun r e => by cases e)
theorem Stands.put {β : Type} {D E : Nat} {J : β → World → Prop} (h : Stands D E J) {s : β} {A : World} (hs : J s A) {l : Nat} (h1 : D ≤ l) (h2 : l < E) (o : Obj) : J s (A.putObj l o) :=
  h s A _ (some l) hs (grownBy_putObj' A l o) (fun r e => by cases e; exact ⟨h1, .inl h2⟩)
theorem Stands.set {β : Type} {D E : Nat} {J : β → World → Prop} (h : Stands D E J) {s : β} {A : World} (hs : J s A) {l : Nat} (h1 : D ≤ l) (h2 : l < E) (v : Value) : J s (A.setCell ⟨l, 0, none⟩ v) :=
  h s A _ (some l) hs (grownBy_setCell' A l v) (fun r e => by cases e; exact ⟨h1, .inl h2⟩)
theorem Stands.mono {β : Type} {D E D' E' : Nat} {J : β → World → Prop} (h : Stands D E J) (hD : D ≤ D') (hE : E' ≤ E) : Stands D' E' J :=
  fun s A B row hs hg hm => h s A B row hs hg (fun r e => by
    obtain ⟨h1, h2⟩ := hm r e
    exact ⟨by omega, h2.imp (by omega) id⟩)
theorem Stands.and {β : Type} {D E : Nat} {I J : β → World → Prop} (h : Stands D E I) (k : Stands D E J) : Stands D E (fun s W => I s W ∧ J s W) :=
  fun s A B row hs hg hm => ⟨h s A B row hs.1 hg hm, k s A B row hs.2 hg hm⟩
theorem Stands.pure {β : Type} (D E : Nat) (p : β → Prop) : Stands D E (fun s (_ : World) => p s) := fun _ _ _ _ hs _ _ => hs
theorem Stands.ex {β γ : Type} {D E : Nat} {J : γ → β → World → Prop} (h : ∀ c, Stands D E (J c)) : Stands D E (fun s W => ∃ c, J c s W) :=
  fun s A B row hs hg hm => by obtain ⟨c, hc⟩ := hs; exact ⟨c, h c s A B row hc hg hm⟩

/-- A block that holds cells is no walk. -/
theorem mine_ne {D E : Nat} {A : World} {row : Option Nat} (hm : Mine D E A row) {k : Nat} {cs : Array Value} {t : TypeId} {m : Nat × Nat} (hk : A.heap[k]? = some (.cells cs t m)) (h : k < D ∨ E ≤ k) : some k ≠ row := by
  intro e
  obtain ⟨h1, h2 | ⟨o, ho, hw⟩⟩ := hm k e.symm
  · omega
  · rw [hk] at ho; cases ho; cases hw
theorem stands_boxed {β : Type} {D E : Nat} (k : Nat) (t : TypeId) (f : β → Value) (h : k < D ∨ E ≤ k) : Stands D E (fun s W => Boxed W k t (f s)) :=
  fun s A B row hs hg hm => hs.kept hg (mine_ne hm hs h)
theorem stands_owns {β : Type} {D E : Nat} (base : Nat) (e : TypeId) (size : Nat) (f : β → Value) (n : β → Nat) (xs : β → List Value) (h : E ≤ base) : Stands D E (fun s W => W.ownsRow base e size (f s) (n s) (xs s)) :=
  fun s A B row hs hg hm => by
    refine hs.kept hg ?_
    rcases hs.2 with ⟨e1, _⟩ | ⟨g, cap, cur, e1, hb, hgb, _⟩
    · exact .inl (by rw [e1]; rfl)
    · refine .inr ?_
      rw [e1]
      exact mine_ne hm (k := g) hgb (.inr (Nat.le_trans h hb))
theorem stands_below {β : Type} {D E : Nat} (B0 : Nat) (w : World) (hB : B0 ≤ w.heap.size) (h : B0 ≤ D) : Stands D E (fun (_ : β) W => Below B0 w W) :=
  fun s A B row hs hg hm => hs.grown hg (by have := hs.size; omega) (fun k e => by have := (hm k e).1; omega)

/-- The blocks of K lie as they lay. -/
structure KeepS (K : Nat → Prop) (A B : World) : Prop where
  size : A.heap.size ≤ B.heap.size
  same : ∀ k, K k → B.heap[k]? = A.heap[k]?
theorem KeepS.refl (K : Nat → Prop) (A : World) : KeepS K A A := ⟨Nat.le_refl _, fun _ _ => rfl⟩
theorem KeepS.trans {K : Nat → Prop} {A B C : World} (h : KeepS K A B) (k : KeepS K B C) : KeepS K A C :=
  ⟨Nat.le_trans h.size k.size, fun i h1 => (k.same i h1).trans (h.same i h1)⟩
theorem KeepS.put {K : Nat → Prop} {A : World} {l : Nat} (h : ¬ K l) (o : Obj) : KeepS K A (A.putObj l o) :=
  ⟨by simp, fun k hk => World.putObj_heap_other (fun e => h (e ▸ hk))⟩
theorem KeepS.set {K : Nat → Prop} {A : World} {l : Nat} (h : ¬ K l) (v : Value) : KeepS K A (A.setCell ⟨l, 0, none⟩ v) :=
  ⟨(grownBy_setCell' A l v).size, fun k hk => Below.heap_setCell _ _ _ k (fun e => h (by have e' : k = l := e; exact e' ▸ hk))⟩
theorem KeepS.below {K : Nat → Prop} {A B : World} {n : Nat} (h : Below n A B) (hK : ∀ k, K k → k < n) : KeepS K A B := ⟨h.size, fun k hk => h.block k (hK k hk)⟩
theorem KeepS.boxed {K : Nat → Prop} {A B : World} (h : KeepS K A B) {k : Nat} {t : TypeId} {v : Value} (hb : Boxed A k t v) (h1 : K k) : Boxed B k t v := (h.same k h1).trans hb
theorem KeepS.bs {K : Nat → Prop} {A B : World} (h : KeepS K A B) {v : Value} {l : List Nat} (hb : Bs A v l) (hv : ∀ b, v.ownBlock = some b → K b) : Bs B v l := by
  obtain ⟨ao, cap, rfl, h1, h2, h3, h4⟩ := hb
  refine ⟨ao, cap, rfl, h1, h2, h3, fun hp => ?_⟩
  obtain ⟨b, off, rfl, hc⟩ := h4 hp
  exact ⟨b, off, rfl, fun i hi => (World.cell?_of_block (h.same b (hv b rfl))).trans (hc i hi)⟩

/-- The contract of an iterator that keeps c blocks of its own: as long as each round keeps them, and the blocks of K, it gives all (S), or a part (Sp) behind a round that said no. -/
def SeqP {α : Type} (P : Program) (g : Nat) (lb : Array Value) (encs : α → Array Value) (K : Nat → Prop) (c : Nat) (S Sp : List α → Prop) (w0 : World) : Prop :=
  ∀ (l : Nat) (J Jx : List α → World → Prop) (W : World), Below w0.heap.size w0 W → Stands W.heap.size (W.heap.size + c) J → Stands W.heap.size (W.heap.size + c) Jx →
    (∀ pre x W1, Sp (pre ++ [x]) → J pre W1 → W.heap.size + c ≤ W1.heap.size → YieldAt Fence.wide 0 P l (encs x) W1 fun e W' =>
      Still W.heap.size (W.heap.size + c) W1 W' ∧ ((e = .returned (.bool true) ∧ J (pre ++ [x]) W' ∧ KeepS K W1 W') ∨ (e = .returned (.bool false) ∧ Jx (pre ++ [x]) W'))) →
    J [] W →
    Calls P g (#[.func (.yield l) #[] #[]] ++ lb) W fun e W' => (∃ v, e = .returned v) ∧ ((∃ xs, S xs ∧ J xs W') ∨ (∃ pre, Sp pre ∧ Jx pre W'))

/-- How a round's body may be left. -/
def RoundPost {α : Type} (K : Nat → Prop) (D E : Nat) (I : List α → World → Prop) (Ix : Code → List α → World → Prop) (xs : List α) (W : World) : Exit → Act → World → Prop
  | .normal, _, W' => Still D E W W' ∧ KeepS K W W' ∧ I xs W'
  | .ret, _, W' => Still D E W W' ∧ Ix .ret xs W'
  | .exit id, _, W' => Still D E W W' ∧ Ix (.exit id) xs W'
  | .goto t, _, W' => Still D E W W' ∧ Ix (.goto t) xs W'
  | .panic _, _, _ => False
  | .outgrown, _, _ => False

theorem wide_room (k : Nat) : Fence.wide.room k := room_wide k
theorem roundIn_any {m m' : Nat} {P : Program} {l : Nat} {f : FuncId} {tmps : Array Value} {assign body : Code} {w : World} {R : Ending → World → Prop}
    (h : RoundIn Fence.wide m P l f tmps assign body w R) : RoundIn Fence.wide m' P l f tmps assign body w R := ⟨h.1, fun c cs _ => h.2 c cs (room_wide _)⟩

/-- A round goes into a round as it is. -/
theorem roundIn_in {m m' l1 : Nat} {P : Program} {l : Nat} {f : FuncId} {tmps : Array Value} {assign body : Code} {w : World} {R : Ending → World → Prop}
    (h : RoundIn Fence.wide m P l f tmps assign body w R) : RoundIn (Fence.wide.inRound l1) m' P l f tmps assign body w R := ⟨h.1, fun c cs _ => h.2 c cs (room_wide _)⟩
theorem Still.set {D E : Nat} {A : World} {l : Nat} (h : l < D ∨ E ≤ l) (v : Value) : Still D E A (A.setCell ⟨l, 0, none⟩ v) :=
  ⟨(grownBy_setCell' A l v).size, fun k h1 h2 => Below.heap_setCell _ _ _ k (fun e => by have e' : k = l := e; omega)⟩

/-- One loop over such an iterator, at a function's top. -/
theorem range_law {α : Type} {n : Nat} {P : Program} {g : Operand} {ps : Array Tmp} {assign body : Code} {Q : Exit → Act → World → Prop} {a : Act} {w : World}
    {gf : Nat} {lb : Array Value} (hg : a.eval g = .func (.func gf) #[] lb) (eg : ∀ args w, (callFunc gf args).run P w = .ok (.enter gf args) w)
    {encs : α → Array Value} {K : Nat → Prop} {c : Nat} {S Sp : List α → Prop} {w0 : World} (hseq : SeqP P gf lb encs K c S Sp w0) (hb0 : Below w0.heap.size w0 w) (hKw : ∀ k, K k → k < w.heap.size) (hps : ∀ x, (encs x).size = ps.size)
    (I : List α → World → Prop) (Ix : Code → List α → World → Prop) (hI : Stands w.heap.size (w.heap.size + 2 + c) I) (hIx : ∀ code, Stands w.heap.size (w.heap.size + 2 + c) (Ix code)) (h0 : I [] w) (a₁ : α → Act)
    (hassign : ∀ (l : Nat) (x : α) (W : World) (T : Act → World → Prop), T (a₁ x) W →
      assign.wpIn (Fence.wide.inRound l) n P (Exit.then T (fun _ _ _ => False)) { tmps := (ps.zip (encs x)).foldl (fun t (p, v) => t.setIfInBounds p v) a.tmps, defers := [] } W)
    (hbody : ∀ (pre : List α) (x : α) (W : World), Sp (pre ++ [x]) → I pre W → w.heap.size + 2 + c ≤ W.heap.size → (∃ r, W.heap[w.heap.size + 1]? = some (.loop r)) →
      body.wpIn (Fence.wide.inRound (w.heap.size + 1)) n P (RoundPost K w.heap.size (w.heap.size + 2 + c) I Ix (pre ++ [x]) W) (a₁ x) W)
    (hdone : ∀ (xs : List α) (W : World), S xs → I xs W → w.heap.size + 2 ≤ W.heap.size → W.heap[w.heap.size]? = some (.deferred (some [])) → Q .normal { a with defers := { target := .collected w.heap.size, args := #[] } :: a.defers } W)
    (hstop : ∀ (code : Code) (pre : List α) (W : World), Sp pre → Ix code pre W → w.heap.size + 2 ≤ W.heap.size → W.heap[w.heap.size]? = some (.deferred (some [])) → code.wpIn Fence.wide n P Q { a with defers := { target := .collected w.heap.size, args := #[] } :: a.defers } W) :
    (Code.rangeFunc g ps assign body).wpIn Fence.wide n P Q a w := by
  refine wpIn_rangeFunc fun fn _ => ?_
  obtain ⟨rec, hrec⟩ : ∃ rec : LoopState → Option Code → Loop, rec = fun st pe => { state := st, pending := pe, fn, tmps := a.tmps, params := ps, assign, body, defers := w.heap.size } := ⟨_, rfl⟩
  obtain ⟨W1, hW1⟩ : ∃ W1, (w.alloc (.deferred (some []))).alloc (.loop (rec .ready none)) = W1 := ⟨_, rfl⟩
  have hsz : W1.heap.size = w.heap.size + 2 := by rw [← hW1]; simp
  have hL : W1.heap[w.heap.size + 1]? = some (.loop (rec .ready none)) := by
    have := World.alloc_heap_new (w.alloc (.deferred (some []))) (.loop (rec .ready none))
    rw [World.size_alloc, hW1] at this; exact this
  have hK : W1.heap[w.heap.size]? = some (.deferred (some [])) := by
    rw [← hW1]; exact (Below.heap_alloc _ _ _ (by simp)).trans (World.alloc_heap_new w _)
  have hI1 : I [] W1 := by rw [← hW1]; exact hI.alloc (hI.alloc h0 _) _
  have hb1 : Below w0.heap.size w0 W1 := by
    rw [← hW1]; exact hb0.trans ((((Below.refl _ w).alloc (Nat.le_refl _) _).alloc (by simp) _).mono hb0.size)
  refine ⟨w.heap.size + 1, [{ target := .collected w.heap.size, args := #[] }], W1, { target := .fn (.func gf) lb, args := #[.func (.yield (w.heap.size + 1)) #[] #[]] }, W1, gf,
    #[.func (.yield (w.heap.size + 1)) #[] #[]] ++ lb, W1, ?_, ?_, fun _ _ => trivial, ?_, (fun h => by simp [Fence.wide] at h), ?_⟩
  · rw [← hW1, hrec]; exact run_enterLoop_outer _ _ _ _ _
  · simp only [resolve, hg]
    simp [go_sem]
  · simp [invoke, go_sem, eg]
  · have keep : ∀ {A B : World} {row : Option Nat} {k : Nat} {o : Obj}, A.grownBy B row → Mine W1.heap.size (W1.heap.size + c) A row → A.heap[k]? = some o → k < W1.heap.size → B.heap[k]? = some o := by
      intro A B row k o hg hm hk hlt
      refine (hg.block k (Array.getElem?_eq_some_iff.1 hk).1 (fun e => ?_)).trans hk
      have := (hm k e.symm).1
      omega
    refine callsIn_wide.2 ((hseq (w.heap.size + 1)
      (fun pre W => I pre W ∧ W.heap[w.heap.size + 1]? = some (.loop (rec .ready none)) ∧ W.heap[w.heap.size]? = some (.deferred (some [])))
      (fun pre W => ∃ code, Ix code pre W ∧ W.heap[w.heap.size + 1]? = some (.loop (rec .done (some code))) ∧ W.heap[w.heap.size]? = some (.deferred (some [])))
      W1 hb1
      (fun s A B row hs hg hm => ⟨(hI.mono (by omega) (by omega)) s A B row hs.1 hg hm, keep hg hm hs.2.1 (by omega), keep hg hm hs.2.2 (by omega)⟩)
      (fun s A B row hs hg hm => by
        obtain ⟨code, h1, h2, h3⟩ := hs
        exact ⟨code, ((hIx code).mono (by omega) (by omega)) s A B row h1 hg hm, keep hg hm h2 (by omega), keep hg hm h3 (by omega)⟩)
      ?_ ⟨hI1, hL, hK⟩).mono ?_)
    · rintro pre x W hSp ⟨hi, hl, hk⟩ hsW
      have hlt : w.heap.size + 1 < W.heap.size := (Array.getElem?_eq_some_iff.1 hl).1
      have hy := run_yield (P := P) (args := encs x) hl (by rw [hrec]; exact hps x)
      rw [hrec] at hy
      refine ⟨fn, _, assign, body, hy, roundIn_any (m := n) (roundIn_of_wpIn trivial (hassign _ x W _ ⟨_, run_beginRound hl (by rw [hrec]), ?_⟩))⟩
      obtain ⟨V, hV⟩ : ∃ V, W.putObj (w.heap.size + 1) (.loop { rec .ready none with state := .busy }) = V := ⟨_, rfl⟩
      have hl2 : V.heap[w.heap.size + 1]? = some (.loop { rec .ready none with state := .busy }) := by rw [← hV]; exact World.putObj_heap_same hlt
      have hk2 : V.heap[w.heap.size]? = some (.deferred (some [])) := by rw [← hV]; exact (World.putObj_heap_other (by omega)).trans hk
      have hiV : I pre V := by rw [← hV]; exact hI.put hi (by omega) (by omega) _
      have hsV : w.heap.size + 2 + c ≤ V.heap.size := by rw [← hV, World.putObj_size]; omega
      have hWV : Still W1.heap.size (W1.heap.size + c) W V := by
        rw [← hV]; exact ⟨by simp, fun k h1 h2 => World.putObj_heap_other (by omega)⟩
      have hWb : KeepS K W V := by
        rw [← hV]; exact KeepS.put (fun hk => by have := hKw _ hk; omega) _
      rw [hV]
      clear hV
      refine wpIn_mono (hbody pre x V hSp hiV hsV ⟨_, hl2⟩) ?_
      have fin : ∀ (jump : Option Code) (U : World), Still w.heap.size (w.heap.size + 2 + c) V U →
          (Instr.endRound (w.heap.size + 1) jump).run P U = .ok (.bool jump.isNone) (U.putObj (w.heap.size + 1) (.loop (rec (if jump.isNone then .ready else .done) jump))) ∧
          (U.putObj (w.heap.size + 1) (.loop (rec (if jump.isNone then .ready else .done) jump))).heap[w.heap.size + 1]? = some (.loop (rec (if jump.isNone then .ready else .done) jump)) ∧
          (U.putObj (w.heap.size + 1) (.loop (rec (if jump.isNone then .ready else .done) jump))).heap[w.heap.size]? = some (.deferred (some [])) ∧
          Still W1.heap.size (W1.heap.size + c) W (U.putObj (w.heap.size + 1) (.loop (rec (if jump.isNone then .ready else .done) jump))) := fun jump U hU => by
        have hl3 := (hU.same (w.heap.size + 1) (by omega) (by omega)).trans hl2
        have hk3 := (hU.same w.heap.size (by omega) (by omega)).trans hk2
        have hr := run_endRound (P := P) jump hl3
        rw [hrec] at hr ⊢
        refine ⟨hr, World.putObj_heap_same (Array.getElem?_eq_some_iff.1 hl3).1, (World.putObj_heap_other (by omega)).trans hk3, hWV.trans ((hU.mono (by omega) (by omega)).trans ⟨by simp, fun k h1 h2 => World.putObj_heap_other (by omega)⟩)⟩
      have bel : ∀ (U : World) (o : Obj), KeepS K U (U.putObj (w.heap.size + 1) o) := fun U o => KeepS.put (fun hk => by have := hKw _ hk; omega) _
      rintro e a3 U hp
      cases e with
      | normal =>
        obtain ⟨hU, hn, hiU⟩ := hp
        obtain ⟨hr, f1, f2, f3⟩ := fin none U hU
        exact ⟨_, _, hr, f3, .inl ⟨rfl, ⟨hI.put hiU (by omega) (by omega) _, f1, f2⟩, hWb.trans (hn.trans (bel U _))⟩⟩
      | ret =>
        obtain ⟨hU, hiU⟩ := hp
        obtain ⟨hr, f1, f2, f3⟩ := fin (some .ret) U hU
        exact ⟨_, _, hr, f3, .inr ⟨rfl, _, (hIx _).put hiU (by omega) (by omega) _, f1, f2⟩⟩
      | exit id =>
        obtain ⟨hU, hiU⟩ := hp
        obtain ⟨hr, f1, f2, f3⟩ := fin (some (.exit id)) U hU
        exact ⟨_, _, hr, f3, .inr ⟨rfl, _, (hIx _).put hiU (by omega) (by omega) _, f1, f2⟩⟩
      | goto t =>
        obtain ⟨hU, hiU⟩ := hp
        obtain ⟨hr, f1, f2, f3⟩ := fin (some (.goto t)) U hU
        exact ⟨_, _, hr, f3, .inr ⟨rfl, _, (hIx _).put hiU (by omega) (by omega) _, f1, f2⟩⟩
      | panic ch => exact hp.elim
      | outgrown => exact hp.elim
    · rintro e W2 ⟨⟨v, rfl⟩, (⟨xs, hS, hi, hl, hk⟩ | ⟨pre, hSp, code, hi, hl, hk⟩)⟩
      · exact ⟨none, _, by have := run_endLoop (P := P) hl (by rw [hrec]; simp); rw [hrec] at this; exact this, hdone xs _ hS (hI.put hi (by omega) (by omega) _) (by have := (Array.getElem?_eq_some_iff.1 hl).1; rw [World.putObj_size]; omega) ((World.putObj_heap_other (by omega)).trans hk)⟩
      · exact ⟨some code, _, by have := run_endLoop (P := P) hl (by rw [hrec]; simp); rw [hrec] at this; exact this, hstop code pre _ hSp ((hIx code).put hi (by omega) (by omega) _) (by have := (Array.getElem?_eq_some_iff.1 hl).1; rw [World.putObj_size]; omega) ((World.putObj_heap_other (by omega)).trans hk)⟩

end Go.Attic
