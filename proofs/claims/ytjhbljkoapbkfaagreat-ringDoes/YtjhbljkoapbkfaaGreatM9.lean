/- Contracts: New, Of. Ranges over functions whose iterators keep state of their own: the contract of such an iterator (SeqP), and one law for the loop over it. Nothing here speaks of one program. Contracts: slices.Backward over pending writes and its iterator. -/
import Derived.Test.YtjhbljkoapbkfaaGreatM8
import Derived.RangeFuncNested
import Derived.RangeFuncBound
import Derived.RangeFuncLeaves
import Derived.Test.YtjhbljkoapbkfaaGreatM1
import Derived.OwnWalkIn
import Derived.TacticsInMore
import Derived.LoopNIn
import Derived.LoopIn
import Derived.RangeFuncBox
import Derived.Shelf.Abstract
import Derived.Shelf.RegionOpen
import Derived.RangeFuncCalls
set_option linter.unusedSimpArgs false
set_option linter.unusedVariables false

namespace Go.Proofs.YtjhbljkoapbkfaaGreat
open Go.RowKit Go.Attic

/-- A disk with a medium. -/
def ofS (l : List Nat) : St := { med := l, pend := [], left := 0, picks := [], ops := 0, on := true }

/-- A disk of noughts. -/
def newS (n : Nat) : St := ofS (List.replicate (n * 256) 0)

theorem ofS_ok {l : List Nat} {n : Nat} (hl : l.length = 256 * n) (h1 : 1 ≤ n) (h2 : n ≤ 2048) (hx : ∀ x ∈ l, x < 256) : (ofS l).Ok n := ⟨hl, h1, h2, hx, by simp [ofS], by simp [ofS], by simp [ofS]⟩

theorem Dk.made {w : World} {m n cap : Nat} {l : List Nat} (ho : w.ownsRow 0 5 1 (.slice (some ⟨m, 0, none⟩) l.length cap) l.length (cellsB l)) (hok : (ofS l).Ok n) :
    Dk (w.alloc (.cells #[.slice (some ⟨m, 0, none⟩) l.length cap, .slice none 0 0, .int .i64 0, .slice none 0 0, .int .i64 0, .bool true] 77)) w.heap.size m none (fun _ => False) n (ofS l) := by
  have hml := owns_lt' ho m rfl
  refine ⟨⟨cap, by simp [ofS], ho.alloc _⟩, ⟨.slice none 0 0, [], by simp, ⟨World.ownsRow_nil _ _ _ _, rfl, rfl, by simp, by simp [ofS]⟩⟩, by simp [ofS], ⟨.slice none 0 0, by simp, Bs.nil _, by simp [Value.ownBlock]⟩, by simp [ofS], by simp [ofS], by simp, by simp, by simp, by simp, by simp, by simp, by omega, id, id, fun _ h => h.elim, hok⟩

/-- What a call that makes a disk leaves. -/
def NewDk (w : World) (n : Nat) (s : St) (e : Ending) (w' : World) : Prop :=
  ∃ g m, e = .returned (.tuple #[.pointer (some ⟨g, 0, none⟩), .int .i64 0]) ∧ Dk w' g m none (fun _ => False) n s ∧ Below w.heap.size w w' ∧ w.heap.size ≤ g ∧ w.heap.size ≤ m

set_option maxRecDepth 100000 in
set_option maxHeartbeats 400000 in
theorem new_yes (n : Nat) (w : World) (h1 : 1 ≤ n) (h2 : n ≤ 2048) : Calls Tryz.prog 10 #[.int .i64 (n : Int)] w (NewDk w n (newS n)) := by
  obtain ⟨i0, hi, hz0, hz1, hz2⟩ := info_parts Tryz.info5
  have hs := isSize_any (n : Int) w
  rw [show decide (1 ≤ (n : Int) ∧ (n : Int) ≤ 2048) = true by simp; omega] at hs
  go_enter Tryz.func10, Tryz.ntmps10
  go_wp2_with fail
  refine hs.mono ?_
  rintro e w' ⟨rfl, rfl⟩
  go_wp2_with (at_make; refine wpList_make_full _ rfl (.tmp 8) (.tmp 8) 30 rfl 0 5 i0 (.int .u8 0) 1 Tryz.underlying30 hi hz0 hz1 .i64 .i64 _ _ (n * 256) rfl rfl (by simp) (by simp) (by rw [hz2]; omega) (by unfold maxLen; omega) (Nat.zero_le _) ?_; intro w1 hown hgrow)
  have hb1 : Below w.heap.size w w1 := (Below.refl _ _).grown hgrow (Nat.le_refl _) (by intro k hk; cases hk)
  rw [made_zeros] at hown
  have hl : (List.replicate (n * 256) 0).length = n * 256 := List.length_replicate
  have hD := Dk.made (l := List.replicate (n * 256) 0) (n := n) (w := w1) (m := w.heap.size) (cap := n * 256) (by rw [hl]; exact hown) (ofS_ok (by rw [hl]; omega) h1 h2 (fun x hx => by rw [List.eq_of_mem_replicate hx]; omega))
  rw [hl] at hD
  have HD := hide hD
  clear hD hl hown
  go_ret2
  have hz := hb1.size
  exact ⟨_, _, rfl, HD.out, hb1.alloc hz _, hz, Nat.le_refl _⟩

set_option maxRecDepth 100000 in
set_option maxHeartbeats 400000 in
theorem new_no (n : Int) (w : World) (h : ¬ (1 ≤ n ∧ n ≤ 2048)) : Calls Tryz.prog 10 #[.int .i64 n] w fun e w' => e = .returned (.tuple #[.pointer none, .int .i64 1]) ∧ w = w' := by
  have hs := isSize_any n w
  rw [show decide (1 ≤ n ∧ n ≤ 2048) = false by simp; omega] at hs
  clear h
  go_enter Tryz.func10, Tryz.ntmps10
  go_wp2_with fail
  refine hs.mono ?_
  rintro e w' ⟨rfl, rfl⟩
  go_wp2
  go_ret2
  exact ⟨by simp, rfl⟩



end Go.Proofs.YtjhbljkoapbkfaaGreat

namespace Go.Attic
open Go.RowKit

/-- What an iterator that began where the heap had D blocks may turn: its own blocks, those below E. -/
def Mine (D E : Nat) (A : World) (row : Option Nat) : Prop := ∀ r, row = some r → D ≤ r ∧ r < E
/-- What the one who loops says does not mind that. -/
def Stands {β : Type} (D E : Nat) (J : β → World → Prop) : Prop := ∀ s A B row, J s A → A.grownBy B row → Mine D E A row → J s B
/-- The blocks from D on, below E, lie as they lay. -/
structure Still (D E : Nat) (A B : World) : Prop where
  size : A.heap.size ≤ B.heap.size
  same : ∀ k, D ≤ k → k < E → B.heap[k]? = A.heap[k]?

theorem Still.refl (D E : Nat) (A : World) : Still D E A A := ⟨Nat.le_refl _, fun _ _ _ => rfl⟩
theorem Still.trans {D E : Nat} {A B C : World} (h : Still D E A B) (k : Still D E B C) : Still D E A C :=
  ⟨Nat.le_trans h.size k.size, fun i h1 h2 => (k.same i h1 h2).trans (h.same i h1 h2)⟩
theorem Still.mono {D E D' E' : Nat} {A B : World} (h : Still D E A B) (hD : D ≤ D') (hE : E' ≤ E) : Still D' E' A B :=
  ⟨h.size, fun k h1 h2 => h.same k (by omega) (by omega)⟩
theorem Still.grown {D E : Nat} {A B : World} {row : Option Nat} (h : A.grownBy B row) (hE : E ≤ A.heap.size) (hr : ∀ k, row = some k → k < D ∨ E ≤ k) : Still D E A B :=
  ⟨h.size, fun k h1 h2 => h.block k (by omega) (fun e => by rcases hr k e.symm with h | h <;> omega)⟩
theorem Still.below {D E B0 : Nat} {A B : World} (h : Below B0 A B) (hE : E ≤ B0) : Still D E A B := ⟨h.size, fun k _ h2 => h.block k (by omega)⟩
theorem Still.boxed {D E : Nat} {A B : World} (h : Still D E A B) {k : Nat} {t : TypeId} {v : Value} (hb : Boxed A k t v) (h1 : D ≤ k) (h2 : k < E) : Boxed B k t v := (h.same k h1 h2).trans hb

theorem Stands.alloc {β : Type} {D E : Nat} {J : β → World → Prop} (h : Stands D E J) {s : β} {A : World} (hs : J s A) (o : Obj) : J s (A.alloc o) :=
  h s A _ none hs (World.grownBy_alloc A o none) (fun r e => by cases e)
theorem Stands.put {β : Type} {D E : Nat} {J : β → World → Prop} (h : Stands D E J) {s : β} {A : World} (hs : J s A) {l : Nat} (h1 : D ≤ l) (h2 : l < E) (o : Obj) : J s (A.putObj l o) :=
  h s A _ (some l) hs (grownBy_putObj' A l o) (fun r e => by cases e; exact ⟨h1, h2⟩)
theorem Stands.set {β : Type} {D E : Nat} {J : β → World → Prop} (h : Stands D E J) {s : β} {A : World} (hs : J s A) {l : Nat} (h1 : D ≤ l) (h2 : l < E) (v : Value) : J s (A.setCell ⟨l, 0, none⟩ v) :=
  h s A _ (some l) hs (grownBy_setCell' A l v) (fun r e => by cases e; exact ⟨h1, h2⟩)
theorem Stands.mono {β : Type} {D E D' E' : Nat} {J : β → World → Prop} (h : Stands D E J) (hD : D ≤ D') (hE : E' ≤ E) : Stands D' E' J :=
  fun s A B row hs hg hm => h s A B row hs hg (fun r e => by
    obtain ⟨h1, h2⟩ := hm r e
    exact ⟨by omega, by omega⟩)
theorem Stands.and {β : Type} {D E : Nat} {I J : β → World → Prop} (h : Stands D E I) (k : Stands D E J) : Stands D E (fun s W => I s W ∧ J s W) :=
  fun s A B row hs hg hm => ⟨h s A B row hs.1 hg hm, k s A B row hs.2 hg hm⟩
theorem Stands.pure {β : Type} (D E : Nat) (p : β → Prop) : Stands D E (fun s (_ : World) => p s) := fun _ _ _ _ hs _ _ => hs
theorem Stands.ex {β γ : Type} {D E : Nat} {J : γ → β → World → Prop} (h : ∀ c, Stands D E (J c)) : Stands D E (fun s W => ∃ c, J c s W) :=
  fun s A B row hs hg hm => by obtain ⟨c, hc⟩ := hs; exact ⟨c, h c s A B row hc hg hm⟩

/-- A block that holds cells is no walk. -/
theorem mine_ne {D E : Nat} {A : World} {row : Option Nat} (hm : Mine D E A row) {k : Nat} {cs : Array Value} {t : TypeId} {m : Nat × Nat} (hk : A.heap[k]? = some (.cells cs t m)) (h : k < D ∨ E ≤ k) : some k ≠ row := by
  intro e
  obtain ⟨h1, h2⟩ := hm k e.symm
  omega
theorem stands_boxed {β : Type} {D E : Nat} (k : Nat) (t : TypeId) (f : β → Value) (h : k < D ∨ E ≤ k) : Stands D E (fun s W => Boxed W k t (f s)) :=
  fun s A B row hs hg hm => hs.kept hg (mine_ne hm hs h)
theorem stands_owns {β : Type} {D E : Nat} (base : Nat) (e : TypeId) (size : Nat) (f : β → Value) (n : β → Nat) (xs : β → List Value) (h : E ≤ base) : Stands D E (fun s W => W.ownsRow base e size (f s) (n s) (xs s)) :=
  fun s A B row hs hg hm => by
    refine hs.kept hg ?_
    rcases hs.2 with ⟨e1, _⟩ | ⟨g, cap, cur, e1, hb, hgb, _⟩
    · exact .inl (by rw [e1]; rfl)
    · refine .inr ?_
      rw [e1]
      exact mine_ne hm (k := g) hgb (.inr (Nat.le_trans h hb))
theorem stands_below {β : Type} {D E : Nat} (B0 : Nat) (w : World) (hB : B0 ≤ w.heap.size) (h : B0 ≤ D) : Stands D E (fun (_ : β) W => Below B0 w W) :=
  fun s A B row hs hg hm => hs.grown hg (by have := hs.size; omega) (fun k e => by have := (hm k e).1; omega)

/-- The blocks of K lie as they lay. -/
structure KeepS (K : Nat → Prop) (A B : World) : Prop where
  size : A.heap.size ≤ B.heap.size
  same : ∀ k, K k → B.heap[k]? = A.heap[k]?
theorem KeepS.refl (K : Nat → Prop) (A : World) : KeepS K A A := ⟨Nat.le_refl _, fun _ _ => rfl⟩
theorem KeepS.trans {K : Nat → Prop} {A B C : World} (h : KeepS K A B) (k : KeepS K B C) : KeepS K A C :=
  ⟨Nat.le_trans h.size k.size, fun i h1 => (k.same i h1).trans (h.same i h1)⟩
theorem KeepS.put {K : Nat → Prop} {A : World} {l : Nat} (h : ¬ K l) (o : Obj) : KeepS K A (A.putObj l o) :=
  ⟨by simp, fun k hk => World.putObj_heap_other (fun e => h (e ▸ hk))⟩
theorem KeepS.set {K : Nat → Prop} {A : World} {l : Nat} (h : ¬ K l) (v : Value) : KeepS K A (A.setCell ⟨l, 0, none⟩ v) :=
  ⟨(grownBy_setCell' A l v).size, fun k hk => Below.heap_setCell _ _ _ k (fun e => h (by have e' : k = l := e; exact e' ▸ hk))⟩
theorem KeepS.below {K : Nat → Prop} {A B : World} {n : Nat} (h : Below n A B) (hK : ∀ k, K k → k < n) : KeepS K A B := ⟨h.size, fun k hk => h.block k (hK k hk)⟩
theorem KeepS.boxed {K : Nat → Prop} {A B : World} (h : KeepS K A B) {k : Nat} {t : TypeId} {v : Value} (hb : Boxed A k t v) (h1 : K k) : Boxed B k t v := (h.same k h1).trans hb
theorem KeepS.bs {K : Nat → Prop} {A B : World} (h : KeepS K A B) {v : Value} {l : List Nat} (hb : Bs A v l) (hv : ∀ b, v.ownBlock = some b → K b) : Bs B v l := by
  obtain ⟨ao, cap, rfl, h1, h2, h3, h4⟩ := hb
  refine ⟨ao, cap, rfl, h1, h2, h3, fun hp => ?_⟩
  obtain ⟨b, off, rfl, hc⟩ := h4 hp
  exact ⟨b, off, rfl, fun i hi => (World.cell?_of_block (h.same b (hv b rfl))).trans (hc i hi)⟩

/-- The contract of an iterator that keeps c blocks of its own: as long as each round keeps them, and the blocks of K, it gives all (S), or a part (Sp) behind a round that said no. -/
def SeqP {α : Type} (P : Program) (g : Nat) (lb : Array Value) (encs : α → Array Value) (K : Nat → Prop) (c : Nat) (S Sp : List α → Prop) (w0 : World) : Prop :=
  ∀ (l : Nat) (J Jx : List α → World → Prop) (W : World), Below w0.heap.size w0 W → Stands W.heap.size (W.heap.size + c) J → Stands W.heap.size (W.heap.size + c) Jx →
    (∀ pre x W1, Sp (pre ++ [x]) → J pre W1 → W.heap.size + c ≤ W1.heap.size → YieldAt Fence.wide 0 P l (encs x) W1 fun e W' =>
      Still W.heap.size (W.heap.size + c) W1 W' ∧ ((e = .returned (.bool true) ∧ J (pre ++ [x]) W' ∧ KeepS K W1 W') ∨ (e = .returned (.bool false) ∧ Jx (pre ++ [x]) W'))) →
    J [] W →
    Calls P g (#[.func (.yield l) #[] #[]] ++ lb) W fun e W' => (∃ v, e = .returned v) ∧ ((∃ xs, S xs ∧ J xs W') ∨ (∃ pre, Sp pre ∧ Jx pre W'))

/-- How a round's body may be left. -/
def RoundPost {α : Type} (K : Nat → Prop) (D E : Nat) (I : List α → World → Prop) (Ix : Code → List α → World → Prop) (xs : List α) (W : World) : Exit → Act → World → Prop
  | .normal, _, W' => Still D E W W' ∧ KeepS K W W' ∧ I xs W'
  | .ret, _, W' => Still D E W W' ∧ Ix .ret xs W'
  | .exit id, _, W' => Still D E W W' ∧ Ix (.exit id) xs W'
  | .goto t, _, W' => Still D E W W' ∧ Ix (.goto t) xs W'
  | .panic _, _, _ => False
  | .outgrown, _, _ => False

theorem wide_room (k : Nat) : Fence.wide.room k := room_wide k
theorem roundIn_any {m m' : Nat} {P : Program} {l : Nat} {f : FuncId} {tmps : Array Value} {assign body : Code} {w : World} {R : Ending → World → Prop}
    (h : RoundIn Fence.wide m P l f tmps assign body w R) : RoundIn Fence.wide m' P l f tmps assign body w R := ⟨h.1, fun c cs _ => h.2 c cs (room_wide _)⟩

/-- A round goes into a round as it is. -/
theorem roundIn_in {m m' l1 : Nat} {P : Program} {l : Nat} {f : FuncId} {tmps : Array Value} {assign body : Code} {w : World} {R : Ending → World → Prop}
    (h : RoundIn Fence.wide m P l f tmps assign body w R) : RoundIn (Fence.wide.inRound l1) m' P l f tmps assign body w R := ⟨h.1, fun c cs _ => h.2 c cs (room_wide _)⟩
theorem Still.set {D E : Nat} {A : World} {l : Nat} (h : l < D ∨ E ≤ l) (v : Value) : Still D E A (A.setCell ⟨l, 0, none⟩ v) :=
  ⟨(grownBy_setCell' A l v).size, fun k h1 h2 => Below.heap_setCell _ _ _ k (fun e => by have e' : k = l := e; omega)⟩

/-- The record that a loop keeps, in the state st, with the jump pe. -/
def loopIs (fn : FuncId) (tmps : Array Value) (ps : Array Tmp) (assign body : Code) (D : Nat) (st : LoopState) (pe : Option Code) : Loop :=
  { state := st, pending := pe, fn := fn, tmps := tmps, params := ps, assign := assign, body := body, defers := D }

/-- The way in which a body was left, as a jump that the loop keeps. -/
def jumpOf : Exit → Option (Option Code)
  | .normal => some none
  | .ret => some (some .ret)
  | .exit id => some (some (.exit id))
  | .goto t => some (some (.goto t))
  | .panic _ => none
  | .outgrown => none

/-- One round, from the walk of its body: whichever way that is left, the record was busy there, and R holds of what is answered and of the world in which the record says so. -/
theorem yield_of {n : Nat} {P : Program} {l D : Nat} {fn : FuncId} {tmps : Array Value} {ps : Array Tmp} {assign body : Code} {args : Array Value} {W : World} {a₁ : Act} {R : Ending → World → Prop} {Post : Exit → Act → World → Prop}
    (hl : W.heap[l]? = some (.loop (loopIs fn tmps ps assign body D .ready none))) (hs : args.size = ps.size)
    (hassign : ∀ T : Act → World → Prop, T a₁ W → assign.wpIn (Fence.wide.inRound l) n P (Exit.then T (fun _ _ _ => False)) { tmps := (ps.zip args).foldl (fun t (p, v) => t.setIfInBounds p v) tmps, defers := [] } W)
    (hbody : body.wpIn (Fence.wide.inRound l) n P Post a₁ (W.putObj l (.loop (loopIs fn tmps ps assign body D .busy none))))
    (hpost : ∀ e a U, Post e a U → ∃ j, jumpOf e = some j ∧ U.heap[l]? = some (.loop (loopIs fn tmps ps assign body D .busy none)) ∧
      R (.returned (.bool j.isNone)) (U.putObj l (.loop (loopIs fn tmps ps assign body D (if j.isNone then .ready else .done) j)))) :
    YieldAt Fence.wide 0 P l args W R := by
  have begin := run_beginRound (P := P) hl rfl
  refine ⟨fn, _, assign, body, run_yield hl hs, roundIn_any (m := n) (roundIn_of_wpIn trivial (hassign _ ⟨_, begin, wpIn_mono hbody ?_⟩))⟩
  intro e a U hU
  obtain ⟨j, hj, hb, hR⟩ := hpost e a U hU
  have ending := run_endRound (P := P) j hb
  cases e <;> simp only [jumpOf, Option.some.injEq, reduceCtorEq] at hj
  all_goals
    subst hj
    exact ⟨_, _, ending, hR⟩

/-- One loop over such an iterator, at a function's top. -/
theorem range_law {α : Type} {n : Nat} {P : Program} {g : Operand} {ps : Array Tmp} {assign body : Code} {Q : Exit → Act → World → Prop} {a : Act} {w : World}
    {gf : Nat} {lb : Array Value} (hg : a.eval g = .func (.func gf) #[] lb) (eg : ∀ args w, (callFunc gf args).run P w = .ok (.enter gf args) w)
    {encs : α → Array Value} {K : Nat → Prop} {c : Nat} {S Sp : List α → Prop} {w0 : World} (hseq : SeqP P gf lb encs K c S Sp w0) (hb0 : Below w0.heap.size w0 w) (hKw : ∀ k, K k → k < w.heap.size) (hps : ∀ x, (encs x).size = ps.size)
    (I : List α → World → Prop) (Ix : Code → List α → World → Prop) (hI : Stands w.heap.size (w.heap.size + 2 + c) I) (hIx : ∀ code, Stands w.heap.size (w.heap.size + 2 + c) (Ix code)) (h0 : I [] w) (a₁ : α → Act)
    (hassign : ∀ (l : Nat) (x : α) (W : World) (T : Act → World → Prop), T (a₁ x) W →
      assign.wpIn (Fence.wide.inRound l) n P (Exit.then T (fun _ _ _ => False)) { tmps := (ps.zip (encs x)).foldl (fun t (p, v) => t.setIfInBounds p v) a.tmps, defers := [] } W)
    (hbody : ∀ (pre : List α) (x : α) (W : World), Sp (pre ++ [x]) → I pre W → w.heap.size + 2 + c ≤ W.heap.size → (∃ r, W.heap[w.heap.size + 1]? = some (.loop r)) →
      body.wpIn (Fence.wide.inRound (w.heap.size + 1)) n P (RoundPost K w.heap.size (w.heap.size + 2 + c) I Ix (pre ++ [x]) W) (a₁ x) W)
    (hdone : ∀ (xs : List α) (W : World), S xs → I xs W → w.heap.size + 2 ≤ W.heap.size → W.heap[w.heap.size]? = some (.deferred (some [])) → Q .normal { a with defers := { target := .collected w.heap.size, args := #[] } :: a.defers } W)
    (hstop : ∀ (code : Code) (pre : List α) (W : World), Sp pre → Ix code pre W → w.heap.size + 2 ≤ W.heap.size → W.heap[w.heap.size]? = some (.deferred (some [])) → code.wpIn Fence.wide n P Q { a with defers := { target := .collected w.heap.size, args := #[] } :: a.defers } W) :
    (Code.rangeFunc g ps assign body).wpIn Fence.wide n P Q a w := by
  refine wpIn_rangeFunc fun fn _ => ?_
  obtain ⟨D, hD⟩ : ∃ D, w.heap.size = D := ⟨_, rfl⟩
  obtain ⟨mk, hmk⟩ : ∃ mk, loopIs fn a.tmps ps assign body w.heap.size = mk := ⟨_, rfl⟩
  have henter := run_enterLoop_outer (P := P) (w := w) fn a.tmps ps assign body
  obtain ⟨V, hV⟩ : ∃ V, (w.alloc (.deferred (some []))).alloc (.loop (mk .ready none)) = V := ⟨_, rfl⟩
  have eD : V.heap[D]? = some (.deferred (some [])) := by
    rw [← hV, ← hD, Below.heap_alloc _ _ _ (by simp)]; exact World.alloc_heap_new w _
  have eL : V.heap[D + 1]? = some (.loop (mk .ready none)) := by
    have h := World.alloc_heap_new (w.alloc (.deferred (some []))) (.loop (mk .ready none))
    rw [World.size_alloc, hV, hD] at h; exact h
  have eV : V.heap.size = D + 2 := by rw [← hV, ← hD]; simp
  have bV : Below w0.heap.size w0 V := by
    have h := ((Below.refl w0.heap.size w).alloc hb0.size (.deferred (some []))).alloc (by have := hb0.size; simp; omega) (.loop (mk .ready none))
    rw [hV] at h; exact hb0.trans h
  have iV : I [] V := by rw [← hV]; exact hI.alloc (hI.alloc h0 _) _
  rw [hD] at hI hIx hKw hbody hdone hstop
  -- what the law keeps beside I: the record and the block for deferred calls
  let J : List α → World → Prop := fun pre U => I pre U ∧ (U.heap[D + 1]? = some (.loop (mk .ready none)) ∧ U.heap[D]? = some (.deferred (some [])))
  let Jx : List α → World → Prop := fun pre U => ∃ code, Ix code pre U ∧ (U.heap[D + 1]? = some (.loop (mk .done (some code))) ∧ U.heap[D]? = some (.deferred (some [])))
  have fixed : ∀ (k : Nat) (o : Obj), k < V.heap.size → Stands (β := List α) V.heap.size (V.heap.size + c) (fun _ U => U.heap[k]? = some o) := by
    intro k o hk _ A B row hs hg hm
    refine (hg.block k (Array.getElem?_eq_some_iff.1 hs).1 (fun e => ?_)).trans hs
    have := (hm k e.symm).1
    omega
  have sJ : Stands V.heap.size (V.heap.size + c) J := Stands.and (hI.mono (by omega) (by omega)) (Stands.and (fixed _ _ (by omega)) (fixed _ _ (by omega)))
  have sJx : Stands V.heap.size (V.heap.size + c) Jx := Stands.ex fun code => Stands.and ((hIx code).mono (by omega) (by omega)) (Stands.and (fixed _ _ (by omega)) (fixed _ _ (by omega)))
  have hK' : ¬ K (D + 1) := fun hk => by have := hKw _ hk; omega
  refine ⟨D + 1, [{ target := .collected D, args := #[] }], V, { target := .fn (.func gf) lb, args := #[.func (.yield (D + 1)) #[] #[]] }, V, gf, _, V, ?_, ?_, fun _ _ => trivial, ?_, (fun h => by simp [Fence.wide] at h),
    callsIn_wide.2 ((hseq (D + 1) J Jx V bV sJ sJx ?_ ⟨iV, eL, eD⟩).mono ?_)⟩
  · rw [← hV, ← hmk, ← hD]; exact henter
  · simp only [resolve, hg]
    simp [go_sem]
  · simp [invoke, go_sem, eg]
  · -- one round
    rintro pre x U hSp ⟨hi, hl, hk⟩ hsU
    rw [eV] at hsU ⊢
    have hl' := hl
    rw [← hmk] at hl'
    have put1 : ∀ (A : World) (o : Obj) (k : Nat), k ≠ D + 1 → (A.putObj (D + 1) o).heap[k]? = A.heap[k]? := fun A o k h => World.putObj_heap_other h
    have busy : (U.putObj (D + 1) (.loop (mk .busy none))).heap[D + 1]? = some (.loop (mk .busy none)) := World.putObj_heap_same (Array.getElem?_eq_some_iff.1 hl).1
    refine yield_of hl' (hps x) (hassign _ x U) (by rw [hmk]; exact hbody pre x _ hSp (hI.put hi (by omega) (by omega) _) (by rw [World.putObj_size]; omega) ⟨_, busy⟩) ?_
    rw [hmk]
    have turn : ∀ (j : Option Code) (X : World), Still D (D + 2 + c) (U.putObj (D + 1) (.loop (mk .busy none))) X →
        X.heap[D + 1]? = some (.loop (mk .busy none)) ∧ Still (D + 2) (D + 2 + c) U (X.putObj (D + 1) (.loop (mk (if j.isNone then .ready else .done) j))) ∧
        (X.putObj (D + 1) (.loop (mk (if j.isNone then .ready else .done) j))).heap[D + 1]? = some (.loop (mk (if j.isNone then .ready else .done) j)) ∧
        (X.putObj (D + 1) (.loop (mk (if j.isNone then .ready else .done) j))).heap[D]? = some (.deferred (some [])) := by
      intro j X hX
      have hx := (hX.same (D + 1) (by omega) (by omega)).trans busy
      have z := hX.size
      rw [World.putObj_size] at z
      refine ⟨hx, ⟨by rw [World.putObj_size]; exact z, fun k h1 h2 => ?_⟩, World.putObj_heap_same (Array.getElem?_eq_some_iff.1 hx).1, ?_⟩
      · rw [put1 _ _ k (by omega), hX.same k (by omega) (by omega), put1 _ _ k (by omega)]
      · rw [put1 _ _ D (by omega), hX.same D (by omega) (by omega), put1 _ _ D (by omega)]; exact hk
    intro e a' X hp
    cases e with
    | normal =>
      obtain ⟨hX, hKX, hiX⟩ := hp
      obtain ⟨t1, t2, t3, t4⟩ := turn none X hX
      exact ⟨none, rfl, t1, t2, .inl ⟨rfl, ⟨hI.put hiX (by omega) (by omega) _, t3, t4⟩, ((KeepS.put hK' _).trans hKX).trans (KeepS.put hK' _)⟩⟩
    | ret =>
      obtain ⟨t1, t2, t3, t4⟩ := turn (some .ret) X hp.1
      exact ⟨_, rfl, t1, t2, .inr ⟨rfl, _, (hIx _).put hp.2 (by omega) (by omega) _, t3, t4⟩⟩
    | exit id =>
      obtain ⟨t1, t2, t3, t4⟩ := turn (some (.exit id)) X hp.1
      exact ⟨_, rfl, t1, t2, .inr ⟨rfl, _, (hIx _).put hp.2 (by omega) (by omega) _, t3, t4⟩⟩
    | goto t =>
      obtain ⟨t1, t2, t3, t4⟩ := turn (some (.goto t)) X hp.1
      exact ⟨_, rfl, t1, t2, .inr ⟨rfl, _, (hIx _).put hp.2 (by omega) (by omega) _, t3, t4⟩⟩
    | panic _ => exact hp.elim
    | outgrown => exact hp.elim
  · -- behind the iterator
    rintro e X ⟨⟨v, rfl⟩, h⟩
    have out : ∀ (pe : Option Code) (st : LoopState), st ≠ .busy → X.heap[D + 1]? = some (.loop (mk st pe)) → ∃ o, (Instr.endLoop (D + 1)).run P X = .ok pe (X.putObj (D + 1) o) := by
      intro pe st hst hx
      rw [← hmk] at hx
      exact ⟨_, run_endLoop hx hst⟩
    have at0 : ∀ o, X.heap[D]? = some (.deferred (some [])) → (X.putObj (D + 1) o).heap[D]? = some (.deferred (some [])) := fun o h => (World.putObj_heap_other (by omega)).trans h
    have big : ∀ (o o' : Obj), X.heap[D + 1]? = some o → D + 2 ≤ (X.putObj (D + 1) o').heap.size := fun o o' h => by have := (Array.getElem?_eq_some_iff.1 h).1; rw [World.putObj_size]; omega
    rcases h with ⟨xs, hS, hi, hl, hk⟩ | ⟨pre, hSp, code, hi, hl, hk⟩
    · obtain ⟨o, ho⟩ := out none .ready (by simp) hl
      exact ⟨none, _, ho, hdone xs _ hS (hI.put hi (by omega) (by omega) _) (big _ _ hl) (at0 _ hk)⟩
    · obtain ⟨o, ho⟩ := out (some code) .done (by simp) hl
      exact ⟨some code, _, ho, hstop code pre _ hSp ((hIx code).put hi (by omega) (by omega) _) (big _ _ hl) (at0 _ hk)⟩

end Go.Attic

namespace Go.Proofs.YtjhbljkoapbkfaaGreat
open Go.RowKit Go.Attic Go.Shelf
attribute [local go_sem] Oper.semAt_some

theorem Keeps.boxed {S : Nat → Prop} {w w' : World} (h : Keeps S w w') {k : Nat} {t : TypeId} {v : Value} (hb : Boxed w k t v) (hk : ¬ S k) : Boxed w' k t v :=
  (h.block k hb.lt hk).trans hb

set_option maxRecDepth 100000 in
set_option maxHeartbeats 400000 in
theorem backward_any (v : Value) (w : World) (hv : ∃ ao m c, v = .slice ao m c) :
    Calls Tryz.prog 84 #[v] w fun e w' => e = .returned (.func (.func 93) #[] #[.pointer (some ⟨w.heap.size, 0, none⟩)]) ∧ w.alloc (.cells #[v] 73) = w' := by
  obtain ⟨ao, m, c, rfl⟩ := hv
  go_enter Tryz.func84, Tryz.ntmps84
  go_wp2
  go_ret
  exact ⟨rfl, rfl⟩

/-- The rows' elements as an iterator hands them over. -/
def wAt (ps : List (Nat × List Nat)) (vs : List Value) (i : Nat) : Value := .agg #[.int .i64 ((ps.getD i (0, [])).1 : Int), vs.getD i (.slice none 0 0)]

/-- The indices from k down to 0. -/
def downTo (k : Nat) : List Nat := (List.range k).reverse
def backN (n k : Nat) : List Nat := ((List.range n).reverse).take (n - k)

theorem backN_succ (n k : Nat) (h : k < n) : backN n k = backN n (k + 1) ++ [k] := by
  unfold backN
  rw [show n - k = (n - (k + 1)) + 1 by omega, List.take_add_one]
  congr 1
  have h1 : n - (k + 1) < (List.range n).reverse.length := by simp; omega
  rw [List.getElem?_eq_getElem h1, List.getElem_reverse]
  simp
  omega
theorem backN_self (n : Nat) : backN n n = [] := by simp [backN]
theorem backN_zero (n : Nat) : backN n 0 = (List.range n).reverse := by
  unfold backN
  exact List.take_of_length_le (by simp)
theorem backN_pre (n k : Nat) : backN n k <+: (List.range n).reverse := List.take_prefix _ _

set_option maxRecDepth 100000 in
set_option maxHeartbeats 1000000 in
theorem backward1_any (K : Nat → Prop) (ps : List (Nat × List Nat)) (vs : List Value) (v : Value) (Bv : Nat) (w0 : World) (hBv : Boxed w0 Bv 73 v) (hrow : w0.ownsRow 0 131 2 v ps.length (cellsW ps vs)) (hvl : vs.length = ps.length) (hsl : ∀ u ∈ vs, ∃ ao m c, u = .slice ao m c)
    (hlen : ps.length ≤ 1000000) (kv : K Bv) (kr : ∀ b, v.ownBlock = some b → K b) :
    SeqP Tryz.prog 93 #[.pointer (some ⟨Bv, 0, none⟩)] (fun i : Nat => #[Value.int .i64 (i : Int), wAt ps vs i]) K 0 (fun xs => xs = (List.range ps.length).reverse) (fun pre => pre <+: (List.range ps.length).reverse) w0 := by
  intro lp J Jx W hW hJ hJx hY h0
  have hBv1 : Boxed W Bv 73 v := (hW.block Bv hBv.lt).trans hBv
  have hrow1 := (Keeps.of_below (S := fun _ => False) hW).owns hrow (fun _ _ => id)
  have hcn := hBv1.cell
  refine (callsIn_wide (n := 3)).1 ?_
  refine callsIn_of_wp Tryz.func93 rfl trivial ?_ rfl
  simp only [Tryz.ntmps93, List.size_toArray, List.length_cons, List.length_nil, Nat.reduceAdd, Nat.reduceSub, Array.replicate_succ, Array.replicate_zero, List.push_toArray, List.append_toArray, List.nil_append, List.cons_append]
  obtain ⟨ao, cap, rfl⟩ := owns_slice hrow1
  gi_wp2
  clear hcn hBv hrow
  gi_loopw [3] (fun i wr => ∃ k : Nat, k ≤ ps.length ∧ i = .int .i64 ((k : Int) - 1) ∧ J (backN ps.length k) wr ∧ W.heap.size ≤ wr.heap.size ∧ Boxed wr Bv 73 (.slice ao ps.length cap) ∧ wr.ownsRow 0 131 2 (.slice ao ps.length cap) ps.length (cellsW ps vs)) (fun i _ => (intOf i + 1).toNat)
  case atStart => exact ⟨ps.length, Nat.le_refl _, rfl, by rw [backN_self]; exact h0, Nat.le_refl _, hBv1, hrow1⟩
  case round =>
    obtain ⟨k, hk, rfl, hJk, hsz, hbx, hbs⟩ := hrel
    clear h0 hBv1 hrow1
    by_cases hk0 : 0 < k
    · obtain ⟨i, rfl⟩ : ∃ i, k = i + 1 := ⟨k - 1, by omega⟩
      have e1 : (((i + 1 : Nat) : Int) - 1) = (i : Int) := by omega
      rw [e1]
      have hsu := backN_succ ps.length i (by omega)
      have hpr := backN_pre ps.length i
      obtain ⟨hc1, hc2⟩ := cellsW_at hvl i (by omega)
      obtain ⟨ao', cap', e2, _, hg⟩ := owns_form hbs
      obtain ⟨pb, rfl, _⟩ := hg (by omega)
      injection e2 with e2 _ e3
      subst e2 e3
      have x1 := hbs.cells (g := pb) rfl _ _ hc1
      have x2 := hbs.cells (g := pb) rfl _ _ hc2
      rw [Addr.add_lit, Nat.zero_add] at x1 x2
      obtain ⟨fn, tmps, assign, body, hy, hR⟩ := hY (backN ps.length (i + 1)) i wr (by rw [← hsu]; exact hpr) hJk (by omega)
      have hw : wAt ps vs i = .agg #[.int .i64 ((ps[i]).1 : Int), vs[i]'(by omega)] := by
        simp [wAt, List.getD_eq_getElem?_getD, show i < ps.length by omega, show i < vs.length by omega]
      obtain ⟨uao, um, uc, hu⟩ := hsl (vs[i]'(by omega)) (List.getElem_mem _)
      rw [hu] at x2 hw
      rw [hw] at hy
      generalize (ps[i]).1 = blk at *
      have hi1 : i < ps.length := by omega
      have Hsu := hide hsu
      have Hbx := hide hbx
      have Hbs := hide hbs
      have hcr := hbx.cell
      clear hsu hpr hbx hbs hJk hY hc1 hc2 hu hw hg e1 hsl
      gi_wp2
      refine (roundIn_any hR).mono ?_
      rintro e W3 ⟨hst, ⟨rfl, hJ3, hk3⟩ | ⟨rfl, hJx3⟩⟩
      · gi_wp2
        go_roundw
        case rel => exact ⟨i, by omega, by go_num, by rw [Hsu.out]; exact hJ3, Nat.le_trans hsz hk3.size, hk3.boxed Hbx.out kv, (show W3.ownsRow 0 131 2 _ _ _ from ⟨Hbs.out.1, by
          rcases Hbs.out.2 with hn | ⟨g, cap, cur, e, hb, hg, rest⟩
          · exact .inl hn
          · refine .inr ⟨g, cap, cur, e, hb, (hk3.same g (kr g (by rw [e]; rfl))).trans hg, rest⟩⟩)⟩
        case measure => simp [intOf]
      · gi_wp2
        refine bodyPost_ret (results_none rfl _ _ _) rfl ?_
        exact ⟨⟨_, rfl⟩, .inr ⟨_, by rw [← Hsu.out]; exact backN_pre _ _, hJx3⟩⟩
    · obtain rfl : k = 0 := by omega
      rw [backN_zero] at hJk
      gi_wp2
      go_end0
      exact ⟨⟨_, rfl⟩, .inl ⟨_, rfl, hJk⟩⟩



end Go.Proofs.YtjhbljkoapbkfaaGreat
