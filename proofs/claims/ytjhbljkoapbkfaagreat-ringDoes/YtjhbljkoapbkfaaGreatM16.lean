/- The law of a loop over an iterator that hands over what it has made itself. Nothing here speaks of one program. A region that draws its order, inside the round of a range over a function: what the plain walk of it shows holds there too. Nothing here speaks of one program. Contract: load, where the power is on. -/
import Derived.Test.YtjhbljkoapbkfaaGreatM10
import Derived.OrdersHeld
import Derived.OrdersIn
import Derived.Test.YtjhbljkoapbkfaaGreatM15
import Derived.Maps.OwnIn
import Derived.OwnWalkIn
import Derived.TacticsInMore
import Derived.LoopNIn
import Derived.LoopIn
import Derived.RangeFuncBox
import Derived.Shelf.Abstract
import Derived.Shelf.RegionOpen
import Derived.RangeFuncCalls
import Derived.Maps.AppendAt
set_option linter.unusedVariables false
set_option linter.unusedSimpArgs false

namespace Go.Attic
open Go.RowKit

/-- SeqP, of an iterator of whose elements X holds where they are handed over. -/
def SeqX {α : Type} (P : Program) (g : Nat) (lb : Array Value) (encs : α → Array Value) (K : Nat → Prop) (c : Nat) (X : Nat → α → World → Prop) (S Sp : List α → Prop) (w0 : World) : Prop :=
  ∀ (l : Nat) (J Jx : List α → World → Prop) (W : World), Below w0.heap.size w0 W → Stands W.heap.size (W.heap.size + c) J → Stands W.heap.size (W.heap.size + c) Jx →
    (∀ pre x W1, Sp (pre ++ [x]) → J pre W1 → W.heap.size + c ≤ W1.heap.size → X (W.heap.size + c) x W1 → YieldAt Fence.wide 0 P l (encs x) W1 fun e W' =>
      Still W.heap.size (W.heap.size + c) W1 W' ∧ ((e = .returned (.bool true) ∧ J (pre ++ [x]) W' ∧ KeepS K W1 W') ∨ (e = .returned (.bool false) ∧ Jx (pre ++ [x]) W'))) →
    J [] W →
    Calls P g (#[.func (.yield l) #[] #[]] ++ lb) W fun e W' => (∃ v, e = .returned v) ∧ ((∃ xs, S xs ∧ J xs W') ∨ (∃ pre, Sp pre ∧ Jx pre W'))

/-- One loop over such an iterator, at a function's top. -/
theorem range_law3 {α : Type} {n : Nat} {P : Program} {g : Operand} {ps : Array Tmp} {assign body : Code} {Q : Exit → Act → World → Prop} {a : Act} {w : World}
    {gf : Nat} {lb : Array Value} (hg : a.eval g = .func (.func gf) #[] lb) (eg : ∀ args w, (callFunc gf args).run P w = .ok (.enter gf args) w)
    {encs : α → Array Value} {K : Nat → Prop} {c : Nat} {X : Nat → α → World → Prop} {S Sp : List α → Prop} {w0 : World} (hseq : SeqX P gf lb encs K c X S Sp w0) (hb0 : Below w0.heap.size w0 w) (hKw : ∀ k, K k → k < w.heap.size) (hps : ∀ x, (encs x).size = ps.size)
    (I : List α → World → Prop) (Ix : Code → List α → World → Prop) (hI : Stands w.heap.size (w.heap.size + 2 + c) I) (hIx : ∀ code, Stands w.heap.size (w.heap.size + 2 + c) (Ix code)) (h0 : I [] w) (a₁ : α → World → Act) (aw : α → World → World) (haw : ∀ x W, Below W.heap.size W (aw x W))
    (hassign : ∀ (l : Nat) (x : α) (W : World) (T : Act → World → Prop), T (a₁ x W) (aw x W) →
      assign.wpIn (Fence.wide.inRound l) n P (Exit.then T (fun _ _ _ => False)) { tmps := (ps.zip (encs x)).foldl (fun t (p, v) => t.setIfInBounds p v) a.tmps, defers := [] } W)
    (hbody : ∀ (pre : List α) (x : α) (U W : World), Sp (pre ++ [x]) → I pre W → X (w.heap.size + 2 + c) x U → w.heap.size + 2 + c ≤ U.heap.size → (∃ r, W.heap[w.heap.size + 1]? = some (.loop r)) → W.heap.size = (aw x U).heap.size → (∀ k, k ≠ w.heap.size + 1 → W.heap[k]? = (aw x U).heap[k]?) →
      body.wpIn (Fence.wide.inRound (w.heap.size + 1)) n P (RoundPost K w.heap.size (w.heap.size + 2 + c) I Ix (pre ++ [x]) W) (a₁ x U) W)
    (hdone : ∀ (xs : List α) (W : World), S xs → I xs W → w.heap.size + 2 ≤ W.heap.size → W.heap[w.heap.size]? = some (.deferred (some [])) → Q .normal { a with defers := { target := .collected w.heap.size, args := #[] } :: a.defers } W)
    (hstop : ∀ (code : Code) (pre : List α) (W : World), Sp pre → Ix code pre W → w.heap.size + 2 ≤ W.heap.size → W.heap[w.heap.size]? = some (.deferred (some [])) → code.wpIn Fence.wide n P Q { a with defers := { target := .collected w.heap.size, args := #[] } :: a.defers } W) :
    (Code.rangeFunc g ps assign body).wpIn Fence.wide n P Q a w := by
  refine wpIn_rangeFunc fun fn _ => ?_
  obtain ⟨D, hD⟩ : ∃ D, w.heap.size = D := ⟨_, rfl⟩
  obtain ⟨mk, hmk⟩ : ∃ mk, loopIs fn a.tmps ps assign body w.heap.size = mk := ⟨_, rfl⟩
  have henter := run_enterLoop_outer (P := P) (w := w) fn a.tmps ps assign body
  obtain ⟨V, hV⟩ : ∃ V, (w.alloc (.deferred (some []))).alloc (.loop (mk .ready none)) = V := ⟨_, rfl⟩
  have eD : V.heap[D]? = some (.deferred (some [])) := by
    rw [← hV, ← hD, Below.heap_alloc _ _ _ (by simp)]; exact World.alloc_heap_new w _
  have eL : V.heap[D + 1]? = some (.loop (mk .ready none)) := by
    have h := World.alloc_heap_new (w.alloc (.deferred (some []))) (.loop (mk .ready none))
    rw [World.size_alloc, hV, hD] at h; exact h
  have eV : V.heap.size = D + 2 := by rw [← hV, ← hD]; simp
  have bV : Below w0.heap.size w0 V := by
    have h := ((Below.refl w0.heap.size w).alloc hb0.size (.deferred (some []))).alloc (by have := hb0.size; simp; omega) (.loop (mk .ready none))
    rw [hV] at h; exact hb0.trans h
  have iV : I [] V := by rw [← hV]; exact hI.alloc (hI.alloc h0 _) _
  rw [hD] at hI hIx hKw hbody hdone hstop
  -- what the law keeps beside I: the record and the block for deferred calls
  let J : List α → World → Prop := fun pre U => I pre U ∧ (U.heap[D + 1]? = some (.loop (mk .ready none)) ∧ U.heap[D]? = some (.deferred (some [])))
  let Jx : List α → World → Prop := fun pre U => ∃ code, Ix code pre U ∧ (U.heap[D + 1]? = some (.loop (mk .done (some code))) ∧ U.heap[D]? = some (.deferred (some [])))
  have fixed : ∀ (k : Nat) (o : Obj), k < V.heap.size → Stands (β := List α) V.heap.size (V.heap.size + c) (fun _ U => U.heap[k]? = some o) := by
    intro k o hk _ A B row hs hg hm
    refine (hg.block k (Array.getElem?_eq_some_iff.1 hs).1 (fun e => ?_)).trans hs
    have := (hm k e.symm).1
    omega
  have sJ : Stands V.heap.size (V.heap.size + c) J := Stands.and (hI.mono (by omega) (by omega)) (Stands.and (fixed _ _ (by omega)) (fixed _ _ (by omega)))
  have sJx : Stands V.heap.size (V.heap.size + c) Jx := Stands.ex fun code => Stands.and ((hIx code).mono (by omega) (by omega)) (Stands.and (fixed _ _ (by omega)) (fixed _ _ (by omega)))
  have hK' : ¬ K (D + 1) := fun hk => by have := hKw _ hk; omega
  refine ⟨D + 1, [{ target := .collected D, args := #[] }], V, { target := .fn (.func gf) lb, args := #[.func (.yield (D + 1)) #[] #[]] }, V, gf, _, V, ?_, ?_, fun _ _ => trivial, ?_, (fun h => by simp [Fence.wide] at h),
    callsIn_wide.2 ((hseq (D + 1) J Jx V bV sJ sJx ?_ ⟨iV, eL, eD⟩).mono ?_)⟩
  · rw [← hV, ← hmk, ← hD]; exact henter
  · simp only [resolve, hg]
    simp [go_sem]
  · simp [invoke, go_sem, eg]
  · -- one round
    rintro pre x U hSp ⟨hi, hl, hk⟩ hsU hX
    rw [eV] at hsU hX ⊢
    have hl' := hl
    rw [← hmk] at hl'
    have hbw := haw x U
    have hzw := hbw.size
    have hl2 : (aw x U).heap[D + 1]? = some (.loop (mk .ready none)) := (hbw.block _ (Array.getElem?_eq_some_iff.1 hl).1).trans hl
    have hl2' := hl2
    rw [← hmk] at hl2'
    have hi2 : I pre (aw x U) := hI pre U _ none hi ⟨hbw.os, hbw.tape, hbw.output, hbw.size, fun k hk _ => hbw.block k hk⟩ (fun r e => by cases e)
    have put1 : ∀ (A : World) (o : Obj) (k : Nat), k ≠ D + 1 → (A.putObj (D + 1) o).heap[k]? = A.heap[k]? := fun A o k h => World.putObj_heap_other h
    have busy : ((aw x U).putObj (D + 1) (.loop (mk .busy none))).heap[D + 1]? = some (.loop (mk .busy none)) := World.putObj_heap_same (Array.getElem?_eq_some_iff.1 hl2).1
    refine yield_of2 hl' hl2' (hps x) (hassign _ x U) (by rw [hmk]; exact hbody pre x U _ hSp (hI.put hi2 (by omega) (by omega) _) hX (by omega) ⟨_, busy⟩ World.putObj_size (fun k hk => put1 _ _ k hk)) ?_
    rw [hmk]
    have turn : ∀ (j : Option Code) (X : World), Still D (D + 2 + c) ((aw x U).putObj (D + 1) (.loop (mk .busy none))) X →
        X.heap[D + 1]? = some (.loop (mk .busy none)) ∧ Still (D + 2) (D + 2 + c) U (X.putObj (D + 1) (.loop (mk (if j.isNone then .ready else .done) j))) ∧
        (X.putObj (D + 1) (.loop (mk (if j.isNone then .ready else .done) j))).heap[D + 1]? = some (.loop (mk (if j.isNone then .ready else .done) j)) ∧
        (X.putObj (D + 1) (.loop (mk (if j.isNone then .ready else .done) j))).heap[D]? = some (.deferred (some [])) := by
      intro j X hX
      have hx := (hX.same (D + 1) (by omega) (by omega)).trans busy
      have z := hX.size
      rw [World.putObj_size] at z
      refine ⟨hx, ⟨by rw [World.putObj_size]; omega, fun k h1 h2 => ?_⟩, World.putObj_heap_same (Array.getElem?_eq_some_iff.1 hx).1, ?_⟩
      · rw [put1 _ _ k (by omega), hX.same k (by omega) (by omega), put1 _ _ k (by omega), hbw.block k (by omega)]
      · rw [put1 _ _ D (by omega), hX.same D (by omega) (by omega), put1 _ _ D (by omega), hbw.block D (by omega)]; exact hk
    intro e a' X hp
    cases e with
    | normal =>
      obtain ⟨hX, hKX, hiX⟩ := hp
      obtain ⟨t1, t2, t3, t4⟩ := turn none X hX
      exact ⟨none, rfl, t1, t2, .inl ⟨rfl, ⟨hI.put hiX (by omega) (by omega) _, t3, t4⟩, ((KeepS.below hbw (fun k hk => by have := hKw _ hk; omega)).trans ((KeepS.put hK' _).trans hKX)).trans (KeepS.put hK' _)⟩⟩
    | ret =>
      obtain ⟨t1, t2, t3, t4⟩ := turn (some .ret) X hp.1
      exact ⟨_, rfl, t1, t2, .inr ⟨rfl, _, (hIx _).put hp.2 (by omega) (by omega) _, t3, t4⟩⟩
    | exit id =>
      obtain ⟨t1, t2, t3, t4⟩ := turn (some (.exit id)) X hp.1
      exact ⟨_, rfl, t1, t2, .inr ⟨rfl, _, (hIx _).put hp.2 (by omega) (by omega) _, t3, t4⟩⟩
    | goto t =>
      obtain ⟨t1, t2, t3, t4⟩ := turn (some (.goto t)) X hp.1
      exact ⟨_, rfl, t1, t2, .inr ⟨rfl, _, (hIx _).put hp.2 (by omega) (by omega) _, t3, t4⟩⟩
    | panic _ => exact hp.elim
    | outgrown => exact hp.elim
  · -- behind the iterator
    rintro e X ⟨⟨v, rfl⟩, h⟩
    have out : ∀ (pe : Option Code) (st : LoopState), st ≠ .busy → X.heap[D + 1]? = some (.loop (mk st pe)) → ∃ o, (Instr.endLoop (D + 1)).run P X = .ok pe (X.putObj (D + 1) o) := by
      intro pe st hst hx
      rw [← hmk] at hx
      exact ⟨_, run_endLoop hx hst⟩
    have at0 : ∀ o, X.heap[D]? = some (.deferred (some [])) → (X.putObj (D + 1) o).heap[D]? = some (.deferred (some [])) := fun o h => (World.putObj_heap_other (by omega)).trans h
    have big : ∀ (o o' : Obj), X.heap[D + 1]? = some o → D + 2 ≤ (X.putObj (D + 1) o').heap.size := fun o o' h => by have := (Array.getElem?_eq_some_iff.1 h).1; rw [World.putObj_size]; omega
    rcases h with ⟨xs, hS, hi, hl, hk⟩ | ⟨pre, hSp, code, hi, hl, hk⟩
    · obtain ⟨o, ho⟩ := out none .ready (by simp) hl
      exact ⟨none, _, ho, hdone xs _ hS (hI.put hi (by omega) (by omega) _) (big _ _ hl) (at0 _ hk)⟩
    · obtain ⟨o, ho⟩ := out (some code) .done (by simp) hl
      exact ⟨some code, _, ho, hstop code pre _ hSp ((hIx code).put hi (by omega) (by omega) _) (big _ _ hl) (at0 _ hk)⟩

end Go.Attic

namespace Go.Attic
open Go.RowKit

theorem calls_round {l n : Nat} {P : Program} {f : FuncId} {args : Array Value} {w : World} {R : Ending → World → Prop} (h : Calls P f args w R) : CallsIn (Fence.wide.inRound l) n P f args w R := CallsIn.inRound l (callsIn_wide.2 h)

theorem rows_round {l n : Nat} {P : Program} {row : String} {args : Array Value} {w : World} {R : Value → World → Prop} (h : Rows P row args w R) : RowsIn (Fence.wide.inRound l) n P row args w R := by
  intro c cs _
  obtain ⟨v, w', hr, hs⟩ := h c cs
  exact ⟨v, w', hr, stepsIn_wide.2 hs⟩

theorem upon_round {l n : Nat} {P : Program} {o : Oper} {a : Act} {K : Act → World → Prop} {Q : Exit → Act → World → Prop} {r : Result Next} (h : o.upon P a K Q r) : o.uponIn (Fence.wide.inRound l) n P a K Q r := by
  cases r with
  | ok x w' =>
    cases x <;> simp only [Oper.upon, Oper.uponIn] at h ⊢ <;>
      first
        | exact h
        | exact ⟨fun e => by simp [Fence.wide, Fence.inRound] at e, calls_round h⟩
        | exact ⟨fun e => by simp [Fence.wide, Fence.inRound] at e, rows_round h⟩
        | exact h.elim
  | halt x w' => cases x <;> simp only [Oper.upon, Oper.uponIn] at h ⊢ <;> exact h

theorem wpAnyIn_round {l n : Nat} {P : Program} {md : Region.Mode} {ops : Array Oper} {Q : Exit → Act → World → Prop} (hd : ∀ (i : Nat) (o : Oper), ops[i]? = some o → ∀ c : Call, o.op ≠ .defer c) (hQ : ¬ LetsOut Q) :
    ∀ (fuel : Nat) (listed : Array Bool) (a : Act) (w : World), wpAny P md ops Q fuel listed a w → wpAnyIn (Fence.wide.inRound l) n P md ops Q fuel listed a w
  | 0, _, _, _, h => h
  | fuel + 1, listed, a, w, h => by
    refine ⟨h.1, fun i hi => ?_⟩
    have h2 := h.2 i hi
    unfold wpOp at h2
    unfold wpOpIn
    cases ho : ops[i]? with
    | none =>
      simp only [ho] at h2 ⊢
      exact wpAnyIn_round hd hQ fuel _ a w h2
    | some o =>
      simp only [ho] at h2 ⊢
      split
      · rename_i hw
        simp only [hw, if_true] at h2
        rcases h2 with h2 | h2
        · have h3 := Oper.wp_mono (K' := wpAnyIn (Fence.wide.inRound l) n P md ops Q fuel (listed.setIfInBounds i true)) (fun a w => wpAnyIn_round hd hQ fuel _ a w) h2
          refine ⟨fun f _ => trivial, ?_⟩
          rw [show o.semAt (Fence.wide.inRound l).round a.eval = execOp a.eval o from Oper.semAt_eq _ _ _ (hd i o ho)]
          exact upon_round h3
        · exact absurd h2.2 hQ
      · rename_i hw
        simp only [hw] at h2
        exact ⟨fun f _ => trivial, wpAnyIn_round hd hQ fuel _ _ w h2⟩

theorem wpIn_region_round {l n : Nat} {P : Program} {ops : Array Oper} {Q : Exit → Act → World → Prop} {id : Nat} {a : Act} {w : World} (S : World → Prop) (hm : P.follows .mixedOrders = true) (hd : ops.all (fun o => match o.op with | .defer _ => false | _ => true) = true) (hQ : ¬ LetsOut Q)
    (h : wpAnyH P .any ops Q S ops.size (Array.replicate ops.size false) a w.drew) : (Code.region id ops true).wpIn (Fence.wide.inRound l) n P Q a w := by
  refine wpIn_region_any hm (wpAnyIn_round ?_ hQ _ _ _ _ (wpAny_of_held _ _ _ _ h))
  intro i o ho c e
  have h1 := Array.all_eq_true.1 hd i (by exact (Array.getElem?_eq_some_iff.1 ho).1)
  have h2 : ops[i]'((Array.getElem?_eq_some_iff.1 ho).1) = o := (Array.getElem?_eq_some_iff.1 ho).2
  rw [h2, e] at h1
  simp at h1

theorem roundPost_noOut {α : Type} {K : Nat → Prop} {D E : Nat} {I : List α → World → Prop} {Ix : Code → List α → World → Prop} {xs : List α} {W : World} : ¬ LetsOut (RoundPost K D E I Ix xs W) := by
  rintro ⟨a, w, h⟩
  exact h

end Go.Attic

namespace Go.Proofs.YtjhbljkoapbkfaaGreat
open Go.RowKit Go.Attic Go.Shelf

attribute [local go_sem] Oper.semAt_some

theorem isAgg29 (w : World) : (isAgg 29).run Tryz.prog w = .ok false w := by
  simp [isAgg, run_underlying Tryz.underlying29]

theorem stands_keeps {β : Type} {D E : Nat} (S : Nat → Prop) (V : World) (hD : V.heap.size ≤ D) : Stands D E (fun (_ : β) U => Keeps S V U) :=
  fun s A B row hs hg hm => ⟨hg.os.trans hs.os, hg.tape.trans hs.tape, hg.output.trans hs.output, Nat.le_trans hs.size hg.size, fun k hk hn =>
    (hg.block k (by have := hs.size; omega) (fun e => by have := (hm k e.symm).1; omega)).trans (hs.block k hk hn)⟩
theorem keeps_grown {A B : World} {row : Option Nat} (h : A.grownBy B row) : Keeps (fun k => row = some k) A B := Keeps.of_grown h (fun k e => e)

theorem below_drew' (w : World) : Below w.heap.size w w.drew := ⟨rfl, rfl, rfl, Nat.le_refl _, fun _ _ => rfl⟩

theorem bs_sec {w : World} {b cap : Nat} {bytes : List Nat} (h : Bs w (.slice (some ⟨b, 0, none⟩) 256 cap) bytes) (hl : bytes.length = 256) (n : Nat) : Bs w (.slice (some ⟨b, 0 + n % 4 * 64, none⟩) 64 (cap - n % 4 * 64)) (secOf bytes n) := by
  have hc := h.cap
  have q := h.drop (lo := n % 4 * 64) (by omega)
  rw [if_neg (by omega), Option.map_some, Addr.add_lit] at q
  have q2 := q.take (h := 64) (by simp; omega)
  exact q2
theorem secOf_length {bytes : List Nat} (hl : bytes.length = 256) (n : Nat) : (secOf bytes n).length = 64 := by simp [secOf]; omega

theorem cell_five_at (w : World) (o : Obj) (x0 x1 x2 x3 x4 : Value) (t : TypeId) : ∀ j u, [x0, x1, x2, x3, x4][j]? = some u → ((w.alloc o).alloc (.cells #[x0, x1, x2, x3, x4] t)).cell? ((⟨w.heap.size + 1, 0, none⟩ : Addr).add j) = some u := by
  have := cell_five_new (w.alloc o) x0 x1 x2 x3 x4 t
  simpa using this

theorem keeps_put (w : World) (g : Nat) (o : Obj) : Keeps (fun k => k = g) w (w.putObj g o) := Keeps.of_grown (grownBy_putObj' w g o) (fun k e => by injection e with e; exact e.symm)

/-- A row of records in the making, held in a box. -/
def RowAt (bx B : Nat) (U : World) (rs : List Rc) : Prop := ∃ p v vs, Boxed U bx 29 v ∧ Rw U p (fun k => B ≤ k) v rs vs
theorem stands_row {β : Type} {D E : Nat} (bx B : Nat) (f : β → List Rc) (hbx : bx < D) (hB : E ≤ B) : Stands D E (fun s U => RowAt bx B U (f s)) := by
  rintro s A A' row ⟨p, v, vs, hb, hr⟩ hg hm
  exact ⟨p, v, vs, hb.kept hg (fun e => by have := (hm bx e.symm).1; omega), hr.keeps (keeps_grown hg) (fun k hk e => by have := (hm k e).2; omega)⟩

theorem Rw.narrow {w : World} {p : Option Nat} {F : Nat → Prop} {v : Value} {rs : List Rc} {vs : List Value} (h : Rw w p F v rs vs) : Rw w p (fun k => F k ∧ k < w.heap.size) v rs vs := by
  refine ⟨h.row, h.own, h.len, fun b hb => ⟨h.pF b hb, owns_lt' h.row b (h.own.trans hb)⟩, fun i hi hv => ⟨(h.bs i hi hv).1, fun hp b hb => ⟨⟨((h.bs i hi hv).2 hp b hb).1, ?_⟩, ((h.bs i hi hv).2 hp b hb).2⟩⟩⟩
  obtain ⟨ao, cap, e, _, _, _, hc⟩ := (h.bs i hi hv).1
  obtain ⟨b', off, rfl, hc0⟩ := hc hp
  rw [e] at hb
  injection hb with hb
  have := World.block_lt_of_cell? w _ (hc0 0 hp)
  rw [← hb]
  exact this

set_option maxRecDepth 100000 in
set_option maxHeartbeats 1000000 in
theorem load_on {w : World} {g m : Nat} {p : Option Nat} {F : Nat → Prop} {n : Nat} {s : St} (h : Dk w g m p F n s) (hon : s.on = true) (hpl : s.pend.length ≤ 1000000) (base blocks head : Nat) (h1 : 1 ≤ blocks) (h2 : blocks ≤ 256) (h3 : base + blocks ≤ n) (hh : head ≤ 1152921504606846976) :
    Calls Tryz.prog 44 #[.agg #[.pointer (some ⟨g, 0, none⟩), .int .i64 (base : Int), .int .i64 (blocks : Int)], .int .i64 (head : Int)] w fun e w' => ∃ rs p' v vs, e = .returned (.tuple #[v, .int .i64 0]) ∧
      Scanned (secAt s base blocks) head (4 * blocks) rs ∧ Rw w' p' (fun k => w.heap.size ≤ k) v rs vs ∧ Below w.heap.size w w' := by
  obtain ⟨i0, hi, hz0, hz1', hz2'⟩ := info_parts Tryz.info52
  have hn2 := h.ok.n2
  have hgl := h.gl
  obtain ⟨T, hT⟩ : ∃ T, w.heap.size = T := ⟨_, rfl⟩
  obtain ⟨w1, hw1⟩ : ∃ w1, (((w.alloc (.cells #[.pointer (some ⟨g, 0, none⟩), .int .i64 (base : Int), .int .i64 (blocks : Int)] 85)).alloc (.cells #[.slice none 0 0] 29)).alloc (.cells #[.int .i64 0] 42)).alloc (.cells #[.slice none 0 0] 29) = w1 := ⟨_, rfl⟩
  have hb1 : Below w.heap.size w w1 := by rw [← hw1]; exact ((((Below.refl _ w).alloc (Nat.le_refl _) _).alloc (by simp) _).alloc (by simp; omega) _).alloc (by simp; omega) _
  have hz1 : w1.heap.size = T + 4 := by rw [← hw1, ← hT]; simp
  have b0 : w1.heap[T]? = some (.cells #[.pointer (some ⟨g, 0, none⟩), .int .i64 (base : Int), .int .i64 (blocks : Int)] 85 (0, 0)) := by
    rw [← hw1, ← hT, Below.heap_alloc _ _ _ (by simp; omega), Below.heap_alloc _ _ _ (by simp; omega), Below.heap_alloc _ _ _ (by simp)]; exact World.alloc_heap_new w _
  have b1 : Boxed w1 (T + 1) 29 (.slice none 0 0) := by
    rw [← hw1, ← hT]
    have := ((Boxed.new (w.alloc (.cells #[.pointer (some ⟨g, 0, none⟩), .int .i64 (base : Int), .int .i64 (blocks : Int)] 85)) 29 (.slice none 0 0)).alloc (.cells #[.int .i64 0] 42)).alloc (.cells #[.slice none 0 0] 29)
    simpa using this
  have b2 : Boxed w1 (T + 1 + 1) 42 (.int .i64 0) := by
    rw [← hw1, ← hT]
    have := (Boxed.new ((w.alloc (.cells #[.pointer (some ⟨g, 0, none⟩), .int .i64 (base : Int), .int .i64 (blocks : Int)] 85)).alloc (.cells #[.slice none 0 0] 29)) 42 (.int .i64 0)).alloc (.cells #[.slice none 0 0] 29)
    simpa using this
  have b3 : Boxed w1 (T + 1 + 1 + 1) 29 (.slice none 0 0) := by
    rw [← hw1, ← hT]
    have := Boxed.new (((w.alloc (.cells #[.pointer (some ⟨g, 0, none⟩), .int .i64 (base : Int), .int .i64 (blocks : Int)] 85)).alloc (.cells #[.slice none 0 0] 29)).alloc (.cells #[.int .i64 0] 42)) 29 (.slice none 0 0)
    simpa using this
  have c2 : w1.cell? ⟨T, 2, none⟩ = some (.int .i64 (blocks : Int)) := by unfold World.cell?; rw [b0]; rfl
  obtain ⟨L, hL⟩ : ∃ L, 4 * blocks = L := ⟨_, rfl⟩
  have hlap := fun w => gLap_any blocks w h2
  rw [hL] at hlap ⊢
  have HL := hide hL
  clear hL
  refine (callsIn_wide (n := 3)).1 ?_
  refine callsIn_of_wp_marks Tryz.func44 rfl trivial ?_ rfl
  simp only [Tryz.ntmps44, List.size_toArray, List.length_cons, List.length_nil, Nat.reduceAdd, Nat.reduceSub, Array.replicate_succ, Array.replicate_zero, List.push_toArray, List.append_toArray, List.nil_append, List.cons_append]
  gi_wp2
  refine ⟨trivial, (callsIn_wide.2 (hlap _)).mono ?_⟩
  rintro e w' ⟨rfl, rfl⟩
  gi_wp2
  refine ⟨trivial, (callsIn_wide.2 (runs_any head L _)).mono ?_⟩
  rintro e w' ⟨rfl, rfl⟩
  gi_wp2
  have bV4 : Boxed ((w1.alloc (.cells #[.int .i64 (head : Int)] 2)).alloc (.cells #[.int .i64 (L : Int)] 3)) (T + 4) 2 (.int .i64 (head : Int)) := by rw [← hz1]; exact (Boxed.new w1 2 _).alloc _
  have bV5 : Boxed ((w1.alloc (.cells #[.int .i64 (head : Int)] 2)).alloc (.cells #[.int .i64 (L : Int)] 3)) (T + 4 + 1) 3 (.int .i64 (L : Int)) := by rw [← hz1]; simpa using Boxed.new (w1.alloc (.cells #[.int .i64 (head : Int)] 2)) 3 (.int .i64 (L : Int))
  have kV : Below w1.heap.size w1 ((w1.alloc (.cells #[.int .i64 (head : Int)] 2)).alloc (.cells #[.int .i64 (L : Int)] 3)) := ((Below.refl _ _).alloc (Nat.le_refl _) _).alloc (by simp) _
  have hzV : ((w1.alloc (.cells #[.int .i64 (head : Int)] 2)).alloc (.cells #[.int .i64 (L : Int)] 3)).heap.size = T + 6 := by simp [hz1]
  obtain ⟨V, hV⟩ : ∃ V, (w1.alloc (.cells #[.int .i64 (head : Int)] 2)).alloc (.cells #[.int .i64 (L : Int)] 3) = V := ⟨_, rfl⟩
  rw [hV] at bV4 bV5 kV hzV ⊢
  have hwV : Below w.heap.size w V := hb1.trans (kV.mono (by omega))
  have hDV := h.mono hwV
  have HV := hide hV
  have Hw1 := hide hw1
  clear hV hw1
  have v0 := (kV.block T (by omega)).trans b0
  have v1 : Boxed V (T + 1) 29 (.slice none 0 0) := (kV.block _ (by omega)).trans b1
  have v2 : Boxed V (T + 1 + 1) 42 (.int .i64 0) := (kV.block _ (by omega)).trans b2
  have v3 : Boxed V (T + 1 + 1 + 1) 29 (.slice none 0 0) := (kV.block _ (by omega)).trans b3
  clear b0 b1 b2 b3 c2
  have hseq := runs1_any (fun k => k < V.heap.size ∧ k ≠ T + 1 + 1 + 1) head L _ _ V bV4 bV5 (by omega) (by have := HL.out; omega) ⟨by omega, by omega⟩ ⟨by omega, by omega⟩
  refine range_law (n := 3) (gf := 82) (lb := #[.pointer (some ⟨T + 4 + 1, 0, none⟩), .pointer (some ⟨T + 4, 0, none⟩)]) rfl (enters_of Tryz.func82 (by kernel_rfl) rfl) hseq (Below.refl _ _) (fun k hk => hk.1) (fun _ => rfl)
    (fun pre U => Keeps (fun k => k = T + 1 + 1 + 1) V U ∧ ∃ rs, (rs.length = tot pre ∧ Got (secAt s base blocks) head rs) ∧ RowAt (T + 1 + 1 + 1) (T + 8) U rs)
    (fun code pre U => code = .ret ∧ ((Below w.heap.size w U ∧ Boxed U (T + 1 + 1) 42 (.int .i64 0)) ∧ ∃ rs, Scanned (secAt s base blocks) head L rs ∧ RowAt (T + 1) (T + 8) U rs))
    (Stands.and (stands_keeps _ _ (Nat.le_refl _)) (Stands.ex fun rs => Stands.and (Stands.pure _ _ _) (stands_row _ _ _ (by omega) (by omega))))
    (fun code => Stands.and (Stands.pure _ _ _) (Stands.and (Stands.and (stands_below _ _ (Nat.le_refl _) (by omega)) (stands_boxed _ _ _ (.inl (by omega)))) (Stands.ex fun rs => Stands.and (Stands.pure _ _ _) (stands_row _ _ _ (by omega) (by omega)))))
    ⟨Keeps.refl _ _, [], ⟨rfl, fun i hi => by simp at hi⟩, none, _, [], v3, Rw.nil _ _⟩
    (fun x => { tmps := #[.agg #[.pointer (some ⟨g, 0, none⟩), .int .i64 (base : Int), .int .i64 (blocks : Int)], .int .i64 (head : Int), .pointer (some ⟨T, 0, none⟩), undef, .pointer (some ⟨T + 1, 0, none⟩), .pointer (some ⟨T + 1 + 1, 0, none⟩), .pointer (some ⟨T + 1 + 1 + 1, 0, none⟩), .int .i64 (x.1 : Int), .int .i64 (x.2 : Int), undef, undef, undef, undef, undef,
      .int .i64 (head : Int), .pointer (some ⟨T, 2, none⟩), .int .i64 (blocks : Int), .int .i64 (L : Int), .func (.func 82) #[] #[.pointer (some ⟨T + 4 + 1, 0, none⟩), .pointer (some ⟨T + 4, 0, none⟩)], .int .i64 (x.1 : Int), .int .i64 (x.2 : Int), undef, undef, undef, undef, undef, undef, undef, undef, undef, undef, undef, undef, undef, undef, undef, undef, undef, undef, undef, undef, undef, undef, undef, undef, undef, undef, undef, undef, undef, undef, undef, undef, undef, undef, undef, undef], defers := [] })
    ?assign ?body ?done ?stop
  case assign =>
    rintro l' ⟨xa, xb⟩ U T' hT'
    clear hseq
    gi_wp2
    exact hT'
  case body =>
    rintro pre ⟨fi, ma⟩ W hSp ⟨hkW, rs, ⟨hrl, hgot⟩, hrow⟩ hsW ⟨r, hr⟩
    obtain ⟨e1, e2, e3⟩ := hSp.of
    dsimp only at e1 e2 e3
    have hfi : fi ≤ 1152921504606846976 + 1024 := by have := HL.out; omega
    have hma : 1 ≤ ma ∧ ma ≤ 4 ∧ fi % 4 + ma ≤ 4 ∧ tot pre + ma ≤ L := by omega
    have E1 := hide e1
    have E2 := hide e2
    have E3 := hide e3
    clear e1 e2 e3
    have w0 := (hkW.block T (by omega) (by omega)).trans v0
    have c0 : W.cell? ⟨T, 0, none⟩ = some (.pointer (some ⟨g, 0, none⟩)) := by unfold World.cell?; rw [w0]; rfl
    have c1 : W.cell? ⟨T, 1, none⟩ = some (.int .i64 (base : Int)) := by unfold World.cell?; rw [w0]; rfl
    have c2 : W.cell? ⟨T, 2, none⟩ = some (.int .i64 (blocks : Int)) := by unfold World.cell?; rw [w0]; rfl
    have hwW : Below w.heap.size w W := by
      have := hkW.below (B := w.heap.size) (fun k hk => by have e : k = T + 1 + 1 + 1 := hk; omega) hwV.size
      exact hwV.trans this
    have hDW := h.mono hwW
    obtain ⟨bk, hbk⟩ : ∃ bk, base + fi / 4 % blocks = bk := ⟨_, rfl⟩
    have hbn : bk < n := by have : fi / 4 % blocks < blocks := Nat.mod_lt _ (by omega)
                            omega
    have hrd : readS s n (bk : Int) = (readL s bk, 0) := by
      have : inS n (bk : Int) = true := by simp [inS]; omega
      simp [readS, hon, this]
    obtain ⟨hrl1, hrl2⟩ := readL_ok hDW.ok hbn
    obtain ⟨er, her⟩ : ∃ er : Int, er = 0 := ⟨_, rfl⟩
    have hread : ∀ W1, Below W.drew.heap.size W.drew W1 → Calls Tryz.prog 65 #[.pointer (some ⟨g, 0, none⟩), .int .i64 ((base + fi / 4 % blocks : Nat) : Int)] W1 fun e w' => ∃ v, e = .returned (.tuple #[v, .int .i64 er]) ∧ w'.ownsRow W1.heap.size 5 1 v (readL s bk).length (cellsB (readL s bk)) ∧ Below W1.heap.size W1 w' := by
      intro W1 hB
      have q := read_yes ((hDW.mono (below_drew' W)).mono hB) (bk : Int) hpl
      rw [hrd] at q
      rw [hbk, her]
      exact q
    have Hrd := hide hrd
    have Hbk := hide hbk
    have Hw0 := hide w0
    have HwW := hide hwW
    have HDW := hide hDW
    have HDV := hide hDV
    have Hh := hide h
    have Hgot := hide hgot
    have Hrow := hide hrow
    have Hr := hide hr
    have Hrl := hide hrl
    have Her := hide her
    have Hv1 := hide v1
    have Hv2 := hide v2
    have Hv3 := hide v3
    clear hseq hrd hbk w0 hwW hDW hDV h hgot hrow hr hrl her v0 v1 v2 v3 bV4 bV5
    gi_wp2
    have sW : W.drew.cell? ⟨T, 0, none⟩ = some (.pointer (some ⟨g, 0, none⟩)) ∧ W.drew.cell? ⟨T, 1, none⟩ = some (.int .i64 (base : Int)) ∧ W.drew.cell? ⟨T, 2, none⟩ = some (.int .i64 (blocks : Int)) := ⟨c0, c1, c2⟩
    refine wpIn_region_round (fun w' => w'.cell? ⟨T, 0, none⟩ = some (.pointer (some ⟨g, 0, none⟩)) ∧ w'.cell? ⟨T, 1, none⟩ = some (.int .i64 (base : Int)) ∧ w'.cell? ⟨T, 2, none⟩ = some (.int .i64 (blocks : Int))) (by kernel_rfl) (by kernel_rfl) (fun ⟨a', w', hh⟩ => hh) ?_
    refine wpAnyH_take (i := 0) (oi := { dst := some 22, op := Op.fieldAddr 85 (Operand.tmp 2) 0, type := 0, pos := _, after := #[], guard := none }) (v := .pointer (some ⟨T, 0, none⟩)) rfl (by kernel_rfl) (by kernel_rfl) (by kernel_rfl) (fun _ _ _ h => h) (Or.inl ⟨by rfl, fun w' hw => by obtain ⟨d0, d1, d2⟩ := hw; go_simp⟩) sW ?_
    simp only [Act.put, List.setIfInBounds_toArray, List.set_cons_zero, List.set_cons_succ]
    refine wpAnyH_take (i := 1) (oi := { dst := some 23, op := Op.load 34 (Operand.tmp 22), type := 34, pos := _, after := #[{ on := 0, ground := Ground.data }], guard := none }) (v := .pointer (some ⟨g, 0, none⟩)) rfl (by kernel_rfl) (by kernel_rfl) (by kernel_rfl) (fun _ _ _ h => h) (Or.inl ⟨by rfl, fun w' hw => by obtain ⟨d0, d1, d2⟩ := hw; go_simp⟩) sW ?_
    simp only [Act.put, List.setIfInBounds_toArray, List.set_cons_zero, List.set_cons_succ]
    refine wpAnyH_take (i := 2) (oi := { dst := some 24, op := Op.load 85 (Operand.tmp 2), type := 85, pos := _, after := #[], guard := none }) (v := .agg #[.pointer (some ⟨g, 0, none⟩), .int .i64 (base : Int), .int .i64 (blocks : Int)]) rfl (by kernel_rfl) (by kernel_rfl) (by kernel_rfl) (fun _ _ _ h => h) (Or.inl ⟨by rfl, fun w' hw => by obtain ⟨d0, d1, d2⟩ := hw; go_simp⟩) sW ?_
    simp only [Act.put, List.setIfInBounds_toArray, List.set_cons_zero, List.set_cons_succ]
    refine wpAnyH_take (i := 3) (oi := { dst := some 25, op := Op.move (Operand.tmp 7), type := 2, pos := _, after := #[], guard := none }) (v := .int .i64 (fi : Int)) rfl (by kernel_rfl) (by kernel_rfl) (by kernel_rfl) (fun _ _ _ h => h) (Or.inl ⟨by rfl, fun w' hw => by obtain ⟨d0, d1, d2⟩ := hw; go_simp⟩) sW ?_
    simp only [Act.put, List.setIfInBounds_toArray, List.set_cons_zero, List.set_cons_succ]
    refine wpAnyH_ready (rs := [4]) (by kernel_rfl) (by simp) ?_
    refine AllReadyH.cons (o := { dst := some 26, op := Op.call { callee := Callee.value (Operand.func 66), args := #[Operand.tmp 24, Operand.tmp 25], argTypes := #[85, 2] }, type := 3, pos := _, after := #[{ on := 2, ground := Ground.data }, { on := 3, ground := Ground.data }], guard := none }) rfl (fun K hK => ?_) AllReadyH.nil
    go_simp
    refine (gBlock_any g base blocks fi _ h1 h2 (by omega) (by omega)).mono ?_
    rintro e W1 ⟨rfl, hB1⟩
    have sW1 : W1.cell? ⟨T, 0, none⟩ = some (.pointer (some ⟨g, 0, none⟩)) ∧ W1.cell? ⟨T, 1, none⟩ = some (.int .i64 (base : Int)) ∧ W1.cell? ⟨T, 2, none⟩ = some (.int .i64 (blocks : Int)) := by
      have kk := Keeps.of_below (S := fun _ => False) hB1
      exact ⟨kk.cell sW.1 id, kk.cell sW.2.1 id, kk.cell sW.2.2 id⟩
    refine hK.out _ _ sW1 (fun _ => ?_)
    clear hK K
    refine wpAnyH_ready (rs := [5]) (by kernel_rfl) (by simp) ?_
    refine AllReadyH.cons (o := { dst := some 27, op := Op.call { callee := Callee.value (Operand.func 65), args := #[Operand.tmp 23, Operand.tmp 26], argTypes := #[34, 3] }, type := 98, pos := _, after := #[{ on := 1, ground := Ground.data }, { on := 4, ground := Ground.data }, { on := 4, ground := Ground.chain }], guard := none }) rfl (fun K hK => ?_) AllReadyH.nil
    go_simp
    refine (hread W1 hB1).mono ?_
    rintro e W2 ⟨vb, rfl, hob, hB2⟩
    have sW2 : W2.cell? ⟨T, 0, none⟩ = some (.pointer (some ⟨g, 0, none⟩)) ∧ W2.cell? ⟨T, 1, none⟩ = some (.int .i64 (base : Int)) ∧ W2.cell? ⟨T, 2, none⟩ = some (.int .i64 (blocks : Int)) := by
      have kk := Keeps.of_below (S := fun _ => False) hB2
      exact ⟨kk.cell sW1.1 id, kk.cell sW1.2.1 id, kk.cell sW1.2.2 id⟩
    refine hK.out _ _ sW2 (fun _ => ?_)
    clear hK K
    refine wpAnyH_take (i := 6) (oi := { dst := some 21, op := Op.move (Operand.tmp 27), type := 98, pos := _, after := #[{ on := 5, ground := Ground.data }], guard := none }) (v := .tuple #[vb, .int .i64 er]) rfl (by kernel_rfl) (by kernel_rfl) (by kernel_rfl) (fun _ _ _ h => h) (Or.inl ⟨by rfl, fun w' hw => by obtain ⟨d0, d1, d2⟩ := hw; go_simp⟩) sW2 ?_
    simp only [Act.put, List.setIfInBounds_toArray, List.set_cons_zero, List.set_cons_succ]
    refine wpAnyH_take (i := 7) (oi := { dst := some 28, op := Op.extract (Operand.tmp 21) 0, type := 30, pos := _, after := #[{ on := 6, ground := Ground.data }], guard := none }) (v := vb) rfl (by kernel_rfl) (by kernel_rfl) (by kernel_rfl) (fun _ _ _ h => h) (Or.inl ⟨by rfl, fun w' hw => by obtain ⟨d0, d1, d2⟩ := hw; go_simp⟩) sW2 ?_
    simp only [Act.put, List.setIfInBounds_toArray, List.set_cons_zero, List.set_cons_succ]
    refine wpAnyH_take (i := 8) (oi := { dst := some 29, op := Op.extract (Operand.tmp 21) 1, type := 42, pos := _, after := #[{ on := 6, ground := Ground.data }, { on := 9, ground := Ground.gcOnly Departure.lateStores }], guard := none }) (v := .int .i64 er) rfl (by kernel_rfl) (by kernel_rfl) (by kernel_rfl) (fun _ _ _ h => h) (Or.inl ⟨by rfl, fun w' hw => by obtain ⟨d0, d1, d2⟩ := hw; go_simp⟩) sW2 ?_
    simp only [Act.put, List.setIfInBounds_toArray, List.set_cons_zero, List.set_cons_succ]
    refine wpAnyH_take (i := 9) (oi := { dst := some 9, op := Op.assign (Operand.tmp 28), type := 30, pos := _, after := #[{ on := 7, ground := Ground.data }, { on := 5, ground := Ground.chain }, { on := 0, ground := Ground.phase }, { on := 1, ground := Ground.phase }, { on := 2, ground := Ground.phase }, { on := 3, ground := Ground.phase }, { on := 4, ground := Ground.phase }, { on := 5, ground := Ground.phase }, { on := 6, ground := Ground.phase }, { on := 7, ground := Ground.phase }, { on := 8, ground := Ground.textOnly Departure.lateStores }], guard := none }) (v := vb) rfl (by kernel_rfl) (by kernel_rfl) (by kernel_rfl) (fun _ _ _ h => h) (Or.inl ⟨by rfl, fun w' hw => by obtain ⟨d0, d1, d2⟩ := hw; go_simp⟩) sW2 ?_
    simp only [Act.put, List.setIfInBounds_toArray, List.set_cons_zero, List.set_cons_succ]
    refine wpAnyH_take (i := 10) (oi := { dst := some 10, op := Op.assign (Operand.tmp 29), type := 42, pos := _, after := #[{ on := 8, ground := Ground.data }, { on := 9, ground := Ground.chain }, { on := 0, ground := Ground.phase }, { on := 1, ground := Ground.phase }, { on := 2, ground := Ground.phase }, { on := 3, ground := Ground.phase }, { on := 4, ground := Ground.phase }, { on := 5, ground := Ground.phase }, { on := 6, ground := Ground.phase }, { on := 7, ground := Ground.phase }, { on := 8, ground := Ground.phase }, { on := 9, ground := Ground.phase }], guard := none }) (v := .int .i64 er) rfl (by kernel_rfl) (by kernel_rfl) (by kernel_rfl) (fun _ _ _ h => h) (Or.inl ⟨by rfl, fun w' hw => by obtain ⟨d0, d1, d2⟩ := hw; go_simp⟩) sW2 ?_
    simp only [Act.put, List.setIfInBounds_toArray, List.set_cons_zero, List.set_cons_succ]
    refine wpAnyH_done (by kernel_rfl) ?_ _
    have he := Her.out
    subst he
    rw [hrl1] at hob
    obtain ⟨gb, cb, evb, hgb⟩ : ∃ gb cb, vb = .slice (some ⟨gb, 0, none⟩) 256 cb ∧ W1.heap.size ≤ gb := by
      obtain ⟨ao, cap, e, _, hg⟩ := owns_form hob
      obtain ⟨gb, rfl, hgb⟩ := hg (by omega)
      exact ⟨gb, cap, e, hgb⟩
    subst evb
    have hbb := Bs.of_owns hob hrl2
    have hcb := hbb.cap
    have hgb2 : gb < W2.heap.size := owns_lt' hob gb rfl
    obtain ⟨bytes, hby⟩ : ∃ bytes, readL s bk = bytes := ⟨_, rfl⟩
    rw [hby] at hbb hrl1 hrl2 hcb
    have hsec : ∀ j, j < ma → secAt s base blocks (fi + j) = secOf bytes (fi + j) := by
      intro j hj
      unfold secAt
      rw [show (fi + j) / 4 = fi / 4 by omega, Hbk.out, hby]
    have hz2 : W.heap.size ≤ W1.heap.size ∧ W1.heap.size ≤ W2.heap.size := ⟨hB1.size, hB2.size⟩
    have hkW2 : Keeps (fun _ => False) W W2 := (Keeps.drew W).trans ((Keeps.of_below hB1).trans (Keeps.of_below hB2))
    obtain ⟨p0, v0, vs0, hx0, hrw0⟩ := Hrow.out
    have hp0 : p0 ≠ some gb := fun e => by have := owns_lt' hrw0.row gb (hrw0.own.trans e); omega
    have hx2 : Boxed W2 (T + 1 + 1 + 1) 29 v0 := (hkW2.block _ hx0.lt id).trans hx0
    have hrw2 := hrw0.keeps hkW2 (fun _ _ => id)
    have Hby := hide hby
    have Hrl1 := hide hrl1
    have Hob := hide hob
    clear hread sW sW1 sW2 hby hrl1 hob c0 c1 c2
    gi_wp2
    gi_loopw [11] (fun i wr => ∃ (k : Nat) (rs' : List Rc), k ≤ ma ∧ i = .int .i64 ((fi : Int) + (k : Int)) ∧ (rs'.length = tot pre + k ∧ Got (secAt s base blocks) head rs') ∧ (∃ p' v vs, Boxed wr (T + 1 + 1 + 1) 29 v ∧ Rw wr p' (fun k => T + 8 ≤ k) v rs' vs ∧ p' ≠ some gb) ∧ Keeps (fun k => k = T + 1 + 1 + 1 ∨ (T + 8 ≤ k ∧ k ≠ gb)) W2 wr) (fun i _ => fi + ma - (intOf i).toNat)
    case atStart => exact ⟨0, rs, Nat.zero_le _, by simp, ⟨by simpa using Hrl.out, Hgot.out⟩, ⟨p0, v0, vs0, hx2, hrw2, hp0⟩, Keeps.refl _ _⟩
    case round =>
      obtain ⟨k, rs', hk, rfl, ⟨hrk, hgk⟩, ⟨pk, vk, vsk, hxk, hrwk, hpk⟩, hkk⟩ := hrel
      by_cases hkm : k < ma
      · have hbk2 := hkk.bs hbb (fun b hb => by
          have hb' : gb = b := by simpa [Value.ownBlock] using hb
          intro hh; rcases hh with hh | hh <;> omega)
        have hse := bs_sec hbk2 Hrl1.out (fi + k)
        have hgs := gSector_any gb 0 cb (fi + k) wr (by have := Hrl1.out; omega) (by omega)
        rw [show ((fi + k : Nat) : Int) = (fi : Int) + (k : Int) by omega] at hgs
        generalize 0 + (fi + k) % 4 * 64 = so at hgs hse
        generalize cb - (fi + k) % 4 * 64 = sc at hgs hse
        have hck := hxk.cell
        have hfk := hxk.frozen
        obtain ⟨kao, kcap, rfl, -, -⟩ := owns_form hrwk.row
        have Hxk := hide hxk
        have Hrwk := hide hrwk
        have Hkk := hide hkk
        have Hgk := hide hgk
        have Hrk := hide hrk
        clear hxk hrwk hkk hgk hrk hx0 hrw0 hx2 hrw2
        rcases rc_em (secOf bytes (fi + k)) (fi + k) with ⟨x, hx⟩ | hno
        · have htk := take_is _ _ x hx _ _ hse
          rw [show ((fi + k : Nat) : Int) = (fi : Int) + (k : Int) by omega] at htk
          gi_wp2
          refine ⟨trivial, ((callsIn_wide.2 hgs).inRound _).mono ?_⟩
          rintro e w' ⟨rfl, rfl⟩
          gi_wp2
          refine ⟨trivial, ((callsIn_wide.2 htk).inRound _).mono ?_⟩
          rintro e W4 ⟨u, rfl, hou, hB4⟩
          obtain ⟨uao, ucap, rfl, -, hug⟩ := owns_form hou
          have hu4 : Bs W4 _ x.l := Bs.of_owns hou hx.ok.2.2.1
          have hlt4 := hou.lt
          have hrw4 := Hrwk.out.mono hB4
          have hbx4 : Boxed W4 (T + 1 + 1 + 1) 29 (.slice kao rs'.length kcap) := (hB4.block _ Hxk.out.lt).trans Hxk.out
          have hck4 : ∀ o, (W4.alloc o).cell? ⟨T + 1 + 1 + 1, 0, none⟩ = some (.slice kao rs'.length kcap) := fun o => (hbx4.alloc o).cell
          have hne4 : ∀ b, (Value.slice kao rs'.length kcap).ownBlock = some b → b ≠ T + 1 + 1 + 1 := fun b hb e => by have := hrw4.pF b (hrw4.own.symm.trans hb); omega
          have row4 := hrw4.row
          have hrsl : rs'.length ≤ 4096 := by have := Hrk.out; have := HL.out; omega
          have hz4 : wr.heap.size ≤ W4.heap.size := hB4.size
          have Hu4 := hide hu4
          have Hou := hide hou
          have Hx := hide hx
          have Hse := hide hse
          have Hrw4 := hide hrw4
          have Hbx4 := hide hbx4
          clear hck hfk hu4 hou hx hse htk hgs hrw4 hbx4
          gi_wp2_with (gi_at_builtin; refine wpListIn_append_own_at _ rfl _ _ 29 rfl 0 52 i0 (.agg #[.int .i64 0, .int .i64 0, .int .i64 0, .slice none 0 0, .int .i64 0]) 5 56 Tryz.underlying29 hi hz0 hz1' hz2' rfl (by decide) (.slice kao rs'.length kcap) rs'.length (cellsR rs' vsk) rfl ((row4.alloc _).alloc _) ⟨W4.heap.size + 1, 0, none⟩ 1 1 [.int .i64 x.k, .int .i64 x.b, .int .i64 x.o, .slice uao x.l.length ucap, .int .i64 x.m] rfl rfl (cell_five_at _ _ _ _ _ _ _ _) (by simp [Value.oneCell']) (by unfold maxLen; omega) (by omega) (by omega) ?_; intro v5 w5 ho5 hg5 hn5 hat5; have hbx5 := ((Hbx4.out.alloc _).alloc _).kept hg5 (fun e => hne4 _ e.symm rfl); have hc5 := hbx5.cell; have hf5 := hbx5.frozen; obtain ⟨gv5, cv5, rfl⟩ := owns_succ ho5)
          have hown4 : (Value.slice kao rs'.length kcap).ownBlock = pk := Hrw4.out.own
          rw [hown4] at hg5 hat5
          have hpk8 : ∀ b, pk = some b → T + 8 ≤ b := fun b hb => Hrw4.out.pF b hb
          have hpkl : ∀ b, pk = some b → b < wr.heap.size := fun b hb => owns_lt' Hrwk.out.row b (Hrwk.out.own.trans hb)
          have kk : Keeps (fun b => pk = some b) W4 w5 := (Keeps.alloc _ _).trans ((Keeps.alloc _ _).trans (keeps_grown hg5))
          have hzw : W2.heap.size ≤ wr.heap.size := Hkk.out.size
          have hkin : ∀ b, (Value.slice (some ⟨gv5, 0, none⟩) (rs'.length + 1) cv5).ownBlock = some b → pk = some b ∨ b = W4.heap.size + 2 := by
            intro b hb
            rcases hat5 with e | e
            · exact .inl (e.symm.trans hb)
            · rw [e] at hb; injection hb with hb; simp at hb; exact .inr (by omega)
          have hrw5 := (Hrw4.out.narrow.snoc (u := .slice uao x.l.length ucap) (r := x) (fun k hk => hk.2) kk ho5 (fun b hb => by rcases hkin b hb with e | e; exact .inl e; exact .inr (by omega)) (keeps_bs kk Hu4.out (fun _ b hb e => by have := hpkl b e; have := (hlt4 b hb).1; omega))
            (fun _ b hb e => by have h4 := hlt4 b hb; rcases hkin b e with e | e; have := hpkl b e; omega; omega)).widen (F' := fun k => T + 8 ≤ k) (fun k hk => by
              rcases hk with hk | hk | hk
              · exact hk.1
              · rcases hkin k hk with e | e
                · exact hpk8 k e
                · omega
              · have := (hlt4 k hk).1; omega)
          have hgv : gv5 ≠ T + 1 + 1 + 1 := fun e => by
            rcases hkin gv5 rfl with h' | h'
            · have := hpk8 _ h'; omega
            · omega
          refine ⟨⟨k + 1, rs' ++ [x], by omega, by go_num, ⟨by simp [Hrk.out]; omega, Hgk.out.snoc ?_⟩, ⟨_, _, _, hbx5.set _, hrw5.keeps (keeps_set w5 (T + 1 + 1 + 1) 0 _) (fun k hk e => by have e' : k = T + 1 + 1 + 1 := e; omega), ?_⟩, ?_⟩, ?_⟩
          · have e : head + rs'.length = fi + k := by have := Hrk.out; have := E1.out; omega
            rw [e, hsec k hkm]
            exact Hx.out
          · intro e
            rcases hkin gb e with h' | h'
            · exact hpk h'
            · omega
          · refine Hkk.out.trans ((Keeps.of_below hB4).trans ((kk.mono (fun b hb => .inr ⟨hpk8 b hb, fun e => hpk (e ▸ hb)⟩)).trans ((keeps_set w5 (T + 1 + 1 + 1) 0 _).mono (fun b hb => .inl hb))))
          · simp [intOf]; omega
        · obtain ⟨xk, xb, xo, xm, xe, hxe, hnt⟩ := take_not _ _ hno (by rw [secOf_length Hrl1.out]; omega) hse.lt
          have htk := hnt _ _ hse
          rw [show ((fi + k : Nat) : Int) = (fi : Int) + (k : Int) by omega] at htk
          have hxe0 : (xe != 0) = true := by rcases hxe with rfl | rfl <;> rfl
          gi_wp2
          refine ⟨trivial, ((callsIn_wide.2 hgs).inRound _).mono ?_⟩
          rintro e w' ⟨rfl, rfl⟩
          gi_wp2
          refine ⟨trivial, ((callsIn_wide.2 htk).inRound _).mono ?_⟩
          rintro e W4 ⟨u, rfl, hou, hB4⟩
          obtain ⟨uao, ucap, rfl, -, hug⟩ := owns_form hou
          have hz4 : wr.heap.size ≤ W4.heap.size := hB4.size
          have hzw : W2.heap.size ≤ wr.heap.size := Hkk.out.size
          have hrw4 := Hrwk.out.mono hB4
          have hkV4 : ∀ b, b < T + 6 → b ≠ T + 1 + 1 + 1 → W4.heap[b]? = V.heap[b]? := fun b hb hne => (hB4.block b (by omega)).trans ((Hkk.out.block b (by omega) (fun h' => by rcases h' with h' | h' <;> omega)).trans ((hkW2.block b (by omega) id).trans (hkW.block b (by omega) hne)))
          have hbx4 : Boxed W4 (T + 1 + 1 + 1) 29 (.slice kao rs'.length kcap) := (hB4.block _ Hxk.out.lt).trans Hxk.out
          have q1 : Boxed W4 (T + 1) 29 (.slice none 0 0) := (hkV4 _ (by omega) (by omega)).trans Hv1.out
          have q2 : Boxed W4 (T + 1 + 1) 42 (.int .i64 0) := (hkV4 _ (by omega) (by omega)).trans Hv2.out
          have hck4 : ∀ o, (W4.alloc o).cell? ⟨T + 1 + 1 + 1, 0, none⟩ = some (.slice kao rs'.length kcap) := fun o => (hbx4.alloc o).cell
          have q1c : ∀ o, (W4.alloc o).cell? ⟨T + 1, 0, none⟩ = some (.slice none 0 0) := fun o => (q1.alloc o).cell
          have q1f : ∀ o, (W4.alloc o).frozen? ⟨T + 1, 0, none⟩ = false := fun o => (q1.alloc o).frozen
          have q2c : ∀ o, (W4.alloc o).cell? ⟨T + 1 + 1, 0, none⟩ = some (.int .i64 0) := fun o => (q2.alloc o).cell
          have q2f : ∀ o, (W4.alloc o).frozen? ⟨T + 1 + 1, 0, none⟩ = false := fun o => (q2.alloc o).frozen
          have Hrw4 := hide hrw4
          have Hbx4 := hide hbx4
          have Q1 := hide q1
          have Q2 := hide q2
          have Hno := hide hno
          clear hck hfk hou hno hse htk hgs hrw4 hbx4 hnt hxe q1 q2
          gi_wp2
          generalize Obj.cells #[Value.int IntKind.i64 xk, Value.int IntKind.i64 xb, Value.int IntKind.i64 xo, Value.slice uao 0 ucap, Value.int IntKind.i64 xm] 52 = oo
          have kC := ((Keeps.alloc (S := fun b => b = T + 1 ∨ b = T + 1 + 1) W4 oo).trans ((keeps_set (W4.alloc oo) (T + 1) 0 (.slice kao rs'.length kcap)).mono (fun b hb => .inl hb))).trans ((keeps_set _ (T + 1 + 1) 0 (.int .i64 0)).mono (fun b hb => .inr hb))
          have bU1 : Boxed (((W4.alloc oo).setCell ⟨T + 1, 0, none⟩ (.slice kao rs'.length kcap)).setCell ⟨T + 1 + 1, 0, none⟩ (.int .i64 0)) (T + 1) 29 (.slice kao rs'.length kcap) := (((Q1.out.alloc oo).set (.slice kao rs'.length kcap)).other (by omega) (.int .i64 0))
          have bU2 : Boxed (((W4.alloc oo).setCell ⟨T + 1, 0, none⟩ (.slice kao rs'.length kcap)).setCell ⟨T + 1 + 1, 0, none⟩ (.int .i64 0)) (T + 1 + 1) 42 (.int .i64 0) := (((Q2.out.alloc oo).other (by omega) (.slice kao rs'.length kcap)).set (.int .i64 0))
          generalize ((W4.alloc oo).setCell ⟨T + 1, 0, none⟩ (.slice kao rs'.length kcap)).setCell ⟨T + 1 + 1, 0, none⟩ (.int .i64 0) = U at *
          have kWU : Keeps (fun b => (b = T + 1 ∨ b = T + 1 + 1) ∨ (b = T + 1 + 1 + 1 ∨ (T + 8 ≤ b ∧ b ≠ gb))) W U := (hkW2.mono (fun _ h => h.elim)).trans ((Hkk.out.mono (fun _ h => .inr h)).trans ((Keeps.of_below hB4).trans (kC.mono (fun _ h => .inl h))))
          have hsW' := hsW
          refine ⟨⟨kWU.size, fun b h1 h2 => kWU.block b (by omega) (fun h' => by rcases h' with (h' | h') | (h' | h') <;> omega)⟩, rfl, ⟨HwW.out.trans (kWU.below (fun b hb => by rcases hb with (h' | h') | (h' | h') <;> omega) HwW.out.size), bU2⟩, rs', ⟨Hgk.out, by have := Hrk.out; omega, .inr ?_⟩, pk, _, vsk, bU1, Hrw4.out.keeps kC (fun b hb h' => by rcases h' with h' | h' <;> omega)⟩
          have e : head + rs'.length = fi + k := by have := Hrk.out; have := E1.out; omega
          rw [e, hsec k hkm]
          exact Hno.out
      · obtain rfl : k = ma := by omega
        have Hkk := hide hkk
        have Hrwk := hide hrwk
        have Hxk := hide hxk
        have Hgk := hide hgk
        have Hrk := hide hrk
        clear hkk hrwk hxk hgk hrk hx0 hrw0 hx2 hrw2
        gi_wp2
        have kWr : Keeps (fun b => b = T + 1 + 1 + 1 ∨ T + 8 ≤ b) W wr := (hkW2.mono (fun _ h => h.elim)).trans (Hkk.out.mono (fun _ h => h.imp id (fun h => h.1)))
        refine ⟨⟨kWr.size, fun b h1 h2 => kWr.block b (by omega) (fun h' => by rcases h' with h' | h' <;> omega)⟩, ⟨kWr.size, fun b hb => kWr.block b (by omega) (fun h' => by rcases h' with h' | h' <;> omega)⟩, ?_, rs', ⟨by rw [tot_snoc]; exact Hrk.out, Hgk.out⟩, pk, vk, vsk, Hxk.out, Hrwk.out⟩
        exact hkW.trans' kWr (fun b h' => by rcases h' with h' | h'; exact .inl h'; exact .inr (by omega))
  case done =>
    rintro xs U htot ⟨hkU, rs, ⟨hrl, hgot⟩, pk, v, vs, hx3, hrw⟩ hsU hK
    have q1 : Boxed U (T + 1) 29 (.slice none 0 0) := (hkU.block _ (by omega) (by omega)).trans v1
    have q2 : Boxed U (T + 1 + 1) 42 (.int .i64 0) := (hkU.block _ (by omega) (by omega)).trans v2
    obtain ⟨kao, kcap, rfl, -, -⟩ := owns_form hrw.row
    have c1 := q1.cell
    have f1 := q1.frozen
    have c2 := q2.cell
    have f2 := q2.frozen
    have c3 := hx3.cell
    have HzV := hide hzV
    have Hrw := hide hrw
    have Hrl := hide hrl
    have Htot := hide htot
    clear hseq hrw hrl htot
    gi_wp2
    have kC := ((keeps_set U (T + 1) 0 (.slice kao rs.length kcap)).mono (T := fun b => b = T + 1 ∨ b = T + 1 + 1) (fun b hb => .inl hb)).trans ((keeps_set _ (T + 1 + 1) 0 (.int .i64 0)).mono (fun b hb => .inr hb))
    have bU1 : Boxed ((U.setCell ⟨T + 1, 0, none⟩ (.slice kao rs.length kcap)).setCell ⟨T + 1 + 1, 0, none⟩ (.int .i64 0)) (T + 1) 29 (.slice kao rs.length kcap) := ((q1.set (.slice kao rs.length kcap)).other (by omega) (.int .i64 0))
    have bU2 : Boxed ((U.setCell ⟨T + 1, 0, none⟩ (.slice kao rs.length kcap)).setCell ⟨T + 1 + 1, 0, none⟩ (.int .i64 0)) (T + 1 + 1) 42 (.int .i64 0) := ((q2.other (by omega) (.slice kao rs.length kcap)).set (.int .i64 0))
    generalize (U.setCell ⟨T + 1, 0, none⟩ (.slice kao rs.length kcap)).setCell ⟨T + 1 + 1, 0, none⟩ (.int .i64 0) = U3 at *
    have hK4 : U3.heap[V.heap.size]? = some (.deferred (some [])) := by
      exact (kC.block V.heap.size (by omega) (fun h' => by have := HzV.out; rcases h' with h' | h' <;> omega)).trans hK
    refine ⟨by simp, .inl ⟨_, _, rfl, run_takeDeferred hK4, ?_⟩⟩
    have b1Y := (World.putObj_heap_other (w := U3) (r := V.heap.size) (o := .deferred none) (k := T + 1) (by omega)).trans bU1
    have b2Y := (World.putObj_heap_other (w := U3) (r := V.heap.size) (o := .deferred none) (k := T + 1 + 1) (by omega)).trans bU2
    refine ⟨_, results_cell2 rfl _ _ _ _ _ _ rfl rfl (isAgg29 _) (isAgg42 _) (Boxed.cell b1Y) (Boxed.cell b2Y), rs, pk, _, vs, rfl, ⟨hgot, by have := Hrl.out; have := Htot.out; omega, .inl (by have := Hrl.out; have := Htot.out; omega)⟩, ?_, ?_⟩
    · have q3 := Hrw.out.keeps kC (fun b hb h' => by rcases h' with h' | h' <;> omega)
      exact (q3.keeps (keeps_put U3 V.heap.size _) (fun b hb e => by have e' : b = V.heap.size := e; omega)).widen (fun b hb => by omega)
    · have hB : Below w.heap.size w U3 := by
        have k0 := hkU.below (B := w.heap.size) (fun b hb => by have e : b = T + 1 + 1 + 1 := hb; omega) hwV.size
        have k1 := kC.below (B := w.heap.size) (fun b hb => by rcases hb with h' | h' <;> omega) (Nat.le_trans hwV.size k0.size)
        exact (hwV.trans k0).trans k1
      exact hB.trans (belowK_b (w := w) (Nat.le_refl _) _ _ _ _ (by omega) hK4 rfl rfl)
  case stop =>
    rintro code pre U hSp ⟨rfl, ⟨hbU, b2U⟩, rs, hsc, pk, v, vs, b1U, hrw⟩ hsU hK
    clear hseq
    have HzV := hide hzV
    gi_wp2
    have hK4 := hK
    refine ⟨by simp, .inl ⟨_, _, rfl, run_takeDeferred hK4, ?_⟩⟩
    have b1Y := (World.putObj_heap_other (w := U) (r := V.heap.size) (o := .deferred none) (k := T + 1) (by omega)).trans b1U
    have b2Y := (World.putObj_heap_other (w := U) (r := V.heap.size) (o := .deferred none) (k := T + 1 + 1) (by omega)).trans b2U
    refine ⟨_, results_cell2 rfl _ _ _ _ _ _ rfl rfl (isAgg29 _) (isAgg42 _) (Boxed.cell b1Y) (Boxed.cell b2Y), rs, pk, _, vs, rfl, hsc, ?_, ?_⟩
    · exact (hrw.keeps (keeps_put U V.heap.size _) (fun b hb e => by have e' : b = V.heap.size := e; omega)).widen (fun b hb => by omega)
    · exact hbU.trans (belowK_b (w := w) (Nat.le_refl _) _ _ _ _ (by omega) hK4 rfl rfl)


end Go.Proofs.YtjhbljkoapbkfaaGreat
