/- Contracts of the small functions of words: isWidth, bytes.Equal, Get, Num, Sum, and the document's. -/
import Derived.Test.YtjcmmigbkhiplaaRows
import Derived.Test.YtjcmmigbkhiplaaBase
import Derived.BigQuiet
set_option linter.unusedSimpArgs false
set_option linter.unusedVariables false
namespace Go.Proofs.Ytjcmmigbkhiplaa
open Go.RowKit Go.Attic

theorem Try.own : ownKnob Try.prog.godebug = none := by kernel_rfl
theorem Try.laidOut : laidOutB Try.prog = true := by kernel_rfl

theorem strB_beq {xs ys : List Nat} (hx : ∀ x ∈ xs, x < 256) (hy : ∀ x ∈ ys, x < 256) : ((strB xs).toList == (strB ys).toList) = decide (xs = ys) := by
  rw [Bool.eq_iff_iff]
  simp only [beq_iff_eq, decide_eq_true_eq]
  constructor
  · intro h
    apply strB_inj hx hy
    rw [ByteArray.toList_eq, ByteArray.toList_eq] at h
    rw [ByteArray.ext_iff]
    exact Array.toList_inj.1 h
  · intro h; rw [h]

set_option maxHeartbeats 400000 in
theorem equal_any (v1 v2 : Value) (xs ys : List Nat) (w : World) (h1 : Bs w v1 xs) (h2 : Bs w v2 ys) :
    Calls Try.prog 14 #[v1, v2] w fun e w' => e = .returned (.bool (decide (xs = ys))) ∧ w = w' := by
  have c1 := h1.convert (P := Try.prog) 37 5 9 Try.underlying37 Try.underlying5 Try.underlying9
  have c2 := h2.convert (P := Try.prog) 37 5 9 Try.underlying37 Try.underlying5 Try.underlying9
  have hb := strB_beq h1.lt h2.lt
  clear h1 h2
  go_enter Try.func14, Try.ntmps14
  go_wp2
  go_ret
  exact ⟨by simp, rfl⟩

theorem Try.info5 : (Try.prog.info? 5).map (fun i => (i.zero, i.size, i.bytes)) = some (some (.int .u8 0), 1, 1) := by kernel_rfl

/-- A new slice of bytes, the call's own. -/
def NewBs (w : World) (l : List Nat) (e : Ending) (w' : World) : Prop :=
  ∃ v, e = .returned v ∧ w'.ownsRow w.heap.size 5 1 v l.length (cellsB l) ∧ Below w.heap.size w w'



theorem NewBs.bs {w w' : World} {v : Value} {l : List Nat} (h : w'.ownsRow w.heap.size 5 1 v l.length (cellsB l)) (hx : ∀ x ∈ l, x < 256) : Bs w' v l := Bs.of_owns h hx

/-- A slice that is laid as it is written. -/
theorem Bs.lit (w : World) (e : TypeId) (l : List Nat) (cs : Array Value) (hcs : cs.toList = cellsB l) (hx : ∀ x ∈ l, x < 256) (m : Nat × Nat := (0, 0)) :
    Bs (w.alloc (.cells cs e m)) (.slice (some ⟨w.heap.size, 0, none⟩) l.length l.length) l := by
  refine ⟨_, _, rfl, Nat.le_refl _, by simp, hx, fun _ => ⟨w.heap.size, 0, rfl, fun i hi => ?_⟩⟩
  have h2 : cs[i]? = some (.int .u8 ((l.getD i 0 : Nat) : Int)) := by
    rw [← Array.getElem?_toList, hcs]
    simp [cellsB, List.getD, hi]
  rw [Nat.zero_add]
  simp only [World.cell?, World.alloc, Array.getElem?_push, if_true]
  exact h2

/-- The same, one block further on, as the walk spells it. -/
theorem Bs.lit2 (w : World) (o : Obj) (e : TypeId) (l : List Nat) (cs : Array Value) (n : Nat) (hn : n = l.length) (hcs : cs.toList = cellsB l) (hx : ∀ x ∈ l, x < 256) (m : Nat × Nat) :
    Bs ((w.alloc o).alloc (.cells cs e m)) (.slice (some ⟨w.heap.size + 1, 0, none⟩) n n) l := by
  have := Bs.lit (w.alloc o) e l cs hcs hx m
  subst hn
  simpa using this


set_option maxRecDepth 100000 in
set_option maxHeartbeats 400000 in
theorem clone_any (v : Value) (l : List Nat) (w : World) (h : Bs w v l) (hlen : l.length ≤ 140737488355328) :
    Calls Try.prog 15 #[v] w (NewBs w l) := by
  obtain ⟨i0, hi, hz0, hz1, hz2⟩ := info_parts Try.info5
  have h' := h
  obtain ⟨ao, cap, rfl, hl, hnn, hx, hc⟩ := h
  cases ao with
  | none =>
    obtain ⟨h1, rfl, rfl⟩ := h'.none
    have hnil : ∀ w, (binOp .eql 37 (.slice none 0 0) (.slice none 0 0)).run Try.prog w = .ok (.bool true) w := fun w => Lib.run_eql_slice_nil (P := Try.prog) w 37 5 none 0 0 0 0 Try.underlying37
    clear hc hnn h'
    simp only [List.length_nil]
    go_enter Try.func15, Try.ntmps15
    go_wp2
    go_ret
    exact ⟨_, rfl, World.ownsRow_nil _ _ _ _, Below.refl _ _⟩
  | some ad =>
    have hnil := fun w => Lib.run_eql_slice_nil (P := Try.prog) w 37 5 (some ad) l.length cap 0 0 Try.underlying37
    clear hc
    go_enter Try.func15, Try.ntmps15
    go_wp2_with (at_builtin; refine wpList_append_bs _ rfl (.tmp 5) (.tmp 6) 37 rfl w.heap.size 5 i0 (.int .u8 0) Try.underlying37 hi hz0 hz1 hz2 rfl _ 0 [] rfl (World.ownsRow_lit w #[] 0 (Nat.le_refl _) (by simp) (by simp)) _ l rfl (h'.alloc _) (by omega) (by simp) ?_; intro v' w1 hown hgrow)
    have hb : Below w.heap.size w w1 := ((Below.refl _ _).alloc (Nat.le_refl _) _).grown hgrow (by simp) (by intro k hk; have e : some w.heap.size = some k := hk; injection e with e; omega)
    rw [Nat.zero_add, List.nil_append] at hown
    go_ret
    exact ⟨_, rfl, hown, hb⟩


/-- What a call owns stays its own where nothing that was there turns. -/
theorem owns_below {w w' : World} {B base : Nat} {e : TypeId} {size : Nat} {v : Value} {n : Nat} {xs : List Value} (h : w.ownsRow base e size v n xs) (hb : Below B w w') (hB : w.heap.size ≤ B) : w'.ownsRow base e size v n xs := by
  refine ⟨h.1, ?_⟩
  rcases h.2 with hn | ⟨g, cap, cur, rfl, hb', hgg, rest⟩
  · exact .inl hn
  · refine .inr ⟨g, cap, cur, rfl, hb', ?_, rest⟩
    rw [hb.block g (by have := (Array.getElem?_eq_some_iff.1 hgg).1; omega)]
    exact hgg

/-- A new slice and an error. -/
def NewBsE (w : World) (l : List Nat) (x : Int) (e : Ending) (w' : World) : Prop :=
  ∃ v, e = .returned (.tuple #[v, .int .i64 x]) ∧ w'.ownsRow w.heap.size 5 1 v l.length (cellsB l) ∧ Below w.heap.size w w'



end Go.Proofs.Ytjcmmigbkhiplaa
