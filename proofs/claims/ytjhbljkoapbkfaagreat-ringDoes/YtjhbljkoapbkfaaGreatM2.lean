/- Worlds that differ only in some blocks (Keeps); an append that tells where its row lies; a row into whose midst cells are copied. Nothing here speaks of one program. Contracts: bytes.Clone, slices.Grow, slices.Concat, Seal. Contracts: isPlace, isPatch, isCommit, Check of a record, and the document's. -/
import Derived.Test.YtjhbljkoapbkfaaGreatM1
import Derived.Laws.CopyOwn
import Derived.Deep.RegionLaw
import Derived.Maps.AppendAt
import Derived.Deep.Draws
import Derived.Lib.SlBytesConst
import Derived.Lib.AppendZeros
import Derived.BigQuiet
set_option linter.unusedVariables false
set_option linter.unusedSimpArgs false

namespace Go.Attic
open Go.RowKit

/-- Outside S nothing turns. -/
structure Keeps (S : Nat → Prop) (w w' : World) : Prop where
  os : w'.os = w.os
  tape : w'.tape = w.tape
  output : w'.output = w.output
  size : w.heap.size ≤ w'.heap.size
  block : ∀ k, k < w.heap.size → ¬ S k → w'.heap[k]? = w.heap[k]?

theorem Keeps.refl (S : Nat → Prop) (w : World) : Keeps S w w := ⟨rfl, rfl, rfl, Nat.le_refl _, fun _ _ _ => rfl⟩
theorem Keeps.trans' {S T : Nat → Prop} {a b c : World} (h : Keeps S a b) (k : Keeps T b c) (hT : ∀ k, T k → S k ∨ a.heap.size ≤ k) : Keeps S a c :=
  ⟨k.os.trans h.os, k.tape.trans h.tape, k.output.trans h.output, Nat.le_trans h.size k.size, fun i hi hs =>
    (k.block i (Nat.lt_of_lt_of_le hi h.size) (fun ht => by rcases hT i ht with h | h; exact hs h; omega)).trans (h.block i hi hs)⟩
theorem Keeps.trans {S : Nat → Prop} {a b c : World} (h : Keeps S a b) (k : Keeps S b c) : Keeps S a c := h.trans' k (fun _ h => .inl h)
theorem Keeps.mono {S T : Nat → Prop} {a b : World} (h : Keeps S a b) (hT : ∀ k, S k → T k) : Keeps T a b :=
  ⟨h.os, h.tape, h.output, h.size, fun i hi hs => h.block i hi (fun h => hs (hT i h))⟩
theorem Keeps.of_below {S : Nat → Prop} {w w' : World} (h : Below w.heap.size w w') : Keeps S w w' := ⟨h.os, h.tape, h.output, h.size, fun k hk _ => h.block k hk⟩
theorem Keeps.below {S : Nat → Prop} {w w' : World} {B : Nat} (h : Keeps S w w') (hS : ∀ k, S k → B ≤ k) (hB : B ≤ w.heap.size) : Below B w w' :=
  ⟨h.os, h.tape, h.output, h.size, fun k hk => h.block k (by omega) (fun hs => by have := hS k hs; omega)⟩
theorem Keeps.of_grown {S : Nat → Prop} {w w' : World} {row : Option Nat} (h : w.grownBy w' row) (hr : ∀ k, row = some k → S k) : Keeps S w w' :=
  ⟨h.os, h.tape, h.output, h.size, fun k hk hs => h.block k hk (fun e => hs (hr k e.symm))⟩
theorem Keeps.setCell {S : Nat → Prop} (w : World) {g o : Nat} (hg : S g) (v : Value) : Keeps S w (w.setCell ⟨g, o, none⟩ v) :=
  ⟨rfl, rfl, rfl, by simp [World.setCell], fun k _ hs => Below.heap_setCell _ _ _ _ (fun e => hs (by have e' : k = g := e; exact e' ▸ hg))⟩
theorem Keeps.alloc {S : Nat → Prop} (w : World) (o : Obj) : Keeps S w (w.alloc o) := Keeps.of_below ((Below.refl _ _).alloc (Nat.le_refl _) o)
theorem Keeps.drew {S : Nat → Prop} (w : World) : Keeps S w w.drew := ⟨rfl, rfl, rfl, Nat.le_refl _, fun _ _ _ => rfl⟩
theorem Keeps.drewN {S : Nat → Prop} (w : World) (n : Nat) : Keeps S w (w.drewN n) := ⟨rfl, rfl, rfl, Nat.le_refl _, fun _ _ _ => rfl⟩
theorem below_drewN {B : Nat} {a w : World} (h : Below B a w) (n : Nat) : Below B a (w.drewN n) := h.trans ⟨rfl, rfl, rfl, Nat.le_refl _, fun _ _ => rfl⟩
theorem Keeps.setRow {S : Nat → Prop} (w : World) {g : Nat} (hg : S g) (cs : Array Value) : Keeps S w (w.setRow g cs) :=
  ⟨rfl, rfl, rfl, by simp [World.setRow], fun k _ hs => setRow_other w g k cs (fun e => hs (e ▸ hg))⟩
theorem Keeps.cell {S : Nat → Prop} {w w' : World} (h : Keeps S w w') {a : Addr} {v : Value} (hc : w.cell? a = some v) (hn : ¬ S a.block) : w'.cell? a = some v :=
  (World.cell?_of_block (h.block a.block (World.block_lt_of_cell? w a hc) hn)).trans hc
theorem Keeps.frozen {S : Nat → Prop} {w w' : World} (h : Keeps S w w') {a : Addr} (hl : a.block < w.heap.size) (hn : ¬ S a.block) : w'.frozen? a = w.frozen? a :=
  World.frozen?_of_block (h.block a.block hl hn)
theorem Keeps.bs {S : Nat → Prop} {w w' : World} (h : Keeps S w w') {v : Value} {l : List Nat} (hb : Bs w v l) (hv : ∀ b, v.ownBlock = some b → ¬ S b) : Bs w' v l := by
  obtain ⟨ao, cap, rfl, h1, h2, h3, h4⟩ := hb
  refine ⟨ao, cap, rfl, h1, h2, h3, fun hp => ?_⟩
  obtain ⟨b, off, rfl, hc⟩ := h4 hp
  exact ⟨b, off, rfl, fun i hi => h.cell (hc i hi) (hv b rfl)⟩
theorem Keeps.owns {S : Nat → Prop} {w w' : World} (h : Keeps S w w') {base : Nat} {e : TypeId} {size : Nat} {v : Value} {n : Nat} {xs : List Value} (ho : w.ownsRow base e size v n xs) (hv : ∀ b, v.ownBlock = some b → ¬ S b) :
    w'.ownsRow base e size v n xs := by
  refine ⟨ho.1, ?_⟩
  rcases ho.2 with hn | ⟨g, cap, cur, rfl, hb', hgg, rest⟩
  · exact .inl hn
  · refine .inr ⟨g, cap, cur, rfl, hb', ?_, rest⟩
    rw [h.block g (Array.getElem?_eq_some_iff.1 hgg).1 (hv g rfl)]
    exact hgg
theorem owns_lt' {w : World} {base : Nat} {e : TypeId} {size : Nat} {v : Value} {n : Nat} {xs : List Value} (h : w.ownsRow base e size v n xs) : ∀ k, v.ownBlock = some k → k < w.heap.size := fun k hk => (h.lt k hk).2

/-- The form of what a call owns. -/
theorem owns_form {w : World} {base : Nat} {e : TypeId} {size : Nat} {v : Value} {n : Nat} {xs : List Value} (h : w.ownsRow base e size v n xs) :
    ∃ ao cap, v = .slice ao n cap ∧ n ≤ cap ∧ (0 < n → ∃ g, ao = some ⟨g, 0, none⟩ ∧ base ≤ g) := by
  rcases h.2 with ⟨rfl, rfl⟩ | ⟨g, cap, cur, rfl, hb, hg, hnc, _⟩
  · exact ⟨_, _, rfl, Nat.le_refl _, by simp⟩
  · exact ⟨_, _, rfl, hnc, fun _ => ⟨g, rfl, hb⟩⟩

theorem owns_base {w : World} {base base' : Nat} {e : TypeId} {size : Nat} {v : Value} {n : Nat} {xs : List Value} (h : w.ownsRow base e size v n xs) (hB : base' ≤ base) : w.ownsRow base' e size v n xs := by
  refine ⟨h.1, ?_⟩
  rcases h.2 with hn | ⟨g, cap, cur, rfl, hb', rest⟩
  · exact .inl hn
  · exact .inr ⟨g, cap, cur, rfl, by omega, rest⟩

/-- Where the row of an append lies: where it lay, or in a new block. -/
def Kin (w : World) (v v' : Value) : Prop := v'.ownBlock = v.ownBlock ∨ v'.ownBlock = some w.heap.size

/-- append on an owned row, as one step of a region that draws. -/
theorem step_append_at {P : Program} {ops : Array Oper} {o : Oper} {a : Act} {w : World} {K : Act → World → Prop} {Q : Exit → Act → World → Prop} {E : Prop}
    (hgd : o.guard = none) (s x : Operand) (t : TypeId) (ho : o.op = .call { callee := .builtin .append, args := #[s, x], argTypes := #[t, t] })
    (base : Nat) (e : TypeId) (i : TypeInfo) (z : Value) (size bytes : Nat) (ht : P.underlying t = some (.slice e)) (hi : P.info? e = some i) (hz : i.zero = some z)
    (hsize : i.size = size) (hby : i.bytes = bytes) (hzs : z.cells.size = size) (hsz : 0 < size)
    (v : Value) (n : Nat) (xs : List Value) (hs : a.eval s = v) (hown : w.ownsRow base e size v n xs)
    (ad : Addr) (m c : Nat) (news : List Value) (hx : a.eval x = .slice (some ad) m c) (hl : news.length = m * size) (hnews : ∀ j u, news[j]? = some u → w.cell? (ad.add j) = some u) (h1 : ∀ u ∈ news, u.oneCell' = true)
    (h63 : n + m ≤ maxLen) (hbytes : (n + m) * bytes ≤ 140737488355328) (hbase : base ≤ w.heap.size)
    (h : ∀ v' w', w'.ownsRow base e size v' (n + m) (xs ++ news) → w.grownBy w' v.ownBlock → Kin w v v' → K (a.put o.dst v') w') :
    if Region.wanted o (yielded ops a.tmps) = true then Oper.wp P o a w K Q else E := by
  have hw : Region.wanted o (yielded ops a.tmps) = true := by simp [Region.wanted, hgd]
  rw [if_pos hw]
  obtain ⟨v', w', hr, h2, h3, h4, h5⟩ := run_append_own_at (P := P) w base t o.type e i z size bytes ht hi hz hsize hby hzs hsz v n xs hown ad m c news hl hnews h1 h63 hbytes hbase
  unfold Oper.wp
  simp [execOp, ho, resolve, invoke, builtin, hs, hx, hr, Result.andThen]
  exact h v' w' h2 h3 h5

/-- 'append(nil, b...)' as one step of a region that draws. -/
theorem step_append_bs {P : Program} {ops : Array Oper} {o : Oper} {a : Act} {w : World} {K : Act → World → Prop} {Q : Exit → Act → World → Prop} {E : Prop}
    (hgd : o.guard = none) (s x : Operand) (t : TypeId) (ho : o.op = .call { callee := .builtin .append, args := #[s, x], argTypes := #[t, t] })
    (base : Nat) (e : TypeId) (i : TypeInfo) (z : Value) (ht : P.underlying t = some (.slice e)) (hi : P.info? e = some i) (hz : i.zero = some z)
    (hsize : i.size = 1) (hby : i.bytes = 1) (hzs : z.cells.size = 1)
    (v : Value) (n : Nat) (xs : List Nat) (hs : a.eval s = v) (hown : w.ownsRow base e 1 v n (cellsB xs)) (vx : Value) (l : List Nat) (hx : a.eval x = vx) (hb : Bs w vx l)
    (h63 : n + l.length ≤ 140737488355328) (hbase : base ≤ w.heap.size)
    (h : ∀ v' w', w'.ownsRow base e 1 v' (n + l.length) (cellsB (xs ++ l)) → w.grownBy w' v.ownBlock → K (a.put o.dst v') w') :
    if Region.wanted o (yielded ops a.tmps) = true then Oper.wp P o a w K Q else E := by
  have hw : Region.wanted o (yielded ops a.tmps) = true := by simp [Region.wanted, hgd]
  have hb' := hb
  obtain ⟨ao, cap, rfl, hl, hn, hlt, hc⟩ := hb
  cases ao with
  | some ad =>
    refine step_append_at hgd s x t ho base e i z 1 1 ht hi hz hsize hby hzs (by decide) v n (cellsB xs) hs hown ad l.length cap (cellsB l) hx (by simp [cellsB_length]) (hb'.cells ad rfl) (cellsB_oneCell l) (by unfold maxLen; omega) (by omega) hbase ?_
    intro v' w' hown' hgrow _
    exact h v' w' (by rw [cellsB_append]; exact hown') hgrow
  | none =>
    obtain ⟨_, rfl, rfl⟩ := hb'.none
    rw [if_pos hw]
    have hrun := run_append_owned_none (P := P) (w := w) base t o.type e i 1 ht hi v n _ hown
    unfold Oper.wp
    simp [execOp, ho, resolve, invoke, builtin, hs, hx, hrun, Result.andThen]
    exact h v w (by simpa using hown) (World.grownBy.refl _ _)

/-- A row into whose midst cells are laid. -/
theorem owns_splice {w : World} {e : TypeId} {m n cap off : Nat} {xs cs : List Value} {cur : Array Value} (ho : w.ownsRow 0 e 1 (.slice (some ⟨m, 0, none⟩) n cap) n xs) (hm : w.heap[m]? = some (.cells cur e (0, 0))) (hf : off + cs.length ≤ n) :
    (w.setRow m (cur.toList.take off ++ (cs ++ cur.toList.drop (off + cs.length))).toArray).ownsRow 0 e 1 (.slice (some ⟨m, 0, none⟩) n cap) n (splice xs off cs) := by
  have hl := ho.1
  simp only [Nat.mul_one] at hl
  rcases ho.2 with ⟨h, _⟩ | ⟨g, cap', cur', hv, _, hg, hnc, hcm, hcs, htake⟩
  · cases h
  · injection hv with e1 e2 e3
    subst e3
    injection e1 with e1
    injection e1 with e1
    subst e1
    rw [hm] at hg
    injection hg with hg
    injection hg with hg
    subst hg
    simp only [Nat.mul_one] at hcs htake
    refine ⟨by rw [length_splice _ _ _ (by omega)]; simpa using hl, .inr ⟨m, cap, _, rfl, Nat.zero_le _, setRow_heap w m cur _ e _ hm, hnc, hcm, ?_, ?_⟩⟩
    · simp; omega
    · simp only [Nat.mul_one, splice, ← htake]
      have hx : off ≤ cur.toList.length := by simp; omega
      rw [List.take_take, Nat.min_eq_left (by omega), List.take_append, List.take_append, List.take_take, Nat.min_eq_right (by omega), List.take_of_length_le (l := cs) (by simp; omega), List.drop_take]
      congr 2
      · congr 1
        simp; omega

/-- 'copy' into the midst of an owned row of one-cell elements, as one step of a region that draws. -/
theorem step_copy_own {P : Program} {ops : Array Oper} {o : Oper} {a : Act} {w : World} {K : Act → World → Prop} {Q : Exit → Act → World → Prop} {E : Prop} (hgd : o.guard = none) (d s : Operand) (dT sT : TypeId)
    (ho : o.op = .call { callee := .builtin .copy, args := #[d, s], argTypes := #[dT, sT] }) (elem : TypeId) (hu : P.underlying dT = some (.slice elem)) (hsz : (P.info? elem).map (·.size) = some 1)
    (m off dLen dCap : Nat) (ad : Addr) (sLen sCap : Nat) (hd : a.eval d = .slice (some ⟨m, off, none⟩) dLen dCap) (hs : a.eval s = .slice (some ad) sLen sCap)
    (n cap : Nat) (xs : List Value) (hown : w.ownsRow 0 elem 1 (.slice (some ⟨m, 0, none⟩) n cap) n xs) (cs : List Value) (hn : cs.length = Nat.min sLen dLen)
    (hsrc : ∀ j v, cs[j]? = some v → w.cell? (ad.add j) = some v) (hfit : off + cs.length ≤ n) (h1 : ∀ v ∈ cs, v.oneCell' = true)
    (h : ∀ w', w'.ownsRow 0 elem 1 (.slice (some ⟨m, 0, none⟩) n cap) n (splice xs off cs) → Keeps (fun k => k = m) w w' → K (a.put o.dst (goInt cs.length)) w') :
    if Region.wanted o (yielded ops a.tmps) = true then Oper.wp P o a w K Q else E := by
  have hw : Region.wanted o (yielded ops a.tmps) = true := by simp [Region.wanted, hgd]
  rw [if_pos hw]
  have hown' := hown
  rcases hown.2 with ⟨hv, _⟩ | ⟨g, cap', cur, hv, _, hg, hnc, hcm, hcs, htake⟩
  · cases hv
  · injection hv with e1 e2 e3
    subst e3
    injection e1 with e1
    injection e1 with e1
    subst e1
    have hrun := run_copy_row (P := P) w dT sT o.type elem m off dLen dCap ad sLen sCap cur elem cs hu hsz hg hn hsrc (by omega) h1
    unfold Oper.wp
    simp [execOp, ho, resolve, invoke, builtin, hd, hs, hrun, Result.andThen]
    have r := h _ (owns_splice hown' hg hfit) (Keeps.setRow (S := fun k => k = m) w rfl _)
    exact r

/-- The same, outside a region that draws. -/
theorem wpList_copy_owns {P : Program} {ops : Array Oper} {rest : List Oper} {o : Oper} {a : Act} {w : World} {Q : Exit → Act → World → Prop} (hgd : o.guard = none) (d s : Operand) (dT sT : TypeId)
    (ho : o.op = .call { callee := .builtin .copy, args := #[d, s], argTypes := #[dT, sT] }) (elem : TypeId) (hu : P.underlying dT = some (.slice elem)) (hsz : (P.info? elem).map (·.size) = some 1)
    (m off dLen dCap : Nat) (ad : Addr) (sLen sCap : Nat) (hd : a.eval d = .slice (some ⟨m, off, none⟩) dLen dCap) (hs : a.eval s = .slice (some ad) sLen sCap)
    (n cap : Nat) (xs : List Value) (hown : w.ownsRow 0 elem 1 (.slice (some ⟨m, 0, none⟩) n cap) n xs) (cs : List Value) (hn : cs.length = Nat.min sLen dLen)
    (hsrc : ∀ j v, cs[j]? = some v → w.cell? (ad.add j) = some v) (hfit : off + cs.length ≤ n) (h1 : ∀ v ∈ cs, v.oneCell' = true)
    (h : ∀ w', w'.ownsRow 0 elem 1 (.slice (some ⟨m, 0, none⟩) n cap) n (splice xs off cs) → Keeps (fun k => k = m) w w' → wpList P ops Q rest (a.put o.dst (goInt cs.length)) w') :
    wpList P ops Q (o :: rest) a w := by
  have hown' := hown
  rcases hown.2 with ⟨hv, _⟩ | ⟨g, cap', cur, hv, _, hg, hnc, hcm, hcs, htake⟩
  · cases hv
  · injection hv with e1 e2 e3
    subst e3
    injection e1 with e1
    injection e1 with e1
    subst e1
    refine wpList_copy_own hgd d s dT sT ho elem hu hsz m off dLen dCap ad sLen sCap hd hs cur elem hg cs hn hsrc (by omega) h1 ?_
    exact h _ (owns_splice hown' hg hfit) (Keeps.setRow (S := fun k => k = m) w rfl _)

theorem Keeps.set {S : Nat → Prop} {a w : World} (h : Keeps S a w) {g o : Nat} (hg : S g) (v : Value) : Keeps S a (w.setCell ⟨g, o, none⟩ v) := h.trans (Keeps.setCell w hg v)

theorem made_zeros (n : Nat) : (madeCells (Value.int .u8 0).cells (n * 1)).toList = cellsB (List.replicate n 0) := by
  apply List.ext_getElem
  · simp [cellsB, madeCells]
  · intro i h1 h2
    simp [cellsB, madeCells, Value.cells, Nat.mod_one]

end Go.Attic

namespace Go.Proofs.YtjhbljkoapbkfaaGreat
open Go.RowKit Go.Attic

theorem NewBs.bs {w w' : World} {v : Value} {l : List Nat} (h : w'.ownsRow w.heap.size 5 1 v l.length (cellsB l)) (hx : ∀ x ∈ l, x < 256) : Bs w' v l := Bs.of_owns h hx

/-- A slice that is laid as it is written. -/
theorem Bs.lit (w : World) (e : TypeId) (l : List Nat) (cs : Array Value) (hcs : cs.toList = cellsB l) (hx : ∀ x ∈ l, x < 256) (m : Nat × Nat := (0, 0)) :
    Bs (w.alloc (.cells cs e m)) (.slice (some ⟨w.heap.size, 0, none⟩) l.length l.length) l := by
  refine ⟨_, _, rfl, Nat.le_refl _, by simp, hx, fun _ => ⟨w.heap.size, 0, rfl, fun i hi => ?_⟩⟩
  have h2 : cs[i]? = some (.int .u8 ((l.getD i 0 : Nat) : Int)) := by
    rw [← Array.getElem?_toList, hcs]
    simp [cellsB, List.getD, hi]
  rw [Nat.zero_add]
  simp only [World.cell?, World.alloc, Array.getElem?_push, if_true]
  exact h2

/-- The same, one block further on, as the walk spells it. -/
theorem Bs.lit2 (w : World) (o : Obj) (e : TypeId) (l : List Nat) (cs : Array Value) (n : Nat) (hn : n = l.length) (hcs : cs.toList = cellsB l) (hx : ∀ x ∈ l, x < 256) (m : Nat × Nat) :
    Bs ((w.alloc o).alloc (.cells cs e m)) (.slice (some ⟨w.heap.size + 1, 0, none⟩) n n) l := by
  have := Bs.lit (w.alloc o) e l cs hcs hx m
  subst hn
  simpa using this


set_option maxRecDepth 100000 in
set_option maxHeartbeats 400000 in
theorem clone_any (v : Value) (l : List Nat) (w : World) (h : Bs w v l) (hlen : l.length ≤ 140737488355328) :
    Calls Tryz.prog 75 #[v] w (NewBs w l) := by
  obtain ⟨i0, hi, hz0, hz1, hz2⟩ := info_parts Tryz.info5
  have h' := h
  obtain ⟨ao, cap, rfl, hl, hnn, hx, hc⟩ := h
  cases ao with
  | none =>
    obtain ⟨h1, rfl, rfl⟩ := h'.none
    have hnil : ∀ w, (binOp .eql 30 (.slice none 0 0) (.slice none 0 0)).run Tryz.prog w = .ok (.bool true) w := fun w => Lib.run_eql_slice_nil (P := Tryz.prog) w 30 5 none 0 0 0 0 Tryz.underlying30
    clear hc hnn h'
    simp only [List.length_nil]
    go_enter Tryz.func75, Tryz.ntmps75
    go_wp2
    go_ret
    exact ⟨_, rfl, World.ownsRow_nil _ _ _ _, Below.refl _ _⟩
  | some ad =>
    have hnil := fun w => Lib.run_eql_slice_nil (P := Tryz.prog) w 30 5 (some ad) l.length cap 0 0 Tryz.underlying30
    clear hc
    go_enter Tryz.func75, Tryz.ntmps75
    go_wp2_with (at_builtin; refine wpList_append_bs _ rfl (.tmp 5) (.tmp 6) 30 rfl w.heap.size 5 i0 (.int .u8 0) Tryz.underlying30 hi hz0 hz1 hz2 rfl _ 0 [] rfl (World.ownsRow_lit w #[] 0 (Nat.le_refl _) (by simp) (by simp)) _ l rfl (h'.alloc _) (by omega) (by simp) ?_; intro v' w1 hown hgrow)
    have hb : Below w.heap.size w w1 := ((Below.refl _ _).alloc (Nat.le_refl _) _).grown hgrow (by simp) (by intro k hk; have e : some w.heap.size = some k := hk; injection e with e; omega)
    rw [Nat.zero_add, List.nil_append] at hown
    go_ret
    exact ⟨_, rfl, hown, hb⟩


/-- What a call owns stays its own where nothing that was there turns. -/
theorem owns_below {w w' : World} {B base : Nat} {e : TypeId} {size : Nat} {v : Value} {n : Nat} {xs : List Value} (h : w.ownsRow base e size v n xs) (hb : Below B w w') (hB : w.heap.size ≤ B) : w'.ownsRow base e size v n xs := by
  refine ⟨h.1, ?_⟩
  rcases h.2 with hn | ⟨g, cap, cur, rfl, hb', hgg, rest⟩
  · exact .inl hn
  · refine .inr ⟨g, cap, cur, rfl, hb', ?_, rest⟩
    rw [hb.block g (by have := (Array.getElem?_eq_some_iff.1 hgg).1; omega)]
    exact hgg

theorem num4 (v : Nat) : numL 4 v = numN 4 v := by simp [numL, widthB]

/-- A new slice and an error. -/
def NewBsE (w : World) (l : List Nat) (x : Int) (e : Ending) (w' : World) : Prop :=
  ∃ v, e = .returned (.tuple #[v, .int .i64 x]) ∧ w'.ownsRow w.heap.size 5 1 v l.length (cellsB l) ∧ Below w.heap.size w w'

/-- Bytes with their sum. -/
def sealN (l : List Nat) : List Nat := l ++ numN 4 (sumN l)
theorem sealN_lt {l : List Nat} (h : ∀ x ∈ l, x < 256) : ∀ x ∈ sealN l, x < 256 := by
  intro x hx
  rcases List.mem_append.1 hx with hx | hx
  · exact h x hx
  · exact numN_lt _ _ x hx
theorem sealN_length (l : List Nat) : (sealN l).length = l.length + 4 := by simp [sealN, numN_length]

theorem Tryz.cells30 : Tryz.prog.cellsOf 30 = 1 := by kernel_rfl

set_option maxRecDepth 100000 in
set_option maxHeartbeats 400000 in
theorem grow_nil (n : Nat) (w : World) (h0 : 0 < n) (hn : n ≤ 140737488355328) :
    Calls Tryz.prog 102 #[.slice none 0 0, .int .i64 n] w (NewBs w []) := by
  obtain ⟨i0, hi, hz0, hz1, hz2⟩ := info_parts Tryz.info5
  have hr := fun (w : World) => Lib.run_append_nil_zeros (P := Tryz.prog) w 30 3 30 5 i0 (.int .u8 0) .i64 .i64 Tryz.underlying30 Tryz.underlying3 hi hz0 n h0 (by omega) (by omega) (by rw [hz2]; omega)
  go_enter Tryz.func102, Tryz.ntmps102
  go_wp2_with (at_builtin; refine Lib.wpList_append_run _ rfl (.tmp 20) (.tmp 21) 30 3 rfl _ _ rfl rfl _ _ (hr _) ?_)
  go_ret
  have hcap := grownCap_ge w n 0 5
  refine ⟨_, rfl, ?_, ((Below.refl _ _).alloc (Nat.le_refl _) _).drew⟩
  exact (World.ownsRow_made w _ (grownCap w n 0 5) (Nat.le_refl _) (grownCap_le_maxLen w n 0 5 (by unfold maxLen; omega)) (by simp [size_zeroCells]; omega)).drew

/-- A slice of slices of bytes. -/
def Bss (w : World) (v : Value) (ls : List (List Nat)) : Prop :=
  ∃ b off cap, v = .slice (some ⟨b, off, none⟩) ls.length cap ∧ ∀ i, i < ls.length → ∃ u, w.cell? ⟨b, off + i, none⟩ = some u ∧ Bs w u (ls.getD i [])

theorem flat_len (ls : List (List Nat)) (k : Nat) (hk : k < ls.length) : (ls.take (k + 1)).flatten = (ls.take k).flatten ++ ls.getD k [] := by
  rw [List.take_succ_eq_append_getElem hk, List.flatten_append]
  simp [List.getD, hk]
theorem flat_le (ls : List (List Nat)) (k : Nat) : (ls.take k).flatten.length ≤ ls.flatten.length := by
  conv => rhs; rw [← List.take_append_drop k ls, List.flatten_append, List.length_append]
  omega

set_option maxRecDepth 100000 in
set_option maxHeartbeats 400000 in
theorem concat_any (v : Value) (ls : List (List Nat)) (w : World) (h : Bss w v ls) (hn : ls.length ≤ 140737488355328) (h0 : 0 < ls.flatten.length) (hlen : ls.flatten.length ≤ 140737488355328) :
    Calls Tryz.prog 95 #[v] w (NewBs w ls.flatten) := by
  obtain ⟨i0, hi, hz0, hz1, hz2⟩ := info_parts Tryz.info5
  obtain ⟨b, off, cap, rfl, hcell⟩ := h
  go_enter Tryz.func95, Tryz.ntmps95
  go_wp2
  go_loop [3, 11] (fun s i => ∃ k : Nat, k ≤ ls.length ∧ i = .int .i64 k ∧ s = .int .i64 ((ls.take k).flatten.length : Nat)) (fun _ i => ls.length - (intOf i).toNat)
  case atStart => exact ⟨0, Nat.zero_le _, rfl, rfl⟩
  case round =>
    obtain ⟨k, hk, rfl, rfl⟩ := hrel
    have hfl := flat_le ls k
    by_cases hkn : k < ls.length
    · obtain ⟨u, hcu, hbu⟩ := hcell k hkn
      have hfk := flat_len ls k hkn
      have hfl2 := flat_le ls (k + 1)
      rw [hfk, List.length_append] at hfl2
      generalize ls.getD k [] = lk at *
      obtain ⟨ao, cp, rfl, hcp, _⟩ := hbu
      have Hfk := hide hfk
      clear hfk hcell
      generalize (ls.take k).flatten = fk at *
      go_wp2_with fail
      go_round
      case rel => exact ⟨k + 1, by omega, by go_num, by rw [Hfk.out, List.length_append]; go_num⟩
      case measure => simp [intOf]; omega
    · obtain rfl : k = ls.length := by omega
      rw [List.take_length]
      generalize hN : ls.flatten.length = N at *
      have HN := hide hN
      clear hN hfl
      go_wp2_with fail
      refine (grow_nil N _ h0 hlen).mono ?_
      rintro e w1 ⟨v1, rfl, hown1, hb1⟩
      have Hcell := hide hcell
      clear hcell
      go_wp2_with fail
      go_loopw [6, 27] (fun v i wr => ∃ k : Nat, k ≤ ls.length ∧ i = .int .i64 k ∧ wr.ownsRow w.heap.size 5 1 v (ls.take k).flatten.length (cellsB (ls.take k).flatten) ∧ Below w.heap.size w wr) (fun _ i _ => ls.length - (intOf i).toNat)
      case atStart => exact ⟨0, Nat.zero_le _, rfl, hown1, hb1⟩
      case round =>
        obtain ⟨k, hk, rfl, hown, hb⟩ := hrel
        clear hown1 hb1
        by_cases hkn : k < ls.length
        · obtain ⟨u, hcu, hbu⟩ := Hcell.out k hkn
          have hcu2 : wr.cell? ⟨b, off + k, none⟩ = some u := by
            rw [hb.cell (p := ⟨b, off + k, none⟩) (by have := World.block_lt_of_cell? w _ hcu; simpa using this)]; exact hcu
          have hbu2 := hbu.below hb (Nat.le_refl _)
          have hfk := flat_len ls k hkn
          have hfl2 := flat_le ls (k + 1)
          rw [HN.out] at hfl2
          rw [hfk, List.length_append] at hfl2
          generalize ls.getD k [] = lk at *
          have Hfk := hide hfk
          clear hfk hcu hbu
          generalize (ls.take k).flatten = fk at *
          go_wp2_with (at_builtin; go_loud (refine wpList_append_bs _ rfl (.tmp 31) (.tmp 32) 30 rfl w.heap.size 5 i0 (.int .u8 0) Tryz.underlying30 hi hz0 hz1 hz2 rfl _ _ fk rfl hown _ lk rfl hbu2 (by omega) hb.size ?_); intro v4 w4 hown4 hgrow4)
          have hb4 : Below w.heap.size w w4 := hb.grown hgrow4 hb.size (owns_lt hown)
          clear hgrow4 hown hb
          go_wp2_with fail
          go_roundw
          case rel => exact ⟨k + 1, by omega, by go_num, by rw [Hfk.out, List.length_append]; exact hown4, hb4⟩
          case measure => simp [intOf]; omega
        · obtain rfl : k = ls.length := by omega
          rw [List.take_length] at hown
          go_wp2
          go_ret
          exact ⟨_, rfl, hown, hb⟩

theorem Bss.two {w : World} {v1 v2 : Value} {l1 l2 : List Nat} (e : TypeId) (h1 : Bs w v1 l1) (h2 : Bs w v2 l2) : Bss (w.alloc (.cells #[v1, v2] e)) (.slice (some ⟨w.heap.size, 0, none⟩) 2 2) [l1, l2] := by
  refine ⟨w.heap.size, 0, 2, rfl, fun i hi => ?_⟩
  match i, hi with
  | 0, _ => exact ⟨v1, by simp, h1.alloc _⟩
  | 1, _ => exact ⟨v2, by simp, h2.alloc _⟩

set_option maxRecDepth 100000 in
set_option maxHeartbeats 400000 in
theorem seal_any (v : Value) (l : List Nat) (w : World) (h : Bs w v l) (hlen : l.length + 4 ≤ 140737488355328) :
    Calls Tryz.prog 88 #[v] w (NewBs w (sealN l)) := by
  have hs := sumN_lt l
  go_enter Tryz.func88, Tryz.ntmps88
  go_wp2_with fail
  refine (sum_any _ l _ h (by omega)).mono ?_
  rintro e w2 ⟨rfl, rfl⟩
  go_wp2_with fail
  have h4 := num_any 4 (sumN l) w (by omega)
  rw [num4] at h4
  refine h4.mono ?_
  rintro e w2 ⟨v2, rfl, hown2, hb2⟩
  clear h4
  have hbs2 := Bs.of_owns hown2 (numN_lt _ _)
  have hbs := h.mono hb2
  obtain ⟨ao2, cap2, rfl, _, _⟩ := owns_form hown2
  obtain ⟨ao1, cap1, rfl, _⟩ := h
  clear hown2
  go_wp2_with fail
  refine (concat_any _ [l, numN 4 (sumN l)] _ (Bss.two _ hbs hbs2) (by simp) (by simp [numN_length]) (by simp [numN_length]; omega)).mono ?_
  rintro e w3 ⟨v3, rfl, hown3, hb3⟩
  go_wp2
  go_ret
  have hz := hb2.size
  have hz3 := hb3.size
  simp at hz3
  refine ⟨v3, rfl, ?_, (hb2.alloc hz _).trans (hb3.mono (by simp; omega))⟩
  have e : [l, numN 4 (sumN l)].flatten = sealN l := by simp [sealN]
  rw [e] at hown3
  exact owns_base hown3 (by simp; omega)


end Go.Proofs.YtjhbljkoapbkfaaGreat

namespace Go.Proofs.YtjhbljkoapbkfaaGreat
open Go.RowKit Go.Attic

/-- A record's cells in a block. -/
structure RecAt (w : World) (g : Nat) (k b o : Int) (v : Value) (m : Int) : Prop where
  c0 : (w.cell? ⟨g, 0, none⟩ = some (.int .i64 k))
  c1 : (w.cell? ⟨g, 1, none⟩ = some (.int .i64 b))
  c2 : (w.cell? ⟨g, 2, none⟩ = some (.int .i64 o))
  c3 : (w.cell? ⟨g, 3, none⟩ = some v)
  c4 : (w.cell? ⟨g, 4, none⟩ = some (.int .i64 m))
  f0 : (w.frozen? ⟨g, 0, none⟩ = false)
  f1 : (w.frozen? ⟨g, 1, none⟩ = false)
  f2 : (w.frozen? ⟨g, 2, none⟩ = false)
  f3 : (w.frozen? ⟨g, 3, none⟩ = false)
  f4 : (w.frozen? ⟨g, 4, none⟩ = false)
  lt : g < w.heap.size

theorem RecAt.new (w : World) (k b o : Int) (v : Value) (m : Int) : RecAt (w.alloc (.cells #[.int .i64 k, .int .i64 b, .int .i64 o, v, .int .i64 m] 52)) w.heap.size k b o v m := by
  constructor <;> simp

theorem RecAt.keeps {S : Nat → Prop} {w w' : World} {g : Nat} {k b o : Int} {v : Value} {m : Int} (h : RecAt w g k b o v m) (hk : Keeps S w w') (hg : ¬ S g) : RecAt w' g k b o v m := by
  refine ⟨hk.cell h.c0 hg, hk.cell h.c1 hg, hk.cell h.c2 hg, hk.cell h.c3 hg, hk.cell h.c4 hg, ?_, ?_, ?_, ?_, ?_, Nat.lt_of_lt_of_le h.lt hk.size⟩
  · rw [hk.frozen (a := ⟨g, 0, none⟩) h.lt hg]; exact h.f0
  · rw [hk.frozen (a := ⟨g, 1, none⟩) h.lt hg]; exact h.f1
  · rw [hk.frozen (a := ⟨g, 2, none⟩) h.lt hg]; exact h.f2
  · rw [hk.frozen (a := ⟨g, 3, none⟩) h.lt hg]; exact h.f3
  · rw [hk.frozen (a := ⟨g, 4, none⟩) h.lt hg]; exact h.f4

theorem RecAt.mono {w w' : World} {g : Nat} {k b o : Int} {v : Value} {m : Int} (h : RecAt w g k b o v m) (hb : Below w.heap.size w w') : RecAt w' g k b o v m :=
  h.keeps (S := fun _ => False) (Keeps.of_below hb) id
theorem RecAt.alloc {w : World} {g : Nat} {k b o : Int} {v : Value} {m : Int} (h : RecAt w g k b o v m) (x : Obj) : RecAt (w.alloc x) g k b o v m := h.mono ((Below.refl _ _).alloc (Nat.le_refl _) x)

def placeB (p : Int) : Bool := decide (0 ≤ p ∧ p ≤ 2305843009213693952)

set_option maxHeartbeats 400000 in
theorem isPlace_any (p : Int) (w : World) : Calls Tryz.prog 86 #[.int .i64 p] w fun e w' => e = .returned (.bool (placeB p)) ∧ w = w' := by
  by_cases h1 : 0 ≤ p
  · by_cases h2 : p ≤ 2305843009213693952
    · rw [show placeB p = true by simp [placeB, h1, h2]]
      go_enter Tryz.func86, Tryz.ntmps86
      go_wp2_with fail
      go_ret
      exact ⟨by simp, rfl⟩
    · rw [show placeB p = false by simp [placeB]; omega]
      go_enter Tryz.func86, Tryz.ntmps86
      go_wp2_with fail
      go_ret
      exact ⟨by simp, rfl⟩
  · rw [show placeB p = false by simp [placeB]; omega]
    go_enter Tryz.func86, Tryz.ntmps86
    go_wp2_with fail
    go_ret
    exact ⟨by simp, rfl⟩

/-- Which records may be. -/
def okP (k b o m : Int) (n : Nat) : Prop := k = 1 ∧ 0 ≤ b ∧ b < 2048 ∧ 1 ≤ n ∧ n ≤ 44 ∧ 0 ≤ o ∧ o ≤ 256 - (n : Int) ∧ m = 0
def okC (k b o m : Int) (n : Nat) : Prop := k = 2 ∧ 0 ≤ m ∧ m ≤ 65536 ∧ b = 0 ∧ o = 0 ∧ n = 0
theorem okP_dec (k b o m : Int) (n : Nat) : okP k b o m n ∨ ¬ okP k b o m n := Classical.em _
def okR (k b o m : Int) (n : Nat) : Prop := okP k b o m n ∨ okC k b o m n
def chkR (k b o m : Int) (n : Nat) : Int := if (k = 1 ∧ 0 ≤ b ∧ b < 2048 ∧ 1 ≤ n ∧ n ≤ 44 ∧ 0 ≤ o ∧ o ≤ 256 - (n : Int) ∧ m = 0) ∨ (k = 2 ∧ 0 ≤ m ∧ m ≤ 65536 ∧ b = 0 ∧ o = 0 ∧ n = 0) then 0 else 60
theorem chkR_ok {k b o m : Int} {n : Nat} (h : okR k b o m n) : chkR k b o m n = 0 := if_pos h
theorem chkR_no {k b o m : Int} {n : Nat} (h : ¬ okR k b o m n) : chkR k b o m n = 60 := if_neg h
theorem chkR_zero {k b o m : Int} {n : Nat} (h : chkR k b o m n = 0) : okR k b o m n := by
  by_cases h1 : okR k b o m n
  · exact h1
  · rw [chkR_no h1] at h; omega

set_option maxRecDepth 100000 in
set_option maxHeartbeats 400000 in
theorem isPatch_yes (k b o m : Int) (n cap : Nat) (ao : Option Addr) (w : World) (hn : n ≤ 140737488355328) (h : okP k b o m n) :
    Calls Tryz.prog 71 #[.agg #[.int .i64 k, .int .i64 b, .int .i64 o, .slice ao n cap, .int .i64 m]] w fun e w' => e = .returned (.bool true) ∧ Below w.heap.size w w' := by
  obtain ⟨rfl, h1, h2, h3, h4, h5, h6, rfl⟩ := h
  go_enter Tryz.func71, Tryz.ntmps71
  go_wp2_with fail
  go_ret
  exact ⟨by simp <;> omega, (Below.refl _ w).alloc (Nat.le_refl _) _⟩

set_option maxRecDepth 100000 in
set_option maxHeartbeats 400000 in
theorem isPatch_no (k b o m : Int) (n cap : Nat) (ao : Option Addr) (w : World) (hn : n ≤ 140737488355328) (h : ¬ okP k b o m n) :
    Calls Tryz.prog 71 #[.agg #[.int .i64 k, .int .i64 b, .int .i64 o, .slice ao n cap, .int .i64 m]] w fun e w' => e = .returned (.bool false) ∧ Below w.heap.size w w' := by
  unfold okP at h
  by_cases h0 : k = 1
  case neg =>
    clear h
    have hq : (k == 1) = false := by simp [h0]
    go_enter Tryz.func71, Tryz.ntmps71
    go_wp2_with fail
    go_ret
    exact ⟨by simp <;> omega, (Below.refl _ w).alloc (Nat.le_refl _) _⟩
  subst h0
  by_cases h1 : 0 ≤ b
  case neg =>
    clear h
    have hq : b < 0 := by omega
    clear h1
    go_enter Tryz.func71, Tryz.ntmps71
    go_wp2_with fail
    go_ret
    exact ⟨by simp <;> omega, (Below.refl _ w).alloc (Nat.le_refl _) _⟩
  by_cases h2 : b < 2048
  case neg =>
    clear h
    have hq : 2048 ≤ b := by omega
    clear h2
    go_enter Tryz.func71, Tryz.ntmps71
    go_wp2_with fail
    go_ret
    exact ⟨by simp <;> omega, (Below.refl _ w).alloc (Nat.le_refl _) _⟩
  by_cases h3 : 1 ≤ n
  case neg =>
    clear h
    have hq : n < 1 := by omega
    clear h3
    go_enter Tryz.func71, Tryz.ntmps71
    go_wp2_with fail
    go_ret
    exact ⟨by simp <;> omega, (Below.refl _ w).alloc (Nat.le_refl _) _⟩
  by_cases h4 : n ≤ 44
  case neg =>
    clear h
    have hq : 44 < n := by omega
    clear h4
    go_enter Tryz.func71, Tryz.ntmps71
    go_wp2_with fail
    go_ret
    exact ⟨by simp <;> omega, (Below.refl _ w).alloc (Nat.le_refl _) _⟩
  by_cases h5 : 0 ≤ o
  case neg =>
    clear h
    have hq : o < 0 := by omega
    clear h5
    go_enter Tryz.func71, Tryz.ntmps71
    go_wp2_with fail
    go_ret
    exact ⟨by simp <;> omega, (Below.refl _ w).alloc (Nat.le_refl _) _⟩
  by_cases h6 : o ≤ 256 - (n : Int)
  case neg =>
    clear h
    have hq : 256 - (n : Int) < o := by omega
    clear h6
    go_enter Tryz.func71, Tryz.ntmps71
    go_wp2_with fail
    go_ret
    exact ⟨by simp <;> omega, (Below.refl _ w).alloc (Nat.le_refl _) _⟩
  by_cases h7 : m = 0
  case neg =>
    clear h
    have hq : (m == 0) = false := by simp [h7]
    go_enter Tryz.func71, Tryz.ntmps71
    go_wp2_with fail
    go_ret
    exact ⟨by simp <;> omega, (Below.refl _ w).alloc (Nat.le_refl _) _⟩
  subst h7
  exact absurd ⟨rfl, h1, h2, h3, h4, h5, h6, rfl⟩ h

set_option maxRecDepth 100000 in
set_option maxHeartbeats 400000 in
theorem isCommit_yes (k b o m : Int) (n cap : Nat) (ao : Option Addr) (w : World) (hn : n ≤ 140737488355328) (h : okC k b o m n) :
    Calls Tryz.prog 72 #[.agg #[.int .i64 k, .int .i64 b, .int .i64 o, .slice ao n cap, .int .i64 m]] w fun e w' => e = .returned (.bool true) ∧ Below w.heap.size w w' := by
  obtain ⟨rfl, h1, h2, rfl, rfl, rfl⟩ := h
  go_enter Tryz.func72, Tryz.ntmps72
  go_wp2_with fail
  go_ret
  exact ⟨by simp <;> omega, (Below.refl _ w).alloc (Nat.le_refl _) _⟩

set_option maxRecDepth 100000 in
set_option maxHeartbeats 400000 in
theorem isCommit_no (k b o m : Int) (n cap : Nat) (ao : Option Addr) (w : World) (hn : n ≤ 140737488355328) (h : ¬ okC k b o m n) :
    Calls Tryz.prog 72 #[.agg #[.int .i64 k, .int .i64 b, .int .i64 o, .slice ao n cap, .int .i64 m]] w fun e w' => e = .returned (.bool false) ∧ Below w.heap.size w w' := by
  unfold okC at h
  by_cases h0 : k = 2
  case neg =>
    clear h
    have hq : (k == 2) = false := by simp [h0]
    go_enter Tryz.func72, Tryz.ntmps72
    go_wp2_with fail
    go_ret
    exact ⟨by simp <;> omega, (Below.refl _ w).alloc (Nat.le_refl _) _⟩
  subst h0
  by_cases h1 : 0 ≤ m
  case neg =>
    clear h
    have hq : m < 0 := by omega
    clear h1
    go_enter Tryz.func72, Tryz.ntmps72
    go_wp2_with fail
    go_ret
    exact ⟨by simp <;> omega, (Below.refl _ w).alloc (Nat.le_refl _) _⟩
  by_cases h2 : m ≤ 65536
  case neg =>
    clear h
    have hq : 65536 < m := by omega
    clear h2
    go_enter Tryz.func72, Tryz.ntmps72
    go_wp2_with fail
    go_ret
    exact ⟨by simp <;> omega, (Below.refl _ w).alloc (Nat.le_refl _) _⟩
  by_cases h3 : b = 0
  case neg =>
    clear h
    have hq : (b == 0) = false := by simp [h3]
    go_enter Tryz.func72, Tryz.ntmps72
    go_wp2_with fail
    go_ret
    exact ⟨by simp <;> omega, (Below.refl _ w).alloc (Nat.le_refl _) _⟩
  subst h3
  by_cases h4 : o = 0
  case neg =>
    clear h
    have hq : (o == 0) = false := by simp [h4]
    go_enter Tryz.func72, Tryz.ntmps72
    go_wp2_with fail
    go_ret
    exact ⟨by simp <;> omega, (Below.refl _ w).alloc (Nat.le_refl _) _⟩
  subst h4
  by_cases h5 : n = 0
  case neg =>
    clear h
    have hq : 0 < n := by omega
    clear h5
    go_enter Tryz.func72, Tryz.ntmps72
    go_wp2_with fail
    go_ret
    exact ⟨by simp <;> omega, (Below.refl _ w).alloc (Nat.le_refl _) _⟩
  exact absurd ⟨rfl, h1, h2, rfl, rfl, h5⟩ h



end Go.Proofs.YtjhbljkoapbkfaaGreat
